/-
  More numbers of chapter 16: what a frame tells of each band. No program here.
-/
import Derived.Test.YtjnmogmagngenaiDoorFrameFacts
namespace Go.Proofs.YtjnmogmagngenaiDoor.Frm
open Go.Proofs.YtjnmogmagngenaiDoor.Tre Go.Proofs.YtjnmogmagngenaiDoor.Bnd Go.Proofs.YtjnmogmagngenaiDoor.Pls Go.Proofs.YtjnmogmagngenaiDoor.Gai Go.Proofs.YtjnmogmagngenaiDoor.Shr
set_option linter.unusedVariables false

/-- How loud told pulses are. -/
def qs (v k : Nat) : List Int → Nat
  | [] => 0
  | x :: l => x.natAbs * v / k + qs v k l
theorem qs_append (v k : Nat) (l m : List Int) : qs v k (l ++ m) = qs v k l + qs v k m := by
  induction l with
  | nil => simp [qs]
  | cons x l ih => rw [List.cons_append, qs, qs, ih]; omega
theorem qs_take {v k : Nat} {l : List Int} {j : Nat} (h : j < l.length) : qs v k (l.take (j + 1)) = qs v k (l.take j) + (at0 l j).natAbs * v / k := by
  have e : at0 l j = l[j] := by simp [at0, h]
  rw [List.take_succ_eq_append_getElem h, qs_append, e]
  simp [qs]
theorem qs_up (v k : Nat) (l : List Int) : k * qs v k l ≤ v * loud l := by
  induction l with
  | nil => simp [qs]
  | cons x l ih =>
    have h := Nat.div_mul_le_self (x.natAbs * v) k
    rw [qs, loud, Nat.mul_add, Nat.mul_add, Nat.mul_comm k, Nat.mul_comm v x.natAbs]
    omega
theorem qs_lo {v k : Nat} (hk : 0 < k) (l : List Int) : v * loud l + l.length ≤ k * qs v k l + l.length * k := by
  induction l with
  | nil => simp [qs, loud]
  | cons x l ih =>
    have h := Nat.div_add_mod (x.natAbs * v) k
    have h2 := Nat.mod_lt (x.natAbs * v) hk
    rw [qs, loud, Nat.mul_add, Nat.mul_add, List.length_cons, Nat.add_mul, Nat.mul_comm v x.natAbs]
    omega
/-- No louder than the gain, nor by its pulses softer. -/
theorem qs_bound {v : Nat} {l : List Int} (hk : 0 < loud l) : qs v (loud l) l ≤ v ∧ v + 1 ≤ qs v (loud l) l + l.length := by
  have h1 := qs_up v (loud l) l
  have h2 := qs_lo (v := v) hk l
  refine ⟨Nat.le_of_mul_le_mul_left (by rw [Nat.mul_comm (loud l) v]; exact h1) hk, ?_⟩
  have hl : 0 < l.length := by
    cases l with
    | nil => simp [loud] at hk
    | cons x l => simp
  apply Decidable.byContradiction
  intro hn
  have h3 : qs v (loud l) l + l.length ≤ v := by omega
  have h4 : loud l * (qs v (loud l) l + l.length) ≤ loud l * v := Nat.mul_le_mul_left _ h3
  rw [Nat.mul_add, Nat.mul_comm (loud l) l.length, Nat.mul_comm (loud l) v] at h4
  omega
theorem qs_none (v : Nat) (l : List Int) : qs v 0 l = 0 := by
  induction l with
  | nil => rfl
  | cons x l ih => rw [qs, ih]; simp
theorem tl_abs (v k : Nat) (x : Int) : (tl (v : Int) (k : Int) x).natAbs = x.natAbs * v / k := by
  have e : ((x.natAbs : Int) * (v : Int) / (k : Int)) = ((x.natAbs * v / k : Nat) : Int) := by rw [Int.natCast_ediv, Int.natCast_mul]
  unfold tl
  rw [e, Int.natAbs_mul, Int.natAbs_natCast]
  rcases Int.lt_trichotomy x 0 with h | h | h
  · rw [Int.sign_eq_neg_one_of_neg h]; simp
  · subst h; simp
  · rw [Int.sign_eq_one_of_pos h]; simp
/-- Where a band's numbers are told. -/
theorem all_at {s : List Int} {B : Int} {ps : List Prt} (h : Right s B ps) {i j : Nat} (hi : i < ps.length) (hj : j < (prt ps i).2.length) :
    at0 (all ps) (pre s i + j) = tl (vl (prt ps i).1.toNat) (loud (prt ps i).2) (at0 (prt ps i).2 j) := by
  have e : ps = ps.take i ++ prt ps i :: ps.drop (i + 1) := by
    conv => lhs; rw [← List.take_append_drop i ps]
    rw [List.drop_eq_getElem_cons hi, prt_get hi]
  have e2 : all ps = all (ps.take i) ++ (told (prt ps i) ++ all (ps.drop (i + 1))) := by
    conv => lhs; rw [e]
    unfold all
    rw [List.map_append, List.map_cons, List.flatten_append, List.flatten_cons]
  have e3 : (all (ps.take i)).length = pre s i := by rw [all_length]; exact long_pre h.len h.fit i (by omega)
  have e4 : at0 (prt ps i).2 j = (prt ps i).2[j] := by simp [at0, hj]
  unfold at0
  rw [e2, List.getElem?_append_right (by omega), e3, Nat.add_sub_cancel_left, List.getElem?_append_left (by rw [told_length]; exact hj)]
  unfold told
  rw [List.getElem?_map, List.getElem?_eq_getElem hj, ← e4]
  rfl
theorem all_abs {s : List Int} {B : Int} {ps : List Prt} (h : Right s B ps) {i j : Nat} (hi : i < ps.length) (hj : j < (prt ps i).2.length) :
    (at0 (all ps) (pre s i + j)).natAbs = (at0 (prt ps i).2 j).natAbs * vl (prt ps i).1.toNat / loud (prt ps i).2 := by
  rw [all_at h hi hj, tl_abs]
/-- The pulses of all bands. -/
def lds (ps : List Prt) : List Int := ps.map fun p => (loud p.2 : Int)
theorem lds_length (ps : List Prt) : (lds ps).length = ps.length := by simp [lds]
theorem lds_at {ps : List Prt} {i : Nat} (h : i < ps.length) : at0 (lds ps) i = (loud (prt ps i).2 : Int) := by
  unfold at0 lds
  rw [List.getElem?_map, List.getElem?_eq_getElem h, prt_get h]
  rfl
theorem Right.costs {s : List Int} {B : Int} {ps : List Prt} (h : Right s B ps) (h1 : bf s = 0) (h5 : 0 ≤ B) : lds ps = given (gns ps) s B ∧ costF s (lds ps) = 0 ∧ (cost s (lds ps) : Int) ≤ B := by
  obtain ⟨n0, n8, hsz, n32⟩ := bf_ok h1
  have hinv : Inv s (vals (gns ps)) B (given (gns ps) s B) := (share_is (d := vals (gns ps)) hsz n8 h5).1
  have e : lds ps = given (gns ps) s B := by
    refine eq_of_at (by rw [lds_length, hinv.len, h.len]) fun i hi => ?_
    rw [lds_length] at hi
    rw [lds_at hi, h.gets i hi]
  refine ⟨e, ?_, by rw [e]; exact hinv.cst⟩
  refine costF_zero.2 ⟨h1, by rw [lds_length, h.len], fun i hi => ?_⟩
  rw [e] at hi ⊢
  exact hinv.pls i hi
/-- The fact of two eights. -/
theorem fact_enc : encF [8, 8] [2] 10 = 0 := by decide +kernel
theorem fact_cuts : cuts (Lap.lap [8, 8]) [2] = [[8, 0]] := by decide +kernel
theorem fact_given : given (gls [[8, 0]]) [2] 10 = [8] := by decide +kernel
theorem fact_near : Nea.Near [8, 0] 8 [8, 0] := ⟨fun _ => false, by
  have e : Nea.lft [8, 0] 8 = 0 := by decide +kernel
  rw [e]
  exact Nea.pick_zero _ _, by decide +kernel⟩
theorem fact_made {ps : List Prt} (h : Made (cuts (Lap.lap [8, 8]) [2]) [2] 10 ps) : ps = [(13, [8, 0])] := by
  rw [fact_cuts] at h
  refine h.one ⟨rfl, fun i hi => ?_⟩
  obtain rfl : i = 0 := by simpa using hi
  refine ⟨by decide +kernel, ?_⟩
  rw [fact_given]
  exact fact_near

end Go.Proofs.YtjnmogmagngenaiDoor.Frm
