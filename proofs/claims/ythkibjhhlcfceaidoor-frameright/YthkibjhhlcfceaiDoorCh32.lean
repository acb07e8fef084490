/-
  More numbers of chapter 16: what a frame tells of each band. No program here.
-/
import Derived.Test.YthkibjhhlcfceaiDoorCh27
import Derived.Test.YthkibjhhlcfceaiDoorCh18
namespace Go.Proofs.YthkibjhhlcfceaiDoor.Frm
open Go.Proofs.YthkibjhhlcfceaiDoor.Tre Go.Proofs.YthkibjhhlcfceaiDoor.Bnd Go.Proofs.YthkibjhhlcfceaiDoor.Pls Go.Proofs.YthkibjhhlcfceaiDoor.Gai Go.Proofs.YthkibjhhlcfceaiDoor.Shr
set_option linter.unusedVariables false

/-- How loud told pulses are. -/
def qs (v k : Nat) : List Int → Nat
  | [] => 0
  | x :: l => x.natAbs * v / k + qs v k l
theorem qs_append (v k : Nat) (l m : List Int) : qs v k (l ++ m) = qs v k l + qs v k m := by
  induction l with
  | nil => simp [qs]
  | cons x l ih => rw [List.cons_append, qs, qs, ih]; omega
theorem qs_take {v k : Nat} {l : List Int} {j : Nat} (h : j < l.length) : qs v k (l.take (j + 1)) = qs v k (l.take j) + (at0 l j).natAbs * v / k := by
  have e : at0 l j = l[j] := by simp [at0, h]
  rw [List.take_succ_eq_append_getElem h, qs_append, e]
  simp [qs]
theorem qs_up (v k : Nat) (l : List Int) : k * qs v k l ≤ v * loud l := by
  induction l with
  | nil => simp [qs]
  | cons x l ih =>
    have h := Nat.div_mul_le_self (x.natAbs * v) k
    rw [qs, loud, Nat.mul_add, Nat.mul_add, Nat.mul_comm k, Nat.mul_comm v x.natAbs]
    omega
theorem qs_lo {v k : Nat} (hk : 0 < k) (l : List Int) : v * loud l + l.length ≤ k * qs v k l + l.length * k := by
  induction l with
  | nil => simp [qs, loud]
  | cons x l ih =>
    have h := Nat.div_add_mod (x.natAbs * v) k
    have h2 := Nat.mod_lt (x.natAbs * v) hk
    rw [qs, loud, Nat.mul_add, Nat.mul_add, List.length_cons, Nat.add_mul, Nat.mul_comm v x.natAbs]
    omega
/-- No louder than the gain, nor by its pulses softer. -/
theorem qs_bound {v : Nat} {l : List Int} (hk : 0 < loud l) : qs v (loud l) l ≤ v ∧ v + 1 ≤ qs v (loud l) l + l.length := by
  have h1 := qs_up v (loud l) l
  have h2 := qs_lo (v := v) hk l
  refine ⟨Nat.le_of_mul_le_mul_left (by rw [Nat.mul_comm (loud l) v]; exact h1) hk, ?_⟩
  have hl : 0 < l.length := by
    cases l with
    | nil => simp [loud] at hk
    | cons x l => simp
  apply Decidable.byContradiction
  intro hn
  have h3 : qs v (loud l) l + l.length ≤ v := by omega
  have h4 : loud l * (qs v (loud l) l + l.length) ≤ loud l * v := Nat.mul_le_mul_left _ h3
  rw [Nat.mul_add, Nat.mul_comm (loud l) l.length, Nat.mul_comm (loud l) v] at h4
  omega
theorem qs_none (v : Nat) (l : List Int) : qs v 0 l = 0 := by
  induction l with
  | nil => rfl
  | cons x l ih => rw [qs, ih]; simp
theorem tl_abs (v k : Nat) (x : Int) : (tl (v : Int) (k : Int) x).natAbs = x.natAbs * v / k := by
  have e : ((x.natAbs : Int) * (v : Int) / (k : Int)) = ((x.natAbs * v / k : Nat) : Int) := by rw [Int.natCast_ediv, Int.natCast_mul]
  unfold tl
  rw [e, Int.natAbs_mul, Int.natAbs_natCast]
  rcases Int.lt_trichotomy x 0 with h | h | h
  · rw [Int.sign_eq_neg_one_of_neg h]; simp
  · subst h; simp
  · rw [Int.sign_eq_one_of_pos h]; simp
/-- Where a band's numbers are told. -/
theorem all_at {s : List Int} {B : Int} {ps : List Prt} (h : Right s B ps) {i j : Nat} (hi : i < ps.length) (hj : j < (prt ps i).2.length) :
    at0 (all ps) (pre s i + j) = tl (vl (prt ps i).1.toNat) (loud (prt ps i).2) (at0 (prt ps i).2 j) := by
  have e : ps = ps.take i ++ prt ps i :: ps.drop (i + 1) := by
    conv => lhs; rw [← List.take_append_drop i ps]
    rw [List.drop_eq_getElem_cons hi, prt_get hi]
  have e2 : all ps = all (ps.take i) ++ (told (prt ps i) ++ all (ps.drop (i + 1))) := by
    conv => lhs; rw [e]
    unfold all
    rw [List.map_append, List.map_cons, List.flatten_append, List.flatten_cons]
  have e3 : (all (ps.take i)).length = pre s i := by rw [all_length]; exact long_pre h.len h.fit i (by omega)
  have e4 : at0 (prt ps i).2 j = (prt ps i).2[j] := by simp [at0, hj]
  unfold at0
  rw [e2, List.getElem?_append_right (by omega), e3, Nat.add_sub_cancel_left, List.getElem?_append_left (by rw [told_length]; exact hj)]
  unfold told
  rw [List.getElem?_map, List.getElem?_eq_getElem hj, ← e4]
  rfl
theorem all_abs {s : List Int} {B : Int} {ps : List Prt} (h : Right s B ps) {i j : Nat} (hi : i < ps.length) (hj : j < (prt ps i).2.length) :
    (at0 (all ps) (pre s i + j)).natAbs = (at0 (prt ps i).2 j).natAbs * vl (prt ps i).1.toNat / loud (prt ps i).2 := by
  rw [all_at h hi hj, tl_abs]
/-- The pulses of all bands. -/
def lds (ps : List Prt) : List Int := ps.map fun p => (loud p.2 : Int)
theorem lds_length (ps : List Prt) : (lds ps).length = ps.length := by simp [lds]
theorem lds_at {ps : List Prt} {i : Nat} (h : i < ps.length) : at0 (lds ps) i = (loud (prt ps i).2 : Int) := by
  unfold at0 lds
  rw [List.getElem?_map, List.getElem?_eq_getElem h, prt_get h]
  rfl
theorem Right.costs {s : List Int} {B : Int} {ps : List Prt} (h : Right s B ps) (h1 : bf s = 0) (h5 : 0 ≤ B) : lds ps = given (gns ps) s B ∧ costF s (lds ps) = 0 ∧ (cost s (lds ps) : Int) ≤ B := by
  obtain ⟨n0, n8, hsz, n32⟩ := bf_ok h1
  have hinv : Inv s (vals (gns ps)) B (given (gns ps) s B) := (share_is (d := vals (gns ps)) hsz n8 h5).1
  have e : lds ps = given (gns ps) s B := by
    refine eq_of_at (by rw [lds_length, hinv.len, h.len]) fun i hi => ?_
    rw [lds_length] at hi
    rw [lds_at hi, h.gets i hi]
  refine ⟨e, ?_, by rw [e]; exact hinv.cst⟩
  refine costF_zero.2 ⟨h1, by rw [lds_length, h.len], fun i hi => ?_⟩
  rw [e] at hi ⊢
  exact hinv.pls i hi
/-- The fact of two eights. -/
theorem fact_enc : encF [8, 8] [2] 10 = 0 := by decide +kernel
theorem fact_cuts : cuts (Lap.lap [8, 8]) [2] = [[8, 0]] := by decide +kernel
theorem fact_given : given (gls [[8, 0]]) [2] 10 = [8] := by decide +kernel
theorem fact_near : Nea.Near [8, 0] 8 [8, 0] := ⟨fun _ => false, by
  have e : Nea.lft [8, 0] 8 = 0 := by decide +kernel
  rw [e]
  exact Nea.pick_zero _ _, by decide +kernel⟩
theorem fact_made {ps : List Prt} (h : Made (cuts (Lap.lap [8, 8]) [2]) [2] 10 ps) : ps = [(13, [8, 0])] := by
  rw [fact_cuts] at h
  refine h.one ⟨rfl, fun i hi => ?_⟩
  obtain rfl : i = 0 := by simpa using hi
  refine ⟨by decide +kernel, ?_⟩
  rw [fact_given]
  exact fact_near

end Go.Proofs.YthkibjhhlcfceaiDoor.Frm

/-
  More numbers of chapter 16: what is silent stays so. No program here.
-/
namespace Go.Proofs.YthkibjhhlcfceaiDoor.Frm
open Go.Proofs.YthkibjhhlcfceaiDoor.Tre Go.Proofs.YthkibjhhlcfceaiDoor.Bnd Go.Proofs.YthkibjhhlcfceaiDoor.Pls Go.Proofs.YthkibjhhlcfceaiDoor.Gai Go.Proofs.YthkibjhhlcfceaiDoor.Shr
set_option linter.unusedVariables false

theorem quiet_is {l s : List Int} {B : Int} {ps : List Prt} (h : encF l s B = 0) (hm : Made (cuts (Lap.lap l) s) s B ps) (hq : ∀ r, r < l.length → at0 l r = 0) :
    (∀ i, i < ps.length → (prt ps i).1 = 0) ∧ ∀ r, r < l.length → at0 (Lap.unlap (all ps)) r = 0 := by
  obtain ⟨h1, h2, h3, h4, h5, h6, h7⟩ := encF_zero.1 h
  have e : l = List.replicate (total s) 0 := by
    rw [← h2]
    refine eq_of_at (by rw [List.length_replicate]) fun i hi => ?_
    rw [hq i hi]
    simp [at0, hi]
  rw [e] at hm
  obtain ⟨_, k2, _, k4⟩ := silent_made h1 h3 h5 h6 hm
  refine ⟨fun i hi => (k2 i hi).1, fun r hr => ?_⟩
  rw [k4]
  have hr' : r < total s := by omega
  simp [at0, hr']
/-- All that is told has as many numbers as there were. -/
theorem Right.told {l s : List Int} {B : Int} {ps : List Prt} (h : Right s B ps) (h2 : l.length = total s) : (all ps).length = l.length := by rw [all_length, h.long, h2]
theorem Right.pre {s : List Int} {B : Int} {ps : List Prt} (h : Right s B ps) {i : Nat} (hi : i < ps.length) : Bnd.pre s (i + 1) = Bnd.pre s i + (prt ps i).2.length := by
  have := h.fit i hi
  rw [pre_succ]
  omega
theorem Right.inside {s : List Int} {B : Int} {ps : List Prt} (h : Right s B ps) {i : Nat} (hi : i < ps.length) : Bnd.pre s i + (prt ps i).2.length ≤ (all ps).length := by
  rw [← h.pre hi, all_length]
  have h1 := long_pre h.len h.fit (i + 1) (by omega)
  rw [← h1]
  have h3 : ((ps.map fun p => p.2.length)).sum = ((ps.map fun p => p.2.length).take (i + 1)).sum + ((ps.map fun p => p.2.length).drop (i + 1)).sum := by
    conv => lhs; rw [← List.take_append_drop (i + 1) (ps.map fun p => p.2.length)]
    rw [List.sum_append]
  have e1 : Frm.long (ps.take (i + 1)) = ((ps.map fun p => p.2.length).take (i + 1)).sum := by unfold Frm.long; rw [List.map_take]
  have e2 : Frm.long ps = (ps.map fun p => p.2.length).sum := rfl
  rw [e1, e2]
  omega

end Go.Proofs.YthkibjhhlcfceaiDoor.Frm

/-
  share.Cost: by its contract.
-/
namespace Go.Proofs.YthkibjhhlcfceaiDoor.Shr
open Go.RowKit
open Go.Proofs.YthkibjhhlcfceaiDoor.Tre Go.Proofs.YthkibjhhlcfceaiDoor.Cnt Go.Proofs.YthkibjhhlcfceaiDoor.Bnd
set_option linter.unusedVariables false

theorem cost_no (a : Option Addr) (cap : Nat) (s : List Int) (b : Option Addr) (capb : Nat) (p : List Int) (E : Int) (w : World) (hr : Row w a s) (hp : Row w b p) (zs : s.length ≤ 17592186044416) (zp : p.length ≤ 17592186044416) (hE : Hid (costF s p = E)) (hne : Hid (E ≠ 0)) :
    Calls Tryd.prog 8 #[.slice a s.length cap, .slice b p.length capb] w fun e w' => e = .returned (.tuple #[.int .i64 0, .iface 47 (.int .i64 E)]) ∧ Below w.heap.size w w' := by
  have hk := check a cap s b capb p 8 w (by omega) (by omega) hr hp
  rw [← costF_chk, unhide hE, Ev.errV_ne (unhide hne)] at hk
  obtain ⟨N, hN⟩ : ∃ N, s.length = N := ⟨_, rfl⟩
  obtain ⟨M, hM⟩ : ∃ M, p.length = M := ⟨_, rfl⟩
  rw [hN, hM] at hk ⊢
  clear hN hM zs zp hr hp
  go_enter Tryd.func8, Tryd.ntmps8
  go_wp2_with fail
  refine hk.mono ?_
  clear hk
  rintro e w1 ⟨rfl, hb1⟩
  go_wp2
  go_ret2
  exact ⟨rfl, hb1⟩

set_option maxRecDepth 100000 in
set_option maxHeartbeats 4000000 in
theorem cost_ok (a : Option Addr) (cap : Nat) (s : List Int) (b : Option Addr) (capb : Nat) (p : List Int) (w : World) (hr : Row w a s) (hp : Row w b p) (hE : Hid (costF s p = 0)) :
    Calls Tryd.prog 8 #[.slice a s.length cap, .slice b p.length capb] w fun e w' => e = .returned (.tuple #[.int .i64 (cost s p), .nilIface]) ∧ Below w.heap.size w w' := by
  obtain ⟨h1, h2, h3⟩ := costF_zero.1 (unhide hE)
  obtain ⟨h0, h8, hs, _⟩ := bf_ok h1
  have hk := check a cap s b capb p 8 w (by omega) (by omega) hr hp
  rw [← costF_chk, unhide hE, Ev.errV_zero] at hk
  have HL := hide h2
  have hpl := hide h3
  have HSZ := hide hs
  have HLE : Hid (∀ j, j ≤ s.length → cs s p j ≤ 15 * j) := hide (fun j hj => cs_le (unhide HSZ) h3 h2 hj)
  have HC : Hid (cost s p = cs s p s.length) := hide rfl
  obtain ⟨C, hC⟩ : ∃ C, cost s p = C := ⟨_, rfl⟩
  rw [hC] at HC ⊢
  rw [h2] at hk ⊢
  obtain ⟨N, hN⟩ : ∃ N, s.length = N := ⟨_, rfl⟩
  have HN := hide hN
  rw [hN] at h8 HC HLE hk ⊢
  clear hN hC h1 h2 h3 hs hE h0
  go_enter Tryd.func8, Tryd.ntmps8
  go_wp2_with fail
  refine hk.mono ?_
  clear hk
  rintro e w1 ⟨rfl, hb1⟩
  go_wp2
  go_loopw [7, 20] (fun n i wr => ∃ j U : Nat, j ≤ N ∧ i = .int .i64 j ∧ n = .int .i64 U ∧ Hid (U = cs s p j) ∧ Below w.heap.size w wr) (fun _ i _ => N - (intOf i).toNat)
  case atStart => exact ⟨0, 0, Nat.zero_le _, rfl, rfl, rfl, hb1⟩
  case round =>
    clear hb1
    obtain ⟨j, U, hj, rfl, rfl, HU, hB⟩ := hrel
    by_cases hlt : j < N
    · have hj1 : j < s.length := by rw [unhide HN]; exact hlt
      have hj2 : j < p.length := by rw [unhide HL, unhide HN]; exact hlt
      obtain ⟨b1, off1, rfl, _, hc1⟩ := cell_shr' (hr.below hB) (by omega)
      obtain ⟨b2, off2, rfl, _, hc2⟩ := cell_shr' (hp.below hB) (by omega)
      have c1 := hc1 j hj1
      have c2 := hc2 j hj2
      have g1 := unhide HSZ j hj1
      have g2 := unhide hpl j hj2
      have HST : Hid (cs s p (j + 1) = U + Bt (at0 p j).toNat (at0 s j).toNat) := hide (by rw [cs, unhide HU])
      have hle := unhide HLE (j + 1) (by omega)
      rw [unhide HST] at hle
      obtain ⟨X, hX⟩ : ∃ X : Nat, at0 s j = X := ⟨(at0 s j).toNat, by omega⟩
      obtain ⟨Y, hY⟩ : ∃ Y : Nat, at0 p j = Y := ⟨(at0 p j).toNat, by omega⟩
      rw [hX] at c1 g1
      rw [hY] at c2 g2
      have eX : (at0 s j).toNat = X := by omega
      have eY : (at0 p j).toNat = Y := by omega
      rw [eX, eY] at HST hle
      have hbt := hide (fun W => bits_is X Y (by omega) (by omega) W)
      obtain ⟨T, hT⟩ : ∃ T, Bt Y X = T := ⟨_, rfl⟩
      rw [hT] at HST hle hbt
      have hUT : U + T ≤ 1000 := by omega
      clear hc1 hc2 hj1 hj2 hX hY eX eY hT hle g1 g2
      go_wp2_with fail
      refine (unhide hbt wr).mono ?_
      rintro e w2 ⟨rfl, hb2⟩
      go_wp2
      go_roundw
      case rel => exact ⟨j + 1, U + T, by omega, by go_num, by go_num, hide (unhide HST).symm, Below.chain hB hb2⟩
      case measure => simp [intOf]; omega
    · obtain rfl : j = N := by omega
      go_wp2
      go_ret2
      exact ⟨by rw [unhide HC, unhide HU]; rfl, hB⟩

end Go.Proofs.YthkibjhhlcfceaiDoor.Shr
