/-
  More numbers of chapter 16: what a frame tells of each band. No program here.
-/
import Derived.Test.YthkibjhhlcfceaiGreatDoorPk09
import Derived.Test.YthkibjhhlcfceaiGreatDoorPk01
namespace Go.Proofs.YthkibjhhlcfceaiGreatDoor.Frm
open Go.Proofs.YthkibjhhlcfceaiGreatDoor.Tre Go.Proofs.YthkibjhhlcfceaiGreatDoor.Bnd Go.Proofs.YthkibjhhlcfceaiGreatDoor.Pls Go.Proofs.YthkibjhhlcfceaiGreatDoor.Gai Go.Proofs.YthkibjhhlcfceaiGreatDoor.Shr
set_option linter.unusedVariables false

/-- How loud told pulses are. -/
def qs (v k : Nat) : List Int → Nat
  | [] => 0
  | x :: l => x.natAbs * v / k + qs v k l
theorem qs_append (v k : Nat) (l m : List Int) : qs v k (l ++ m) = qs v k l + qs v k m := by
  induction l with
  | nil => simp [qs]
  | cons x l ih => rw [List.cons_append, qs, qs, ih]; omega
theorem qs_take {v k : Nat} {l : List Int} {j : Nat} (h : j < l.length) : qs v k (l.take (j + 1)) = qs v k (l.take j) + (at0 l j).natAbs * v / k := by
  have e : at0 l j = l[j] := by simp [at0, h]
  rw [List.take_succ_eq_append_getElem h, qs_append, e]
  simp [qs]
theorem qs_up (v k : Nat) (l : List Int) : k * qs v k l ≤ v * loud l := by
  induction l with
  | nil => simp [qs]
  | cons x l ih =>
    have h := Nat.div_mul_le_self (x.natAbs * v) k
    rw [qs, loud, Nat.mul_add, Nat.mul_add, Nat.mul_comm k, Nat.mul_comm v x.natAbs]
    omega
theorem qs_lo {v k : Nat} (hk : 0 < k) (l : List Int) : v * loud l + l.length ≤ k * qs v k l + l.length * k := by
  induction l with
  | nil => simp [qs, loud]
  | cons x l ih =>
    have h := Nat.div_add_mod (x.natAbs * v) k
    have h2 := Nat.mod_lt (x.natAbs * v) hk
    rw [qs, loud, Nat.mul_add, Nat.mul_add, List.length_cons, Nat.add_mul, Nat.mul_comm v x.natAbs]
    omega
/-- No louder than the gain, nor by its pulses softer. -/
theorem qs_bound {v : Nat} {l : List Int} (hk : 0 < loud l) : qs v (loud l) l ≤ v ∧ v + 1 ≤ qs v (loud l) l + l.length := by
  have h1 := qs_up v (loud l) l
  have h2 := qs_lo (v := v) hk l
  refine ⟨Nat.le_of_mul_le_mul_left (by rw [Nat.mul_comm (loud l) v]; exact h1) hk, ?_⟩
  have hl : 0 < l.length := by
    cases l with
    | nil => simp [loud] at hk
    | cons x l => simp
  apply Decidable.byContradiction
  intro hn
  have h3 : qs v (loud l) l + l.length ≤ v := by omega
  have h4 : loud l * (qs v (loud l) l + l.length) ≤ loud l * v := Nat.mul_le_mul_left _ h3
  rw [Nat.mul_add, Nat.mul_comm (loud l) l.length, Nat.mul_comm (loud l) v] at h4
  omega
theorem qs_none (v : Nat) (l : List Int) : qs v 0 l = 0 := by
  induction l with
  | nil => rfl
  | cons x l ih => rw [qs, ih]; simp
theorem tl_abs (v k : Nat) (x : Int) : (tl (v : Int) (k : Int) x).natAbs = x.natAbs * v / k := by
  have e : ((x.natAbs : Int) * (v : Int) / (k : Int)) = ((x.natAbs * v / k : Nat) : Int) := by rw [Int.natCast_ediv, Int.natCast_mul]
  unfold tl
  rw [e, Int.natAbs_mul, Int.natAbs_natCast]
  rcases Int.lt_trichotomy x 0 with h | h | h
  · rw [Int.sign_eq_neg_one_of_neg h]; simp
  · subst h; simp
  · rw [Int.sign_eq_one_of_pos h]; simp
/-- Where a band's numbers are told. -/
theorem all_at {s : List Int} {B : Int} {ps : List Prt} (h : Right s B ps) {i j : Nat} (hi : i < ps.length) (hj : j < (prt ps i).2.length) :
    at0 (all ps) (pre s i + j) = tl (vl (prt ps i).1.toNat) (loud (prt ps i).2) (at0 (prt ps i).2 j) := by
  have e : ps = ps.take i ++ prt ps i :: ps.drop (i + 1) := by
    conv => lhs; rw [← List.take_append_drop i ps]
    rw [List.drop_eq_getElem_cons hi, prt_get hi]
  have e2 : all ps = all (ps.take i) ++ (told (prt ps i) ++ all (ps.drop (i + 1))) := by
    conv => lhs; rw [e]
    unfold all
    rw [List.map_append, List.map_cons, List.flatten_append, List.flatten_cons]
  have e3 : (all (ps.take i)).length = pre s i := by rw [all_length]; exact long_pre h.len h.fit i (by omega)
  have e4 : at0 (prt ps i).2 j = (prt ps i).2[j] := by simp [at0, hj]
  unfold at0
  rw [e2, List.getElem?_append_right (by omega), e3, Nat.add_sub_cancel_left, List.getElem?_append_left (by rw [told_length]; exact hj)]
  unfold told
  rw [List.getElem?_map, List.getElem?_eq_getElem hj, ← e4]
  rfl
theorem all_abs {s : List Int} {B : Int} {ps : List Prt} (h : Right s B ps) {i j : Nat} (hi : i < ps.length) (hj : j < (prt ps i).2.length) :
    (at0 (all ps) (pre s i + j)).natAbs = (at0 (prt ps i).2 j).natAbs * vl (prt ps i).1.toNat / loud (prt ps i).2 := by
  rw [all_at h hi hj, tl_abs]
/-- The pulses of all bands. -/
def lds (ps : List Prt) : List Int := ps.map fun p => (loud p.2 : Int)
theorem lds_length (ps : List Prt) : (lds ps).length = ps.length := by simp [lds]
theorem lds_at {ps : List Prt} {i : Nat} (h : i < ps.length) : at0 (lds ps) i = (loud (prt ps i).2 : Int) := by
  unfold at0 lds
  rw [List.getElem?_map, List.getElem?_eq_getElem h, prt_get h]
  rfl
theorem Right.costs {s : List Int} {B : Int} {ps : List Prt} (h : Right s B ps) (h1 : bf s = 0) (h5 : 0 ≤ B) : lds ps = given (gns ps) s B ∧ costF s (lds ps) = 0 ∧ (cost s (lds ps) : Int) ≤ B := by
  obtain ⟨n0, n8, hsz, n32⟩ := bf_ok h1
  have hinv : Inv s (vals (gns ps)) B (given (gns ps) s B) := (share_is (d := vals (gns ps)) hsz n8 h5).1
  have e : lds ps = given (gns ps) s B := by
    refine eq_of_at (by rw [lds_length, hinv.len, h.len]) fun i hi => ?_
    rw [lds_length] at hi
    rw [lds_at hi, h.gets i hi]
  refine ⟨e, ?_, by rw [e]; exact hinv.cst⟩
  refine costF_zero.2 ⟨h1, by rw [lds_length, h.len], fun i hi => ?_⟩
  rw [e] at hi ⊢
  exact hinv.pls i hi
/-- The fact of two eights. -/
theorem fact_enc : encF [8, 8] [2] 10 = 0 := by decide +kernel
theorem fact_cuts : cuts (Lap.lap [8, 8]) [2] = [[8, 0]] := by decide +kernel
theorem fact_given : given (gls [[8, 0]]) [2] 10 = [8] := by decide +kernel
theorem fact_near : Nea.Near [8, 0] 8 [8, 0] := ⟨fun _ => false, by
  have e : Nea.lft [8, 0] 8 = 0 := by decide +kernel
  rw [e]
  exact Nea.pick_zero _ _, by decide +kernel⟩
theorem fact_made {ps : List Prt} (h : Made (cuts (Lap.lap [8, 8]) [2]) [2] 10 ps) : ps = [(13, [8, 0])] := by
  rw [fact_cuts] at h
  refine h.one ⟨rfl, fun i hi => ?_⟩
  obtain rfl : i = 0 := by simpa using hi
  refine ⟨by decide +kernel, ?_⟩
  rw [fact_given]
  exact fact_near

end Go.Proofs.YthkibjhhlcfceaiGreatDoor.Frm

/-
  The numbers of chapter 17: a frame in bits, and read again. No program here.
-/
namespace Go.Proofs.YthkibjhhlcfceaiGreatDoor.Pck
open Go.Proofs.YthkibjhhlcfceaiGreatDoor.Tre Go.Proofs.YthkibjhhlcfceaiGreatDoor.Bnd Go.Proofs.YthkibjhhlcfceaiGreatDoor.Cnt Go.Proofs.YthkibjhhlcfceaiGreatDoor.Pls Go.Proofs.YthkibjhhlcfceaiGreatDoor.Gai Go.Proofs.YthkibjhhlcfceaiGreatDoor.Shr Go.Proofs.YthkibjhhlcfceaiGreatDoor.Frm Go.Proofs.YthkibjhhlcfceaiGreatDoor.Wid
set_option linter.unusedVariables false

theorem oneF_all {ps : List Prt} (h : oneF ps = 0) : ∀ i, i < ps.length → gok (prt ps i).1 = true ∧ fault (prt ps i).2 = 0 := by
  induction ps with
  | nil => intro i hi; simp at hi
  | cons p ps ih =>
    rw [oneF] at h
    split at h
    · rename_i h1
      split at h
      · rename_i h2
        intro i hi
        cases i with
        | zero => exact ⟨h1, h2⟩
        | succ i => exact ih h i (by simpa using hi)
      · rename_i h2; exact absurd h h2
    · omega
theorem frm_zero {ps : List Prt} {s : List Int} {B : Int} (h : FrmF ps s B 0) : bf s = 0 ∧ 0 ≤ B ∧ B ≤ 400 ∧ Right s B ps := by
  rcases h with ⟨h1, h2⟩ | ⟨h1, h⟩
  · exact absurd h2.symm h1
  · rcases h with ⟨_, h2⟩ | ⟨h2, h⟩
    · omega
    · rcases h with ⟨_, h3⟩ | ⟨h3, h⟩
      · omega
      · rcases h with ⟨h4, h5⟩ | ⟨h4, h⟩
        · exact absurd h5.symm h4
        · rcases h with ⟨_, h5⟩ | ⟨h5, h⟩
          · omega
          · rcases h with ⟨_, h6⟩ | ⟨h6, _⟩
            · omega
            · exact ⟨h1, h5.1, h5.2, ⟨h2, h3, oneF_all h4, h6⟩⟩

/-- The ranks, in how many bits; all numbers, all widths; the bits. -/
def rks (ps : List Prt) : List Int := ps.map fun p => rk p.2 (loud p.2)
def wbs (ps : List Prt) : List Int := ps.map fun p => (Bt (loud p.2) p.2.length : Int)
def nums (ps : List Prt) : List Int := gns ps ++ rks ps
def wids (ps : List Prt) : List Int := List.replicate ps.length 6 ++ wbs ps
def pbits (ps : List Prt) : List Int := puts (nums ps) (wids ps)
theorem rks_length (ps : List Prt) : (rks ps).length = ps.length := by simp [rks]
theorem wbs_length (ps : List Prt) : (wbs ps).length = ps.length := by simp [wbs]
theorem nums_length (ps : List Prt) : (nums ps).length = ps.length + ps.length := by unfold nums; rw [List.length_append, gns_length, rks_length]
theorem wids_length (ps : List Prt) : (wids ps).length = ps.length + ps.length := by unfold wids; rw [List.length_append, List.length_replicate, wbs_length]
theorem at0_left {l m : List Int} {i : Nat} (h : i < l.length) : at0 (l ++ m) i = at0 l i := by unfold at0; rw [List.getElem?_append_left h]
theorem at0_right {l m : List Int} {i : Nat} : at0 (l ++ m) (l.length + i) = at0 m i := by unfold at0; rw [List.getElem?_append_right (by omega), Nat.add_sub_cancel_left]
theorem nums_gain {ps : List Prt} {i : Nat} (h : i < ps.length) : at0 (nums ps) i = (prt ps i).1 := by unfold nums; rw [at0_left (by rw [gns_length]; exact h), gns_at h]
theorem nums_rank {ps : List Prt} {i : Nat} (h : i < ps.length) : at0 (nums ps) (ps.length + i) = rk (prt ps i).2 (loud (prt ps i).2) := by
  have e : ps.length + i = (gns ps).length + i := by rw [gns_length]
  unfold nums
  rw [e, at0_right]
  unfold at0 rks
  rw [List.getElem?_map, List.getElem?_eq_getElem h, prt_get h]
  rfl
theorem wids_gain {ps : List Prt} {i : Nat} (h : i < ps.length) : at0 (wids ps) i = 6 := by
  unfold wids
  rw [at0_left (by rw [List.length_replicate]; exact h)]
  simp [at0, h]
theorem wids_rank {ps : List Prt} {i : Nat} (h : i < ps.length) : at0 (wids ps) (ps.length + i) = (Bt (loud (prt ps i).2) (prt ps i).2.length : Int) := by
  have e : ps.length + i = (List.replicate ps.length (6 : Int)).length + i := by rw [List.length_replicate]
  unfold wids
  rw [e, at0_right]
  unfold at0 wbs
  rw [List.getElem?_map, List.getElem?_eq_getElem h, prt_get h]
  rfl

section
variable {ps : List Prt} {s : List Int} {B : Int}
theorem right_in (h : Right s B ps) {i : Nat} (hi : i < ps.length) : (prt ps i).2.length ≤ 6 ∧ loud (prt ps i).2 ≤ 8 ∧ 0 ≤ (prt ps i).1 ∧ (prt ps i).1 ≤ 53 := by
  obtain ⟨h1, h2⟩ := h.ok i hi
  obtain ⟨k1, _, k3⟩ := fault_ok h2
  unfold gok at h1
  simp only [Bool.and_eq_true, decide_eq_true_eq] at h1
  exact ⟨k1, k3, h1.1.1, h1.1.2⟩
/-- Each number goes into its width. -/
theorem pack_fit (h : Right s B ps) : ∀ i, i < (wids ps).length → Fit (at0 (nums ps) i) (at0 (wids ps) i) := by
  intro i hi
  rw [wids_length] at hi
  by_cases e : i < ps.length
  · rw [nums_gain e, wids_gain e]
    have h1 := right_in h e
    refine ⟨by omega, by omega, h1.2.2.1, ?_⟩
    have : (2 : Int) ^ ((6 : Int).toNat) = 64 := by decide
    omega
  · obtain ⟨j, rfl⟩ : ∃ j, i = ps.length + j := ⟨i - ps.length, by omega⟩
    have hj : j < ps.length := by omega
    rw [nums_rank hj, wids_rank hj]
    have h1 := right_in h hj
    have h2 := rk_in _ h1.1 h1.2.1
    have h3 := Bt_is h1.2.1 h1.1
    have h4 := Bt_le h1.2.1 h1.1
    have e2 : ((Bt (loud (prt ps j).2) (prt ps j).2.length : Int)).toNat = Bt (loud (prt ps j).2) (prt ps j).2.length := by omega
    refine ⟨by omega, by omega, h2.1, ?_⟩
    rw [e2]
    have := h3.1
    omega
theorem pack_wds (h : Right s B ps) : Wds (wids ps) := fun i hi => ⟨(pack_fit h i hi).1, (pack_fit h i hi).2.1⟩
theorem pre_gains {j : Nat} (hj : j ≤ ps.length) : pre (wids ps) j = 6 * j := by
  induction j with
  | zero => rfl
  | succ j ih =>
    rw [pre_succ, ih (by omega), wids_gain (by omega)]
    omega
theorem pre_ranks (h : Right s B ps) {j : Nat} (hj : j ≤ ps.length) : pre (wids ps) (ps.length + j) = 6 * ps.length + cs s (lds ps) j := by
  induction j with
  | zero => exact pre_gains (Nat.le_refl _)
  | succ j ih =>
    have hf := h.fit j (by omega)
    rw [← Nat.add_assoc, pre_succ, ih (by omega), wids_rank (by omega)]
    simp only [cs]
    rw [lds_at (by omega), Int.toNat_natCast, Int.toNat_natCast, ← hf, Int.toNat_natCast]
    omega
theorem pack_total (h : Right s B ps) : total (wids ps) = 6 * ps.length + cost s (lds ps) := by
  unfold total cost
  rw [wids_length, pre_ranks h (Nat.le_refl _), h.len]
theorem pack_length (h : Right s B ps) : (pbits ps).length = 6 * ps.length + cost s (lds ps) := by
  unfold pbits
  rw [puts_length _ (pack_wds h), pack_total h]
theorem pack_bit (h : Right s B ps) : Bit (pbits ps) := puts_bit (pack_fit h)
theorem pack_put (h : Right s B ps) : putF (nums ps) (wids ps) = if 400 < 6 * ps.length + cost s (lds ps) then 4 else 0 := by
  unfold putF
  rw [if_pos (by rw [nums_length, wids_length]), if_pos ((pf_zero (by rw [nums_length, wids_length])).2 (pack_fit h))]
  have e := pack_length h
  unfold pbits at e
  rw [e]
end

/-- A beginning of bits, read number by number. -/
theorem read_at {A l ws : List Int} (hl : l.length = ws.length) (hf : ∀ i, i < ws.length → Fit (at0 l i) (at0 ws i)) (hA : A.take (total ws) = puts l ws) {i : Nat} (hi : i < ws.length) :
    num 0 ((A.drop (pre ws i)).take (at0 ws i).toNat) = at0 l i ∧ pre ws i + (at0 ws i).toNat ≤ A.length := by
  have hs : Wds ws := fun i hi => ⟨(hf i hi).1, (hf i hi).2.1⟩
  have hg := gets_puts hl hf
  have h1 : pre ws i + (at0 ws i).toNat ≤ total ws := by rw [← pre_succ]; exact pre_total ws (by omega)
  have h2 : total ws ≤ A.length := by
    have e := congrArg List.length hA
    rw [List.length_take, puts_length l hs] at e
    omega
  have h3 : at0 (gets (puts l ws) ws) i = num 0 (cutAt (puts l ws) ws i) := by unfold gets; exact upto_at _ hi
  rw [hg] at h3
  refine ⟨?_, by omega⟩
  rw [h3, ← hA]
  unfold cutAt
  rw [List.drop_take, List.take_take, Nat.min_eq_left (by omega)]

/-- These bytes are such a frame. -/
def IsP (b : List Int) (s : List Int) (B : Int) (ps : List Prt) : Prop := FrmF ps s B 0 ∧ 6 * ps.length + cost s (lds ps) ≤ 400 ∧ oct (pbits ps) = b
section
variable {b : List Int} {ps : List Prt} {s : List Int} {B : Int}
theorem IsP.begins (h : IsP b s B ps) : (opn b).take (total (wids ps)) = pbits ps := by
  obtain ⟨h1, _, h3⟩ := h
  have hr := (frm_zero h1).2.2.2
  rw [← h3, pack_total hr, ← pack_length hr]
  exact bits_oct (pack_bit hr)
theorem IsP.gain (h : IsP b s B ps) {i : Nat} (hi : i < ps.length) : num 0 (((opn b).drop (6 * i)).take 6) = (prt ps i).1 ∧ 6 * i + 6 ≤ (opn b).length := by
  have hr := (frm_zero h.1).2.2.2
  have h1 := read_at (A := opn b) (by rw [nums_length, wids_length]) (pack_fit hr) h.begins (i := i) (by rw [wids_length]; omega)
  rw [pre_gains (by omega), wids_gain hi, nums_gain hi] at h1
  exact h1
theorem IsP.rank (h : IsP b s B ps) {i : Nat} (hi : i < ps.length) :
    num 0 (((opn b).drop (6 * ps.length + cs s (lds ps) i)).take (Bt (loud (prt ps i).2) (prt ps i).2.length)) = rk (prt ps i).2 (loud (prt ps i).2) ∧ 6 * ps.length + cs s (lds ps) i + Bt (loud (prt ps i).2) (prt ps i).2.length ≤ (opn b).length := by
  have hr := (frm_zero h.1).2.2.2
  have h1 := read_at (A := opn b) (by rw [nums_length, wids_length]) (pack_fit hr) h.begins (i := ps.length + i) (by rw [wids_length]; omega)
  rw [pre_ranks hr (by omega), wids_rank hi, nums_rank hi, Int.toNat_natCast] at h1
  exact h1
theorem IsP.long (h : IsP b s B ps) : b.length ≤ 50 := by
  obtain ⟨h1, h2, h3⟩ := h
  have hr := (frm_zero h1).2.2.2
  rw [← h3, oct_length, pack_length hr]
  omega
/-- Only one frame is so. -/
theorem IsP.one {qs : List Prt} (h : IsP b s B ps) (k : IsP b s B qs) : ps = qs := by
  obtain ⟨z1, z2, z3, hr⟩ := frm_zero h.1
  have kr := (frm_zero k.1).2.2.2
  have hl : ps.length = qs.length := hr.len.trans kr.len.symm
  have hg : gns ps = gns qs := by
    refine eq_of_at (by rw [gns_length, gns_length, hl]) fun i hi => ?_
    rw [gns_length] at hi
    rw [gns_at hi, gns_at (by omega), ← (h.gain hi).1, ← (k.gain (i := i) (by omega)).1]
  have hd : lds ps = lds qs := by rw [(hr.costs z1 z2).1, (kr.costs z1 z2).1, hg]
  refine parts_eq hl fun i hi => ?_
  have hi' : i < qs.length := by omega
  have e1 : (prt ps i).1 = (prt qs i).1 := by rw [← gns_at hi, ← gns_at hi', hg]
  have e2 : loud (prt qs i).2 = loud (prt ps i).2 := by
    have : at0 (lds ps) i = at0 (lds qs) i := by rw [hd]
    rw [lds_at hi, lds_at hi'] at this
    omega
  have e3 : (prt qs i).2.length = (prt ps i).2.length := by
    have f1 := hr.fit i hi
    have f2 := kr.fit i hi'
    omega
  have e4 := (h.rank hi).1
  have e5 := (k.rank hi').1
  rw [← hl, ← hd, e2, e3, e4] at e5
  have h1 := right_in hr hi
  exact Prod.ext e1 (rk_one _ _ h1.1 e3 h1.2.1 e2 e5.symm).symm
end

/-- The fault of packing a frame. -/
def PckF (ps : List Prt) (s : List Int) (B E : Int) : Prop := (E ≠ 0 ∧ FrmF ps s B E) ∨ (FrmF ps s B 0 ∧ E = if 400 < 6 * ps.length + cost s (lds ps) then 4 else 0)
theorem PckF.one {ps : List Prt} {s : List Int} {B E E' : Int} (h : PckF ps s B E) (h' : PckF ps s B E') : E = E' := by
  rcases h with ⟨h1, h2⟩ | ⟨h1, h2⟩
  · rcases h' with ⟨_, k2⟩ | ⟨k1, _⟩
    · exact h2.one k2
    · exact absurd (h2.one k1) h1
  · rcases h' with ⟨k1, k2⟩ | ⟨_, k2⟩
    · exact absurd (k2.one h1) k1
    · rw [h2, k2]
theorem PckF.zero {ps : List Prt} {s : List Int} {B : Int} (h : PckF ps s B 0) : IsP (oct (pbits ps)) s B ps := by
  rcases h with ⟨h1, _⟩ | ⟨h1, h2⟩
  · omega
  · refine ⟨h1, ?_, rfl⟩
    split at h2 <;> omega
theorem IsP.pck {b : List Int} {ps : List Prt} {s : List Int} {B : Int} (h : IsP b s B ps) : PckF ps s B 0 := Or.inr ⟨h.1, by rw [if_neg (by have := h.2.1; omega)]⟩
/-- The fault of bytes that are to be a frame, and the frame. -/
def UnpF (b : List Int) (s : List Int) (B E : Int) (ps : List Prt) : Prop :=
  (bf s ≠ 0 ∧ E = bf s ∧ ps = []) ∨ (bf s = 0 ∧ ((¬ (0 ≤ B ∧ B ≤ 400) ∧ E = 1 ∧ ps = []) ∨ ((0 ≤ B ∧ B ≤ 400) ∧ (((∀ qs, ¬ IsP b s B qs) ∧ E = 2 ∧ ps = []) ∨ (IsP b s B ps ∧ E = 0)))))
theorem UnpF.one {b s : List Int} {B E E' : Int} {ps qs : List Prt} (h : UnpF b s B E ps) (k : UnpF b s B E' qs) : E = E' ∧ ps = qs := by
  rcases h with ⟨h1, h2, h3⟩ | ⟨h1, h⟩
  · rcases k with ⟨_, k2, k3⟩ | ⟨k1, _⟩
    · exact ⟨by rw [h2, k2], by rw [h3, k3]⟩
    · exact absurd k1 h1
  · rcases k with ⟨k1, _⟩ | ⟨_, k⟩
    · exact absurd h1 k1
    · rcases h with ⟨h2, h3, h4⟩ | ⟨h2, h⟩
      · rcases k with ⟨_, k3, k4⟩ | ⟨k2, _⟩
        · exact ⟨by rw [h3, k3], by rw [h4, k4]⟩
        · exact absurd k2 h2
      · rcases k with ⟨k2, _⟩ | ⟨_, k⟩
        · exact absurd h2 k2
        · rcases h with ⟨h3, h4, h5⟩ | ⟨h3, h4⟩
          · rcases k with ⟨_, k4, k5⟩ | ⟨k3, _⟩
            · exact ⟨by rw [h4, k4], by rw [h5, k5]⟩
            · exact absurd k3 (h3 _)
          · rcases k with ⟨k3, _⟩ | ⟨k3, k4⟩
            · exact absurd h3 (k3 _)
            · exact ⟨by rw [h4, k4], h3.one k3⟩

end Go.Proofs.YthkibjhhlcfceaiGreatDoor.Pck

/-
  More numbers of chapter 17: cut off it is none; silence; how many bytes there are at most. No program here.
-/
namespace Go.Proofs.YthkibjhhlcfceaiGreatDoor.Pck
open Go.Proofs.YthkibjhhlcfceaiGreatDoor.Tre Go.Proofs.YthkibjhhlcfceaiGreatDoor.Bnd Go.Proofs.YthkibjhhlcfceaiGreatDoor.Cnt Go.Proofs.YthkibjhhlcfceaiGreatDoor.Pls Go.Proofs.YthkibjhhlcfceaiGreatDoor.Gai Go.Proofs.YthkibjhhlcfceaiGreatDoor.Shr Go.Proofs.YthkibjhhlcfceaiGreatDoor.Frm Go.Proofs.YthkibjhhlcfceaiGreatDoor.Wid
set_option linter.unusedVariables false

theorem opn_take (b : List Int) {k : Nat} (h : k ≤ b.length) : opn (b.take k) = (opn b).take (8 * k) := by
  have e1 : (b.take k).length = k := by rw [List.length_take]; omega
  unfold opn
  rw [e1, take_upto _ (by omega)]
  refine eq_of_at (by rw [upto_length, upto_length]) fun i hi => ?_
  rw [upto_length] at hi
  rw [upto_at _ hi, upto_at _ hi]
  unfold opnF
  have e2 : at0 (b.take k) (i / 8) = at0 b (i / 8) := by
    unfold at0
    rw [List.getElem?_take]
    rw [if_pos (by omega)]
  rw [e2]
theorem IsP.size {b : List Int} {ps : List Prt} {s : List Int} {B : Int} (h : IsP b s B ps) : b.length = (6 * s.length + cost s (lds ps) + 7) / 8 := by
  have hr := (frm_zero h.1).2.2.2
  rw [← h.2.2, oct_length, pack_length hr, hr.len]
/-- Cut off it is none. -/
theorem IsP.cut {b : List Int} {ps qs : List Prt} {s : List Int} {B : Int} (h : IsP b s B ps) {k : Nat} (hk : k < b.length) (g : IsP (b.take k) s B qs) : False := by
  obtain ⟨z1, z2, z3, hr⟩ := frm_zero h.1
  have kr := (frm_zero g.1).2.2.2
  have hl : ps.length = qs.length := hr.len.trans kr.len.symm
  have hg : gns ps = gns qs := by
    refine eq_of_at (by rw [gns_length, gns_length, hl]) fun i hi => ?_
    rw [gns_length] at hi
    obtain ⟨g1, g2⟩ := g.gain (i := i) (by omega)
    rw [opn_take b (by omega), List.length_take] at g2
    rw [opn_take b (by omega), List.drop_take, List.take_take, Nat.min_eq_left (by omega)] at g1
    rw [gns_at hi, gns_at (by omega), ← (h.gain hi).1, ← g1]
  have hd : lds ps = lds qs := by rw [(hr.costs z1 z2).1, (kr.costs z1 z2).1, hg]
  have e1 := h.size
  have e2 := g.size
  rw [List.length_take, ← hd] at e2
  omega

/-- How many bytes there are at most. -/
def longF (s : List Int) (B : Int) : Int := if bf s = 0 then (if 0 ≤ B ∧ B ≤ 400 then (if 400 < 6 * (s.length : Int) + B then 4 else 0) else 1) else bf s
def longN (s : List Int) (B : Int) : Int := if longF s B = 0 then (6 * (s.length : Int) + B + 7) / 8 else 0
theorem longF_zero {s : List Int} {B : Int} : longF s B = 0 ↔ bf s = 0 ∧ 0 ≤ B ∧ B ≤ 400 ∧ 6 * (s.length : Int) + B ≤ 400 := by
  unfold longF
  constructor
  · intro h
    split at h
    · rename_i h1
      split at h
      · rename_i h2
        split at h
        · omega
        · exact ⟨h1, h2.1, h2.2, by omega⟩
      · omega
    · rename_i h1; exact absurd h h1
  · intro ⟨h1, h2, h3, h4⟩
    rw [if_pos h1, if_pos ⟨h2, h3⟩, if_neg (by omega)]
/-- What is right goes, where it may not be too long, and is no longer than told. -/
theorem right_long {ps : List Prt} {s : List Int} {B : Int} (h : FrmF ps s B 0) (hl : longF s B = 0) : PckF ps s B 0 ∧ ((oct (pbits ps)).length : Int) ≤ longN s B := by
  obtain ⟨z1, z2, z3, hr⟩ := frm_zero h
  obtain ⟨_, _, _, h4⟩ := longF_zero.1 hl
  have hc := (hr.costs z1 z2).2.2
  have hln := hr.len
  refine ⟨Or.inr ⟨h, by rw [if_neg (by omega)]⟩, ?_⟩
  unfold longN
  rw [if_pos hl, oct_length, pack_length hr]
  omega
theorem right_fault {ps : List Prt} {s : List Int} {B E : Int} (h : FrmF ps s B 0) (hE : PckF ps s B E) : E = 0 ∨ E = 4 := by
  rcases hE with ⟨h1, h2⟩ | ⟨_, h2⟩
  · exact absurd (h2.one h) h1
  · split at h2
    · exact Or.inr h2
    · exact Or.inl h2

/-- Noughts. -/
theorem bin_zero (w : Nat) : bin w 0 = List.replicate w 0 := by
  induction w with
  | zero => rfl
  | succ w ih => rw [bin]; simp [ih, List.replicate_succ]
theorem num_rep (n : Nat) : num 0 (List.replicate n 0) = 0 := by
  induction n with
  | zero => rfl
  | succ n ih => rw [List.replicate_succ, num]; simpa using ih
theorem oct_zeros (n : Nat) : oct (List.replicate n 0) = List.replicate ((n + 7) / 8) 0 := by
  refine eq_of_at (by rw [oct_length, List.length_replicate, List.length_replicate]) fun i hi => ?_
  rw [oct_length, List.length_replicate] at hi
  unfold oct
  rw [List.length_replicate, upto_at _ hi]
  have e : eight (List.replicate n 0) i = List.replicate 8 0 := by
    refine eq_of_at (by rw [eight_length, List.length_replicate]) fun j hj => ?_
    rw [eight_length] at hj
    unfold eight
    rw [upto_at _ hj]
    have e1 : ∀ m k : Nat, at0 (List.replicate m (0 : Int)) k = 0 := fun m k => by
      unfold at0
      rw [List.getElem?_replicate]
      split <;> rfl
    rw [e1, e1]
  rw [e, num_rep]
  unfold at0
  rw [List.getElem?_replicate]
  split <;> rfl
theorem bins_zero {l ws : List Int} (h : ∀ i, i < ws.length → at0 l i = 0) : puts l ws = List.replicate (puts l ws).length 0 := by
  refine List.eq_replicate_iff.2 ⟨rfl, fun b hb => ?_⟩
  unfold puts at hb
  obtain ⟨r, hr, hb'⟩ := List.mem_flatten.1 hb
  obtain ⟨i, hi, rfl⟩ := List.mem_map.1 hr
  rw [h i (by simpa using hi), bin_zero] at hb'
  exact (List.mem_replicate.1 hb').2
theorem rk_zero (l : List Int) (h : loud l = 0) : rk l 0 = 0 := by
  induction l with
  | nil => rfl
  | cons x l ih =>
    have hx : x = 0 := by simp only [loud] at h; omega
    have hl : loud l = 0 := by simp only [loud] at h; omega
    subst hx
    rw [rk]
    have := ih hl
    simp only [Int.natAbs_zero, Nat.sub_zero, Int.zero_add, Int.toNat_natCast]
    rw [this]
    rfl
/-- Silence is six bits a band. -/
theorem silent_pack {s : List Int} {B : Int} {ps : List Prt} (h1 : bf s = 0) (h5 : 0 ≤ B) (h6 : B ≤ 400) (hr : Right s B ps) (hz : ∀ i, i < ps.length → (prt ps i).1 = 0 ∧ loud (prt ps i).2 = 0) :
    PckF ps s B 0 ∧ oct (pbits ps) = List.replicate ((6 * s.length + 7) / 8) 0 := by
  obtain ⟨n0, n8, hsz, n32⟩ := bf_ok h1
  have hl : lds ps = upto (fun _ => 0) s.length := by
    refine eq_of_at (by rw [lds_length, upto_length, hr.len]) fun i hi => ?_
    rw [lds_length] at hi
    rw [lds_at hi, upto_at _ (by rw [← hr.len]; exact hi), (hz i hi).2]
    rfl
  have hc : cost s (lds ps) = 0 := by rw [hl]; exact cost_zeros hsz
  have hln := hr.len
  have hlen : (pbits ps).length = 6 * s.length := by rw [pack_length hr, hc, hr.len]; rfl
  refine ⟨Or.inr ⟨hr.frm h1 ⟨h5, h6⟩, by rw [if_neg (by rw [hc]; omega)]⟩, ?_⟩
  have hzz : ∀ i, i < (wids ps).length → at0 (nums ps) i = 0 := fun i hi => by
    rw [wids_length] at hi
    by_cases e : i < ps.length
    · rw [nums_gain e]; exact (hz i e).1
    · obtain ⟨j, rfl⟩ : ∃ j, i = ps.length + j := ⟨i - ps.length, by omega⟩
      have hj : j < ps.length := by omega
      rw [nums_rank hj, (hz j hj).2]
      exact rk_zero _ (hz j hj).2
  have e := bins_zero hzz
  have e2 : pbits ps = List.replicate (6 * s.length) 0 := by
    rw [← hlen]
    exact e
  rw [e2, oct_zeros]
/-- The fact of one nought. -/
theorem fact_frm : FrmF [(0, [0])] [1] 0 0 := by
  refine Or.inr ⟨by decide +kernel, Or.inr ⟨rfl, Or.inr ⟨fun i hi => ?_, Or.inr ⟨by decide +kernel, Or.inr ⟨⟨by omega, by omega⟩, Or.inr ⟨fun i hi => ?_, rfl⟩⟩⟩⟩⟩⟩
  · obtain rfl : i = 0 := by simpa using hi
    rfl
  · obtain rfl : i = 0 := by simpa using hi
    decide +kernel
theorem fact_pck : PckF [(0, [0])] [1] 0 0 ∧ oct (pbits [(0, [0])]) = [0] := ⟨Or.inr ⟨fact_frm, by decide +kernel⟩, by decide +kernel⟩

end Go.Proofs.YthkibjhhlcfceaiGreatDoor.Pck
