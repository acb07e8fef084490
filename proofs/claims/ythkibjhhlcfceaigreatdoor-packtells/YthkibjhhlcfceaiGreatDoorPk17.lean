/-
  What is told of a frame that is packed, and of bytes that are unpacked, with a fault and without.
-/
import Derived.Test.YthkibjhhlcfceaiGreatDoorPk10
import Derived.Test.YthkibjhhlcfceaiGreatDoorPk12
import Derived.Test.YthkibjhhlcfceaiGreatDoorPk14
import Derived.Test.YthkibjhhlcfceaiGreatDoorPk05
import Derived.Test.YthkibjhhlcfceaiGreatDoorPk09
import Derived.Test.YthkibjhhlcfceaiGreatDoorPk11
import Derived.Test.YthkibjhhlcfceaiGreatDoorPk16
namespace Go.Proofs.YthkibjhhlcfceaiGreatDoor.Pck
open Go.RowKit
open Go.Proofs.YthkibjhhlcfceaiGreatDoor.Tre Go.Proofs.YthkibjhhlcfceaiGreatDoor.Bnd Go.Proofs.YthkibjhhlcfceaiGreatDoor.Ev Go.Proofs.YthkibjhhlcfceaiGreatDoor.Frm Go.Proofs.YthkibjhhlcfceaiGreatDoor.Wid Go.Proofs.YthkibjhhlcfceaiGreatDoor.Hrn
set_option linter.unusedVariables false

/-- The text of a frame: none with a fault. -/
def pstr (ps : List Prt) (E : Int) : ByteArray := if E = 0 then str (oct (pbits ps)) else { data := #[] }
theorem pstr_ok (ps : List Prt) : pstr ps 0 = str (oct (pbits ps)) := rfl
theorem pstr_no (ps : List Prt) {E : Int} (h : E ≠ 0) : pstr ps E = { data := #[] } := by unfold pstr; rw [if_neg h]
/-- What Pack tells. -/
def PackSays (ps : List Prt) (s : List Int) (B : Int) (w : World) (e : Ending) (w' : World) : Prop := ∃ E, e = .returned (.tuple #[.string (pstr ps E), errV E]) ∧ PckF ps s B E ∧ Below w.heap.size w w'
/-- What Unpack tells. -/
def UnpSays (x : ByteArray) (s : List Int) (B : Int) (w : World) (e : Ending) (w' : World) : Prop :=
  ∃ E p q ps, e = .returned (.tuple #[.slice p ps.length q, errV E]) ∧ PtsN w.heap.size w' p ps ∧ ps.length ≤ q ∧ q ≤ 9223372036854775807 ∧ UnpF (byt x) s B E ps ∧ Below w.heap.size w w'

end Go.Proofs.YthkibjhhlcfceaiGreatDoor.Pck

/-
  Frames part by part: their faults and what they tell. No program here.
-/
namespace Go.Proofs.YthkibjhhlcfceaiGreatDoor.Frm
open Go.Proofs.YthkibjhhlcfceaiGreatDoor.Tre Go.Proofs.YthkibjhhlcfceaiGreatDoor.Bnd Go.Proofs.YthkibjhhlcfceaiGreatDoor.Pls Go.Proofs.YthkibjhhlcfceaiGreatDoor.Gai Go.Proofs.YthkibjhhlcfceaiGreatDoor.Shr
set_option linter.unusedVariables false

theorem drop_prt {ps : List Prt} {k : Nat} (h : k < ps.length) : ps.drop k = prt ps k :: ps.drop (k + 1) := by
  rw [List.drop_eq_getElem_cons h, prt_get h]
theorem oneF_zero {ps : List Prt} : oneF ps = 0 → ∀ i, i < ps.length → gok (prt ps i).1 = true ∧ fault (prt ps i).2 = 0 := by
  induction ps with
  | nil => intro _ i hi; simp at hi
  | cons p ps ih =>
    intro h i hi
    rw [oneF] at h
    split at h
    · rename_i h1
      split at h
      · rename_i h2
        cases i with
        | zero => exact ⟨h1, h2⟩
        | succ i => exact ih h i (by simpa using hi)
      · exact absurd h (by assumption)
    · omega
theorem oneF_none {ps : List Prt} (h : ∀ i, i < ps.length → gok (prt ps i).1 = true ∧ fault (prt ps i).2 = 0) : oneF ps = 0 := by
  induction ps with
  | nil => rfl
  | cons p ps ih =>
    have h0 : gok p.1 = true ∧ fault p.2 = 0 := h 0 (by simp)
    rw [oneF, if_pos h0.1, if_pos h0.2]
    exact ih fun i hi => h (i + 1) (by simpa using hi)

theorem frm_bf {ps : List Prt} {s : List Int} {B : Int} (h : bf s ≠ 0) : FrmF ps s B (bf s) := Or.inl ⟨h, rfl⟩
theorem frm_len {ps : List Prt} {s : List Int} {B : Int} (h : bf s = 0) (h2 : ps.length ≠ s.length) : FrmF ps s B 3 := Or.inr ⟨h, Or.inl ⟨h2, rfl⟩⟩
theorem frm_fit {ps : List Prt} {s : List Int} {B : Int} (h : bf s = 0) (h2 : ps.length = s.length) (h3 : ¬ Fits ps s) : FrmF ps s B 3 := Or.inr ⟨h, Or.inr ⟨h2, Or.inl ⟨h3, rfl⟩⟩⟩
theorem frm_one {ps : List Prt} {s : List Int} {B : Int} (h : bf s = 0) (h2 : ps.length = s.length) (h3 : Fits ps s) (h4 : oneF ps ≠ 0) : FrmF ps s B (oneF ps) := Or.inr ⟨h, Or.inr ⟨h2, Or.inr ⟨h3, Or.inl ⟨h4, rfl⟩⟩⟩⟩
theorem frm_bits {ps : List Prt} {s : List Int} {B : Int} (h : bf s = 0) (h2 : ps.length = s.length) (h3 : Fits ps s) (h4 : oneF ps = 0) (h5 : ¬ (0 ≤ B ∧ B ≤ 400)) : FrmF ps s B 1 := Or.inr ⟨h, Or.inr ⟨h2, Or.inr ⟨h3, Or.inr ⟨h4, Or.inl ⟨h5, rfl⟩⟩⟩⟩⟩
theorem frm_gets {ps : List Prt} {s : List Int} {B : Int} (h : bf s = 0) (h2 : ps.length = s.length) (h3 : Fits ps s) (h4 : oneF ps = 0) (h5 : 0 ≤ B ∧ B ≤ 400) (h6 : ¬ Gets ps (given (gns ps) s B)) : FrmF ps s B 3 := Or.inr ⟨h, Or.inr ⟨h2, Or.inr ⟨h3, Or.inr ⟨h4, Or.inr ⟨h5, Or.inl ⟨h6, rfl⟩⟩⟩⟩⟩⟩
theorem frm_ok {ps : List Prt} {s : List Int} {B : Int} (h : bf s = 0) (h2 : ps.length = s.length) (h3 : Fits ps s) (h4 : oneF ps = 0) (h5 : 0 ≤ B ∧ B ≤ 400) (h6 : Gets ps (given (gns ps) s B)) : FrmF ps s B 0 := Or.inr ⟨h, Or.inr ⟨h2, Or.inr ⟨h3, Or.inr ⟨h4, Or.inr ⟨h5, Or.inr ⟨h6, rfl⟩⟩⟩⟩⟩⟩

theorem take_prt {ps : List Prt} {k : Nat} (h : k < ps.length) : ps.take (k + 1) = ps.take k ++ [prt ps k] := by
  rw [List.take_succ_eq_append_getElem h, prt_get h]
theorem all_step {ps : List Prt} {k : Nat} (h : k < ps.length) : all (ps.take (k + 1)) = all (ps.take k) ++ told (prt ps k) := by
  unfold all
  rw [take_prt h, List.map_append, List.flatten_append]
  simp
theorem long_step {ps : List Prt} {k : Nat} (h : k < ps.length) : long (ps.take (k + 1)) = long (ps.take k) + (prt ps k).2.length := by
  unfold long
  rw [take_prt h, List.map_append, List.sum_append]
  simp
theorem long_mono (ps : List Prt) {k m : Nat} (h : k ≤ m) : long (ps.take k) ≤ long (ps.take m) := by
  induction m with
  | zero => obtain rfl : k = 0 := by omega
            exact Nat.le_refl _
  | succ m ih =>
    by_cases e : k = m + 1
    · subst e; exact Nat.le_refl _
    · have h1 := ih (by omega)
      by_cases hm : m < ps.length
      · rw [long_step hm]; omega
      · rw [List.take_of_length_le (l := ps) (i := m + 1) (by omega), ← List.take_of_length_le (l := ps) (i := m) (by omega)]
        rw [List.take_of_length_le (l := ps) (i := m) (by omega)] at h1 ⊢
        exact h1
theorem told_step {p : Prt} {j : Nat} (h : j < p.2.length) : (told p).take (j + 1) = (told p).take j ++ [tl (vl p.1.toNat) (loud p.2) (at0 p.2 j)] := by
  have e : at0 p.2 j = p.2[j] := by simp [at0, h]
  rw [List.take_succ_eq_append_getElem (by rw [told_length]; exact h), e]
  simp [told]
theorem twoF_zero {ps : List Prt} : twoF ps = 0 → ∀ i, i < ps.length → gok (prt ps i).1 = true ∧ fault (prt ps i).2 = 0 := by
  induction ps with
  | nil => intro _ i hi; simp at hi
  | cons p ps ih =>
    intro h i hi
    rw [twoF] at h
    split at h
    · rename_i h1
      split at h
      · rename_i h2
        cases i with
        | zero => exact ⟨h2, h1⟩
        | succ i => exact ih h i (by simpa using hi)
      · omega
    · exact absurd h (by assumption)
theorem twoF_none {ps : List Prt} (h : ∀ i, i < ps.length → gok (prt ps i).1 = true ∧ fault (prt ps i).2 = 0) : twoF ps = 0 := by
  induction ps with
  | nil => rfl
  | cons p ps ih =>
    have h0 : gok p.1 = true ∧ fault p.2 = 0 := h 0 (by simp)
    rw [twoF, if_pos h0.2, if_pos h0.1]
    exact ih fun i hi => h (i + 1) (by simpa using hi)
theorem loud_at {l : List Int} {j : Nat} (h : j < l.length) : (at0 l j).natAbs ≤ loud l := by
  induction l generalizing j with
  | nil => simp at h
  | cons x l ih =>
    cases j with
    | zero => simp [at0, loud]
    | succ j =>
      have := ih (j := j) (by simpa using h)
      simp only [loud]
      have e : at0 (x :: l) (j + 1) = at0 l j := by simp [at0]
      rw [e]
      omega
theorem tl_neg {v k x : Int} (h : x < 0) : tl v k x = -((x.natAbs : Int) * v / k) := by
  unfold tl
  rw [Int.sign_eq_neg_one_of_neg h]
  omega
theorem tl_pos {v k x : Int} (h : 0 ≤ x) : tl v k x = (x.natAbs : Int) * v / k := by
  unfold tl
  by_cases e : x = 0
  · subst e; simp
  · rw [Int.sign_eq_one_of_pos (by omega)]; omega
theorem tl_zero (v x : Int) : tl v 0 x = 0 := by simp [tl]

/-- A quotient towards 0. -/
theorem tl_quo {v k x : Int} (hv : 0 ≤ v) (hk : 0 < k) : Int.tdiv (x * v) k = tl v k x := by
  by_cases h : x < 0
  · rw [tl_neg h]
    have e : x * v = -((x.natAbs : Int) * v) := by
      rw [← Int.neg_mul]
      congr 1
      omega
    rw [e, Int.neg_tdiv, Int.tdiv_eq_ediv_of_nonneg (Int.mul_nonneg (by omega) hv)]
  · rw [tl_pos (by omega), Int.tdiv_eq_ediv_of_nonneg (Int.mul_nonneg (by omega) hv)]
    congr 2
    omega
theorem told_none {p : Prt} (h : loud p.2 = 0) : told p = upto (fun _ => 0) p.2.length := by
  refine eq_of_at (by rw [told_length, upto_length]) fun i hi => ?_
  rw [told_length] at hi
  rw [upto_at _ hi]
  unfold told at0
  rw [List.getElem?_map, List.getElem?_eq_getElem hi, h]
  simp [tl]
theorem told_upto (p : Prt) : told p = upto (fun i => tl (vl p.1.toNat) (loud p.2) (at0 p.2 i)) p.2.length := by
  refine eq_of_at (by rw [told_length, upto_length]) fun i hi => ?_
  rw [told_length] at hi
  rw [upto_at _ hi]
  unfold told at0
  rw [List.getElem?_map, List.getElem?_eq_getElem hi]
  rfl

end Go.Proofs.YthkibjhhlcfceaiGreatDoor.Frm

/-
  slices.EqualFunc at parts and sizes, slices.Equal: by their contracts.
-/
namespace Go.Proofs.YthkibjhhlcfceaiGreatDoor.Frm
open Go.RowKit
open Go.Proofs.YthkibjhhlcfceaiGreatDoor.Tre Go.Proofs.YthkibjhhlcfceaiGreatDoor.Bnd
set_option linter.unusedVariables false

/-- Whether parts fit sizes; whether lists are alike. -/
def FitB (ps : List Prt) (s : List Int) (t : Bool) : Prop := t = true ↔ ps.length = s.length ∧ Fits ps s
def AliB (l m : List Int) (t : Bool) : Prop := t = true ↔ ∀ i, i < l.length → at0 l i = at0 m i

theorem len1 (G : Int) (A : Option Addr) (L C : Nat) (n : Int) (w : World) (hL : L ≤ 9223372036854775807) :
    Calls Tryz.prog 36 #[.agg #[.int .i64 G, .slice A L C], .int .i64 n] w fun e w' => e = .returned (.bool ((L : Int) == n)) ∧ Below w.heap.size w w' := by
  go_enter Tryz.func36, Tryz.ntmps36
  go_wp2
  go_ret
  exact ⟨rfl, (Below.refl _ _).alloc (Nat.le_refl _) _⟩

set_option maxRecDepth 100000 in
set_option maxHeartbeats 4000000 in
theorem equalFunc (a : Option Addr) (cap : Nat) (ps : List Prt) (b : Option Addr) (capb : Nat) (s : List Int) (w : World) (zp : ps.length ≤ 9223372036854775807) (zs : s.length ≤ 9223372036854775807) (hp : Pts w a ps) (hs : Row w b s) :
    Calls Tryz.prog 35 #[.slice a ps.length cap, .slice b s.length capb, .func (.func 36) #[] #[]] w
      fun e w' => ∃ t : Bool, e = .returned (.bool t) ∧ FitB ps s t ∧ Below w.heap.size w w' := by
  by_cases hlen : ps.length = s.length
  · have HL := hide hlen
    obtain ⟨N, hN⟩ : ∃ N, s.length = N := ⟨_, rfl⟩
    have HN := hide hN
    rw [hlen, hN] at zp
    have HOK : Hid ((∀ r, r < N → ((prt ps r).2.length : Int) = at0 s r) → FitB ps s true) := hide (fun h => ⟨fun _ => ⟨hlen, fun i hi => h i (by rw [hlen, hN] at hi; exact hi)⟩, fun _ => rfl⟩)
    rw [hlen, hN]
    clear hlen hN zs
    go_enter Tryz.func35, Tryz.ntmps35
    go_wp2
    go_loopw [17] (fun i wr => ∃ k : Nat, k ≤ N ∧ i = .int .i64 k ∧ Hid (∀ r, r < k → ((prt ps r).2.length : Int) = at0 s r) ∧ Below w.heap.size w wr) (fun i _ => N - (intOf i).toNat)
    case atStart => exact ⟨0, Nat.zero_le _, rfl, hide (fun r hr => by omega), Below.refl _ _⟩
    case round =>
      obtain ⟨k, hk, rfl, HA, hB⟩ := hrel
      by_cases hlt : k < N
      · have hks : k < s.length := by rw [unhide HN]; exact hlt
        have hkl : k < ps.length := by rw [unhide HL]; exact hks
        obtain ⟨b1, off1, rfl, hb1, hc1⟩ := cell_at (hs.below hB) (by omega)
        have c1 := hc1 k hks
        obtain ⟨b2, off2, rfl, hb2, hc2⟩ := (hp.below hB).at hkl
        obtain ⟨x1, A, C, x2, x3, x4, x5, x6⟩ := hc2 k hkl
        have hL9 : (prt ps k).2.length ≤ 9223372036854775807 := by omega
        obtain ⟨G, hG⟩ : ∃ G, (prt ps k).1 = G := ⟨_, rfl⟩
        rw [hG] at x1
        have HNK : Hid (¬ ((prt ps k).2.length : Int) = at0 s k → FitB ps s false) := hide (fun h => ⟨fun h => by simp at h, fun h' => absurd (h'.2 k hkl) h⟩)
        have HQ : Hid (((prt ps k).2.length : Int) = at0 s k → ∀ r, r < k + 1 → ((prt ps r).2.length : Int) = at0 s r) := hide (fun h r hr => by
          by_cases e : r = k
          · rw [e]; exact h
          · exact unhide HA r (by omega))
        obtain ⟨L, hL⟩ : ∃ L, (prt ps k).2.length = L := ⟨_, rfl⟩
        obtain ⟨X, hX⟩ : ∃ X, at0 s k = X := ⟨_, rfl⟩
        rw [hL] at x2 hL9 HNK HQ
        rw [hX] at c1 HNK HQ
        have HC := hide (fun W => len1 G A L C X W hL9)
        have hB2 := hB.alloc hB.size (.cells #[.int .i64 G, .slice A L C] 58)
        have c1' : (wr.alloc (.cells #[.int .i64 G, .slice A L C] 58)).cell? ⟨b1, off1 + k, none⟩ = some (.int .i64 X) := by
          rw [((Below.refl wr.heap.size wr).alloc (Nat.le_refl _) _).cell (p := ⟨b1, off1 + k, none⟩) hb1]; exact c1
        clear hc1 hc2 x3 x4 x5 x6 hL hX hkl hks hG HA
        by_cases hq : (L : Int) = X
        · have hq' : ((L : Int) == X) = true := by rw [hq]; simp
          have HQ' := hide (unhide HQ hq)
          rw [hq'] at HC
          clear hq HNK HQ hq'
          go_wp2_with (go_at_call 36; refine (unhide HC _).mono ?_; rintro e w' ⟨rfl, hb'⟩)
          go_roundw
          case rel => exact ⟨k + 1, by omega, by go_num, HQ', Below.chain (by assumption) (by assumption)⟩
          case measure => simp [intOf]; omega
        · have hq' : ((L : Int) == X) = false := by rw [beq_eq_false_iff_ne]; exact hq
          have HP := hide (unhide HNK hq)
          rw [hq'] at HC
          clear hq HNK HQ hq'
          go_wp2_with (go_at_call 36; refine (unhide HC _).mono ?_; rintro e w' ⟨rfl, hb'⟩)
          go_ret
          exact ⟨_, rfl, unhide HP, Below.chain (by assumption) (by assumption)⟩
      · obtain rfl : k = N := by omega
        have HP := hide (unhide HOK (unhide HA))
        go_wp2
        go_ret
        exact ⟨_, rfl, unhide HP, hB⟩
  · have hq : ((ps.length : Int) == (s.length : Int)) = false := by rw [beq_eq_false_iff_ne]; omega
    have HQ : Hid (FitB ps s false) := hide ⟨fun h => by simp at h, fun h => absurd h.1 hlen⟩
    clear hlen
    go_enter Tryz.func35, Tryz.ntmps35
    go_wp2
    go_ret
    exact ⟨_, rfl, unhide HQ, Below.refl _ _⟩

theorem equal (a : Option Addr) (cap : Nat) (l : List Int) (b : Option Addr) (capb : Nat) (m : List Int) (w : World) (h8 : l.length ≤ 1000) (hlen : m.length = l.length) (hr : Row w a l) (hs : Row w b m) :
    Calls Tryz.prog 39 #[.slice a l.length cap, .slice b m.length capb] w
      fun e w' => ∃ t : Bool, e = .returned (.bool t) ∧ AliB l m t ∧ Below w.heap.size w w' := by
  rw [hlen]
  obtain ⟨N, hN⟩ : ∃ N, l.length = N := ⟨_, rfl⟩
  have HN := hide hN
  have HM := hide (hlen.trans hN)
  rw [hN] at h8 ⊢
  clear hlen hN
  go_enter Tryz.func39, Tryz.ntmps39
  go_wp2
  go_loopw [13] (fun i wr => ∃ k : Nat, k ≤ N ∧ i = .int .i64 k ∧ Hid (∀ r, r < k → at0 l r = at0 m r) ∧ Below w.heap.size w wr) (fun i _ => N - (intOf i).toNat)
  case atStart => exact ⟨0, Nat.zero_le _, rfl, hide (fun r hr => by omega), Below.refl _ _⟩
  case round =>
    obtain ⟨k, hk, rfl, HA, hB⟩ := hrel
    by_cases hlt : k < N
    · have hkl : k < l.length := by rw [unhide HN]; exact hlt
      have hkm : k < m.length := by rw [unhide HM]; exact hlt
      obtain ⟨b1, off1, rfl, hb1, hc1⟩ := cell_at (hr.below hB) (by omega)
      have c1 := hc1 k hkl
      obtain ⟨b2, off2, rfl, hb2, hc2⟩ := cell_at (hs.below hB) (by omega)
      have c2 := hc2 k hkm
      have HNK : Hid (¬ at0 l k = at0 m k → AliB l m false) := hide (fun h => ⟨fun h => by simp at h, fun h' => absurd (h' k hkl) h⟩)
      have HQ : Hid (at0 l k = at0 m k → ∀ r, r < k + 1 → at0 l r = at0 m r) := hide (fun h r hr => by
        by_cases e : r = k
        · rw [e]; exact h
        · exact unhide HA r (by omega))
      obtain ⟨X, hX⟩ : ∃ X, at0 l k = X := ⟨_, rfl⟩
      obtain ⟨Y, hY⟩ : ∃ Y, at0 m k = Y := ⟨_, rfl⟩
      rw [hX] at c1 HNK HQ
      rw [hY] at c2 HNK HQ
      clear hc1 hc2 hX hY hkl hkm HA
      by_cases hq : X = Y
      · have HQ' := hide (unhide HQ hq)
        have n1 : (X == Y) = true := by rw [hq]; simp
        have n2 : (X != Y) = false := by rw [hq]; simp
        clear hq HNK HQ
        go_wp2
        go_quiet (fail)
        go_wp2
        go_roundw
        case rel => exact ⟨k + 1, by omega, by go_num, HQ', hB.trans ⟨rfl, rfl, rfl, Nat.le_refl _, fun _ _ => rfl⟩⟩
        case measure => simp [intOf]; omega
      · have HP := hide (unhide HNK hq)
        have n1 : (X == Y) = false := by rw [beq_eq_false_iff_ne]; exact hq
        have n2 : (X != Y) = true := by simpa using hq
        clear hq HNK HQ
        go_wp2
        go_quiet (fail)
        go_wp2
        go_ret
        exact ⟨_, rfl, unhide HP, hB.trans ⟨rfl, rfl, rfl, Nat.le_refl _, fun _ _ => rfl⟩⟩
    · obtain rfl : k = N := by omega
      go_wp2
      go_ret
      exact ⟨_, rfl, ⟨fun _ i hi => unhide HA i (by rw [unhide HN] at hi; exact hi), fun _ => rfl⟩, hB⟩

end Go.Proofs.YthkibjhhlcfceaiGreatDoor.Frm
