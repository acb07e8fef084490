/-
  hornref1's Gain and Value: by their contracts.
-/
import Derived.Test.YthkibjhhlcfceaiGreatDoorPk20
import Derived.Test.YthkibjhhlcfceaiGreatDoorPk07
import Derived.Test.YthkibjhhlcfceaiGreatDoorPk03
import Derived.Deep.QuietTactic
import Derived.BigQuiet
import Derived.BigRegion
import Derived.Deep.WholeRow
import Derived.Laws.CopyOwn
namespace Go.Proofs.YthkibjhhlcfceaiGreatDoor.Gai
open Go.RowKit
set_option linter.unusedVariables false

set_option maxHeartbeats 2000000 in
theorem refGain (n : Nat) (h : n ≤ 8000) (w : World) :
    Calls Tryz.prog 24 #[.int .i64 n] w fun e w' => e = .returned (.int .i64 (gi n)) ∧ w = w' := by
  rcases Nat.eq_zero_or_pos n with e | hn
  · subst e
    go_enter Tryz.func24, Tryz.ntmps24
    go_wp2
    go_ret
    exact ⟨rfl, rfl⟩
  · have hz : ((n : Int) == 0) = false := by simp; omega
    go_enter Tryz.func24, Tryz.ntmps24
    go_wp2
    go_loop [3, 4] (fun m p => ∃ M P : Nat, m = .int .i64 M ∧ p = .int .i64 P ∧ Hid (2 ^ M = P) ∧ M ≤ 12 ∧ 0 < P ∧ P ≤ n) (fun _ p => n - (intOf p).toNat)
    case atStart => exact ⟨0, 1, rfl, rfl, rfl, by omega, by omega, hn⟩
    case round =>
      obtain ⟨M, P, rfl, rfl, HP, hM, hp0, hp⟩ := hrel
      by_cases hlt : 2 * P ≤ n
      · have HP2 : Hid (2 ^ (M + 1) = 2 * P) := hide (by rw [Nat.pow_succ, unhide HP]; omega)
        have hM2 : M + 1 ≤ 12 := log_in (n := n) (by rw [unhide HP2]; exact hlt) h
        go_wp2
        go_round
        case rel => exact ⟨M + 1, 2 * P, by go_num, by go_num, HP2, hM2, by omega, hlt⟩
        case measure => simp [intOf]; omega
      · go_wp2
        go_loop [5] (fun q => ∃ Q : Nat, q = .int .i64 Q ∧ Q ≤ 3 ∧ Hid (Q * P ≤ 4 * (n - P))) (fun q => 3 - (intOf q).toNat)
        case atStart => exact ⟨0, rfl, by omega, by show 0 * P ≤ _; omega⟩
        case round =>
          obtain ⟨Q, rfl, hQ, HQ⟩ := hrel
          by_cases hq : (Q + 1) * P ≤ 4 * (n - P)
          · have hQ' : Q = 0 ∨ Q = 1 ∨ Q = 2 := by
              have : Q ≠ 3 := by rintro rfl; omega
              omega
            have HQ2 := hide hq
            rcases hQ' with rfl | rfl | rfl
            all_goals
              go_wp2
              go_round
              case rel => first | exact ⟨1, rfl, by omega, HQ2⟩ | exact ⟨2, rfl, by omega, HQ2⟩ | exact ⟨3, rfl, by omega, HQ2⟩
              case measure => simp [intOf]
          · have HE : Hid (gi n = 1 + 4 * M + Q) := hide (gi_is (by rw [unhide HP]; exact hp) (by rw [Nat.pow_succ, unhide HP]; omega) (by rw [unhide HP]; exact fourths hp0 (unhide HQ) (by omega)))
            have hQ' : Q = 0 ∨ Q = 1 ∨ Q = 2 ∨ Q = 3 := by omega
            rcases hQ' with rfl | rfl | rfl | rfl
            all_goals
              go_wp2
              go_ret
              exact ⟨ret_int (by rw [unhide HE]; omega), rfl⟩

/-- What hornref1's Value answers. -/
theorem refValue_far (g : Int) (w : World) (h : g < 0 ∨ (0 ≤ g ∧ 53 < g)) :
    Calls Tryz.prog 32 #[.int .i64 g] w fun e w' => e = .returned (.tuple #[.int .i64 0, .bool false]) ∧ w = w' := by
  rcases h with h | ⟨h, g⟩
  all_goals
    go_enter Tryz.func32, Tryz.ntmps32
    go_wp2
    go_ret2
    exact ⟨rfl, rfl⟩

theorem refValue_zero (w : World) :
    Calls Tryz.prog 32 #[.int .i64 0] w fun e w' => e = .returned (.tuple #[.int .i64 0, .bool true]) ∧ w = w' := by
  go_enter Tryz.func32, Tryz.ntmps32
  go_wp2
  go_ret2
  exact ⟨rfl, rfl⟩

/-- What may be of a gain. -/
def Way (g N : Nat) : Prop := (8000 < N ∧ Hid (vo g = false)) ∨ (N ≤ 8000 ∧ ∃ B : Nat, Hid (gi N = B) ∧ (((B : Int) == (g : Int)) = false ∧ Hid (vo g = false) ∨ B = g ∧ Hid (vo g = true ∧ vl g = N)))
theorem way {g : Nat} (hg : 0 < g) : Way g (mid g) := by
  have ev : vl g = mid g := by unfold vl; rw [if_neg (by omega)]
  cases h : vo g with
  | true =>
    obtain ⟨h1, h2⟩ := vo_is h
    rw [ev] at h1 h2
    exact Or.inr ⟨h1, g, h2, Or.inr ⟨rfl, h, ev⟩⟩
  | false =>
    have h1 := vo_not h
    rw [ev] at h1
    rcases h1 with h1 | ⟨h1, h2⟩
    · exact Or.inl ⟨h1, h⟩
    · exact Or.inr ⟨h1, _, rfl, Or.inl ⟨by simp; omega, h⟩⟩
/-- The answer. -/
def Ans (g : Nat) (e : Ending) : Prop := (Hid (vo g = true) ∧ e = .returned (.tuple #[.int .i64 (vl g), .bool true])) ∨ (Hid (vo g = false) ∧ e = .returned (.tuple #[.int .i64 0, .bool false]))

set_option maxHeartbeats 2000000 in
theorem refValue_some (g : Nat) (hg : 0 < g) (h : g ≤ 53) (w : World) :
    Calls Tryz.prog 32 #[.int .i64 g] w fun e w' => Ans g e ∧ w = w' := by
  obtain ⟨m, q, P, e1, e2, hm, hq, e3, hp, hp', HM⟩ := mid_is hg h
  have hz : ((g : Int) == 0) = false := by simp; omega
  have hwy := way hg
  have HE3 := hide e3
  obtain ⟨N, hN⟩ : ∃ N, mid g = N := ⟨_, rfl⟩
  have hN1 := unhide HM
  rw [hN] at hwy hN1
  have HN := hide hN1
  clear HM hN e3 hN1
  go_enter Tryz.func32, Tryz.ntmps32
  go_wp2
  go_loop [4, 5] (fun p i => ∃ j R : Nat, j ≤ m ∧ i = .int .i64 j ∧ p = .int .i64 R ∧ Hid (2 ^ j = R) ∧ R ≤ 8192) (fun _ i => m - (intOf i).toNat)
  case atStart => exact ⟨0, 1, Nat.zero_le _, rfl, rfl, rfl, by omega⟩
  case round =>
    obtain ⟨j, R, hj, rfl, rfl, HR, hR⟩ := hrel
    by_cases hlt : j < m
    · have HR2 : Hid (2 ^ (j + 1) = 2 * R) := hide (by rw [Nat.pow_succ, unhide HR]; omega)
      have hR2 : 2 * R ≤ 8192 := by
        rw [← unhide HR2]; exact Nat.pow_le_pow_right (j := 13) (by omega) (by omega)
      go_wp2
      go_round
      case rel => exact ⟨j + 1, 2 * R, by omega, by go_num, by go_num, HR2, hR2⟩
      case measure => simp [intOf]; omega
    · obtain rfl : j = m := by omega
      obtain rfl : R = P := by
        have e := unhide HE3
        rw [show (2 : Int) ^ j = ((2 ^ j : Nat) : Int) by simp, unhide HR] at e
        omega
      have hq' : q = 0 ∨ q = 1 ∨ q = 2 ∨ q = 3 := by omega
      rcases hwy with ⟨hw, HV⟩ | ⟨hw, B, HB, hwy⟩
      · rcases hq' with rfl | rfl | rfl | rfl
        all_goals
          first
            | have hX : (R : Int) + (R : Int) / 8 = (N : Int) := by have := unhide HN; omega
            | have hX : (R : Int) + 3 * (R : Int) / 8 = (N : Int) := by have := unhide HN; omega
            | have hX : (R : Int) + 5 * (R : Int) / 8 = (N : Int) := by have := unhide HN; omega
            | have hX : (R : Int) + 7 * (R : Int) / 8 = (N : Int) := by have := unhide HN; omega
          go_wp2
          go_ret2
          exact ⟨Or.inr ⟨HV, rfl⟩, rfl⟩
      · have hc := refGain N hw w
        rw [unhide HB] at hc
        have HC := hide hc
        clear hc
        rcases hwy with ⟨hne, HV⟩ | ⟨rfl, HV⟩
        · have hne' : ((B : Int) != (g : Int)) = true := by simp [bne, hne]
          rcases hq' with rfl | rfl | rfl | rfl
          all_goals
            first
              | have hX : (R : Int) + (R : Int) / 8 = (N : Int) := by have := unhide HN; omega
              | have hX : (R : Int) + 3 * (R : Int) / 8 = (N : Int) := by have := unhide HN; omega
              | have hX : (R : Int) + 5 * (R : Int) / 8 = (N : Int) := by have := unhide HN; omega
              | have hX : (R : Int) + 7 * (R : Int) / 8 = (N : Int) := by have := unhide HN; omega
            go_wp2_with fail
            refine (unhide HC).mono ?_
            rintro e w1 ⟨rfl, rfl⟩
            go_wp2
            go_ret2
            exact ⟨Or.inr ⟨HV, rfl⟩, rfl⟩
        · have hne : ((B : Int) == (B : Int)) = true := by simp
          have hv := (unhide HV).2
          rcases hq' with rfl | rfl | rfl | rfl
          all_goals
            first
              | have hX : (R : Int) + (R : Int) / 8 = (N : Int) := by have := unhide HN; omega
              | have hX : (R : Int) + 3 * (R : Int) / 8 = (N : Int) := by have := unhide HN; omega
              | have hX : (R : Int) + 5 * (R : Int) / 8 = (N : Int) := by have := unhide HN; omega
              | have hX : (R : Int) + 7 * (R : Int) / 8 = (N : Int) := by have := unhide HN; omega
            go_wp2_with fail
            refine (unhide HC).mono ?_
            rintro e w1 ⟨rfl, rfl⟩
            go_wp2
            go_ret2
            exact ⟨Or.inl ⟨(unhide HV).1, by rw [hv]; rfl⟩, rfl⟩

end Go.Proofs.YthkibjhhlcfceaiGreatDoor.Gai

/-
  hornref1.Bits: by its contract.
-/
namespace Go.Proofs.YthkibjhhlcfceaiGreatDoor.Cnt
open Go.RowKit
set_option linter.unusedVariables false

set_option maxHeartbeats 4000000 in
theorem refBits (m : Int) (hm : m ≤ 20256) (w : World) :
    Calls Tryz.prog 46 #[.int .i64 m] w fun e w' => ∃ b : Nat, e = .returned (.int .i64 b) ∧ Least m b ∧ w = w' := by
  go_enter Tryz.func46, Tryz.ntmps46
  go_wp2
  go_loop [3, 4] (fun i p => ∃ (j : Nat) (P : Int), j ≤ 15 ∧ i = .int .i64 j ∧ p = .int .i64 P ∧ Hid (P = 2 ^ j) ∧ Hid (∀ i, i < j → (2 : Int) ^ i < m)) (fun i _ => 15 - (intOf i).toNat)
  case atStart => exact ⟨0, 1, by omega, rfl, rfl, rfl, fun i hi => absurd hi (by omega)⟩
  case round =>
    obtain ⟨j, P, hj, rfl, rfl, HP, H⟩ := hrel
    obtain ⟨p0, p1⟩ := pow_in j (by omega)
    rw [← unhide HP] at p0 p1
    by_cases hlt : P < m
    · have hj2 : j < 15 := by
        rcases Nat.lt_or_ge j 15 with h | h
        · exact h
        · obtain rfl : j = 15 := by omega
          have := unhide HP
          omega
      have H2 : Hid (∀ i, i < j + 1 → (2 : Int) ^ i < m) := hide (fun i hi => by
        rcases Nat.lt_or_ge i j with h | h
        · exact unhide H i h
        · obtain rfl : i = j := by omega
          rw [← unhide HP]; exact hlt)
      have H3 : Hid (2 * P = 2 ^ (j + 1)) := hide (by rw [unhide HP, Int.pow_succ]; omega)
      go_wp2
      go_round
      case rel => exact ⟨j + 1, 2 * P, by omega, by go_num, by go_num, H3, H2⟩
      case measure => simp [intOf]; omega
    · have hle : Hid (m ≤ (2 : Int) ^ j) := hide (by rw [← unhide HP]; omega)
      go_wp2
      go_ret
      exact ⟨j, rfl, ⟨unhide hle, unhide H⟩, rfl⟩

end Go.Proofs.YthkibjhhlcfceaiGreatDoor.Cnt

/-
  hornref1.Count: by its contract.
-/
namespace Go.Proofs.YthkibjhhlcfceaiGreatDoor.Cnt
open Go.RowKit
open Go.Proofs.YthkibjhhlcfceaiGreatDoor.Tre
set_option linter.unusedVariables false

/-- Nine numbers in memory. -/
def nine (f : Nat → Int) : Array Value := ((upto f 9).map (Value.int .i64)).toArray
theorem nine_size (f : Nat → Int) : (nine f).size = 9 := by simp [nine, upto_length]
theorem nine_at (f : Nat → Int) {j : Nat} (h : j < 9) : (nine f)[j]? = some (.int .i64 (f j)) := by simp [nine, upto, h]
theorem nine_set (f : Nat → Int) {j : Nat} (x : Int) : (nine f).setIfInBounds j (.int .i64 x) = nine (fun y => if y = j then x else f y) := by
  apply Array.ext
  · simp [nine_size]
  · intro i h1 h2
    rw [nine_size] at h2
    have e1 := nine_at (fun y => if y = j then x else f y) h2
    have e2 := nine_at f h2
    rw [Array.getElem?_eq_getElem (by rw [nine_size]; exact h2)] at e1 e2
    rw [Option.some.inj e1, Array.getElem_setIfInBounds (by rw [nine_size]; exact h2)]
    by_cases h : j = i
    · subst h; simp
    · rw [if_neg h, Option.some.inj e2, if_neg (fun e => h e.symm)]
theorem nine_congr {f g : Nat → Int} (h : ∀ i, i < 9 → f i = g i) : nine f = nine g := by unfold nine; rw [upto_congr h]
theorem nine_one (f : Nat → Int) : (nine f).all (·.oneCell') = true := by
  rw [Array.all_eq_true_iff_forall_mem]
  intro v hv
  obtain ⟨z, _, rfl⟩ := List.mem_map.1 (by simpa [nine] using hv)
  rfl
def Arr (w : World) (g : Nat) (f : Nat → Int) : Prop := w.heap[g]? = some (.cells (nine f) 100 (0, 0))
theorem Arr.cell {w : World} {g : Nat} {f : Nat → Int} (h : Arr w g f) {j : Nat} (hj : j < 9) : w.cell? ⟨g, j, none⟩ = some (.int .i64 (f j)) := by
  rw [cell_of_row w g j _ _ _ h, nine_at f hj]
theorem Arr.frozen {w : World} {g : Nat} {f : Nat → Int} (h : Arr w g f) (j : Nat) : w.frozen? ⟨g, j, none⟩ = false := frozen_of_row w g j _ _ h
theorem Arr.put {w : World} {g : Nat} {f : Nat → Int} (h : Arr w g f) (j : Nat) (x : Int) : Arr (w.setCell ⟨g, j, none⟩ (.int .i64 x)) g (fun y => if y = j then x else f y) := by
  unfold Arr
  rw [setCell_eq_setRow w g j _ _ _ _ h, setRow_heap w g _ _ _ _ h, nine_set]
theorem Arr.beside {w : World} {g g' : Nat} {f : Nat → Int} (h : Arr w g f) (hne : g ≠ g') (j : Nat) (v : Value) : Arr (w.setCell ⟨g', j, none⟩ v) g f := by
  unfold Arr
  rw [Below.heap_setCell _ _ _ _ hne]
  exact h
theorem Arr.lt {w : World} {g : Nat} {f : Nat → Int} (h : Arr w g f) : g < w.heap.size := (Array.getElem?_eq_some_iff.1 h).1

/-- What is done of one number more: the first j are as they will be, the next one is c. -/
def nx (i j : Nat) (c : Int) : Nat → Int := fun y => if y < j then V y (i + 1) else if y = j then c else 0
/-- As many as are wanted, up to k pulses. -/
def T (k i : Nat) : Nat → Int := fun y => if y < k + 1 then V y i else 0
theorem nx_zero (i : Nat) : nine (nx i 0 0) = nine (fun _ => 0) := nine_congr fun y _ => by simp [nx]
theorem nx_at (i j : Nat) (c : Int) : nx i j c j = c := by simp [nx]
theorem nx_put (i j : Nat) (c x : Int) : (fun y => if y = j then x else nx i j c y) = nx i j x := by
  funext y
  unfold nx
  by_cases h : y = j
  · subst h; simp
  · simp [h]
theorem nx_next (i j : Nat) : nx i j (V j (i + 1)) = nx i (j + 1) 0 := by
  funext y
  unfold nx
  rcases Nat.lt_trichotomy y j with h | h | h
  · rw [if_pos h, if_pos (by omega)]
  · subst h; rw [if_neg (by omega), if_pos rfl, if_pos (by omega)]
  · rw [if_neg (by omega), if_neg (by omega), if_neg (by omega)]; split <;> rfl
theorem nx_end (i k : Nat) : nx i (k + 1) 0 = T k (i + 1) := by
  funext y
  unfold nx T
  by_cases h : y < k + 1
  · rw [if_pos h, if_pos h]
  · rw [if_neg h, if_neg h]; split <;> rfl
theorem T_zero (k : Nat) : nine (T k 0) = #[.int .i64 1, .int .i64 0, .int .i64 0, .int .i64 0, .int .i64 0, .int .i64 0, .int .i64 0, .int .i64 0, .int .i64 0] := by
  have h : nine (T k 0) = nine (fun y => if y = 0 then 1 else 0) := nine_congr fun y _ => by
    unfold T
    cases y with
    | zero => simp [V_zero]
    | succ y => rw [V_none]; simp
  rw [h]; rfl
theorem T_at (k i : Nat) {y : Nat} (h : y ≤ k) : T k i y = V y i := by unfold T; rw [if_pos (by omega)]

theorem sumF_in {f : Nat → Int} {j : Nat} (h : ∀ t, t < j → 0 ≤ f t) : ∀ y, y ≤ j → 0 ≤ sumF f y ∧ sumF f y ≤ sumF f j := by
  have h0 : ∀ y, y ≤ j → 0 ≤ sumF f y := by
    intro y
    induction y with
    | zero => intro _; exact Int.le_refl _
    | succ y ih => intro hy; have := ih (by omega); have := h y (by omega); simp only [sumF]; omega
  have h1 : ∀ d, d ≤ j → sumF f (j - d) ≤ sumF f j := by
    intro d
    induction d with
    | zero => intro _; exact Int.le_refl _
    | succ d ih =>
      intro hd
      have h2 := ih (by omega)
      have h3 := h (j - (d + 1)) (by omega)
      have e : j - d = (j - (d + 1)) + 1 := by omega
      rw [e] at h2
      simp only [sumF] at h2
      omega
  intro y hy
  refine ⟨h0 y hy, ?_⟩
  have := h1 (j - y) (by omega)
  rwa [show j - (j - y) = y by omega] at this

/-- Of the last x. -/
def part (i j x : Nat) : Int := V j i + 2 * (sumF (fun t => V t i) j - sumF (fun t => V t i) (j - x))
theorem part_zero (i j : Nat) : part i j 0 = V j i := by unfold part; rw [Nat.sub_zero]; omega
theorem part_all (i j : Nat) : part i j j = V j (i + 1) := by
  unfold part
  rw [V_more, Nat.sub_self]
  simp only [sumF]
  omega
theorem part_succ (i : Nat) {j x d : Nat} (hd : j = d + (x + 1)) : part i j (x + 1) = part i j x + 2 * V d i := by
  unfold part
  have e1 : j - (x + 1) = d := by omega
  have e2 : j - x = d + 1 := by omega
  rw [e1, e2]
  simp only [sumF]
  omega
theorem part_in {i j : Nat} (hi : i < 6) (hj : j < 9) {x : Nat} (hx : x ≤ j) : 0 ≤ part i j x ∧ part i j x ≤ 20256 := by
  have h := sumF_in (f := fun t => V t i) (j := j) (fun t ht => (V_in t i (by omega) (by omega)).1) (j - x) (by omega)
  have h0 := V_in j i hj (by omega)
  have h1 := V_in j (i + 1) hj (by omega)
  rw [V_more] at h1
  unfold part
  omega

set_option maxRecDepth 100000 in
set_option maxHeartbeats 8000000 in
theorem refCount (n k : Nat) (hn : n ≤ 6) (hk : k ≤ 8) (w : World) :
    Calls Tryz.prog 47 #[.int .i64 n, .int .i64 k] w fun e w' => e = .returned (.int .i64 (V k n)) ∧ Below w.heap.size w w' := by
  have hst : Hid (Arr (w.alloc (.cells #[.int .i64 1, .int .i64 0, .int .i64 0, .int .i64 0, .int .i64 0, .int .i64 0, .int .i64 0, .int .i64 0, .int .i64 0] 100)) w.heap.size (T k 0)) := hide (by unfold Arr; rw [T_zero]; exact heap_alloc_new _ _)
  have hbA : Below w.heap.size w (w.alloc (.cells #[.int .i64 1, .int .i64 0, .int .i64 0, .int .i64 0, .int .i64 0, .int .i64 0, .int .i64 0, .int .i64 0, .int .i64 0] 100)) := (Below.refl _ _).alloc (Nat.le_refl _) _
  go_enter Tryz.func47, Tryz.ntmps47
  go_wp2
  go_loopw [6] (fun i wr => ∃ p : Nat, p ≤ n ∧ i = .int .i64 p ∧ Hid (Arr wr w.heap.size (T k p)) ∧ Below w.heap.size w wr) (fun i _ => n - (intOf i).toNat)
  case atStart => exact ⟨0, Nat.zero_le _, rfl, hst, hbA⟩
  case round =>
    obtain ⟨p, hp, rfl, H0, hB⟩ := hrel
    clear hst hbA
    by_cases hlt : p < n
    · have hsz := (unhide H0).lt
      obtain ⟨g, hg⟩ : ∃ g, g = wr.heap.size := ⟨_, rfl⟩
      have hne : w.heap.size ≠ g := by omega
      have hle : w.heap.size ≤ g := by omega
      have HA : Hid (Arr (wr.alloc (.cells #[.int .i64 0, .int .i64 0, .int .i64 0, .int .i64 0, .int .i64 0, .int .i64 0, .int .i64 0, .int .i64 0, .int .i64 0] 100)) g (nx p 0 0)) := hide (by unfold Arr; rw [nx_zero, hg]; exact heap_alloc_new _ _)
      have HB : Hid (Arr (wr.alloc (.cells #[.int .i64 0, .int .i64 0, .int .i64 0, .int .i64 0, .int .i64 0, .int .i64 0, .int .i64 0, .int .i64 0, .int .i64 0] 100)) w.heap.size (T k p)) := hide (by unfold Arr; rw [heap_alloc_old _ _ hsz]; exact unhide H0)
      have hB1 : Below w.heap.size w (wr.alloc (.cells #[.int .i64 0, .int .i64 0, .int .i64 0, .int .i64 0, .int .i64 0, .int .i64 0, .int .i64 0, .int .i64 0, .int .i64 0] 100)) := hB.alloc (by omega) _
      clear hB H0 hsz
      go_wp2
      rw [← hg]
      go_loopw [8] (fun i wr => ∃ j : Nat, j ≤ k + 1 ∧ i = .int .i64 j ∧ Hid (Arr wr w.heap.size (T k p)) ∧ Hid (Arr wr g (nx p j 0)) ∧ Below w.heap.size w wr) (fun i _ => k + 1 - (intOf i).toNat)
      case atStart => exact ⟨0, Nat.zero_le _, rfl, HB, HA, hB1⟩
      case round =>
        obtain ⟨j, hj, rfl, H0, H1, hB2⟩ := hrel
        clear HA HB hB1 hg
        by_cases hlt2 : j ≤ k
        · have hc0 := (unhide H0).cell (show j < 9 by omega)
          rw [T_at k p hlt2] at hc0
          have hc1 := (unhide H1).cell (show j < 9 by omega)
          have hf1 := (unhide H1).frozen j
          have H2 : Hid (Arr (wr.setCell ⟨g, j, none⟩ (.int .i64 (V j p))) g (nx p j (part p j 0))) := hide (by
            have h := (unhide H1).put j (V j p)
            rw [nx_put] at h
            rw [part_zero]
            exact h)
          have H3 : Hid (Arr (wr.setCell ⟨g, j, none⟩ (.int .i64 (V j p))) w.heap.size (T k p)) := hide ((unhide H0).beside hne _ _)
          have hB3 : Below w.heap.size w (wr.setCell ⟨g, j, none⟩ (.int .i64 (V j p))) := hB2.setCell (p := ⟨g, j, none⟩) hle _
          obtain ⟨Z, hZ⟩ : ∃ Z, V j p = Z := ⟨_, rfl⟩
          rw [hZ] at hc0 H2 H3 hB3
          clear H0 H1 hB2 hZ
          go_wp2
          go_loopw [9] (fun i wr => ∃ x : Nat, x ≤ j ∧ i = .int .i64 (x + 1) ∧ Hid (Arr wr w.heap.size (T k p)) ∧ Hid (Arr wr g (nx p j (part p j x))) ∧ Below w.heap.size w wr) (fun i _ => j + 1 - (intOf i).toNat)
          case atStart => exact ⟨0, Nat.zero_le _, rfl, H3, H2, hB3⟩
          case round =>
            obtain ⟨x, hx, rfl, H4, H5, hB4⟩ := hrel
            clear H2 H3 hB3 hc0 hc1 hf1
            by_cases hlt3 : x < j
            · obtain ⟨d, hd⟩ : ∃ d, j = d + (x + 1) := ⟨j - (x + 1), by omega⟩
              have HS := hide (part_succ p hd)
              have hd9 : d < 9 := by omega
              have hsub : (j : Int) - ((x : Int) + 1) = (d : Int) := by omega
              have hc0 := (unhide H4).cell hd9
              rw [T_at k p (show d ≤ k by omega)] at hc0
              have hc1 := (unhide H5).cell (show j < 9 by omega)
              rw [nx_at] at hc1
              have hf1 := (unhide H5).frozen j
              obtain ⟨x0, x1⟩ := V_in d p hd9 (by omega)
              obtain ⟨y0, y1⟩ := part_in (show p < 6 by omega) (show j < 9 by omega) (show x ≤ j by omega)
              have P1 : Hid (∀ X, X = part p j (x + 1) → Arr (wr.setCell ⟨g, j, none⟩ (.int .i64 X)) g (nx p j (part p j (x + 1)))) := hide (by
                rintro X rfl
                have h := (unhide H5).put j (part p j (x + 1))
                rw [nx_put] at h
                exact h)
              have P2 : Hid (∀ X, Arr (wr.setCell ⟨g, j, none⟩ (.int .i64 X)) w.heap.size (T k p)) := hide (fun X => (unhide H4).beside hne _ _)
              have P3 : Hid (∀ X, Below w.heap.size w (wr.setCell ⟨g, j, none⟩ (.int .i64 X)).drew) := hide (fun X => (hB4.setCell (p := ⟨g, j, none⟩) hle _).trans ⟨rfl, rfl, rfl, Nat.le_refl _, fun _ _ => rfl⟩)
              obtain ⟨X, hX⟩ : ∃ X, V d p = X := ⟨_, rfl⟩
              obtain ⟨Y, hY⟩ : ∃ Y, part p j x = Y := ⟨_, rfl⟩
              rw [hX] at hc0 x0 x1 HS
              rw [hY] at hc1 y0 y1 HS
              have hwm : IntKind.i64.wrap (2 * X) = 2 * X := IntWalk.i64_in _ (by omega)
              have hwa : IntKind.i64.wrap (Y + 2 * X) = Y + 2 * X := IntWalk.i64_in _ (by omega)
              clear hX hY hd H4 H5 hB4
              go_wp2
              go_region
              go_wp2
              go_roundw
              case rel => exact ⟨x + 1, by omega, by go_num, unhide P2 _, unhide P1 _ (unhide HS).symm, unhide P3 _⟩
              case measure => simp [intOf]; omega
            · obtain rfl : x = j := by omega
              rw [part_all, nx_next] at H5
              go_wp2
              go_roundw
              case rel => exact ⟨x + 1, by omega, by go_num, H4, H5, hB4⟩
              case measure => simp [intOf]; omega
        · obtain rfl : j = k + 1 := by omega
          rw [nx_end] at H1
          have hg1 := unhide H1
          have hg0 := unhide H0
          unfold Arr at hg1 hg0
          have hi9 : (Tryz.prog.info? 100).map (·.size) = some 9 := by kernel_rfl
          have hi : (Tryz.prog.info? 100).map (·.size) = some (nine (T k (p + 1))).size := by rw [nine_size]; exact hi9
          have ho : (nine (T k p)).size = (nine (T k (p + 1))).size := by rw [nine_size, nine_size]
          have hall := nine_one (T k (p + 1))
          have G1 := hide hg1
          have G0 := hide hg0
          have HI := hide hi
          have HO := hide ho
          have HL := hide hall
          have HE : Hid (Arr (wr.setRow w.heap.size (nine (T k (p + 1)))) w.heap.size (T k (p + 1))) := hide (setRow_heap _ _ _ _ _ _ hg0)
          have hB5 : Below w.heap.size w (wr.setRow w.heap.size (nine (T k (p + 1)))) := below_setRow hB2 (Nat.le_refl _) _
          clear hg1 hg0 hi ho hall hi9 H0 H1
          go_wp2_with (first
            | (refine wpList_load_row rfl 100 _ rfl g rfl 100 _ _ _ (unhide G1) Tryz.underlying100 rfl (unhide HI) ?_)
            | (refine wpList_store_row rfl 100 _ _ rfl w.heap.size (nine (T k (p + 1))) rfl rfl 100 _ (unhide G0) (unhide HI) (unhide HO) (unhide HL) ?_))
          go_roundw
          case rel => exact ⟨p + 1, by omega, by go_num, HE, hB5⟩
          case measure => simp [intOf]; omega
    · obtain rfl : p = n := by omega
      have hc := (unhide H0).cell (show k < 9 by omega)
      rw [T_at k p (Nat.le_refl _)] at hc
      go_wp2
      go_ret
      exact ⟨rfl, hB⟩

end Go.Proofs.YthkibjhhlcfceaiGreatDoor.Cnt
