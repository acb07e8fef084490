/-
  The numbers of chapter 10, as lists: sums, the greatest, shares that are Total in all. No program here.
-/
import Derived.Test.YthkibjhhlcfceaiGreatDoorPk00
import Derived.Maps.AppendAt
import Derived.OwnWalk
import Derived.OwnWalkIn
import Derived.Laws.OwnMore
import Derived.RangeFuncBox
import Derived.Deep.RegionLaw
import Derived.Deep.QuietTactic
import Derived.BigQuiet
namespace Go.Proofs.YthkibjhhlcfceaiGreatDoor.Scl
open Go.Proofs.YthkibjhhlcfceaiGreatDoor.Tre
set_option linter.unusedVariables false

/-- The first j, added up; all of them. -/
def pfx (l : List Int) : Nat → Int
  | 0 => 0
  | j + 1 => pfx l j + at0 l j
def tot (l : List Int) : Int := pfx l l.length

theorem pfx_congr {l m : List Int} {j : Nat} (h : ∀ i, i < j → at0 l i = at0 m i) : pfx l j = pfx m j := by
  induction j with
  | zero => rfl
  | succ j ih => rw [pfx, pfx, ih fun i hi => h i (by omega), h j (by omega)]
theorem at0_take {l : List Int} {i k : Nat} (h : i < k) : at0 (l.take k) i = at0 l i := by simp [at0, h]
theorem tot_take (l : List Int) {k : Nat} (h : k ≤ l.length) : tot (l.take k) = pfx l k := by
  unfold tot
  rw [List.length_take, Nat.min_eq_left h]
  exact pfx_congr fun i hi => at0_take hi
theorem at0_set {l : List Int} {i j : Nat} {x : Int} (hj : j < l.length) : at0 (l.set j x) i = if i = j then x else at0 l i := by
  unfold at0
  rw [List.getElem?_set]
  by_cases e : j = i
  · subst e; simp [hj]
  · rw [if_neg e, if_neg (fun h => e h.symm)]
theorem pfx_set {l : List Int} {j : Nat} {x : Int} (hj : j < l.length) (k : Nat) : pfx (l.set j x) k = pfx l k + if j < k then x - at0 l j else 0 := by
  induction k with
  | zero => simp [pfx]
  | succ k ih =>
    rw [pfx, pfx, ih, at0_set hj]
    by_cases e : k = j
    · subst e; simp; omega
    · rw [if_neg e]
      by_cases h : j < k
      · rw [if_pos h, if_pos (by omega)]; omega
      · rw [if_neg h, if_neg (by omega)]; omega
theorem tot_set {l : List Int} {j : Nat} {x : Int} (hj : j < l.length) : tot (l.set j x) = tot l + (x - at0 l j) := by
  unfold tot
  rw [List.length_set, pfx_set hj, if_pos hj]
theorem pfx_mono {l : List Int} {n : Nat} (h : ∀ i, i < n → 0 ≤ at0 l i) {i j : Nat} (hij : i ≤ j) (hj : j ≤ n) : pfx l i ≤ pfx l j := by
  induction j with
  | zero => obtain rfl : i = 0 := by omega
            exact Int.le_refl _
  | succ j ih =>
    by_cases e : i = j + 1
    · rw [e]; exact Int.le_refl _
    · have := ih (by omega) (by omega)
      have := h j (by omega)
      rw [pfx]; omega
theorem pfx_nonneg {l : List Int} {n : Nat} (h : ∀ i, i < n → 0 ≤ at0 l i) {j : Nat} (hj : j ≤ n) : 0 ≤ pfx l j := pfx_mono h (Nat.zero_le j) hj
/-- Each is no more than all. -/
theorem at_le_tot {l : List Int} (h : ∀ i, i < l.length → 0 ≤ at0 l i) {i : Nat} (hi : i < l.length) : at0 l i ≤ tot l := by
  have h1 := pfx_mono h (i := i + 1) (j := l.length) (by omega) (Nat.le_refl _)
  have h2 := pfx_nonneg h (j := i) (by omega)
  rw [pfx] at h1
  unfold tot
  omega
theorem pfx_le {l : List Int} {b : Int} {n : Nat} (h : ∀ i, i < n → at0 l i ≤ b) {j : Nat} (hj : j ≤ n) : pfx l j ≤ b * j := by
  induction j with
  | zero => simp [pfx]
  | succ j ih =>
    have h1 := ih (by omega)
    have h2 := h j (by omega)
    have e : b * ((j + 1 : Nat) : Int) = b * j + b := by rw [Int.natCast_add, Int.mul_add]; simp
    rw [pfx, e]; omega

/-- The place of the greatest of the first j, of several the first. -/
def bst (l : List Int) : Nat → Nat
  | 0 => 0
  | j + 1 => if at0 l (bst l j) < at0 l j then j else bst l j
/-- b is the place of the greatest, of several the first. -/
def IsBest (l : List Int) (b : Nat) : Prop := b < l.length ∧ (∀ i, i < l.length → at0 l i ≤ at0 l b) ∧ ∀ i, i < b → at0 l i < at0 l b
theorem IsBest.one {l : List Int} {b c : Nat} (h : IsBest l b) (k : IsBest l c) : b = c := by
  rcases Nat.lt_trichotomy b c with h1 | h1 | h1
  · have := k.2.2 b h1; have := h.2.1 c k.1; omega
  · exact h1
  · have := h.2.2 c h1; have := k.2.1 b h.1; omega
theorem bst_lt (l : List Int) (j : Nat) : bst l j < j ∨ (j = 0 ∧ bst l j = 0) := by
  induction j with
  | zero => exact Or.inr ⟨rfl, rfl⟩
  | succ j ih =>
    left
    rw [bst]
    split
    · omega
    · omega
theorem bst_is (l : List Int) (j : Nat) (hj : 0 < j) : (∀ i, i < j → at0 l i ≤ at0 l (bst l j)) ∧ ∀ i, i < bst l j → at0 l i < at0 l (bst l j) := by
  induction j with
  | zero => omega
  | succ j ih =>
    by_cases h0 : j = 0
    · subst h0
      have e : bst l 1 = 0 := by simp [bst]
      rw [e]
      exact ⟨fun i hi => by obtain rfl : i = 0 := by omega
                            exact Int.le_refl _, fun i hi => by omega⟩
    · obtain ⟨i1, i2⟩ := ih (by omega)
      rw [bst]
      split
      · rename_i h
        exact ⟨fun i hi => by
          by_cases e : i = j
          · rw [e]; exact Int.le_refl _
          · have := i1 i (by omega); omega, fun i hi => by have := i1 i hi; omega⟩
      · rename_i h
        exact ⟨fun i hi => by
          by_cases e : i = j
          · rw [e]; omega
          · exact i1 i (by omega), i2⟩
theorem bst_best (l : List Int) (h : 0 < l.length) : IsBest l (bst l l.length) := by
  obtain ⟨h1, h2⟩ := bst_is l l.length h
  rcases bst_lt l l.length with h3 | ⟨h3, _⟩
  · exact ⟨h3, h1, h2⟩
  · omega

/-- One step towards Total: the greatest is one less, or one more. -/
def nxt (l : List Int) : List Int := l.set (bst l l.length) (at0 l (bst l l.length) + if 256 < tot l then -1 else 1)
def run : Nat → List Int → List Int
  | 0, l => l
  | k + 1, l => run k (nxt l)
/-- Till they are Total. -/
def fit (l : List Int) : List Int := run (tot l - 256).natAbs l

/-- None is below 0, not all are 0, and there are not too many. -/
def Good (l : List Int) : Prop := l.length ≤ 40 ∧ (∀ i, i < l.length → 0 ≤ at0 l i) ∧ 0 < tot l
theorem Good.pos {l : List Int} (h : Good l) : 0 < l.length := by
  rcases Nat.eq_zero_or_pos l.length with e | e
  · have := h.2.2
    unfold tot at this
    rw [e] at this
    simp [pfx] at this
  · exact e
/-- The greatest is more than 0; and if they are more than Total, more than 1. -/
theorem Good.best {l : List Int} (h : Good l) {b : Nat} (hb : IsBest l b) : 1 ≤ at0 l b ∧ (256 < tot l → 2 ≤ at0 l b) := by
  have h1 := pfx_le (b := at0 l b) hb.2.1 (Nat.le_refl _)
  have h2 : tot l ≤ at0 l b * l.length := h1
  have h3 := h.2.2
  have h4 : (l.length : Int) ≤ 40 := by have := h.1; omega
  have hp := h.pos
  have h0 := h.2.1 b hb.1
  refine ⟨?_, fun h5 => ?_⟩
  · rcases Int.lt_or_le (at0 l b) 1 with e | e
    · have e0 : at0 l b = 0 := by omega
      rw [e0] at h2; simp at h2; omega
    · exact e
  · rcases Int.lt_or_le (at0 l b) 2 with e | e
    · have : at0 l b * (l.length : Int) ≤ 1 * (l.length : Int) := Int.mul_le_mul_of_nonneg_right (by omega) (by omega)
      omega
    · exact e
theorem nxt_is {l : List Int} {b : Nat} (h : IsBest l b) : nxt l = l.set b (at0 l b + if 256 < tot l then -1 else 1) := by
  have e := IsBest.one (bst_best l (Nat.lt_of_le_of_lt (Nat.zero_le _) h.1)) h
  unfold nxt
  rw [e]
theorem nxt_length (l : List Int) : (nxt l).length = l.length := by unfold nxt; rw [List.length_set]
theorem nxt_tot {l : List Int} (h : Good l) : tot (nxt l) = tot l + if 256 < tot l then -1 else 1 := by
  have hb := bst_best l h.pos
  rw [nxt_is hb, tot_set hb.1]; omega
theorem nxt_good {l : List Int} (h : Good l) : Good (nxt l) := by
  have hb := bst_best l h.pos
  obtain ⟨b1, b2⟩ := h.best hb
  refine ⟨by rw [nxt_length]; exact h.1, fun i hi => ?_, ?_⟩
  · rw [nxt_length] at hi
    rw [nxt_is hb, at0_set hb.1]
    split
    · split <;> omega
    · exact h.2.1 i hi
  · rw [nxt_tot h]
    have := h.2.2
    split <;> omega
/-- Who has a share keeps one; who has none gets none. -/
theorem nxt_zero {l : List Int} (h : Good l) {i : Nat} (hi : i < l.length) : (0 < at0 (nxt l) i ↔ 0 < at0 l i) := by
  have hb := bst_best l h.pos
  obtain ⟨b1, b2⟩ := h.best hb
  rw [nxt_is hb, at0_set hb.1]
  split
  · rename_i e
    rw [e]
    split
    · rename_i h1
      have := b2 h1
      omega
    · omega
  · exact Iff.rfl
theorem nxt_less {l : List Int} (h : Good l) (hne : tot l ≠ 256) : (tot (nxt l) - 256).natAbs + 1 = (tot l - 256).natAbs := by
  rw [nxt_tot h]
  split <;> omega
theorem fit_done {l : List Int} (h : tot l = 256) : fit l = l := by unfold fit; rw [h]; rfl
theorem fit_next {l : List Int} (h : Good l) (hne : tot l ≠ 256) : fit (nxt l) = fit l := by
  unfold fit
  rw [← nxt_less h hne, run]
theorem fit_is {P : List Int → Prop} (hP : ∀ l, Good l → P l → P (nxt l)) {l : List Int} (h : Good l) (h0 : P l) : P (fit l) ∧ Good (fit l) ∧ tot (fit l) = 256 := by
  have key : ∀ k l, Good l → P l → (tot l - 256).natAbs = k → P (fit l) ∧ Good (fit l) ∧ tot (fit l) = 256 := by
    intro k
    induction k with
    | zero =>
      intro l h h0 hk
      have e : tot l = 256 := by omega
      rw [fit_done e]
      exact ⟨h0, h, e⟩
    | succ k ih =>
      intro l h h0 hk
      have hne : tot l ≠ 256 := by omega
      rw [← fit_next h hne]
      exact ih _ (nxt_good h) (hP l h h0) (by have := nxt_less h hne; omega)
  exact key _ l h h0 rfl
theorem fit_length {l : List Int} (h : Good l) : (fit l).length = l.length := (fit_is (P := fun m => m.length = l.length) (fun m _ hm => by rw [nxt_length]; exact hm) h rfl).1
theorem fit_tot {l : List Int} (h : Good l) : tot (fit l) = 256 := (fit_is (P := fun _ => True) (fun _ _ _ => trivial) h trivial).2.2
theorem fit_good {l : List Int} (h : Good l) : Good (fit l) := (fit_is (P := fun _ => True) (fun _ _ _ => trivial) h trivial).2.1
theorem fit_zero {l : List Int} (h : Good l) {i : Nat} (hi : i < l.length) : (0 < at0 (fit l) i ↔ 0 < at0 l i) :=
  (fit_is (P := fun m => m.length = l.length ∧ (0 < at0 m i ↔ 0 < at0 l i)) (fun m hm ⟨h1, h2⟩ => ⟨by rw [nxt_length]; exact h1, (nxt_zero hm (by omega)).trans h2⟩) h ⟨rfl, Iff.rfl⟩).1.2

/-- A count's share, ahead of the steps; and those of all. -/
def shr (all c : Int) : Int := if c ≤ 0 then 0 else if c * 256 / all = 0 then 1 else c * 256 / all
def base (c : List Int) : List Int := upto (fun i => shr (tot c) (at0 c i)) c.length
def scale (c : List Int) : List Int := fit (base c)
/-- The fault of counts: 0 where there is none. -/
def wrong (n : Int) : Bool := decide (n < 0) || decide (1000000 < n)
def cf (c : List Int) : Int := if c.length = 0 then 5 else if 40 < c.length then 4 else if c.any wrong = true then 1 else if tot c = 0 then 5 else 0

theorem wrong_no {n : Int} (h : wrong n = false) : 0 ≤ n ∧ n ≤ 1000000 := by simp [wrong] at h; omega
theorem cf_ok {c : List Int} (h : cf c = 0) : 0 < c.length ∧ c.length ≤ 40 ∧ (∀ i, i < c.length → 0 ≤ at0 c i ∧ at0 c i ≤ 1000000) ∧ 0 < tot c := by
  unfold cf at h
  split at h
  · omega
  · split at h
    · omega
    · split at h
      · omega
      · split at h
        · omega
        · rename_i h1 h2 h3 h4
          have h5 : ∀ i, i < c.length → 0 ≤ at0 c i ∧ at0 c i ≤ 1000000 := fun i hi => by
            have e : at0 c i = c[i] := by simp [at0, hi]
            rw [e]
            have h6 : c.any wrong = false := by simpa using h3
            exact wrong_no (by simpa using List.any_eq_false.1 h6 _ (List.getElem_mem hi))
          have h7 := pfx_nonneg (l := c) (fun i hi => (h5 i hi).1) (Nat.le_refl _)
          exact ⟨by omega, by omega, h5, by unfold tot at *; omega⟩
theorem base_length (c : List Int) : (base c).length = c.length := upto_length _ _
theorem base_at (c : List Int) {i : Nat} (h : i < c.length) : at0 (base c) i = shr (tot c) (at0 c i) := upto_at _ h
theorem shr_in {all c : Int} (h0 : 0 ≤ c) (h1 : c ≤ all) : 0 ≤ shr all c ∧ shr all c ≤ 256 ∧ (0 < shr all c ↔ 0 < c) := by
  unfold shr
  split
  · exact ⟨by omega, by omega, by omega⟩
  · rename_i h2
    have hp : 0 < all := by omega
    have h3 : 0 ≤ c * 256 / all := Int.ediv_nonneg (by omega) (by omega)
    have h4 : c * 256 / all ≤ 256 := by
      have h5 : c * 256 / all < 257 := (Int.ediv_lt_iff_lt_mul hp).2 (by omega)
      omega
    split
    · exact ⟨by omega, by omega, by omega⟩
    · exact ⟨by omega, by omega, by omega⟩
theorem base_good {c : List Int} (h : cf c = 0) : Good (base c) := by
  obtain ⟨h1, h2, h3, h4⟩ := cf_ok h
  have hn : ∀ i, i < (base c).length → 0 ≤ at0 (base c) i := fun i hi => by
    rw [base_length] at hi
    rw [base_at c hi]
    exact (shr_in (h3 i hi).1 (at_le_tot (fun i hi => (h3 i hi).1) hi)).1
  refine ⟨by rw [base_length]; exact h2, hn, ?_⟩
  -- one was counted, and has a share
  have key : ∃ i, i < c.length ∧ 0 < at0 c i := by
    by_cases hh : ∃ i, i < c.length ∧ 0 < at0 c i
    · exact hh
    · have h5 := pfx_le (l := c) (b := 0) (n := c.length) (fun i hi => by
        rcases Int.lt_or_le 0 (at0 c i) with e | e
        · exact absurd ⟨i, hi, e⟩ hh
        · exact e) (Nat.le_refl _)
      simp at h5
      unfold tot at h4
      omega
  obtain ⟨i, hi, hp⟩ := key
  have h5 := at_le_tot hn (i := i) (by rw [base_length]; exact hi)
  rw [base_at c hi] at h5
  have h6 := ((shr_in (h3 i hi).1 (at_le_tot (fun i hi => (h3 i hi).1) hi)).2.2).2 hp
  omega
/-- All together Total; who was counted has a share, and no other. -/
theorem scale_is {c : List Int} (h : cf c = 0) : (scale c).length = c.length ∧ tot (scale c) = 256 ∧ (∀ i, i < c.length → 0 ≤ at0 (scale c) i) ∧ ∀ i, i < c.length → (0 < at0 (scale c) i ↔ 0 < at0 c i) := by
  have hg := base_good h
  obtain ⟨h1, h2, h3, h4⟩ := cf_ok h
  have hl : (scale c).length = c.length := by unfold scale; rw [fit_length hg, base_length]
  refine ⟨hl, fit_tot hg, fun i hi => (fit_good hg).2.1 i (by rw [fit_length hg, base_length]; exact hi), fun i hi => ?_⟩
  unfold scale
  rw [fit_zero hg (by rw [base_length]; exact hi), base_at c hi]
  exact (shr_in (h3 i hi).1 (at_le_tot (fun i hi => (h3 i hi).1) hi)).2.2

/-- Are shares right? -/
def right (f : List Int) : Prop := 1 ≤ f.length ∧ f.length ≤ 40 ∧ (∀ i, i < f.length → 0 ≤ at0 f i) ∧ tot f = 256
/-- Whose a place is. -/
def IsAt (f : List Int) (at' : Int) (k : Nat) : Prop := k < f.length ∧ pfx f k ≤ at' ∧ at' < pfx f k + at0 f k
theorem IsAt.one {f : List Int} (h : ∀ i, i < f.length → 0 ≤ at0 f i) {p : Int} {j k : Nat} (hj : IsAt f p j) (hk : IsAt f p k) : j = k := by
  rcases Nat.lt_trichotomy j k with e | e | e
  · have h1 := pfx_mono h (i := j + 1) (j := k) (by omega) (by have := hk.1; omega)
    rw [pfx] at h1
    have := hj.2.2; have := hk.2.1; omega
  · exact e
  · have h1 := pfx_mono h (i := k + 1) (j := j) (by omega) (by have := hj.1; omega)
    rw [pfx] at h1
    have := hk.2.2; have := hj.2.1; omega
theorem is_at {f : List Int} {p : Int} (h0 : 0 ≤ p) (h1 : p < tot f) : ∃ k, IsAt f p k := by
  have key : ∀ n, n ≤ f.length → p < pfx f n → ∃ k, IsAt f p k := by
    intro n
    induction n with
    | zero => intro _ h; simp [pfx] at h; omega
    | succ n ih =>
      intro hn h
      by_cases h2 : p < pfx f n
      · exact ih (by omega) h2
      · rw [pfx] at h
        exact ⟨n, by omega, by omega, h⟩
  exact key f.length (Nat.le_refl _) h1

end Go.Proofs.YthkibjhhlcfceaiGreatDoor.Scl

/-
  A slice of integers that this call has made itself: what it holds, and append onto it of whatever row (nil and empty ones too), inside a fence and outside.
-/
namespace Go.Proofs.YthkibjhhlcfceaiGreatDoor
open Go.RowKit
set_option linter.unusedVariables false

theorem info_int : (Tryz.prog.info? 3).map (fun i => (i.zero, i.size, i.bytes)) = some (some (.int .i64 0), 1, 8) := by kernel_rfl

/-- A slice of this call's own (its block at base or behind) holds l. -/
def Has (w : World) (base : Nat) (v : Value) (l : List Int) : Prop := w.ownsRow base 3 1 v l.length (l.map (Value.int .i64))

theorem Has.nil (w : World) (base : Nat) : Has w base (.slice none 0 0) [] := World.ownsRow_nil _ _ _ _
theorem Has.kept {w w' : World} {base : Nat} {v : Value} {l : List Int} {row : Option Nat} (h : Has w base v l) (hg : w.grownBy w' row) (hne : v.ownBlock = none ∨ v.ownBlock ≠ row) : Has w' base v l := World.ownsRow.kept h hg hne
theorem Has.alloc {w : World} {base : Nat} {v : Value} {l : List Int} (h : Has w base v l) (o : Obj) : Has (w.alloc o) base v l := World.ownsRow.alloc h o
theorem Has.below {w w' : World} {base : Nat} {v : Value} {l : List Int} (h : Has w base v l) (hb : Below w.heap.size w w') : Has w' base v l := by
  refine ⟨h.1, ?_⟩
  rcases h.2 with hn | ⟨g, cap, cur, rfl, hbg, hgg, rest⟩
  · exact .inl hn
  · exact .inr ⟨g, cap, cur, rfl, hbg, (hb.block g (Array.getElem?_eq_some_iff.1 hgg).1).trans hgg, rest⟩
theorem Has.mono {w : World} {base base' : Nat} {v : Value} {l : List Int} (h : Has w base v l) (hb : base' ≤ base) : Has w base' v l := by
  refine ⟨h.1, ?_⟩
  rcases h.2 with hn | ⟨g, cap, cur, rfl, hbg, rest⟩
  · exact .inl hn
  · exact .inr ⟨g, cap, cur, rfl, Nat.le_trans hb hbg, rest⟩
theorem Has.lt {w : World} {base : Nat} {v : Value} {l : List Int} (h : Has w base v l) : ∀ k, v.ownBlock = some k → base ≤ k ∧ k < w.heap.size := World.ownsRow.lt h

/-- .. as a slice and a row. -/
theorem Has.row {w : World} {base : Nat} {v : Value} {l : List Int} (h : Has w base v l) : ∃ a cap, v = .slice a l.length cap ∧ Row w a l := by
  rcases h.2 with ⟨h1, h2⟩ | ⟨g, cap, cur, hv, hb, hg, r⟩
  · have hl : l = [] := List.length_eq_zero_iff.1 h2
    subst hl
    exact ⟨none, 0, h1, Or.inl rfl⟩
  · refine ⟨some ⟨g, 0, none⟩, cap, hv, ?_⟩
    by_cases hl : l = []
    · exact Or.inl hl
    · refine Or.inr ⟨g, 0, rfl, (Array.getElem?_eq_some_iff.1 hg).1, fun j hj => ?_⟩
      subst hv
      rw [Nat.zero_add, World.ownsRow.cellAt h j (by omega)]
      simp [List.getD_eq_getElem?_getD, List.getElem?_eq_getElem hj]

theorem Has.shape {w : World} {base : Nat} {v : Value} {l : List Int} (h : Has w base v l) : ∃ a n cap, v = .slice a n cap := by
  obtain ⟨a, cap, e, _⟩ := h.row
  exact ⟨a, _, cap, e⟩

theorem row_one (w : World) (x : Int) (t : TypeId) : Row (w.alloc (.cells #[.int .i64 x] t)) (some ⟨w.heap.size, 0, none⟩) [x] := by
  refine Or.inr ⟨w.heap.size, 0, rfl, by simp, fun j hj => ?_⟩
  obtain rfl : j = 0 := by simpa using hj
  rw [World.cell?_alloc_at _ _ _ _ rfl]; rfl
theorem row_one' {w : World} {x : Int} {t : TypeId} {n : Nat} (h : w.heap.size = n) : Row (w.alloc (.cells #[.int .i64 x] t)) (some ⟨n, 0, none⟩) [x] := by
  subst h; exact row_one w x t
theorem row_two (w : World) (x y : Int) (t : TypeId) : Row (w.alloc (.cells #[.int .i64 x, .int .i64 y] t)) (some ⟨w.heap.size, 0, none⟩) [x, y] := by
  refine Or.inr ⟨w.heap.size, 0, rfl, by simp, fun j hj => ?_⟩
  have hj' : j = 0 ∨ j = 1 := by simp at hj; omega
  rcases hj' with rfl | rfl <;> (rw [World.cell?_alloc_at _ _ _ _ rfl]; rfl)

theorem addr_plain (b off j : Nat) : (⟨b, off, none⟩ : Addr).add j = ⟨b, off + j, none⟩ := by unfold Addr.add; split <;> simp_all

/-- append. -/
theorem run_app (w : World) (base : Nat) (v : Value) (l m : List Int) (ty : TypeId) (hv : Has w base v l) (ad : Option Addr) (cap : Nat) (hr : Row w ad m) (hlen : l.length + m.length ≤ 1000000) (hbase : base ≤ w.heap.size) :
    ∃ v' w', (Builtin.append_ #[22, 22] ty #[v, .slice ad m.length cap]).run Tryz.prog w = .ok v' w' ∧ Has w' base v' (l ++ m) ∧ w.grownBy w' v.ownBlock ∧ (v'.ownBlock = v.ownBlock ∨ v'.ownBlock = some w.heap.size) ∧ (v = .slice none 0 0 → m = [] → v' = .slice none 0 0) := by
  obtain ⟨i, hi, hz0, hz1, hz2⟩ := info_parts info_int
  cases ad with
  | none =>
    obtain rfl : m = [] := by
      rcases hr with h | ⟨b, off, h, _⟩
      · exact h
      · cases h
    refine ⟨v, w, ?_, by simpa using hv, World.grownBy.refl _ _, Or.inl rfl, fun h _ => h⟩
    rcases hv.2 with ⟨rfl, hl⟩ | ⟨g, cap', cur, rfl, _, _, hnc, _⟩
    · simp [Builtin.append_, run_underlying Tryz.underlying22, sizeOf, typeInfo, hi, Builtin.lenOf, Builtin.firstCells]
    · simp [Builtin.append_, run_underlying Tryz.underlying22, sizeOf, typeInfo, hi, Builtin.lenOf, Builtin.firstCells, hnc, storeCells]
  | some a =>
    have hc : ∀ (j : Nat) (u : Value), (m.map (Value.int .i64))[j]? = some u → w.cell? (a.add j) = some u := by
      intro j u hu
      have hj : j < m.length := by
        rcases Nat.lt_or_ge j m.length with h | h
        · exact h
        · rw [List.getElem?_eq_none (by simpa using h)] at hu; cases hu
      obtain ⟨b, off, e, hb, hcs⟩ := hr.at hj
      cases e
      rw [addr_plain, hcs j hj]
      simp [List.getElem?_map, List.getElem?_eq_getElem hj] at hu
      simp [List.getD_eq_getElem?_getD, List.getElem?_eq_getElem hj, hu]
    obtain ⟨v', w', h1, h2, h3, h4, h5⟩ := run_append_own_at (P := Tryz.prog) w base 22 ty 3 i (.int .i64 0) 1 8 Tryz.underlying22 hi hz0 hz1 hz2 rfl (by omega) v l.length (l.map (Value.int .i64)) hv a m.length cap (m.map (Value.int .i64)) (by simp) hc
      (by intro u hu; obtain ⟨z, _, rfl⟩ := List.mem_map.1 hu; rfl) (by simp only [maxLen]; omega) (by omega) hbase
    refine ⟨v', w', h1, ?_, h3, h5, fun e1 e2 => h4.2 ⟨e1, by rw [e2]; rfl⟩⟩
    unfold Has
    rw [List.length_append, List.map_append]
    exact h2

theorem wpList_app {ops : Array Oper} {rest : List Oper} {o : Oper} {a : Act} {Q : Exit → Act → World → Prop} (w : World) (hgd : o.guard = none) (s x : Operand)
    (ho : o.op = .call { callee := .builtin .append, args := #[s, x], argTypes := #[22, 22] }) (base : Nat) (v : Value) (l m : List Int) (ad : Option Addr) (cap : Nat) (hs : a.eval s = v) (hv : Has w base v l)
    (hx : a.eval x = .slice ad m.length cap) (hr : Row w ad m) (hlen : l.length + m.length ≤ 1000000) (hbase : base ≤ w.heap.size)
    (h : ∀ v' w', Has w' base v' (l ++ m) → w.grownBy w' v.ownBlock → (v'.ownBlock = v.ownBlock ∨ v'.ownBlock = some w.heap.size) → wpList Tryz.prog ops Q rest (a.put o.dst v') w') :
    wpList Tryz.prog ops Q (o :: rest) a w := by
  refine wpList_plain hgd fun K hK => ?_
  obtain ⟨v', w', hrun, h2, h3, h4, _⟩ := run_app w base v l m o.type hv ad cap hr hlen hbase
  unfold Oper.wp
  simp [execOp, ho, resolve, invoke, builtin, hs, hx, hrun, Result.andThen]
  exact hK _ _ (h v' w' h2 h3 h4)

theorem wpList_app0 {ops : Array Oper} {rest : List Oper} {o : Oper} {a : Act} {Q : Exit → Act → World → Prop} (w : World) (hgd : o.guard = none) (s x : Operand)
    (ho : o.op = .call { callee := .builtin .append, args := #[s, x], argTypes := #[22, 22] }) (base : Nat) (m : List Int) (ad : Option Addr) (cap : Nat) (hs : a.eval s = .slice none 0 0)
    (hx : a.eval x = .slice ad m.length cap) (hr : Row w ad m) (hlen : m.length ≤ 1000000) (hbase : base ≤ w.heap.size)
    (h : ∀ v' w', Has w' base v' m → Below w.heap.size w w' → (m = [] → v' = .slice none 0 0) → wpList Tryz.prog ops Q rest (a.put o.dst v') w') :
    wpList Tryz.prog ops Q (o :: rest) a w := by
  refine wpList_plain hgd fun K hK => ?_
  obtain ⟨v', w', hrun, h2, h3, h4, h5⟩ := run_app w base _ [] m o.type (Has.nil w base) ad cap hr (by simpa using hlen) hbase
  unfold Oper.wp
  simp [execOp, ho, resolve, invoke, builtin, hs, hx, hrun, Result.andThen]
  exact hK _ _ (h v' w' (by simpa using h2) ⟨h3.os, h3.tape, h3.output, h3.size, fun k hk => h3.block k hk (by simp [Value.ownBlock])⟩ (h5 rfl))

theorem wpListIn_app {F : Fence} {n : Nat} {ops : Array Oper} {rest : List Oper} {o : Oper} {a : Act} {Q : Exit → Act → World → Prop} (w : World) (hgd : o.guard = none) (s x : Operand)
    (ho : o.op = .call { callee := .builtin .append, args := #[s, x], argTypes := #[22, 22] }) (base : Nat) (v : Value) (l m : List Int) (ad : Option Addr) (cap : Nat) (hs : a.eval s = v) (hv : Has w base v l)
    (hx : a.eval x = .slice ad m.length cap) (hr : Row w ad m) (hlen : l.length + m.length ≤ 1000000) (hbase : base ≤ w.heap.size)
    (h : ∀ v' w', Has w' base v' (l ++ m) → w.grownBy w' v.ownBlock → (v'.ownBlock = v.ownBlock ∨ v'.ownBlock = some w.heap.size) → wpListIn F n Tryz.prog ops Q rest (a.put o.dst v') w') :
    wpListIn F n Tryz.prog ops Q (o :: rest) a w := by
  refine wpListIn_plain hgd fun K hK => ?_
  obtain ⟨v', w', hrun, h2, h3, h4, _⟩ := run_app w base v l m o.type hv ad cap hr hlen hbase
  unfold Oper.wpIn
  refine ⟨?_, ?_⟩
  · simp [Oper.about, ho, resolve, Target.leads, Sem.run_pure]
  · rw [Oper.semAt_plain F _ _ (by rw [ho]; intro c hc'; cases hc')]
    simp [execOp, ho, resolve, invoke, builtin, hs, hx, hrun, Result.andThen]
    exact hK _ _ (h v' w' h2 h3 h4)

end Go.Proofs.YthkibjhhlcfceaiGreatDoor

/-
  append, as a step of a region that draws its order.
-/
namespace Go.Proofs.YthkibjhhlcfceaiGreatDoor
open Go.RowKit
set_option linter.unusedVariables false

theorem step_app {ops : Array Oper} {o : Oper} {a : Act} {K : Act → World → Prop} {Q : Exit → Act → World → Prop} {E : Prop} (w : World) (hgd : o.guard = none) (s x : Operand)
    (ho : o.op = .call { callee := .builtin .append, args := #[s, x], argTypes := #[22, 22] }) (base : Nat) (v : Value) (l m : List Int) (ad : Option Addr) (cap : Nat) (hs : a.eval s = v) (hv : Has w base v l)
    (hx : a.eval x = .slice ad m.length cap) (hr : Row w ad m) (hlen : l.length + m.length ≤ 1000000) (hbase : base ≤ w.heap.size)
    (h : ∀ v' w', Has w' base v' (l ++ m) → w.grownBy w' v.ownBlock → (v'.ownBlock = v.ownBlock ∨ v'.ownBlock = some w.heap.size) → K (a.put o.dst v') w') :
    if Region.wanted o (yielded ops a.tmps) = true then Oper.wp Tryz.prog o a w K Q else E := by
  have hw : Region.wanted o (yielded ops a.tmps) = true := by simp [Region.wanted, hgd]
  rw [if_pos hw]
  obtain ⟨v', w', hrun, h2, h3, h4, _⟩ := run_app w base v l m o.type hv ad cap hr hlen hbase
  unfold Oper.wp
  simp [execOp, ho, resolve, invoke, builtin, hs, hx, hrun, Result.andThen]
  exact h v' w' h2 h3 h4

/-- Two slices do not lie in one row. -/
def Off (u v : Value) : Prop := u.ownBlock = none ∨ u.ownBlock ≠ v.ownBlock
theorem Off.symm {u v : Value} (h : Off u v) : Off v u := by
  unfold Off at *
  rcases h with h | h
  · by_cases hv : v.ownBlock = none
    · exact Or.inl hv
    · exact Or.inr (by rw [h]; exact hv)
  · exact Or.inr (Ne.symm h)

/-- 'x = append(x, ..)', x in no box: all that a walk owes behind it. -/
theorem stepped_plain {W w1 : World} {n₀ : Nat} {v v' : Value} {l l' : List Int} {tmp : Obj} (h : Has W n₀ v l) (hn : n₀ ≤ W.heap.size)
    (h' : Has w1 n₀ v' l') (hg : (W.alloc tmp).grownBy w1 v.ownBlock) (hat : v'.ownBlock = v.ownBlock ∨ v'.ownBlock = some (W.alloc tmp).heap.size) :
    Below n₀ W w1 ∧ (∀ u m, Has W n₀ u m → Off u v → Has w1 n₀ u m ∧ Off u v') := by
  refine ⟨((Below.refl n₀ W).alloc hn tmp).grown hg (by simp; omega) (fun j e => (h.lt j e).1), fun u m hu ha => ⟨(hu.alloc tmp).kept hg ha, ?_⟩⟩
  rcases hat with e | e
  · unfold Off; rw [e]; exact ha
  · cases hb : u.ownBlock with
    | none => exact Or.inl hb
    | some k =>
      refine Or.inr ?_
      rw [e, hb]
      have := (hu.lt k hb).2
      intro hh
      cases hh
      simp at this
      omega

end Go.Proofs.YthkibjhhlcfceaiGreatDoor
