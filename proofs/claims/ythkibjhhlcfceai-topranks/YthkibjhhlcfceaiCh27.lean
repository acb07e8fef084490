/-
  The numbers of chapter 10, as lists: sums, the greatest, shares that are Total in all. No program here.
-/
import Derived.Test.YthkibjhhlcfceaiCh00
import Derived.Test.YthkibjhhlcfceaiCh07
namespace Go.Proofs.Ythkibjhhlcfceai.Scl
open Go.Proofs.Ythkibjhhlcfceai.Tre
set_option linter.unusedVariables false

/-- The first j, added up; all of them. -/
def pfx (l : List Int) : Nat → Int
  | 0 => 0
  | j + 1 => pfx l j + at0 l j
def tot (l : List Int) : Int := pfx l l.length

theorem pfx_congr {l m : List Int} {j : Nat} (h : ∀ i, i < j → at0 l i = at0 m i) : pfx l j = pfx m j := by
  induction j with
  | zero => rfl
  | succ j ih => rw [pfx, pfx, ih fun i hi => h i (by omega), h j (by omega)]
theorem at0_take {l : List Int} {i k : Nat} (h : i < k) : at0 (l.take k) i = at0 l i := by simp [at0, h]
theorem tot_take (l : List Int) {k : Nat} (h : k ≤ l.length) : tot (l.take k) = pfx l k := by
  unfold tot
  rw [List.length_take, Nat.min_eq_left h]
  exact pfx_congr fun i hi => at0_take hi
theorem at0_set {l : List Int} {i j : Nat} {x : Int} (hj : j < l.length) : at0 (l.set j x) i = if i = j then x else at0 l i := by
  unfold at0
  rw [List.getElem?_set]
  by_cases e : j = i
  · subst e; simp [hj]
  · rw [if_neg e, if_neg (fun h => e h.symm)]
theorem pfx_set {l : List Int} {j : Nat} {x : Int} (hj : j < l.length) (k : Nat) : pfx (l.set j x) k = pfx l k + if j < k then x - at0 l j else 0 := by
  induction k with
  | zero => simp [pfx]
  | succ k ih =>
    rw [pfx, pfx, ih, at0_set hj]
    by_cases e : k = j
    · subst e; simp; omega
    · rw [if_neg e]
      by_cases h : j < k
      · rw [if_pos h, if_pos (by omega)]; omega
      · rw [if_neg h, if_neg (by omega)]; omega
theorem tot_set {l : List Int} {j : Nat} {x : Int} (hj : j < l.length) : tot (l.set j x) = tot l + (x - at0 l j) := by
  unfold tot
  rw [List.length_set, pfx_set hj, if_pos hj]
theorem pfx_mono {l : List Int} {n : Nat} (h : ∀ i, i < n → 0 ≤ at0 l i) {i j : Nat} (hij : i ≤ j) (hj : j ≤ n) : pfx l i ≤ pfx l j := by
  induction j with
  | zero => obtain rfl : i = 0 := by omega
            exact Int.le_refl _
  | succ j ih =>
    by_cases e : i = j + 1
    · rw [e]; exact Int.le_refl _
    · have := ih (by omega) (by omega)
      have := h j (by omega)
      rw [pfx]; omega
theorem pfx_nonneg {l : List Int} {n : Nat} (h : ∀ i, i < n → 0 ≤ at0 l i) {j : Nat} (hj : j ≤ n) : 0 ≤ pfx l j := pfx_mono h (Nat.zero_le j) hj
/-- Each is no more than all. -/
theorem at_le_tot {l : List Int} (h : ∀ i, i < l.length → 0 ≤ at0 l i) {i : Nat} (hi : i < l.length) : at0 l i ≤ tot l := by
  have h1 := pfx_mono h (i := i + 1) (j := l.length) (by omega) (Nat.le_refl _)
  have h2 := pfx_nonneg h (j := i) (by omega)
  rw [pfx] at h1
  unfold tot
  omega
theorem pfx_le {l : List Int} {b : Int} {n : Nat} (h : ∀ i, i < n → at0 l i ≤ b) {j : Nat} (hj : j ≤ n) : pfx l j ≤ b * j := by
  induction j with
  | zero => simp [pfx]
  | succ j ih =>
    have h1 := ih (by omega)
    have h2 := h j (by omega)
    have e : b * ((j + 1 : Nat) : Int) = b * j + b := by rw [Int.natCast_add, Int.mul_add]; simp
    rw [pfx, e]; omega

/-- The place of the greatest of the first j, of several the first. -/
def bst (l : List Int) : Nat → Nat
  | 0 => 0
  | j + 1 => if at0 l (bst l j) < at0 l j then j else bst l j
/-- b is the place of the greatest, of several the first. -/
def IsBest (l : List Int) (b : Nat) : Prop := b < l.length ∧ (∀ i, i < l.length → at0 l i ≤ at0 l b) ∧ ∀ i, i < b → at0 l i < at0 l b
theorem IsBest.one {l : List Int} {b c : Nat} (h : IsBest l b) (k : IsBest l c) : b = c := by
  rcases Nat.lt_trichotomy b c with h1 | h1 | h1
  · have := k.2.2 b h1; have := h.2.1 c k.1; omega
  · exact h1
  · have := h.2.2 c h1; have := k.2.1 b h.1; omega
theorem bst_lt (l : List Int) (j : Nat) : bst l j < j ∨ (j = 0 ∧ bst l j = 0) := by
  induction j with
  | zero => exact Or.inr ⟨rfl, rfl⟩
  | succ j ih =>
    left
    rw [bst]
    split
    · omega
    · omega
theorem bst_is (l : List Int) (j : Nat) (hj : 0 < j) : (∀ i, i < j → at0 l i ≤ at0 l (bst l j)) ∧ ∀ i, i < bst l j → at0 l i < at0 l (bst l j) := by
  induction j with
  | zero => omega
  | succ j ih =>
    by_cases h0 : j = 0
    · subst h0
      have e : bst l 1 = 0 := by simp [bst]
      rw [e]
      exact ⟨fun i hi => by obtain rfl : i = 0 := by omega
                            exact Int.le_refl _, fun i hi => by omega⟩
    · obtain ⟨i1, i2⟩ := ih (by omega)
      rw [bst]
      split
      · rename_i h
        exact ⟨fun i hi => by
          by_cases e : i = j
          · rw [e]; exact Int.le_refl _
          · have := i1 i (by omega); omega, fun i hi => by have := i1 i hi; omega⟩
      · rename_i h
        exact ⟨fun i hi => by
          by_cases e : i = j
          · rw [e]; omega
          · exact i1 i (by omega), i2⟩
theorem bst_best (l : List Int) (h : 0 < l.length) : IsBest l (bst l l.length) := by
  obtain ⟨h1, h2⟩ := bst_is l l.length h
  rcases bst_lt l l.length with h3 | ⟨h3, _⟩
  · exact ⟨h3, h1, h2⟩
  · omega

/-- One step towards Total: the greatest is one less, or one more. -/
def nxt (l : List Int) : List Int := l.set (bst l l.length) (at0 l (bst l l.length) + if 256 < tot l then -1 else 1)
def run : Nat → List Int → List Int
  | 0, l => l
  | k + 1, l => run k (nxt l)
/-- Till they are Total. -/
def fit (l : List Int) : List Int := run (tot l - 256).natAbs l

/-- None is below 0, not all are 0, and there are not too many. -/
def Good (l : List Int) : Prop := l.length ≤ 40 ∧ (∀ i, i < l.length → 0 ≤ at0 l i) ∧ 0 < tot l
theorem Good.pos {l : List Int} (h : Good l) : 0 < l.length := by
  rcases Nat.eq_zero_or_pos l.length with e | e
  · have := h.2.2
    unfold tot at this
    rw [e] at this
    simp [pfx] at this
  · exact e
/-- The greatest is more than 0; and if they are more than Total, more than 1. -/
theorem Good.best {l : List Int} (h : Good l) {b : Nat} (hb : IsBest l b) : 1 ≤ at0 l b ∧ (256 < tot l → 2 ≤ at0 l b) := by
  have h1 := pfx_le (b := at0 l b) hb.2.1 (Nat.le_refl _)
  have h2 : tot l ≤ at0 l b * l.length := h1
  have h3 := h.2.2
  have h4 : (l.length : Int) ≤ 40 := by have := h.1; omega
  have hp := h.pos
  have h0 := h.2.1 b hb.1
  refine ⟨?_, fun h5 => ?_⟩
  · rcases Int.lt_or_le (at0 l b) 1 with e | e
    · have e0 : at0 l b = 0 := by omega
      rw [e0] at h2; simp at h2; omega
    · exact e
  · rcases Int.lt_or_le (at0 l b) 2 with e | e
    · have : at0 l b * (l.length : Int) ≤ 1 * (l.length : Int) := Int.mul_le_mul_of_nonneg_right (by omega) (by omega)
      omega
    · exact e
theorem nxt_is {l : List Int} {b : Nat} (h : IsBest l b) : nxt l = l.set b (at0 l b + if 256 < tot l then -1 else 1) := by
  have e := IsBest.one (bst_best l (Nat.lt_of_le_of_lt (Nat.zero_le _) h.1)) h
  unfold nxt
  rw [e]
theorem nxt_length (l : List Int) : (nxt l).length = l.length := by unfold nxt; rw [List.length_set]
theorem nxt_tot {l : List Int} (h : Good l) : tot (nxt l) = tot l + if 256 < tot l then -1 else 1 := by
  have hb := bst_best l h.pos
  rw [nxt_is hb, tot_set hb.1]; omega
theorem nxt_good {l : List Int} (h : Good l) : Good (nxt l) := by
  have hb := bst_best l h.pos
  obtain ⟨b1, b2⟩ := h.best hb
  refine ⟨by rw [nxt_length]; exact h.1, fun i hi => ?_, ?_⟩
  · rw [nxt_length] at hi
    rw [nxt_is hb, at0_set hb.1]
    split
    · split <;> omega
    · exact h.2.1 i hi
  · rw [nxt_tot h]
    have := h.2.2
    split <;> omega
/-- Who has a share keeps one; who has none gets none. -/
theorem nxt_zero {l : List Int} (h : Good l) {i : Nat} (hi : i < l.length) : (0 < at0 (nxt l) i ↔ 0 < at0 l i) := by
  have hb := bst_best l h.pos
  obtain ⟨b1, b2⟩ := h.best hb
  rw [nxt_is hb, at0_set hb.1]
  split
  · rename_i e
    rw [e]
    split
    · rename_i h1
      have := b2 h1
      omega
    · omega
  · exact Iff.rfl
theorem nxt_less {l : List Int} (h : Good l) (hne : tot l ≠ 256) : (tot (nxt l) - 256).natAbs + 1 = (tot l - 256).natAbs := by
  rw [nxt_tot h]
  split <;> omega
theorem fit_done {l : List Int} (h : tot l = 256) : fit l = l := by unfold fit; rw [h]; rfl
theorem fit_next {l : List Int} (h : Good l) (hne : tot l ≠ 256) : fit (nxt l) = fit l := by
  unfold fit
  rw [← nxt_less h hne, run]
theorem fit_is {P : List Int → Prop} (hP : ∀ l, Good l → P l → P (nxt l)) {l : List Int} (h : Good l) (h0 : P l) : P (fit l) ∧ Good (fit l) ∧ tot (fit l) = 256 := by
  have key : ∀ k l, Good l → P l → (tot l - 256).natAbs = k → P (fit l) ∧ Good (fit l) ∧ tot (fit l) = 256 := by
    intro k
    induction k with
    | zero =>
      intro l h h0 hk
      have e : tot l = 256 := by omega
      rw [fit_done e]
      exact ⟨h0, h, e⟩
    | succ k ih =>
      intro l h h0 hk
      have hne : tot l ≠ 256 := by omega
      rw [← fit_next h hne]
      exact ih _ (nxt_good h) (hP l h h0) (by have := nxt_less h hne; omega)
  exact key _ l h h0 rfl
theorem fit_length {l : List Int} (h : Good l) : (fit l).length = l.length := (fit_is (P := fun m => m.length = l.length) (fun m _ hm => by rw [nxt_length]; exact hm) h rfl).1
theorem fit_tot {l : List Int} (h : Good l) : tot (fit l) = 256 := (fit_is (P := fun _ => True) (fun _ _ _ => trivial) h trivial).2.2
theorem fit_good {l : List Int} (h : Good l) : Good (fit l) := (fit_is (P := fun _ => True) (fun _ _ _ => trivial) h trivial).2.1
theorem fit_zero {l : List Int} (h : Good l) {i : Nat} (hi : i < l.length) : (0 < at0 (fit l) i ↔ 0 < at0 l i) :=
  (fit_is (P := fun m => m.length = l.length ∧ (0 < at0 m i ↔ 0 < at0 l i)) (fun m hm ⟨h1, h2⟩ => ⟨by rw [nxt_length]; exact h1, (nxt_zero hm (by omega)).trans h2⟩) h ⟨rfl, Iff.rfl⟩).1.2

/-- A count's share, ahead of the steps; and those of all. -/
def shr (all c : Int) : Int := if c ≤ 0 then 0 else if c * 256 / all = 0 then 1 else c * 256 / all
def base (c : List Int) : List Int := upto (fun i => shr (tot c) (at0 c i)) c.length
def scale (c : List Int) : List Int := fit (base c)
/-- The fault of counts: 0 where there is none. -/
def wrong (n : Int) : Bool := decide (n < 0) || decide (1000000 < n)
def cf (c : List Int) : Int := if c.length = 0 then 5 else if 40 < c.length then 4 else if c.any wrong = true then 1 else if tot c = 0 then 5 else 0

theorem wrong_no {n : Int} (h : wrong n = false) : 0 ≤ n ∧ n ≤ 1000000 := by simp [wrong] at h; omega
theorem cf_ok {c : List Int} (h : cf c = 0) : 0 < c.length ∧ c.length ≤ 40 ∧ (∀ i, i < c.length → 0 ≤ at0 c i ∧ at0 c i ≤ 1000000) ∧ 0 < tot c := by
  unfold cf at h
  split at h
  · omega
  · split at h
    · omega
    · split at h
      · omega
      · split at h
        · omega
        · rename_i h1 h2 h3 h4
          have h5 : ∀ i, i < c.length → 0 ≤ at0 c i ∧ at0 c i ≤ 1000000 := fun i hi => by
            have e : at0 c i = c[i] := by simp [at0, hi]
            rw [e]
            have h6 : c.any wrong = false := by simpa using h3
            exact wrong_no (by simpa using List.any_eq_false.1 h6 _ (List.getElem_mem hi))
          have h7 := pfx_nonneg (l := c) (fun i hi => (h5 i hi).1) (Nat.le_refl _)
          exact ⟨by omega, by omega, h5, by unfold tot at *; omega⟩
theorem base_length (c : List Int) : (base c).length = c.length := upto_length _ _
theorem base_at (c : List Int) {i : Nat} (h : i < c.length) : at0 (base c) i = shr (tot c) (at0 c i) := upto_at _ h
theorem shr_in {all c : Int} (h0 : 0 ≤ c) (h1 : c ≤ all) : 0 ≤ shr all c ∧ shr all c ≤ 256 ∧ (0 < shr all c ↔ 0 < c) := by
  unfold shr
  split
  · exact ⟨by omega, by omega, by omega⟩
  · rename_i h2
    have hp : 0 < all := by omega
    have h3 : 0 ≤ c * 256 / all := Int.ediv_nonneg (by omega) (by omega)
    have h4 : c * 256 / all ≤ 256 := by
      have h5 : c * 256 / all < 257 := (Int.ediv_lt_iff_lt_mul hp).2 (by omega)
      omega
    split
    · exact ⟨by omega, by omega, by omega⟩
    · exact ⟨by omega, by omega, by omega⟩
theorem base_good {c : List Int} (h : cf c = 0) : Good (base c) := by
  obtain ⟨h1, h2, h3, h4⟩ := cf_ok h
  have hn : ∀ i, i < (base c).length → 0 ≤ at0 (base c) i := fun i hi => by
    rw [base_length] at hi
    rw [base_at c hi]
    exact (shr_in (h3 i hi).1 (at_le_tot (fun i hi => (h3 i hi).1) hi)).1
  refine ⟨by rw [base_length]; exact h2, hn, ?_⟩
  -- one was counted, and has a share
  have key : ∃ i, i < c.length ∧ 0 < at0 c i := by
    by_cases hh : ∃ i, i < c.length ∧ 0 < at0 c i
    · exact hh
    · have h5 := pfx_le (l := c) (b := 0) (n := c.length) (fun i hi => by
        rcases Int.lt_or_le 0 (at0 c i) with e | e
        · exact absurd ⟨i, hi, e⟩ hh
        · exact e) (Nat.le_refl _)
      simp at h5
      unfold tot at h4
      omega
  obtain ⟨i, hi, hp⟩ := key
  have h5 := at_le_tot hn (i := i) (by rw [base_length]; exact hi)
  rw [base_at c hi] at h5
  have h6 := ((shr_in (h3 i hi).1 (at_le_tot (fun i hi => (h3 i hi).1) hi)).2.2).2 hp
  omega
/-- All together Total; who was counted has a share, and no other. -/
theorem scale_is {c : List Int} (h : cf c = 0) : (scale c).length = c.length ∧ tot (scale c) = 256 ∧ (∀ i, i < c.length → 0 ≤ at0 (scale c) i) ∧ ∀ i, i < c.length → (0 < at0 (scale c) i ↔ 0 < at0 c i) := by
  have hg := base_good h
  obtain ⟨h1, h2, h3, h4⟩ := cf_ok h
  have hl : (scale c).length = c.length := by unfold scale; rw [fit_length hg, base_length]
  refine ⟨hl, fit_tot hg, fun i hi => (fit_good hg).2.1 i (by rw [fit_length hg, base_length]; exact hi), fun i hi => ?_⟩
  unfold scale
  rw [fit_zero hg (by rw [base_length]; exact hi), base_at c hi]
  exact (shr_in (h3 i hi).1 (at_le_tot (fun i hi => (h3 i hi).1) hi)).2.2

/-- Are shares right? -/
def right (f : List Int) : Prop := 1 ≤ f.length ∧ f.length ≤ 40 ∧ (∀ i, i < f.length → 0 ≤ at0 f i) ∧ tot f = 256
/-- Whose a place is. -/
def IsAt (f : List Int) (at' : Int) (k : Nat) : Prop := k < f.length ∧ pfx f k ≤ at' ∧ at' < pfx f k + at0 f k
theorem IsAt.one {f : List Int} (h : ∀ i, i < f.length → 0 ≤ at0 f i) {p : Int} {j k : Nat} (hj : IsAt f p j) (hk : IsAt f p k) : j = k := by
  rcases Nat.lt_trichotomy j k with e | e | e
  · have h1 := pfx_mono h (i := j + 1) (j := k) (by omega) (by have := hk.1; omega)
    rw [pfx] at h1
    have := hj.2.2; have := hk.2.1; omega
  · exact e
  · have h1 := pfx_mono h (i := k + 1) (j := j) (by omega) (by have := hj.1; omega)
    rw [pfx] at h1
    have := hk.2.2; have := hj.2.1; omega
theorem is_at {f : List Int} {p : Int} (h0 : 0 ≤ p) (h1 : p < tot f) : ∃ k, IsAt f p k := by
  have key : ∀ n, n ≤ f.length → p < pfx f n → ∃ k, IsAt f p k := by
    intro n
    induction n with
    | zero => intro _ h; simp [pfx] at h; omega
    | succ n ih =>
      intro hn h
      by_cases h2 : p < pfx f n
      · exact ih (by omega) h2
      · rw [pfx] at h
        exact ⟨n, by omega, by omega, h⟩
  exact key f.length (Nat.le_refl _) h1

end Go.Proofs.Ythkibjhhlcfceai.Scl

/-
  The numbers of chapter 11: signs as bytes, there and back; how many bytes. No program here.
-/
namespace Go.Proofs.Ythkibjhhlcfceai.Hrn
open Go.Proofs.Ythkibjhhlcfceai.Tre Go.Proofs.Ythkibjhhlcfceai.Scl
set_option linter.unusedVariables false

/-- From Least to below 256 times as much. -/
def Mid (x : Int) : Prop := 65536 ≤ x ∧ x < 16777216
/-- A low byte is taken off, if so; and which. -/
def ren (F x : Int) : Int := if 65536 * F ≤ x then x / 256 else x
def offb (F x : Int) : List Int := if 65536 * F ≤ x then [x % 256] else []
def put (f : List Int) (s : Nat) (x : Int) : Int := ren (at0 f s) x / at0 f s * 256 + ren (at0 f s) x % at0 f s + pfx f s
/-- The last sign first, onto a number and bytes. -/
def enc (f : List Int) : List Int → Int × List Int → Int × List Int
  | [], z => z
  | s :: l, z => (put f s.toNat (enc f l z).1, offb (at0 f s.toNat) (enc f l z).1 ++ (enc f l z).2)
def three (x : Int) : List Int := [x / 65536, x / 256 % 256, x % 256]
def code (f l : List Int) : List Int := three (enc f l (65536, [])).1 ++ (enc f l (65536, [])).2

/-- There is such a sign, and it has a share. -/
def Sgn (f : List Int) (s : Int) : Prop := 0 ≤ s ∧ s < (f.length : Int) ∧ 0 < at0 f s.toNat
def Signs (f l : List Int) : Prop := ∀ s ∈ l, Sgn f s

theorem share_in {f : List Int} (hf : right f) {s : Nat} (h : s < f.length) (hp : 0 < at0 f s) : 1 ≤ at0 f s ∧ at0 f s ≤ 256 ∧ 0 ≤ pfx f s ∧ pfx f s + at0 f s ≤ 256 := by
  obtain ⟨h1, h2, h3, h4⟩ := hf
  have a1 := at_le_tot h3 h
  have a2 := pfx_nonneg h3 (j := s) (by omega)
  have a3 := pfx_mono h3 (i := s + 1) (j := f.length) (by omega) (Nat.le_refl _)
  rw [pfx] at a3
  unfold tot at h4 a1
  omega
theorem ren_in {F x : Int} (h1 : 1 ≤ F) (h2 : F ≤ 256) (hx : Mid x) : 256 * F ≤ ren F x ∧ ren F x < 65536 * F := by
  obtain ⟨x1, x2⟩ := hx
  unfold ren
  split <;> omega
/-- What a step is made of. -/
theorem put_parts {f : List Int} (hf : right f) {s : Nat} (h : s < f.length) (hp : 0 < at0 f s) {x : Int} (hx : Mid x) :
    256 ≤ ren (at0 f s) x / at0 f s ∧ ren (at0 f s) x / at0 f s < 65536 ∧ 0 ≤ ren (at0 f s) x % at0 f s ∧ ren (at0 f s) x % at0 f s < at0 f s := by
  obtain ⟨a1, a2, a3, a4⟩ := share_in hf h hp
  obtain ⟨r1, r2⟩ := ren_in a1 a2 hx
  exact ⟨(Int.le_ediv_iff_mul_le hp).2 r1, (Int.ediv_lt_iff_lt_mul hp).2 r2, Int.emod_nonneg _ (by omega), Int.emod_lt_of_pos _ hp⟩
theorem put_in {f : List Int} (hf : right f) {s : Nat} (h : s < f.length) (hp : 0 < at0 f s) {x : Int} (hx : Mid x) : Mid (put f s x) := by
  obtain ⟨a1, a2, a3, a4⟩ := share_in hf h hp
  obtain ⟨q1, q2, q3, q4⟩ := put_parts hf h hp hx
  unfold put Mid
  omega
theorem put_div {f : List Int} (hf : right f) {s : Nat} (h : s < f.length) (hp : 0 < at0 f s) {x : Int} (hx : Mid x) :
    put f s x / 256 = ren (at0 f s) x / at0 f s ∧ put f s x % 256 = ren (at0 f s) x % at0 f s + pfx f s := by
  obtain ⟨a1, a2, a3, a4⟩ := share_in hf h hp
  obtain ⟨q1, q2, q3, q4⟩ := put_parts hf h hp hx
  unfold put
  omega
theorem enc_in {f : List Int} (hf : right f) {l : List Int} (hl : Signs f l) {z : Int × List Int} (hz : Mid z.1) : Mid (enc f l z).1 := by
  induction l with
  | nil => exact hz
  | cons s l ih =>
    have hs := hl s (by simp)
    exact put_in hf (by have := hs.1; have := hs.2.1; omega) hs.2.2 (ih fun t ht => hl t (by simp [ht]))
theorem enc_append (f l m : List Int) (z : Int × List Int) : enc f (l ++ m) z = enc f l (enc f m z) := by
  induction l with
  | nil => rfl
  | cons s l ih => simp only [List.cons_append, enc, ih]
/-- Bytes. -/
def Byts (l : List Int) : Prop := ∀ b ∈ l, 0 ≤ b ∧ b < 256
theorem offb_byts (F x : Int) : Byts (offb F x) := by
  intro b hb
  unfold offb at hb
  split at hb
  · simp at hb; omega
  · simp at hb
theorem enc_byts (f l : List Int) {z : Int × List Int} (hz : Byts z.2) : Byts (enc f l z).2 := by
  induction l with
  | nil => exact hz
  | cons s l ih =>
    intro b hb
    rcases List.mem_append.1 hb with h | h
    · exact offb_byts _ _ b h
    · exact ih b h

/-- Bytes are read, till the number is not below Least. -/
def fill : List Int → Int → Option (Int × List Int)
  | [], x => if 65536 ≤ x then some (x, []) else none
  | b :: r, x => if 65536 ≤ x then some (x, b :: r) else fill r (x * 256 + b)
/-- Whose a place is, of the first n. -/
def scan (f : List Int) (p : Int) : Nat → Nat
  | 0 => 0
  | n + 1 => if pfx f n ≤ p ∧ p < pfx f n + at0 f n then n else scan f p n
def sg (f : List Int) (p : Int) : Nat := scan f p f.length
theorem scan_is {f : List Int} {p : Int} {n k : Nat} (h : k < n) (h1 : pfx f k ≤ p) (h2 : p < pfx f k + at0 f k) : scan f p n < n ∧ pfx f (scan f p n) ≤ p ∧ p < pfx f (scan f p n) + at0 f (scan f p n) := by
  induction n with
  | zero => omega
  | succ n ih =>
    rw [scan]
    split
    · rename_i h3
      exact ⟨by omega, h3.1, h3.2⟩
    · rename_i h3
      by_cases e : k = n
      · subst e; exact absurd ⟨h1, h2⟩ h3
      · obtain ⟨i1, i2⟩ := ih (by omega)
        exact ⟨by omega, i2⟩
theorem sg_is {f : List Int} (hf : right f) {p : Int} (h0 : 0 ≤ p) (h9 : p < 256) : IsAt f p (sg f p) := by
  obtain ⟨k, k1, k2, k3⟩ := is_at (f := f) h0 (by rw [hf.2.2.2]; exact h9)
  exact scan_is k1 k2 k3
theorem sg_one {f : List Int} (hf : right f) {p : Int} (h0 : 0 ≤ p) (h9 : p < 256) {k : Nat} (hk : IsAt f p k) : sg f p = k := IsAt.one hf.2.2.1 (sg_is hf h0 h9) hk
theorem isAt_sgn {f : List Int} {p : Int} {k : Nat} (h : IsAt f p k) : Sgn f (k : Int) := by
  obtain ⟨h1, h2, h3⟩ := h
  exact ⟨by omega, by omega, by rw [Int.toNat_natCast]; omega⟩
/-- What is left of a number when its sign is read. -/
def got (f : List Int) (x : Int) : Int := x / 256 * at0 f (sg f (x % 256)) + x % 256 - pfx f (sg f (x % 256))
def dec (f : List Int) : Nat → Int → List Int → Option (List Int × Int × List Int)
  | 0, x, r => some ([], x, r)
  | n + 1, x, r => match fill r (got f x) with
    | none => none
    | some z => (dec f n z.1 z.2).map fun q => ((sg f (x % 256) : Int) :: q.1, q.2)

theorem got_in {f : List Int} (hf : right f) {x : Int} (h0 : 0 ≤ x) (h9 : x < 16777216) : 0 ≤ got f x ∧ got f x < 16777216 := by
  have hk := sg_is hf (p := x % 256) (by omega) (by omega)
  unfold got
  generalize sg f (x % 256) = k at *
  obtain ⟨k1, k2, k3⟩ := hk
  obtain ⟨a1, a2, a3, a4⟩ := share_in hf k1 (by omega)
  have m0 : 0 ≤ x / 256 * at0 f k := Int.mul_nonneg (by omega) (by omega)
  have m1 : x / 256 * at0 f k ≤ x / 256 * 256 := Int.mul_le_mul_of_nonneg_left a2 (by omega)
  omega
theorem fill_in {r : List Int} (hr : Byts r) {x y : Int} {r' : List Int} (h0 : 0 ≤ x) (h9 : x < 16777216) (h : fill r x = some (y, r')) : Mid y ∧ Byts r' := by
  induction r generalizing x with
  | nil =>
    unfold fill at h
    split at h
    · cases h; exact ⟨⟨by assumption, h9⟩, hr⟩
    · cases h
  | cons b r ih =>
    unfold fill at h
    split at h
    · cases h; exact ⟨⟨by assumption, h9⟩, hr⟩
    · have := hr b (by simp)
      exact ih (fun c hc => hr c (by simp [hc])) (by omega) (by omega) h
theorem fill_enough (r : List Int) {x : Int} (h : 65536 ≤ x) : fill r x = some (x, r) := by cases r <;> simp [fill, h]
theorem fill_one (b : Int) (r : List Int) {x : Int} (h : x < 65536) (h2 : 65536 ≤ x * 256 + b) : fill (b :: r) x = some (x * 256 + b, r) := by
  rw [fill, if_neg (by omega), fill_enough r h2]

/-- A sign that was put is read again. -/
theorem dec_one {f : List Int} (hf : right f) {s : Nat} (h : s < f.length) (hp : 0 < at0 f s) {x : Int} (hx : Mid x) (r : List Int) :
    sg f (put f s x % 256) = s ∧ fill (offb (at0 f s) x ++ r) (got f (put f s x)) = some (x, r) := by
  obtain ⟨a1, a2, a3, a4⟩ := share_in hf h hp
  obtain ⟨q1, q2, q3, q4⟩ := put_parts hf h hp hx
  obtain ⟨d1, d2⟩ := put_div hf h hp hx
  have hs : sg f (put f s x % 256) = s := sg_one hf (by omega) (by omega) ⟨h, by omega, by omega⟩
  refine ⟨hs, ?_⟩
  have hg : got f (put f s x) = ren (at0 f s) x := by
    unfold got
    rw [hs, d1, d2]
    have := Int.ediv_mul_add_emod (ren (at0 f s) x) (at0 f s)
    omega
  rw [hg]
  obtain ⟨x1, x2⟩ := hx
  unfold offb ren
  split
  · rw [List.cons_append, List.nil_append, fill_one _ _ (by omega) (by omega)]
    congr 2
    omega
  · rw [List.nil_append, fill_enough _ x1]
/-- What was put is read: signs come back. -/
theorem dec_enc {f : List Int} (hf : right f) {l : List Int} (hl : Signs f l) {z : Int × List Int} (hz : Mid z.1) : dec f l.length (enc f l z).1 (enc f l z).2 = some (l, z) := by
  induction l with
  | nil => rfl
  | cons s l ih =>
    have hs := hl s (by simp)
    have hl' : Signs f l := fun t ht => hl t (by simp [ht])
    obtain ⟨e1, e2⟩ := dec_one hf (s := s.toNat) (by have := hs.1; have := hs.2.1; omega) hs.2.2 (enc_in hf hl' hz) (enc f l z).2
    rw [List.length_cons, enc, dec]
    simp only
    rw [e2]
    simp only
    rw [ih hl', e1]
    have := hs.1
    simp
    omega
/-- So many signs are read, each with a share. -/
theorem dec_len {f : List Int} (hf : right f) {n : Nat} {x y : Int} {r r' l : List Int} (h0 : 0 ≤ x) (h9 : x < 16777216) (hr : Byts r) (h : dec f n x r = some (l, y, r')) : l.length = n ∧ Signs f l := by
  induction n generalizing x r l with
  | zero => cases h; exact ⟨rfl, fun s hs => by simp at hs⟩
  | succ n ih =>
    rw [dec] at h
    cases hfl : fill r (got f x) with
    | none => rw [hfl] at h; cases h
    | some z =>
      rw [hfl] at h
      simp only at h
      obtain ⟨g1, g2⟩ := got_in hf h0 h9
      obtain ⟨m1, m2⟩ := fill_in hr g1 g2 (y := z.1) (r' := z.2) hfl
      obtain ⟨⟨q1, q2⟩, hq, e⟩ := Option.map_eq_some_iff.1 h
      obtain ⟨rfl, rfl⟩ := Prod.mk.inj e
      obtain ⟨i1, i2⟩ := ih (by have := m1.1; omega) m1.2 m2 (l := q1) hq
      refine ⟨by rw [List.length_cons, i1], fun t ht => ?_⟩
      rcases List.mem_cons.1 ht with e | e
      · rw [e]; exact isAt_sgn (sg_is hf (by omega) (by omega))
      · exact i2 t e
/-- What is read of a number that is great enough is put again. -/
theorem enc_dec {f : List Int} (hf : right f) {n : Nat} {x y : Int} {r r' l : List Int} (hx : Mid x) (hr : Byts r) (h : dec f n x r = some (l, y, r')) : Mid y ∧ enc f l (y, r') = (x, r) := by
  induction n generalizing x r l with
  | zero => cases h; exact ⟨hx, rfl⟩
  | succ n ih =>
    rw [dec] at h
    cases hfl : fill r (got f x) with
    | none => rw [hfl] at h; cases h
    | some z =>
      rw [hfl] at h
      simp only at h
      have h0 : 0 ≤ x := by have := hx.1; omega
      obtain ⟨g1, g2⟩ := got_in hf h0 hx.2
      obtain ⟨m1, m2⟩ := fill_in hr g1 g2 (y := z.1) (r' := z.2) hfl
      obtain ⟨⟨q1, q2⟩, hq, e⟩ := Option.map_eq_some_iff.1 h
      obtain ⟨rfl, rfl⟩ := Prod.mk.inj e
      obtain ⟨i1, i2⟩ := ih m1 m2 (l := q1) hq
      refine ⟨i1, ?_⟩
      rw [enc, i2]
      simp only
      rw [Int.toNat_natCast]
      have hk := sg_is hf (p := x % 256) (by omega) (by omega)
      unfold got at hfl
      generalize hs : sg f (x % 256) = k at *
      obtain ⟨k1, k2, k3⟩ := hk
      have hp : 0 < at0 f k := by omega
      obtain ⟨a1, a2, a3, a4⟩ := share_in hf k1 hp
      obtain ⟨x1, x2⟩ := hx
      -- the number ahead of the bytes
      obtain ⟨Q, hQ⟩ : ∃ Q, x / 256 = Q := ⟨_, rfl⟩
      obtain ⟨m, hm⟩ : ∃ m, x % 256 - pfx f k = m := ⟨_, rfl⟩
      have hq1 : 256 ≤ Q := by omega
      have hq2 : Q < 65536 := by omega
      have n1 : 256 * at0 f k ≤ Q * at0 f k := Int.mul_le_mul_of_nonneg_right hq1 (by omega)
      have n2 : Q * at0 f k ≤ 65535 * at0 f k := Int.mul_le_mul_of_nonneg_right (by omega) (by omega)
      have ey : x / 256 * at0 f k + x % 256 - pfx f k = Q * at0 f k + m := by rw [hQ]; omega
      rw [ey] at hfl
      have hdiv : (Q * at0 f k + m) / at0 f k = Q := by
        rw [Int.add_comm, Int.add_mul_ediv_right _ _ (by omega), Int.ediv_eq_zero_of_lt (by omega) (by omega)]; omega
      have hmod : (Q * at0 f k + m) % at0 f k = m := by
        rw [Int.add_comm, Int.add_mul_emod_self_right, Int.emod_eq_of_lt (by omega) (by omega)]
      generalize hY : Q * at0 f k + m = Y at *
      have key : ren (at0 f k) z.1 = Y ∧ offb (at0 f k) z.1 ++ z.2 = r := by
        by_cases hlt : 65536 ≤ Y
        · rw [fill_enough r hlt] at hfl
          cases hfl
          unfold ren offb
          rw [if_neg (by simp only; omega), if_neg (by simp only; omega)]
          exact ⟨rfl, rfl⟩
        · cases r with
          | nil => rw [fill, if_neg hlt] at hfl; cases hfl
          | cons b r =>
            have hb := hr b (by simp)
            rw [fill_one b r (by omega) (by omega)] at hfl
            cases hfl
            unfold ren offb
            rw [if_pos (by simp only; omega), if_pos (by simp only; omega)]
            refine ⟨by simp only; omega, ?_⟩
            have : (Y * 256 + b) % 256 = b := by omega
            simp only [this, List.cons_append, List.nil_append]
      rw [key.2]
      unfold put
      rw [key.1, hdiv, hmod]
      congr 1
      omega

/-- A number is that of its three bytes. -/
theorem three_is {x : Int} (h : Mid x) : x / 65536 * 65536 + x / 256 % 256 * 256 + x % 256 = x := by omega
theorem three_byts {x : Int} (h : Mid x) : Byts (three x) := by
  obtain ⟨h1, h2⟩ := h
  intro b hb
  simp [three] at hb
  omega
theorem three_of {a b c : Int} (ha : 0 ≤ a ∧ a < 256) (hb : 0 ≤ b ∧ b < 256) (hc : 0 ≤ c ∧ c < 256) : three (a * 65536 + b * 256 + c) = [a, b, c] := by
  unfold three
  congr 1
  · omega
  · congr 1
    · omega
    · congr 1; omega
theorem least : Mid 65536 := ⟨by omega, by omega⟩
theorem code_byts {f l : List Int} (hf : right f) (hl : Signs f l) : Byts (code f l) := by
  intro b hb
  rcases List.mem_append.1 hb with h | h
  · exact three_byts (enc_in hf hl least) b h
  · exact enc_byts f l (z := (65536, [])) (fun c hc => by simp at hc) b h

/-- l are the n signs of these bytes. -/
def IsRow (f bs : List Int) (n : Nat) (l : List Int) : Prop := l.length = n ∧ Signs f l ∧ code f l = bs
/-- The bytes of a row tell it. -/
theorem code_dec {f l : List Int} (hf : right f) (hl : Signs f l) : ∃ x r, code f l = three x ++ r ∧ Mid x ∧ Byts r ∧ dec f l.length x r = some (l, 65536, []) :=
  ⟨_, _, rfl, enc_in hf hl least, enc_byts f l (fun c hc => by simp at hc), dec_enc hf hl least⟩
theorem three_inj {x y : Int} {r s : List Int} (hx : Mid x) (hy : Mid y) (h : three x ++ r = three y ++ s) : x = y ∧ r = s := by
  simp [three] at h
  have a := three_is hx
  have b := three_is hy
  obtain ⟨h1, h2, h3, h4⟩ := h
  rw [h1, h2, h3] at a
  exact ⟨by omega, h4⟩
theorem IsRow.one {f bs : List Int} (hf : right f) {n : Nat} {l m : List Int} (h : IsRow f bs n l) (k : IsRow f bs n m) : l = m := by
  obtain ⟨x, r, e1, hx, _, d1⟩ := code_dec hf h.2.1
  obtain ⟨y, s, e2, hy, _, d2⟩ := code_dec hf k.2.1
  obtain ⟨rfl, rfl⟩ := three_inj hx hy (by rw [← e1, ← e2, h.2.2, k.2.2])
  rw [h.1] at d1
  rw [k.1, d1] at d2
  cases d2
  rfl
/-- Read of three bytes and the rest, and put again: it is so just where it is a row. -/
theorem row_iff {f : List Int} (hf : right f) {a b c : Int} {r : List Int} (hb : Byts (a :: b :: c :: r)) {n : Nat} {l : List Int} :
    IsRow f (a :: b :: c :: r) n l ↔ dec f n (a * 65536 + b * 256 + c) r = some (l, 65536, []) ∧ code f l = a :: b :: c :: r := by
  have ha := hb a (by simp)
  have hb' := hb b (by simp)
  have hc := hb c (by simp)
  constructor
  · intro h
    obtain ⟨x, s, e1, hx, _, d1⟩ := code_dec hf h.2.1
    rw [h.2.2, h.1] at *
    have e2 : three (a * 65536 + b * 256 + c) ++ r = three x ++ s := by rw [three_of ha hb' hc, ← e1]; rfl
    have e3 : a * 65536 + b * 256 + c = x := by
      have := three_is hx
      rw [three_of ha hb' hc] at e2
      simp [three] at e2
      omega
    rw [e3] at e2 ⊢
    rw [List.append_cancel_left e2]
    exact ⟨d1, rfl⟩
  · rintro ⟨h1, h2⟩
    obtain ⟨i1, i2⟩ := dec_len hf (by omega) (by omega) (fun x hx => hb x (by simp [hx])) h1
    exact ⟨i1, i2, h2⟩
/-- .. or where the number is great enough at first. -/
theorem row_iff' {f : List Int} (hf : right f) {a b c : Int} {r : List Int} (hb : Byts (a :: b :: c :: r)) {n : Nat} {l : List Int} :
    IsRow f (a :: b :: c :: r) n l ↔ dec f n (a * 65536 + b * 256 + c) r = some (l, 65536, []) ∧ 65536 ≤ a * 65536 + b * 256 + c := by
  have ha := hb a (by simp)
  have hb' := hb b (by simp)
  have hc := hb c (by simp)
  rw [row_iff hf hb]
  constructor
  · rintro ⟨h1, h2⟩
    refine ⟨h1, ?_⟩
    obtain ⟨i1, i2⟩ := dec_len hf (by omega) (by omega) (fun x hx => hb x (by simp [hx])) h1
    obtain ⟨x, s, e1, hx, _, d1⟩ := code_dec hf i2
    rw [h2] at e1
    have := three_is hx
    have := hx.1
    simp [three] at e1
    omega
  · rintro ⟨h1, h2⟩
    refine ⟨h1, ?_⟩
    obtain ⟨_, e⟩ := enc_dec hf ⟨h2, by omega⟩ (fun x hx => hb x (by simp [hx])) h1
    unfold code
    rw [e]
    simp only
    rw [three_of ha hb' hc]
    rfl
theorem row_short {f bs : List Int} {n : Nat} {l : List Int} (h : bs.length < 3) : ¬ IsRow f bs n l := fun k => by
  have := k.2.2
  rw [← this] at h
  simp [code, three] at h
  omega

/-- Of one sign more it is none, where no share is Total. -/
theorem row_more {f l m : List Int} (hf : right f) (hl : Signs f l) (hno : ∀ i, i < f.length → at0 f i ≠ 256) (h : IsRow f (code f l) (l.length + 1) m) : False := by
  obtain ⟨h1, h2, h3⟩ := h
  have e0 : m.take l.length ++ m.drop l.length = m := List.take_append_drop _ _
  have hd : (m.drop l.length).length = 1 := by rw [List.length_drop]; omega
  obtain ⟨s, hs⟩ : ∃ s, m.drop l.length = [s] := by
    match hm : m.drop l.length, hd with
    | [s], _ => exact ⟨s, rfl⟩
  rw [hs] at e0
  have hsg : Sgn f s := h2 s (by rw [← e0]; simp)
  have hm' : Signs f (m.take l.length) := fun t ht => h2 t (List.mem_of_mem_take ht)
  have ht : (m.take l.length).length = l.length := by rw [List.length_take]; omega
  have hs1 : Signs f [s] := fun t ht => by simp at ht; rw [ht]; exact hsg
  have hM : Mid (enc f [s] (65536, [])).1 := enc_in hf hs1 least
  have d1 := dec_enc hf hl (z := (65536, [])) least
  have d2 := dec_enc hf hm' (z := enc f [s] (65536, [])) hM
  rw [← enc_append, e0, ht] at d2
  have e1 := three_inj (enc_in hf h2 least) (enc_in hf hl least) (show three _ ++ _ = three _ ++ _ from h3)
  rw [e1.1, e1.2, d1] at d2
  have e2 : enc f [s] (65536, []) = (65536, []) := by
    have := Option.some.inj d2
    exact (Prod.mk.inj this).2.symm
  simp only [enc] at e2
  obtain ⟨p1, p2⟩ := Prod.mk.inj e2
  have hF := share_in hf (s := s.toNat) (by have := hsg.1; have := hsg.2.1; omega) hsg.2.2
  have hne := hno s.toNat (by have := hsg.1; have := hsg.2.1; omega)
  obtain ⟨a1, a2, a3, a4⟩ := hF
  unfold put ren at p1
  rw [if_neg (by
    intro hh
    unfold offb at p2
    rw [if_pos hh] at p2
    simp at p2)] at p1
  have q1 : 257 ≤ 65536 / at0 f s.toNat := (Int.le_ediv_iff_mul_le (by omega)).2 (by omega)
  have q2 : 0 ≤ 65536 % at0 f s.toNat := Int.emod_nonneg _ (by omega)
  omega

/-- How many bits a share needs. -/
def nb (F : Int) : Nat := if 256 ≤ F then 0 else if 128 ≤ F then 1 else if 64 ≤ F then 2 else if 32 ≤ F then 3 else if 16 ≤ F then 4 else if 8 ≤ F then 5 else if 4 ≤ F then 6 else if 2 ≤ F then 7 else 8
theorem nb_is {F : Int} (h : 1 ≤ F) : 256 ≤ F * 2 ^ nb F := by
  unfold nb
  repeat' split
  all_goals (simp only [Int.reducePow]; omega)
theorem nb_le (F : Int) : nb F ≤ 8 := by
  unfold nb
  repeat' split
  all_goals omega
def need (f : List Int) : List Int → Nat
  | [] => 0
  | s :: l => nb (at0 f s.toNat) + need f l
theorem need_append (f l m : List Int) : need f (l ++ m) = need f l + need f m := by
  induction l with
  | nil => simp [need]
  | cons s l ih => rw [List.cons_append, need, need, ih]; omega
theorem need_le (f l : List Int) : need f l ≤ 8 * l.length := by
  induction l with
  | nil => simp [need]
  | cons s l ih => rw [need, List.length_cons]; have := nb_le (at0 f s.toNat); omega
theorem pow_pos' {a : Int} (h : 0 < a) (n : Nat) : 0 < a ^ n := Int.pow_pos h

/-- A step makes the number greater by no more than the bits say, and a little. -/
theorem put_bits {f : List Int} (hf : right f) {s : Nat} (h : s < f.length) (hp : 0 < at0 f s) {x : Int} (hx : Mid x) : 256 * put f s x ≤ 257 * 2 ^ nb (at0 f s) * ren (at0 f s) x := by
  obtain ⟨a1, a2, a3, a4⟩ := share_in hf h hp
  obtain ⟨q1, q2, q3, q4⟩ := put_parts hf h hp hx
  have hd := Int.ediv_mul_add_emod (ren (at0 f s) x) (at0 f s)
  have hb := nb_is a1
  unfold put
  generalize ren (at0 f s) x = R at *
  generalize R / at0 f s = q at *
  generalize R % at0 f s = m at *
  generalize at0 f s = F at *
  generalize (2 : Int) ^ nb F = B at *
  have hB : 0 ≤ B := by
    rcases Int.lt_or_le B 0 with e | e
    · have := Int.mul_nonpos_of_nonneg_of_nonpos (show (0 : Int) ≤ F by omega) (show B ≤ 0 by omega)
      omega
    · exact e
  have h1 : q * 256 ≤ q * (F * B) := Int.mul_le_mul_of_nonneg_left hb (by omega)
  have h2 : q * (F * B) ≤ R * B := by
    rw [← Int.mul_assoc]
    exact Int.mul_le_mul_of_nonneg_right (by omega) hB
  have h3 : 257 * B * R = 257 * (R * B) := by rw [Int.mul_assoc, Int.mul_comm B R]
  rw [h3]
  omega
theorem off_less {F x : Int} (h0 : 0 ≤ x) (r : List Int) : (256 : Int) ^ (offb F x ++ r).length * ren F x ≤ 256 ^ r.length * x := by
  unfold offb ren
  split
  · rw [List.cons_append, List.nil_append, List.length_cons, Int.pow_succ, Int.mul_assoc]
    exact Int.mul_le_mul_of_nonneg_left (by omega) (Int.le_of_lt (pow_pos' (by omega) _))
  · rw [List.nil_append]; exact Int.le_refl _
theorem enc_bits {f : List Int} (hf : right f) {l : List Int} (hl : Signs f l) :
    (256 : Int) ^ l.length * (256 ^ (enc f l (65536, [])).2.length * (enc f l (65536, [])).1) ≤ 65536 * (2 ^ need f l * 257 ^ l.length) := by
  induction l with
  | nil => simp [enc, need]
  | cons s l ih =>
    have hs := hl s (by simp)
    have hl' : Signs f l := fun t ht => hl t (by simp [ht])
    have hi := ih hl'
    have hM := enc_in hf hl' (z := (65536, [])) least
    rw [enc, need, List.length_cons]
    simp only
    generalize enc f l (65536, []) = z at *
    have b1 := put_bits hf (s := s.toNat) (by have := hs.1; have := hs.2.1; omega) hs.2.2 hM
    have b2 := off_less (F := at0 f s.toNat) (x := z.1) (by have := hM.1; omega) z.2
    generalize put f s.toNat z.1 = P at *
    generalize ren (at0 f s.toNat) z.1 = R at *
    generalize (offb (at0 f s.toNat) z.1 ++ z.2).length = K at *
    rw [Int.pow_succ, Int.pow_succ, Int.pow_add]
    have pB : (0 : Int) < 2 ^ nb (at0 f s.toNat) := pow_pos' (by omega) _
    have pN : (0 : Int) < 256 ^ l.length := pow_pos' (by omega) _
    have pK : (0 : Int) < 256 ^ K := pow_pos' (by omega) _
    generalize (2 : Int) ^ nb (at0 f s.toNat) = B at *
    generalize (256 : Int) ^ l.length = A at *
    generalize (256 : Int) ^ K = D at *
    generalize (256 : Int) ^ z.2.length = E at *
    generalize (2 : Int) ^ need f l = G at *
    generalize (257 : Int) ^ l.length = H at *
    calc A * 256 * (D * P) = A * (D * (256 * P)) := by ac_rfl
      _ ≤ A * (D * (257 * B * R)) := Int.mul_le_mul_of_nonneg_left (Int.mul_le_mul_of_nonneg_left b1 (Int.le_of_lt pK)) (Int.le_of_lt pN)
      _ = A * (257 * B * (D * R)) := by ac_rfl
      _ ≤ A * (257 * B * (E * z.1)) := Int.mul_le_mul_of_nonneg_left (Int.mul_le_mul_of_nonneg_left b2 (by omega)) (Int.le_of_lt pN)
      _ = 257 * B * (A * (E * z.1)) := by ac_rfl
      _ ≤ 257 * B * (65536 * (G * H)) := Int.mul_le_mul_of_nonneg_left hi (by omega)
      _ = 65536 * (B * G * (H * 257)) := by ac_rfl
theorem pows {n : Nat} (h : n ≤ 60) : (257 : Int) ^ n < 2 * 256 ^ n := by
  have key : ∀ k : Nat, k ≤ 60 → (257 : Int) ^ k < 2 * 256 ^ k := by decide +kernel
  exact key n h
/-- No more bytes than told. -/
theorem code_len {f l : List Int} (hf : right f) (hl : Signs f l) (h60 : l.length ≤ 60) : 3 ≤ (code f l).length ∧ (code f l).length ≤ 3 + need f l / 8 := by
  have e : (code f l).length = 3 + (enc f l (65536, [])).2.length := by simp [code, three]; omega
  refine ⟨by omega, ?_⟩
  have hb := enc_bits hf hl
  have hM := (enc_in hf hl (z := (65536, [])) least).1
  have hp := pows h60
  rw [e]
  generalize (enc f l (65536, [])).2.length = K at *
  generalize (enc f l (65536, [])).1 = x at *
  generalize need f l = S at *
  have pN : (0 : Int) < 256 ^ l.length := pow_pos' (by omega) _
  have pK : (0 : Int) < 256 ^ K := pow_pos' (by omega) _
  have pS : (0 : Int) < 2 ^ S := pow_pos' (by omega) _
  have h1 : (256 : Int) ^ l.length * (256 ^ K * 65536) ≤ 65536 * (2 ^ S * 257 ^ l.length) :=
    Int.le_trans (Int.mul_le_mul_of_nonneg_left (Int.mul_le_mul_of_nonneg_left hM (Int.le_of_lt pK)) (Int.le_of_lt pN)) hb
  have h2 : (256 : Int) ^ l.length * 256 ^ K < 256 ^ l.length * (2 ^ S * 2) := by
    have e1 : (256 : Int) ^ l.length * (256 ^ K * 65536) = 65536 * (256 ^ l.length * 256 ^ K) := by ac_rfl
    have e2 : (2 : Int) ^ S * 257 ^ l.length < 2 ^ S * (2 * 256 ^ l.length) := Int.mul_lt_mul_of_pos_left hp pS
    have e3 : (2 : Int) ^ S * (2 * 256 ^ l.length) = 256 ^ l.length * (2 ^ S * 2) := by ac_rfl
    omega
  have h3 : (256 : Int) ^ K < 2 ^ S * 2 := Int.lt_of_mul_lt_mul_left h2 (Int.le_of_lt pN)
  have h4 : (2 : Int) ^ (8 * K) < 2 ^ (S + 1) := by
    rw [Int.pow_succ, Int.pow_mul]
    exact h3
  have h5 : (2 : Nat) ^ (8 * K) < 2 ^ (S + 1) := by exact_mod_cast h4
  have h6 : 8 * K < S + 1 := (Nat.pow_lt_pow_iff_right (by omega)).1 h5
  omega

end Go.Proofs.Ythkibjhhlcfceai.Hrn

/-
  The numbers of chapter 12: the fault of rows, how often a sign is in them. No program here.
-/
namespace Go.Proofs.Ythkibjhhlcfceai.Lrn
open Go.Proofs.Ythkibjhhlcfceai.Tre Go.Proofs.Ythkibjhhlcfceai.Scl Go.Proofs.Ythkibjhhlcfceai.Hrn
set_option linter.unusedVariables false

/-- No sign of so many. -/
def out (n s : Int) : Bool := decide (s < 0) || decide (n ≤ s)
/-- The fault of rows, row by row. -/
def rf (n : Int) : List (List Int) → Int
  | [] => 0
  | l :: r => if 60 < l.length then 4 else if l.any (out n) = true then 1 else rf n r
/-- The fault of rows of so many signs. -/
def rows (ll : List (List Int)) (n : Int) : Int := if n < 1 ∨ 40 < n then 1 else if 60 < ll.length then 4 else rf n ll
theorem rf_in (n : Int) (ll : List (List Int)) : rf n ll = 0 ∨ rf n ll = 1 ∨ rf n ll = 4 := by
  induction ll with
  | nil => exact Or.inl rfl
  | cons l r ih =>
    rw [rf]
    split
    · exact Or.inr (Or.inr rfl)
    · split
      · exact Or.inr (Or.inl rfl)
      · exact ih
theorem rows_in (ll : List (List Int)) (n : Int) : rows ll n = 0 ∨ rows ll n = 1 ∨ rows ll n = 4 := by
  unfold rows
  split
  · exact Or.inr (Or.inl rfl)
  · split
    · exact Or.inr (Or.inr rfl)
    · exact rf_in n ll
/-- A row of signs of so many, and no longer than may be. -/
def Rw (n : Int) (l : List Int) : Prop := l.length ≤ 60 ∧ ∀ s ∈ l, 0 ≤ s ∧ s < n
theorem out_no {n : Int} {l : List Int} (h : ¬ l.any (out n) = true) : ∀ s ∈ l, 0 ≤ s ∧ s < n := by
  intro s hs
  have h1 : ¬ out n s = true := fun h2 => h (List.any_eq_true.2 ⟨s, hs, h2⟩)
  simp [out] at h1
  omega
theorem rf_zero {n : Int} {ll : List (List Int)} : rf n ll = 0 ↔ ∀ l ∈ ll, Rw n l := by
  induction ll with
  | nil => exact ⟨fun _ l hl => by simp at hl, fun _ => rfl⟩
  | cons l r ih =>
    rw [rf]
    constructor
    · intro h
      split at h
      · omega
      · split at h
        · omega
        · rename_i h1 h2
          intro m hm
          rcases List.mem_cons.1 hm with e | e
          · rw [e]; exact ⟨by omega, out_no h2⟩
          · exact ih.1 h m e
    · intro h
      obtain ⟨h1, h2⟩ := h l (by simp)
      rw [if_neg (by omega), if_neg ?_]
      · exact ih.2 fun m hm => h m (by simp [hm])
      · intro h3
        obtain ⟨s, hs, h4⟩ := List.any_eq_true.1 h3
        have := h2 s hs
        simp [out] at h4
        omega
theorem rows_zero {ll : List (List Int)} {n : Int} (h : rows ll n = 0) : 1 ≤ n ∧ n ≤ 40 ∧ ll.length ≤ 60 ∧ ∀ l ∈ ll, Rw n l := by
  unfold rows at h
  split at h
  · omega
  · split at h
    · omega
    · exact ⟨by omega, by omega, by omega, rf_zero.1 h⟩
theorem rows_ok {ll : List (List Int)} {n : Int} (h1 : 1 ≤ n) (h2 : n ≤ 40) (h3 : ll.length ≤ 60) (h4 : ∀ l ∈ ll, Rw n l) : rows ll n = 0 := by
  unfold rows
  rw [if_neg (by omega), if_neg (by omega)]
  exact rf_zero.2 h4

/-- How often a sign is in rows. -/
def tms (ll : List (List Int)) (s : Int) : Nat := ll.flatten.count s
theorem flat_len {n : Int} {ll : List (List Int)} (h : ∀ l ∈ ll, Rw n l) : ll.flatten.length ≤ 60 * ll.length := by
  induction ll with
  | nil => simp
  | cons l r ih =>
    have h1 := (h l (by simp)).1
    have h2 := ih fun m hm => h m (by simp [hm])
    simp only [List.flatten_cons, List.length_append, List.length_cons]
    omega
theorem tms_le {n : Int} {ll : List (List Int)} (h : ∀ l ∈ ll, Rw n l) (h60 : ll.length ≤ 60) (s : Int) : tms ll s ≤ 3600 := by
  have h1 := flat_len h
  have h2 : tms ll s ≤ ll.flatten.length := List.count_le_length
  omega
theorem tms_nil (s : Int) : tms [] s = 0 := rfl
theorem tms_reverse (ll : List (List Int)) (s : Int) : tms ll.reverse s = tms ll s := by
  unfold tms
  rw [List.count_flatten, List.count_flatten, List.map_reverse, List.sum_reverse]
theorem tms_step {ll : List (List Int)} {k : Nat} (h : k < ll.length) (s : Int) : tms (ll.take (k + 1)) s = tms (ll.take k) s + (rowAt ll k).count s := by
  unfold tms
  rw [List.take_succ_eq_append_getElem h, List.flatten_append, List.count_append, rowAt_get h]
  simp
theorem tms_all (ll : List (List Int)) (s : Int) : tms (ll.take ll.length) s = tms ll s := by rw [List.take_length]
theorem count_step {l : List Int} {q : Nat} (h : q < l.length) (s : Int) : (l.take (q + 1)).count s = (l.take q).count s + if at0 l q = s then 1 else 0 := by
  have e : at0 l q = l[q] := by simp [at0, h]
  rw [List.take_succ_eq_append_getElem h, List.count_append, e, List.count_singleton]
  simp
/-- The counts of so many signs. -/
def cts (ll : List (List Int)) (n : Nat) : List Int := upto (fun s => 1 + (tms ll s : Int)) n
theorem cts_length (ll : List (List Int)) (n : Nat) : (cts ll n).length = n := upto_length _ _
theorem cts_at (ll : List (List Int)) {n i : Nat} (h : i < n) : at0 (cts ll n) i = 1 + (tms ll i : Int) := upto_at _ h
theorem cts_reverse (ll : List (List Int)) (n : Nat) : cts ll.reverse n = cts ll n := upto_congr fun i _ => by rw [tms_reverse]
theorem cts_nil (n : Nat) : cts [] n = upto (fun _ => 1) n := upto_congr fun i _ => by rw [tms_nil]; rfl
theorem cts_ok {ll : List (List Int)} {n : Nat} (h : rows ll n = 0) : cf (cts ll n) = 0 := by
  obtain ⟨h1, h2, h3, h4⟩ := rows_zero h
  have hin : ∀ i, i < (cts ll n).length → 0 ≤ at0 (cts ll n) i ∧ at0 (cts ll n) i ≤ 1000000 := fun i hi => by
    rw [cts_length] at hi
    rw [cts_at ll hi]
    have := tms_le h4 h3 (i : Int)
    omega
  have hany : (cts ll n).any wrong = false := by
    apply List.any_eq_false.2
    intro x hx
    obtain ⟨i, hi, rfl⟩ := List.getElem_of_mem hx
    have h5 := hin i hi
    have e : at0 (cts ll n) i = (cts ll n)[i] := by simp [at0, hi]
    rw [e] at h5
    simp [wrong]; omega
  have htot : 0 < tot (cts ll n) := by
    have h5 := at_le_tot (l := cts ll n) (fun i hi => (hin i hi).1) (i := 0) (by rw [cts_length]; omega)
    rw [cts_at ll (by omega)] at h5
    omega
  unfold cf
  rw [cts_length, if_neg (by omega), if_neg (by omega), if_neg (by rw [hany]; simp), if_neg (by omega)]
/-- The shares that were learnt are right, and each sign has one. -/
theorem learnt {ll : List (List Int)} {n : Nat} (h : rows ll n = 0) : right (scale (cts ll n)) ∧ (scale (cts ll n)).length = n ∧ ∀ i, i < n → 0 < at0 (scale (cts ll n)) i := by
  obtain ⟨h1, h2, h3, h4⟩ := rows_zero h
  obtain ⟨s1, s2, s3, s4⟩ := scale_is (cts_ok h)
  rw [cts_length] at s1 s3 s4
  refine ⟨⟨by omega, by omega, fun i hi => s3 i (by omega), s2⟩, s1, fun i hi => (s4 i hi).2 ?_⟩
  rw [cts_at ll hi]
  omega

end Go.Proofs.Ythkibjhhlcfceai.Lrn
