/-
  Places in order of the greatest rests, by insertion. No program here.
-/
import Derived.Test.YtjnmogmagngenadDoorNearMath
namespace Go.Proofs.YtjnmogmagngenadDoor.Nea
open Go.Proofs.YtjnmogmagngenadDoor.Tre Go.Proofs.YtjnmogmagngenadDoor.Pls
set_option linter.unusedVariables false

/-- Each place once. -/
def Bij (s : Nat → Nat) (n : Nat) : Prop := (∀ t, t < n → s t < n) ∧ (∀ a b, a < n → b < n → s a = s b → a = b) ∧ ∀ i, i < n → ∃ t, t < n ∧ s t = i
def swp (s : Nat → Nat) (j t : Nat) : Nat := if t = j then s (j + 1) else if t = j + 1 then s j else s t
theorem swp_l (s : Nat → Nat) (j : Nat) : swp s j j = s (j + 1) := by simp [swp]
theorem swp_r (s : Nat → Nat) (j : Nat) : swp s j (j + 1) = s j := by simp [swp]
theorem swp_o (s : Nat → Nat) {j t : Nat} (h : t ≠ j) (h' : t ≠ j + 1) : swp s j t = s t := by simp [swp, h, h']
theorem Bij.swap {s : Nat → Nat} {n j : Nat} (h : Bij s n) (hj : j + 1 < n) : Bij (swp s j) n := by
  obtain ⟨h1, h2, h3⟩ := h
  refine ⟨fun t ht => ?_, fun a b ha hb e => ?_, fun i hi => ?_⟩
  · unfold swp; split
    · exact h1 _ hj
    · split
      · exact h1 _ (by omega)
      · exact h1 _ ht
  · have q1 := h2 j (j + 1) (by omega) hj
    have q2 := h2 a j ha (by omega)
    have q3 := h2 a (j + 1) ha hj
    have q4 := h2 b j hb (by omega)
    have q5 := h2 b (j + 1) hb hj
    have q6 := h2 a b ha hb
    unfold swp at e
    split at e <;> split at e <;> (try split at e) <;> (try split at e) <;> omega
  · obtain ⟨t, ht, e⟩ := h3 i hi
    by_cases e1 : t = j
    · exact ⟨j + 1, hj, by rw [swp_r, ← e1, e]⟩
    · by_cases e2 : t = j + 1
      · exact ⟨j, by omega, by rw [swp_l, ← e2, e]⟩
      · exact ⟨t, ht, by rw [swp_o s e1 e2, e]⟩

/-- The first i are in order, the others stand where they stood. -/
def Ins (r : Nat → Nat) (s : Nat → Nat) (n i : Nat) : Prop := Bij s n ∧ (∀ t, i ≤ t → t < n → s t = t) ∧ (∀ t, t < i → s t < i) ∧ ∀ a b, a < b → b < i → Beats r (s a) (s b)
/-- .. and i is on its way, at place j. -/
def InsJ (r : Nat → Nat) (s : Nat → Nat) (n i j : Nat) : Prop := i < n ∧ j ≤ i ∧ Bij s n ∧ (∀ t, i < t → t < n → s t = t) ∧ s j = i ∧ (∀ t, t ≤ i → t ≠ j → s t < i) ∧
  (∀ a b, a < b → b ≤ i → a ≠ j → b ≠ j → Beats r (s a) (s b)) ∧ ∀ t, j < t → t ≤ i → Beats r i (s t)
theorem ins_start (r : Nat → Nat) (n : Nat) : Ins r (fun t => t) n 1 :=
  ⟨⟨fun t h => h, fun a b _ _ e => e, fun i hi => ⟨i, hi, rfl⟩⟩, fun t _ _ => rfl, fun t h => h, fun a b h1 h2 => by omega⟩
theorem Ins.go {r s : Nat → Nat} {n i : Nat} (h : Ins r s n i) (hi : i < n) : InsJ r s n i i := by
  obtain ⟨h1, h2, h3, h4⟩ := h
  exact ⟨hi, Nat.le_refl _, h1, fun t ht => h2 t (by omega), h2 i (Nat.le_refl _) hi, fun t ht hn => h3 t (by omega), fun a b hab hb _ hn => h4 a b hab (by omega), fun t a b => by omega⟩
theorem InsJ.step {r s : Nat → Nat} {n i j : Nat} (h : InsJ r s n i (j + 1)) (hr : r (s j) < r (s (j + 1))) : InsJ r (swp s j) n i j := by
  obtain ⟨h1, h2, h3, h4, h5, h6, h7, h8⟩ := h
  rw [h5] at hr
  refine ⟨h1, by omega, h3.swap (by omega), fun t ht htn => ?_, by rw [swp_l, h5], fun t ht hn => ?_, fun a b hab hb ha hb' => ?_, fun t ht ht' => ?_⟩
  · rw [swp_o s (by omega) (by omega)]; exact h4 t ht htn
  · by_cases e : t = j + 1
    · rw [e, swp_r]; exact h6 j (by omega) (by omega)
    · rw [swp_o s hn e]; exact h6 t ht e
  · by_cases e : a = j + 1
    · rw [e, swp_r, swp_o s hb' (by omega)]; exact h7 j b (by omega) hb (by omega) (by omega)
    · rw [swp_o s ha e]
      by_cases e' : b = j + 1
      · rw [e', swp_r]; exact h7 a j (by omega) (by omega) e (by omega)
      · rw [swp_o s hb' e']; exact h7 a b hab hb e e'
  · by_cases e : t = j + 1
    · rw [e, swp_r]; exact Or.inl hr
    · rw [swp_o s (by omega) e]; exact h8 t (by omega) ht'
theorem InsJ.stop {r s : Nat → Nat} {n i j : Nat} (h : InsJ r s n i j) (hr : j = 0 ∨ r (s j) ≤ r (s (j - 1))) : Ins r s n (i + 1) := by
  obtain ⟨h1, h2, h3, h4, h5, h6, h7, h8⟩ := h
  have hlast : ∀ a, a < j → Beats r (s a) i := by
    intro a ha
    rcases hr with rfl | hr
    · omega
    · have k1 : Beats r (s (j - 1)) i := by
        have := h6 (j - 1) (by omega) (by omega)
        rw [h5] at hr
        unfold Beats; omega
      by_cases e : a = j - 1
      · rw [e]; exact k1
      · have k2 := h7 a (j - 1) (by omega) (by omega) (by omega) (by omega)
        unfold Beats at *; omega
  refine ⟨h3, fun t ht => h4 t (by omega), fun t ht => ?_, fun a b hab hb => ?_⟩
  · by_cases e : t = j
    · rw [e, h5]; omega
    · have := h6 t (by omega) e; omega
  · by_cases e : a = j
    · subst e; rw [h5]; exact h8 b hab (by omega)
    · by_cases e' : b = j
      · subst e'; rw [h5]; exact hlast a hab
      · exact h7 a b hab (by omega) e e'

/-- Who is among the first m. -/
def gt (s : Nat → Nat) (m i : Nat) : Bool := (List.range m).any fun t => s t == i
theorem gt_zero (s : Nat → Nat) (i : Nat) : gt s 0 i = false := rfl
theorem gt_succ (s : Nat → Nat) (m i : Nat) : gt s (m + 1) i = with1 (gt s m) (s m) i := by
  unfold gt with1
  rw [List.range_succ, List.any_append]
  congr 1
  simp only [List.any_cons, List.any_nil, Bool.or_false]
  by_cases e : s m = i
  · simp [e]
  · have e' : ¬ i = s m := fun h => e h.symm
    simp [e, e']
theorem gt_no {s : Nat → Nat} {m i : Nat} : gt s m i = false ↔ ∀ t, t < m → s t ≠ i := by simp [gt]
theorem gt_best {r s : Nat → Nat} {n m : Nat} (h : Ins r s n n) (hm : m < n) : Best r (gt s m) n (s m) := by
  obtain ⟨⟨h1, h2, h3⟩, _, _, h4⟩ := h
  refine ⟨h1 m hm, gt_no.2 fun t ht e => ?_, fun i hi hg => ?_⟩
  · have := h2 t m (by omega) hm e; omega
  · obtain ⟨t, ht, rfl⟩ := h3 i hi
    have hn := gt_no.1 hg
    by_cases e : t = m
    · exact Or.inl (by rw [e])
    · exact Or.inr (h4 m t (by rcases Nat.lt_or_ge t m with k | k; exact absurd rfl (hn t k); omega) ht)
theorem gt_pick {r s : Nat → Nat} {n : Nat} (h : Ins r s n n) : ∀ m, m ≤ n → Pick r n m (gt s m) := by
  intro m
  induction m with
  | zero => intro _; exact pick_zero r n
  | succ m ih =>
    intro hm
    have := (ih (by omega)).more (gt_best h hm)
    have e : gt s (m + 1) = with1 (gt s m) (s m) := funext (gt_succ s m)
    rw [e]; exact this

theorem upto_set (f : Nat → Int) {n j : Nat} (x : Int) : (upto f n).set j x = upto (fun t => if t = j then x else f t) n := by
  refine eq_of_at (by rw [List.length_set, upto_length, upto_length]) fun i hi => ?_
  rw [List.length_set, upto_length] at hi
  rw [upto_at _ hi]
  unfold at0
  rw [List.getElem?_set]
  by_cases e : i = j
  · subst e; simp [upto_length, hi]
  · rw [if_neg (fun h => e h.symm), if_neg e]
    exact upto_at f hi
theorem swp_set (s : Nat → Nat) {n j : Nat} {x y : Int} (hx : (s j : Int) = x) (hy : (s (j + 1) : Int) = y) : ((upto (fun t => (s t : Int)) n).set (j + 1) x).set j y = upto (fun t => (swp s j t : Int)) n := by
  rw [upto_set, upto_set]
  refine upto_congr fun t _ => ?_
  unfold swp
  by_cases e : t = j
  · rw [if_pos e, if_pos e, hy]
  · rw [if_neg e, if_neg e]
    by_cases e' : t = j + 1
    · rw [if_pos e', if_pos e', hx]
    · rw [if_neg e', if_neg e']

end Go.Proofs.YtjnmogmagngenadDoor.Nea
