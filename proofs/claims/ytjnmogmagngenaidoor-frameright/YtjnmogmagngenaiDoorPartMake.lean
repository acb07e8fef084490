/-
  make of parts: of this call's own, without a gain and without pulses; a gain is set.
-/
import Derived.Test.YtjnmogmagngenaiDoorPartBare
namespace Go.Proofs.YtjnmogmagngenaiDoor.Frm
open Go.RowKit
open Go.Proofs.YtjnmogmagngenaiDoor.Tre
set_option linter.unusedVariables false

/-- The first k gains are set, of n parts. -/
def qz (gs : List Int) (n k : Nat) : List (Int × Value) := (List.range n).map fun i => (if i < k then at0 gs i else 0, .slice none 0 0)
theorem qz_length (gs : List Int) (n k : Nat) : (qz gs n k).length = n := by simp [qz]
theorem qz_at {gs : List Int} {n k i : Nat} (h : i < n) : (qz gs n k)[i]? = some (if i < k then at0 gs i else 0, .slice none 0 0) := by
  simp [qz, h]
theorem qz_zero (gs : List Int) (n : Nat) : qz gs n 0 = List.replicate n (0, .slice none 0 0) := by
  apply List.ext_getElem?
  intro i
  by_cases h : i < n
  · rw [qz_at h, List.getElem?_replicate, if_pos h, if_neg (by omega)]
  · rw [List.getElem?_eq_none (by rw [qz_length]; omega), List.getElem?_replicate, if_neg h]
theorem qz_all (gs : List Int) : qz gs gs.length gs.length = q0 gs gs.length := by
  apply List.ext_getElem?
  intro i
  by_cases h : i < gs.length
  · rw [qz_at h, q0_at h (Nat.le_refl _), if_pos h]
  · rw [List.getElem?_eq_none (by rw [qz_length]; omega), List.getElem?_eq_none (by rw [q0_length (Nat.le_refl _)]; omega)]
theorem qz_set {gs : List Int} {n k : Nat} (h : k < n) {G : Int} (hG : at0 gs k = G) : (qz gs n k).set k (G, .slice none 0 0) = qz gs n (k + 1) := by
  apply List.ext_getElem?
  intro i
  by_cases hi : i < n
  · by_cases e : i = k
    · subst e
      rw [List.getElem?_set_self (by rw [qz_length]; exact h), qz_at h, if_pos (by omega), hG]
    · rw [List.getElem?_set_ne (by omega), qz_at hi, qz_at hi]
      by_cases e2 : i < k
      · rw [if_pos e2, if_pos (by omega)]
      · rw [if_neg e2, if_neg (by omega)]
  · rw [List.getElem?_eq_none (by rw [List.length_set, qz_length]; omega), List.getElem?_eq_none (by rw [qz_length]; omega)]
theorem pcs_set0 {qs : List (Int × Value)} {j : Nat} {q : Int × Value} (h : qs[j]? = some q) (G : Int) : (pcs qs).set (j * 2) (.int .i64 G) = pcs (qs.set j (G, q.2)) := by
  induction qs generalizing j with
  | nil => simp at h
  | cons r qs ih =>
    have e : ∀ x rs, pcs (x :: rs) = .int .i64 x.1 :: x.2 :: pcs rs := fun _ _ => rfl
    cases j with
    | zero =>
      obtain rfl : r = q := by simpa using h
      rfl
    | succ j =>
      have := ih (j := j) (by simpa using h)
      rw [List.set_cons_succ, e, e, ← this, show (j + 1) * 2 = j * 2 + 2 by omega]
      rfl
theorem HasP.put0 {w : World} {base g n c : Nat} {qs : List (Int × Value)} (h : HasP w base (.slice (some ⟨g, 0, none⟩) n c) qs) (hn : n = qs.length) {j : Nat} {q : Int × Value} (hj : qs[j]? = some q) (G : Int) :
    HasP (w.setCell ⟨g, j * 2, none⟩ (.int .i64 G)) base (.slice (some ⟨g, 0, none⟩) n c) (qs.set j (G, q.2)) ∧ w.grownBy (w.setCell ⟨g, j * 2, none⟩ (.int .i64 G)) (some g) := by
  subst hn
  have := World.ownsRow.stored h (j * 2) (.int .i64 G)
  refine ⟨?_, this.2⟩
  unfold HasP
  rw [List.length_set, ← pcs_set0 hj]
  exact this.1
theorem made_parts (n : Nat) : (madeCells #[Value.int .i64 0, .slice none 0 0] (n * 2)).toList = pcs (List.replicate n (0, .slice none 0 0)) := by
  apply List.ext_getElem?
  intro j
  by_cases hj : j < n * 2
  · have hr : (List.replicate n ((0 : Int), Value.slice none 0 0))[j / 2]? = some (0, .slice none 0 0) := by rw [List.getElem?_replicate, if_pos (by omega)]
    obtain ⟨e0, e1⟩ := pcs_at hr
    rcases Nat.mod_two_eq_zero_or_one j with h | h
    · rw [show j / 2 * 2 = j by omega] at e0
      rw [e0]
      simp [madeCells, hj, h]
    · rw [show j / 2 * 2 + 1 = j by omega] at e1
      rw [e1]
      simp [madeCells, hj, h]
  · rw [List.getElem?_eq_none (by simp [madeCells]; omega), List.getElem?_eq_none (by rw [pcs_length, List.length_replicate]; omega)]

theorem wpList_mkp {ops : Array Oper} {rest : List Oper} {o : Oper} {a : Act} {Q : Exit → Act → World → Prop} (w : World) (hgd : o.guard = none) (s : Operand)
    (ho : o.op = .makeSlice 23 s s) (n : Nat) (hs : a.eval s = .int .i64 n) (hn : n ≤ 1000000)
    (h : ∀ w', HasP w' w.heap.size (.slice (some ⟨w.heap.size, 0, none⟩) n n) (List.replicate n (0, .slice none 0 0)) → Below w.heap.size w w' → w.heap.size < w'.heap.size → wpList Tryd.prog ops Q rest (a.put o.dst (.slice (some ⟨w.heap.size, 0, none⟩) n n)) w') :
    wpList Tryd.prog ops Q (o :: rest) a w := by
  obtain ⟨i0, hi, hz0, hz1, hz2⟩ := info_parts info_part
  refine wpList_make_full w hgd s s 23 ho w.heap.size 29 i0 (.agg #[.int .i64 0, .slice none 0 0]) 2 Tryd.underlying23 hi hz0 hz1 _ _ _ _ n hs hs rfl rfl (by rw [hz2]; omega) (by unfold maxLen; omega) (Nat.le_refl _) ?_
  intro w2 hown hgrow
  refine h w2 ?_ ((Below.refl _ _).grown hgrow (Nat.le_refl _) (by intro k hk; cases hk)) ?_
  · unfold HasP
    rw [List.length_replicate, ← made_parts]
    exact hown
  · exact (World.ownsRow.lt hown w.heap.size rfl).2

end Go.Proofs.YtjnmogmagngenaiDoor.Frm
