/-
  A region that draws its order, whose last operation waits for all others: words for the orders it may take.
-/
import Derived.Test.YtkkhgdkgbhdfaakGreatDoorRa00
import Derived.Orders
namespace Go.Proofs.YtkkhgdkgbhdfaakGreatDoor.Itr
open Go.RowKit
set_option linter.unusedVariables false

section
variable {ops ops' : Array Oper} {k : Nat} {o o' : Oper}
/-- What is asked of the operations: the two lists are the same but for the last one, which is stilled in the second; each waits for earlier ones alone, and the last for all. -/
structure Lasts (ops ops' : Array Oper) (k : Nat) (o o' : Oper) : Prop where
  at_k : ops[k]? = some o
  at_k' : ops'[k]? = some o'
  size : ops.size = k + 1
  size' : ops'.size = k + 1
  same : ∀ (i : Nat), i ≠ k → ops'[i]? = ops[i]?
  after : o'.after = o.after
  dst' : o'.dst = none
  plain : ∀ (i : Nat) (p : Oper), ops[i]? = some p → p.guard = none ∧ ∀ c, p.op ≠ Op.defer c
  early : ∀ (i : Nat) (p : Oper), ops[i]? = some p → ∀ e ∈ p.after, Region.binds .any e = true → e.on < i
  all : ∀ (j : Nat), j < k → ∃ e ∈ o.after, Region.binds .any e = true ∧ e.on = j

theorem Lasts.ready (h : Lasts ops ops' k o o') (s : Array Bool) (i : Nat) : i ∈ Region.ready .any ops' s ↔ i ∈ Region.ready .any ops s := by
  rw [mem_ready, mem_ready]
  by_cases e : i = k
  · subst e
    rw [h.at_k, h.at_k']
    constructor
    · rintro ⟨h1, p, h2, h3⟩
      cases h2
      exact ⟨h1, o, rfl, by rw [← h.after]; exact h3⟩
    · rintro ⟨h1, p, h2, h3⟩
      cases h2
      exact ⟨h1, o', rfl, by rw [h.after]; exact h3⟩
  · rw [h.same i e]
theorem getD_false_of {s : Array Bool} {i : Nat} (hi : i < s.size) (h : ¬ s.getD i true = false) : s.getD i false = true := by
  simp [Array.getD, hi] at h ⊢
  exact h
/-- While the last one has not come up, one is ready. -/
theorem Lasts.goes (h : Lasts ops ops' k o o') (s : Array Bool) (hs : s.size = k + 1) (hk : s.getD k true = false) : Region.ready .any ops s ≠ [] := by
  -- the first one that has not come up
  have key : ∀ m, m ≤ k → (∀ j, j < m → s.getD j false = true) ∨ ∃ i, i < m ∧ s.getD i true = false ∧ ∀ j, j < i → s.getD j false = true := by
    intro m
    induction m with
    | zero => intro _; exact Or.inl (fun j hj => by omega)
    | succ m ih =>
      intro hm
      rcases ih (by omega) with h1 | ⟨i, h1, h2, h3⟩
      · by_cases e : s.getD m true = false
        · exact Or.inr ⟨m, by omega, e, h1⟩
        · refine Or.inl (fun j hj => ?_)
          by_cases e' : j = m
          · subst e'; exact getD_false_of (by omega) e
          · exact h1 j (by omega)
      · exact Or.inr ⟨i, by omega, h2, h3⟩
  have first : ∃ i, i ≤ k ∧ s.getD i true = false ∧ ∀ j, j < i → s.getD j false = true := by
    rcases key k (Nat.le_refl _) with h1 | ⟨i, h1, h2, h3⟩
    · exact ⟨k, Nat.le_refl _, hk, h1⟩
    · exact ⟨i, by omega, h2, h3⟩
  obtain ⟨i, h1, h2, h3⟩ := first
  intro he
  have hp : ops[i]? = some (ops[i]'(by rw [h.size]; omega)) := Array.getElem?_eq_getElem _
  have hm : i ∈ Region.ready .any ops s := mem_ready.2 ⟨h2, _, hp, fun e hin hb => h3 e.on (h.early i _ hp e hin hb)⟩
  rw [he] at hm
  cases hm
/-- When the last one comes up all others have. -/
theorem Lasts.ends (h : Lasts ops ops' k o o') (s : Array Bool) (hs : s.size = k + 1) (hk : k ∈ Region.ready .any ops s) : Region.ready .any ops (s.setIfInBounds k true) = [] := by
  rw [List.eq_nil_iff_forall_not_mem]
  intro j hj
  obtain ⟨h1, p, h2, _⟩ := mem_ready.1 hj
  have hjk : j < k + 1 := by rw [← h.size]; exact (Array.getElem?_eq_some_iff.1 h2).1
  by_cases e : j = k
  · subst e
    simp [hs] at h1
  · have e1 : (s.setIfInBounds k true).getD j true = s.getD j true := by simp [Array.getD, show j < s.size by omega, show k ≠ j from fun x => e x.symm]
    rw [e1] at h1
    obtain ⟨_, q, h3, h4⟩ := mem_ready.1 hk
    rw [h.at_k] at h3
    cases h3
    obtain ⟨x, hx, hb, hon⟩ := h.all j (by omega)
    have h5 := h4 x hx hb
    rw [hon] at h5
    simp [Array.getD, show j < s.size by omega] at h1 h5
    rw [h1] at h5
    cases h5

end

/-- The last operation is stilled. -/
def calm : List Oper → List Oper
  | [] => []
  | [o] => [{ o with dst := none, op := .move (.const undef) }]
  | o :: p :: r => o :: calm (p :: r)
/-- What is asked of the operations, reckoned. -/
def fits (l : List Oper) : Bool :=
  l.all (fun o => o.guard.isNone && (match o.op with | .defer _ => false | _ => true)) &&
  (List.range l.length).all (fun i => match l[i]? with | some o => o.after.all (fun e => !Region.binds .any e || decide (e.on < i)) | none => false) &&
  (match l.getLast? with | some o => (List.range (l.length - 1)).all (fun j => o.after.any (fun e => Region.binds .any e && decide (e.on = j))) | none => false)

theorem calm_length (l : List Oper) : (calm l).length = l.length := by
  induction l with
  | nil => rfl
  | cons o l ih =>
    cases l with
    | nil => rfl
    | cons p r => simp only [calm, List.length_cons, ih]
theorem calm_same (l : List Oper) : ∀ i, i + 1 < l.length → (calm l)[i]? = l[i]? := by
  induction l with
  | nil => intro i hi; simp at hi
  | cons o l ih =>
    cases l with
    | nil => intro i hi; simp at hi
    | cons p r =>
      intro i hi
      cases i with
      | zero => simp [calm]
      | succ i =>
        simp only [calm, List.getElem?_cons_succ]
        exact ih i (by simpa using hi)
theorem calm_last (l : List Oper) (o : Oper) (h : l.getLast? = some o) : (calm l).getLast? = some { o with dst := none, op := .move (.const undef) } := by
  induction l with
  | nil => cases h
  | cons p l ih =>
    cases l with
    | nil => simp at h; subst h; simp [calm]
    | cons q r =>
      rw [List.getLast?_cons_cons] at h
      have := ih h
      simp only [calm]
      cases hc : calm (q :: r) with
      | nil => rw [hc] at this; cases this
      | cons x y => rw [List.getLast?_cons_cons, ← hc]; exact this

theorem lasts_of {l : List Oper} (h : fits l = true) : ∃ o, l.getLast? = some o ∧ Lasts l.toArray (calm l).toArray (l.length - 1) o { o with dst := none, op := .move (.const undef) } := by
  unfold fits at h
  rw [Bool.and_eq_true, Bool.and_eq_true] at h
  obtain ⟨⟨h1, h2⟩, h3⟩ := h
  cases ho : l.getLast? with
  | none => rw [ho] at h3; cases h3
  | some o =>
    rw [ho] at h3
    simp only at h3
    have hne : 0 < l.length := by
      cases l with
      | nil => cases ho
      | cons a b => simp
    have hl1 : l[l.length - 1]? = some o := by rw [← List.getLast?_eq_getElem?]; exact ho
    have hl2 := calm_last l o ho
    rw [List.getLast?_eq_getElem?, calm_length] at hl2
    refine ⟨o, rfl, ⟨by simpa using hl1, by simpa using hl2, by simp; omega, by simp [calm_length]; omega, fun i hi => ?_, rfl, rfl, fun i p hp => ?_, fun i p hp e he hb => ?_, fun j hj => ?_⟩⟩
    · by_cases e : i + 1 < l.length
      · simpa using calm_same l i e
      · have : l.length ≤ i := by omega
        simp [List.getElem?_eq_none this, List.getElem?_eq_none (show (calm l).length ≤ i by rw [calm_length]; exact this)]
    · have hp' : l[i]? = some p := by simpa using hp
      have hm := List.all_eq_true.1 h1 p (List.mem_of_getElem? hp')
      rw [Bool.and_eq_true] at hm
      refine ⟨by simpa using hm.1, fun c hc => ?_⟩
      have := hm.2
      rw [hc] at this
      cases this
    · have hp' : l[i]? = some p := by simpa using hp
      have hi : i < l.length := by
        rcases Nat.lt_or_ge i l.length with x | x
        · exact x
        · rw [List.getElem?_eq_none x] at hp'; cases hp'
      have hm := List.all_eq_true.1 h2 i (List.mem_range.2 hi)
      rw [hp'] at hm
      have hm2 := (Array.all_eq_true_iff_forall_mem.1 hm) e he
      rw [hb] at hm2
      simpa using hm2
    · have hm := List.all_eq_true.1 h3 j (List.mem_range.2 hj)
      obtain ⟨e, he, hb⟩ := Array.any_eq_true'.1 hm
      rw [Bool.and_eq_true] at hb
      exact ⟨e, he, hb.1, by simpa using hb.2⟩

end Go.Proofs.YtkkhgdkgbhdfaakGreatDoor.Itr
