/-
  The fault of shares and a row of signs. No program here.
-/
import Derived.Test.YtgffpljnhadigafDoorHornMath
namespace Go.Proofs.YtgffpljnhadigafDoor.Hrn
open Go.Proofs.YtgffpljnhadigafDoor.Tre Go.Proofs.YtgffpljnhadigafDoor.Scl
set_option linter.unusedVariables false

/-- The fault of signs, one by one. -/
def sf (f : List Int) : List Int → Int
  | [] => 0
  | s :: l => if s < 0 ∨ (f.length : Int) ≤ s then 1 else if at0 f s.toNat = 0 then 5 else sf f l
theorem sf_signs {f : List Int} (hf : right f) (l : List Int) : sf f l = 0 ↔ Signs f l := by
  induction l with
  | nil => exact ⟨fun _ s hs => by simp at hs, fun _ => rfl⟩
  | cons s l ih =>
    rw [sf]
    constructor
    · intro h
      split at h
      · omega
      · split at h
        · omega
        · rename_i h1 h2
          intro t ht
          rcases List.mem_cons.1 ht with e | e
          · subst e
            have h3 := hf.2.2.1 t.toNat (by omega)
            exact ⟨by omega, by omega, by omega⟩
          · exact ih.1 h t e
    · intro h
      obtain ⟨h1, h2, h3⟩ := h s (by simp)
      rw [if_neg (by omega), if_neg (by omega)]
      exact ih.2 fun t ht => h t (by simp [ht])
theorem sf_in (f l : List Int) : sf f l = 0 ∨ sf f l = 1 ∨ sf f l = 5 := by
  induction l with
  | nil => exact Or.inl rfl
  | cons s l ih =>
    rw [sf]
    split
    · exact Or.inr (Or.inl rfl)
    · split
      · exact Or.inr (Or.inr rfl)
      · exact ih
theorem drop_cons {l : List Int} {k : Nat} (h : k < l.length) : l.drop k = at0 l k :: l.drop (k + 1) := by
  rw [List.drop_eq_getElem_cons h]
  simp [at0, h]
/-- The fault of shares and a row. -/
def RowF (f l : List Int) (e : Int) : Prop := (¬ right f ∧ e = 3) ∨ (right f ∧ 60 < l.length ∧ e = 4) ∨ (right f ∧ l.length ≤ 60 ∧ e = sf f l)
theorem RowF.one {f l : List Int} {e e' : Int} (h : RowF f l e) (k : RowF f l e') : e = e' := by
  rcases h with ⟨a, b⟩ | ⟨a, b, c⟩ | ⟨a, b, c⟩ <;> rcases k with ⟨a', b'⟩ | ⟨a', b', c'⟩ | ⟨a', b', c'⟩
  all_goals first | omega | exact absurd a' a | exact absurd a a'
theorem rowF_is (f l : List Int) : ∃ e, RowF f l e ∧ (e = 0 ∨ e = 1 ∨ e = 3 ∨ e = 4 ∨ e = 5) := by
  by_cases h : right f
  · by_cases h2 : 60 < l.length
    · exact ⟨4, Or.inr (Or.inl ⟨h, h2, rfl⟩), by omega⟩
    · exact ⟨sf f l, Or.inr (Or.inr ⟨h, by omega, rfl⟩), by have := sf_in f l; omega⟩
  · exact ⟨3, Or.inl ⟨h, rfl⟩, by omega⟩
theorem RowF.zero {f l : List Int} (h : RowF f l 0) : right f ∧ l.length ≤ 60 ∧ Signs f l := by
  rcases h with ⟨a, b⟩ | ⟨a, b, c⟩ | ⟨a, b, c⟩
  · omega
  · omega
  · exact ⟨a, b, (sf_signs a l).1 c.symm⟩

end Go.Proofs.YtgffpljnhadigafDoor.Hrn
