/-
  What is told of samples, sizes and bits, and of a frame, with a fault and without.
-/
import Derived.Test.YthkibjhhlcfceaiGreatDoorCh05
namespace Go.Proofs.YthkibjhhlcfceaiGreatDoor.Frm
open Go.RowKit
open Go.Proofs.YthkibjhhlcfceaiGreatDoor.Tre Go.Proofs.YthkibjhhlcfceaiGreatDoor.Bnd Go.Proofs.YthkibjhhlcfceaiGreatDoor.Ev
set_option linter.unusedVariables false

/-- The parts: none with a fault. -/
def EncL (l s : List Int) (B : Int) (ps : List Prt) : Prop := (encF l s B ≠ 0 ∧ ps = []) ∨ (encF l s B = 0 ∧ Made (cuts (Lap.lap l) s) s B ps)
theorem EncL.one {l s : List Int} {B : Int} {ps qs : List Prt} (h : EncL l s B ps) (h' : EncL l s B qs) : ps = qs := by
  rcases h with ⟨h1, rfl⟩ | ⟨h1, h2⟩
  · rcases h' with ⟨_, rfl⟩ | ⟨h3, _⟩
    · rfl
    · exact absurd h3 h1
  · rcases h' with ⟨h3, _⟩ | ⟨_, h4⟩
    · exact absurd h1 h3
    · exact h2.one h4
theorem EncL.len {l s : List Int} {B : Int} {ps : List Prt} (h : EncL l s B ps) : ps.length ≤ 8 := by
  rcases h with ⟨_, rfl⟩ | ⟨h1, h2⟩
  · simp
  · have h3 := (encF_zero.1 h1).1
    have h4 := (bf_ok h3).2.1
    rw [h2.1, cuts_length]
    exact h4
/-- What Encode tells. -/
def EncSays (l s : List Int) (B : Int) (w : World) (e : Ending) (w' : World) : Prop :=
  ∃ p q ps, e = .returned (.tuple #[.slice p ps.length q, errV (encF l s B)]) ∧ Pts w' p ps ∧ ps.length ≤ q ∧ q ≤ 9223372036854775807 ∧ EncL l s B ps ∧ Below w.heap.size w w'
def decL (ps : List Prt) : List Int := if decF ps = 0 then Lap.unlap (all ps) else []
theorem decL_len (ps : List Prt) : (decL ps).length ≤ 32 := by
  unfold decL
  split
  · rename_i h
    unfold decF at h
    split at h
    · omega
    · split at h
      · omega
      · split at h
        · split at h
          · rename_i h1 h2 h3 h4
            rw [Lap.unlap_length (by rw [all_length]; omega), all_length]
            omega
          · omega
        · exact absurd h (by assumption)
  · simp

end Go.Proofs.YthkibjhhlcfceaiGreatDoor.Frm
