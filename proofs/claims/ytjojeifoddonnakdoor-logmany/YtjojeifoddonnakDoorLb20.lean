/-
  Texts as lists of bytes: those that are made of slices of bytes.
-/
import Derived.Test.YtjojeifoddonnakDoorLb07
import Derived.Laws.IdiomStrings
namespace Go.Proofs.YtjojeifoddonnakDoor.Hrn
open Go.RowKit
open Go.Proofs.YtjojeifoddonnakDoor.Tre Go.Proofs.YtjojeifoddonnakDoor.Scl
set_option linter.unusedVariables false

/-- A text of bytes that a slice holds. -/
theorem run_str (w : World) (a : Addr) (cap : Nat) (l : List Int) (hb : Byts l) (hc : ∀ j, j < l.length → w.cell? (a.add j) = some (.int .u8 (at0 l j))) :
    (convert 38 9 (.slice (some a) l.length cap)).run Tryd.prog w = .ok (.string (str l)) w := by
  have h := run_convert_bytes_back (P := Tryd.prog) w 38 9 5 a cap (u8s l) Tryd.underlying38 Tryd.underlying5 Tryd.underlying9 (fun j hj => by
    rw [u8s_length] at hj
    rw [hc j hj]
    have e : at0 l j = l[j] := by simp [at0, hj]
    obtain ⟨h0, h1⟩ := hb l[j] (List.getElem_mem hj)
    rw [e]
    simp [u8s]
    omega)
  rw [u8s_length] at h
  exact h
theorem run_str1 (w : World) (n : Int) (t : TypeId) (h0 : 0 ≤ n) (h1 : n < 256) :
    (convert 38 9 (.slice (some ⟨w.heap.size, 0, none⟩) 1 1)).run Tryd.prog (w.alloc (.cells #[.int .u8 n] t)) = .ok (.string (str [n])) (w.alloc (.cells #[.int .u8 n] t)) :=
  run_str (w.alloc (.cells #[.int .u8 n] t)) ⟨w.heap.size, 0, none⟩ 1 [n] (fun b hb => by simp at hb; omega) (fun j hj => by
    obtain rfl : j = 0 := by simpa using hj
    rw [addr_plain, World.cell?_alloc_at _ _ _ _ rfl]; rfl)
theorem run_str3 (w : World) (x y z : Int) (t : TypeId) (hb : Byts [x, y, z]) :
    (convert 38 9 (.slice (some ⟨w.heap.size, 0, none⟩) 3 3)).run Tryd.prog (w.alloc (.cells #[.int .u8 x, .int .u8 y, .int .u8 z] t)) = .ok (.string (str [x, y, z])) (w.alloc (.cells #[.int .u8 x, .int .u8 y, .int .u8 z] t)) :=
  run_str (w.alloc (.cells #[.int .u8 x, .int .u8 y, .int .u8 z] t)) ⟨w.heap.size, 0, none⟩ 3 [x, y, z] hb (fun j hj => by
    have hj' : j = 0 ∨ j = 1 ∨ j = 2 := by simp at hj; omega
    rcases hj' with rfl | rfl | rfl <;> (rw [addr_plain, World.cell?_alloc_at _ _ _ _ rfl]; rfl))
end Go.Proofs.YtjojeifoddonnakDoor.Hrn
