/-
  count.Bits, by how many there are.
-/
import Derived.Test.YtjnmogmagngenaiDoorShareCheck
import Derived.Test.YtjnmogmagngenaiDoorCountBits
namespace Go.Proofs.YtjnmogmagngenaiDoor.Shr
open Go.RowKit
open Go.Proofs.YtjnmogmagngenaiDoor.Tre Go.Proofs.YtjnmogmagngenaiDoor.Cnt Go.Proofs.YtjnmogmagngenaiDoor.Bnd
set_option linter.unusedVariables false

theorem cell_shr' {w : World} {a : Option Addr} {l : List Int} (h : Row w a l) (h0 : 0 < l.length) : ∃ b off, a = some ⟨b, off, none⟩ ∧ b < w.heap.size ∧ ∀ j, j < l.length → w.cell? ⟨b, off + j, none⟩ = some (.int .i64 (at0 l j)) := by
  obtain ⟨b, off, e, hb, hc⟩ := h.at h0
  exact ⟨b, off, e, hb, fun j hj => (hc j hj).trans (by rw [List.getD_eq_getElem?_getD]; rfl)⟩
theorem bits_is (n k : Nat) (hn : n ≤ 6) (hk : k ≤ 8) (w : World) :
    Calls Tryd.prog 28 #[.int .i64 n, .int .i64 k] w fun e w' => e = .returned (.tuple #[.int .i64 (Bt k n : Int), .nilIface]) ∧ Below w.heap.size w w' :=
  (bits_ok n k hn hk w).mono fun e w' ⟨b, he, hb, hw⟩ => ⟨by rw [he, hb.one (Bt_is hk hn)], hw⟩

end Go.Proofs.YtjnmogmagngenaiDoor.Shr
