/-
  frame.manyNumbers: by its contract.
-/
import Derived.Test.YtjnmogmagngenaiDoorPartBase
import Derived.Test.YtjnmogmagngenaiDoorFrameSteps
namespace Go.Proofs.YtjnmogmagngenaiDoor.Frm
open Go.RowKit
open Go.Proofs.YtjnmogmagngenaiDoor.Tre Go.Proofs.YtjnmogmagngenaiDoor.Bnd
set_option linter.unusedVariables false

set_option maxRecDepth 100000 in
set_option maxHeartbeats 4000000 in
theorem manyNumbers (a : Option Addr) (cap : Nat) (ps : List Prt) (w : World) (hp : Pts w a ps) (zp : ps.length ≤ 8) (zl : Hid (∀ i, i < ps.length → (prt ps i).2.length ≤ 17592186044416)) :
    Calls Tryd.prog 29 #[.slice a ps.length cap] w fun e w' => e = .returned (.int .i64 (long ps : Nat)) ∧ Below w.heap.size w w' := by
  have HL0 : Hid (long (ps.take 0) = 0) := hide rfl
  have HLA : Hid (long (ps.take ps.length) = long ps) := hide (by rw [List.take_length])
  obtain ⟨M, hM⟩ : ∃ M, long ps = M := ⟨_, rfl⟩
  rw [hM] at HLA ⊢
  obtain ⟨N, hN⟩ : ∃ N, ps.length = N := ⟨_, rfl⟩
  have HN := hide hN
  rw [hN] at zp zl HLA ⊢
  clear hM hN
  go_enter Tryd.func29, Tryd.ntmps29
  go_wp2
  go_loopw [3, 8] (fun n i wr => ∃ (k T : Nat), k ≤ N ∧ i = .int .i64 k ∧ n = .int .i64 T ∧ Hid (long (ps.take k) = T) ∧ T ≤ k * 17592186044416 ∧ Below w.heap.size w wr) (fun _ i _ => N - (intOf i).toNat)
  case atStart => exact ⟨0, 0, Nat.zero_le _, rfl, rfl, HL0, by omega, Below.refl _ _⟩
  case round =>
    obtain ⟨k, T, hk, rfl, rfl, HT, hT, hB⟩ := hrel
    clear HL0
    by_cases hlt : k < N
    · have hlt1 : k < ps.length := by rw [unhide HN]; exact hlt
      obtain ⟨b1, off1, rfl, hb1, hc1⟩ := (hp.below hB).at hlt1
      obtain ⟨x1, A, C, x2, x3, x4, x5, x6⟩ := hc1 k hlt1
      have HT2 := hide (long_step hlt1)
      rw [unhide HT] at HT2
      have hz := unhide zl k hlt
      obtain ⟨L, hL⟩ : ∃ L, (prt ps k).2.length = L := ⟨_, rfl⟩
      rw [hL] at x2 HT2 hz
      obtain ⟨G, hG⟩ : ∃ G, (prt ps k).1 = G := ⟨_, rfl⟩
      rw [hG] at x1
      have w1 : IntKind.i64.wrap ((T : Int) + (L : Int)) = ((T + L : Nat) : Int) := by rw [IntWalk.i64_in _ (by omega)]; omega
      obtain ⟨T2, hT2⟩ : ∃ T2, T + L = T2 := ⟨_, rfl⟩
      have hT3 : T2 ≤ (k + 1) * 17592186044416 := by omega
      rw [hT2] at w1 HT2
      clear hc1 hL hlt1 hT2 HT x3 x4 x5 x6 hT hz hG
      go_wp2
      go_roundw
      case rel => exact ⟨k + 1, T2, by omega, by go_num, by first | rfl | go_num, HT2, hT3, hB.alloc hB.size _⟩
      case measure => simp [intOf]; omega
    · obtain rfl : k = N := by omega
      obtain rfl : T = M := (unhide HT).symm.trans (unhide HLA)
      go_wp2
      go_ret
      exact ⟨rfl, hB⟩

end Go.Proofs.YtjnmogmagngenaiDoor.Frm
