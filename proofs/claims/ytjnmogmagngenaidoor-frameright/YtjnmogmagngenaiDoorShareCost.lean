/-
  share.Cost: by its contract.
-/
import Derived.Test.YtjnmogmagngenaiDoorShareBit
namespace Go.Proofs.YtjnmogmagngenaiDoor.Shr
open Go.RowKit
open Go.Proofs.YtjnmogmagngenaiDoor.Tre Go.Proofs.YtjnmogmagngenaiDoor.Cnt Go.Proofs.YtjnmogmagngenaiDoor.Bnd
set_option linter.unusedVariables false

theorem cost_no (a : Option Addr) (cap : Nat) (s : List Int) (b : Option Addr) (capb : Nat) (p : List Int) (E : Int) (w : World) (hr : Row w a s) (hp : Row w b p) (zs : s.length ≤ 17592186044416) (zp : p.length ≤ 17592186044416) (hE : Hid (costF s p = E)) (hne : Hid (E ≠ 0)) :
    Calls Tryd.prog 8 #[.slice a s.length cap, .slice b p.length capb] w fun e w' => e = .returned (.tuple #[.int .i64 0, .iface 47 (.int .i64 E)]) ∧ Below w.heap.size w w' := by
  have hk := check a cap s b capb p 8 w (by omega) (by omega) hr hp
  rw [← costF_chk, unhide hE, Ev.errV_ne (unhide hne)] at hk
  obtain ⟨N, hN⟩ : ∃ N, s.length = N := ⟨_, rfl⟩
  obtain ⟨M, hM⟩ : ∃ M, p.length = M := ⟨_, rfl⟩
  rw [hN, hM] at hk ⊢
  clear hN hM zs zp hr hp
  go_enter Tryd.func8, Tryd.ntmps8
  go_wp2_with fail
  refine hk.mono ?_
  clear hk
  rintro e w1 ⟨rfl, hb1⟩
  go_wp2
  go_ret2
  exact ⟨rfl, hb1⟩

set_option maxRecDepth 100000 in
set_option maxHeartbeats 4000000 in
theorem cost_ok (a : Option Addr) (cap : Nat) (s : List Int) (b : Option Addr) (capb : Nat) (p : List Int) (w : World) (hr : Row w a s) (hp : Row w b p) (hE : Hid (costF s p = 0)) :
    Calls Tryd.prog 8 #[.slice a s.length cap, .slice b p.length capb] w fun e w' => e = .returned (.tuple #[.int .i64 (cost s p), .nilIface]) ∧ Below w.heap.size w w' := by
  obtain ⟨h1, h2, h3⟩ := costF_zero.1 (unhide hE)
  obtain ⟨h0, h8, hs, _⟩ := bf_ok h1
  have hk := check a cap s b capb p 8 w (by omega) (by omega) hr hp
  rw [← costF_chk, unhide hE, Ev.errV_zero] at hk
  have HL := hide h2
  have hpl := hide h3
  have HSZ := hide hs
  have HLE : Hid (∀ j, j ≤ s.length → cs s p j ≤ 15 * j) := hide (fun j hj => cs_le (unhide HSZ) h3 h2 hj)
  have HC : Hid (cost s p = cs s p s.length) := hide rfl
  obtain ⟨C, hC⟩ : ∃ C, cost s p = C := ⟨_, rfl⟩
  rw [hC] at HC ⊢
  rw [h2] at hk ⊢
  obtain ⟨N, hN⟩ : ∃ N, s.length = N := ⟨_, rfl⟩
  have HN := hide hN
  rw [hN] at h8 HC HLE hk ⊢
  clear hN hC h1 h2 h3 hs hE h0
  go_enter Tryd.func8, Tryd.ntmps8
  go_wp2_with fail
  refine hk.mono ?_
  clear hk
  rintro e w1 ⟨rfl, hb1⟩
  go_wp2
  go_loopw [7, 20] (fun n i wr => ∃ j U : Nat, j ≤ N ∧ i = .int .i64 j ∧ n = .int .i64 U ∧ Hid (U = cs s p j) ∧ Below w.heap.size w wr) (fun _ i _ => N - (intOf i).toNat)
  case atStart => exact ⟨0, 0, Nat.zero_le _, rfl, rfl, rfl, hb1⟩
  case round =>
    clear hb1
    obtain ⟨j, U, hj, rfl, rfl, HU, hB⟩ := hrel
    by_cases hlt : j < N
    · have hj1 : j < s.length := by rw [unhide HN]; exact hlt
      have hj2 : j < p.length := by rw [unhide HL, unhide HN]; exact hlt
      obtain ⟨b1, off1, rfl, _, hc1⟩ := cell_shr' (hr.below hB) (by omega)
      obtain ⟨b2, off2, rfl, _, hc2⟩ := cell_shr' (hp.below hB) (by omega)
      have c1 := hc1 j hj1
      have c2 := hc2 j hj2
      have g1 := unhide HSZ j hj1
      have g2 := unhide hpl j hj2
      have HST : Hid (cs s p (j + 1) = U + Bt (at0 p j).toNat (at0 s j).toNat) := hide (by rw [cs, unhide HU])
      have hle := unhide HLE (j + 1) (by omega)
      rw [unhide HST] at hle
      obtain ⟨X, hX⟩ : ∃ X : Nat, at0 s j = X := ⟨(at0 s j).toNat, by omega⟩
      obtain ⟨Y, hY⟩ : ∃ Y : Nat, at0 p j = Y := ⟨(at0 p j).toNat, by omega⟩
      rw [hX] at c1 g1
      rw [hY] at c2 g2
      have eX : (at0 s j).toNat = X := by omega
      have eY : (at0 p j).toNat = Y := by omega
      rw [eX, eY] at HST hle
      have hbt := hide (fun W => bits_is X Y (by omega) (by omega) W)
      obtain ⟨T, hT⟩ : ∃ T, Bt Y X = T := ⟨_, rfl⟩
      rw [hT] at HST hle hbt
      have hUT : U + T ≤ 1000 := by omega
      clear hc1 hc2 hj1 hj2 hX hY eX eY hT hle g1 g2
      go_wp2_with fail
      refine (unhide hbt wr).mono ?_
      rintro e w2 ⟨rfl, hb2⟩
      go_wp2
      go_roundw
      case rel => exact ⟨j + 1, U + T, by omega, by go_num, by go_num, hide (unhide HST).symm, Below.chain hB hb2⟩
      case measure => simp [intOf]; omega
    · obtain rfl : j = N := by omega
      go_wp2
      go_ret2
      exact ⟨by rw [unhide HC, unhide HU]; rfl, hB⟩

end Go.Proofs.YtjnmogmagngenaiDoor.Shr
