/-
  hornref2.Cost, of sizes and pulses that are right: by its contract.
-/
import Derived.Test.YtlklnjaihbjfiahDoorShareMath
import Derived.Test.YtlklnjaihbjfiahDoorRefBits
import Derived.Test.YtlklnjaihbjfiahDoorRefCount
namespace Go.Proofs.YtlklnjaihbjfiahDoor.Shr
open Go.RowKit
open Go.Proofs.YtlklnjaihbjfiahDoor.Tre Go.Proofs.YtlklnjaihbjfiahDoor.Cnt Go.Proofs.YtlklnjaihbjfiahDoor.Bnd
set_option linter.unusedVariables false

theorem cell_shr {w : World} {a : Option Addr} {l : List Int} (h : Row w a l) (h0 : 0 < l.length) : ∃ b off, a = some ⟨b, off, none⟩ ∧ b < w.heap.size ∧ ∀ j, j < l.length → w.cell? ⟨b, off + j, none⟩ = some (.int .i64 (at0 l j)) := by
  obtain ⟨b, off, e, hb, hc⟩ := h.at h0
  exact ⟨b, off, e, hb, fun j hj => (hc j hj).trans (by rw [List.getD_eq_getElem?_getD]; rfl)⟩

set_option maxRecDepth 100000 in
set_option maxHeartbeats 4000000 in
theorem refCost (a : Option Addr) (cap : Nat) (s : List Int) (b : Option Addr) (capb : Nat) (p : List Int) (w : World) (hr : Row w a s) (hp : Row w b p) (h8 : s.length ≤ 8) (hl : p.length = s.length) (hs : Hid (Sizes s)) (hpl : Hid (Pls p)) :
    Calls Tryd.prog 5 #[.slice a s.length cap, .slice b s.length capb] w fun e w' => e = .returned (.int .i64 (cost s p)) ∧ Below w.heap.size w w' := by
  have HL := hide hl
  have HLE : Hid (∀ j, j ≤ s.length → cs s p j ≤ 15 * j) := hide (fun j hj => cs_le (unhide hs) (unhide hpl) hl hj)
  have HC : Hid (cost s p = cs s p s.length) := hide rfl
  obtain ⟨C, hC⟩ : ∃ C, cost s p = C := ⟨_, rfl⟩
  rw [hC] at HC ⊢
  obtain ⟨N, hN⟩ : ∃ N, s.length = N := ⟨_, rfl⟩
  have HN := hide hN
  rw [hN] at h8 HC HLE ⊢
  clear hN hC hl
  go_enter Tryd.func5, Tryd.ntmps5
  go_wp2
  go_loopw [5, 6] (fun n i wr => ∃ j U : Nat, j ≤ N ∧ i = .int .i64 j ∧ n = .int .i64 U ∧ Hid (U = cs s p j) ∧ Below w.heap.size w wr) (fun _ i _ => N - (intOf i).toNat)
  case atStart => exact ⟨0, 0, Nat.zero_le _, rfl, rfl, rfl, Below.refl _ _⟩
  case round =>
    obtain ⟨j, U, hj, rfl, rfl, HU, hB⟩ := hrel
    by_cases hlt : j < N
    · have hj1 : j < s.length := by rw [unhide HN]; exact hlt
      have hj2 : j < p.length := by rw [unhide HL, unhide HN]; exact hlt
      obtain ⟨b1, off1, rfl, _, hc1⟩ := cell_shr (hr.below hB) (by omega)
      obtain ⟨b2, off2, rfl, _, hc2⟩ := cell_shr (hp.below hB) (by omega)
      have c1 := hc1 j hj1
      have c2 := hc2 j hj2
      have g1 := unhide hs j hj1
      have g2 := unhide hpl j hj2
      have HST : Hid (cs s p (j + 1) = U + Bt (at0 p j).toNat (at0 s j).toNat) := hide (by rw [cs, unhide HU])
      have hle := unhide HLE (j + 1) (by omega)
      rw [unhide HST] at hle
      obtain ⟨X, hX⟩ : ∃ X : Nat, at0 s j = X := ⟨(at0 s j).toNat, by omega⟩
      obtain ⟨Y, hY⟩ : ∃ Y : Nat, at0 p j = Y := ⟨(at0 p j).toNat, by omega⟩
      rw [hX] at c1 g1
      rw [hY] at c2 g2
      have eX : (at0 s j).toNat = X := by omega
      have eY : (at0 p j).toNat = Y := by omega
      rw [eX, eY] at HST hle
      have HBI := hide (Bt_is (k := Y) (n := X) (by omega) (by omega))
      have hV := (V_in Y X (by omega) (by omega)).2
      obtain ⟨T, hT⟩ : ∃ T, Bt Y X = T := ⟨_, rfl⟩
      rw [hT] at HST hle HBI
      have HRC : Hid (∀ W, Calls Tryd.prog 13 #[.int .i64 (X : Int), .int .i64 (Y : Int)] W fun e w' => e = .returned (.int .i64 (V Y X)) ∧ Below W.heap.size W w') := hide (fun W => refCount X Y (by omega) (by omega) W)
      have HRB : Hid (∀ W, Calls Tryd.prog 12 #[.int .i64 (V Y X)] W fun e w' => e = .returned (.int .i64 (T : Int)) ∧ w' = W) := hide (fun W => (refBits (V Y X) hV W).mono fun e w' ⟨b, he, hb, hw⟩ => ⟨by rw [he, hb.one (unhide HBI)], hw.symm⟩)
      obtain ⟨Z, hZ⟩ : ∃ Z, V Y X = Z := ⟨_, rfl⟩
      rw [hZ] at HRC HRB
      have wU : IntKind.i64.wrap ((U : Int) + (T : Int)) = ((U + T : Nat) : Int) := by
        have : (U : Int) + (T : Int) = ((U + T : Nat) : Int) := rfl
        rw [this]; exact IntWalk.i64_in _ (by omega)
      obtain ⟨U1, hU1⟩ : ∃ U1, U + T = U1 := ⟨_, rfl⟩
      rw [hU1] at wU HST hle
      have HU1 := hide (unhide HST).symm
      clear hX hY eX eY hT hZ hV hc1 hc2 hj1 hj2 HBI HST HU hU1
      have HBq : Hid (∀ q, Below w.heap.size w (wr.drewN q)) := hide (fun q => hB.trans ⟨rfl, rfl, rfl, Nat.le_refl _, fun _ _ => rfl⟩)
      go_wp2
      go_region_with (first
        | (go_at_call 13; refine (unhide HRC _).mono ?_; rintro e w' ⟨rfl, hb'⟩)
        | (go_at_call 12; refine (unhide HRB _).mono ?_; rintro e w' ⟨rfl, rfl⟩))
      all_goals (
        have hB2 := Below.chain (unhide HBq _) hb'
        clear hB hb' c1 c2
        go_wp2
        go_roundw
        case rel => exact ⟨j + 1, U1, by omega, by go_num, by first | rfl | go_num, HU1, hB2⟩
        case measure => simp [intOf]; omega)
    · obtain rfl : j = N := by omega
      obtain rfl : U = C := by rw [unhide HU, unhide HC]
      go_wp2
      go_ret
      exact ⟨rfl, hB⟩

end Go.Proofs.YtlklnjaihbjfiahDoor.Shr
