/-
  hornref2.Octets: by its contract.
-/
import Derived.Test.YtpinmcgaaplkiagDoorRefBit
import Derived.Test.YtpinmcgaaplkiagDoorOwnByteTwo
namespace Go.Proofs.YtpinmcgaaplkiagDoor.Wid
open Go.RowKit
open Go.Proofs.YtpinmcgaaplkiagDoor.Tre Go.Proofs.YtpinmcgaaplkiagDoor.Scl Go.Proofs.YtpinmcgaaplkiagDoor.Bnd Go.Proofs.YtpinmcgaaplkiagDoor.Hrn
set_option linter.unusedVariables false

theorem eight_at (l : List Int) (j : Nat) {q : Nat} (h : q < 8) : at0 (eight l j) q = at0 l (8 * j + q) := by unfold eight; exact upto_at _ h

set_option maxRecDepth 100000 in
set_option maxHeartbeats 8000000 in
theorem refOctets (a : Option Addr) (cap : Nat) (l : List Int) (w : World) (hr : Row w a l) (h400 : l.length ≤ 400) (hb : Hid (Bit l)) :
    Calls Tryd.prog 20 #[.slice a l.length cap] w fun e w' => e = .returned (.string (str (oct l))) ∧ Below w.heap.size w w' := by
  have HBY : Hid (Byts (oct l)) := hide (oct_in (unhide hb))
  have HOC : Hid (oct l = upto (fun i => num 0 (eight l i)) ((l.length + 7) / 8)) := hide rfl
  obtain ⟨cd, hcd⟩ : ∃ cd, oct l = cd := ⟨_, rfl⟩
  rw [hcd] at HBY HOC ⊢
  have HSE : Hid (∀ j q, 0 ≤ num 0 ((eight l j).take q) ∧ num 0 ((eight l j).take q) ≤ 1048576) := hide (fun j q => num_small (eight_bit (unhide hb) j) (by rw [eight_length]; omega) q)
  have HS8 : Hid (∀ j, 0 ≤ num 0 (eight l j) ∧ num 0 (eight l j) ≤ 255) := hide (fun j => by
    have h := num_in (eight_bit (unhide hb) j)
    rw [eight_length] at h
    have h2 := h.2
    exact ⟨h.1, by omega⟩)
  obtain ⟨N, hN⟩ : ∃ N, l.length = N := ⟨_, rfl⟩
  have HN := hide hN
  rw [hN] at h400 HOC ⊢
  clear hN hcd
  go_enter Tryd.func20, Tryd.ntmps20
  go_wp2
  go_loopw [3, 4] (fun v i wr => ∃ j I : Nat, I ≤ N + 7 ∧ I = 8 * j ∧ i = .int .i64 I ∧ HasY wr w.heap.size v (upto (fun i => num 0 (eight l i)) j) ∧ Below w.heap.size w wr) (fun _ i _ => N + 8 - (intOf i).toNat)
  case atStart => exact ⟨0, 0, by omega, rfl, rfl, HasY.nil _ _, Below.refl _ _⟩
  case round =>
    obtain ⟨j, I, hI, hIj, rfl, hv, hB⟩ := hrel
    have HIJ := hide hIj
    clear hIj
    by_cases hlt : I < N
    · have HT8 : Hid (∀ q, q < 8 → num 0 ((eight l j).take (q + 1)) = 2 * num 0 ((eight l j).take q) + at0 l (I + q)) := hide (fun q hq => by
        rw [num_take (by rw [eight_length]; exact hq), eight_at l j hq, unhide HIJ])
      have HTA : Hid (num 0 ((eight l j).take 8) = num 0 (eight l j)) := hide (by rw [List.take_of_length_le (by rw [eight_length]; exact Nat.le_refl _)])
      have hI8 : IntKind.i64.wrap ((I : Int) + 8) = (I : Int) + 8 := IntWalk.i64_in _ (by omega)
      have hrw := hr.below hB
      have HX0 : Hid (num 0 ((eight l j).take 0) = 0) := hide rfl
      rename World => w5
      go_wp2
      go_loopw [5, 6] (fun n k wr => ∃ (q K : Nat) (X : Int), q ≤ 8 ∧ K = I + q ∧ k = .int .i64 K ∧ n = .int .i64 X ∧ Hid (num 0 ((eight l j).take q) = X) ∧ w5 = wr) (fun _ k _ => I + 8 - (intOf k).toNat)
      case atStart => exact ⟨0, I, 0, by omega, rfl, rfl, rfl, HX0, rfl⟩
      case round =>
        obtain ⟨q, K, X, hq, hK, rfl, rfl, HX, rfl⟩ := hrel
        clear HX0
        by_cases hq8 : q < 8
        · have hs := unhide HSE j q
          have HX2 : Hid (num 0 ((eight l j).take (q + 1)) = 2 * X + at0 l K) := hide (by rw [unhide HT8 q hq8, unhide HX, hK])
          rw [unhide HX] at hs
          have hbt := bit_at (unhide hb) K
          have w1 : IntKind.i64.wrap (2 * X) = 2 * X := IntWalk.i64_in _ (by omega)
          have hkd : decide ((K : Int) < (I : Int) + 8) = true := by simp; omega
          have hK1 : K + 1 = I + (q + 1) := by omega
          have hK9 : K ≤ I + 8 := by omega
          clear HX hK
          by_cases hkN : K < N
          · obtain ⟨b1, off1, rfl, _, hc1⟩ := cell_at hrw (by rw [unhide HN]; omega)
            have c1 := hc1 K (by rw [unhide HN]; exact hkN)
            obtain ⟨B, hBB⟩ : ∃ B, at0 l K = B := ⟨_, rfl⟩
            rw [hBB] at c1 HX2 hbt
            have w2 : IntKind.i64.wrap (2 * X + B) = 2 * X + B := IntWalk.i64_in _ (by omega)
            clear hBB hc1 hbt hs
            go_wp2
            go_roundw
            case rel => exact ⟨q + 1, K + 1, 2 * X + B, by omega, hK1, by go_num, by first | rfl | go_num, HX2, by first | trivial | rfl⟩
            case measure => simp [intOf]; omega
          · have e0 : at0 l K = 0 := at0_none (by rw [unhide HN]; omega)
            have HX3 : Hid (num 0 ((eight l j).take (q + 1)) = 2 * X) := hide (by rw [unhide HX2, e0]; omega)
            clear HX2 e0 hbt hs
            go_wp2
            go_roundw
            case rel => exact ⟨q + 1, K + 1, 2 * X, by omega, hK1, by go_num, by first | rfl | go_num, HX3, by first | trivial | rfl⟩
            case measure => simp [intOf]; omega
        · obtain rfl : q = 8 := by omega
          have hkd : decide ((K : Int) < (I : Int) + 8) = false := by simp; omega
          have hx := unhide HS8 j
          have HXX : Hid (num 0 (eight l j) = X) := hide (by rw [← unhide HX, unhide HTA])
          rw [unhide HXX] at hx
          obtain ⟨x0, x9⟩ := hx
          have hm : X % 256 = X := by omega
          have HUP : Hid (upto (fun i => num 0 (eight l i)) (j + 1) = upto (fun i => num 0 (eight l i)) j ++ [X]) := hide (by rw [upto_succ]; simp only [unhide HXX])
          have hln : Hid ((upto (fun i => num 0 (eight l i)) j).length + 1 ≤ 1000000) := hide (by rw [upto_length]; have := unhide HIJ; omega)
          have hWs := hB.size
          have hI2 : I + 8 = 8 * (j + 1) := by have := unhide HIJ; omega
          have HI2 := hide hI2
          clear HX HTA HT8 hK hI2
          go_wp2_with (at_builtin; refine wpList_appy _ rfl _ _ rfl w.heap.size u3 _ X _ _ rfl (hv.alloc _) rfl (cell_byte _ _ _) (unhide hln) (by simp; omega) ?_; intro s' w6 k6 g6 at6)
          have hB6 := hB.trans (stepped_y (l' := []) (v' := s') hv hWs g6)
          rw [← unhide HUP] at k6
          clear hv hB at6 g6
          go_wp2
          go_roundw
          case rel => exact ⟨j + 1, I + 8, by omega, unhide HI2, by go_num, k6, hB6⟩
          case measure => simp [intOf]; omega
    · have HE : Hid (upto (fun i => num 0 (eight l i)) j = cd) := hide (by
        rw [unhide HOC]
        congr 1
        have := unhide HIJ
        omega)
      rw [unhide HE] at hv
      have hcv := run_str_y hv (unhide HBY)
      obtain ⟨p9, n9, q9, rfl⟩ := hv.any
      go_wp2
      go_ret
      exact ⟨rfl, hB⟩

end Go.Proofs.YtpinmcgaaplkiagDoor.Wid
