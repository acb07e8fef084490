/-
  width.Get: by its contract.
-/
import Derived.Test.YtpinmcgaaplkiagWidthCheck
import Derived.Test.YtpinmcgaaplkiagWidthSpell
import Derived.Test.YtpinmcgaaplkiagRowRest
import Derived.Test.YtpinmcgaaplkiagMakeBig
import Derived.Test.YtpinmcgaaplkiagMid
namespace Go.Proofs.Ytpinmcgaaplkiag.Wid
open Go.RowKit
open Go.Proofs.Ytpinmcgaaplkiag.Tre Go.Proofs.Ytpinmcgaaplkiag.Scl Go.Proofs.Ytpinmcgaaplkiag.Bnd
set_option linter.unusedVariables false

set_option maxRecDepth 100000 in
set_option maxHeartbeats 4000000 in
theorem get_no (a : Option Addr) (cap : Nat) (bs : List Int) (b : Option Addr) (capb : Nat) (ws : List Int) (E : Int) (w : World) (hr : Row w a bs) (hs : Row w b ws) (hm : bs.length ≤ cap) (hm9 : cap ≤ 9223372036854775807) (zl : bs.length ≤ 17592186044416) (zs : ws.length ≤ 17592186044416) (hE : Hid (getF bs ws = E)) (hne : Hid (E ≠ 0)) :
    Calls Try.prog 13 #[.slice a bs.length cap, .slice b ws.length capb] w fun e w' => e = .returned (.tuple #[.slice none 0 0, .iface 47 (.int .i64 E)]) ∧ Below w.heap.size w w' := by
  have hE2 := unhide hE
  unfold getF at hE2
  by_cases h0 : bsF bs = 0
  · rw [if_pos h0] at hE2
    have hck := check_ok a cap bs w hr (hide h0)
    cases hany : ws.any now with
    | true =>
      obtain rfl : E = 1 := by rw [← hE2, if_pos hany]
      have htn := total_no b capb ws w hs (by omega) (hide hany)
      obtain ⟨N, hN⟩ : ∃ N, ws.length = N := ⟨_, rfl⟩
      obtain ⟨M, hM⟩ : ∃ M, bs.length = M := ⟨_, rfl⟩
      rw [hM] at hck ⊢
      rw [hN] at htn ⊢
      clear hN hM hE hne hE2 h0 hany hm zl zs
      go_enter Try.func13, Try.ntmps13
      go_wp2_with fail
      refine hck.mono ?_
      clear hck
      rintro e w1 ⟨rfl, hw1⟩
      obtain rfl : w = w1 := hw1.symm
      clear hw1
      go_wp2_with fail
      refine htn.mono ?_
      clear htn
      rintro e w1 ⟨rfl, hw1⟩
      obtain rfl : w = w1 := hw1.symm
      clear hw1
      go_wp2
      go_ret2
      exact ⟨rfl, Below.refl _ _⟩
    | false =>
      rw [if_neg (by rw [hany]; simp)] at hE2
      have hW := now_any.1 hany
      have htk := total_ok b capb ws w hs zs (hide hW)
      have ht : total ws ≠ bs.length := fun h => unhide hne (by rw [← hE2, if_pos h])
      obtain rfl : E = 3 := by rw [← hE2, if_neg ht]
      obtain ⟨N, hN⟩ : ∃ N, ws.length = N := ⟨_, rfl⟩
      obtain ⟨M, hM⟩ : ∃ M, bs.length = M := ⟨_, rfl⟩
      obtain ⟨Z, hZ⟩ : ∃ Z, total ws = Z := ⟨_, rfl⟩
      rw [hM] at hck ht ⊢
      rw [hZ] at ht htk
      rw [hN] at htk ⊢
      have n1 : ((M : Int) == (Z : Int)) = false := by rw [beq_eq_false_iff_ne]; omega
      have n2 : ((M : Int) != (Z : Int)) = true := by simp; omega
      have n3 : (M == Z) = false := by rw [beq_eq_false_iff_ne]; omega
      clear hN hM hZ hE hne hE2 h0 hany hm zl zs hW ht
      go_enter Try.func13, Try.ntmps13
      go_wp2_with fail
      refine hck.mono ?_
      clear hck
      rintro e w1 ⟨rfl, hw1⟩
      obtain rfl : w = w1 := hw1.symm
      clear hw1
      go_wp2_with fail
      refine htk.mono ?_
      clear htk
      rintro e w1 ⟨rfl, hw1⟩
      obtain rfl : w = w1 := hw1.symm
      clear hw1
      go_wp2
      go_ret2
      exact ⟨rfl, Below.refl _ _⟩
  · rw [if_neg h0] at hE2
    have hck := check_no a cap bs E w hr (by omega) (hide hE2) hne
    obtain ⟨N, hN⟩ : ∃ N, ws.length = N := ⟨_, rfl⟩
    obtain ⟨M, hM⟩ : ∃ M, bs.length = M := ⟨_, rfl⟩
    rw [hM] at hck ⊢
    rw [hN]
    clear hN hM hE hne hE2 h0 hm zl zs
    go_enter Try.func13, Try.ntmps13
    go_wp2_with fail
    refine hck.mono ?_
    clear hck
    rintro e w1 ⟨rfl, hw1⟩
    obtain rfl : w = w1 := hw1.symm
    clear hw1
    go_wp2
    go_ret2
    exact ⟨rfl, Below.refl _ _⟩

set_option maxRecDepth 100000 in
set_option maxHeartbeats 8000000 in
theorem get_ok (a : Option Addr) (cap : Nat) (bs : List Int) (b : Option Addr) (capb : Nat) (ws : List Int) (w : World) (hr : Row w a bs) (hs : Row w b ws) (hm : bs.length ≤ cap) (hm9 : cap ≤ 9223372036854775807) (zs : ws.length ≤ 17592186044416) (hE : Hid (getF bs ws = 0)) :
    Calls Try.prog 13 #[.slice a bs.length cap, .slice b ws.length capb] w fun e w' => ∃ v, e = .returned (.tuple #[v, .nilIface]) ∧ Has w' w.heap.size v (gets bs ws) ∧ Below w.heap.size w w' := by
  obtain ⟨⟨h400, hbit⟩, hW, ht⟩ := getF_zero.1 (unhide hE)
  have hck := check_ok a cap bs w hr (hide (bsF_zero.2 ⟨h400, hbit⟩))
  have htk := total_ok b capb ws w hs zs (hide hW)
  rw [ht] at htk
  have HW := hide hW
  have HBI := hide hbit
  have HT := hide ht
  have HG : Hid (upto (fun i => num 0 (cutAt bs ws i)) ws.length = gets bs ws) := hide rfl
  have HM0 : Hid (bs.length = (bs.drop (pre ws 0)).length) := hide rfl
  have hr0 : Row w a (bs.drop (pre ws 0)) := hr
  obtain ⟨r, hrr⟩ : ∃ r, gets bs ws = r := ⟨_, rfl⟩
  rw [hrr] at HG ⊢
  obtain ⟨N, hN⟩ : ∃ N, ws.length = N := ⟨_, rfl⟩
  have HN := hide hN
  obtain ⟨M0, hM0⟩ : ∃ M, bs.length = M := ⟨_, rfl⟩
  rw [hN] at HG htk zs ⊢
  rw [hM0] at hck htk h400 HM0 hm ⊢
  have n1 : ((M0 : Int) == (M0 : Int)) = true := by simp
  have HL0 := hide hM0
  clear hN hM0 hE hW hbit ht hrr
  go_enter Try.func13, Try.ntmps13
  go_wp2_with fail
  refine hck.mono ?_
  clear hck
  rintro e w1 ⟨rfl, hw1⟩
  obtain rfl : w = w1 := hw1.symm
  clear hw1
  go_wp2_with fail
  refine htk.mono ?_
  clear htk
  rintro e w1 ⟨rfl, hw1⟩
  obtain rfl : w = w1 := hw1.symm
  clear hw1
  go_wp2_with (at_make; refine wpList_mkL _ rfl _ rfl N rfl (by omega) ?_; intro w2 hv2 hb2)
  rw [← Lap.mid_zero (fun i => num 0 (cutAt bs ws i)) (fun _ => 0) N] at hv2
  go_wp2
  go_loopw [0, 35] (fun lv i wr => ∃ (j : Nat) (A : Option Addr) (M C : Nat), j ≤ N ∧ i = .int .i64 j ∧ lv = .slice A M C ∧ Hid (M = (bs.drop (pre ws j)).length) ∧ M ≤ 400 ∧ M ≤ C ∧ C ≤ 9223372036854775807 ∧ Row w A (bs.drop (pre ws j)) ∧
      Has wr w.heap.size (.slice (some ⟨w.heap.size, 0, none⟩) N N) (Lap.mid (fun i => num 0 (cutAt bs ws i)) (fun _ => 0) N j) ∧ Below w.heap.size w wr) (fun _ i _ => N - (intOf i).toNat)
  case atStart => exact ⟨0, a, M0, cap, Nat.zero_le _, rfl, rfl, HM0, h400, hm, hm9, hr0, hv2, hb2⟩
  case round =>
    obtain ⟨j, A, M, C, hj, rfl, rfl, HM, hM4, hMC, hC9, hrA, hv, hB⟩ := hrel
    clear hv2 hb2 hr0 HM0
    by_cases hlt : j < N
    · have hjs : j < ws.length := by rw [unhide HN]; exact hlt
      obtain ⟨b1, off1, rfl, _, hc1⟩ := cell_at (hs.below hB) (by omega)
      have c1 := hc1 j hjs
      have h1 := unhide HW j hjs
      have hp := pre_total ws (j := j + 1) hjs
      rw [pre_succ, unhide HT, unhide HL0] at hp
      have hlen := unhide HM
      rw [List.length_drop, unhide HL0] at hlen
      have HC1 : Hid ((at0 ws j).toNat = (cutAt bs ws j).length) := hide (cutAt_length (unhide HT) hjs).symm
      have HP := hide (pre_succ ws j)
      have HCB : Hid (Bit (cutAt bs ws j)) := hide (bit_take (bit_drop (unhide HBI) _) _)
      have HCD : Hid (cutAt bs ws j = (bs.drop (pre ws j)).take (at0 ws j).toNat) := hide rfl
      obtain ⟨X, hX⟩ : ∃ X : Nat, at0 ws j = X := ⟨(at0 ws j).toNat, by omega⟩
      rw [hX] at c1 h1 hp HC1 HP HCD
      rw [Int.toNat_natCast] at hp HC1 HP HCD
      have hX20 : X ≤ 20 := by omega
      have hXM : X ≤ (bs.drop (pre ws j)).length := by rw [← unhide HM]; omega
      have hMC' : (bs.drop (pre ws j)).length ≤ C := by rw [← unhide HM]; exact hMC
      obtain ⟨A1, run1, hr1⟩ := row_first hrA C hMC' hXM
      obtain ⟨A2, run2, hr2⟩ := row_rest hrA C hMC' hXM
      rw [← unhide HM] at run1 run2
      rw [← unhide HCD] at hr1
      have hnum := number A1 C (cutAt bs ws j) wr (hr1.below hB) (by rw [← unhide HC1]; exact hX20) HCB
      rw [← unhide HC1] at hnum
      have hdr : Row w A2 (bs.drop (pre ws (j + 1))) := by
        rw [unhide HP, ← List.drop_drop]
        exact hr2
      have HM2 : Hid (M - X = (bs.drop (pre ws (j + 1))).length) := hide (by rw [unhide HP, List.length_drop, unhide HL0]; omega)
      obtain ⟨G, hG⟩ : ∃ G, num 0 (cutAt bs ws j) = G := ⟨_, rfl⟩
      rw [hG] at hnum
      have c2 := hv.get (j := j) (by rw [Lap.mid_length]; exact hlt)
      have f2 := hv.frozen j
      obtain ⟨m1, -, m2⟩ := Mid.put_mid hv hlt hG 0
      have Q1 := hide m1
      have Q2 := hide (m2 w hB (Nat.le_refl _))
      have hXM2 : X ≤ M := by rw [unhide HM]; exact hXM
      have d1 : M - X ≤ 400 := by omega
      have d2 : M - X ≤ C - X := by omega
      have d3 : C - X ≤ 9223372036854775807 := by omega
      clear hc1 h1 hp hlen hX hG hrA hjs hXM hMC' hr1 hr2 m1 m2 HC1 HCB HCD HP
      go_wp2_with fail
      refine hnum.mono ?_
      clear hnum
      rintro e w3 ⟨rfl, hw3⟩
      obtain rfl : wr = w3 := hw3.symm
      clear hw3
      go_wp2
      go_roundw
      case rel => exact ⟨j + 1, A2, M - X, C - X, by omega, by go_num, rfl, HM2, d1, d2, d3, hdr, unhide Q1, unhide Q2⟩
      case measure => simp [intOf]; omega
    · obtain rfl : j = N := by omega
      have hv3 := hv
      rw [Lap.mid_all, unhide HG] at hv3
      go_wp2
      go_ret2
      exact ⟨_, rfl, hv3, hB⟩

end Go.Proofs.Ytpinmcgaaplkiag.Wid
