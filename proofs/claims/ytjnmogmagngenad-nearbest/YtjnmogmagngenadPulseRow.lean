/-
  Package pulse: Of: by its contracts.
-/
import Derived.Test.YtjnmogmagngenadPulseAt
namespace Go.Proofs.Ytjnmogmagngenad.Pls
open Go.RowKit
open Go.Proofs.Ytjnmogmagngenad.Tre Go.Proofs.Ytjnmogmagngenad.Lap Go.Proofs.Ytjnmogmagngenad.Cnt Go.Proofs.Ytjnmogmagngenad.Mid
set_option linter.unusedVariables false

set_option maxRecDepth 100000 in
set_option maxHeartbeats 8000000 in
theorem row_ok (n k : Nat) (r : Int) (hn : n ≤ 6) (hk : k ≤ 8) (h0 : 0 ≤ r) (h1 : Hid (r < V k n)) (w : World) :
    Calls Try.prog 8 #[.int .i64 n, .int .i64 k, .int .i64 r] w fun e w' => ∃ v l, e = .returned (.tuple #[v, .nilIface]) ∧ Has w' w.heap.size v l ∧ Hid (Is n k r l) ∧ Below w.heap.size w w' := by
  have hof := hide (of_ok n k hn hk w)
  have hV := (V_in k n (by omega) (by omega)).2
  have hr9 : r ≤ 20256 := by have := unhide h1; omega
  have hst : Hid (r < V k (n - 0)) := h1
  have h1' := unhide h1
  obtain ⟨C, hC⟩ : ∃ C, V k n = C := ⟨_, rfl⟩
  rw [hC] at hof hV h1'
  clear hC
  go_enter Try.func8, Try.ntmps8
  go_wp2_with fail
  refine (unhide hof).mono ?_
  rintro e w1 ⟨rfl, hb1⟩
  clear hof
  go_wp2
  go_loopw [2, 10, 11, 34] (fun v2 v10 v11 i wr => ∃ (j L : Nat) (A : Int) (l : List Int), j ≤ n ∧ i = .int .i64 j ∧ v11 = .int .i64 L ∧ v2 = .int .i64 A ∧ Has wr w.heap.size v10 l ∧ Hid (l.length = j) ∧ Hid (Wants n k r l L A) ∧ Hid (A < V L (n - j)) ∧ L ≤ 8 ∧ 0 ≤ A ∧ A ≤ 20256 ∧ Below w.heap.size w wr) (fun _ _ _ i _ => n - (intOf i).toNat)
  case atStart => exact ⟨0, k, r, [], Nat.zero_le _, rfl, rfl, rfl, Has.nil _ _, rfl, wants_all n k r, hst, hk, h0, hr9, hb1⟩
  case round =>
    obtain ⟨j, L, A, l, hj, rfl, rfl, rfl, h9, HJ, HW, HV, hL, hA0, hA9, hB⟩ := hrel
    clear hb1 h1' hst
    by_cases hlt : j < n
    · obtain ⟨b, hb⟩ : ∃ b, n - 1 - j = b := ⟨_, rfl⟩
      have hb1 : (n : Int) - 1 - (j : Int) = (b : Int) := by omega
      have hb5 : b ≤ 5 := by omega
      have HB : Hid (A < V L (b + 1)) := hide (by have := unhide HV; rwa [show n - j = b + 1 by omega] at this)
      have HN : Hid (n - l.length = b + 1) := hide (by rw [unhide HJ]; omega)
      have hl9 : Hid (l.length + 1 ≤ 1000000) := hide (by rw [unhide HJ]; omega)
      have hnb : n - (j + 1) = b := by omega
      have HNB := hide hnb
      clear hb hnb HV
      go_wp2_with fail
      refine (numberAt A b L hb5 hL hA0 hA9 HB wr).mono ?_
      rintro e w2 ⟨s, rfl, hs, hin, hb2⟩
      have h10 := h9.below hb2
      have hB2 := hB.trans (hb2.mono hB.size)
      have hWs := hB2.size
      have HW2 := hide ((unhide HW).step (unhide HN) hs)
      obtain ⟨i1, i2⟩ := unhide hin
      rw [ahead_succ] at i2
      have hai := ahead_in (m := b) (L := L) (s := s) (by omega) (by omega) (by omega)
      have HV2 : Hid (A - ahead b L s < V (L - ((s : Int) - (L : Int)).natAbs) b) := hide (by
        have e : rows b L s = V (L - ((s : Int) - (L : Int)).natAbs) b := rfl
        rw [← e]; omega)
      obtain ⟨X, hX⟩ : ∃ X, (s : Int) - (L : Int) = X := ⟨_, rfl⟩
      obtain ⟨Q, hQ⟩ : ∃ Q, ahead b L s = Q := ⟨_, rfl⟩
      have hx0 : -(L : Int) ≤ X := by omega
      have hx1 : X ≤ L := by omega
      rw [hX] at HV2 HW2 ⊢
      rw [hQ] at HV2 HW2 hai i1 ⊢
      have hdist := hide (dist X)
      obtain ⟨D, hD⟩ : ∃ D, X.natAbs = D := ⟨_, rfl⟩
      rw [hD] at HV2 HW2 hdist
      obtain ⟨L', hL'⟩ : ∃ L', L - D = L' := ⟨_, rfl⟩
      rw [hL'] at HV2 HW2
      have hLD : (L : Int) - (D : Int) = (L' : Int) := by omega
      have hL8 : L' ≤ 8 := by omega
      obtain ⟨q0, q1⟩ := hai
      clear hX hQ hD hL' i2 hin hb2 h9 hB HB HW
      go_wp2_with (first
        | (at_builtin; refine wpList_app _ rfl _ _ rfl w.heap.size u10 l [X] _ _ rfl (h10.alloc _) rfl (row_one _ _ _) (unhide hl9) (by simp; omega) ?_; intro s' w3 k3 g3 at3)
        | fail)
      obtain ⟨d1, d2⟩ := stepped_plain h10 hWs k3 g3 at3
      have hB3 := hB2.trans d1
      refine (unhide hdist w3 (by omega) (by omega)).mono ?_
      rintro e w4 ⟨rfl, rfl⟩
      go_wp2
      go_roundw
      case rel => exact ⟨j + 1, L', A - Q, l ++ [X], by omega, by go_num, by go_num, by go_num, k3, hide (by rw [List.length_append, unhide HJ]; rfl), HW2, hide (by rw [unhide HNB]; exact unhide HV2), hL8, by omega, by omega, hB3⟩
      case measure => simp [intOf]; omega
    · obtain rfl : j = n := by omega
      have HI : Hid (Is j k r l) := hide ((unhide HW).done (unhide HJ) hL hA0 (by have := unhide HV; rwa [Nat.sub_self] at this))
      go_wp2
      go_ret2
      exact ⟨_, l, rfl, h9, HI, hB⟩

theorem row_no (n k r : Int) (w : World) (h : Hid (wide n 6 = true) ∨ (Hid (wide n 6 = false) ∧ Hid (wide k 8 = true))) :
    Calls Try.prog 8 #[.int .i64 n, .int .i64 k, .int .i64 r] w fun e w' => e = .returned (.tuple #[.slice none 0 0, .iface 35 (.int .i64 1)]) ∧ Below w.heap.size w w' := by
  go_enter Try.func8, Try.ntmps8
  go_wp2_with fail
  refine (of_no n k w h).mono ?_
  rintro e w1 ⟨rfl, hb1⟩
  go_wp2
  go_ret2
  exact ⟨rfl, hb1⟩
theorem row_out (n k : Nat) (r : Int) (hn : n ≤ 6) (hk : k ≤ 8) (h : r < 0 ∨ (0 ≤ r ∧ Hid (V k n ≤ r))) (w : World) :
    Calls Try.prog 8 #[.int .i64 n, .int .i64 k, .int .i64 r] w fun e w' => e = .returned (.tuple #[.slice none 0 0, .iface 35 (.int .i64 1)]) ∧ Below w.heap.size w w' := by
  have hof := hide (of_ok n k hn hk w)
  obtain ⟨C, hC⟩ : ∃ C, V k n = C := ⟨_, rfl⟩
  rw [hC] at hof h
  clear hC
  rcases h with h | ⟨h, g⟩
  · go_enter Try.func8, Try.ntmps8
    go_wp2_with fail
    refine (unhide hof).mono ?_
    rintro e w1 ⟨rfl, hb1⟩
    go_wp2
    go_ret2
    exact ⟨rfl, hb1⟩
  · have g' := unhide g
    go_enter Try.func8, Try.ntmps8
    go_wp2_with fail
    refine (unhide hof).mono ?_
    rintro e w1 ⟨rfl, hb1⟩
    go_wp2
    go_ret2
    exact ⟨rfl, hb1⟩

end Go.Proofs.Ytjnmogmagngenad.Pls
