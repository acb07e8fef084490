/-
  A row's numbers, each in its cell (package lap).
-/
import Derived.Test.YthkibjhhlcfceaiDoorCh00
import Derived.Test.YthkibjhhlcfceaiDoorCh04
namespace Go.Proofs.YthkibjhhlcfceaiDoor.Lap
open Go.RowKit
open Go.Proofs.YthkibjhhlcfceaiDoor.Tre
set_option linter.unusedVariables false

theorem row_cell {w : World} {a : Option Addr} {l : List Int} (h : Row w a l) (h0 : 0 < l.length) : ∃ b off, a = some ⟨b, off, none⟩ ∧ ∀ j, j < l.length → w.cell? ⟨b, off + j, none⟩ = some (.int .i64 (at0 l j)) := by
  obtain ⟨b, off, e, _, hc⟩ := h.at h0
  exact ⟨b, off, e, fun j hj => (hc j hj).trans (by rw [List.getD_eq_getElem?_getD]; rfl)⟩

end Go.Proofs.YthkibjhhlcfceaiDoor.Lap

/-
  lap.guess, lap.lift: by their contracts.
-/
namespace Go.Proofs.YthkibjhhlcfceaiDoor.Lap
open Go.RowKit
open Go.Proofs.YthkibjhhlcfceaiDoor.Tre
set_option linter.unusedVariables false

set_option maxHeartbeats 1000000 in
theorem guess (a : Option Addr) (n cap : Nat) (l : List Int) (i : Nat) (w : World) (hn : Hid (n = l.length)) (hl : n ≤ 1000) (hi : i < n) (hin : In 100000 l) (hr : Row w a l) :
    Calls Tryd.prog 35 #[.slice a n cap, .int .i64 i] w fun e w' => e = .returned (.int .i64 (gs l i)) ∧ ∃ q, w' = w.drewN q := by
  obtain ⟨b, off, rfl, hc⟩ := row_cell hr (by rw [← unhide hn]; omega)
  obtain ⟨x0, x1⟩ := hin.at (by omega) i
  obtain ⟨k, hk⟩ : ∃ k, k = min (i + 1) (n - 1) := ⟨_, rfl⟩
  obtain ⟨y0, y1⟩ := hin.at (by omega) k
  have hc1 := hc i (by rw [← unhide hn]; exact hi)
  have hc2 := hc k (by rw [← unhide hn]; omega)
  have HG : Hid (gs l i = (at0 l i + at0 l k) / 2) := hide (by unfold gs; rw [← unhide hn, ← hk])
  clear hc
  obtain ⟨X, hX⟩ : ∃ X, at0 l i = X := ⟨_, rfl⟩
  obtain ⟨Y, hY⟩ : ∃ Y, at0 l k = Y := ⟨_, rfl⟩
  rw [hX, hY] at HG
  rw [hX] at x0 x1 hc1
  rw [hY] at y0 y1 hc2
  clear hX hY
  obtain ⟨G, hG⟩ : ∃ G, gs l i = G := ⟨_, rfl⟩
  rw [hG] at HG ⊢
  clear hG
  have hkn : k < n := by omega
  by_cases h : i + 1 < n
  · obtain rfl : k = i + 1 := by omega
    have hm : ¬ ((n : Int) - 1 < (i : Int) + 1) := by omega
    clear hk
    go_enter Tryd.func35, Tryd.ntmps35
    go_wp2
    go_quiet (fail)
    go_wp2
    go_ret
    exact ⟨ret_int (unhide HG).symm, nq, rfl⟩
  · obtain rfl : i = k := by omega
    obtain rfl : X = Y := by rw [hc1] at hc2; cases hc2; rfl
    have hm : (n : Int) - 1 = (i : Int) := by omega
    clear hk
    go_enter Tryd.func35, Tryd.ntmps35
    go_wp2
    go_quiet (fail)
    go_wp2
    go_ret
    exact ⟨ret_int (unhide HG).symm, nq, rfl⟩

set_option maxHeartbeats 1000000 in
theorem lift (a : Option Addr) (n cap : Nat) (l : List Int) (i : Nat) (w : World) (hn : Hid (n = l.length)) (hl : n ≤ 1000) (hi : i < n) (hin : In 100000 l) (hr : Row w a l) :
    Calls Tryd.prog 36 #[.slice a n cap, .int .i64 i] w fun e w' => e = .returned (.int .i64 (lf l i)) ∧ ∃ q, w' = w.drewN q := by
  obtain ⟨b, off, rfl, hc⟩ := row_cell hr (by rw [← unhide hn]; omega)
  obtain ⟨x0, x1⟩ := hin.at (by omega) i
  obtain ⟨k, hk⟩ : ∃ k, k = i - 1 := ⟨_, rfl⟩
  obtain ⟨y0, y1⟩ := hin.at (by omega) k
  have hc1 := hc i (by rw [← unhide hn]; exact hi)
  have hc2 := hc k (by rw [← unhide hn]; omega)
  have HG : Hid (lf l i = (at0 l k + at0 l i + 2) / 4) := hide (by unfold lf; rw [← hk])
  clear hc
  obtain ⟨X, hX⟩ : ∃ X, at0 l i = X := ⟨_, rfl⟩
  obtain ⟨Y, hY⟩ : ∃ Y, at0 l k = Y := ⟨_, rfl⟩
  rw [hX, hY] at HG
  rw [hX] at x0 x1 hc1
  rw [hY] at y0 y1 hc2
  clear hX hY
  obtain ⟨G, hG⟩ : ∃ G, lf l i = G := ⟨_, rfl⟩
  rw [hG] at HG ⊢
  clear hG
  have hkn : k < n := by omega
  by_cases h : 0 < i
  · have hm : (i : Int) - 1 = (k : Int) := by omega
    have hm0 : ¬ ((k : Int) < 0) := by omega
    clear hk
    go_enter Tryd.func36, Tryd.ntmps36
    go_wp2
    go_quiet (fail)
    go_wp2
    go_ret
    exact ⟨ret_int (unhide HG).symm, nq, rfl⟩
  · obtain rfl : i = 0 := by omega
    obtain rfl : k = 0 := by omega
    obtain rfl : X = Y := by rw [hc1] at hc2; cases hc2; rfl
    clear hk
    rw [Nat.add_zero] at hc1
    go_enter Tryd.func36, Tryd.ntmps36
    go_wp2
    go_quiet (fail)
    go_wp2
    go_ret
    exact ⟨ret_int (unhide HG).symm, nq, rfl⟩

end Go.Proofs.YthkibjhhlcfceaiDoor.Lap

/-
  lap.deal: by its contract; a number of a list of this call's own is set.
-/
namespace Go.Proofs.YthkibjhhlcfceaiDoor.Lap
open Go.RowKit
open Go.Proofs.YthkibjhhlcfceaiDoor.Tre
set_option linter.unusedVariables false

set_option maxHeartbeats 2000000 in
theorem deal (a : Option Addr) (cap : Nat) (l : List Int) (w : World) (hl : l.length ≤ 1000) (he : Hid (l.length = 2 * (l.length / 2))) (hr : Row w a l) :
    Calls Tryd.prog 34 #[.slice a l.length cap] w fun e w' => ∃ s d, e = .returned (.tuple #[s, d]) ∧ Has w' w.heap.size s (ev l) ∧ Has w' w.heap.size d (od l) ∧ Off s d ∧ Below w.heap.size w w' := by
  go_enter Tryd.func34, Tryd.ntmps34
  go_wp2
  go_loopw [2, 3, 8] (fun s d i wr => ∃ j : Nat, j ≤ l.length ∧ i = .int .i64 j ∧ Has wr w.heap.size s (upto (fun i => at0 l (2 * i)) ((j + 1) / 2)) ∧ Has wr w.heap.size d (upto (fun i => at0 l (2 * i + 1)) (j / 2)) ∧ Off s d ∧ Below w.heap.size w wr) (fun _ _ i _ => l.length - (intOf i).toNat)
  case atStart => exact ⟨0, Nat.zero_le _, rfl, Has.nil _ _, Has.nil _ _, Or.inl rfl, Below.refl _ _⟩
  case round =>
    obtain ⟨j, hj, rfl, h1, h2, h3, hB⟩ := hrel
    by_cases hlt : j < l.length
    · obtain ⟨b, off, rfl, hc⟩ := row_cell (hr.below hB) (by omega)
      have hc1 := hc j hlt
      have hmod : Int.tmod (j : Int) 2 = ((j % 2 : Nat) : Int) := rfl
      obtain ⟨X, hX⟩ : ∃ X, at0 l j = X := ⟨_, rfl⟩
      rw [hX] at hc1
      have HX := hide hX
      clear hX hc
      have hWs := hB.size
      by_cases hm : j % 2 = 0
      · have e1 : Hid (upto (fun i => at0 l (2 * i)) ((j + 1 + 1) / 2) = upto (fun i => at0 l (2 * i)) ((j + 1) / 2) ++ [X]) := hide (by
          have : (j + 1 + 1) / 2 = (j + 1) / 2 + 1 := by omega
          have e : 2 * ((j + 1) / 2) = j := by omega
          rw [this, upto_succ, e, unhide HX])
        have e2 : Hid ((j + 1) / 2 = j / 2) := hide (by omega)
        have hln : Hid ((upto (fun i => at0 l (2 * i)) ((j + 1) / 2)).length + 1 ≤ 1000000) := hide (by rw [upto_length]; omega)
        go_wp2_with (at_builtin; refine wpList_app _ rfl _ _ rfl w.heap.size u2 (upto (fun i => at0 l (2 * i)) ((j + 1) / 2)) [X] _ _ rfl (h1.alloc _) rfl (row_one _ _ _) (unhide hln) (by simp; omega) ?_; intro s' w1 k1 g1 at1)
        obtain ⟨d1, d2⟩ := stepped_plain h1 hWs k1 g1 at1
        obtain ⟨h2', h3'⟩ := d2 _ _ h2 h3.symm
        go_wp2
        go_roundw
        case rel => exact ⟨j + 1, by omega, by go_num, by rw [unhide e1]; exact k1, by rw [unhide e2]; exact h2', h3'.symm, hB.trans d1⟩
        case measure => simp [intOf]; omega
      · have e1 : Hid (upto (fun i => at0 l (2 * i + 1)) ((j + 1) / 2) = upto (fun i => at0 l (2 * i + 1)) (j / 2) ++ [X]) := hide (by
          have : (j + 1) / 2 = j / 2 + 1 := by omega
          have e : 2 * (j / 2) + 1 = j := by omega
          rw [this, upto_succ, e, unhide HX])
        have e2 : Hid ((j + 1 + 1) / 2 = (j + 1) / 2) := hide (by omega)
        have hln : Hid ((upto (fun i => at0 l (2 * i + 1)) (j / 2)).length + 1 ≤ 1000000) := hide (by rw [upto_length]; omega)
        go_wp2_with (at_builtin; refine wpList_app _ rfl _ _ rfl w.heap.size u3 (upto (fun i => at0 l (2 * i + 1)) (j / 2)) [X] _ _ rfl (h2.alloc _) rfl (row_one _ _ _) (unhide hln) (by simp; omega) ?_; intro s' w1 k1 g1 at1)
        obtain ⟨d1, d2⟩ := stepped_plain h2 hWs k1 g1 at1
        obtain ⟨h1', h3'⟩ := d2 _ _ h1 h3
        go_wp2
        go_roundw
        case rel => exact ⟨j + 1, by omega, by go_num, by rw [unhide e2]; exact h1', by rw [unhide e1]; exact k1, h3', hB.trans d1⟩
        case measure => simp [intOf]; omega
    · obtain rfl : j = l.length := by omega
      have e1 : Hid ((l.length + 1) / 2 = l.length / 2) := hide (by have := unhide he; omega)
      go_wp2
      go_ret2
      refine ⟨_, _, rfl, ?_, h2, h3, hB⟩
      unfold ev
      rw [← unhide e1]
      exact h1

/-- One more number of a list of this call's own is as by f. -/
theorem put_mid {wr : World} {base g n c j : Nat} {f f0 : Nat → Int} {X : Int} (h : Has wr base (.slice (some ⟨g, 0, none⟩) n c) (mid f f0 n j)) (hj : j < n) (hx : f j = X) (q : Nat) :
    Has ((wr.drewN q).setCell ⟨g, j, none⟩ (.int .i64 X)) base (.slice (some ⟨g, 0, none⟩) n c) (mid f f0 n (j + 1)) ∧
      (∀ u m, Has wr base u m → Off u (.slice (some ⟨g, 0, none⟩) n c) → Has ((wr.drewN q).setCell ⟨g, j, none⟩ (.int .i64 X)) base u m) ∧
      (∀ w, Below base w wr → base ≤ g → Below base w ((wr.drewN q).setCell ⟨g, j, none⟩ (.int .i64 X))) := by
  have h1 : Has (wr.drewN q) base (.slice (some ⟨g, 0, none⟩) n c) (mid f f0 n j) := h
  obtain ⟨h2, h3⟩ := h1.put j X
  refine ⟨?_, fun u m hu ho => ?_, fun w hb hg => ?_⟩
  · rw [← mid_set f f0 hj, hx]; exact h2
  · exact Has.beside (show Has (wr.drewN q) base u m from hu) rfl ho h3
  · exact Below.setCell (w := wr.drewN q) (p := ⟨g, j, none⟩) (hb.trans ⟨rfl, rfl, rfl, Nat.le_refl _, fun _ _ => rfl⟩) hg _

end Go.Proofs.YthkibjhhlcfceaiDoor.Lap
