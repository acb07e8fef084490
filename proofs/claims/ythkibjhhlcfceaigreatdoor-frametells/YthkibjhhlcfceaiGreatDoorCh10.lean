/-
  lap.deal: by its contract; a number of a list of this call's own is set.
-/
import Derived.Test.YthkibjhhlcfceaiGreatDoorCh09
namespace Go.Proofs.YthkibjhhlcfceaiGreatDoor.Lap
open Go.RowKit
open Go.Proofs.YthkibjhhlcfceaiGreatDoor.Tre
set_option linter.unusedVariables false

set_option maxHeartbeats 2000000 in
theorem deal (a : Option Addr) (cap : Nat) (l : List Int) (w : World) (hl : l.length ≤ 1000) (he : Hid (l.length = 2 * (l.length / 2))) (hr : Row w a l) :
    Calls Tryz.prog 97 #[.slice a l.length cap] w fun e w' => ∃ s d, e = .returned (.tuple #[s, d]) ∧ Has w' w.heap.size s (ev l) ∧ Has w' w.heap.size d (od l) ∧ Off s d ∧ Below w.heap.size w w' := by
  go_enter Tryz.func97, Tryz.ntmps97
  go_wp2
  go_loopw [2, 3, 8] (fun s d i wr => ∃ j : Nat, j ≤ l.length ∧ i = .int .i64 j ∧ Has wr w.heap.size s (upto (fun i => at0 l (2 * i)) ((j + 1) / 2)) ∧ Has wr w.heap.size d (upto (fun i => at0 l (2 * i + 1)) (j / 2)) ∧ Off s d ∧ Below w.heap.size w wr) (fun _ _ i _ => l.length - (intOf i).toNat)
  case atStart => exact ⟨0, Nat.zero_le _, rfl, Has.nil _ _, Has.nil _ _, Or.inl rfl, Below.refl _ _⟩
  case round =>
    obtain ⟨j, hj, rfl, h1, h2, h3, hB⟩ := hrel
    by_cases hlt : j < l.length
    · obtain ⟨b, off, rfl, hc⟩ := row_cell (hr.below hB) (by omega)
      have hc1 := hc j hlt
      have hmod : Int.tmod (j : Int) 2 = ((j % 2 : Nat) : Int) := rfl
      obtain ⟨X, hX⟩ : ∃ X, at0 l j = X := ⟨_, rfl⟩
      rw [hX] at hc1
      have HX := hide hX
      clear hX hc
      have hWs := hB.size
      by_cases hm : j % 2 = 0
      · have e1 : Hid (upto (fun i => at0 l (2 * i)) ((j + 1 + 1) / 2) = upto (fun i => at0 l (2 * i)) ((j + 1) / 2) ++ [X]) := hide (by
          have : (j + 1 + 1) / 2 = (j + 1) / 2 + 1 := by omega
          have e : 2 * ((j + 1) / 2) = j := by omega
          rw [this, upto_succ, e, unhide HX])
        have e2 : Hid ((j + 1) / 2 = j / 2) := hide (by omega)
        have hln : Hid ((upto (fun i => at0 l (2 * i)) ((j + 1) / 2)).length + 1 ≤ 1000000) := hide (by rw [upto_length]; omega)
        go_wp2_with (at_builtin; refine wpList_app _ rfl _ _ rfl w.heap.size u2 (upto (fun i => at0 l (2 * i)) ((j + 1) / 2)) [X] _ _ rfl (h1.alloc _) rfl (row_one _ _ _) (unhide hln) (by simp; omega) ?_; intro s' w1 k1 g1 at1)
        obtain ⟨d1, d2⟩ := stepped_plain h1 hWs k1 g1 at1
        obtain ⟨h2', h3'⟩ := d2 _ _ h2 h3.symm
        go_wp2
        go_roundw
        case rel => exact ⟨j + 1, by omega, by go_num, by rw [unhide e1]; exact k1, by rw [unhide e2]; exact h2', h3'.symm, hB.trans d1⟩
        case measure => simp [intOf]; omega
      · have e1 : Hid (upto (fun i => at0 l (2 * i + 1)) ((j + 1) / 2) = upto (fun i => at0 l (2 * i + 1)) (j / 2) ++ [X]) := hide (by
          have : (j + 1) / 2 = j / 2 + 1 := by omega
          have e : 2 * (j / 2) + 1 = j := by omega
          rw [this, upto_succ, e, unhide HX])
        have e2 : Hid ((j + 1 + 1) / 2 = (j + 1) / 2) := hide (by omega)
        have hln : Hid ((upto (fun i => at0 l (2 * i + 1)) (j / 2)).length + 1 ≤ 1000000) := hide (by rw [upto_length]; omega)
        go_wp2_with (at_builtin; refine wpList_app _ rfl _ _ rfl w.heap.size u3 (upto (fun i => at0 l (2 * i + 1)) (j / 2)) [X] _ _ rfl (h2.alloc _) rfl (row_one _ _ _) (unhide hln) (by simp; omega) ?_; intro s' w1 k1 g1 at1)
        obtain ⟨d1, d2⟩ := stepped_plain h2 hWs k1 g1 at1
        obtain ⟨h1', h3'⟩ := d2 _ _ h1 h3
        go_wp2
        go_roundw
        case rel => exact ⟨j + 1, by omega, by go_num, by rw [unhide e2]; exact h1', by rw [unhide e1]; exact k1, h3', hB.trans d1⟩
        case measure => simp [intOf]; omega
    · obtain rfl : j = l.length := by omega
      have e1 : Hid ((l.length + 1) / 2 = l.length / 2) := hide (by have := unhide he; omega)
      go_wp2
      go_ret2
      refine ⟨_, _, rfl, ?_, h2, h3, hB⟩
      unfold ev
      rw [← unhide e1]
      exact h1

/-- One more number of a list of this call's own is as by f. -/
theorem put_mid {wr : World} {base g n c j : Nat} {f f0 : Nat → Int} {X : Int} (h : Has wr base (.slice (some ⟨g, 0, none⟩) n c) (mid f f0 n j)) (hj : j < n) (hx : f j = X) (q : Nat) :
    Has ((wr.drewN q).setCell ⟨g, j, none⟩ (.int .i64 X)) base (.slice (some ⟨g, 0, none⟩) n c) (mid f f0 n (j + 1)) ∧
      (∀ u m, Has wr base u m → Off u (.slice (some ⟨g, 0, none⟩) n c) → Has ((wr.drewN q).setCell ⟨g, j, none⟩ (.int .i64 X)) base u m) ∧
      (∀ w, Below base w wr → base ≤ g → Below base w ((wr.drewN q).setCell ⟨g, j, none⟩ (.int .i64 X))) := by
  have h1 : Has (wr.drewN q) base (.slice (some ⟨g, 0, none⟩) n c) (mid f f0 n j) := h
  obtain ⟨h2, h3⟩ := h1.put j X
  refine ⟨?_, fun u m hu ho => ?_, fun w hb hg => ?_⟩
  · rw [← mid_set f f0 hj, hx]; exact h2
  · exact Has.beside (show Has (wr.drewN q) base u m from hu) rfl ho h3
  · exact Below.setCell (w := wr.drewN q) (p := ⟨g, j, none⟩) (hb.trans ⟨rfl, rfl, rfl, Nat.le_refl _, fun _ _ => rfl⟩) hg _

end Go.Proofs.YthkibjhhlcfceaiGreatDoor.Lap
