/-
  The walk of hornlaw1.CountTells.
-/
import Derived.Test.YtnodflcdijkdoacDoorCountTable
import Derived.Test.YtnodflcdijkdoacDoorRefCount
import Derived.Test.YtnodflcdijkdoacDoorRefBits
import Derived.Test.YtnodflcdijkdoacDoorInts
import Derived.Test.YtnodflcdijkdoacDoorTold
namespace Go.Proofs.YtnodflcdijkdoacDoor.CountTellsLaw
open Go.RowKit
open Go.Proofs.YtnodflcdijkdoacDoor.Tre Go.Proofs.YtnodflcdijkdoacDoor.Cnt Go.Proofs.YtnodflcdijkdoacDoor.Same Go.Proofs.YtnodflcdijkdoacDoor.Aser
set_option linter.unusedVariables false

theorem ints_nil (w : World) : Calls Tryd.prog 12 #[.slice none 0 0, .slice none 0 0] w fun e w' => e = .returned (.bool true) ∧ Below w.heap.size w w' :=
  ints_same none 0 none 0 [] w (by simp) (Or.inl rfl) (Or.inl rfl)

set_option maxRecDepth 100000 in
set_option maxHeartbeats 8000000 in
/-- So many pulses there are not. -/
theorem walk_out (n k : Int) (w : World) (hL : Laid w) (HK : Hid (wide k 8 = true)) (hk : k < 0 ∨ (0 ≤ k ∧ 8 < k)) :
    Calls Tryd.prog 4 #[.int .i64 n, .int .i64 k] w fun e w' => e = .returned (.bool true) ∧ Below w.heap.size w w' := by
  have hno : Hid (wide n 6 = true) ∨ (Hid (wide n 6 = false) ∧ Hid (wide k 8 = true)) := by
    rcases wide_or n 6 with h | ⟨h, _⟩
    · exact Or.inl h
    · exact Or.inr ⟨h, HK⟩
  rcases Cnt.ways n 6 with ⟨n0, -⟩ | ⟨n0, n1, -⟩ | ⟨-, m, rfl, n1⟩
  all_goals rcases hk with k0 | ⟨k0, k1⟩
  all_goals
    go_enter Tryd.func4, Tryd.ntmps4
    go_wp2_with fail
    refine (of_no _ _ w hno).mono ?_
    rintro e w1 ⟨rfl, hb1⟩
    go_wp2_with fail
    refine (error_is _ w1 (hL.below hb1)).mono ?_
    rintro e w2 ⟨rfl, hb2⟩
    have hB2 := Below.chain hb1 hb2
    go_wp2_with fail
    refine (bits_no _ _ w2 hno).mono ?_
    rintro e w3 ⟨rfl, hb3⟩
    have hB3 := Below.chain hB2 hb3
    go_wp2_with fail
    refine (error_is _ w3 (hL.below hB3)).mono ?_
    rintro e w4 ⟨rfl, hb4⟩
    have hB4 := Below.chain hB3 hb4
    clear hB3 hb4 hB2 hb3 hb1 hb2
    go_wp2
    go_loop [13, 14] (fun v i => v = .slice none 0 0 ∧ i = .int .i64 0) (fun _ _ => 0)
    case atStart => exact ⟨rfl, rfl⟩
    case round =>
      obtain ⟨rfl, rfl⟩ := hrel
      go_wp2_with fail
      refine (table_no _ w4 HK).mono ?_
      rintro e w5 ⟨rfl, hb5⟩
      have hB5 := Below.chain hB4 hb5
      go_wp2_with fail
      refine (error_is _ w5 (hL.below hB5)).mono ?_
      rintro e w6 ⟨rfl, hb6⟩
      have hB6 := Below.chain hB5 hb6
      go_wp2_with fail
      refine (ints_nil w6).mono ?_
      rintro e w7 ⟨rfl, hb7⟩
      go_wp2
      go_ret
      exact ⟨rfl, Below.chain hB6 hb7⟩

set_option maxRecDepth 100000 in
set_option maxHeartbeats 8000000 in
theorem walk_in (n : Int) (k : Nat) (hk : k ≤ 8) (w : World) (hL : Laid w) :
    Calls Tryd.prog 4 #[.int .i64 n, .int .i64 k] w fun e w' => e = .returned (.bool true) ∧ Below w.heap.size w w' := by
  have HU : Hid ((upto (V k) 7).length = 7) := hide (upto_length _ _)
  rcases Cnt.ways n 6 with ⟨n0, nA⟩ | ⟨n0, n1, nA⟩ | ⟨-, m, rfl, nB⟩
  all_goals
    go_enter Tryd.func4, Tryd.ntmps4
    go_wp2_with fail
  all_goals (first
    | (refine (of_no _ _ w (Or.inl nA)).mono ?_
       rintro e w1 ⟨rfl, hb1⟩
       go_wp2_with fail
       refine (error_is _ w1 (hL.below hb1)).mono ?_
       rintro e w2 ⟨rfl, hb2⟩
       have hB2 := Below.chain hb1 hb2
       go_wp2_with fail
       refine (bits_no _ _ w2 (Or.inl nA)).mono ?_
       rintro e w3 ⟨rfl, hb3⟩
       have hB3 := Below.chain hB2 hb3
       go_wp2_with fail
       refine (error_is _ w3 (hL.below hB3)).mono ?_
       rintro e w4 ⟨rfl, hb4⟩
       have hB4 := Below.chain hB3 hb4
       clear hB3 hb4 hB2 hb3 hb1 hb2 nA
       go_wp2)
    | (have hm : m ≤ 6 := by omega
       refine (refCount m k hm hk w).mono ?_
       have hv := (V_in k m (by omega) (by omega)).2
       have F1 := hide (of_ok m k hm hk)
       have F2 := hide (bits_ok m k hm hk)
       obtain ⟨X, hX⟩ : ∃ X, V k m = X := ⟨_, rfl⟩
       rw [hX] at hv F1 F2 ⊢
       clear hX nB
       have hXX : (X == X) = true := by simp
       rintro e w1 ⟨rfl, hb1⟩
       go_wp2_with fail
       refine (refBits X hv w1).mono ?_
       rintro e w1' ⟨b, rfl, hl, rfl⟩
       go_wp2_with fail
       refine (unhide F1 w1).mono ?_
       rintro e w2 ⟨rfl, hb2⟩
       have hB2 := Below.chain hb1 hb2
       go_wp2_with fail
       refine (error_nil w2).mono ?_
       rintro e w2' ⟨rfl, rfl⟩
       go_wp2_with fail
       refine (unhide F2 _).mono ?_
       rintro e w3 ⟨b', rfl, hl', hb3⟩
       obtain rfl := hl.one hl'
       have hB3 := Below.chain hB2 hb3
       have hbb : ((b : Int) == (b : Int)) = true := by simp
       go_wp2_with fail
       refine (error_nil w3).mono ?_
       rintro e w4 ⟨rfl, rfl⟩
       have hB4 := hB3
       clear hB3 hB2 hb3 hb1 hb2 hl hl' F1 F2
       go_wp2))
  all_goals
    go_loopw [13, 14, 15] (fun v i _ wr => ∃ j : Nat, j ≤ 7 ∧ i = .int .i64 j ∧ Has wr w.heap.size v (upto (V k) j) ∧ Below w.heap.size w wr) (fun _ i _ _ => 7 - (intOf i).toNat)
    case atStart => exact ⟨0, Nat.zero_le _, rfl, Has.nil _ _, hB4⟩
    case round =>
      obtain ⟨j, hj, rfl, h9, hB9⟩ := hrel
      clear hB4
      by_cases hlt : j ≤ 6
      · have er : Hid (upto (V k) (j + 1) = upto (V k) j ++ [V k j]) := hide (upto_succ _ _)
        have hln : Hid ((upto (V k) j).length + 1 ≤ 1000000) := hide (by rw [upto_length]; omega)
        go_wp2_with fail
        refine (refCount j k hlt hk wr).mono ?_
        rintro e w5 ⟨rfl, hb5⟩
        have h5 := h9.below hb5
        have hB5 := hB9.trans (hb5.mono hB9.size)
        have hWs := hB5.size
        obtain ⟨X, hX⟩ : ∃ X, V k j = X := ⟨_, rfl⟩
        rw [hX] at er ⊢
        clear hX h9 hB9 hb5
        go_wp2_with (at_builtin; refine wpList_app _ rfl _ _ rfl w.heap.size u13 (upto (V k) j) [X] _ _ rfl (h5.alloc _) rfl (row_one _ _ _) (unhide hln) (by simp; omega) ?_; intro s' w6 k6 g6 at6)
        obtain ⟨d1, d2⟩ := stepped_plain h5 hWs k6 g6 at6
        go_wp2
        go_roundw
        case rel => exact ⟨j + 1, by omega, by go_num, by rw [unhide er]; exact k6, hB5.trans d1⟩
        case measure => simp [intOf]; omega
      · obtain rfl : j = 7 := by omega
        obtain ⟨p9, q9, rfl, r9⟩ := h9.row
        rw [unhide HU]
        go_wp2_with fail
        refine (table_ok k hk wr).mono ?_
        rintro e w5 ⟨v5, rfl, h5, hb5⟩
        have hB5 := hB9.trans (hb5.mono hB9.size)
        obtain ⟨p5, q5, rfl, r5⟩ := h5.row
        rw [cts_length]
        go_wp2_with fail
        refine (error_nil w5).mono ?_
        rintro e w5' ⟨rfl, rfl⟩
        have hi := ints_same p5 q5 p9 q9 (cts k) w5' (by rw [cts_length]; omega) r5 (r9.below hb5)
        rw [cts_length] at hi
        go_wp2_with fail
        refine hi.mono ?_
        rintro e w6 ⟨rfl, hb6⟩
        go_wp2
        go_ret
        exact ⟨rfl, hB5.trans (hb6.mono hB5.size)⟩

theorem walk (n k : Int) (w : World) (hL : Laid w) (hwn : (Lit.int .i64 n).wf = true) (hwk : (Lit.int .i64 k).wf = true) :
    Calls Tryd.prog 4 #[.int .i64 n, .int .i64 k] w fun e w' => e = .returned (.bool true) ∧ Below w.heap.size w w' := by
  rcases Cnt.ways k 8 with ⟨k0, kA⟩ | ⟨k0, k1, kA⟩ | ⟨-, m, rfl, kB⟩
  · exact walk_out n k w hL kA (Or.inl k0)
  · exact walk_out n k w hL kA (Or.inr ⟨k0, k1⟩)
  · exact walk_in n m (by omega) w hL

end Go.Proofs.YtnodflcdijkdoacDoor.CountTellsLaw
