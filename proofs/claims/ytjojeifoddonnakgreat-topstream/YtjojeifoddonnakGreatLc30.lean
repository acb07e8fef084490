/-
  slices.Concat of integers: by its contract.
-/
import Derived.Test.YtjojeifoddonnakGreatLc24
import Derived.Test.YtjojeifoddonnakGreatLc00
import Derived.Lib.AppendZeros
namespace Go.Proofs.YtjojeifoddonnakGreat.Bnd
open Go.RowKit
open Go.Proofs.YtjojeifoddonnakGreat.Tre
set_option linter.unusedVariables false

set_option maxRecDepth 100000 in
/-- append of so many zeros onto nil. -/
theorem run_zeros (w : World) (ty : TypeId) (n : Nat) (h0 : 0 < n) (hn : n ≤ 1000) :
    ∃ c w', (Builtin.append_ #[23, 3] ty #[.slice none 0 0, .int .i64 n]).run Tryz.prog w = .ok (.slice (some ⟨w.heap.size, 0, none⟩) n c) w' ∧ n ≤ c ∧ Has w' w.heap.size (.slice (some ⟨w.heap.size, 0, none⟩) 0 c) [] ∧ Below w.heap.size w w' := by
  obtain ⟨i, hi, hz0, hz1, hz2⟩ := info_parts info_int
  have h := Lib.run_append_nil_zeros (P := Tryz.prog) w 23 3 ty 3 i (.int .i64 0) .i64 .i64 Tryz.underlying23 Tryz.underlying3 hi hz0 n h0 (by omega) (by omega) (by rw [hz2]; omega)
  have hge := grownCap_ge w n 0 3
  have hcm : grownCap w n 0 3 ≤ maxLen := grownCap_le_maxLen w n 0 3 (by unfold maxLen; omega)
  refine ⟨_, _, h, hge, ⟨rfl, .inr ⟨w.heap.size, _, _, rfl, Nat.le_refl _, heap_alloc_new w.drew _, Nat.zero_le _, hcm, ?_, by simp⟩⟩, ⟨rfl, rfl, rfl, by simp, fun k hk => heap_alloc_old _ _ hk⟩⟩
  have hzs : (Value.int IntKind.i64 0).cells.size = 1 := rfl
  simp only [Array.size_append, size_zeroCells, hzs]
  omega

set_option maxRecDepth 100000 in
theorem grow (n : Nat) (w : World) (h0 : 0 < n) (hn : n ≤ 1000) :
    Calls Tryz.prog 65 #[.slice none 0 0, .int .i64 n] w fun e w' => ∃ v, e = .returned v ∧ Has w' w.heap.size v [] ∧ Below w.heap.size w w' := by
  go_enter Tryz.func65, Tryz.ntmps65
  obtain ⟨c, w', hrun, hc, hh, hb⟩ := run_zeros w 23 n h0 hn
  go_wp2_with (at_builtin; refine Lib.wpList_append_run _ rfl _ _ _ _ rfl _ _ rfl rfl _ _ hrun ?_)
  go_ret
  exact ⟨_, rfl, hh, hb⟩

set_option maxRecDepth 100000 in
set_option maxHeartbeats 2000000 in
theorem concat (a : Option Addr) (cap : Nat) (ll : List (List Int)) (w : World) (hl : ll.length ≤ 9223372036854775807) (hr : Rws w a ll) (h0 : Hid (0 < ll.flatten.length)) (h9 : Hid (ll.flatten.length ≤ 1000)) :
    Calls Tryz.prog 31 #[.slice a ll.length cap] w fun e w' => ∃ v, e = .returned v ∧ Has w' w.heap.size v ll.flatten ∧ Below w.heap.size w w' := by
  obtain ⟨N, hN⟩ : ∃ N, ll.length = N := ⟨_, rfl⟩
  have HN := hide hN
  rw [hN] at hl ⊢
  clear hN
  go_enter Tryz.func31, Tryz.ntmps31
  go_wp2
  go_loopw [3, 11] (fun t i wr => ∃ j T : Nat, j ≤ N ∧ i = .int .i64 j ∧ t = .int .i64 T ∧ Hid (T = (ll.take j).flatten.length) ∧ T ≤ 1000 ∧ w = wr) (fun _ i _ => N - (intOf i).toNat)
  case atStart => exact ⟨0, 0, Nat.zero_le _, rfl, rfl, rfl, by omega, rfl⟩
  case round =>
    obtain ⟨j, T, hj, rfl, rfl, HT, hT, rfl⟩ := hrel
    by_cases hlt : j < N
    · have hlt' : j < ll.length := by rw [unhide HN]; exact hlt
      obtain ⟨b, off, rfl, hb, hc⟩ := hr.at hlt'
      obtain ⟨A, C, c1, c2, c3, c4, c5⟩ := hc j hlt'
      have HS : Hid (T + (rowAt ll j).length = (ll.take (j + 1)).flatten.length) := hide (by rw [flat_step hlt', List.length_append, unhide HT])
      have h1000 := flat_le ll (j + 1)
      rw [← unhide HS] at h1000
      have h1000' : T + (rowAt ll j).length ≤ 1000 := Nat.le_trans h1000 (unhide h9)
      obtain ⟨X, hX⟩ : ∃ X, (rowAt ll j).length = X := ⟨_, rfl⟩
      rw [hX] at c1 HS h1000'
      clear hc hX h1000 c2 c3 c4 c5 hlt'
      go_wp2
      go_roundw
      case rel => exact ⟨j + 1, T + X, by omega, by go_num, by go_num, HS, h1000', by first | trivial | rfl⟩
      case measure => simp [intOf]; omega
    · obtain rfl : j = N := by omega
      have HT2 : Hid (ll.flatten.length = T) := hide (by rw [unhide HT, List.take_of_length_le (by rw [unhide HN]; exact Nat.le_refl _)])
      have hT0 : 0 < T := by rw [← unhide HT2]; exact unhide h0
      clear HT
      go_wp2_with fail
      refine (grow T w hT0 hT).mono ?_
      rintro e w1 ⟨v1, rfl, k1, hb1⟩
      go_wp2
      go_loopw [6, 27] (fun v i wq => ∃ k : Nat, k ≤ j ∧ i = .int .i64 k ∧ Has wq w.heap.size v (ll.take k).flatten ∧ Below w.heap.size w wq) (fun _ i _ => j - (intOf i).toNat)
      case atStart => exact ⟨0, Nat.zero_le _, rfl, k1, hb1⟩
      case round =>
        obtain ⟨k, hk, rfl, k2, hB⟩ := hrel
        by_cases hlt2 : k < j
        · have hlt' : k < ll.length := by rw [unhide HN]; exact hlt2
          obtain ⟨b, off, rfl, hb, hc⟩ := (hr.below hB).at hlt'
          obtain ⟨A, C, c1, c2, c3, c4, c5⟩ := hc k hlt'
          have HS := hide (flat_step hlt')
          have hln : Hid ((ll.take k).flatten.length + (rowAt ll k).length ≤ 1000000) := hide (by
            have h1 := flat_le ll (k + 1)
            rw [unhide HS, List.length_append] at h1
            have := unhide h9
            omega)
          have hBs := hB.size
          clear hc c2 c3 c4 hlt'
          go_wp2_with (at_builtin; refine wpList_app _ rfl _ _ rfl w.heap.size u6 (ll.take k).flatten (rowAt ll k) A C rfl k2 rfl c5 (unhide hln) hBs ?_; intro s1 w2 k3 g1 at1)
          go_roundw
          case rel => exact ⟨k + 1, by omega, by go_num, by rw [unhide HS]; exact k3, hB.grown g1 hBs (fun q e => (k2.lt q e).1)⟩
          case measure => simp [intOf]; omega
        · obtain rfl : k = j := by omega
          rw [List.take_of_length_le (by rw [unhide HN]; exact Nat.le_refl _)] at k2
          go_wp2
          go_ret
          exact ⟨_, rfl, k2, hB⟩

end Go.Proofs.YtjojeifoddonnakGreat.Bnd
