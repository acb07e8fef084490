/-
  The walk of hornlaw4.LapFlat.
-/
import Derived.Test.YthlfckblhpdknacDoorLapFwd
import Derived.Test.YthlfckblhpdknacDoorTold
namespace Go.Proofs.YthlfckblhpdknacDoor.LapFlatLaw
open Go.RowKit
open Go.Proofs.YthlfckblhpdknacDoor.Tre Go.Proofs.YthlfckblhpdknacDoor.Lap Go.Proofs.YthlfckblhpdknacDoor.Aser
set_option linter.unusedVariables false

/-- Out of bounds in one way, or within. -/
def Outs (n k : Int) : Prop := (n < -1000) ∨ (-1000 ≤ n ∧ 1000 < n) ∨ (-1000 ≤ n ∧ n ≤ 1000 ∧ k < 0) ∨ (-1000 ≤ n ∧ n ≤ 1000 ∧ 0 ≤ k ∧ 16 < k)
theorem outs_or (n k : Int) : Outs n k ∨ (-1000 ≤ n ∧ n ≤ 1000 ∧ ∃ m : Nat, k = m ∧ m ≤ 16) := by
  unfold Outs
  by_cases h : -1000 ≤ n ∧ n ≤ 1000 ∧ 0 ≤ k ∧ k ≤ 16
  · exact Or.inr ⟨h.1, h.2.1, k.toNat, by omega, by omega⟩
  · exact Or.inl (by omega)

set_option maxRecDepth 100000 in
set_option maxHeartbeats 4000000 in
theorem walk_out (n k : Int) (w : World) (hL : Laid w) (h : Outs n k) :
    Calls Tryd.prog 3 #[.int .i64 n, .int .i64 k] w fun e w' => e = .returned (.bool true) ∧ Below w.heap.size w w' := by
  have hbA : Below w.heap.size w (w.alloc (.cells #[.int .i64 1] 3)) := (Below.refl _ _).alloc (Nat.le_refl _) _
  have hrA := row_one w 1 3
  have ec : Hid (chk [1] 1000 ≠ 0) := hide (by decide)
  have e3 : Hid (chk [1] 1000 = 3) := hide (by decide)
  rcases h with o1 | ⟨o1, o2⟩ | ⟨o1, o2, o3⟩ | ⟨o1, o2, o3, o4⟩
  all_goals
    go_enter Tryd.func3, Tryd.ntmps3
    go_wp2_with fail
    refine (fwd_no (some ⟨w.heap.size, 0, none⟩) 1 [1] _ (by decide) hrA ec).mono ?_
    rw [unhide e3]
    rintro e w1 ⟨rfl, hb1⟩
    have hB := Below.chain hbA hb1
    go_wp2_with fail
    refine (error_is 3 w1 (hL.below hB)).mono ?_
    rintro e w2 ⟨rfl, hb2⟩
    go_wp2
    go_ret
    exact ⟨rfl, Below.chain hB hb2⟩

theorem flat_chk {n : Int} {M : Nat} (h0 : -1000 ≤ n) (h1 : n ≤ 1000) (hM : M ≤ 16) : chk (List.replicate (2 * M) n) 1000 = 0 := by
  have hl : (List.replicate (2 * M) n).length = 2 * M := by simp
  refine chk_of (by omega) (by omega) fun x hx => ?_
  obtain ⟨_, rfl⟩ := List.mem_replicate.1 hx
  exact ⟨h0, h1⟩
theorem flat_at {n : Int} {M k : Nat} (hk : k < M) : at0 (lap (List.replicate (2 * M) n)) k = n ∧ at0 (lap (List.replicate (2 * M) n)) (M + k) = 0 := by
  rw [lap_flat]
  refine ⟨?_, ?_⟩
  · rw [at0_left (by simpa using hk), at0_rep hk]
  · have := at0_right (l := List.replicate M n) (m := List.replicate M 0) k
    rw [List.length_replicate] at this
    rw [this, at0_rep hk]

set_option maxRecDepth 100000 in
set_option maxHeartbeats 4000000 in
theorem walk_in (n : Int) (M : Nat) (w : World) (h0 : -1000 ≤ n) (h1 : n ≤ 1000) (hM : M ≤ 16) :
    Calls Tryd.prog 3 #[.int .i64 n, .int .i64 M] w fun e w' => e = .returned (.bool true) ∧ Below w.heap.size w w' := by
  obtain ⟨N, hN⟩ : ∃ N, N = 2 * M := ⟨_, rfl⟩
  have hN2 : 2 * (M : Int) = (N : Int) := by omega
  have hN3 : N ≤ 32 := by omega
  have HR := hide (flat_chk h0 h1 hM)
  have HZ : Hid (∀ k, k < M → at0 (lap (List.replicate N n)) k = n ∧ at0 (lap (List.replicate N n)) (M + k) = 0) := hide (by rw [hN]; exact fun k hk => flat_at hk)
  rw [← hN] at HR
  have HL : Hid ((List.replicate N n).length = N) := hide (by simp)
  have HLL : Hid ((lap (List.replicate N n)).length = N) := hide (by rw [lap_length (by rw [unhide HL]; omega)]; exact unhide HL)
  have HN := hide hN
  clear hN
  go_enter Tryd.func3, Tryd.ntmps3
  go_wp2
  go_loopw [7, 8] (fun v i wr => ∃ j : Nat, j ≤ N ∧ i = .int .i64 j ∧ Has wr w.heap.size v (List.replicate j n) ∧ Below w.heap.size w wr) (fun _ i _ => N - (intOf i).toNat)
  case atStart => exact ⟨0, Nat.zero_le _, rfl, Has.nil _ _, Below.refl _ _⟩
  case round =>
    obtain ⟨j, hj, rfl, h9, hB9⟩ := hrel
    by_cases hlt : j < N
    · have er : Hid (List.replicate (j + 1) n = List.replicate j n ++ [n]) := hide List.replicate_succ'
      have hln : Hid ((List.replicate j n).length + 1 ≤ 1000000) := hide (by rw [List.length_replicate]; omega)
      have hWs := hB9.size
      go_wp2_with (at_builtin; refine wpList_app _ rfl _ _ rfl w.heap.size u7 (List.replicate j n) [n] _ _ rfl (h9.alloc _) rfl (row_one _ _ _) (unhide hln) (by simp; omega) ?_; intro s' w1 k1 g1 at1)
      obtain ⟨d1, d2⟩ := stepped_plain h9 hWs k1 g1 at1
      go_wp2
      go_roundw
      case rel => exact ⟨j + 1, by omega, by go_num, by rw [unhide er]; exact k1, hB9.trans d1⟩
      case measure => simp [intOf]; omega
    · obtain rfl : j = N := by omega
      obtain ⟨p9, q9, rfl, r9⟩ := h9.row
      have hfw := fwd_ok p9 q9 (List.replicate j n) wr (by rw [unhide HL]; omega) r9 HR
      rw [unhide HL] at hfw ⊢
      go_wp2_with fail
      refine hfw.mono ?_
      clear hfw
      rintro e w10 ⟨v10, rfl, h10, hb10⟩
      have hB10 := hB9.trans (hb10.mono hB9.size)
      obtain ⟨p10, q10, rfl, r10⟩ := h10.row
      rw [unhide HLL]
      clear h10 r9 h9 hB9
      have hne : ((j : Int) == (j : Int)) = true := by simp
      have hnn : (n == n) = true := by simp
      go_wp2
      go_loop [11] (fun i => ∃ k : Nat, k ≤ M ∧ i = .int .i64 k) (fun i => M - (intOf i).toNat)
      case atStart => exact ⟨0, Nat.zero_le _, rfl⟩
      case round =>
        obtain ⟨k, hk2, rfl⟩ := hrel
        by_cases hlt : k < M
        · obtain ⟨g9, off9, rfl, hc9⟩ := row_cell r10 (by rw [unhide HLL]; omega)
          rw [unhide HLL] at hc9
          have hkj : k < j := by have := unhide HN; omega
          have hkm : M + k < j := by have := unhide HN; omega
          have hc1 := hc9 k hkj
          have hc2 := hc9 (M + k) hkm
          rw [(unhide HZ k hlt).1] at hc1
          rw [(unhide HZ k hlt).2] at hc2
          obtain ⟨K, hK⟩ : ∃ K, K = M + k := ⟨_, rfl⟩
          have hwm : IntKind.i64.wrap ((M : Int) + (k : Int)) = (K : Int) := by rw [IntWalk.i64_in _ (by omega)]; omega
          rw [← hK] at hc2 hkm
          clear hc9 hK
          go_wp2
          go_round
          case rel => exact ⟨k + 1, by omega, by go_num⟩
          case measure => simp [intOf]; omega
        · obtain rfl : k = M := by omega
          go_wp2
          go_ret
          exact ⟨rfl, hB10⟩

theorem walk (n k : Int) (w : World) (hL : Laid w) (hwn : (Lit.int .i64 n).wf = true) (hwk : (Lit.int .i64 k).wf = true) :
    Calls Tryd.prog 3 #[.int .i64 n, .int .i64 k] w fun e w' => e = .returned (.bool true) ∧ Below w.heap.size w w' := by
  rcases outs_or n k with h | ⟨h1, h2, m, rfl, h3⟩
  · exact walk_out n k w hL h
  · exact walk_in n m w h1 h2 h3

end Go.Proofs.YthlfckblhpdknacDoor.LapFlatLaw
