/-
  Package pulse: rowsAfter, numberAt, Check, Rank, Of: by their contracts.
-/
import Derived.Test.YtmbicnjciddcmacPulseSnd
import Derived.Test.YtmbicnjciddcmacCount
namespace Go.Proofs.Ytmbicnjciddcmac.Pls
open Go.RowKit
open Go.Proofs.Ytmbicnjciddcmac.Tre Go.Proofs.Ytmbicnjciddcmac.Lap Go.Proofs.Ytmbicnjciddcmac.Cnt Go.Proofs.Ytmbicnjciddcmac.Mid
set_option linter.unusedVariables false

theorem rowsAfter (b L : Nat) (X : Int) (hb : b ≤ 6) (hL : L ≤ 8) (h0 : -(L : Int) ≤ X) (h1 : X ≤ L) (w : World) :
    Calls Try.prog 15 #[.int .i64 X, .int .i64 b, .int .i64 L] w fun e w' => e = .returned (.int .i64 (V (L - X.natAbs) b)) ∧ Below w.heap.size w w' := by
  have hD := hide (dist X w (by omega) (by omega))
  obtain ⟨K, hK⟩ : ∃ K, L - X.natAbs = K := ⟨_, rfl⟩
  obtain ⟨d, hd⟩ : ∃ d, X.natAbs = d := ⟨_, rfl⟩
  have hsub : (L : Int) - (d : Int) = (K : Int) := by omega
  have hK8 : K ≤ 8 := by omega
  rw [hK]
  rw [hd] at hD
  clear hK hd h0 h1
  go_enter Try.func15, Try.ntmps15
  go_wp2_with fail
  refine (unhide hD).mono ?_
  rintro e w1 ⟨rfl, rfl⟩
  go_wp2_with fail
  refine (of_ok b K hb hK8 w).mono ?_
  rintro e w2 ⟨rfl, hb2⟩
  go_wp2
  go_ret
  exact ⟨rfl, hb2⟩

set_option maxHeartbeats 4000000 in
theorem numberAt (r : Int) (b L : Nat) (hb : b ≤ 5) (hL : L ≤ 8) (h0 : 0 ≤ r) (h9 : r ≤ 20256) (h1 : Hid (r < V L (b + 1))) (w : World) :
    Calls Try.prog 20 #[.int .i64 r, .int .i64 b, .int .i64 L] w fun e w' => ∃ s : Nat, e = .returned (.tuple #[.int .i64 ((s : Int) - (L : Int)), .int .i64 (ahead b L s)]) ∧ s ≤ 2 * L ∧ Hid (ahead b L s ≤ r ∧ r < ahead b L (s + 1)) ∧ Below w.heap.size w w' := by
  go_enter Try.func20, Try.ntmps20
  go_wp2
  go_loopw [7, 12] (fun v i wr => ∃ (s : Nat) (A : Int), s ≤ 2 * L ∧ i = .int .i64 s ∧ v = .int .i64 A ∧ Hid (A = ahead b L s) ∧ A ≤ r ∧ Below w.heap.size w wr) (fun _ i _ => 2 * L - (intOf i).toNat)
  case atStart => exact ⟨0, 0, Nat.zero_le _, rfl, rfl, rfl, h0, Below.refl _ _⟩
  case round =>
    obtain ⟨s, A, hs, rfl, rfl, HA, hA, hB⟩ := hrel
    have hin := ahead_in (m := b) (L := L) (s := s) (by omega) (by omega) (by omega)
    rw [← unhide HA] at hin
    obtain ⟨a0, a1⟩ := hin
    by_cases hlt : s < 2 * L
    · obtain ⟨X, hX⟩ : ∃ X, (s : Int) - (L : Int) = X := ⟨_, rfl⟩
      have hx0 : -(L : Int) ≤ X := by omega
      have hx1 : X ≤ L := by omega
      have hR := hide (rowsAfter b L X (by omega) hL hx0 hx1 wr)
      obtain ⟨r0, r1⟩ := rows_in (m := b) (L := L) (s := s) (by omega) (by omega)
      have HR : Hid (V (L - X.natAbs) b = rows b L s) := hide (by rw [← hX]; rfl)
      rw [unhide HR] at hR
      have HS := hide (ahead_succ b L s)
      obtain ⟨Q, hQ⟩ : ∃ Q, rows b L s = Q := ⟨_, rfl⟩
      rw [hQ] at r0 r1 hR HS
      rw [← unhide HA] at HS
      clear hQ HR
      have HX := hide hX
      by_cases hlt2 : r < A + Q
      · have hsub : IntKind.i64.wrap ((s : Int) - (L : Int)) = X := by rw [IntWalk.i64_in _ (by omega)]; exact hX
        clear hX
        go_wp2_with fail
        refine (unhide hR).mono ?_
        rintro e w1 ⟨rfl, hb1⟩
        go_wp2
        go_ret2
        refine ⟨s, ?_, hs, ?_, hB.trans (hb1.mono hB.size)⟩
        · rw [unhide HX, unhide HA]; rfl
        · show _ ∧ _
          rw [unhide HS, ← unhide HA]
          exact ⟨hA, hlt2⟩
      · have hle : A + Q ≤ r := by omega
        have hsub : IntKind.i64.wrap ((s : Int) - (L : Int)) = X := by rw [IntWalk.i64_in _ (by omega)]; exact hX
        clear hX
        go_wp2_with fail
        refine (unhide hR).mono ?_
        rintro e w1 ⟨rfl, hb1⟩
        go_wp2
        go_roundw
        case rel => exact ⟨s + 1, A + Q, by omega, by go_num, by go_num, (unhide HS).symm, hle, hB.trans (hb1.mono hB.size)⟩
        case measure => simp [intOf]; omega
    · obtain rfl : s = 2 * L := by omega
      have hsub : ((2 * L : Nat) : Int) - (L : Int) = (L : Int) := by omega
      have HE : Hid (ahead b L (2 * L) ≤ r ∧ r < ahead b L (2 * L + 1)) := hide ⟨by rw [← unhide HA]; exact hA, by rw [ahead_all (by omega) (by omega)]; exact unhide h1⟩
      have HU := hide hsub
      clear hsub
      go_wp2
      go_ret2
      refine ⟨2 * L, ?_, Nat.le_refl _, HE, hB⟩
      rw [unhide HU, unhide HA]; rfl

/-- The fault of a row: 0 where there is none. -/
def fault (l : List Int) : Int := if 6 < l.length then 4 else if l.any (out 8) = true then 1 else if 8 < loud l then 4 else 0
theorem fault_ok {l : List Int} (h : fault l = 0) : l.length ≤ 6 ∧ In 8 l ∧ loud l ≤ 8 := by
  unfold fault at h
  split at h
  · omega
  · split at h
    · omega
    · split at h
      · omega
      · rename_i h1 h2 h3
        exact ⟨by omega, in_of_any (by simpa using h2), by omega⟩
theorem fault_none {l : List Int} (h1 : l.length ≤ 6) (h2 : In 8 l) (h3 : loud l ≤ 8) : fault l = 0 := by
  unfold fault
  rw [if_neg (by omega), if_neg (by rw [any_of_in h2]; simp), if_neg (by omega)]
theorem loud_all {b : Int} {l : List Int} (h : (loud l : Int) ≤ b) : In b l := by
  intro n hn
  induction l with
  | nil => cases hn
  | cons x r ih =>
    simp only [loud] at h
    rcases List.mem_cons.1 hn with rfl | hn'
    · omega
    · exact ih (by omega) hn'
theorem is_right {n k : Nat} {rank : Int} {l : List Int} (hn : n ≤ 6) (hk : k ≤ 8) (h : Is n k rank l) : fault l = 0 := by
  obtain ⟨rfl, rfl, _⟩ := h
  exact fault_none hn (loud_all (by omega)) hk

set_option maxHeartbeats 1000000 in
theorem check_ok (a : Option Addr) (cap : Nat) (l : List Int) (w : World) (hr : Row w a l) (h : Hid (fault l = 0)) :
    Calls Try.prog 9 #[.slice a l.length cap] w fun e w' => e = .returned (.tuple #[.int .i64 (loud l : Int), .nilIface]) ∧ Below w.heap.size w w' := by
  obtain ⟨h1, h2, h3⟩ := fault_ok (unhide h)
  have hb1 : Below w.heap.size w (w.alloc (.cells #[.int .i64 8] 3)) := (Below.refl _ _).alloc (Nat.le_refl _) _
  have HA := hide (any_of_in h2)
  have hr1 := hr.below hb1
  have hL := hide (loud_ok a cap l (w.alloc (.cells #[.int .i64 8] 3)) (by omega) (h2.mono (by omega)) hr1)
  obtain ⟨k, hk⟩ : ∃ k, loud l = k := ⟨_, rfl⟩
  rw [hk] at hL h3 ⊢
  clear hk
  go_enter Try.func9, Try.ntmps9
  go_wp2_with fail
  refine (beyond 8 w).mono ?_
  rintro e w1 ⟨rfl, rfl⟩
  go_wp2_with fail
  refine (containsFunc 8 a cap l w.heap.size (w.alloc (.cells #[.int .i64 8] 3)) (by omega) (by omega) (by omega) hr1 (boxed_cell w 8 3)).mono ?_
  rw [unhide HA]
  rintro e w1 ⟨rfl, rfl⟩
  go_wp2_with fail
  refine (unhide hL).mono ?_
  rintro e w2 ⟨rfl, hb2⟩
  go_wp2
  go_ret2
  exact ⟨rfl, Below.chain hb1 hb2⟩

set_option maxHeartbeats 1000000 in
theorem check_no (a : Option Addr) (cap : Nat) (l : List Int) (w : World) (hl : l.length ≤ 9223372036854775807) (hr : Row w a l) (h : Hid (fault l ≠ 0)) :
    Calls Try.prog 9 #[.slice a l.length cap] w fun e w' => e = .returned (.tuple #[.int .i64 0, .iface 33 (.int .i64 (fault l))]) ∧ Below w.heap.size w w' := by
  by_cases h1 : 6 < l.length
  · have hv : fault l = 4 := by unfold fault; rw [if_pos h1]
    rw [hv]
    clear hv h
    go_enter Try.func9, Try.ntmps9
    go_wp2
    go_ret2
    exact ⟨rfl, Below.refl _ _⟩
  · have hb1 : Below w.heap.size w (w.alloc (.cells #[.int .i64 8] 3)) := (Below.refl _ _).alloc (Nat.le_refl _) _
    have hr1 := hr.below hb1
    cases hany : l.any (out 8)
    · have h2 : In 8 l := in_of_any hany
      have hk : 8 < loud l := by
        rcases Nat.lt_or_ge 8 (loud l) with h' | h'
        · exact h'
        · exact absurd (fault_none (by omega) h2 h') (unhide h)
      have hv : fault l = 4 := by unfold fault; rw [if_neg h1, hany, if_neg (by simp), if_pos hk]
      rw [hv]
      have HA := hide hany
      have hle := loud_in (b := 8) h2
      have hL := hide (loud_ok a cap l (w.alloc (.cells #[.int .i64 8] 3)) (by omega) (h2.mono (by omega)) hr1)
      have hl6 : loud l ≤ 48 := by omega
      obtain ⟨k, hk'⟩ : ∃ k, loud l = k := ⟨_, rfl⟩
      rw [hk'] at hL hk hl6
      clear hv h hany hk' hle h2
      go_enter Try.func9, Try.ntmps9
      go_wp2_with fail
      refine (beyond 8 w).mono ?_
      rintro e w1 ⟨rfl, rfl⟩
      go_wp2_with fail
      refine (containsFunc 8 a cap l w.heap.size (w.alloc (.cells #[.int .i64 8] 3)) (by omega) (by omega) (by omega) hr1 (boxed_cell w 8 3)).mono ?_
      rw [unhide HA]
      rintro e w1 ⟨rfl, rfl⟩
      go_wp2_with fail
      refine (unhide hL).mono ?_
      rintro e w2 ⟨rfl, hb2⟩
      go_wp2
      go_ret2
      exact ⟨rfl, Below.chain hb1 hb2⟩
    · have hv : fault l = 1 := by unfold fault; rw [if_neg h1, hany, if_pos rfl]
      rw [hv]
      have HA := hide hany
      clear hv h hany
      go_enter Try.func9, Try.ntmps9
      go_wp2_with fail
      refine (beyond 8 w).mono ?_
      rintro e w1 ⟨rfl, rfl⟩
      go_wp2_with fail
      refine (containsFunc 8 a cap l w.heap.size (w.alloc (.cells #[.int .i64 8] 3)) (by omega) (by omega) (by omega) hr1 (boxed_cell w 8 3)).mono ?_
      rw [unhide HA]
      rintro e w1 ⟨rfl, rfl⟩
      go_wp2
      go_ret2
      exact ⟨rfl, hb1⟩

theorem rank_no (a : Option Addr) (cap : Nat) (l : List Int) (w : World) (hl : l.length ≤ 9223372036854775807) (hr : Row w a l) (h : Hid (fault l ≠ 0)) :
    Calls Try.prog 8 #[.slice a l.length cap] w fun e w' => e = .returned (.tuple #[.int .i64 0, .iface 33 (.int .i64 (fault l))]) ∧ Below w.heap.size w w' := by
  go_enter Try.func8, Try.ntmps8
  go_wp2_with fail
  refine (check_no a cap l w hl hr h).mono ?_
  rintro e w1 ⟨rfl, hb1⟩
  go_wp2
  go_ret2
  exact ⟨rfl, hb1⟩

end Go.Proofs.Ytmbicnjciddcmac.Pls
