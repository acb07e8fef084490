/-
  slices.SortStableFunc at a few places, near.greatestFirst: by their contracts.
-/
import Derived.Test.YtjnmogmagngenadDoorNearIns
namespace Go.Proofs.YtjnmogmagngenadDoor.Nea
open Go.RowKit
open Go.Proofs.YtjnmogmagngenadDoor.Tre Go.Proofs.YtjnmogmagngenadDoor.Lap Go.Proofs.YtjnmogmagngenadDoor.Pls Go.Proofs.YtjnmogmagngenadDoor.Mid
set_option linter.unusedVariables false

set_option maxRecDepth 100000 in
set_option maxHeartbeats 4000000 in
theorem stable (P c n B : Nat) (r : Nat → Nat) (W w : World) (hn : n ≤ 6) (h0 : 0 < n) (hbx : Hid (Boxed W B r n)) (hB0 : Below W.heap.size W w) (hv : Has w W.heap.size (.slice (some ⟨P, 0, none⟩) n c) (upto (fun t => (t : Int)) n)) :
    Calls Tryd.prog 64 #[.slice (some ⟨P, 0, none⟩) n c, .int .i64 n, .func (.func 57) #[] #[.pointer (some ⟨B, 0, none⟩)]] w
      fun e w' => e = .returned (.tuple #[]) ∧ ∃ s : Nat → Nat, Has w' W.heap.size (.slice (some ⟨P, 0, none⟩) n c) (upto (fun t => (s t : Int)) n) ∧ Hid (Ins r s n n) ∧ Below W.heap.size W w' := by
  have h20 : ¬ (20 : Int) ≤ (n : Int) := by omega
  have h20' : ¬ (20 : Int) < (n : Int) := by omega
  go_enter Tryd.func64, Tryd.ntmps64
  go_wp2
  go_loopw [7, 8] (fun a b wr => a = .int .i64 0 ∧ b = .int .i64 20 ∧ wr = w) (fun _ _ _ => 0)
  case atStart => exact ⟨rfl, rfl, rfl⟩
  case round =>
    obtain ⟨rfl, rfl, rfl⟩ := hrel
    go_wp2_with fail
    refine (insertion P c n B r W _ hn h0 (unhide hbx) hB0 hv).mono ?_
    rintro e w1 ⟨rfl, s, hs, HI, hB⟩
    go_wp2
    go_loopw [6] (fun b wr => b = .int .i64 20 ∧ wr = w1) (fun _ _ => 0)
    case atStart => exact ⟨rfl, rfl⟩
    case round =>
      obtain ⟨rfl, rfl⟩ := hrel
      go_wp2
      go_end0
      exact ⟨rfl, s, hs, HI, hB⟩

theorem sortStable (P c n B : Nat) (r : Nat → Nat) (W w : World) (hn : n ≤ 6) (h0 : 0 < n) (hbx : Hid (Boxed W B r n)) (hB0 : Below W.heap.size W w) (hv : Has w W.heap.size (.slice (some ⟨P, 0, none⟩) n c) (upto (fun t => (t : Int)) n)) :
    Calls Tryd.prog 56 #[.slice (some ⟨P, 0, none⟩) n c, .func (.func 57) #[] #[.pointer (some ⟨B, 0, none⟩)]] w
      fun e w' => e = .returned (.tuple #[]) ∧ ∃ s : Nat → Nat, Has w' W.heap.size (.slice (some ⟨P, 0, none⟩) n c) (upto (fun t => (s t : Int)) n) ∧ Hid (Ins r s n n) ∧ Below W.heap.size W w' := by
  go_enter Tryd.func56, Tryd.ntmps56
  go_wp2_with fail
  refine (stable P c n B r W w hn h0 hbx hB0 hv).mono ?_
  rintro e w1 ⟨rfl, s, hs, HI, hB⟩
  go_wp2
  go_end0
  exact ⟨rfl, s, hs, HI, hB⟩

theorem boxed_new {w : World} {a : Option Addr} {n c : Nat} {r : Nat → Nat} (h0 : 0 < n) (hr : Row w a (upto (fun i => (r i : Int)) n)) : Boxed (w.alloc (.cells #[.slice a n c] 22)) w.heap.size r n := by
  have hb1 : Below w.heap.size w (w.alloc (.cells #[.slice a n c] 22)) := (Below.refl _ _).alloc (Nat.le_refl _) _
  obtain ⟨b, off, rfl, hb, hc⟩ := Mid.row_cell (hr.below hb1) (by rw [upto_length]; exact h0)
  refine ⟨b, off, c, by rw [World.cell?_alloc_at _ _ _ _ rfl]; rfl, by simp, hb, fun i hi => ?_⟩
  rw [hc i (by rw [upto_length]; exact hi), upto_at _ hi]

set_option maxRecDepth 100000 in
set_option maxHeartbeats 4000000 in
theorem first (a : Option Addr) (n c : Nat) (r : Nat → Nat) (w : World) (hn : n ≤ 6) (h0 : 0 < n) (hr : Row w a (upto (fun i => (r i : Int)) n)) :
    Calls Tryd.prog 42 #[.slice a n c] w
      fun e w' => ∃ (v : Value) (s : Nat → Nat), e = .returned v ∧ Has w' w.heap.size v (upto (fun t => (s t : Int)) n) ∧ Hid (Ins r s n n) ∧ Below w.heap.size w w' := by
  have hmf : ∀ (fn : Fn) (first cap : Array Value) (w : World), (Instr.makeFunc fn first cap).run Tryd.prog w = .ok (.func fn first cap) w := fun _ _ _ _ => rfl
  have HBX := hide (boxed_new (c := c) h0 hr)
  have hb1 : Below w.heap.size w (w.alloc (.cells #[.slice a n c] 22)) := (Below.refl _ _).alloc (Nat.le_refl _) _
  go_enter Tryd.func42, Tryd.ntmps42
  go_wp2_with (at_make; refine wpList_mk _ rfl _ rfl n rfl (by omega) ?_; intro w2 hv2 hb2)
  have hsz : (w.alloc (.cells #[.slice a n c] 22)).heap.size = w.heap.size + 1 := by simp
  obtain ⟨W, hW⟩ : ∃ W, w.alloc (.cells #[.slice a n c] 22) = W := ⟨_, rfl⟩
  rw [hW] at HBX hb1 hv2 hb2 hsz
  obtain ⟨P, hP⟩ : ∃ P, w.heap.size + 1 = P := ⟨_, rfl⟩
  rw [hsz, hP] at hv2 hb2
  rw [hP] at hsz
  rw [hP]
  have hPw : w.heap.size ≤ P := by omega
  have HS := hide hsz
  rw [← unhide HS] at hb2
  clear hsz hW hP
  go_loopw [10] (fun i wr => ∃ j : Nat, j ≤ n ∧ i = .int .i64 j ∧ Has wr P (.slice (some ⟨P, 0, none⟩) n n) (mid (fun t => (t : Int)) (fun _ => 0) n j) ∧ Hid (Below P W wr)) (fun i _ => n - (intOf i).toNat)
  case atStart => exact ⟨0, Nat.zero_le _, rfl, by rw [mid_zero]; exact hv2, hide (by rw [← unhide HS]; exact hb2)⟩
  case round =>
    obtain ⟨j, hj, rfl, hs, hB⟩ := hrel
    clear hv2 hb2
    by_cases hlt : j < n
    · have hcl := hs.get (j := j) (by rw [mid_length]; exact hlt)
      rw [mid_at _ _ hlt] at hcl
      have hfz := hs.frozen j
      obtain ⟨m1, m2, m3⟩ := Mid.put_mid hs hlt (show ((j : Int)) = (j : Int) from rfl) 0
      go_wp2
      go_roundw
      case rel => exact ⟨j + 1, by omega, by go_num, m1, hide (m3 _ (unhide hB) (Nat.le_refl _))⟩
      case measure => simp [intOf]; omega
    · obtain rfl : j = n := by omega
      rw [mid_all] at hs
      have hs1 : Has wr W.heap.size (.slice (some ⟨P, 0, none⟩) j j) (upto (fun t => (t : Int)) j) := by rw [unhide HS]; exact hs
      have hB1 : Hid (Below W.heap.size W wr) := hide (by rw [unhide HS]; exact unhide hB)
      clear hs hB
      go_wp2_with fail
      refine (sortStable P j j w.heap.size r W wr hn h0 HBX (unhide hB1) hs1).mono ?_
      rintro e w3 ⟨rfl, s, hs3, HI, hB3⟩
      go_wp2
      go_ret
      exact ⟨_, s, rfl, hs3.mono (by rw [unhide HS]; exact hPw), HI, Below.chain hb1 hB3⟩

end Go.Proofs.YtjnmogmagngenadDoor.Nea
