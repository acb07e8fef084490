/-
  slices.Repeat of one number, seven times: by its contract.
-/
import Derived.Test.YtjnmogmagngenaeCpy
import Derived.Test.YtjnmogmagngenaeOwnStep
import Derived.Deep.RegionLaw
import Derived.Deep.WholeRow
namespace Go.Proofs.Ytjnmogmagngenae.Cnt
open Go.RowKit
set_option linter.unusedVariables false

theorem mul64 (w : World) :
    Calls Try.prog 82 #[.int .u64 1, .int .u64 7] w fun e w' => e = .returned (.tuple #[.int .u64 0, .int .u64 7]) ∧ w = w' := by
  have b1 : bits .and .u64 1 4294967295 = 1 := by decide
  have b7 : bits .and .u64 7 4294967295 = 7 := by decide
  have b0 : bits .and .u64 0 4294967295 = 0 := by decide
  go_enter Try.func82, Try.ntmps82
  go_wp2
  go_ret2
  exact ⟨rfl, rfl⟩

theorem mul (w : World) :
    Calls Try.prog 78 #[.int .u64 1, .int .u64 7] w fun e w' => e = .returned (.tuple #[.int .u64 0, .int .u64 7]) ∧ w = w' := by
  go_enter Try.func78, Try.ntmps78
  go_wp2_with fail
  refine (mul64 w).mono ?_
  rintro e w' ⟨rfl, rfl⟩
  go_wp2
  go_ret2
  exact ⟨rfl, rfl⟩

/-- j ones, and zeros behind them: seven together. -/
def ones (j : Nat) : List Value := (List.replicate j (1 : Int) ++ List.replicate (7 - j) 0).map (Value.int .i64)

theorem has_ones {w w' : World} (h : w'.heap[w.heap.size]? = some (.cells (ones 7).toArray 3 (0, 0))) : Has w' w.heap.size (.slice (some ⟨w.heap.size, 0, none⟩) 7 7) (List.replicate 7 1) := by
  refine ⟨by rfl, .inr ⟨w.heap.size, 7, _, rfl, Nat.le_refl _, h, by decide, by decide, by rfl, by rfl⟩⟩
theorem ones_at {w' : World} {g : Nat} {j k : Nat} {v : Value} (h : w'.heap[g]? = some (.cells (ones k).toArray 3 (0, 0))) (hv : (ones k)[j]? = some v) : w'.cell? ((⟨g, 0, none⟩ : Addr).add j) = some v := by
  rw [addr_plain, Nat.zero_add]
  simp [World.cell?, h, hv]
theorem ones_sub {j m k : Nat} {v : Value} (hm : m ≤ k) (h : ((List.replicate m (1 : Int)).map (Value.int .i64))[j]? = some v) : (ones k)[j]? = some v := by
  have hj : j < m := by
    rcases Nat.lt_or_ge j m with h' | h'
    · exact h'
    · rw [List.getElem?_eq_none (by simpa using h')] at h; cases h
  unfold ones
  rw [List.map_append, List.getElem?_append_left (by simp; omega)]
  simp only [List.map_replicate, List.getElem?_replicate] at h ⊢
  rw [if_pos hj] at h
  rw [if_pos (by omega)]
  exact h
theorem ones_one {m : Nat} : ∀ v ∈ (List.replicate m (1 : Int)).map (Value.int .i64), v.oneCell' = true := by
  intro v hv
  obtain ⟨z, _, rfl⟩ := List.mem_map.1 hv
  rfl

theorem first_copy (w : World) (b off cap : Nat) (hr : Row w (some ⟨b, off, none⟩) [1]) (ty : TypeId) :
    (Builtin.copy_ #[27, 27] ty #[.slice (some ⟨w.heap.size, 0, none⟩) 7 7, .slice (some ⟨b, off, none⟩) 1 cap]).run Try.prog (w.alloc (.cells (ones 0).toArray 3)) = .ok (.int .i64 1) (w.alloc (.cells (ones 1).toArray 3)) := by
  obtain ⟨b', off', e, hb, hc⟩ := hr.at (k := 0) (by decide)
  cases e
  have hrun := run_copy_row (P := Try.prog) (w.alloc (.cells (ones 0).toArray 3)) 27 27 ty 3 w.heap.size 0 7 7 ⟨b, off, none⟩ 1 cap (ones 0).toArray 3 [.int .i64 1] Try.underlying27 size_int (heap_alloc_new _ _) rfl
    (by
      intro j v hv
      cases j with
      | succ j => cases hv
      | zero =>
        rw [addr_plain, World.cell?_alloc_past _ _ _ hb, hc 0 (by decide)]
        exact hv) (by decide) (by intro v hv; rw [List.mem_singleton.1 hv]; rfl)
  rw [World.setRow_alloc_new] at hrun
  exact hrun

theorem splice_ones : splice (ones 1) 1 ((List.replicate 1 (1 : Int)).map (Value.int .i64)) = ones 2 ∧ splice (ones 2) 2 ((List.replicate 2 (1 : Int)).map (Value.int .i64)) = ones 4 ∧ splice (ones 4) 4 ((List.replicate 3 (1 : Int)).map (Value.int .i64)) = ones 7 := ⟨rfl, rfl, rfl⟩

set_option maxHeartbeats 4000000 in
theorem repeat7 (a : Option Addr) (cap : Nat) (w : World) (hr : Row w a [1]) :
    Calls Try.prog 71 #[.slice a 1 cap, .int .i64 7] w fun e w' => ∃ v, e = .returned v ∧ Has w' w.heap.size v (List.replicate 7 1) ∧ Below w.heap.size w w' := by
  obtain ⟨b, off, rfl, hb, hc⟩ := hr.at (k := 0) (by decide)
  have hmk : ∀ w, (Instr.makeSlice 27 (.int .i64 7) (.int .i64 7)).run Try.prog w = .ok (.slice (some ⟨w.heap.size, 0, none⟩) 7 7) (w.alloc (.cells (ones 0).toArray 3)) := fun _ => by kernel_rfl
  have hcp := first_copy w b off cap hr 3
  have hnew : Hid ((w.alloc (.cells (ones 1).toArray 3)).heap[w.heap.size]? = some (.cells (ones 1).toArray 3 (0, 0))) := hide (heap_alloc_new _ _)
  have hbA : Below w.heap.size w (w.alloc (.cells (ones 1).toArray 3)) := (Below.refl _ _).alloc (Nat.le_refl _) _
  obtain ⟨sp1, sp2, sp4⟩ := splice_ones
  have hs1 := hide sp1
  have hs2 := hide sp2
  have hs4 := hide sp4
  clear sp1 sp2 sp4
  clear hc
  go_enter Try.func71, Try.ntmps71
  go_wp2_with fail
  refine (mul w).mono ?_
  rintro e w' ⟨rfl, rfl⟩
  go_wp2
  go_loopw [8] (fun n wr => ∃ j : Nat, (j = 1 ∨ j = 2 ∨ j = 4 ∨ j = 7) ∧ n = .int .i64 j ∧ Hid (wr.heap[w.heap.size]? = some (.cells (ones j).toArray 3 (0, 0))) ∧ Below w.heap.size w wr) (fun n _ => 7 - (intOf n).toNat)
  case atStart => exact ⟨1, Or.inl rfl, rfl, hnew, hbA⟩
  case round =>
    obtain ⟨j, hj, rfl, H, hB⟩ := hrel
    have hBd : Below w.heap.size w wr.drew := hB.trans ⟨rfl, rfl, rfl, Nat.le_refl _, fun _ _ => rfl⟩
    rcases hj with rfl | rfl | rfl | rfl
    · go_wp2
      go_region_law (refine step_copy_splice rfl (.tmp 41) (.tmp 44) 27 27 rfl 3 Try.underlying27 size_int (some ⟨w.heap.size, 1, none⟩) (some ⟨w.heap.size, 0, none⟩) 6 6 1 7 (by simp [Act.eval, Act.put]) (by simp [Act.eval, Act.put]) w.heap.size 1 (ones 1) 3 (unhide H) ((List.replicate 1 (1 : Int)).map (Value.int .i64)) rfl (fun _ => ⟨rfl, _, rfl, fun j v hv => ones_at (unhide H) (ones_sub (by decide) hv)⟩) (by decide) ones_one w.heap.size w hBd (Nat.le_refl _) ?_; intro w4 hg4 hb4)
      go_wp2
      go_roundw
      case rel => ((repeat apply Exists.intro); exact ⟨⟨2, Or.inr (Or.inl rfl), rfl, by rw [← unhide hs1]; exact hg4, hb4⟩, rfl⟩)
      case measure => (simp [intOf, Act.put]; decide)
    · go_wp2
      go_region_law (refine step_copy_splice rfl (.tmp 41) (.tmp 44) 27 27 rfl 3 Try.underlying27 size_int (some ⟨w.heap.size, 2, none⟩) (some ⟨w.heap.size, 0, none⟩) 5 5 2 7 (by simp [Act.eval, Act.put]) (by simp [Act.eval, Act.put]) w.heap.size 2 (ones 2) 3 (unhide H) ((List.replicate 2 (1 : Int)).map (Value.int .i64)) rfl (fun _ => ⟨rfl, _, rfl, fun j v hv => ones_at (unhide H) (ones_sub (by decide) hv)⟩) (by decide) ones_one w.heap.size w hBd (Nat.le_refl _) ?_; intro w4 hg4 hb4)
      go_wp2
      go_roundw
      case rel => ((repeat apply Exists.intro); exact ⟨⟨4, Or.inr (Or.inr (Or.inl rfl)), rfl, by rw [← unhide hs2]; exact hg4, hb4⟩, rfl⟩)
      case measure => (simp [intOf, Act.put]; decide)
    · go_wp2
      go_region_law (refine step_copy_splice rfl (.tmp 41) (.tmp 44) 27 27 rfl 3 Try.underlying27 size_int (some ⟨w.heap.size, 4, none⟩) (some ⟨w.heap.size, 0, none⟩) 3 3 4 7 (by simp [Act.eval, Act.put]) (by simp [Act.eval, Act.put]) w.heap.size 4 (ones 4) 3 (unhide H) ((List.replicate 3 (1 : Int)).map (Value.int .i64)) rfl (fun _ => ⟨rfl, _, rfl, fun j v hv => ones_at (unhide H) (ones_sub (by decide) hv)⟩) (by decide) ones_one w.heap.size w hBd (Nat.le_refl _) ?_; intro w4 hg4 hb4)
      go_wp2
      go_roundw
      case rel => ((repeat apply Exists.intro); exact ⟨⟨7, Or.inr (Or.inr (Or.inr rfl)), rfl, by rw [← unhide hs4]; exact hg4, hb4⟩, rfl⟩)
      case measure => (simp [intOf, Act.put]; decide)
    · go_wp2
      go_ret
      exact ⟨_, rfl, has_ones (unhide H), hB⟩

end Go.Proofs.Ytjnmogmagngenae.Cnt
