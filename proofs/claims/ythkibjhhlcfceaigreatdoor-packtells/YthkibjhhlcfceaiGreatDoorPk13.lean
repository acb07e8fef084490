/-
  copy onto a slice of integers that this call has made itself.
-/
import Derived.Test.YthkibjhhlcfceaiGreatDoorPk02
import Derived.Laws.CopyOwn
import Derived.Deep.RegionLaw
import Derived.Deep.WholeRow
import Derived.Test.YthkibjhhlcfceaiGreatDoorPk01
import Derived.Deep.QuietTactic
import Derived.BigQuiet
namespace Go.Proofs.YthkibjhhlcfceaiGreatDoor
open Go.RowKit
set_option linter.unusedVariables false

theorem size_int : (Tryz.prog.info? 3).map (·.size) = some 1 := by kernel_rfl

set_option maxRecDepth 100000 in
theorem run_cpy (w : World) (base : Nat) (v : Value) (L m : List Int) (ty : TypeId) (hv : Has w base v L) (ad : Option Addr) (cap : Nat) (hr : Row w ad m) (hle : m.length ≤ L.length) :
    ∃ w', (Builtin.copy_ #[22, 22] ty #[v, .slice ad m.length cap]).run Tryz.prog w = .ok (goInt m.length) w' ∧ Has w' base v (m ++ L.drop m.length) ∧ w.grownBy w' v.ownBlock := by
  by_cases hm : m = []
  · subst hm
    obtain ⟨a, c, rfl, _⟩ := hv.row
    exact ⟨w, run_copy_none w _ _ _ 3 _ _ _ _ _ _ Tryz.underlying22 size_int (Nat.min_eq_left (Nat.zero_le _)), by simpa using hv, World.grownBy.refl _ _⟩
  · have hm0 : 0 < m.length := List.length_pos_iff.2 hm
    obtain ⟨b, off, rfl, hb, hcs⟩ := hr.at hm0
    have hlen : L.length = (L.map (Value.int .i64)).length := by simp
    rcases hv.2 with ⟨_, h0⟩ | ⟨g, gcap, cur, rfl, hbg, hg, hnc, hcm, hsz, htake⟩
    · omega
    · have hc : ∀ (j : Nat) (u : Value), (m.map (Value.int .i64))[j]? = some u → w.cell? ((⟨b, off, none⟩ : Addr).add j) = some u := by
        intro j u hu
        have hj : j < m.length := by
          rcases Nat.lt_or_ge j m.length with h | h
          · exact h
          · rw [List.getElem?_eq_none (by simpa using h)] at hu; cases hu
        rw [addr_plain, hcs j hj]
        simp [List.getElem?_map, List.getElem?_eq_getElem hj] at hu
        simp [List.getD_eq_getElem?_getD, List.getElem?_eq_getElem hj, hu]
      have hrun := run_copy_row (P := Tryz.prog) w 22 22 ty 3 g 0 L.length gcap ⟨b, off, none⟩ m.length cap cur 3 (m.map (Value.int .i64)) Tryz.underlying22 size_int hg (by rw [List.length_map]; exact (Nat.min_eq_left hle).symm) hc
        (by rw [List.length_map]; omega) (by intro u hu; obtain ⟨z, _, rfl⟩ := List.mem_map.1 hu; rfl)
      rw [List.length_map] at hrun
      refine ⟨_, hrun, ⟨by simp, .inr ⟨g, gcap, _, ?_, hbg, setRow_heap w g cur _ 3 _ hg, ?_, hcm, ?_, ?_⟩⟩, ⟨rfl, rfl, rfl, by simp [World.setRow], fun k _ hk => setRow_other w g k _ (fun e => hk (by simp [Value.ownBlock, e]))⟩⟩
      · congr 1; simp; omega
      · simp; omega
      · simp; omega
      · have ed : (L.map (Value.int .i64)).drop m.length = (cur.toList.drop m.length).take (L.length - m.length) := by
          rw [← htake, Nat.mul_one, List.drop_take]
        have el : (m ++ L.drop m.length).length = m.length + (L.length - m.length) := by simp
        rw [el, Nat.mul_one, List.map_append, List.map_drop, ed]
        simp only [List.take_zero, List.nil_append, Nat.zero_add]
        rw [List.take_append, List.take_of_length_le (by simp)]
        simp

theorem wpList_cpy {ops : Array Oper} {rest : List Oper} {o : Oper} {a : Act} {Q : Exit → Act → World → Prop} (w : World) (hgd : o.guard = none) (s x : Operand)
    (ho : o.op = .call { callee := .builtin .copy, args := #[s, x], argTypes := #[22, 22] }) (base : Nat) (v : Value) (L m : List Int) (ad : Option Addr) (cap : Nat) (hs : a.eval s = v) (hv : Has w base v L)
    (hx : a.eval x = .slice ad m.length cap) (hr : Row w ad m) (hle : m.length ≤ L.length)
    (h : ∀ w', Has w' base v (m ++ L.drop m.length) → w.grownBy w' v.ownBlock → wpList Tryz.prog ops Q rest (a.put o.dst (goInt m.length)) w') :
    wpList Tryz.prog ops Q (o :: rest) a w := by
  refine wpList_plain hgd fun K hK => ?_
  obtain ⟨w', hrun, h2, h3⟩ := run_cpy w base v L m o.type hv ad cap hr hle
  unfold Oper.wp
  simp [execOp, ho, resolve, invoke, builtin, hs, hx, hrun, Result.andThen]
  exact hK _ _ (h w' h2 h3)

end Go.Proofs.YthkibjhhlcfceaiGreatDoor

/-
  slices.Repeat of a six, so many times: by its contract.
-/
namespace Go.Proofs.YthkibjhhlcfceaiGreatDoor.Pck
open Go.RowKit
set_option linter.unusedVariables false

/-- k sixes, and zeros behind them: n together. -/
def sixes (n k : Nat) : List Value := (List.replicate k (6 : Int) ++ List.replicate (n - k) 0).map (Value.int .i64)
theorem sixes_length {n k : Nat} (h : k ≤ n) : (sixes n k).length = n := by simp [sixes]; omega
theorem has_sixes {w w' : World} {n : Nat} (h8 : n ≤ 8) (h : w'.heap[w.heap.size]? = some (.cells (sixes n n).toArray 3 (0, 0))) : Has w' w.heap.size (.slice (some ⟨w.heap.size, 0, none⟩) n n) (List.replicate n 6) := by
  refine ⟨by simp, .inr ⟨w.heap.size, n, _, by simp, Nat.le_refl _, h, by simp, by unfold maxLen; omega, by simp [sixes], by simp [sixes]⟩⟩
theorem sixes_at {w' : World} {g : Nat} {n j k : Nat} {v : Value} (h : w'.heap[g]? = some (.cells (sixes n k).toArray 3 (0, 0))) (hv : (sixes n k)[j]? = some v) : w'.cell? ((⟨g, 0, none⟩ : Addr).add j) = some v := by
  rw [addr_plain, Nat.zero_add]
  simp [World.cell?, h, hv]
theorem sixes_sub {n j m k : Nat} {v : Value} (hm : m ≤ k) (h : ((List.replicate m (6 : Int)).map (Value.int .i64))[j]? = some v) : (sixes n k)[j]? = some v := by
  have hj : j < m := by
    rcases Nat.lt_or_ge j m with h' | h'
    · exact h'
    · rw [List.getElem?_eq_none (by simpa using h')] at h; cases h
  unfold sixes
  rw [List.map_append, List.getElem?_append_left (by simp; omega)]
  simp only [List.map_replicate, List.getElem?_replicate] at h ⊢
  rw [if_pos hj] at h
  rw [if_pos (by omega)]
  exact h
theorem sixes_one {m : Nat} : ∀ v ∈ (List.replicate m (6 : Int)).map (Value.int .i64), v.oneCell' = true := by
  intro v hv
  obtain ⟨z, _, rfl⟩ := List.mem_map.1 hv
  rfl

theorem mul64_1 (w : World) :
    Calls Tryz.prog 139 #[.int .u64 1, .int .u64 1] w fun e w' => e = .returned (.tuple #[.int .u64 0, .int .u64 1]) ∧ w = w' := by
  have b1 : bits .and .u64 1 4294967295 = 1 := by decide
  have b7 : bits .and .u64 1 4294967295 = 1 := by decide
  have b0 : bits .and .u64 0 4294967295 = 0 := by decide
  go_enter Tryz.func139, Tryz.ntmps139
  go_wp2
  go_ret2
  exact ⟨rfl, rfl⟩
theorem mul_1 (w : World) :
    Calls Tryz.prog 119 #[.int .u64 1, .int .u64 1] w fun e w' => e = .returned (.tuple #[.int .u64 0, .int .u64 1]) ∧ w = w' := by
  go_enter Tryz.func119, Tryz.ntmps119
  go_wp2_with fail
  refine (mul64_1 w).mono ?_
  rintro e w' ⟨rfl, rfl⟩
  go_wp2
  go_ret2
  exact ⟨rfl, rfl⟩
theorem first_1 (w : World) (b off cap : Nat) (hr : Row w (some ⟨b, off, none⟩) [6]) (ty : TypeId) :
    (Builtin.copy_ #[22, 22] ty #[.slice (some ⟨w.heap.size, 0, none⟩) 1 1, .slice (some ⟨b, off, none⟩) 1 cap]).run Tryz.prog (w.alloc (.cells (sixes 1 0).toArray 3)) = .ok (.int .i64 1) (w.alloc (.cells (sixes 1 1).toArray 3)) := by
  obtain ⟨b', off', e, hb, hc⟩ := hr.at (k := 0) (by decide)
  cases e
  have hrun := run_copy_row (P := Tryz.prog) (w.alloc (.cells (sixes 1 0).toArray 3)) 22 22 ty 3 w.heap.size 0 1 1 ⟨b, off, none⟩ 1 cap (sixes 1 0).toArray 3 [.int .i64 6] Tryz.underlying22 size_int (heap_alloc_new _ _) rfl
    (by
      intro j v hv
      cases j with
      | succ j => cases hv
      | zero =>
        rw [addr_plain, World.cell?_alloc_past _ _ _ hb, hc 0 (by decide)]
        exact hv) (by decide) (by intro v hv; rw [List.mem_singleton.1 hv]; rfl)
  rw [World.setRow_alloc_new] at hrun
  exact hrun
set_option maxHeartbeats 4000000 in
theorem six_1 (a : Option Addr) (cap : Nat) (w : World) (hr : Row w a [6]) :
    Calls Tryz.prog 90 #[.slice a 1 cap, .int .i64 1] w fun e w' => ∃ v, e = .returned v ∧ Has w' w.heap.size v (List.replicate 1 6) ∧ Below w.heap.size w w' := by
  obtain ⟨b, off, rfl, hb, hc⟩ := hr.at (k := 0) (by decide)
  have hmk : ∀ w, (Instr.makeSlice 22 (.int .i64 1) (.int .i64 1)).run Tryz.prog w = .ok (.slice (some ⟨w.heap.size, 0, none⟩) 1 1) (w.alloc (.cells (sixes 1 0).toArray 3)) := fun _ => by kernel_rfl
  have hcp := first_1 w b off cap hr 3
  have hnew : Hid ((w.alloc (.cells (sixes 1 1).toArray 3)).heap[w.heap.size]? = some (.cells (sixes 1 1).toArray 3 (0, 0))) := hide (heap_alloc_new _ _)
  have hbA : Below w.heap.size w (w.alloc (.cells (sixes 1 1).toArray 3)) := (Below.refl _ _).alloc (Nat.le_refl _) _
  clear hc
  go_enter Tryz.func90, Tryz.ntmps90
  go_wp2_with fail
  refine (mul_1 w).mono ?_
  rintro e w' ⟨rfl, rfl⟩
  go_wp2
  go_loopw [8] (fun n wr => ∃ j : Nat, (j = 1) ∧ n = .int .i64 j ∧ Hid (wr.heap[w.heap.size]? = some (.cells (sixes 1 j).toArray 3 (0, 0))) ∧ Below w.heap.size w wr) (fun n _ => 1 - (intOf n).toNat)
  case atStart => exact ⟨1, rfl, rfl, hnew, hbA⟩
  case round =>
    obtain ⟨j, hj, rfl, H, hB⟩ := hrel
    have hBd : Below w.heap.size w wr.drew := hB.trans ⟨rfl, rfl, rfl, Nat.le_refl _, fun _ _ => rfl⟩
    subst hj
    · go_wp2
      go_ret
      exact ⟨_, rfl, has_sixes (by decide) (unhide H), hB⟩
theorem mul64_2 (w : World) :
    Calls Tryz.prog 139 #[.int .u64 1, .int .u64 2] w fun e w' => e = .returned (.tuple #[.int .u64 0, .int .u64 2]) ∧ w = w' := by
  have b1 : bits .and .u64 1 4294967295 = 1 := by decide
  have b7 : bits .and .u64 2 4294967295 = 2 := by decide
  have b0 : bits .and .u64 0 4294967295 = 0 := by decide
  go_enter Tryz.func139, Tryz.ntmps139
  go_wp2
  go_ret2
  exact ⟨rfl, rfl⟩
theorem mul_2 (w : World) :
    Calls Tryz.prog 119 #[.int .u64 1, .int .u64 2] w fun e w' => e = .returned (.tuple #[.int .u64 0, .int .u64 2]) ∧ w = w' := by
  go_enter Tryz.func119, Tryz.ntmps119
  go_wp2_with fail
  refine (mul64_2 w).mono ?_
  rintro e w' ⟨rfl, rfl⟩
  go_wp2
  go_ret2
  exact ⟨rfl, rfl⟩
theorem first_2 (w : World) (b off cap : Nat) (hr : Row w (some ⟨b, off, none⟩) [6]) (ty : TypeId) :
    (Builtin.copy_ #[22, 22] ty #[.slice (some ⟨w.heap.size, 0, none⟩) 2 2, .slice (some ⟨b, off, none⟩) 1 cap]).run Tryz.prog (w.alloc (.cells (sixes 2 0).toArray 3)) = .ok (.int .i64 1) (w.alloc (.cells (sixes 2 1).toArray 3)) := by
  obtain ⟨b', off', e, hb, hc⟩ := hr.at (k := 0) (by decide)
  cases e
  have hrun := run_copy_row (P := Tryz.prog) (w.alloc (.cells (sixes 2 0).toArray 3)) 22 22 ty 3 w.heap.size 0 2 2 ⟨b, off, none⟩ 1 cap (sixes 2 0).toArray 3 [.int .i64 6] Tryz.underlying22 size_int (heap_alloc_new _ _) rfl
    (by
      intro j v hv
      cases j with
      | succ j => cases hv
      | zero =>
        rw [addr_plain, World.cell?_alloc_past _ _ _ hb, hc 0 (by decide)]
        exact hv) (by decide) (by intro v hv; rw [List.mem_singleton.1 hv]; rfl)
  rw [World.setRow_alloc_new] at hrun
  exact hrun
set_option maxHeartbeats 4000000 in
theorem six_2 (a : Option Addr) (cap : Nat) (w : World) (hr : Row w a [6]) :
    Calls Tryz.prog 90 #[.slice a 1 cap, .int .i64 2] w fun e w' => ∃ v, e = .returned v ∧ Has w' w.heap.size v (List.replicate 2 6) ∧ Below w.heap.size w w' := by
  obtain ⟨b, off, rfl, hb, hc⟩ := hr.at (k := 0) (by decide)
  have hmk : ∀ w, (Instr.makeSlice 22 (.int .i64 2) (.int .i64 2)).run Tryz.prog w = .ok (.slice (some ⟨w.heap.size, 0, none⟩) 2 2) (w.alloc (.cells (sixes 2 0).toArray 3)) := fun _ => by kernel_rfl
  have hcp := first_2 w b off cap hr 3
  have hnew : Hid ((w.alloc (.cells (sixes 2 1).toArray 3)).heap[w.heap.size]? = some (.cells (sixes 2 1).toArray 3 (0, 0))) := hide (heap_alloc_new _ _)
  have hbA : Below w.heap.size w (w.alloc (.cells (sixes 2 1).toArray 3)) := (Below.refl _ _).alloc (Nat.le_refl _) _
  have hs1 : Hid (splice (sixes 2 1) 1 ((List.replicate 1 (6 : Int)).map (Value.int .i64)) = sixes 2 2) := hide rfl
  clear hc
  go_enter Tryz.func90, Tryz.ntmps90
  go_wp2_with fail
  refine (mul_2 w).mono ?_
  rintro e w' ⟨rfl, rfl⟩
  go_wp2
  go_loopw [8] (fun n wr => ∃ j : Nat, (j = 1 ∨ j = 2) ∧ n = .int .i64 j ∧ Hid (wr.heap[w.heap.size]? = some (.cells (sixes 2 j).toArray 3 (0, 0))) ∧ Below w.heap.size w wr) (fun n _ => 2 - (intOf n).toNat)
  case atStart => exact ⟨1, Or.inl rfl, rfl, hnew, hbA⟩
  case round =>
    obtain ⟨j, hj, rfl, H, hB⟩ := hrel
    have hBd : Below w.heap.size w wr.drew := hB.trans ⟨rfl, rfl, rfl, Nat.le_refl _, fun _ _ => rfl⟩
    rcases hj with rfl | rfl
    · go_wp2
      go_region_law (refine step_copy_splice rfl (.tmp 41) (.tmp 44) 22 22 rfl 3 Tryz.underlying22 size_int (some ⟨w.heap.size, 1, none⟩) (some ⟨w.heap.size, 0, none⟩) 1 1 1 2 (by simp [Act.eval, Act.put]) (by simp [Act.eval, Act.put]) w.heap.size 1 (sixes 2 1) 3 (unhide H) ((List.replicate 1 (6 : Int)).map (Value.int .i64)) rfl (fun _ => ⟨rfl, _, rfl, fun j v hv => sixes_at (unhide H) (sixes_sub (by decide) hv)⟩) (by decide) sixes_one w.heap.size w hBd (Nat.le_refl _) ?_; intro w4 hg4 hb4)
      go_wp2
      go_roundw
      case rel => ((repeat apply Exists.intro); exact ⟨⟨2, Or.inr (rfl), rfl, by rw [← unhide hs1]; exact hg4, hb4⟩, rfl⟩)
      case measure => (simp [intOf, Act.put]; decide)
    · go_wp2
      go_ret
      exact ⟨_, rfl, has_sixes (by decide) (unhide H), hB⟩
theorem mul64_3 (w : World) :
    Calls Tryz.prog 139 #[.int .u64 1, .int .u64 3] w fun e w' => e = .returned (.tuple #[.int .u64 0, .int .u64 3]) ∧ w = w' := by
  have b1 : bits .and .u64 1 4294967295 = 1 := by decide
  have b7 : bits .and .u64 3 4294967295 = 3 := by decide
  have b0 : bits .and .u64 0 4294967295 = 0 := by decide
  go_enter Tryz.func139, Tryz.ntmps139
  go_wp2
  go_ret2
  exact ⟨rfl, rfl⟩
theorem mul_3 (w : World) :
    Calls Tryz.prog 119 #[.int .u64 1, .int .u64 3] w fun e w' => e = .returned (.tuple #[.int .u64 0, .int .u64 3]) ∧ w = w' := by
  go_enter Tryz.func119, Tryz.ntmps119
  go_wp2_with fail
  refine (mul64_3 w).mono ?_
  rintro e w' ⟨rfl, rfl⟩
  go_wp2
  go_ret2
  exact ⟨rfl, rfl⟩
theorem first_3 (w : World) (b off cap : Nat) (hr : Row w (some ⟨b, off, none⟩) [6]) (ty : TypeId) :
    (Builtin.copy_ #[22, 22] ty #[.slice (some ⟨w.heap.size, 0, none⟩) 3 3, .slice (some ⟨b, off, none⟩) 1 cap]).run Tryz.prog (w.alloc (.cells (sixes 3 0).toArray 3)) = .ok (.int .i64 1) (w.alloc (.cells (sixes 3 1).toArray 3)) := by
  obtain ⟨b', off', e, hb, hc⟩ := hr.at (k := 0) (by decide)
  cases e
  have hrun := run_copy_row (P := Tryz.prog) (w.alloc (.cells (sixes 3 0).toArray 3)) 22 22 ty 3 w.heap.size 0 3 3 ⟨b, off, none⟩ 1 cap (sixes 3 0).toArray 3 [.int .i64 6] Tryz.underlying22 size_int (heap_alloc_new _ _) rfl
    (by
      intro j v hv
      cases j with
      | succ j => cases hv
      | zero =>
        rw [addr_plain, World.cell?_alloc_past _ _ _ hb, hc 0 (by decide)]
        exact hv) (by decide) (by intro v hv; rw [List.mem_singleton.1 hv]; rfl)
  rw [World.setRow_alloc_new] at hrun
  exact hrun
set_option maxHeartbeats 4000000 in
theorem six_3 (a : Option Addr) (cap : Nat) (w : World) (hr : Row w a [6]) :
    Calls Tryz.prog 90 #[.slice a 1 cap, .int .i64 3] w fun e w' => ∃ v, e = .returned v ∧ Has w' w.heap.size v (List.replicate 3 6) ∧ Below w.heap.size w w' := by
  obtain ⟨b, off, rfl, hb, hc⟩ := hr.at (k := 0) (by decide)
  have hmk : ∀ w, (Instr.makeSlice 22 (.int .i64 3) (.int .i64 3)).run Tryz.prog w = .ok (.slice (some ⟨w.heap.size, 0, none⟩) 3 3) (w.alloc (.cells (sixes 3 0).toArray 3)) := fun _ => by kernel_rfl
  have hcp := first_3 w b off cap hr 3
  have hnew : Hid ((w.alloc (.cells (sixes 3 1).toArray 3)).heap[w.heap.size]? = some (.cells (sixes 3 1).toArray 3 (0, 0))) := hide (heap_alloc_new _ _)
  have hbA : Below w.heap.size w (w.alloc (.cells (sixes 3 1).toArray 3)) := (Below.refl _ _).alloc (Nat.le_refl _) _
  have hs1 : Hid (splice (sixes 3 1) 1 ((List.replicate 1 (6 : Int)).map (Value.int .i64)) = sixes 3 2) := hide rfl
  have hs2 : Hid (splice (sixes 3 2) 2 ((List.replicate 1 (6 : Int)).map (Value.int .i64)) = sixes 3 3) := hide rfl
  clear hc
  go_enter Tryz.func90, Tryz.ntmps90
  go_wp2_with fail
  refine (mul_3 w).mono ?_
  rintro e w' ⟨rfl, rfl⟩
  go_wp2
  go_loopw [8] (fun n wr => ∃ j : Nat, (j = 1 ∨ j = 2 ∨ j = 3) ∧ n = .int .i64 j ∧ Hid (wr.heap[w.heap.size]? = some (.cells (sixes 3 j).toArray 3 (0, 0))) ∧ Below w.heap.size w wr) (fun n _ => 3 - (intOf n).toNat)
  case atStart => exact ⟨1, Or.inl rfl, rfl, hnew, hbA⟩
  case round =>
    obtain ⟨j, hj, rfl, H, hB⟩ := hrel
    have hBd : Below w.heap.size w wr.drew := hB.trans ⟨rfl, rfl, rfl, Nat.le_refl _, fun _ _ => rfl⟩
    rcases hj with rfl | rfl | rfl
    · go_wp2
      go_region_law (refine step_copy_splice rfl (.tmp 41) (.tmp 44) 22 22 rfl 3 Tryz.underlying22 size_int (some ⟨w.heap.size, 1, none⟩) (some ⟨w.heap.size, 0, none⟩) 2 2 1 3 (by simp [Act.eval, Act.put]) (by simp [Act.eval, Act.put]) w.heap.size 1 (sixes 3 1) 3 (unhide H) ((List.replicate 1 (6 : Int)).map (Value.int .i64)) rfl (fun _ => ⟨rfl, _, rfl, fun j v hv => sixes_at (unhide H) (sixes_sub (by decide) hv)⟩) (by decide) sixes_one w.heap.size w hBd (Nat.le_refl _) ?_; intro w4 hg4 hb4)
      go_wp2
      go_roundw
      case rel => ((repeat apply Exists.intro); exact ⟨⟨2, Or.inr (Or.inl rfl), rfl, by rw [← unhide hs1]; exact hg4, hb4⟩, rfl⟩)
      case measure => (simp [intOf, Act.put]; decide)
    · go_wp2
      go_region_law (refine step_copy_splice rfl (.tmp 41) (.tmp 44) 22 22 rfl 3 Tryz.underlying22 size_int (some ⟨w.heap.size, 2, none⟩) (some ⟨w.heap.size, 0, none⟩) 1 1 2 3 (by simp [Act.eval, Act.put]) (by simp [Act.eval, Act.put]) w.heap.size 2 (sixes 3 2) 3 (unhide H) ((List.replicate 1 (6 : Int)).map (Value.int .i64)) rfl (fun _ => ⟨rfl, _, rfl, fun j v hv => sixes_at (unhide H) (sixes_sub (by decide) hv)⟩) (by decide) sixes_one w.heap.size w hBd (Nat.le_refl _) ?_; intro w4 hg4 hb4)
      go_wp2
      go_roundw
      case rel => ((repeat apply Exists.intro); exact ⟨⟨3, Or.inr (Or.inr (rfl)), rfl, by rw [← unhide hs2]; exact hg4, hb4⟩, rfl⟩)
      case measure => (simp [intOf, Act.put]; decide)
    · go_wp2
      go_ret
      exact ⟨_, rfl, has_sixes (by decide) (unhide H), hB⟩
theorem mul64_4 (w : World) :
    Calls Tryz.prog 139 #[.int .u64 1, .int .u64 4] w fun e w' => e = .returned (.tuple #[.int .u64 0, .int .u64 4]) ∧ w = w' := by
  have b1 : bits .and .u64 1 4294967295 = 1 := by decide
  have b7 : bits .and .u64 4 4294967295 = 4 := by decide
  have b0 : bits .and .u64 0 4294967295 = 0 := by decide
  go_enter Tryz.func139, Tryz.ntmps139
  go_wp2
  go_ret2
  exact ⟨rfl, rfl⟩
theorem mul_4 (w : World) :
    Calls Tryz.prog 119 #[.int .u64 1, .int .u64 4] w fun e w' => e = .returned (.tuple #[.int .u64 0, .int .u64 4]) ∧ w = w' := by
  go_enter Tryz.func119, Tryz.ntmps119
  go_wp2_with fail
  refine (mul64_4 w).mono ?_
  rintro e w' ⟨rfl, rfl⟩
  go_wp2
  go_ret2
  exact ⟨rfl, rfl⟩
theorem first_4 (w : World) (b off cap : Nat) (hr : Row w (some ⟨b, off, none⟩) [6]) (ty : TypeId) :
    (Builtin.copy_ #[22, 22] ty #[.slice (some ⟨w.heap.size, 0, none⟩) 4 4, .slice (some ⟨b, off, none⟩) 1 cap]).run Tryz.prog (w.alloc (.cells (sixes 4 0).toArray 3)) = .ok (.int .i64 1) (w.alloc (.cells (sixes 4 1).toArray 3)) := by
  obtain ⟨b', off', e, hb, hc⟩ := hr.at (k := 0) (by decide)
  cases e
  have hrun := run_copy_row (P := Tryz.prog) (w.alloc (.cells (sixes 4 0).toArray 3)) 22 22 ty 3 w.heap.size 0 4 4 ⟨b, off, none⟩ 1 cap (sixes 4 0).toArray 3 [.int .i64 6] Tryz.underlying22 size_int (heap_alloc_new _ _) rfl
    (by
      intro j v hv
      cases j with
      | succ j => cases hv
      | zero =>
        rw [addr_plain, World.cell?_alloc_past _ _ _ hb, hc 0 (by decide)]
        exact hv) (by decide) (by intro v hv; rw [List.mem_singleton.1 hv]; rfl)
  rw [World.setRow_alloc_new] at hrun
  exact hrun
set_option maxHeartbeats 4000000 in
theorem six_4 (a : Option Addr) (cap : Nat) (w : World) (hr : Row w a [6]) :
    Calls Tryz.prog 90 #[.slice a 1 cap, .int .i64 4] w fun e w' => ∃ v, e = .returned v ∧ Has w' w.heap.size v (List.replicate 4 6) ∧ Below w.heap.size w w' := by
  obtain ⟨b, off, rfl, hb, hc⟩ := hr.at (k := 0) (by decide)
  have hmk : ∀ w, (Instr.makeSlice 22 (.int .i64 4) (.int .i64 4)).run Tryz.prog w = .ok (.slice (some ⟨w.heap.size, 0, none⟩) 4 4) (w.alloc (.cells (sixes 4 0).toArray 3)) := fun _ => by kernel_rfl
  have hcp := first_4 w b off cap hr 3
  have hnew : Hid ((w.alloc (.cells (sixes 4 1).toArray 3)).heap[w.heap.size]? = some (.cells (sixes 4 1).toArray 3 (0, 0))) := hide (heap_alloc_new _ _)
  have hbA : Below w.heap.size w (w.alloc (.cells (sixes 4 1).toArray 3)) := (Below.refl _ _).alloc (Nat.le_refl _) _
  have hs1 : Hid (splice (sixes 4 1) 1 ((List.replicate 1 (6 : Int)).map (Value.int .i64)) = sixes 4 2) := hide rfl
  have hs2 : Hid (splice (sixes 4 2) 2 ((List.replicate 2 (6 : Int)).map (Value.int .i64)) = sixes 4 4) := hide rfl
  clear hc
  go_enter Tryz.func90, Tryz.ntmps90
  go_wp2_with fail
  refine (mul_4 w).mono ?_
  rintro e w' ⟨rfl, rfl⟩
  go_wp2
  go_loopw [8] (fun n wr => ∃ j : Nat, (j = 1 ∨ j = 2 ∨ j = 4) ∧ n = .int .i64 j ∧ Hid (wr.heap[w.heap.size]? = some (.cells (sixes 4 j).toArray 3 (0, 0))) ∧ Below w.heap.size w wr) (fun n _ => 4 - (intOf n).toNat)
  case atStart => exact ⟨1, Or.inl rfl, rfl, hnew, hbA⟩
  case round =>
    obtain ⟨j, hj, rfl, H, hB⟩ := hrel
    have hBd : Below w.heap.size w wr.drew := hB.trans ⟨rfl, rfl, rfl, Nat.le_refl _, fun _ _ => rfl⟩
    rcases hj with rfl | rfl | rfl
    · go_wp2
      go_region_law (refine step_copy_splice rfl (.tmp 41) (.tmp 44) 22 22 rfl 3 Tryz.underlying22 size_int (some ⟨w.heap.size, 1, none⟩) (some ⟨w.heap.size, 0, none⟩) 3 3 1 4 (by simp [Act.eval, Act.put]) (by simp [Act.eval, Act.put]) w.heap.size 1 (sixes 4 1) 3 (unhide H) ((List.replicate 1 (6 : Int)).map (Value.int .i64)) rfl (fun _ => ⟨rfl, _, rfl, fun j v hv => sixes_at (unhide H) (sixes_sub (by decide) hv)⟩) (by decide) sixes_one w.heap.size w hBd (Nat.le_refl _) ?_; intro w4 hg4 hb4)
      go_wp2
      go_roundw
      case rel => ((repeat apply Exists.intro); exact ⟨⟨2, Or.inr (Or.inl rfl), rfl, by rw [← unhide hs1]; exact hg4, hb4⟩, rfl⟩)
      case measure => (simp [intOf, Act.put]; decide)
    · go_wp2
      go_region_law (refine step_copy_splice rfl (.tmp 41) (.tmp 44) 22 22 rfl 3 Tryz.underlying22 size_int (some ⟨w.heap.size, 2, none⟩) (some ⟨w.heap.size, 0, none⟩) 2 2 2 4 (by simp [Act.eval, Act.put]) (by simp [Act.eval, Act.put]) w.heap.size 2 (sixes 4 2) 3 (unhide H) ((List.replicate 2 (6 : Int)).map (Value.int .i64)) rfl (fun _ => ⟨rfl, _, rfl, fun j v hv => sixes_at (unhide H) (sixes_sub (by decide) hv)⟩) (by decide) sixes_one w.heap.size w hBd (Nat.le_refl _) ?_; intro w4 hg4 hb4)
      go_wp2
      go_roundw
      case rel => ((repeat apply Exists.intro); exact ⟨⟨4, Or.inr (Or.inr (rfl)), rfl, by rw [← unhide hs2]; exact hg4, hb4⟩, rfl⟩)
      case measure => (simp [intOf, Act.put]; decide)
    · go_wp2
      go_ret
      exact ⟨_, rfl, has_sixes (by decide) (unhide H), hB⟩
theorem mul64_5 (w : World) :
    Calls Tryz.prog 139 #[.int .u64 1, .int .u64 5] w fun e w' => e = .returned (.tuple #[.int .u64 0, .int .u64 5]) ∧ w = w' := by
  have b1 : bits .and .u64 1 4294967295 = 1 := by decide
  have b7 : bits .and .u64 5 4294967295 = 5 := by decide
  have b0 : bits .and .u64 0 4294967295 = 0 := by decide
  go_enter Tryz.func139, Tryz.ntmps139
  go_wp2
  go_ret2
  exact ⟨rfl, rfl⟩
theorem mul_5 (w : World) :
    Calls Tryz.prog 119 #[.int .u64 1, .int .u64 5] w fun e w' => e = .returned (.tuple #[.int .u64 0, .int .u64 5]) ∧ w = w' := by
  go_enter Tryz.func119, Tryz.ntmps119
  go_wp2_with fail
  refine (mul64_5 w).mono ?_
  rintro e w' ⟨rfl, rfl⟩
  go_wp2
  go_ret2
  exact ⟨rfl, rfl⟩
theorem first_5 (w : World) (b off cap : Nat) (hr : Row w (some ⟨b, off, none⟩) [6]) (ty : TypeId) :
    (Builtin.copy_ #[22, 22] ty #[.slice (some ⟨w.heap.size, 0, none⟩) 5 5, .slice (some ⟨b, off, none⟩) 1 cap]).run Tryz.prog (w.alloc (.cells (sixes 5 0).toArray 3)) = .ok (.int .i64 1) (w.alloc (.cells (sixes 5 1).toArray 3)) := by
  obtain ⟨b', off', e, hb, hc⟩ := hr.at (k := 0) (by decide)
  cases e
  have hrun := run_copy_row (P := Tryz.prog) (w.alloc (.cells (sixes 5 0).toArray 3)) 22 22 ty 3 w.heap.size 0 5 5 ⟨b, off, none⟩ 1 cap (sixes 5 0).toArray 3 [.int .i64 6] Tryz.underlying22 size_int (heap_alloc_new _ _) rfl
    (by
      intro j v hv
      cases j with
      | succ j => cases hv
      | zero =>
        rw [addr_plain, World.cell?_alloc_past _ _ _ hb, hc 0 (by decide)]
        exact hv) (by decide) (by intro v hv; rw [List.mem_singleton.1 hv]; rfl)
  rw [World.setRow_alloc_new] at hrun
  exact hrun
set_option maxHeartbeats 4000000 in
theorem six_5 (a : Option Addr) (cap : Nat) (w : World) (hr : Row w a [6]) :
    Calls Tryz.prog 90 #[.slice a 1 cap, .int .i64 5] w fun e w' => ∃ v, e = .returned v ∧ Has w' w.heap.size v (List.replicate 5 6) ∧ Below w.heap.size w w' := by
  obtain ⟨b, off, rfl, hb, hc⟩ := hr.at (k := 0) (by decide)
  have hmk : ∀ w, (Instr.makeSlice 22 (.int .i64 5) (.int .i64 5)).run Tryz.prog w = .ok (.slice (some ⟨w.heap.size, 0, none⟩) 5 5) (w.alloc (.cells (sixes 5 0).toArray 3)) := fun _ => by kernel_rfl
  have hcp := first_5 w b off cap hr 3
  have hnew : Hid ((w.alloc (.cells (sixes 5 1).toArray 3)).heap[w.heap.size]? = some (.cells (sixes 5 1).toArray 3 (0, 0))) := hide (heap_alloc_new _ _)
  have hbA : Below w.heap.size w (w.alloc (.cells (sixes 5 1).toArray 3)) := (Below.refl _ _).alloc (Nat.le_refl _) _
  have hs1 : Hid (splice (sixes 5 1) 1 ((List.replicate 1 (6 : Int)).map (Value.int .i64)) = sixes 5 2) := hide rfl
  have hs2 : Hid (splice (sixes 5 2) 2 ((List.replicate 2 (6 : Int)).map (Value.int .i64)) = sixes 5 4) := hide rfl
  have hs4 : Hid (splice (sixes 5 4) 4 ((List.replicate 1 (6 : Int)).map (Value.int .i64)) = sixes 5 5) := hide rfl
  clear hc
  go_enter Tryz.func90, Tryz.ntmps90
  go_wp2_with fail
  refine (mul_5 w).mono ?_
  rintro e w' ⟨rfl, rfl⟩
  go_wp2
  go_loopw [8] (fun n wr => ∃ j : Nat, (j = 1 ∨ j = 2 ∨ j = 4 ∨ j = 5) ∧ n = .int .i64 j ∧ Hid (wr.heap[w.heap.size]? = some (.cells (sixes 5 j).toArray 3 (0, 0))) ∧ Below w.heap.size w wr) (fun n _ => 5 - (intOf n).toNat)
  case atStart => exact ⟨1, Or.inl rfl, rfl, hnew, hbA⟩
  case round =>
    obtain ⟨j, hj, rfl, H, hB⟩ := hrel
    have hBd : Below w.heap.size w wr.drew := hB.trans ⟨rfl, rfl, rfl, Nat.le_refl _, fun _ _ => rfl⟩
    rcases hj with rfl | rfl | rfl | rfl
    · go_wp2
      go_region_law (refine step_copy_splice rfl (.tmp 41) (.tmp 44) 22 22 rfl 3 Tryz.underlying22 size_int (some ⟨w.heap.size, 1, none⟩) (some ⟨w.heap.size, 0, none⟩) 4 4 1 5 (by simp [Act.eval, Act.put]) (by simp [Act.eval, Act.put]) w.heap.size 1 (sixes 5 1) 3 (unhide H) ((List.replicate 1 (6 : Int)).map (Value.int .i64)) rfl (fun _ => ⟨rfl, _, rfl, fun j v hv => sixes_at (unhide H) (sixes_sub (by decide) hv)⟩) (by decide) sixes_one w.heap.size w hBd (Nat.le_refl _) ?_; intro w4 hg4 hb4)
      go_wp2
      go_roundw
      case rel => ((repeat apply Exists.intro); exact ⟨⟨2, Or.inr (Or.inl rfl), rfl, by rw [← unhide hs1]; exact hg4, hb4⟩, rfl⟩)
      case measure => (simp [intOf, Act.put]; decide)
    · go_wp2
      go_region_law (refine step_copy_splice rfl (.tmp 41) (.tmp 44) 22 22 rfl 3 Tryz.underlying22 size_int (some ⟨w.heap.size, 2, none⟩) (some ⟨w.heap.size, 0, none⟩) 3 3 2 5 (by simp [Act.eval, Act.put]) (by simp [Act.eval, Act.put]) w.heap.size 2 (sixes 5 2) 3 (unhide H) ((List.replicate 2 (6 : Int)).map (Value.int .i64)) rfl (fun _ => ⟨rfl, _, rfl, fun j v hv => sixes_at (unhide H) (sixes_sub (by decide) hv)⟩) (by decide) sixes_one w.heap.size w hBd (Nat.le_refl _) ?_; intro w4 hg4 hb4)
      go_wp2
      go_roundw
      case rel => ((repeat apply Exists.intro); exact ⟨⟨4, Or.inr (Or.inr (Or.inl rfl)), rfl, by rw [← unhide hs2]; exact hg4, hb4⟩, rfl⟩)
      case measure => (simp [intOf, Act.put]; decide)
    · go_wp2
      go_region_law (refine step_copy_splice rfl (.tmp 41) (.tmp 44) 22 22 rfl 3 Tryz.underlying22 size_int (some ⟨w.heap.size, 4, none⟩) (some ⟨w.heap.size, 0, none⟩) 1 1 4 5 (by simp [Act.eval, Act.put]) (by simp [Act.eval, Act.put]) w.heap.size 4 (sixes 5 4) 3 (unhide H) ((List.replicate 1 (6 : Int)).map (Value.int .i64)) rfl (fun _ => ⟨rfl, _, rfl, fun j v hv => sixes_at (unhide H) (sixes_sub (by decide) hv)⟩) (by decide) sixes_one w.heap.size w hBd (Nat.le_refl _) ?_; intro w4 hg4 hb4)
      go_wp2
      go_roundw
      case rel => ((repeat apply Exists.intro); exact ⟨⟨5, Or.inr (Or.inr (Or.inr (rfl))), rfl, by rw [← unhide hs4]; exact hg4, hb4⟩, rfl⟩)
      case measure => (simp [intOf, Act.put]; decide)
    · go_wp2
      go_ret
      exact ⟨_, rfl, has_sixes (by decide) (unhide H), hB⟩
theorem mul64_6 (w : World) :
    Calls Tryz.prog 139 #[.int .u64 1, .int .u64 6] w fun e w' => e = .returned (.tuple #[.int .u64 0, .int .u64 6]) ∧ w = w' := by
  have b1 : bits .and .u64 1 4294967295 = 1 := by decide
  have b7 : bits .and .u64 6 4294967295 = 6 := by decide
  have b0 : bits .and .u64 0 4294967295 = 0 := by decide
  go_enter Tryz.func139, Tryz.ntmps139
  go_wp2
  go_ret2
  exact ⟨rfl, rfl⟩
theorem mul_6 (w : World) :
    Calls Tryz.prog 119 #[.int .u64 1, .int .u64 6] w fun e w' => e = .returned (.tuple #[.int .u64 0, .int .u64 6]) ∧ w = w' := by
  go_enter Tryz.func119, Tryz.ntmps119
  go_wp2_with fail
  refine (mul64_6 w).mono ?_
  rintro e w' ⟨rfl, rfl⟩
  go_wp2
  go_ret2
  exact ⟨rfl, rfl⟩
theorem first_6 (w : World) (b off cap : Nat) (hr : Row w (some ⟨b, off, none⟩) [6]) (ty : TypeId) :
    (Builtin.copy_ #[22, 22] ty #[.slice (some ⟨w.heap.size, 0, none⟩) 6 6, .slice (some ⟨b, off, none⟩) 1 cap]).run Tryz.prog (w.alloc (.cells (sixes 6 0).toArray 3)) = .ok (.int .i64 1) (w.alloc (.cells (sixes 6 1).toArray 3)) := by
  obtain ⟨b', off', e, hb, hc⟩ := hr.at (k := 0) (by decide)
  cases e
  have hrun := run_copy_row (P := Tryz.prog) (w.alloc (.cells (sixes 6 0).toArray 3)) 22 22 ty 3 w.heap.size 0 6 6 ⟨b, off, none⟩ 1 cap (sixes 6 0).toArray 3 [.int .i64 6] Tryz.underlying22 size_int (heap_alloc_new _ _) rfl
    (by
      intro j v hv
      cases j with
      | succ j => cases hv
      | zero =>
        rw [addr_plain, World.cell?_alloc_past _ _ _ hb, hc 0 (by decide)]
        exact hv) (by decide) (by intro v hv; rw [List.mem_singleton.1 hv]; rfl)
  rw [World.setRow_alloc_new] at hrun
  exact hrun
set_option maxHeartbeats 4000000 in
theorem six_6 (a : Option Addr) (cap : Nat) (w : World) (hr : Row w a [6]) :
    Calls Tryz.prog 90 #[.slice a 1 cap, .int .i64 6] w fun e w' => ∃ v, e = .returned v ∧ Has w' w.heap.size v (List.replicate 6 6) ∧ Below w.heap.size w w' := by
  obtain ⟨b, off, rfl, hb, hc⟩ := hr.at (k := 0) (by decide)
  have hmk : ∀ w, (Instr.makeSlice 22 (.int .i64 6) (.int .i64 6)).run Tryz.prog w = .ok (.slice (some ⟨w.heap.size, 0, none⟩) 6 6) (w.alloc (.cells (sixes 6 0).toArray 3)) := fun _ => by kernel_rfl
  have hcp := first_6 w b off cap hr 3
  have hnew : Hid ((w.alloc (.cells (sixes 6 1).toArray 3)).heap[w.heap.size]? = some (.cells (sixes 6 1).toArray 3 (0, 0))) := hide (heap_alloc_new _ _)
  have hbA : Below w.heap.size w (w.alloc (.cells (sixes 6 1).toArray 3)) := (Below.refl _ _).alloc (Nat.le_refl _) _
  have hs1 : Hid (splice (sixes 6 1) 1 ((List.replicate 1 (6 : Int)).map (Value.int .i64)) = sixes 6 2) := hide rfl
  have hs2 : Hid (splice (sixes 6 2) 2 ((List.replicate 2 (6 : Int)).map (Value.int .i64)) = sixes 6 4) := hide rfl
  have hs4 : Hid (splice (sixes 6 4) 4 ((List.replicate 2 (6 : Int)).map (Value.int .i64)) = sixes 6 6) := hide rfl
  clear hc
  go_enter Tryz.func90, Tryz.ntmps90
  go_wp2_with fail
  refine (mul_6 w).mono ?_
  rintro e w' ⟨rfl, rfl⟩
  go_wp2
  go_loopw [8] (fun n wr => ∃ j : Nat, (j = 1 ∨ j = 2 ∨ j = 4 ∨ j = 6) ∧ n = .int .i64 j ∧ Hid (wr.heap[w.heap.size]? = some (.cells (sixes 6 j).toArray 3 (0, 0))) ∧ Below w.heap.size w wr) (fun n _ => 6 - (intOf n).toNat)
  case atStart => exact ⟨1, Or.inl rfl, rfl, hnew, hbA⟩
  case round =>
    obtain ⟨j, hj, rfl, H, hB⟩ := hrel
    have hBd : Below w.heap.size w wr.drew := hB.trans ⟨rfl, rfl, rfl, Nat.le_refl _, fun _ _ => rfl⟩
    rcases hj with rfl | rfl | rfl | rfl
    · go_wp2
      go_region_law (refine step_copy_splice rfl (.tmp 41) (.tmp 44) 22 22 rfl 3 Tryz.underlying22 size_int (some ⟨w.heap.size, 1, none⟩) (some ⟨w.heap.size, 0, none⟩) 5 5 1 6 (by simp [Act.eval, Act.put]) (by simp [Act.eval, Act.put]) w.heap.size 1 (sixes 6 1) 3 (unhide H) ((List.replicate 1 (6 : Int)).map (Value.int .i64)) rfl (fun _ => ⟨rfl, _, rfl, fun j v hv => sixes_at (unhide H) (sixes_sub (by decide) hv)⟩) (by decide) sixes_one w.heap.size w hBd (Nat.le_refl _) ?_; intro w4 hg4 hb4)
      go_wp2
      go_roundw
      case rel => ((repeat apply Exists.intro); exact ⟨⟨2, Or.inr (Or.inl rfl), rfl, by rw [← unhide hs1]; exact hg4, hb4⟩, rfl⟩)
      case measure => (simp [intOf, Act.put]; decide)
    · go_wp2
      go_region_law (refine step_copy_splice rfl (.tmp 41) (.tmp 44) 22 22 rfl 3 Tryz.underlying22 size_int (some ⟨w.heap.size, 2, none⟩) (some ⟨w.heap.size, 0, none⟩) 4 4 2 6 (by simp [Act.eval, Act.put]) (by simp [Act.eval, Act.put]) w.heap.size 2 (sixes 6 2) 3 (unhide H) ((List.replicate 2 (6 : Int)).map (Value.int .i64)) rfl (fun _ => ⟨rfl, _, rfl, fun j v hv => sixes_at (unhide H) (sixes_sub (by decide) hv)⟩) (by decide) sixes_one w.heap.size w hBd (Nat.le_refl _) ?_; intro w4 hg4 hb4)
      go_wp2
      go_roundw
      case rel => ((repeat apply Exists.intro); exact ⟨⟨4, Or.inr (Or.inr (Or.inl rfl)), rfl, by rw [← unhide hs2]; exact hg4, hb4⟩, rfl⟩)
      case measure => (simp [intOf, Act.put]; decide)
    · go_wp2
      go_region_law (refine step_copy_splice rfl (.tmp 41) (.tmp 44) 22 22 rfl 3 Tryz.underlying22 size_int (some ⟨w.heap.size, 4, none⟩) (some ⟨w.heap.size, 0, none⟩) 2 2 4 6 (by simp [Act.eval, Act.put]) (by simp [Act.eval, Act.put]) w.heap.size 4 (sixes 6 4) 3 (unhide H) ((List.replicate 2 (6 : Int)).map (Value.int .i64)) rfl (fun _ => ⟨rfl, _, rfl, fun j v hv => sixes_at (unhide H) (sixes_sub (by decide) hv)⟩) (by decide) sixes_one w.heap.size w hBd (Nat.le_refl _) ?_; intro w4 hg4 hb4)
      go_wp2
      go_roundw
      case rel => ((repeat apply Exists.intro); exact ⟨⟨6, Or.inr (Or.inr (Or.inr (rfl))), rfl, by rw [← unhide hs4]; exact hg4, hb4⟩, rfl⟩)
      case measure => (simp [intOf, Act.put]; decide)
    · go_wp2
      go_ret
      exact ⟨_, rfl, has_sixes (by decide) (unhide H), hB⟩
theorem mul64_7 (w : World) :
    Calls Tryz.prog 139 #[.int .u64 1, .int .u64 7] w fun e w' => e = .returned (.tuple #[.int .u64 0, .int .u64 7]) ∧ w = w' := by
  have b1 : bits .and .u64 1 4294967295 = 1 := by decide
  have b7 : bits .and .u64 7 4294967295 = 7 := by decide
  have b0 : bits .and .u64 0 4294967295 = 0 := by decide
  go_enter Tryz.func139, Tryz.ntmps139
  go_wp2
  go_ret2
  exact ⟨rfl, rfl⟩
theorem mul_7 (w : World) :
    Calls Tryz.prog 119 #[.int .u64 1, .int .u64 7] w fun e w' => e = .returned (.tuple #[.int .u64 0, .int .u64 7]) ∧ w = w' := by
  go_enter Tryz.func119, Tryz.ntmps119
  go_wp2_with fail
  refine (mul64_7 w).mono ?_
  rintro e w' ⟨rfl, rfl⟩
  go_wp2
  go_ret2
  exact ⟨rfl, rfl⟩
theorem first_7 (w : World) (b off cap : Nat) (hr : Row w (some ⟨b, off, none⟩) [6]) (ty : TypeId) :
    (Builtin.copy_ #[22, 22] ty #[.slice (some ⟨w.heap.size, 0, none⟩) 7 7, .slice (some ⟨b, off, none⟩) 1 cap]).run Tryz.prog (w.alloc (.cells (sixes 7 0).toArray 3)) = .ok (.int .i64 1) (w.alloc (.cells (sixes 7 1).toArray 3)) := by
  obtain ⟨b', off', e, hb, hc⟩ := hr.at (k := 0) (by decide)
  cases e
  have hrun := run_copy_row (P := Tryz.prog) (w.alloc (.cells (sixes 7 0).toArray 3)) 22 22 ty 3 w.heap.size 0 7 7 ⟨b, off, none⟩ 1 cap (sixes 7 0).toArray 3 [.int .i64 6] Tryz.underlying22 size_int (heap_alloc_new _ _) rfl
    (by
      intro j v hv
      cases j with
      | succ j => cases hv
      | zero =>
        rw [addr_plain, World.cell?_alloc_past _ _ _ hb, hc 0 (by decide)]
        exact hv) (by decide) (by intro v hv; rw [List.mem_singleton.1 hv]; rfl)
  rw [World.setRow_alloc_new] at hrun
  exact hrun
set_option maxHeartbeats 4000000 in
theorem six_7 (a : Option Addr) (cap : Nat) (w : World) (hr : Row w a [6]) :
    Calls Tryz.prog 90 #[.slice a 1 cap, .int .i64 7] w fun e w' => ∃ v, e = .returned v ∧ Has w' w.heap.size v (List.replicate 7 6) ∧ Below w.heap.size w w' := by
  obtain ⟨b, off, rfl, hb, hc⟩ := hr.at (k := 0) (by decide)
  have hmk : ∀ w, (Instr.makeSlice 22 (.int .i64 7) (.int .i64 7)).run Tryz.prog w = .ok (.slice (some ⟨w.heap.size, 0, none⟩) 7 7) (w.alloc (.cells (sixes 7 0).toArray 3)) := fun _ => by kernel_rfl
  have hcp := first_7 w b off cap hr 3
  have hnew : Hid ((w.alloc (.cells (sixes 7 1).toArray 3)).heap[w.heap.size]? = some (.cells (sixes 7 1).toArray 3 (0, 0))) := hide (heap_alloc_new _ _)
  have hbA : Below w.heap.size w (w.alloc (.cells (sixes 7 1).toArray 3)) := (Below.refl _ _).alloc (Nat.le_refl _) _
  have hs1 : Hid (splice (sixes 7 1) 1 ((List.replicate 1 (6 : Int)).map (Value.int .i64)) = sixes 7 2) := hide rfl
  have hs2 : Hid (splice (sixes 7 2) 2 ((List.replicate 2 (6 : Int)).map (Value.int .i64)) = sixes 7 4) := hide rfl
  have hs4 : Hid (splice (sixes 7 4) 4 ((List.replicate 3 (6 : Int)).map (Value.int .i64)) = sixes 7 7) := hide rfl
  clear hc
  go_enter Tryz.func90, Tryz.ntmps90
  go_wp2_with fail
  refine (mul_7 w).mono ?_
  rintro e w' ⟨rfl, rfl⟩
  go_wp2
  go_loopw [8] (fun n wr => ∃ j : Nat, (j = 1 ∨ j = 2 ∨ j = 4 ∨ j = 7) ∧ n = .int .i64 j ∧ Hid (wr.heap[w.heap.size]? = some (.cells (sixes 7 j).toArray 3 (0, 0))) ∧ Below w.heap.size w wr) (fun n _ => 7 - (intOf n).toNat)
  case atStart => exact ⟨1, Or.inl rfl, rfl, hnew, hbA⟩
  case round =>
    obtain ⟨j, hj, rfl, H, hB⟩ := hrel
    have hBd : Below w.heap.size w wr.drew := hB.trans ⟨rfl, rfl, rfl, Nat.le_refl _, fun _ _ => rfl⟩
    rcases hj with rfl | rfl | rfl | rfl
    · go_wp2
      go_region_law (refine step_copy_splice rfl (.tmp 41) (.tmp 44) 22 22 rfl 3 Tryz.underlying22 size_int (some ⟨w.heap.size, 1, none⟩) (some ⟨w.heap.size, 0, none⟩) 6 6 1 7 (by simp [Act.eval, Act.put]) (by simp [Act.eval, Act.put]) w.heap.size 1 (sixes 7 1) 3 (unhide H) ((List.replicate 1 (6 : Int)).map (Value.int .i64)) rfl (fun _ => ⟨rfl, _, rfl, fun j v hv => sixes_at (unhide H) (sixes_sub (by decide) hv)⟩) (by decide) sixes_one w.heap.size w hBd (Nat.le_refl _) ?_; intro w4 hg4 hb4)
      go_wp2
      go_roundw
      case rel => ((repeat apply Exists.intro); exact ⟨⟨2, Or.inr (Or.inl rfl), rfl, by rw [← unhide hs1]; exact hg4, hb4⟩, rfl⟩)
      case measure => (simp [intOf, Act.put]; decide)
    · go_wp2
      go_region_law (refine step_copy_splice rfl (.tmp 41) (.tmp 44) 22 22 rfl 3 Tryz.underlying22 size_int (some ⟨w.heap.size, 2, none⟩) (some ⟨w.heap.size, 0, none⟩) 5 5 2 7 (by simp [Act.eval, Act.put]) (by simp [Act.eval, Act.put]) w.heap.size 2 (sixes 7 2) 3 (unhide H) ((List.replicate 2 (6 : Int)).map (Value.int .i64)) rfl (fun _ => ⟨rfl, _, rfl, fun j v hv => sixes_at (unhide H) (sixes_sub (by decide) hv)⟩) (by decide) sixes_one w.heap.size w hBd (Nat.le_refl _) ?_; intro w4 hg4 hb4)
      go_wp2
      go_roundw
      case rel => ((repeat apply Exists.intro); exact ⟨⟨4, Or.inr (Or.inr (Or.inl rfl)), rfl, by rw [← unhide hs2]; exact hg4, hb4⟩, rfl⟩)
      case measure => (simp [intOf, Act.put]; decide)
    · go_wp2
      go_region_law (refine step_copy_splice rfl (.tmp 41) (.tmp 44) 22 22 rfl 3 Tryz.underlying22 size_int (some ⟨w.heap.size, 4, none⟩) (some ⟨w.heap.size, 0, none⟩) 3 3 4 7 (by simp [Act.eval, Act.put]) (by simp [Act.eval, Act.put]) w.heap.size 4 (sixes 7 4) 3 (unhide H) ((List.replicate 3 (6 : Int)).map (Value.int .i64)) rfl (fun _ => ⟨rfl, _, rfl, fun j v hv => sixes_at (unhide H) (sixes_sub (by decide) hv)⟩) (by decide) sixes_one w.heap.size w hBd (Nat.le_refl _) ?_; intro w4 hg4 hb4)
      go_wp2
      go_roundw
      case rel => ((repeat apply Exists.intro); exact ⟨⟨7, Or.inr (Or.inr (Or.inr (rfl))), rfl, by rw [← unhide hs4]; exact hg4, hb4⟩, rfl⟩)
      case measure => (simp [intOf, Act.put]; decide)
    · go_wp2
      go_ret
      exact ⟨_, rfl, has_sixes (by decide) (unhide H), hB⟩
theorem mul64_8 (w : World) :
    Calls Tryz.prog 139 #[.int .u64 1, .int .u64 8] w fun e w' => e = .returned (.tuple #[.int .u64 0, .int .u64 8]) ∧ w = w' := by
  have b1 : bits .and .u64 1 4294967295 = 1 := by decide
  have b7 : bits .and .u64 8 4294967295 = 8 := by decide
  have b0 : bits .and .u64 0 4294967295 = 0 := by decide
  go_enter Tryz.func139, Tryz.ntmps139
  go_wp2
  go_ret2
  exact ⟨rfl, rfl⟩
theorem mul_8 (w : World) :
    Calls Tryz.prog 119 #[.int .u64 1, .int .u64 8] w fun e w' => e = .returned (.tuple #[.int .u64 0, .int .u64 8]) ∧ w = w' := by
  go_enter Tryz.func119, Tryz.ntmps119
  go_wp2_with fail
  refine (mul64_8 w).mono ?_
  rintro e w' ⟨rfl, rfl⟩
  go_wp2
  go_ret2
  exact ⟨rfl, rfl⟩
theorem first_8 (w : World) (b off cap : Nat) (hr : Row w (some ⟨b, off, none⟩) [6]) (ty : TypeId) :
    (Builtin.copy_ #[22, 22] ty #[.slice (some ⟨w.heap.size, 0, none⟩) 8 8, .slice (some ⟨b, off, none⟩) 1 cap]).run Tryz.prog (w.alloc (.cells (sixes 8 0).toArray 3)) = .ok (.int .i64 1) (w.alloc (.cells (sixes 8 1).toArray 3)) := by
  obtain ⟨b', off', e, hb, hc⟩ := hr.at (k := 0) (by decide)
  cases e
  have hrun := run_copy_row (P := Tryz.prog) (w.alloc (.cells (sixes 8 0).toArray 3)) 22 22 ty 3 w.heap.size 0 8 8 ⟨b, off, none⟩ 1 cap (sixes 8 0).toArray 3 [.int .i64 6] Tryz.underlying22 size_int (heap_alloc_new _ _) rfl
    (by
      intro j v hv
      cases j with
      | succ j => cases hv
      | zero =>
        rw [addr_plain, World.cell?_alloc_past _ _ _ hb, hc 0 (by decide)]
        exact hv) (by decide) (by intro v hv; rw [List.mem_singleton.1 hv]; rfl)
  rw [World.setRow_alloc_new] at hrun
  exact hrun
set_option maxHeartbeats 4000000 in
theorem six_8 (a : Option Addr) (cap : Nat) (w : World) (hr : Row w a [6]) :
    Calls Tryz.prog 90 #[.slice a 1 cap, .int .i64 8] w fun e w' => ∃ v, e = .returned v ∧ Has w' w.heap.size v (List.replicate 8 6) ∧ Below w.heap.size w w' := by
  obtain ⟨b, off, rfl, hb, hc⟩ := hr.at (k := 0) (by decide)
  have hmk : ∀ w, (Instr.makeSlice 22 (.int .i64 8) (.int .i64 8)).run Tryz.prog w = .ok (.slice (some ⟨w.heap.size, 0, none⟩) 8 8) (w.alloc (.cells (sixes 8 0).toArray 3)) := fun _ => by kernel_rfl
  have hcp := first_8 w b off cap hr 3
  have hnew : Hid ((w.alloc (.cells (sixes 8 1).toArray 3)).heap[w.heap.size]? = some (.cells (sixes 8 1).toArray 3 (0, 0))) := hide (heap_alloc_new _ _)
  have hbA : Below w.heap.size w (w.alloc (.cells (sixes 8 1).toArray 3)) := (Below.refl _ _).alloc (Nat.le_refl _) _
  have hs1 : Hid (splice (sixes 8 1) 1 ((List.replicate 1 (6 : Int)).map (Value.int .i64)) = sixes 8 2) := hide rfl
  have hs2 : Hid (splice (sixes 8 2) 2 ((List.replicate 2 (6 : Int)).map (Value.int .i64)) = sixes 8 4) := hide rfl
  have hs4 : Hid (splice (sixes 8 4) 4 ((List.replicate 4 (6 : Int)).map (Value.int .i64)) = sixes 8 8) := hide rfl
  clear hc
  go_enter Tryz.func90, Tryz.ntmps90
  go_wp2_with fail
  refine (mul_8 w).mono ?_
  rintro e w' ⟨rfl, rfl⟩
  go_wp2
  go_loopw [8] (fun n wr => ∃ j : Nat, (j = 1 ∨ j = 2 ∨ j = 4 ∨ j = 8) ∧ n = .int .i64 j ∧ Hid (wr.heap[w.heap.size]? = some (.cells (sixes 8 j).toArray 3 (0, 0))) ∧ Below w.heap.size w wr) (fun n _ => 8 - (intOf n).toNat)
  case atStart => exact ⟨1, Or.inl rfl, rfl, hnew, hbA⟩
  case round =>
    obtain ⟨j, hj, rfl, H, hB⟩ := hrel
    have hBd : Below w.heap.size w wr.drew := hB.trans ⟨rfl, rfl, rfl, Nat.le_refl _, fun _ _ => rfl⟩
    rcases hj with rfl | rfl | rfl | rfl
    · go_wp2
      go_region_law (refine step_copy_splice rfl (.tmp 41) (.tmp 44) 22 22 rfl 3 Tryz.underlying22 size_int (some ⟨w.heap.size, 1, none⟩) (some ⟨w.heap.size, 0, none⟩) 7 7 1 8 (by simp [Act.eval, Act.put]) (by simp [Act.eval, Act.put]) w.heap.size 1 (sixes 8 1) 3 (unhide H) ((List.replicate 1 (6 : Int)).map (Value.int .i64)) rfl (fun _ => ⟨rfl, _, rfl, fun j v hv => sixes_at (unhide H) (sixes_sub (by decide) hv)⟩) (by decide) sixes_one w.heap.size w hBd (Nat.le_refl _) ?_; intro w4 hg4 hb4)
      go_wp2
      go_roundw
      case rel => ((repeat apply Exists.intro); exact ⟨⟨2, Or.inr (Or.inl rfl), rfl, by rw [← unhide hs1]; exact hg4, hb4⟩, rfl⟩)
      case measure => (simp [intOf, Act.put]; decide)
    · go_wp2
      go_region_law (refine step_copy_splice rfl (.tmp 41) (.tmp 44) 22 22 rfl 3 Tryz.underlying22 size_int (some ⟨w.heap.size, 2, none⟩) (some ⟨w.heap.size, 0, none⟩) 6 6 2 8 (by simp [Act.eval, Act.put]) (by simp [Act.eval, Act.put]) w.heap.size 2 (sixes 8 2) 3 (unhide H) ((List.replicate 2 (6 : Int)).map (Value.int .i64)) rfl (fun _ => ⟨rfl, _, rfl, fun j v hv => sixes_at (unhide H) (sixes_sub (by decide) hv)⟩) (by decide) sixes_one w.heap.size w hBd (Nat.le_refl _) ?_; intro w4 hg4 hb4)
      go_wp2
      go_roundw
      case rel => ((repeat apply Exists.intro); exact ⟨⟨4, Or.inr (Or.inr (Or.inl rfl)), rfl, by rw [← unhide hs2]; exact hg4, hb4⟩, rfl⟩)
      case measure => (simp [intOf, Act.put]; decide)
    · go_wp2
      go_region_law (refine step_copy_splice rfl (.tmp 41) (.tmp 44) 22 22 rfl 3 Tryz.underlying22 size_int (some ⟨w.heap.size, 4, none⟩) (some ⟨w.heap.size, 0, none⟩) 4 4 4 8 (by simp [Act.eval, Act.put]) (by simp [Act.eval, Act.put]) w.heap.size 4 (sixes 8 4) 3 (unhide H) ((List.replicate 4 (6 : Int)).map (Value.int .i64)) rfl (fun _ => ⟨rfl, _, rfl, fun j v hv => sixes_at (unhide H) (sixes_sub (by decide) hv)⟩) (by decide) sixes_one w.heap.size w hBd (Nat.le_refl _) ?_; intro w4 hg4 hb4)
      go_wp2
      go_roundw
      case rel => ((repeat apply Exists.intro); exact ⟨⟨8, Or.inr (Or.inr (Or.inr (rfl))), rfl, by rw [← unhide hs4]; exact hg4, hb4⟩, rfl⟩)
      case measure => (simp [intOf, Act.put]; decide)
    · go_wp2
      go_ret
      exact ⟨_, rfl, has_sixes (by decide) (unhide H), hB⟩
/-- A six, so many times. -/
theorem sixTimes (a : Option Addr) (cap : Nat) (n : Nat) (w : World) (hr : Row w a [6]) (h1 : 1 ≤ n) (h8 : n ≤ 8) :
    Calls Tryz.prog 90 #[.slice a 1 cap, .int .i64 n] w fun e w' => ∃ v, e = .returned v ∧ Has w' w.heap.size v (List.replicate n 6) ∧ Below w.heap.size w w' := by
  obtain rfl | rfl | rfl | rfl | rfl | rfl | rfl | rfl : n = 1 ∨ n = 2 ∨ n = 3 ∨ n = 4 ∨ n = 5 ∨ n = 6 ∨ n = 7 ∨ n = 8 := by omega
  · exact six_1 a cap w hr
  · exact six_2 a cap w hr
  · exact six_3 a cap w hr
  · exact six_4 a cap w hr
  · exact six_5 a cap w hr
  · exact six_6 a cap w hr
  · exact six_7 a cap w hr
  · exact six_8 a cap w hr

end Go.Proofs.YthkibjhhlcfceaiGreatDoor.Pck

/-
  band.Check, called with any sizes: its contract.
-/
namespace Go.Proofs.YthkibjhhlcfceaiGreatDoor.Bnd
open Go.RowKit
open Go.Proofs.YthkibjhhlcfceaiGreatDoor.Tre
set_option linter.unusedVariables false

theorem any_of (l : List Int) (k : Nat) (hk : k < l.length) (h : bad l[k] = true) : l.any bad = true :=
  List.any_eq_true.2 ⟨l[k], List.getElem_mem hk, h⟩
theorem any_step (l : List Int) (k : Nat) (hk : k < l.length) (h0 : (l.take k).any bad = false) (h : bad l[k] = false) : (l.take (k + 1)).any bad = false := by
  rw [List.take_succ_eq_append_getElem hk, List.any_append, h0]
  simp [h]

theorem size1 (n : Int) (w : World) : Calls Tryz.prog 75 #[.int .i64 n] w fun e w' => e = .returned (.bool (bad n)) ∧ w' = w := by
  by_cases h1 : n < 1
  · have h3 : decide (n < 1) = true := by simpa using h1
    go_enter Tryz.func75, Tryz.ntmps75
    go_wp2
    go_ret
    exact ⟨by simp [bad, h3], rfl⟩
  · have h2 : decide (n < 1) = false := by simpa using h1
    go_enter Tryz.func75, Tryz.ntmps75
    go_wp2
    go_ret
    exact ⟨by simp [bad, h2], rfl⟩

set_option maxHeartbeats 400000 in
theorem indexFunc (a : Option Addr) (cap : Nat) (l : List Int) (w : World) (hl : l.length ≤ 9223372036854775807) (hr : Row w a l) :
    Calls Tryz.prog 113 #[.slice a l.length cap, .func (.func 75) #[] #[]] w
      fun e w' => (∃ r : Int, e = .returned (.int .i64 r) ∧ (decide (0 ≤ r)) = l.any bad) ∧ w' = w := by
  go_enter Tryz.func113, Tryz.ntmps113
  go_wp2
  go_loop [8] (fun i => ∃ k : Nat, k ≤ l.length ∧ i = .int .i64 k ∧ (l.take k).any bad = false) (fun i => l.length - (intOf i).toNat)
  case atStart => exact ⟨0, Nat.zero_le _, rfl, by simp⟩
  case round =>
    obtain ⟨k, hk, rfl, hno⟩ := hrel
    have HNO : Hid ((l.take k).any bad = false) := hno
    clear hno
    by_cases hlt : k < l.length
    · obtain ⟨b, off, rfl, hb, hcs⟩ := hr.at hlt
      have hck := hcs k hlt
      clear hcs
      go_wp2_with (go_at_call 75; refine (size1 _ _).mono ?_; rintro e w' ⟨rfl, rfl⟩)
      · go_ret
        have hh : bad l[k] = true := by assumption
        exact ⟨⟨k, rfl, by rw [any_of l k hlt hh]; simp⟩, rfl⟩
      · have hh : bad l[k] = false := by assumption
        go_round
        case rel => exact ⟨k + 1, by omega, by go_num, any_step l k hlt HNO.out hh⟩
        case measure => simp [intOf]; omega
    · go_wp2
      go_ret
      have hh := HNO.out
      rw [List.take_of_length_le (by omega)] at hh
      exact ⟨⟨-1, rfl, by rw [hh]; rfl⟩, rfl⟩

theorem containsFunc (a : Option Addr) (cap : Nat) (l : List Int) (w : World) (hl : l.length ≤ 9223372036854775807) (hr : Row w a l) :
    Calls Tryz.prog 74 #[.slice a l.length cap, .func (.func 75) #[] #[]] w
      fun e w' => e = .returned (.bool (l.any bad)) ∧ w' = w := by
  go_enter Tryz.func74, Tryz.ntmps74
  go_wp2_with fail
  refine (indexFunc a cap l w hl hr).mono ?_
  rintro e w' ⟨⟨r, rfl, hr2⟩, rfl⟩
  have HR := hide hr2
  clear hr2
  go_wp2
  go_ret
  exact ⟨by rw [← unhide HR]; rfl, rfl⟩

/-- An error as a value. -/
def errB (e : Int) : Value := if e = 0 then .nilIface else .iface 63 (.int .i64 e)
theorem errB_zero {e : Int} (h : e = 0) : errB e = .nilIface := by simp [errB, h]
theorem errB_ne {e : Int} (h : e ≠ 0) : errB e = .iface 63 (.int .i64 e) := by simp [errB, h]
/-- What Check tells. -/
def tells (s : List Int) : Ending := .returned (.tuple #[.int .i64 (if bf s = 0 then (total s : Int) else 0), errB (bf s)])

set_option maxHeartbeats 1000000 in
theorem check (a : Option Addr) (cap : Nat) (s : List Int) (w : World) (hl : s.length ≤ 9223372036854775807) (hr : Row w a s) :
    Calls Tryz.prog 34 #[.slice a s.length cap] w fun e w' => e = tells s ∧ w' = w := by
  by_cases h0 : s.length = 0
  · have hv : tells s = .returned (.tuple #[.int .i64 0, .iface 63 (.int .i64 5)]) := by simp [tells, errB, bf, h0]
    have hz : ((s.length : Int) == 0) = true := by simp [h0]
    rw [hv]
    clear hv
    go_enter Tryz.func34, Tryz.ntmps34
    go_wp2
    go_ret2
    exact ⟨rfl, rfl⟩
  · have hz : ((s.length : Int) == 0) = false := by rw [beq_eq_false_iff_ne]; omega
    by_cases h8 : 8 < s.length
    · have hv : tells s = .returned (.tuple #[.int .i64 0, .iface 63 (.int .i64 4)]) := by simp [tells, errB, bf, h0, h8]
      rw [hv]
      clear hv h0
      go_enter Tryz.func34, Tryz.ntmps34
      go_wp2
      go_ret2
      exact ⟨rfl, rfl⟩
    · cases hany : s.any bad
      · have hsz : Sizes s := fun i hi => by
          rw [at_get hi]
          exact bad_no (by simpa using List.any_eq_false.1 hany _ (List.getElem_mem hi))
        have HA := hide hany
        have HSZ := hide hsz
        have HT : Hid (tells s = if 32 < total s then .returned (.tuple #[.int .i64 0, .iface 63 (.int .i64 4)]) else .returned (.tuple #[.int .i64 (total s : Int), .nilIface])) := hide (by
          by_cases h : 32 < total s
          · rw [if_pos h]; simp [tells, errB, bf, h0, h8, hany, h]
          · rw [if_neg h]; simp [tells, errB, bf, h0, h8, hany, h])
        obtain ⟨N, hN⟩ : ∃ N, s.length = N := ⟨_, rfl⟩
        have HN := hide hN
        have hcf := containsFunc a cap s w hl hr
        rw [unhide HA] at hcf
        rw [hN] at hcf hz h8 h0 hl ⊢
        clear hN hany hsz h0
        go_enter Tryz.func34, Tryz.ntmps34
        go_wp2_with fail
        refine hcf.mono ?_
        clear hcf
        rintro e w1 ⟨rfl, rfl⟩
        go_wp2
        go_loopw [4, 20] (fun t i wr => ∃ j T : Nat, j ≤ N ∧ i = .int .i64 j ∧ t = .int .i64 T ∧ Hid (T = pre s j) ∧ T ≤ 48 ∧ wr = w1) (fun _ i _ => N - (intOf i).toNat)
        case atStart => exact ⟨0, 0, Nat.zero_le _, rfl, rfl, rfl, by omega, rfl⟩
        case round =>
          obtain ⟨j, T, hj, rfl, rfl, HT2, hT, rfl⟩ := hrel
          by_cases hlt : j < N
          · have hlt' : j < s.length := by rw [unhide HN]; exact hlt
            obtain ⟨b, off, rfl, hb, hc⟩ := hr.at hlt'
            have c1 := hc j hlt'
            have h1 := unhide HSZ j hlt'
            have eX : s.getD j 0 = at0 s j := by rw [List.getD_eq_getElem?_getD]; rfl
            have HS : Hid (pre s (j + 1) = T + (at0 s j).toNat) := hide (by rw [pre_succ, unhide HT2])
            have h6 := pre_six (unhide HSZ) (j := j + 1) (by omega)
            rw [unhide HS] at h6
            rw [eX] at c1
            obtain ⟨X, hX⟩ : ∃ X : Nat, at0 s j = X := ⟨(at0 s j).toNat, by omega⟩
            rw [hX] at c1 HS h6 h1
            have hX2 : ((X : Int)).toNat = X := by omega
            rw [hX2] at HS h6
            have hj1 : j + 1 ≤ N := by omega
            have h48 : T + X ≤ 48 := by omega
            clear hc hX eX hlt' h1 h6 hX2
            go_wp2
            go_roundw
            case rel => exact ⟨j + 1, T + X, by omega, by go_num, by go_num, hide (unhide HS).symm, h48, by first | trivial | rfl⟩
            case measure => simp [intOf]; omega
          · obtain rfl : j = N := by omega
            have HT3 : Hid (total s = T) := hide (by rw [unhide HT2, ← unhide HN]; rfl)
            have ht := unhide HT
            rw [unhide HT3] at ht
            by_cases h : 32 < T
            · rw [if_pos h] at ht
              have HE := hide ht
              clear ht
              go_wp2
              go_ret2
              exact ⟨(unhide HE).symm, rfl⟩
            · rw [if_neg h] at ht
              have HE := hide ht
              clear ht
              go_wp2
              go_ret2
              exact ⟨(unhide HE).symm, rfl⟩
      · have hv : tells s = .returned (.tuple #[.int .i64 0, .iface 63 (.int .i64 1)]) := by simp [tells, errB, bf, h0, h8, hany]
        have hcf := containsFunc a cap s w hl hr
        rw [hany] at hcf
        rw [hv]
        clear hv h0 hany
        go_enter Tryz.func34, Tryz.ntmps34
        go_wp2_with fail
        refine hcf.mono ?_
        clear hcf
        rintro e w1 ⟨rfl, rfl⟩
        go_wp2
        go_ret2
        exact ⟨rfl, rfl⟩

theorem check_ok (a : Option Addr) (cap : Nat) (s : List Int) (w : World) (hl : s.length ≤ 9223372036854775807) (hr : Row w a s) (h : Hid (bf s = 0)) :
    Calls Tryz.prog 34 #[.slice a s.length cap] w fun e w' => e = .returned (.tuple #[.int .i64 (total s : Int), .nilIface]) ∧ w' = w := by
  have := check a cap s w hl hr
  unfold tells at this
  rwa [if_pos (unhide h), errB_zero (unhide h)] at this
theorem check_no (a : Option Addr) (cap : Nat) (s : List Int) (w : World) (hl : s.length ≤ 9223372036854775807) (hr : Row w a s) (h : Hid (bf s ≠ 0)) :
    Calls Tryz.prog 34 #[.slice a s.length cap] w fun e w' => e = .returned (.tuple #[.int .i64 0, .iface 63 (.int .i64 (bf s))]) ∧ w' = w := by
  have := check a cap s w hl hr
  unfold tells at this
  rwa [if_neg (unhide h), errB_ne (unhide h)] at this

end Go.Proofs.YthkibjhhlcfceaiGreatDoor.Bnd
