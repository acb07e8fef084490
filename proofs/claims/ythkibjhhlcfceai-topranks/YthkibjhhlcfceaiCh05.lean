/-
  Package pulse: Check: by its contracts.
-/
import Derived.Test.YthkibjhhlcfceaiCh04
import Derived.Test.YthkibjhhlcfceaiCh03
import Derived.Laws.CopyOwn
import Derived.Deep.RegionLaw
import Derived.Deep.WholeRow
namespace Go.Proofs.Ythkibjhhlcfceai.Pls
open Go.RowKit
open Go.Proofs.Ythkibjhhlcfceai.Tre Go.Proofs.Ythkibjhhlcfceai.Lap
set_option linter.unusedVariables false

set_option maxHeartbeats 1000000 in
theorem check_ok (a : Option Addr) (cap : Nat) (l : List Int) (w : World) (hr : Row w a l) (h : Hid (fault l = 0)) :
    Calls Try.prog 13 #[.slice a l.length cap] w fun e w' => e = .returned (.tuple #[.int .i64 (loud l : Int), .nilIface]) ∧ Below w.heap.size w w' := by
  obtain ⟨h1, h2, h3⟩ := fault_ok (unhide h)
  have hb1 : Below w.heap.size w (w.alloc (.cells #[.int .i64 8] 3)) := (Below.refl _ _).alloc (Nat.le_refl _) _
  have HA := hide (any_of_in h2)
  have hr1 := hr.below hb1
  have hL := hide (loud_ok a cap l (w.alloc (.cells #[.int .i64 8] 3)) (by omega) (h2.mono (by omega)) hr1)
  obtain ⟨k, hk⟩ : ∃ k, loud l = k := ⟨_, rfl⟩
  rw [hk] at hL h3 ⊢
  clear hk
  go_enter Try.func13, Try.ntmps13
  go_wp2_with fail
  refine (beyond 8 w).mono ?_
  rintro e w1 ⟨rfl, rfl⟩
  go_wp2_with fail
  refine (containsFunc 8 a cap l w.heap.size (w.alloc (.cells #[.int .i64 8] 3)) (by omega) (by omega) (by omega) hr1 (boxed_cell w 8 3)).mono ?_
  rw [unhide HA]
  rintro e w1 ⟨rfl, rfl⟩
  go_wp2_with fail
  refine (unhide hL).mono ?_
  rintro e w2 ⟨rfl, hb2⟩
  go_wp2
  go_ret2
  exact ⟨rfl, Below.chain hb1 hb2⟩

set_option maxHeartbeats 1000000 in
theorem check_no (a : Option Addr) (cap : Nat) (l : List Int) (w : World) (hl : l.length ≤ 9223372036854775807) (hr : Row w a l) (h : Hid (fault l ≠ 0)) :
    Calls Try.prog 13 #[.slice a l.length cap] w fun e w' => e = .returned (.tuple #[.int .i64 0, .iface 52 (.int .i64 (fault l))]) ∧ Below w.heap.size w w' := by
  by_cases h1 : 6 < l.length
  · have hv : fault l = 4 := by unfold fault; rw [if_pos h1]
    rw [hv]
    clear hv h
    go_enter Try.func13, Try.ntmps13
    go_wp2
    go_ret2
    exact ⟨rfl, Below.refl _ _⟩
  · have hb1 : Below w.heap.size w (w.alloc (.cells #[.int .i64 8] 3)) := (Below.refl _ _).alloc (Nat.le_refl _) _
    have hr1 := hr.below hb1
    cases hany : l.any (out 8)
    · have h2 : In 8 l := in_of_any hany
      have hk : 8 < loud l := by
        rcases Nat.lt_or_ge 8 (loud l) with h' | h'
        · exact h'
        · exact absurd (fault_none (by omega) h2 h') (unhide h)
      have hv : fault l = 4 := by unfold fault; rw [if_neg h1, hany, if_neg (by simp), if_pos hk]
      rw [hv]
      have HA := hide hany
      have hle := loud_in (b := 8) h2
      have hL := hide (loud_ok a cap l (w.alloc (.cells #[.int .i64 8] 3)) (by omega) (h2.mono (by omega)) hr1)
      have hl6 : loud l ≤ 48 := by omega
      obtain ⟨k, hk'⟩ : ∃ k, loud l = k := ⟨_, rfl⟩
      rw [hk'] at hL hk hl6
      clear hv h hany hk' hle h2
      go_enter Try.func13, Try.ntmps13
      go_wp2_with fail
      refine (beyond 8 w).mono ?_
      rintro e w1 ⟨rfl, rfl⟩
      go_wp2_with fail
      refine (containsFunc 8 a cap l w.heap.size (w.alloc (.cells #[.int .i64 8] 3)) (by omega) (by omega) (by omega) hr1 (boxed_cell w 8 3)).mono ?_
      rw [unhide HA]
      rintro e w1 ⟨rfl, rfl⟩
      go_wp2_with fail
      refine (unhide hL).mono ?_
      rintro e w2 ⟨rfl, hb2⟩
      go_wp2
      go_ret2
      exact ⟨rfl, Below.chain hb1 hb2⟩
    · have hv : fault l = 1 := by unfold fault; rw [if_neg h1, hany, if_pos rfl]
      rw [hv]
      have HA := hide hany
      clear hv h hany
      go_enter Try.func13, Try.ntmps13
      go_wp2_with fail
      refine (beyond 8 w).mono ?_
      rintro e w1 ⟨rfl, rfl⟩
      go_wp2_with fail
      refine (containsFunc 8 a cap l w.heap.size (w.alloc (.cells #[.int .i64 8] 3)) (by omega) (by omega) (by omega) hr1 (boxed_cell w 8 3)).mono ?_
      rw [unhide HA]
      rintro e w1 ⟨rfl, rfl⟩
      go_wp2
      go_ret2
      exact ⟨rfl, hb1⟩

end Go.Proofs.Ythkibjhhlcfceai.Pls

/-
  copy onto a slice of integers that this call has made itself.
-/
namespace Go.Proofs.Ythkibjhhlcfceai
open Go.RowKit
set_option linter.unusedVariables false

theorem size_int : (Try.prog.info? 3).map (·.size) = some 1 := by kernel_rfl

set_option maxRecDepth 100000 in
theorem run_cpy (w : World) (base : Nat) (v : Value) (L m : List Int) (ty : TypeId) (hv : Has w base v L) (ad : Option Addr) (cap : Nat) (hr : Row w ad m) (hle : m.length ≤ L.length) :
    ∃ w', (Builtin.copy_ #[23, 23] ty #[v, .slice ad m.length cap]).run Try.prog w = .ok (goInt m.length) w' ∧ Has w' base v (m ++ L.drop m.length) ∧ w.grownBy w' v.ownBlock := by
  by_cases hm : m = []
  · subst hm
    obtain ⟨a, c, rfl, _⟩ := hv.row
    exact ⟨w, run_copy_none w _ _ _ 3 _ _ _ _ _ _ Try.underlying23 size_int (Nat.min_eq_left (Nat.zero_le _)), by simpa using hv, World.grownBy.refl _ _⟩
  · have hm0 : 0 < m.length := List.length_pos_iff.2 hm
    obtain ⟨b, off, rfl, hb, hcs⟩ := hr.at hm0
    have hlen : L.length = (L.map (Value.int .i64)).length := by simp
    rcases hv.2 with ⟨_, h0⟩ | ⟨g, gcap, cur, rfl, hbg, hg, hnc, hcm, hsz, htake⟩
    · omega
    · have hc : ∀ (j : Nat) (u : Value), (m.map (Value.int .i64))[j]? = some u → w.cell? ((⟨b, off, none⟩ : Addr).add j) = some u := by
        intro j u hu
        have hj : j < m.length := by
          rcases Nat.lt_or_ge j m.length with h | h
          · exact h
          · rw [List.getElem?_eq_none (by simpa using h)] at hu; cases hu
        rw [addr_plain, hcs j hj]
        simp [List.getElem?_map, List.getElem?_eq_getElem hj] at hu
        simp [List.getD_eq_getElem?_getD, List.getElem?_eq_getElem hj, hu]
      have hrun := run_copy_row (P := Try.prog) w 23 23 ty 3 g 0 L.length gcap ⟨b, off, none⟩ m.length cap cur 3 (m.map (Value.int .i64)) Try.underlying23 size_int hg (by rw [List.length_map]; exact (Nat.min_eq_left hle).symm) hc
        (by rw [List.length_map]; omega) (by intro u hu; obtain ⟨z, _, rfl⟩ := List.mem_map.1 hu; rfl)
      rw [List.length_map] at hrun
      refine ⟨_, hrun, ⟨by simp, .inr ⟨g, gcap, _, ?_, hbg, setRow_heap w g cur _ 3 _ hg, ?_, hcm, ?_, ?_⟩⟩, ⟨rfl, rfl, rfl, by simp [World.setRow], fun k _ hk => setRow_other w g k _ (fun e => hk (by simp [Value.ownBlock, e]))⟩⟩
      · congr 1; simp; omega
      · simp; omega
      · simp; omega
      · have ed : (L.map (Value.int .i64)).drop m.length = (cur.toList.drop m.length).take (L.length - m.length) := by
          rw [← htake, Nat.mul_one, List.drop_take]
        have el : (m ++ L.drop m.length).length = m.length + (L.length - m.length) := by simp
        rw [el, Nat.mul_one, List.map_append, List.map_drop, ed]
        simp only [List.take_zero, List.nil_append, Nat.zero_add]
        rw [List.take_append, List.take_of_length_le (by simp)]
        simp

theorem wpList_cpy {ops : Array Oper} {rest : List Oper} {o : Oper} {a : Act} {Q : Exit → Act → World → Prop} (w : World) (hgd : o.guard = none) (s x : Operand)
    (ho : o.op = .call { callee := .builtin .copy, args := #[s, x], argTypes := #[23, 23] }) (base : Nat) (v : Value) (L m : List Int) (ad : Option Addr) (cap : Nat) (hs : a.eval s = v) (hv : Has w base v L)
    (hx : a.eval x = .slice ad m.length cap) (hr : Row w ad m) (hle : m.length ≤ L.length)
    (h : ∀ w', Has w' base v (m ++ L.drop m.length) → w.grownBy w' v.ownBlock → wpList Try.prog ops Q rest (a.put o.dst (goInt m.length)) w') :
    wpList Try.prog ops Q (o :: rest) a w := by
  refine wpList_plain hgd fun K hK => ?_
  obtain ⟨w', hrun, h2, h3⟩ := run_cpy w base v L m o.type hv ad cap hr hle
  unfold Oper.wp
  simp [execOp, ho, resolve, invoke, builtin, hs, hx, hrun, Result.andThen]
  exact hK _ _ (h w' h2 h3)

end Go.Proofs.Ythkibjhhlcfceai

/-
  slices.Repeat of one number, seven times: by its contract.
-/
namespace Go.Proofs.Ythkibjhhlcfceai.Cnt
open Go.RowKit
set_option linter.unusedVariables false

theorem mul64 (w : World) :
    Calls Try.prog 99 #[.int .u64 1, .int .u64 7] w fun e w' => e = .returned (.tuple #[.int .u64 0, .int .u64 7]) ∧ w = w' := by
  have b1 : bits .and .u64 1 4294967295 = 1 := by decide
  have b7 : bits .and .u64 7 4294967295 = 7 := by decide
  have b0 : bits .and .u64 0 4294967295 = 0 := by decide
  go_enter Try.func99, Try.ntmps99
  go_wp2
  go_ret2
  exact ⟨rfl, rfl⟩

theorem mul (w : World) :
    Calls Try.prog 96 #[.int .u64 1, .int .u64 7] w fun e w' => e = .returned (.tuple #[.int .u64 0, .int .u64 7]) ∧ w = w' := by
  go_enter Try.func96, Try.ntmps96
  go_wp2_with fail
  refine (mul64 w).mono ?_
  rintro e w' ⟨rfl, rfl⟩
  go_wp2
  go_ret2
  exact ⟨rfl, rfl⟩

/-- j ones, and zeros behind them: seven together. -/
def ones (j : Nat) : List Value := (List.replicate j (1 : Int) ++ List.replicate (7 - j) 0).map (Value.int .i64)

theorem has_ones {w w' : World} (h : w'.heap[w.heap.size]? = some (.cells (ones 7).toArray 3 (0, 0))) : Has w' w.heap.size (.slice (some ⟨w.heap.size, 0, none⟩) 7 7) (List.replicate 7 1) := by
  refine ⟨by rfl, .inr ⟨w.heap.size, 7, _, rfl, Nat.le_refl _, h, by decide, by decide, by rfl, by rfl⟩⟩
theorem ones_at {w' : World} {g : Nat} {j k : Nat} {v : Value} (h : w'.heap[g]? = some (.cells (ones k).toArray 3 (0, 0))) (hv : (ones k)[j]? = some v) : w'.cell? ((⟨g, 0, none⟩ : Addr).add j) = some v := by
  rw [addr_plain, Nat.zero_add]
  simp [World.cell?, h, hv]
theorem ones_sub {j m k : Nat} {v : Value} (hm : m ≤ k) (h : ((List.replicate m (1 : Int)).map (Value.int .i64))[j]? = some v) : (ones k)[j]? = some v := by
  have hj : j < m := by
    rcases Nat.lt_or_ge j m with h' | h'
    · exact h'
    · rw [List.getElem?_eq_none (by simpa using h')] at h; cases h
  unfold ones
  rw [List.map_append, List.getElem?_append_left (by simp; omega)]
  simp only [List.map_replicate, List.getElem?_replicate] at h ⊢
  rw [if_pos hj] at h
  rw [if_pos (by omega)]
  exact h
theorem ones_one {m : Nat} : ∀ v ∈ (List.replicate m (1 : Int)).map (Value.int .i64), v.oneCell' = true := by
  intro v hv
  obtain ⟨z, _, rfl⟩ := List.mem_map.1 hv
  rfl

theorem first_copy (w : World) (b off cap : Nat) (hr : Row w (some ⟨b, off, none⟩) [1]) (ty : TypeId) :
    (Builtin.copy_ #[23, 23] ty #[.slice (some ⟨w.heap.size, 0, none⟩) 7 7, .slice (some ⟨b, off, none⟩) 1 cap]).run Try.prog (w.alloc (.cells (ones 0).toArray 3)) = .ok (.int .i64 1) (w.alloc (.cells (ones 1).toArray 3)) := by
  obtain ⟨b', off', e, hb, hc⟩ := hr.at (k := 0) (by decide)
  cases e
  have hrun := run_copy_row (P := Try.prog) (w.alloc (.cells (ones 0).toArray 3)) 23 23 ty 3 w.heap.size 0 7 7 ⟨b, off, none⟩ 1 cap (ones 0).toArray 3 [.int .i64 1] Try.underlying23 size_int (heap_alloc_new _ _) rfl
    (by
      intro j v hv
      cases j with
      | succ j => cases hv
      | zero =>
        rw [addr_plain, World.cell?_alloc_past _ _ _ hb, hc 0 (by decide)]
        exact hv) (by decide) (by intro v hv; rw [List.mem_singleton.1 hv]; rfl)
  rw [World.setRow_alloc_new] at hrun
  exact hrun

theorem splice_ones : splice (ones 1) 1 ((List.replicate 1 (1 : Int)).map (Value.int .i64)) = ones 2 ∧ splice (ones 2) 2 ((List.replicate 2 (1 : Int)).map (Value.int .i64)) = ones 4 ∧ splice (ones 4) 4 ((List.replicate 3 (1 : Int)).map (Value.int .i64)) = ones 7 := ⟨rfl, rfl, rfl⟩

set_option maxHeartbeats 4000000 in
theorem repeat7 (a : Option Addr) (cap : Nat) (w : World) (hr : Row w a [1]) :
    Calls Try.prog 92 #[.slice a 1 cap, .int .i64 7] w fun e w' => ∃ v, e = .returned v ∧ Has w' w.heap.size v (List.replicate 7 1) ∧ Below w.heap.size w w' := by
  obtain ⟨b, off, rfl, hb, hc⟩ := hr.at (k := 0) (by decide)
  have hmk : ∀ w, (Instr.makeSlice 23 (.int .i64 7) (.int .i64 7)).run Try.prog w = .ok (.slice (some ⟨w.heap.size, 0, none⟩) 7 7) (w.alloc (.cells (ones 0).toArray 3)) := fun _ => by kernel_rfl
  have hcp := first_copy w b off cap hr 3
  have hnew : Hid ((w.alloc (.cells (ones 1).toArray 3)).heap[w.heap.size]? = some (.cells (ones 1).toArray 3 (0, 0))) := hide (heap_alloc_new _ _)
  have hbA : Below w.heap.size w (w.alloc (.cells (ones 1).toArray 3)) := (Below.refl _ _).alloc (Nat.le_refl _) _
  obtain ⟨sp1, sp2, sp4⟩ := splice_ones
  have hs1 := hide sp1
  have hs2 := hide sp2
  have hs4 := hide sp4
  clear sp1 sp2 sp4
  clear hc
  go_enter Try.func92, Try.ntmps92
  go_wp2_with fail
  refine (mul w).mono ?_
  rintro e w' ⟨rfl, rfl⟩
  go_wp2
  go_loopw [8] (fun n wr => ∃ j : Nat, (j = 1 ∨ j = 2 ∨ j = 4 ∨ j = 7) ∧ n = .int .i64 j ∧ Hid (wr.heap[w.heap.size]? = some (.cells (ones j).toArray 3 (0, 0))) ∧ Below w.heap.size w wr) (fun n _ => 7 - (intOf n).toNat)
  case atStart => exact ⟨1, Or.inl rfl, rfl, hnew, hbA⟩
  case round =>
    obtain ⟨j, hj, rfl, H, hB⟩ := hrel
    have hBd : Below w.heap.size w wr.drew := hB.trans ⟨rfl, rfl, rfl, Nat.le_refl _, fun _ _ => rfl⟩
    rcases hj with rfl | rfl | rfl | rfl
    · go_wp2
      go_region_law (refine step_copy_splice rfl (.tmp 41) (.tmp 44) 23 23 rfl 3 Try.underlying23 size_int (some ⟨w.heap.size, 1, none⟩) (some ⟨w.heap.size, 0, none⟩) 6 6 1 7 (by simp [Act.eval, Act.put]) (by simp [Act.eval, Act.put]) w.heap.size 1 (ones 1) 3 (unhide H) ((List.replicate 1 (1 : Int)).map (Value.int .i64)) rfl (fun _ => ⟨rfl, _, rfl, fun j v hv => ones_at (unhide H) (ones_sub (by decide) hv)⟩) (by decide) ones_one w.heap.size w hBd (Nat.le_refl _) ?_; intro w4 hg4 hb4)
      go_wp2
      go_roundw
      case rel => ((repeat apply Exists.intro); exact ⟨⟨2, Or.inr (Or.inl rfl), rfl, by rw [← unhide hs1]; exact hg4, hb4⟩, rfl⟩)
      case measure => (simp [intOf, Act.put]; decide)
    · go_wp2
      go_region_law (refine step_copy_splice rfl (.tmp 41) (.tmp 44) 23 23 rfl 3 Try.underlying23 size_int (some ⟨w.heap.size, 2, none⟩) (some ⟨w.heap.size, 0, none⟩) 5 5 2 7 (by simp [Act.eval, Act.put]) (by simp [Act.eval, Act.put]) w.heap.size 2 (ones 2) 3 (unhide H) ((List.replicate 2 (1 : Int)).map (Value.int .i64)) rfl (fun _ => ⟨rfl, _, rfl, fun j v hv => ones_at (unhide H) (ones_sub (by decide) hv)⟩) (by decide) ones_one w.heap.size w hBd (Nat.le_refl _) ?_; intro w4 hg4 hb4)
      go_wp2
      go_roundw
      case rel => ((repeat apply Exists.intro); exact ⟨⟨4, Or.inr (Or.inr (Or.inl rfl)), rfl, by rw [← unhide hs2]; exact hg4, hb4⟩, rfl⟩)
      case measure => (simp [intOf, Act.put]; decide)
    · go_wp2
      go_region_law (refine step_copy_splice rfl (.tmp 41) (.tmp 44) 23 23 rfl 3 Try.underlying23 size_int (some ⟨w.heap.size, 4, none⟩) (some ⟨w.heap.size, 0, none⟩) 3 3 4 7 (by simp [Act.eval, Act.put]) (by simp [Act.eval, Act.put]) w.heap.size 4 (ones 4) 3 (unhide H) ((List.replicate 3 (1 : Int)).map (Value.int .i64)) rfl (fun _ => ⟨rfl, _, rfl, fun j v hv => ones_at (unhide H) (ones_sub (by decide) hv)⟩) (by decide) ones_one w.heap.size w hBd (Nat.le_refl _) ?_; intro w4 hg4 hb4)
      go_wp2
      go_roundw
      case rel => ((repeat apply Exists.intro); exact ⟨⟨7, Or.inr (Or.inr (Or.inr rfl)), rfl, by rw [← unhide hs4]; exact hg4, hb4⟩, rfl⟩)
      case measure => (simp [intOf, Act.put]; decide)
    · go_wp2
      go_ret
      exact ⟨_, rfl, has_ones (unhide H), hB⟩

end Go.Proofs.Ythkibjhhlcfceai.Cnt
