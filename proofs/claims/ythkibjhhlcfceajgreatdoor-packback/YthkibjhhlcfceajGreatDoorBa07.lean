/-
  sound.sum of distances, sound.Distances of a few numbers: by their contracts.
-/
import Derived.Test.YthkibjhhlcfceajGreatDoorBa02
import Derived.Test.YthkibjhhlcfceajGreatDoorBa01
import Derived.Test.YthkibjhhlcfceajGreatDoorBa06
import Derived.Deep.QuietTactic
import Derived.BigQuiet
namespace Go.Proofs.YthkibjhhlcfceajGreatDoor.Pls
open Go.RowKit
open Go.Proofs.YthkibjhhlcfceajGreatDoor.Tre
set_option linter.unusedVariables false

set_option maxHeartbeats 400000 in
theorem sumL (a : Option Addr) (cap : Nat) (l : List Int) (w : World) (hl : l.length ≤ 32) (hi : In 4000 l) (hr : Row w a l) :
    Calls Tryz.prog 86 #[.slice a l.length cap, .func (.func 39) #[] #[]] w fun e w' => e = .returned (.int .i64 (loud l : Int)) ∧ w = w' := by
  go_enter Tryz.func86, Tryz.ntmps86
  go_wp2
  go_loop [5, 10] (fun t i => ∃ k t' : Nat, k ≤ l.length ∧ i = .int .i64 k ∧ t = .int .i64 t' ∧ Hid (t' = loud (l.take k)) ∧ t' ≤ 128000) (fun _ i => l.length - (intOf i).toNat)
  case atStart => exact ⟨0, 0, Nat.zero_le _, rfl, rfl, rfl, by omega⟩
  case round =>
    obtain ⟨k, t, hk, rfl, rfl, HT, ht⟩ := hrel
    by_cases hlt : k < l.length
    · obtain ⟨b, off, rfl, hb, hcs⟩ := hr.at hlt
      have hck := hcs k hlt
      clear hcs
      obtain ⟨e1, e2⟩ := hi _ (List.getElem_mem hlt)
      have HS : Hid (t + l[k].natAbs = loud (l.take (k + 1))) := hide (by rw [loud_step hlt, unhide HT])
      have HB : Hid (t + l[k].natAbs ≤ 128000) := hide (by
        have h1 := loud_in (b := 4000) (hi.take (k + 1))
        rw [← unhide HS] at h1
        have h2 := List.length_take_le (k + 1) l
        omega)
      have hn : l[k].natAbs ≤ 4000 := by omega
      go_wp2_with fail
      refine (dist l[k] w (by omega) (by omega)).mono ?_
      obtain ⟨d, hd⟩ : ∃ d, l[k].natAbs = d := ⟨_, rfl⟩
      rw [hd] at HS HB hn ⊢
      clear hd
      rintro e w' ⟨rfl, rfl⟩
      go_wp2
      go_round
      case rel => exact ⟨k + 1, t + d, by omega, by go_num, by go_num, HS, unhide HB⟩
      case measure => simp [intOf]; omega
    · go_wp2
      go_ret
      exact ⟨ret_int (by rw [unhide HT, List.take_of_length_le (by omega)]), rfl⟩

theorem dists (a : Option Addr) (cap : Nat) (l : List Int) (w : World) (hl : l.length ≤ 32) (hi : In 4000 l) (hr : Row w a l) :
    Calls Tryz.prog 55 #[.slice a l.length cap] w fun e w' => e = .returned (.int .i64 (loud l : Int)) ∧ w = w' := by
  go_enter Tryz.func55, Tryz.ntmps55
  go_wp2_with fail
  refine (sumL a cap l w hl hi hr).mono ?_
  rintro e w2 ⟨rfl, rfl⟩
  go_wp2
  go_ret
  exact ⟨rfl, rfl⟩

end Go.Proofs.YthkibjhhlcfceajGreatDoor.Pls

/-
  sound.Loud of a few numbers: by their contracts.
-/
namespace Go.Proofs.YthkibjhhlcfceajGreatDoor.Pls
open Go.RowKit
open Go.Proofs.YthkibjhhlcfceajGreatDoor.Tre Go.Proofs.YthkibjhhlcfceajGreatDoor.Lap
set_option linter.unusedVariables false

theorem loud_ok (a : Option Addr) (cap : Nat) (l : List Int) (w : World) (hl : l.length ≤ 32) (hi : In 1000 l) (hr : Row w a l) :
    Calls Tryz.prog 37 #[.slice a l.length cap] w fun e w' => e = .returned (.tuple #[.int .i64 (loud l : Int), .nilIface]) ∧ Below w.heap.size w w' := by
  go_enter Tryz.func37, Tryz.ntmps37
  go_wp2_with fail
  refine (snd_ok a cap l w hl hi hr).mono ?_
  rintro e w1 ⟨rfl, hb1⟩
  have hr1 := hr.below hb1
  go_wp2_with fail
  refine (dists a cap l w1 hl (hi.mono (by omega)) hr1).mono ?_
  rintro e w2 ⟨rfl, rfl⟩
  go_wp2
  go_ret2
  exact ⟨rfl, hb1⟩

end Go.Proofs.YthkibjhhlcfceajGreatDoor.Pls

/-
  Package pulse: Check: by its contracts.
-/
namespace Go.Proofs.YthkibjhhlcfceajGreatDoor.Pls
open Go.RowKit
open Go.Proofs.YthkibjhhlcfceajGreatDoor.Tre Go.Proofs.YthkibjhhlcfceajGreatDoor.Lap
set_option linter.unusedVariables false

set_option maxHeartbeats 1000000 in
theorem check_ok (a : Option Addr) (cap : Nat) (l : List Int) (w : World) (hr : Row w a l) (h : Hid (fault l = 0)) :
    Calls Tryz.prog 14 #[.slice a l.length cap] w fun e w' => e = .returned (.tuple #[.int .i64 (loud l : Int), .nilIface]) ∧ Below w.heap.size w w' := by
  obtain ⟨h1, h2, h3⟩ := fault_ok (unhide h)
  have hb1 : Below w.heap.size w (w.alloc (.cells #[.int .i64 8] 3)) := (Below.refl _ _).alloc (Nat.le_refl _) _
  have HA := hide (any_of_in h2)
  have hr1 := hr.below hb1
  have hL := hide (loud_ok a cap l (w.alloc (.cells #[.int .i64 8] 3)) (by omega) (h2.mono (by omega)) hr1)
  obtain ⟨k, hk⟩ : ∃ k, loud l = k := ⟨_, rfl⟩
  rw [hk] at hL h3 ⊢
  clear hk
  go_enter Tryz.func14, Tryz.ntmps14
  go_wp2_with fail
  refine (beyond 8 w).mono ?_
  rintro e w1 ⟨rfl, rfl⟩
  go_wp2_with fail
  refine (containsFunc 8 a cap l w.heap.size (w.alloc (.cells #[.int .i64 8] 3)) (by omega) (by omega) (by omega) hr1 (boxed_cell w 8 3)).mono ?_
  rw [unhide HA]
  rintro e w1 ⟨rfl, rfl⟩
  go_wp2_with fail
  refine (unhide hL).mono ?_
  rintro e w2 ⟨rfl, hb2⟩
  go_wp2
  go_ret2
  exact ⟨rfl, Below.chain hb1 hb2⟩

set_option maxHeartbeats 1000000 in
theorem check_no (a : Option Addr) (cap : Nat) (l : List Int) (w : World) (hl : l.length ≤ 9223372036854775807) (hr : Row w a l) (h : Hid (fault l ≠ 0)) :
    Calls Tryz.prog 14 #[.slice a l.length cap] w fun e w' => e = .returned (.tuple #[.int .i64 0, .iface 48 (.int .i64 (fault l))]) ∧ Below w.heap.size w w' := by
  by_cases h1 : 6 < l.length
  · have hv : fault l = 4 := by unfold fault; rw [if_pos h1]
    rw [hv]
    clear hv h
    go_enter Tryz.func14, Tryz.ntmps14
    go_wp2
    go_ret2
    exact ⟨rfl, Below.refl _ _⟩
  · have hb1 : Below w.heap.size w (w.alloc (.cells #[.int .i64 8] 3)) := (Below.refl _ _).alloc (Nat.le_refl _) _
    have hr1 := hr.below hb1
    cases hany : l.any (out 8)
    · have h2 : In 8 l := in_of_any hany
      have hk : 8 < loud l := by
        rcases Nat.lt_or_ge 8 (loud l) with h' | h'
        · exact h'
        · exact absurd (fault_none (by omega) h2 h') (unhide h)
      have hv : fault l = 4 := by unfold fault; rw [if_neg h1, hany, if_neg (by simp), if_pos hk]
      rw [hv]
      have HA := hide hany
      have hle := loud_in (b := 8) h2
      have hL := hide (loud_ok a cap l (w.alloc (.cells #[.int .i64 8] 3)) (by omega) (h2.mono (by omega)) hr1)
      have hl6 : loud l ≤ 48 := by omega
      obtain ⟨k, hk'⟩ : ∃ k, loud l = k := ⟨_, rfl⟩
      rw [hk'] at hL hk hl6
      clear hv h hany hk' hle h2
      go_enter Tryz.func14, Tryz.ntmps14
      go_wp2_with fail
      refine (beyond 8 w).mono ?_
      rintro e w1 ⟨rfl, rfl⟩
      go_wp2_with fail
      refine (containsFunc 8 a cap l w.heap.size (w.alloc (.cells #[.int .i64 8] 3)) (by omega) (by omega) (by omega) hr1 (boxed_cell w 8 3)).mono ?_
      rw [unhide HA]
      rintro e w1 ⟨rfl, rfl⟩
      go_wp2_with fail
      refine (unhide hL).mono ?_
      rintro e w2 ⟨rfl, hb2⟩
      go_wp2
      go_ret2
      exact ⟨rfl, Below.chain hb1 hb2⟩
    · have hv : fault l = 1 := by unfold fault; rw [if_neg h1, hany, if_pos rfl]
      rw [hv]
      have HA := hide hany
      clear hv h hany
      go_enter Tryz.func14, Tryz.ntmps14
      go_wp2_with fail
      refine (beyond 8 w).mono ?_
      rintro e w1 ⟨rfl, rfl⟩
      go_wp2_with fail
      refine (containsFunc 8 a cap l w.heap.size (w.alloc (.cells #[.int .i64 8] 3)) (by omega) (by omega) (by omega) hr1 (boxed_cell w 8 3)).mono ?_
      rw [unhide HA]
      rintro e w1 ⟨rfl, rfl⟩
      go_wp2
      go_ret2
      exact ⟨rfl, hb1⟩

end Go.Proofs.YthkibjhhlcfceajGreatDoor.Pls

/-
  A slice of slices that this call has made itself: made, one of them set, one appended; and what it is to read.
-/
namespace Go.Proofs.YthkibjhhlcfceajGreatDoor
open Go.RowKit
open Go.Proofs.YthkibjhhlcfceajGreatDoor.Tre
set_option linter.unusedVariables false

theorem info_ints : (Tryz.prog.info? 22).map (fun i => (i.zero, i.size, i.bytes)) = some (some (.slice none 0 0), 1, 24) := by kernel_rfl

/-- A slice of this call's own (its block at base or behind) holds these slices. -/
def HasS (w : World) (base : Nat) (v : Value) (vs : List Value) : Prop := w.ownsRow base 22 1 v vs.length vs
theorem HasS.nil (w : World) (base : Nat) : HasS w base (.slice none 0 0) [] := World.ownsRow_nil _ _ _ _
theorem HasS.kept {w w' : World} {base : Nat} {v : Value} {vs : List Value} {row : Option Nat} (h : HasS w base v vs) (hg : w.grownBy w' row) (hne : v.ownBlock = none ∨ v.ownBlock ≠ row) : HasS w' base v vs := World.ownsRow.kept h hg hne
theorem HasS.alloc {w : World} {base : Nat} {v : Value} {vs : List Value} (h : HasS w base v vs) (o : Obj) : HasS (w.alloc o) base v vs := World.ownsRow.alloc h o
theorem HasS.below {w w' : World} {base : Nat} {v : Value} {vs : List Value} (h : HasS w base v vs) (hb : Below w.heap.size w w') : HasS w' base v vs := by
  refine ⟨h.1, ?_⟩
  rcases h.2 with hn | ⟨g, cap, cur, rfl, hbg, hgg, rest⟩
  · exact .inl hn
  · exact .inr ⟨g, cap, cur, rfl, hbg, (hb.block g (Array.getElem?_eq_some_iff.1 hgg).1).trans hgg, rest⟩
theorem HasS.lt {w : World} {base : Nat} {v : Value} {vs : List Value} (h : HasS w base v vs) : ∀ k, v.ownBlock = some k → base ≤ k ∧ k < w.heap.size := World.ownsRow.lt h
theorem HasS.get {w : World} {base g n c : Nat} {vs : List Value} (h : HasS w base (.slice (some ⟨g, 0, none⟩) n c) vs) (hn : n = vs.length) {j : Nat} {V : Value} (hj : vs[j]? = some V) : w.cell? ⟨g, j, none⟩ = some V := by
  have hlt : j < vs.length := (List.getElem?_eq_some_iff.1 hj).1
  subst hn
  have := World.ownsRow.cellAt h j (by omega)
  rw [this]
  simp [hj]
theorem HasS.put {w : World} {base g n c : Nat} {vs : List Value} (h : HasS w base (.slice (some ⟨g, 0, none⟩) n c) vs) (hn : n = vs.length) (j : Nat) (V : Value) :
    HasS (w.setCell ⟨g, j, none⟩ V) base (.slice (some ⟨g, 0, none⟩) n c) (vs.set j V) ∧ w.grownBy (w.setCell ⟨g, j, none⟩ V) (some g) := by
  subst hn
  have := World.ownsRow.stored h j V
  refine ⟨?_, this.2⟩
  unfold HasS
  rw [List.length_set]
  exact this.1
theorem HasS.frozen {w : World} {base g n c : Nat} {vs : List Value} (h : HasS w base (.slice (some ⟨g, 0, none⟩) n c) vs) (hn : n = vs.length) (j : Nat) : w.frozen? ⟨g, j, none⟩ = false := by
  subst hn
  exact World.ownsRow.frozenAt h j

/-- What such a slice is to read. -/
theorem HasS.rws {w : World} {base : Nat} {v : Value} {vs : List Value} {ll : List (List Int)} (h : HasS w base v vs) (hl : ll.length = vs.length) (hc : ∀ r, r < ll.length → ∃ V, vs[r]? = some V ∧ Sli w V (rowAt ll r)) :
    ∃ a cap, v = .slice a ll.length cap ∧ Rws w a ll := by
  have h' := h
  rcases h.2 with ⟨h1, h2⟩ | ⟨g, cap, cur, hv, hb, hg, r⟩
  · have e : ll = [] := List.length_eq_zero_iff.1 (by omega)
    subst e
    exact ⟨none, 0, h1, Or.inl rfl⟩
  · refine ⟨some ⟨g, 0, none⟩, cap, by rw [hl]; exact hv, ?_⟩
    by_cases hl0 : ll = []
    · exact Or.inl hl0
    · refine Or.inr ⟨g, 0, rfl, (Array.getElem?_eq_some_iff.1 hg).1, fun j hj => ?_⟩
      subst hv
      obtain ⟨V, hV, hs⟩ := hc j hj
      rw [Nat.zero_add]
      exact cel_of (h'.get rfl hV) hs

/-- make of slices: nil ones of this call's own. -/
theorem wpList_mks {ops : Array Oper} {rest : List Oper} {o : Oper} {a : Act} {Q : Exit → Act → World → Prop} (w : World) (hgd : o.guard = none) (s : Operand)
    (ho : o.op = .makeSlice 55 s s) (n : Nat) (hs : a.eval s = .int .i64 n) (hn : n ≤ 1000000)
    (h : ∀ w', HasS w' w.heap.size (.slice (some ⟨w.heap.size, 0, none⟩) n n) (List.replicate n (.slice none 0 0)) → Below w.heap.size w w' → w.heap.size < w'.heap.size → wpList Tryz.prog ops Q rest (a.put o.dst (.slice (some ⟨w.heap.size, 0, none⟩) n n)) w') :
    wpList Tryz.prog ops Q (o :: rest) a w := by
  obtain ⟨i0, hi, hz0, hz1, hz2⟩ := info_parts info_ints
  refine wpList_make_full w hgd s s 55 ho w.heap.size 22 i0 (.slice none 0 0) 1 Tryz.underlying55 hi hz0 hz1 _ _ _ _ n hs hs rfl rfl (by rw [hz2]; omega) (by unfold maxLen; omega) (Nat.le_refl _) ?_
  intro w2 hown hgrow
  rw [Nat.mul_one] at hown
  refine h w2 ?_ ((Below.refl _ _).grown hgrow (Nat.le_refl _) (by intro k hk; cases hk)) ?_
  · unfold HasS
    rw [List.length_replicate, ← toList_madeCells_one]
    exact hown
  · exact (World.ownsRow.lt hown w.heap.size rfl).2

/-- append of one slice. -/
theorem run_apps (w : World) (base : Nat) (v : Value) (vs : List Value) (ty : TypeId) (hv : HasS w base v vs) (V : Value) (b off cap : Nat) (hV : V.oneCell' = true) (hc : w.cell? ⟨b, off, none⟩ = some V) (hlen : vs.length + 1 ≤ 1000000) (hbase : base ≤ w.heap.size) :
    ∃ v' w', (Builtin.append_ #[55, 55] ty #[v, .slice (some ⟨b, off, none⟩) 1 cap]).run Tryz.prog w = .ok v' w' ∧ HasS w' base v' (vs ++ [V]) ∧ w.grownBy w' v.ownBlock ∧ (v'.ownBlock = v.ownBlock ∨ v'.ownBlock = some w.heap.size) := by
  obtain ⟨i, hi, hz0, hz1, hz2⟩ := info_parts info_ints
  have hcs : ∀ (j : Nat) (u : Value), ([V] : List Value)[j]? = some u → w.cell? ((⟨b, off, none⟩ : Addr).add j) = some u := by
    intro j u hu
    have hj : j = 0 := by
      rcases Nat.lt_or_ge j 1 with h | h
      · omega
      · rw [List.getElem?_eq_none (by simpa using h)] at hu; cases hu
    subst hj
    rw [addr_plain, Nat.add_zero, hc]
    simpa using hu
  obtain ⟨v', w', h1, h2, h3, h4, h5⟩ := run_append_own_at (P := Tryz.prog) w base 55 ty 22 i (.slice none 0 0) 1 24 Tryz.underlying55 hi hz0 hz1 hz2 rfl (by omega) v vs.length vs hv ⟨b, off, none⟩ 1 cap [V] (by simp) hcs
    (by intro u hu; obtain rfl : u = V := by simpa using hu
        exact hV) (by simp only [maxLen]; omega) (by omega) hbase
  refine ⟨v', w', h1, ?_, h3, h5⟩
  unfold HasS
  rw [List.length_append]
  exact h2

theorem wpList_apps {ops : Array Oper} {rest : List Oper} {o : Oper} {a : Act} {Q : Exit → Act → World → Prop} (w : World) (hgd : o.guard = none) (s x : Operand)
    (ho : o.op = .call { callee := .builtin .append, args := #[s, x], argTypes := #[55, 55] }) (base : Nat) (v : Value) (vs : List Value) (V : Value) (b off cap : Nat) (hs : a.eval s = v) (hv : HasS w base v vs)
    (hx : a.eval x = .slice (some ⟨b, off, none⟩) 1 cap) (hV : V.oneCell' = true) (hc : w.cell? ⟨b, off, none⟩ = some V) (hlen : vs.length + 1 ≤ 1000000) (hbase : base ≤ w.heap.size)
    (h : ∀ v' w', HasS w' base v' (vs ++ [V]) → w.grownBy w' v.ownBlock → (v'.ownBlock = v.ownBlock ∨ v'.ownBlock = some w.heap.size) → wpList Tryz.prog ops Q rest (a.put o.dst v') w') :
    wpList Tryz.prog ops Q (o :: rest) a w := by
  refine wpList_plain hgd fun K hK => ?_
  obtain ⟨v', w', hrun, h2, h3, h4⟩ := run_apps w base v vs o.type hv V b off cap hV hc hlen hbase
  unfold Oper.wp
  simp [execOp, ho, resolve, invoke, builtin, hs, hx, hrun, Result.andThen]
  exact hK _ _ (h v' w' h2 h3 h4)

end Go.Proofs.YthkibjhhlcfceajGreatDoor

/-
  Words for the contracts of chapter 10: cells of a row, sums that no integer is too small for, the fault of counts.
-/
namespace Go.Proofs.YthkibjhhlcfceajGreatDoor.Scl
open Go.RowKit
open Go.Proofs.YthkibjhhlcfceajGreatDoor.Tre
set_option linter.unusedVariables false

theorem cell_at {w : World} {a : Option Addr} {l : List Int} (h : Row w a l) (h0 : 0 < l.length) : ∃ b off, a = some ⟨b, off, none⟩ ∧ b < w.heap.size ∧ ∀ j, j < l.length → w.cell? ⟨b, off + j, none⟩ = some (.int .i64 (at0 l j)) := by
  obtain ⟨b, off, e, hb, hc⟩ := h.at h0
  exact ⟨b, off, e, hb, fun j hj => (hc j hj).trans (by rw [List.getD_eq_getElem?_getD]; rfl)⟩

/-- Sums of the first ones that no integer is too small for. -/
def Small (l : List Int) : Prop := ∀ j, j ≤ l.length → -1000000000 ≤ pfx l j ∧ pfx l j ≤ 1000000000
theorem small_of {l : List Int} (h : ∀ i, i < l.length → 0 ≤ at0 l i ∧ at0 l i ≤ 1000000) (h40 : l.length ≤ 40) : Small l := fun j hj => by
  have h1 := pfx_nonneg (l := l) (fun i hi => (h i hi).1) hj
  have h2 := pfx_le (l := l) (b := 1000000) (fun i hi => (h i hi).2) hj
  omega

theorem cf_bad {c : List Int} {j : Nat} (h0 : c.length ≠ 0) (h40 : ¬ 40 < c.length) (hj : j < c.length) (hb : at0 c j < 0 ∨ 1000000 < at0 c j) : cf c = 1 := by
  have e : at0 c j = c[j] := by simp [at0, hj]
  have h : c.any wrong = true := List.any_eq_true.2 ⟨c[j], List.getElem_mem hj, by rw [e] at hb; simp [wrong]; omega⟩
  simp [cf, h0, h40, h]
theorem cf_sum {c : List Int} (h0 : c.length ≠ 0) (h40 : ¬ 40 < c.length) (h : ∀ i, i < c.length → 0 ≤ at0 c i ∧ at0 c i ≤ 1000000) : cf c = if tot c = 0 then 5 else 0 := by
  have hany : c.any wrong = false := by
    apply List.any_eq_false.2
    intro n hn
    obtain ⟨i, hi, rfl⟩ := List.getElem_of_mem hn
    have := h i hi
    have e : at0 c i = c[i] := by simp [at0, hi]
    rw [e] at this
    simp [wrong]; omega
  simp [cf, h0, h40, hany]

end Go.Proofs.YthkibjhhlcfceajGreatDoor.Scl

/-
  width.check, total: by their contracts.
-/
namespace Go.Proofs.YthkibjhhlcfceajGreatDoor.Wid
open Go.RowKit
open Go.Proofs.YthkibjhhlcfceajGreatDoor.Tre Go.Proofs.YthkibjhhlcfceajGreatDoor.Scl Go.Proofs.YthkibjhhlcfceajGreatDoor.Bnd
set_option linter.unusedVariables false

theorem any_of {p : Int → Bool} (l : List Int) (k : Nat) (hk : k < l.length) (h : p l[k] = true) : l.any p = true :=
  List.any_eq_true.2 ⟨l[k], List.getElem_mem hk, h⟩
theorem any_step {p : Int → Bool} (l : List Int) (k : Nat) (hk : k < l.length) (h0 : (l.take k).any p = false) (h : p l[k] = false) : (l.take (k + 1)).any p = false := by
  rw [List.take_succ_eq_append_getElem hk, List.any_append, h0]
  simp [h]

theorem nob1 (n : Int) (w : World) : Calls Tryz.prog 68 #[.int .i64 n] w fun e w' => e = .returned (.bool (nob n)) ∧ w' = w := by
  by_cases h0 : n = 0
  · subst h0
    go_enter Tryz.func68, Tryz.ntmps68
    go_wp2
    go_ret
    exact ⟨rfl, rfl⟩
  · by_cases h1 : n = 1
    · subst h1
      go_enter Tryz.func68, Tryz.ntmps68
      go_wp2
      go_ret
      exact ⟨rfl, rfl⟩
    · have e : nob n = true := by simp [nob]; omega
      have e0 : (n != 0) = true := by simpa using h0
      have e1 : (n != 1) = true := by simpa using h1
      have f0 : (n == 0) = false := by simpa using h0
      have f1 : (n == 1) = false := by simpa using h1
      rw [e]
      clear e h0 h1
      go_enter Tryz.func68, Tryz.ntmps68
      go_wp2
      go_ret
      exact ⟨rfl, rfl⟩
theorem now1 (n : Int) (w : World) : Calls Tryz.prog 66 #[.int .i64 n] w fun e w' => e = .returned (.bool (now n)) ∧ w' = w := by
  by_cases h1 : n < 0
  · have h3 : decide (n < 0) = true := by simpa using h1
    go_enter Tryz.func66, Tryz.ntmps66
    go_wp2
    go_ret
    exact ⟨by simp [now, h3], rfl⟩
  · have h2 : decide (n < 0) = false := by simpa using h1
    go_enter Tryz.func66, Tryz.ntmps66
    go_wp2
    go_ret
    exact ⟨by simp [now, h2], rfl⟩

set_option maxHeartbeats 400000 in
theorem nobIndex (a : Option Addr) (cap : Nat) (l : List Int) (w : World) (hl : l.length ≤ 9223372036854775807) (hr : Row w a l) :
    Calls Tryz.prog 61 #[.slice a l.length cap, .func (.func 68) #[] #[]] w
      fun e w' => (∃ r : Int, e = .returned (.int .i64 r) ∧ (decide (0 ≤ r)) = l.any nob) ∧ w' = w := by
  go_enter Tryz.func61, Tryz.ntmps61
  go_wp2
  go_loop [8] (fun i => ∃ k : Nat, k ≤ l.length ∧ i = .int .i64 k ∧ (l.take k).any nob = false) (fun i => l.length - (intOf i).toNat)
  case atStart => exact ⟨0, Nat.zero_le _, rfl, by simp⟩
  case round =>
    obtain ⟨k, hk, rfl, hno⟩ := hrel
    have HNO : Hid ((l.take k).any nob = false) := hno
    clear hno
    by_cases hlt : k < l.length
    · obtain ⟨b, off, rfl, hb, hcs⟩ := hr.at hlt
      have hck := hcs k hlt
      clear hcs
      go_wp2_with (go_at_call 68; refine (nob1 _ _).mono ?_; rintro e w' ⟨rfl, rfl⟩)
      · go_ret
        have hh : nob l[k] = true := by assumption
        exact ⟨⟨k, rfl, by rw [any_of l k hlt hh]; simp⟩, rfl⟩
      · have hh : nob l[k] = false := by assumption
        go_round
        case rel => exact ⟨k + 1, by omega, by go_num, any_step l k hlt HNO.out hh⟩
        case measure => simp [intOf]; omega
    · go_wp2
      go_ret
      have hh := HNO.out
      rw [List.take_of_length_le (by omega)] at hh
      exact ⟨⟨-1, rfl, by rw [hh]; rfl⟩, rfl⟩
theorem nobContains (a : Option Addr) (cap : Nat) (l : List Int) (w : World) (hl : l.length ≤ 9223372036854775807) (hr : Row w a l) :
    Calls Tryz.prog 34 #[.slice a l.length cap, .func (.func 68) #[] #[]] w
      fun e w' => e = .returned (.bool (l.any nob)) ∧ w' = w := by
  go_enter Tryz.func34, Tryz.ntmps34
  go_wp2_with fail
  refine (nobIndex a cap l w hl hr).mono ?_
  rintro e w' ⟨⟨r, rfl, hr2⟩, rfl⟩
  have HR := hide hr2
  clear hr2
  go_wp2
  go_ret
  exact ⟨by rw [← unhide HR]; rfl, rfl⟩
set_option maxHeartbeats 400000 in
theorem nowIndex (a : Option Addr) (cap : Nat) (l : List Int) (w : World) (hl : l.length ≤ 9223372036854775807) (hr : Row w a l) :
    Calls Tryz.prog 61 #[.slice a l.length cap, .func (.func 66) #[] #[]] w
      fun e w' => (∃ r : Int, e = .returned (.int .i64 r) ∧ (decide (0 ≤ r)) = l.any now) ∧ w' = w := by
  go_enter Tryz.func61, Tryz.ntmps61
  go_wp2
  go_loop [8] (fun i => ∃ k : Nat, k ≤ l.length ∧ i = .int .i64 k ∧ (l.take k).any now = false) (fun i => l.length - (intOf i).toNat)
  case atStart => exact ⟨0, Nat.zero_le _, rfl, by simp⟩
  case round =>
    obtain ⟨k, hk, rfl, hno⟩ := hrel
    have HNO : Hid ((l.take k).any now = false) := hno
    clear hno
    by_cases hlt : k < l.length
    · obtain ⟨b, off, rfl, hb, hcs⟩ := hr.at hlt
      have hck := hcs k hlt
      clear hcs
      go_wp2_with (go_at_call 66; refine (now1 _ _).mono ?_; rintro e w' ⟨rfl, rfl⟩)
      · go_ret
        have hh : now l[k] = true := by assumption
        exact ⟨⟨k, rfl, by rw [any_of l k hlt hh]; simp⟩, rfl⟩
      · have hh : now l[k] = false := by assumption
        go_round
        case rel => exact ⟨k + 1, by omega, by go_num, any_step l k hlt HNO.out hh⟩
        case measure => simp [intOf]; omega
    · go_wp2
      go_ret
      have hh := HNO.out
      rw [List.take_of_length_le (by omega)] at hh
      exact ⟨⟨-1, rfl, by rw [hh]; rfl⟩, rfl⟩
theorem nowContains (a : Option Addr) (cap : Nat) (l : List Int) (w : World) (hl : l.length ≤ 9223372036854775807) (hr : Row w a l) :
    Calls Tryz.prog 34 #[.slice a l.length cap, .func (.func 66) #[] #[]] w
      fun e w' => e = .returned (.bool (l.any now)) ∧ w' = w := by
  go_enter Tryz.func34, Tryz.ntmps34
  go_wp2_with fail
  refine (nowIndex a cap l w hl hr).mono ?_
  rintro e w' ⟨⟨r, rfl, hr2⟩, rfl⟩
  have HR := hide hr2
  clear hr2
  go_wp2
  go_ret
  exact ⟨by rw [← unhide HR]; rfl, rfl⟩

theorem check_no (a : Option Addr) (cap : Nat) (l : List Int) (E : Int) (w : World) (hr : Row w a l) (zl : l.length ≤ 9223372036854775807) (hE : Hid (bsF l = E)) (hne : Hid (E ≠ 0)) :
    Calls Tryz.prog 45 #[.slice a l.length cap] w fun e w' => e = .returned (.iface 48 (.int .i64 E)) ∧ w' = w := by
  by_cases h4 : 400 < l.length
  · obtain rfl : E = 4 := by rw [← unhide hE]; unfold bsF; rw [if_pos h4]
    clear hE hne
    go_enter Tryz.func45, Tryz.ntmps45
    go_wp2
    go_ret
    exact ⟨rfl, rfl⟩
  · have hE2 := unhide hE
    unfold bsF at hE2
    rw [if_neg h4] at hE2
    have hany : l.any nob = true := by
      cases h : l.any nob with
      | true => rfl
      | false => rw [h] at hE2; exact absurd hE2.symm (unhide hne)
    obtain rfl : E = 1 := by rw [← hE2, if_pos hany]
    have hcf := nobContains a cap l w zl hr
    rw [hany] at hcf
    clear hE hne hE2 hany
    go_enter Tryz.func45, Tryz.ntmps45
    go_wp2_with fail
    refine hcf.mono ?_
    clear hcf
    rintro e w1 ⟨rfl, rfl⟩
    go_wp2
    go_ret
    exact ⟨rfl, rfl⟩
theorem check_ok (a : Option Addr) (cap : Nat) (l : List Int) (w : World) (hr : Row w a l) (hE : Hid (bsF l = 0)) :
    Calls Tryz.prog 45 #[.slice a l.length cap] w fun e w' => e = .returned .nilIface ∧ w' = w := by
  obtain ⟨h4, hb⟩ := bsF_zero.1 (unhide hE)
  have hcf := nobContains a cap l w (by omega) hr
  rw [nob_any.2 hb] at hcf
  clear hE hb
  go_enter Tryz.func45, Tryz.ntmps45
  go_wp2_with fail
  refine hcf.mono ?_
  clear hcf
  rintro e w1 ⟨rfl, rfl⟩
  go_wp2
  go_ret
  exact ⟨rfl, rfl⟩

theorem pre_w {ws : List Int} (h : Wds ws) {j : Nat} (hj : j ≤ ws.length) : pre ws j ≤ 20 * j := by
  induction j with
  | zero => exact Nat.le_refl _
  | succ j ih =>
    have := ih (by omega)
    have := h j (by omega)
    rw [pre_succ]
    omega

theorem total_no (a : Option Addr) (cap : Nat) (ws : List Int) (w : World) (hr : Row w a ws) (zs : ws.length ≤ 9223372036854775807) (hE : Hid (ws.any now = true)) :
    Calls Tryz.prog 41 #[.slice a ws.length cap] w fun e w' => e = .returned (.tuple #[.int .i64 0, .iface 48 (.int .i64 1)]) ∧ w' = w := by
  have hcf := nowContains a cap ws w zs hr
  rw [unhide hE] at hcf
  clear hE
  go_enter Tryz.func41, Tryz.ntmps41
  go_wp2_with fail
  refine hcf.mono ?_
  clear hcf
  rintro e w1 ⟨rfl, rfl⟩
  go_wp2
  go_ret2
  exact ⟨rfl, rfl⟩
set_option maxHeartbeats 1000000 in
theorem total_ok (a : Option Addr) (cap : Nat) (ws : List Int) (w : World) (hr : Row w a ws) (zs : ws.length ≤ 17592186044416) (hE : Hid (Wds ws)) :
    Calls Tryz.prog 41 #[.slice a ws.length cap] w fun e w' => e = .returned (.tuple #[.int .i64 (total ws : Int), .nilIface]) ∧ w' = w := by
  have hcf := nowContains a cap ws w (by omega) hr
  rw [now_any.2 (unhide hE)] at hcf
  obtain ⟨N, hN⟩ : ∃ N, ws.length = N := ⟨_, rfl⟩
  have HN := hide hN
  obtain ⟨Z, hZ⟩ : ∃ Z, total ws = Z := ⟨_, rfl⟩
  have HZ : Hid (pre ws N = Z) := hide (by rw [← hZ, ← hN]; rfl)
  rw [hZ]
  rw [hN] at hcf zs ⊢
  clear hN hZ
  go_enter Tryz.func41, Tryz.ntmps41
  go_wp2_with fail
  refine hcf.mono ?_
  clear hcf
  rintro e w1 ⟨rfl, rfl⟩
  go_wp2
  go_loopw [4, 12] (fun t i wr => ∃ j T : Nat, j ≤ N ∧ i = .int .i64 j ∧ t = .int .i64 T ∧ Hid (pre ws j = T) ∧ T ≤ 20 * j ∧ wr = w1) (fun _ i _ => N - (intOf i).toNat)
  case atStart => exact ⟨0, 0, Nat.zero_le _, rfl, rfl, rfl, by omega, rfl⟩
  case round =>
    obtain ⟨j, T, hj, rfl, rfl, HT, hT, rfl⟩ := hrel
    by_cases hlt : j < N
    · have hlt' : j < ws.length := by rw [unhide HN]; exact hlt
      obtain ⟨b, off, rfl, hb, hc⟩ := Scl.cell_at hr (by omega)
      have c1 := hc j hlt'
      have h1 := unhide hE j hlt'
      have HS : Hid (pre ws (j + 1) = T + (at0 ws j).toNat) := hide (by rw [pre_succ, unhide HT])
      obtain ⟨X, hX⟩ : ∃ X : Nat, at0 ws j = X := ⟨(at0 ws j).toNat, by omega⟩
      rw [hX] at c1 HS h1
      rw [Int.toNat_natCast] at HS
      have h20 : X ≤ 20 := by omega
      have hT2 : T + X ≤ 20 * (j + 1) := by omega
      clear hc hX hlt' h1 HT
      go_wp2
      go_roundw
      case rel => exact ⟨j + 1, T + X, by omega, by go_num, by go_num, HS, hT2, by first | trivial | rfl⟩
      case measure => simp [intOf]; omega
    · obtain rfl : j = N := by omega
      obtain rfl : T = Z := (unhide HT).symm.trans (unhide HZ)
      go_wp2
      go_ret2
      exact ⟨rfl, rfl⟩

end Go.Proofs.YthkibjhhlcfceajGreatDoor.Wid

/-
  A part of a row ('l[t:q]', 'l[:n]'), whatever lies beneath it: nil and empty ones too.
-/
namespace Go.Proofs.YthkibjhhlcfceajGreatDoor
open Go.RowKit
open Go.Proofs.YthkibjhhlcfceajGreatDoor.Tre
set_option linter.unusedVariables false

set_option maxRecDepth 100000 in
theorem size_ints (w : World) : (sizeOf (Tryz.prog.elem 22)).run Tryz.prog w = .ok 1 w := by
  have h : Tryz.prog.elem 22 = 3 := by kernel_rfl
  obtain ⟨i, hi, hz0, hz1, hz2⟩ := info_parts info_int
  rw [h]
  simp [sizeOf, typeInfo, hi, hz1]
set_option maxRecDepth 100000 in
theorem row_cut {w : World} {a : Option Addr} {l : List Int} (h : Row w a l) (cap : Nat) (hm : l.length ≤ cap) {t q : Nat} (htq : t ≤ q) (hq : q ≤ l.length) :
    ∃ A, (∀ W, (Instr.slice 22 (.slice a l.length cap) (some (.int .i64 t)) (some (.int .i64 q)) none).run Tryz.prog W = .ok (.slice A (q - t) (cap - t)) W) ∧ Row w A ((l.drop t).take (q - t)) := by
  refine ⟨if cap = t then a else a.map (·.add (t * 1)), fun W => ?_, ?_⟩
  · rw [run_slice_lh W 22 a l.length cap Tryz.underlying22 .i64 .i64 t q (by omega) (by omega) (by omega), size_ints]
    simp [Result.andThen, sliced]
  · by_cases he : q = t
    · refine Or.inl ?_
      rw [he, Nat.sub_self, List.take_zero]
    · obtain ⟨b, off, rfl, hb, hc⟩ := h.at (k := 0) (by omega)
      rw [if_neg (by omega), Nat.mul_one, Option.map_some, addr_plain]
      exact (h.drop t).take _
set_option maxRecDepth 100000 in
theorem row_first {w : World} {a : Option Addr} {l : List Int} (h : Row w a l) (cap : Nat) (hm : l.length ≤ cap) {q : Nat} (hq : q ≤ l.length) :
    ∃ A, (∀ W, (Instr.slice 22 (.slice a l.length cap) none (some (.int .i64 q)) none).run Tryz.prog W = .ok (.slice A q cap) W) ∧ Row w A (l.take q) := by
  refine ⟨if cap = 0 then a else a.map (·.add (0 * 1)), fun W => ?_, ?_⟩
  · rw [run_slice_h W 22 a l.length cap Tryz.underlying22 .i64 q (by omega) (by omega), size_ints]
    simp [Result.andThen, sliced]
  · by_cases he : q = 0
    · refine Or.inl ?_
      rw [he, List.take_zero]
    · obtain ⟨b, off, rfl, hb, hc⟩ := h.at (k := 0) (by omega)
      rw [if_neg (by omega), Nat.zero_mul, Option.map_some, addr_plain, Nat.add_zero]
      exact h.take _

end Go.Proofs.YthkibjhhlcfceajGreatDoor

/-
  A slice of bytes that this call has made itself: what it holds, append of one byte, and one byte read or set.
-/
namespace Go.Proofs.YthkibjhhlcfceajGreatDoor
open Go.RowKit
open Go.Proofs.YthkibjhhlcfceajGreatDoor.Tre
set_option linter.unusedVariables false

theorem info_byte : (Tryz.prog.info? 5).map (fun i => (i.zero, i.size, i.bytes)) = some (some (.int .u8 0), 1, 1) := by kernel_rfl

/-- A slice of bytes of this call's own (its block at base or behind) holds l. -/
def HasY (w : World) (base : Nat) (v : Value) (l : List Int) : Prop := w.ownsRow base 5 1 v l.length (l.map (Value.int .u8))

theorem HasY.nil (w : World) (base : Nat) : HasY w base (.slice none 0 0) [] := World.ownsRow_nil _ _ _ _
theorem HasY.kept {w w' : World} {base : Nat} {v : Value} {l : List Int} {row : Option Nat} (h : HasY w base v l) (hg : w.grownBy w' row) (hne : v.ownBlock = none ∨ v.ownBlock ≠ row) : HasY w' base v l := World.ownsRow.kept h hg hne
theorem HasY.alloc {w : World} {base : Nat} {v : Value} {l : List Int} (h : HasY w base v l) (o : Obj) : HasY (w.alloc o) base v l := World.ownsRow.alloc h o
theorem HasY.below {w w' : World} {base : Nat} {v : Value} {l : List Int} (h : HasY w base v l) (hb : Below w.heap.size w w') : HasY w' base v l := by
  refine ⟨h.1, ?_⟩
  rcases h.2 with hn | ⟨g, cap, cur, rfl, hbg, hgg, rest⟩
  · exact .inl hn
  · exact .inr ⟨g, cap, cur, rfl, hbg, (hb.block g (Array.getElem?_eq_some_iff.1 hgg).1).trans hgg, rest⟩
theorem HasY.lt {w : World} {base : Nat} {v : Value} {l : List Int} (h : HasY w base v l) : ∀ k, v.ownBlock = some k → base ≤ k ∧ k < w.heap.size := World.ownsRow.lt h
theorem HasY.shape {w : World} {base : Nat} {v : Value} {l : List Int} (h : HasY w base v l) : ∃ a cap, v = .slice a l.length cap := by
  rcases h.2 with ⟨h1, h2⟩ | ⟨g, cap, cur, hv, _⟩
  · exact ⟨none, 0, by rw [h2]; exact h1⟩
  · exact ⟨some ⟨g, 0, none⟩, cap, hv⟩
theorem HasY.any {w : World} {base : Nat} {v : Value} {l : List Int} (h : HasY w base v l) : ∃ a n cap, v = .slice a n cap := by
  obtain ⟨a, cap, e⟩ := h.shape
  exact ⟨a, _, cap, e⟩
theorem HasY.one {w : World} {base : Nat} {v : Value} {l : List Int} (h : HasY w base v l) (h0 : 0 < l.length) : ∃ g c, v = .slice (some ⟨g, 0, none⟩) l.length c ∧ base ≤ g ∧ g < w.heap.size ∧ l.length ≤ c ∧ c ≤ 9223372036854775807 := by
  rcases h.2 with ⟨_, e⟩ | ⟨g, cap, cur, hv, hb, hg, hn, hm, _⟩
  · omega
  · exact ⟨g, cap, hv, hb, (Array.getElem?_eq_some_iff.1 hg).1, hn, by simpa [maxLen] using hm⟩
theorem HasY.len {w : World} {base g n c : Nat} {l : List Int} (h : HasY w base (.slice (some ⟨g, 0, none⟩) n c) l) : n = l.length := by
  obtain ⟨a, cap, e⟩ := h.shape
  exact (Value.slice.inj e).2.1
theorem HasY.get {w : World} {base g n c : Nat} {l : List Int} (h : HasY w base (.slice (some ⟨g, 0, none⟩) n c) l) {j : Nat} (hj : j < l.length) : w.cell? ⟨g, j, none⟩ = some (.int .u8 (at0 l j)) := by
  obtain rfl := h.len
  rw [World.ownsRow.cellAt h j (by omega)]
  simp [at0, hj]
theorem HasY.put {w : World} {base g n c : Nat} {l : List Int} (h : HasY w base (.slice (some ⟨g, 0, none⟩) n c) l) (j : Nat) (x : Int) :
    HasY (w.setCell ⟨g, j, none⟩ (.int .u8 x)) base (.slice (some ⟨g, 0, none⟩) n c) (l.set j x) ∧ w.grownBy (w.setCell ⟨g, j, none⟩ (.int .u8 x)) (some g) := by
  obtain rfl := h.len
  have := World.ownsRow.stored h j (.int .u8 x)
  rw [← List.map_set] at this
  refine ⟨?_, this.2⟩
  unfold HasY
  rw [List.length_set]
  exact this.1
theorem HasY.frozen {w : World} {base g n c : Nat} {l : List Int} (h : HasY w base (.slice (some ⟨g, 0, none⟩) n c) l) (j : Nat) : w.frozen? ⟨g, j, none⟩ = false := by
  obtain rfl := h.len
  exact World.ownsRow.frozenAt h j

theorem cell_byte (w : World) (x : Int) (t : TypeId) : (w.alloc (.cells #[.int .u8 x] t)).cell? ⟨w.heap.size, 0, none⟩ = some (.int .u8 x) := by rw [World.cell?_alloc_at _ _ _ _ rfl]; rfl
theorem cell_byte' {w : World} {x : Int} {t : TypeId} {n : Nat} (h : w.heap.size = n) : (w.alloc (.cells #[.int .u8 x] t)).cell? ⟨n, 0, none⟩ = some (.int .u8 x) := by subst h; exact cell_byte w x t

/-- append of one byte. -/
theorem run_appy (w : World) (base : Nat) (v : Value) (l : List Int) (x : Int) (ty : TypeId) (hv : HasY w base v l) (b : Nat) (cap : Nat) (hr : w.cell? ⟨b, 0, none⟩ = some (.int .u8 x)) (hlen : l.length + 1 ≤ 1000000) (hbase : base ≤ w.heap.size) :
    ∃ v' w', (Builtin.append_ #[69, 69] ty #[v, .slice (some ⟨b, 0, none⟩) 1 cap]).run Tryz.prog w = .ok v' w' ∧ HasY w' base v' (l ++ [x]) ∧ w.grownBy w' v.ownBlock ∧ (v'.ownBlock = v.ownBlock ∨ v'.ownBlock = some w.heap.size) := by
  obtain ⟨i, hi, hz0, hz1, hz2⟩ := info_parts info_byte
  have hc : ∀ (j : Nat) (u : Value), ([x].map (Value.int .u8))[j]? = some u → w.cell? ((⟨b, 0, none⟩ : Addr).add j) = some u := by
    intro j u hu
    cases j with
    | zero => simp at hu; rw [addr_plain, Nat.add_zero, hr, hu]
    | succ j => simp at hu
  obtain ⟨v', w', h1, h2, h3, h4, h5⟩ := run_append_own_at (P := Tryz.prog) w base 69 ty 5 i (.int .u8 0) 1 1 Tryz.underlying69 hi hz0 hz1 hz2 rfl (by omega) v l.length (l.map (Value.int .u8)) hv ⟨b, 0, none⟩ 1 cap ([x].map (Value.int .u8)) (by simp) hc
    (by intro u hu; obtain ⟨z, _, rfl⟩ := List.mem_map.1 hu; rfl) (by simp only [maxLen]; omega) (by omega) hbase
  refine ⟨v', w', h1, ?_, h3, h5⟩
  unfold HasY
  rw [List.length_append, List.map_append]
  exact h2

theorem wpListIn_appy {F : Fence} {n : Nat} {ops : Array Oper} {rest : List Oper} {o : Oper} {a : Act} {Q : Exit → Act → World → Prop} (w : World) (hgd : o.guard = none) (s x : Operand)
    (ho : o.op = .call { callee := .builtin .append, args := #[s, x], argTypes := #[69, 69] }) (base : Nat) (v : Value) (l : List Int) (c : Int) (b cap : Nat) (hs : a.eval s = v) (hv : HasY w base v l)
    (hx : a.eval x = .slice (some ⟨b, 0, none⟩) 1 cap) (hr : w.cell? ⟨b, 0, none⟩ = some (.int .u8 c)) (hlen : l.length + 1 ≤ 1000000) (hbase : base ≤ w.heap.size)
    (h : ∀ v' w', HasY w' base v' (l ++ [c]) → w.grownBy w' v.ownBlock → (v'.ownBlock = v.ownBlock ∨ v'.ownBlock = some w.heap.size) → wpListIn F n Tryz.prog ops Q rest (a.put o.dst v') w') :
    wpListIn F n Tryz.prog ops Q (o :: rest) a w := by
  refine wpListIn_plain hgd fun K hK => ?_
  obtain ⟨v', w', hrun, h2, h3, h4⟩ := run_appy w base v l c o.type hv b cap hr hlen hbase
  unfold Oper.wpIn
  refine ⟨?_, ?_⟩
  · simp [Oper.about, ho, resolve, Target.leads, Sem.run_pure]
  · rw [Oper.semAt_plain F _ _ (by rw [ho]; intro c hc'; cases hc')]
    simp [execOp, ho, resolve, invoke, builtin, hs, hx, hrun, Result.andThen]
    exact hK _ _ (h v' w' h2 h3 h4)

end Go.Proofs.YthkibjhhlcfceajGreatDoor
