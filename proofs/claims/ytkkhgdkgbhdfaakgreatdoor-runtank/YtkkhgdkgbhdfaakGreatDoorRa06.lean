/-
  append, as a step of a region that draws its order.
-/
import Derived.Test.YtkkhgdkgbhdfaakGreatDoorRa05
import Derived.Deep.RegionLaw
import Derived.Deep.QuietTactic
import Derived.BigQuiet
import Derived.Test.YtkkhgdkgbhdfaakGreatDoorRa00
import Derived.Test.YtkkhgdkgbhdfaakGreatDoorRa01
namespace Go.Proofs.YtkkhgdkgbhdfaakGreatDoor
open Go.RowKit
set_option linter.unusedVariables false

theorem step_app {ops : Array Oper} {o : Oper} {a : Act} {K : Act → World → Prop} {Q : Exit → Act → World → Prop} {E : Prop} (w : World) (hgd : o.guard = none) (s x : Operand)
    (ho : o.op = .call { callee := .builtin .append, args := #[s, x], argTypes := #[22, 22] }) (base : Nat) (v : Value) (l m : List Int) (ad : Option Addr) (cap : Nat) (hs : a.eval s = v) (hv : Has w base v l)
    (hx : a.eval x = .slice ad m.length cap) (hr : Row w ad m) (hlen : l.length + m.length ≤ 1000000) (hbase : base ≤ w.heap.size)
    (h : ∀ v' w', Has w' base v' (l ++ m) → w.grownBy w' v.ownBlock → (v'.ownBlock = v.ownBlock ∨ v'.ownBlock = some w.heap.size) → K (a.put o.dst v') w') :
    if Region.wanted o (yielded ops a.tmps) = true then Oper.wp Tryz.prog o a w K Q else E := by
  have hw : Region.wanted o (yielded ops a.tmps) = true := by simp [Region.wanted, hgd]
  rw [if_pos hw]
  obtain ⟨v', w', hrun, h2, h3, h4, _⟩ := run_app w base v l m o.type hv ad cap hr hlen hbase
  unfold Oper.wp
  simp [execOp, ho, resolve, invoke, builtin, hs, hx, hrun, Result.andThen]
  exact h v' w' h2 h3 h4

/-- Two slices do not lie in one row. -/
def Off (u v : Value) : Prop := u.ownBlock = none ∨ u.ownBlock ≠ v.ownBlock
theorem Off.symm {u v : Value} (h : Off u v) : Off v u := by
  unfold Off at *
  rcases h with h | h
  · by_cases hv : v.ownBlock = none
    · exact Or.inl hv
    · exact Or.inr (by rw [h]; exact hv)
  · exact Or.inr (Ne.symm h)

/-- 'x = append(x, ..)', x in no box: all that a walk owes behind it. -/
theorem stepped_plain {W w1 : World} {n₀ : Nat} {v v' : Value} {l l' : List Int} {tmp : Obj} (h : Has W n₀ v l) (hn : n₀ ≤ W.heap.size)
    (h' : Has w1 n₀ v' l') (hg : (W.alloc tmp).grownBy w1 v.ownBlock) (hat : v'.ownBlock = v.ownBlock ∨ v'.ownBlock = some (W.alloc tmp).heap.size) :
    Below n₀ W w1 ∧ (∀ u m, Has W n₀ u m → Off u v → Has w1 n₀ u m ∧ Off u v') := by
  refine ⟨((Below.refl n₀ W).alloc hn tmp).grown hg (by simp; omega) (fun j e => (h.lt j e).1), fun u m hu ha => ⟨(hu.alloc tmp).kept hg ha, ?_⟩⟩
  rcases hat with e | e
  · unfold Off; rw [e]; exact ha
  · cases hb : u.ownBlock with
    | none => exact Or.inl hb
    | some k =>
      refine Or.inr ?_
      rw [e, hb]
      have := (hu.lt k hb).2
      intro hh
      cases hh
      simp at this
      omega

end Go.Proofs.YtkkhgdkgbhdfaakGreatDoor

/-
  A slice of integers of this call's own: one number is read, or set.
-/
namespace Go.Proofs.YtkkhgdkgbhdfaakGreatDoor
open Go.RowKit
open Go.Proofs.YtkkhgdkgbhdfaakGreatDoor.Tre
set_option linter.unusedVariables false

/-- .. where it is none, and where it is one. -/
theorem Has.one {w : World} {base : Nat} {v : Value} {l : List Int} (h : Has w base v l) (h0 : 0 < l.length) : ∃ g c, v = .slice (some ⟨g, 0, none⟩) l.length c ∧ base ≤ g ∧ g < w.heap.size ∧ l.length ≤ c ∧ c ≤ 9223372036854775807 := by
  rcases h.2 with ⟨_, e⟩ | ⟨g, cap, cur, hv, hb, hg, hn, hm, _⟩
  · omega
  · exact ⟨g, cap, hv, hb, (Array.getElem?_eq_some_iff.1 hg).1, hn, by simpa [maxLen] using hm⟩
theorem Has.get {w : World} {base g n c : Nat} {l : List Int} (h : Has w base (.slice (some ⟨g, 0, none⟩) n c) l) {j : Nat} (hj : j < l.length) : w.cell? ⟨g, j, none⟩ = some (.int .i64 (at0 l j)) := by
  obtain ⟨a, cap, e, hr⟩ := h.row
  obtain ⟨b, off, e', hb, hcs⟩ := hr.at hj
  subst e'
  obtain ⟨e1, e2, e3⟩ := Value.slice.inj e
  cases e1
  have := hcs j hj
  rw [Nat.zero_add] at this
  rw [this, List.getD_eq_getElem?_getD]; rfl
theorem Has.put {w : World} {base g n c : Nat} {l : List Int} (h : Has w base (.slice (some ⟨g, 0, none⟩) n c) l) (j : Nat) (x : Int) :
    Has (w.setCell ⟨g, j, none⟩ (.int .i64 x)) base (.slice (some ⟨g, 0, none⟩) n c) (l.set j x) ∧ w.grownBy (w.setCell ⟨g, j, none⟩ (.int .i64 x)) (some g) := by
  obtain ⟨a, cap, e, _⟩ := h.row
  obtain ⟨e1, e2, e3⟩ := Value.slice.inj e
  subst e2
  have := World.ownsRow.stored h j (.int .i64 x)
  rw [← List.map_set] at this
  refine ⟨?_, this.2⟩
  unfold Has
  rw [List.length_set]
  exact this.1
theorem Has.frozen {w : World} {base g n c : Nat} {l : List Int} (h : Has w base (.slice (some ⟨g, 0, none⟩) n c) l) (j : Nat) : w.frozen? ⟨g, j, none⟩ = false := by
  obtain ⟨a, cap, e, _⟩ := h.row
  obtain ⟨e1, e2, e3⟩ := Value.slice.inj e
  subst e2
  exact World.ownsRow.frozenAt h j
/-- A number of one list is set: the other list stays. -/
theorem Has.beside {w w' : World} {base : Nat} {u v : Value} {m : List Int} {g n c : Nat} (hu : Has w base u m) (hv : v = .slice (some ⟨g, 0, none⟩) n c) (ho : Off u v) (hg : w.grownBy w' (some g)) : Has w' base u m := by
  refine hu.kept hg ?_
  unfold Off at ho
  rw [hv] at ho
  exact ho
theorem Has.inRow {w : World} {base : Nat} {v : Value} {l : List Int} (h : Has w base v l) {a : Option Addr} {n c : Nat} (e : v = .slice a n c) : n = l.length ∧ Row w a l := by
  obtain ⟨a', cap, e', hr⟩ := h.row
  rw [e] at e'
  obtain ⟨e1, e2, e3⟩ := Value.slice.inj e'
  subst e1 e2
  exact ⟨rfl, hr⟩

/-- One slice grows: another one stays, and does not lie in its row. -/
theorem apart {W w1 : World} {n₀ : Nat} {u v v' : Value} {m : List Int} (hu : Has W n₀ u m) (hg : W.grownBy w1 v.ownBlock) (hat : v'.ownBlock = v.ownBlock ∨ v'.ownBlock = some W.heap.size) (ho : Off u v) : Has w1 n₀ u m ∧ Off u v' := by
  refine ⟨hu.kept hg ho, ?_⟩
  rcases hat with e | e
  · unfold Off; rw [e]; exact ho
  · cases hb : u.ownBlock with
    | none => exact Or.inl hb
    | some k =>
      refine Or.inr ?_
      rw [e, hb]
      have := (hu.lt k hb).2
      intro hh
      cases hh
      omega
theorem off_nil (u : Value) : Off u (.slice none 0 0) := by
  cases h : u.ownBlock with
  | none => exact Or.inl h
  | some k => exact Or.inr (by rw [h]; intro e; cases e)
/-- The first of a row, and the rest. -/
theorem Row.take {w : World} {a : Option Addr} {l : List Int} (h : Row w a l) (k : Nat) : Row w a (l.take k) := by
  by_cases h0 : l.take k = []
  · exact Or.inl h0
  · have hp : 0 < (l.take k).length := List.length_pos_iff.2 h0
    rw [List.length_take] at hp
    obtain ⟨b, off, e, hb, hcs⟩ := h.at (k := 0) (by omega)
    refine Or.inr ⟨b, off, e, hb, fun j hj => ?_⟩
    rw [List.length_take] at hj
    rw [hcs j (by omega)]
    simp [List.getD_eq_getElem?_getD, show j < k by omega]
theorem Row.drop {w : World} {b off : Nat} {l : List Int} (h : Row w (some ⟨b, off, none⟩) l) (k : Nat) : Row w (some ⟨b, off + k, none⟩) (l.drop k) := by
  by_cases h0 : l.drop k = []
  · exact Or.inl h0
  · have hp : 0 < (l.drop k).length := List.length_pos_iff.2 h0
    rw [List.length_drop] at hp
    obtain ⟨b', off', e, hb, hcs⟩ := h.at (k := 0) (by omega)
    cases e
    refine Or.inr ⟨b, off + k, rfl, hb, fun j hj => ?_⟩
    rw [List.length_drop] at hj
    rw [Nat.add_assoc, hcs (k + j) (by omega)]
    simp [List.getD_eq_getElem?_getD]

end Go.Proofs.YtkkhgdkgbhdfaakGreatDoor

/-
  A slice of texts: one that this call has made itself (append of one), and one that lies somewhere.
-/
namespace Go.Proofs.YtkkhgdkgbhdfaakGreatDoor
open Go.RowKit
open Go.Proofs.YtkkhgdkgbhdfaakGreatDoor.Tre
set_option linter.unusedVariables false

theorem info_str : (Tryz.prog.info? 9).map (fun i => (i.zero, i.size, i.bytes)) = some (some (.string ⟨#[]⟩), 1, 16) := by kernel_rfl

/-- The texts of a slice lie in memory. -/
def RowT (w : World) (a : Option Addr) (l : List ByteArray) : Prop :=
  l = [] ∨ ∃ b off, a = some ⟨b, off, none⟩ ∧ b < w.heap.size ∧ ∀ j, j < l.length → w.cell? ⟨b, off + j, none⟩ = some (.string (l.getD j ⟨#[]⟩))
theorem RowT.below {w w' : World} {a : Option Addr} {l : List ByteArray} (h : RowT w a l) (hb : Below w.heap.size w w') : RowT w' a l := by
  rcases h with h | ⟨b, off, e, hlt, hc⟩
  · exact Or.inl h
  · exact Or.inr ⟨b, off, e, Nat.lt_of_lt_of_le hlt hb.size, fun j hj => (hb.cell (p := ⟨b, off + j, none⟩) hlt).trans (hc j hj)⟩
theorem RowT.at {w : World} {a : Option Addr} {l : List ByteArray} (h : RowT w a l) {k : Nat} (hk : k < l.length) : ∃ b off, a = some ⟨b, off, none⟩ ∧ b < w.heap.size ∧ ∀ j, j < l.length → w.cell? ⟨b, off + j, none⟩ = some (.string (l.getD j ⟨#[]⟩)) := by
  rcases h with h | h
  · subst h; exact absurd hk (by simp)
  · exact h

/-- A slice of texts of this call's own (its block at base or behind) holds l. -/
def HasT (w : World) (base : Nat) (v : Value) (l : List ByteArray) : Prop := w.ownsRow base 9 1 v l.length (l.map Value.string)
theorem HasT.nil (w : World) (base : Nat) : HasT w base (.slice none 0 0) [] := World.ownsRow_nil _ _ _ _
theorem HasT.kept {w w' : World} {base : Nat} {v : Value} {l : List ByteArray} {row : Option Nat} (h : HasT w base v l) (hg : w.grownBy w' row) (hne : v.ownBlock = none ∨ v.ownBlock ≠ row) : HasT w' base v l := World.ownsRow.kept h hg hne
theorem HasT.alloc {w : World} {base : Nat} {v : Value} {l : List ByteArray} (h : HasT w base v l) (o : Obj) : HasT (w.alloc o) base v l := World.ownsRow.alloc h o
theorem HasT.below {w w' : World} {base : Nat} {v : Value} {l : List ByteArray} (h : HasT w base v l) (hb : Below w.heap.size w w') : HasT w' base v l := by
  refine ⟨h.1, ?_⟩
  rcases h.2 with hn | ⟨g, cap, cur, rfl, hbg, hgg, rest⟩
  · exact .inl hn
  · exact .inr ⟨g, cap, cur, rfl, hbg, (hb.block g (Array.getElem?_eq_some_iff.1 hgg).1).trans hgg, rest⟩
theorem HasT.lt {w : World} {base : Nat} {v : Value} {l : List ByteArray} (h : HasT w base v l) : ∀ k, v.ownBlock = some k → base ≤ k ∧ k < w.heap.size := World.ownsRow.lt h
theorem HasT.mono {w : World} {base base' : Nat} {v : Value} {l : List ByteArray} (h : HasT w base v l) (hb : base' ≤ base) : HasT w base' v l := by
  refine ⟨h.1, ?_⟩
  rcases h.2 with hn | ⟨k, cap, cur, rfl, hbg, rest⟩
  · exact .inl hn
  · exact .inr ⟨k, cap, cur, rfl, Nat.le_trans hb hbg, rest⟩
theorem HasT.shape {w : World} {base : Nat} {v : Value} {l : List ByteArray} (h : HasT w base v l) : ∃ a cap, v = .slice a l.length cap ∧ RowT w a l ∧ l.length ≤ cap ∧ cap ≤ 9223372036854775807 := by
  have h' := h
  rcases h.2 with ⟨h1, h2⟩ | ⟨g, cap, cur, hv, hb, hg, hn, hm, _⟩
  · have e : l = [] := List.length_eq_zero_iff.1 (by omega)
    subst e
    exact ⟨none, 0, h1, Or.inl rfl, Nat.le_refl _, by omega⟩
  · refine ⟨some ⟨g, 0, none⟩, cap, hv, Or.inr ⟨g, 0, rfl, (Array.getElem?_eq_some_iff.1 hg).1, fun j hj => ?_⟩, hn, by simpa [maxLen] using hm⟩
    subst hv
    rw [Nat.zero_add, World.ownsRow.cellAt h' j (by omega)]
    simp [List.getD_eq_getElem?_getD, hj]

/-- append of one text. -/
theorem run_appt (w : World) (base : Nat) (v : Value) (l : List ByteArray) (x : ByteArray) (ty : TypeId) (hv : HasT w base v l) (b off cap : Nat) (hr : w.cell? ⟨b, off, none⟩ = some (.string x)) (hlen : l.length + 1 ≤ 1000000) (hbase : base ≤ w.heap.size) :
    ∃ v' w', (Builtin.append_ #[23, 23] ty #[v, .slice (some ⟨b, off, none⟩) 1 cap]).run Tryz.prog w = .ok v' w' ∧ HasT w' base v' (l ++ [x]) ∧ w.grownBy w' v.ownBlock ∧ (v'.ownBlock = v.ownBlock ∨ v'.ownBlock = some w.heap.size) := by
  obtain ⟨i, hi, hz0, hz1, hz2⟩ := info_parts info_str
  have hc : ∀ (j : Nat) (u : Value), ([x].map Value.string)[j]? = some u → w.cell? ((⟨b, off, none⟩ : Addr).add j) = some u := by
    intro j u hu
    cases j with
    | zero => simp at hu; rw [addr_plain, Nat.add_zero, hr, hu]
    | succ j => simp at hu
  obtain ⟨v', w', h1, h2, h3, h4, h5⟩ := run_append_own_at (P := Tryz.prog) w base 23 ty 9 i (.string ⟨#[]⟩) 1 16 Tryz.underlying23 hi hz0 hz1 hz2 rfl (by omega) v l.length (l.map Value.string) hv ⟨b, off, none⟩ 1 cap ([x].map Value.string) (by simp) hc
    (by intro u hu; obtain ⟨z, _, rfl⟩ := List.mem_map.1 hu; rfl) (by simp only [maxLen]; omega) (by omega) hbase
  refine ⟨v', w', h1, ?_, h3, h5⟩
  unfold HasT
  rw [List.length_append, List.map_append]
  exact h2
theorem wpList_appt {ops : Array Oper} {rest : List Oper} {o : Oper} {a : Act} {Q : Exit → Act → World → Prop} (w : World) (hgd : o.guard = none) (s x : Operand)
    (ho : o.op = .call { callee := .builtin .append, args := #[s, x], argTypes := #[23, 23] }) (base : Nat) (v : Value) (l : List ByteArray) (c : ByteArray) (b off cap : Nat) (hs : a.eval s = v) (hv : HasT w base v l)
    (hx : a.eval x = .slice (some ⟨b, off, none⟩) 1 cap) (hr : w.cell? ⟨b, off, none⟩ = some (.string c)) (hlen : l.length + 1 ≤ 1000000) (hbase : base ≤ w.heap.size)
    (h : ∀ v' w', HasT w' base v' (l ++ [c]) → w.grownBy w' v.ownBlock → (v'.ownBlock = v.ownBlock ∨ v'.ownBlock = some w.heap.size) → wpList Tryz.prog ops Q rest (a.put o.dst v') w') :
    wpList Tryz.prog ops Q (o :: rest) a w := by
  refine wpList_plain hgd fun K hK => ?_
  obtain ⟨v', w', hrun, h2, h3, h4⟩ := run_appt w base v l c o.type hv b off cap hr hlen hbase
  unfold Oper.wp
  simp [execOp, ho, resolve, invoke, builtin, hs, hx, hrun, Result.andThen]
  exact hK _ _ (h v' w' h2 h3 h4)
theorem cell_str (w : World) (x : ByteArray) (t : TypeId) : (w.alloc (.cells #[.string x] t)).cell? ⟨w.heap.size, 0, none⟩ = some (.string x) := by rw [World.cell?_alloc_at _ _ _ _ rfl]; rfl

end Go.Proofs.YtkkhgdkgbhdfaakGreatDoor

/-
  An error as a value that may be none; what a slice of this call's own has room for.
-/
namespace Go.Proofs.YtkkhgdkgbhdfaakGreatDoor.Ev
open Go.RowKit
open Go.Proofs.YtkkhgdkgbhdfaakGreatDoor.Tre
set_option linter.unusedVariables false

/-- An error as a value. -/
def errV (e : Int) : Value := if e = 0 then .nilIface else .iface 58 (.int .i64 e)
theorem errV_zero : errV 0 = .nilIface := rfl
theorem errV_ne {e : Int} (h : e ≠ 0) : errV e = .iface 58 (.int .i64 e) := by simp [errV, h]
/-- .. as a slice and a row, with its room. -/
theorem has_room {w : World} {base : Nat} {v : Value} {l : List Int} (h : Has w base v l) : ∃ a cap, v = .slice a l.length cap ∧ Row w a l ∧ l.length ≤ cap ∧ cap ≤ 9223372036854775807 := by
  obtain ⟨a, cap, e, hr⟩ := h.row
  rcases h.2 with ⟨h1, h2⟩ | ⟨g, c, cur, hv, hb, hg, hn, hm, _⟩
  · rw [h1] at e
    obtain ⟨e1, e2, e3⟩ := Value.slice.inj e
    exact ⟨a, cap, by rw [h1]; exact e, hr, by omega, by omega⟩
  · rw [hv] at e
    obtain ⟨e1, e2, e3⟩ := Value.slice.inj e
    subst e3
    exact ⟨a, c, by rw [hv]; exact e, hr, hn, by simpa [maxLen] using hm⟩
theorem guard_err (op : BinOp) (t : TypeId) (x : Operand) (E : Int) (w : World) : (eqGuard op t x (Operand.const Value.nilIface) (errV E) Value.nilIface).run Tryz.prog w = .ok () w := by
  unfold eqGuard errV
  by_cases h : E = 0
  · rw [if_pos h]
    cases op <;> simp [Sem.run_pure]
  · rw [if_neg h]
    cases op <;> simp [Sem.run_pure]
theorem neq_err (E : Int) (w : World) : (binOp BinOp.neq 26 (errV E) Value.nilIface).run Tryz.prog w = .ok (.bool (decide (E ≠ 0))) w := by
  unfold errV
  by_cases h : E = 0
  · rw [if_pos h]
    simp [h, go_sem]
  · rw [if_neg h]
    simp [h, go_sem]
theorem eql_err (E : Int) (w : World) : (binOp BinOp.eql 26 (errV E) Value.nilIface).run Tryz.prog w = .ok (.bool (decide (E = 0))) w := by
  unfold errV
  by_cases h : E = 0
  · rw [if_pos h]
    simp [h, go_sem]
  · rw [if_neg h]
    simp [h, go_sem]

end Go.Proofs.YtkkhgdkgbhdfaakGreatDoor.Ev

/-
  A part of a row ('l[t:q]', 'l[:n]'), whatever lies beneath it: nil and empty ones too.
-/
namespace Go.Proofs.YtkkhgdkgbhdfaakGreatDoor
open Go.RowKit
open Go.Proofs.YtkkhgdkgbhdfaakGreatDoor.Tre
set_option linter.unusedVariables false

set_option maxRecDepth 100000 in
theorem size_ints (w : World) : (sizeOf (Tryz.prog.elem 22)).run Tryz.prog w = .ok 1 w := by
  have h : Tryz.prog.elem 22 = 3 := by kernel_rfl
  obtain ⟨i, hi, hz0, hz1, hz2⟩ := info_parts info_int
  rw [h]
  simp [sizeOf, typeInfo, hi, hz1]
set_option maxRecDepth 100000 in
theorem row_cut {w : World} {a : Option Addr} {l : List Int} (h : Row w a l) (cap : Nat) (hm : l.length ≤ cap) {t q : Nat} (htq : t ≤ q) (hq : q ≤ l.length) :
    ∃ A, (∀ W, (Instr.slice 22 (.slice a l.length cap) (some (.int .i64 t)) (some (.int .i64 q)) none).run Tryz.prog W = .ok (.slice A (q - t) (cap - t)) W) ∧ Row w A ((l.drop t).take (q - t)) := by
  refine ⟨if cap = t then a else a.map (·.add (t * 1)), fun W => ?_, ?_⟩
  · rw [run_slice_lh W 22 a l.length cap Tryz.underlying22 .i64 .i64 t q (by omega) (by omega) (by omega), size_ints]
    simp [Result.andThen, sliced]
  · by_cases he : q = t
    · refine Or.inl ?_
      rw [he, Nat.sub_self, List.take_zero]
    · obtain ⟨b, off, rfl, hb, hc⟩ := h.at (k := 0) (by omega)
      rw [if_neg (by omega), Nat.mul_one, Option.map_some, addr_plain]
      exact (h.drop t).take _
set_option maxRecDepth 100000 in
theorem row_first {w : World} {a : Option Addr} {l : List Int} (h : Row w a l) (cap : Nat) (hm : l.length ≤ cap) {q : Nat} (hq : q ≤ l.length) :
    ∃ A, (∀ W, (Instr.slice 22 (.slice a l.length cap) none (some (.int .i64 q)) none).run Tryz.prog W = .ok (.slice A q cap) W) ∧ Row w A (l.take q) := by
  refine ⟨if cap = 0 then a else a.map (·.add (0 * 1)), fun W => ?_, ?_⟩
  · rw [run_slice_h W 22 a l.length cap Tryz.underlying22 .i64 q (by omega) (by omega), size_ints]
    simp [Result.andThen, sliced]
  · by_cases he : q = 0
    · refine Or.inl ?_
      rw [he, List.take_zero]
    · obtain ⟨b, off, rfl, hb, hc⟩ := h.at (k := 0) (by omega)
      rw [if_neg (by omega), Nat.zero_mul, Option.map_some, addr_plain, Nat.add_zero]
      exact h.take _

end Go.Proofs.YtkkhgdkgbhdfaakGreatDoor

/-
  A list of this call's own of which the first are already new: one more is set.
-/
namespace Go.Proofs.YtkkhgdkgbhdfaakGreatDoor.Mid
open Go.RowKit
open Go.Proofs.YtkkhgdkgbhdfaakGreatDoor.Tre Go.Proofs.YtkkhgdkgbhdfaakGreatDoor.Lap
set_option linter.unusedVariables false

theorem row_cell {w : World} {a : Option Addr} {l : List Int} (h : Row w a l) (h0 : 0 < l.length) : ∃ b off, a = some ⟨b, off, none⟩ ∧ b < w.heap.size ∧ ∀ j, j < l.length → w.cell? ⟨b, off + j, none⟩ = some (.int .i64 (at0 l j)) := by
  obtain ⟨b, off, e, hb, hc⟩ := h.at h0
  exact ⟨b, off, e, hb, fun j hj => (hc j hj).trans (by rw [List.getD_eq_getElem?_getD]; rfl)⟩

theorem put_mid {wr : World} {base g n c j : Nat} {f f0 : Nat → Int} {X : Int} (h : Has wr base (.slice (some ⟨g, 0, none⟩) n c) (mid f f0 n j)) (hj : j < n) (hx : f j = X) (q : Nat) :
    Has ((wr.drewN q).setCell ⟨g, j, none⟩ (.int .i64 X)) base (.slice (some ⟨g, 0, none⟩) n c) (mid f f0 n (j + 1)) ∧
      (∀ u m, Has wr base u m → Off u (.slice (some ⟨g, 0, none⟩) n c) → Has ((wr.drewN q).setCell ⟨g, j, none⟩ (.int .i64 X)) base u m) ∧
      (∀ w, Below base w wr → base ≤ g → Below base w ((wr.drewN q).setCell ⟨g, j, none⟩ (.int .i64 X))) := by
  have h1 : Has (wr.drewN q) base (.slice (some ⟨g, 0, none⟩) n c) (mid f f0 n j) := h
  obtain ⟨h2, h3⟩ := h1.put j X
  refine ⟨?_, fun u m hu ho => ?_, fun w hb hg => ?_⟩
  · rw [← mid_set f f0 hj, hx]; exact h2
  · exact Has.beside (show Has (wr.drewN q) base u m from hu) rfl ho h3
  · exact Below.setCell (w := wr.drewN q) (p := ⟨g, j, none⟩) (hb.trans ⟨rfl, rfl, rfl, Nat.le_refl _, fun _ _ => rfl⟩) hg _

end Go.Proofs.YtkkhgdkgbhdfaakGreatDoor.Mid

/-
  sound.sum of distances, sound.Distances of a few numbers: by their contracts.
-/
namespace Go.Proofs.YtkkhgdkgbhdfaakGreatDoor.Pls
open Go.RowKit
open Go.Proofs.YtkkhgdkgbhdfaakGreatDoor.Tre
set_option linter.unusedVariables false

set_option maxHeartbeats 400000 in
theorem sumL (a : Option Addr) (cap : Nat) (l : List Int) (w : World) (hl : l.length ≤ 32) (hi : In 4000 l) (hr : Row w a l) :
    Calls Tryz.prog 165 #[.slice a l.length cap, .func (.func 102) #[] #[]] w fun e w' => e = .returned (.int .i64 (loud l : Int)) ∧ w = w' := by
  go_enter Tryz.func165, Tryz.ntmps165
  go_wp2
  go_loop [5, 10] (fun t i => ∃ k t' : Nat, k ≤ l.length ∧ i = .int .i64 k ∧ t = .int .i64 t' ∧ Hid (t' = loud (l.take k)) ∧ t' ≤ 128000) (fun _ i => l.length - (intOf i).toNat)
  case atStart => exact ⟨0, 0, Nat.zero_le _, rfl, rfl, rfl, by omega⟩
  case round =>
    obtain ⟨k, t, hk, rfl, rfl, HT, ht⟩ := hrel
    by_cases hlt : k < l.length
    · obtain ⟨b, off, rfl, hb, hcs⟩ := hr.at hlt
      have hck := hcs k hlt
      clear hcs
      obtain ⟨e1, e2⟩ := hi _ (List.getElem_mem hlt)
      have HS : Hid (t + l[k].natAbs = loud (l.take (k + 1))) := hide (by rw [loud_step hlt, unhide HT])
      have HB : Hid (t + l[k].natAbs ≤ 128000) := hide (by
        have h1 := loud_in (b := 4000) (hi.take (k + 1))
        rw [← unhide HS] at h1
        have h2 := List.length_take_le (k + 1) l
        omega)
      have hn : l[k].natAbs ≤ 4000 := by omega
      go_wp2_with fail
      refine (dist l[k] w (by omega) (by omega)).mono ?_
      obtain ⟨d, hd⟩ : ∃ d, l[k].natAbs = d := ⟨_, rfl⟩
      rw [hd] at HS HB hn ⊢
      clear hd
      rintro e w' ⟨rfl, rfl⟩
      go_wp2
      go_round
      case rel => exact ⟨k + 1, t + d, by omega, by go_num, by go_num, HS, unhide HB⟩
      case measure => simp [intOf]; omega
    · go_wp2
      go_ret
      exact ⟨ret_int (by rw [unhide HT, List.take_of_length_le (by omega)]), rfl⟩

theorem dists (a : Option Addr) (cap : Nat) (l : List Int) (w : World) (hl : l.length ≤ 32) (hi : In 4000 l) (hr : Row w a l) :
    Calls Tryz.prog 131 #[.slice a l.length cap] w fun e w' => e = .returned (.int .i64 (loud l : Int)) ∧ w = w' := by
  go_enter Tryz.func131, Tryz.ntmps131
  go_wp2_with fail
  refine (sumL a cap l w hl hi hr).mono ?_
  rintro e w2 ⟨rfl, rfl⟩
  go_wp2
  go_ret
  exact ⟨rfl, rfl⟩

end Go.Proofs.YtkkhgdkgbhdfaakGreatDoor.Pls

/-
  sound.Loud of a few numbers: by their contracts.
-/
namespace Go.Proofs.YtkkhgdkgbhdfaakGreatDoor.Pls
open Go.RowKit
open Go.Proofs.YtkkhgdkgbhdfaakGreatDoor.Tre Go.Proofs.YtkkhgdkgbhdfaakGreatDoor.Lap
set_option linter.unusedVariables false

theorem loud_ok (a : Option Addr) (cap : Nat) (l : List Int) (w : World) (hl : l.length ≤ 32) (hi : In 1000 l) (hr : Row w a l) :
    Calls Tryz.prog 130 #[.slice a l.length cap] w fun e w' => e = .returned (.tuple #[.int .i64 (loud l : Int), .nilIface]) ∧ Below w.heap.size w w' := by
  go_enter Tryz.func130, Tryz.ntmps130
  go_wp2_with fail
  refine (snd_ok a cap l w hl hi hr).mono ?_
  rintro e w1 ⟨rfl, hb1⟩
  have hr1 := hr.below hb1
  go_wp2_with fail
  refine (dists a cap l w1 hl (hi.mono (by omega)) hr1).mono ?_
  rintro e w2 ⟨rfl, rfl⟩
  go_wp2
  go_ret2
  exact ⟨rfl, hb1⟩

end Go.Proofs.YtkkhgdkgbhdfaakGreatDoor.Pls

/-
  Package pulse: Check: by its contracts.
-/
namespace Go.Proofs.YtkkhgdkgbhdfaakGreatDoor.Pls
open Go.RowKit
open Go.Proofs.YtkkhgdkgbhdfaakGreatDoor.Tre Go.Proofs.YtkkhgdkgbhdfaakGreatDoor.Lap
set_option linter.unusedVariables false

set_option maxHeartbeats 1000000 in
theorem check_ok (a : Option Addr) (cap : Nat) (l : List Int) (w : World) (hr : Row w a l) (h : Hid (fault l = 0)) :
    Calls Tryz.prog 100 #[.slice a l.length cap] w fun e w' => e = .returned (.tuple #[.int .i64 (loud l : Int), .nilIface]) ∧ Below w.heap.size w w' := by
  obtain ⟨h1, h2, h3⟩ := fault_ok (unhide h)
  have hb1 : Below w.heap.size w (w.alloc (.cells #[.int .i64 8] 3)) := (Below.refl _ _).alloc (Nat.le_refl _) _
  have HA := hide (any_of_in h2)
  have hr1 := hr.below hb1
  have hL := hide (loud_ok a cap l (w.alloc (.cells #[.int .i64 8] 3)) (by omega) (h2.mono (by omega)) hr1)
  obtain ⟨k, hk⟩ : ∃ k, loud l = k := ⟨_, rfl⟩
  rw [hk] at hL h3 ⊢
  clear hk
  go_enter Tryz.func100, Tryz.ntmps100
  go_wp2_with fail
  refine (beyond 8 w).mono ?_
  rintro e w1 ⟨rfl, rfl⟩
  go_wp2_with fail
  refine (containsFunc 8 a cap l w.heap.size (w.alloc (.cells #[.int .i64 8] 3)) (by omega) (by omega) (by omega) hr1 (boxed_cell w 8 3)).mono ?_
  rw [unhide HA]
  rintro e w1 ⟨rfl, rfl⟩
  go_wp2_with fail
  refine (unhide hL).mono ?_
  rintro e w2 ⟨rfl, hb2⟩
  go_wp2
  go_ret2
  exact ⟨rfl, Below.chain hb1 hb2⟩

set_option maxHeartbeats 1000000 in
theorem check_no (a : Option Addr) (cap : Nat) (l : List Int) (w : World) (hl : l.length ≤ 9223372036854775807) (hr : Row w a l) (h : Hid (fault l ≠ 0)) :
    Calls Tryz.prog 100 #[.slice a l.length cap] w fun e w' => e = .returned (.tuple #[.int .i64 0, .iface 58 (.int .i64 (fault l))]) ∧ Below w.heap.size w w' := by
  by_cases h1 : 6 < l.length
  · have hv : fault l = 4 := by unfold fault; rw [if_pos h1]
    rw [hv]
    clear hv h
    go_enter Tryz.func100, Tryz.ntmps100
    go_wp2
    go_ret2
    exact ⟨rfl, Below.refl _ _⟩
  · have hb1 : Below w.heap.size w (w.alloc (.cells #[.int .i64 8] 3)) := (Below.refl _ _).alloc (Nat.le_refl _) _
    have hr1 := hr.below hb1
    cases hany : l.any (out 8)
    · have h2 : In 8 l := in_of_any hany
      have hk : 8 < loud l := by
        rcases Nat.lt_or_ge 8 (loud l) with h' | h'
        · exact h'
        · exact absurd (fault_none (by omega) h2 h') (unhide h)
      have hv : fault l = 4 := by unfold fault; rw [if_neg h1, hany, if_neg (by simp), if_pos hk]
      rw [hv]
      have HA := hide hany
      have hle := loud_in (b := 8) h2
      have hL := hide (loud_ok a cap l (w.alloc (.cells #[.int .i64 8] 3)) (by omega) (h2.mono (by omega)) hr1)
      have hl6 : loud l ≤ 48 := by omega
      obtain ⟨k, hk'⟩ : ∃ k, loud l = k := ⟨_, rfl⟩
      rw [hk'] at hL hk hl6
      clear hv h hany hk' hle h2
      go_enter Tryz.func100, Tryz.ntmps100
      go_wp2_with fail
      refine (beyond 8 w).mono ?_
      rintro e w1 ⟨rfl, rfl⟩
      go_wp2_with fail
      refine (containsFunc 8 a cap l w.heap.size (w.alloc (.cells #[.int .i64 8] 3)) (by omega) (by omega) (by omega) hr1 (boxed_cell w 8 3)).mono ?_
      rw [unhide HA]
      rintro e w1 ⟨rfl, rfl⟩
      go_wp2_with fail
      refine (unhide hL).mono ?_
      rintro e w2 ⟨rfl, hb2⟩
      go_wp2
      go_ret2
      exact ⟨rfl, Below.chain hb1 hb2⟩
    · have hv : fault l = 1 := by unfold fault; rw [if_neg h1, hany, if_pos rfl]
      rw [hv]
      have HA := hide hany
      clear hv h hany
      go_enter Tryz.func100, Tryz.ntmps100
      go_wp2_with fail
      refine (beyond 8 w).mono ?_
      rintro e w1 ⟨rfl, rfl⟩
      go_wp2_with fail
      refine (containsFunc 8 a cap l w.heap.size (w.alloc (.cells #[.int .i64 8] 3)) (by omega) (by omega) (by omega) hr1 (boxed_cell w 8 3)).mono ?_
      rw [unhide HA]
      rintro e w1 ⟨rfl, rfl⟩
      go_wp2
      go_ret2
      exact ⟨rfl, hb1⟩

end Go.Proofs.YtkkhgdkgbhdfaakGreatDoor.Pls

/-
  Package near: loudOf: by its contracts.
-/
namespace Go.Proofs.YtkkhgdkgbhdfaakGreatDoor.Nea
open Go.RowKit
open Go.Proofs.YtkkhgdkgbhdfaakGreatDoor.Tre Go.Proofs.YtkkhgdkgbhdfaakGreatDoor.Lap Go.Proofs.YtkkhgdkgbhdfaakGreatDoor.Pls Go.Proofs.YtkkhgdkgbhdfaakGreatDoor.Mid
set_option linter.unusedVariables false

/-- The fault of numbers: 0 where there is none. -/
def vf (v : List Int) : Int := if 6 < v.length then 4 else if v.any (out 1000) = true then 1 else 0
theorem vf_ok {v : List Int} (h : vf v = 0) : v.length ≤ 6 ∧ In 1000 v := by
  unfold vf at h
  split at h
  · omega
  · split at h
    · omega
    · rename_i h1 h2
      exact ⟨by omega, in_of_any (by simpa using h2)⟩
theorem vf_none {v : List Int} (h1 : v.length ≤ 6) (h2 : In 1000 v) : vf v = 0 := by
  unfold vf
  rw [if_neg (by omega), if_neg (by rw [any_of_in h2]; simp)]

theorem loud_no (a : Option Addr) (cap : Nat) (l : List Int) (w : World) (hl : l.length ≤ 32) (hi : Hid (l.any (out 1000) = true)) (hr : Row w a l) :
    Calls Tryz.prog 130 #[.slice a l.length cap] w fun e w' => e = .returned (.tuple #[.int .i64 0, .iface 58 (.int .i64 1)]) ∧ Below w.heap.size w w' := by
  go_enter Tryz.func130, Tryz.ntmps130
  go_wp2_with fail
  refine (snd_no a cap l w hl hi hr).mono ?_
  rintro e w1 ⟨rfl, hb1⟩
  go_wp2
  go_ret2
  exact ⟨rfl, hb1⟩

theorem loudOf_ok (a : Option Addr) (cap : Nat) (l : List Int) (w : World) (hr : Row w a l) (h : Hid (vf l = 0)) :
    Calls Tryz.prog 104 #[.slice a l.length cap] w fun e w' => e = .returned (.tuple #[.int .i64 (loud l : Int), .nilIface]) ∧ Below w.heap.size w w' := by
  obtain ⟨h1, h2⟩ := vf_ok (unhide h)
  go_enter Tryz.func104, Tryz.ntmps104
  go_wp2_with fail
  refine (loud_ok a cap l w (by omega) h2 hr).mono ?_
  rintro e w1 ⟨rfl, hb1⟩
  go_wp2
  go_ret2
  exact ⟨rfl, hb1⟩
theorem loudOf_no (a : Option Addr) (cap : Nat) (l : List Int) (w : World) (hl : l.length ≤ 9223372036854775807) (hr : Row w a l) (h : Hid (vf l ≠ 0)) :
    Calls Tryz.prog 104 #[.slice a l.length cap] w fun e w' => e = .returned (.tuple #[.int .i64 0, .iface 58 (.int .i64 (vf l))]) ∧ Below w.heap.size w w' := by
  by_cases h1 : 6 < l.length
  · have hv : vf l = 4 := by unfold vf; rw [if_pos h1]
    rw [hv]
    clear hv h
    go_enter Tryz.func104, Tryz.ntmps104
    go_wp2
    go_ret2
    exact ⟨rfl, Below.refl _ _⟩
  · have h2 : l.any (out 1000) = true := by
      cases e : l.any (out 1000) with
      | true => rfl
      | false => exact absurd (vf_none (by omega) (in_of_any e)) (unhide h)
    have hv : vf l = 1 := by unfold vf; rw [if_neg h1, if_pos h2]
    rw [hv]
    have H2 := hide h2
    clear hv h h2
    go_enter Tryz.func104, Tryz.ntmps104
    go_wp2_with fail
    refine (loud_no a cap l w (by omega) H2 hr).mono ?_
    rintro e w1 ⟨rfl, hb1⟩
    go_wp2
    go_ret2
    exact ⟨rfl, hb1⟩

end Go.Proofs.YtkkhgdkgbhdfaakGreatDoor.Nea

/-
  Package near: wholes, left: by their contracts.
-/
namespace Go.Proofs.YtkkhgdkgbhdfaakGreatDoor.Nea
open Go.RowKit
open Go.Proofs.YtkkhgdkgbhdfaakGreatDoor.Tre Go.Proofs.YtkkhgdkgbhdfaakGreatDoor.Lap Go.Proofs.YtkkhgdkgbhdfaakGreatDoor.Pls Go.Proofs.YtkkhgdkgbhdfaakGreatDoor.Mid
set_option linter.unusedVariables false

theorem mul_in {k d : Nat} (hk : k ≤ 8) (hd : d ≤ 4000) : k * d ≤ 32000 := Nat.mul_le_mul hk hd

set_option maxHeartbeats 4000000 in
theorem wholes (a : Option Addr) (cap : Nat) (v : List Int) (k M : Nat) (w : World) (hv : v.length ≤ 6) (hi : In 4000 v) (hk : k ≤ 8) (HM : Hid (loud v = M)) (hM : 0 < M) (hM9 : M ≤ 24000) (hr : Row w a v) :
    Calls Tryz.prog 132 #[.slice a v.length cap, .int .i64 k, .int .i64 M] w fun e w' => ∃ p r, e = .returned (.tuple #[p, r]) ∧ Has w' w.heap.size p (upto (fun i => (qt v k i : Int)) v.length) ∧
      Has w' w.heap.size r (upto (fun i => (rt v k i : Int)) v.length) ∧ Off p r ∧ Below w.heap.size w w' := by
  go_enter Tryz.func132, Tryz.ntmps132
  go_wp2
  go_loopw [6, 7, 13] (fun s d i wr => ∃ j : Nat, j ≤ v.length ∧ i = .int .i64 j ∧ Has wr w.heap.size s (upto (fun i => (qt v k i : Int)) j) ∧ Has wr w.heap.size d (upto (fun i => (rt v k i : Int)) j) ∧ Off s d ∧ Below w.heap.size w wr) (fun _ _ i _ => v.length - (intOf i).toNat)
  case atStart => exact ⟨0, Nat.zero_le _, rfl, Has.nil _ _, Has.nil _ _, Or.inl rfl, Below.refl _ _⟩
  case round =>
    obtain ⟨j, hj, rfl, h1, h2, h3, hB⟩ := hrel
    by_cases hlt : j < v.length
    · obtain ⟨b, off, rfl, hb, hc⟩ := Mid.row_cell (hr.below hB) (by omega)
      have hc1 := hc j hlt
      obtain ⟨i0, i1⟩ := hi.at (by omega) j
      have hS : sh v k j = k * (at0 v j).natAbs := rfl
      have hQ : qt v k j = sh v k j / loud v := rfl
      have hR : rt v k j = sh v k j % loud v := rfl
      have e1 : Hid (upto (fun i => (qt v k i : Int)) (j + 1) = upto (fun i => (qt v k i : Int)) j ++ [(qt v k j : Int)]) := hide (upto_succ _ _)
      have e2 : Hid (upto (fun i => (rt v k i : Int)) (j + 1) = upto (fun i => (rt v k i : Int)) j ++ [(rt v k j : Int)]) := hide (upto_succ _ _)
      have hln1 : Hid ((upto (fun i => (qt v k i : Int)) j).length + 1 ≤ 1000000) := hide (by rw [upto_length]; omega)
      have hln2 : Hid ((upto (fun i => (rt v k i : Int)) j).length + 1 ≤ 1000000) := hide (by rw [upto_length]; omega)
      rw [unhide HM] at hQ hR
      have hdist := hide (dist (at0 v j) wr (by omega) (by omega))
      obtain ⟨X, hX⟩ : ∃ X, at0 v j = X := ⟨_, rfl⟩
      rw [hX] at hc1 hdist hS i0 i1
      obtain ⟨D, hD⟩ : ∃ D, X.natAbs = D := ⟨_, rfl⟩
      rw [hD] at hdist hS
      have hD9 : D ≤ 4000 := by omega
      have hS9 := mul_in hk hD9
      rw [← hS] at hS9
      obtain ⟨S, hS'⟩ : ∃ S, sh v k j = S := ⟨_, rfl⟩
      rw [hS'] at hS hQ hR hS9
      have hmul : IntKind.i64.wrap ((k : Int) * (D : Int)) = (S : Int) := by rw [hS, ← Int.natCast_mul]; exact IntWalk.i64_in _ (by omega)
      obtain ⟨Q, hQ'⟩ : ∃ Q, qt v k j = Q := ⟨_, rfl⟩
      obtain ⟨T, hT'⟩ : ∃ T, rt v k j = T := ⟨_, rfl⟩
      rw [hQ'] at hQ e1
      rw [hT'] at hR e2
      have hq : Int.tdiv (S : Int) (M : Int) = (Q : Int) := by rw [hQ]; rfl
      have hrm : Int.tmod (S : Int) (M : Int) = (T : Int) := by rw [hR]; rfl
      have hQ9 : Q ≤ 32000 := by rw [hQ]; exact Nat.le_trans (Nat.div_le_self _ _) hS9
      have hT9 : T ≤ 24000 := by rw [hR]; have := Nat.mod_lt S hM; omega
      have hMz : ((M : Int) == 0) = false := by simp; omega
      have hWs := hB.size
      clear hX hD hS hS' hQ hR hQ' hT' hc
      go_wp2_with fail
      refine (unhide hdist).mono ?_
      rintro e w1 ⟨rfl, rfl⟩
      clear hdist
      go_wp2_with (first
        | (at_builtin; refine wpList_app _ rfl _ _ rfl w.heap.size u6 (upto (fun i => (qt v k i : Int)) j) [(Q : Int)] _ _ rfl (h1.alloc _) rfl (row_one _ _ _) (unhide hln1) (by simp; omega) ?_; intro s1 w1 k1 g1 at1
           obtain ⟨d1, d2⟩ := stepped_plain h1 hWs k1 g1 at1
           obtain ⟨h2', h3'⟩ := d2 _ _ h2 h3.symm
           have hB1 := hB.trans d1
           have hWs1 := hB1.size
           clear d1 d2)
        | (at_builtin; refine wpList_app _ rfl _ _ rfl w.heap.size u7 (upto (fun i => (rt v k i : Int)) j) [(T : Int)] _ _ rfl (h2'.alloc _) rfl (row_one _ _ _) (unhide hln2) (by simp; omega) ?_; intro s2 w2 k2 g2 at2
           obtain ⟨d1, d2⟩ := stepped_plain h2' hWs1 k2 g2 at2
           obtain ⟨k1', h4'⟩ := d2 _ _ k1 h3'.symm
           have hB2 := hB1.trans d1
           clear d1 d2))
      go_wp2
      go_roundw
      case rel => exact ⟨j + 1, by omega, by go_num, by rw [unhide e1]; exact k1', by rw [unhide e2]; exact k2, h4', hB2⟩
      case measure => simp [intOf]; omega
    · obtain rfl : j = v.length := by omega
      go_wp2
      go_ret2
      exact ⟨_, _, rfl, h1, h2, h3, hB⟩

theorem left (a : Option Addr) (cap : Nat) (v : List Int) (k : Nat) (n : Nat) (w : World) (hn : Hid (v.length = n)) (hv : n ≤ 6) (hk : k ≤ 8) (h : Hid (k = 0 ∨ 0 < loud v)) (hr : Row w a (upto (fun i => (qt v k i : Int)) n)) :
    Calls Tryz.prog 134 #[.slice a n cap, .int .i64 k] w fun e w' => e = .returned (.int .i64 (lft v k)) ∧ w = w' := by
  have hle : ∀ j, j ≤ n → tot (qt v k) j ≤ k := fun j hj => by
    have h1 := qt_le k (unhide h)
    have h2 := tot_le (f := fun i => if i < j then qt v k i else 0) (g := qt v k) (n := v.length) fun i _ => by split <;> omega
    have h3 : ∀ m, tot (fun i => if i < j then qt v k i else 0) (j + m) = tot (qt v k) j := by
      intro m
      induction m with
      | zero => exact tot_congr fun i hi => if_pos hi
      | succ m ih => rw [← Nat.add_assoc, tot, ih, if_neg (by omega)]; omega
    have := h3 (v.length - j)
    rw [show j + (v.length - j) = v.length by rw [unhide hn]; omega] at this
    omega
  have HE : Hid (k - tot (qt v k) n = lft v k) := hide (by unfold lft; rw [unhide hn])
  go_enter Tryz.func134, Tryz.ntmps134
  go_wp2
  go_loop [1, 9] (fun t i => ∃ j t' : Nat, j ≤ n ∧ i = .int .i64 j ∧ t = .int .i64 t' ∧ Hid (t' + tot (qt v k) j = k) ∧ t' ≤ 8) (fun _ i => n - (intOf i).toNat)
  case atStart => exact ⟨0, k, Nat.zero_le _, rfl, rfl, rfl, hk⟩
  case round =>
    obtain ⟨j, t, hj, rfl, rfl, HT, ht⟩ := hrel
    by_cases hlt : j < n
    · obtain ⟨b, off, rfl, hb, hc⟩ := Mid.row_cell hr (by rw [upto_length]; omega)
      have hc1 := hc j (by rw [upto_length]; omega)
      rw [upto_at _ hlt] at hc1
      have h1 := hle (j + 1) hlt
      have h2 : tot (qt v k) (j + 1) = tot (qt v k) j + qt v k j := rfl
      have h3 := unhide HT
      obtain ⟨Q, hQ⟩ : ∃ Q, qt v k j = Q := ⟨_, rfl⟩
      rw [hQ] at h2 hc1
      obtain ⟨t2, h4⟩ : ∃ t2, t = t2 + Q := ⟨t - Q, by omega⟩
      have HS : Hid (t2 + tot (qt v k) (j + 1) = k) := hide (by omega)
      have hsub : (t : Int) - (Q : Int) = (t2 : Int) := by omega
      have h5 : t2 ≤ 8 := by omega
      have hQ8 : Q ≤ 8 := by omega
      clear h1 h2 h3 h4 hQ hle hc
      go_wp2
      go_round
      case rel => exact ⟨j + 1, t2, by omega, by go_num, by go_num, HS, h5⟩
      case measure => simp [intOf]; omega
    · obtain rfl : j = n := by omega
      have h1 := unhide HT
      clear hle
      go_wp2
      go_ret
      exact ⟨ret_int (by rw [← unhide HE]; omega), rfl⟩

end Go.Proofs.YtkkhgdkgbhdfaakGreatDoor.Nea

/-
  make of integers: zeros of this call's own.
-/
namespace Go.Proofs.YtkkhgdkgbhdfaakGreatDoor
open Go.RowKit
open Go.Proofs.YtkkhgdkgbhdfaakGreatDoor.Tre
set_option linter.unusedVariables false

theorem upto_zeros (n : Nat) : upto (fun _ => 0) n = List.replicate n 0 := by
  refine eq_of_at (by rw [upto_length, List.length_replicate]) fun i hi => ?_
  rw [upto_length] at hi
  rw [upto_at _ hi]
  simp [at0, hi]

theorem wpList_mk {ops : Array Oper} {rest : List Oper} {o : Oper} {a : Act} {Q : Exit → Act → World → Prop} (w : World) (hgd : o.guard = none) (s : Operand)
    (ho : o.op = .makeSlice 22 s s) (n : Nat) (hs : a.eval s = .int .i64 n) (hn : n ≤ 1000000)
    (h : ∀ w', Has w' w.heap.size (.slice (some ⟨w.heap.size, 0, none⟩) n n) (upto (fun _ => 0) n) → Below w.heap.size w w' → wpList Tryz.prog ops Q rest (a.put o.dst (.slice (some ⟨w.heap.size, 0, none⟩) n n)) w') :
    wpList Tryz.prog ops Q (o :: rest) a w := by
  obtain ⟨i0, hi, hz0, hz1, hz2⟩ := info_parts info_int
  refine wpList_make_full w hgd s s 22 ho w.heap.size 3 i0 (.int .i64 0) 1 Tryz.underlying22 hi hz0 hz1 _ _ _ _ n hs hs rfl rfl (by rw [hz2]; omega) (by unfold maxLen; omega) (Nat.le_refl _) ?_
  intro w2 hown hgrow
  rw [Nat.mul_one] at hown
  refine h w2 ?_ ((Below.refl _ _).grown hgrow (Nat.le_refl _) (by intro k hk; cases hk))
  unfold Has
  rw [upto_zeros, List.map_replicate, List.length_replicate, ← toList_madeCells_one]
  exact hown

end Go.Proofs.YtkkhgdkgbhdfaakGreatDoor

/-
  The rest of a row ('l[t:]'), whatever lies beneath it; the first ones of a slice of this call's own ('v[:n]').
-/
namespace Go.Proofs.YtkkhgdkgbhdfaakGreatDoor
open Go.RowKit
open Go.Proofs.YtkkhgdkgbhdfaakGreatDoor.Tre
set_option linter.unusedVariables false

set_option maxRecDepth 100000 in
theorem row_rest {w : World} {a : Option Addr} {l : List Int} (h : Row w a l) (cap : Nat) (hm : l.length ≤ cap) {t : Nat} (ht : t ≤ l.length) :
    ∃ A, (∀ W, (Instr.slice 22 (.slice a l.length cap) (some (.int .i64 t)) none none).run Tryz.prog W = .ok (.slice A (l.length - t) (cap - t)) W) ∧ Row w A (l.drop t) := by
  refine ⟨if cap = t then a else a.map (·.add (t * 1)), fun W => ?_, ?_⟩
  · rw [run_slice_l W 22 a l.length cap Tryz.underlying22 .i64 t (by omega) (by omega), size_ints]
    simp [Result.andThen, sliced]
  · by_cases he : l.length = t
    · refine Or.inl ?_
      rw [← he, List.drop_length]
    · obtain ⟨b, off, rfl, hb, hc⟩ := h.at (k := 0) (by omega)
      rw [if_neg (by omega), Nat.mul_one, Option.map_some, addr_plain]
      exact h.drop t
set_option maxRecDepth 100000 in
theorem Has.first {w : World} {base : Nat} {v : Value} {l : List Int} (h : Has w base v l) {n : Nat} (hn : n ≤ l.length) :
    ∃ v', (∀ W, (Instr.slice 22 v none (some (.int .i64 n)) none).run Tryz.prog W = .ok v' W) ∧ Has w base v' (l.take n) := by
  have hl : (l.take n).length = n := by rw [List.length_take]; omega
  rcases h.2 with ⟨rfl, h0⟩ | ⟨g, cap, cur, rfl, hb, hg, hc, hm, hs, hx⟩
  · obtain rfl : l = [] := List.eq_nil_of_length_eq_zero h0
    obtain rfl : n = 0 := by simpa using hn
    refine ⟨.slice none 0 0, fun W => ?_, Has.nil _ _⟩
    rw [run_slice_h W 22 none 0 0 Tryz.underlying22 .i64 ((0 : Nat) : Int) (by omega) (by omega), size_ints]
    simp [Result.andThen, sliced]
  · refine ⟨.slice (some ⟨g, 0, none⟩) n cap, fun W => ?_, ?_⟩
    · rw [run_slice_h W 22 _ l.length cap Tryz.underlying22 .i64 n (by omega) (by omega), size_ints]
      simp [Result.andThen, sliced, addr_plain]
    · unfold Has
      rw [hl]
      refine ⟨by rw [List.length_map, hl, Nat.mul_one], Or.inr ⟨g, cap, cur, rfl, hb, hg, by omega, hm, hs, ?_⟩⟩
      rw [List.map_take, ← hx, List.take_take, Nat.mul_one, Nat.mul_one, Nat.min_eq_left hn]

end Go.Proofs.YtkkhgdkgbhdfaakGreatDoor

/-
  Words for the contracts of chapter 10: cells of a row, sums that no integer is too small for, the fault of counts.
-/
namespace Go.Proofs.YtkkhgdkgbhdfaakGreatDoor.Scl
open Go.RowKit
open Go.Proofs.YtkkhgdkgbhdfaakGreatDoor.Tre
set_option linter.unusedVariables false

theorem cell_at {w : World} {a : Option Addr} {l : List Int} (h : Row w a l) (h0 : 0 < l.length) : ∃ b off, a = some ⟨b, off, none⟩ ∧ b < w.heap.size ∧ ∀ j, j < l.length → w.cell? ⟨b, off + j, none⟩ = some (.int .i64 (at0 l j)) := by
  obtain ⟨b, off, e, hb, hc⟩ := h.at h0
  exact ⟨b, off, e, hb, fun j hj => (hc j hj).trans (by rw [List.getD_eq_getElem?_getD]; rfl)⟩

/-- Sums of the first ones that no integer is too small for. -/
def Small (l : List Int) : Prop := ∀ j, j ≤ l.length → -1000000000 ≤ pfx l j ∧ pfx l j ≤ 1000000000
theorem small_of {l : List Int} (h : ∀ i, i < l.length → 0 ≤ at0 l i ∧ at0 l i ≤ 1000000) (h40 : l.length ≤ 40) : Small l := fun j hj => by
  have h1 := pfx_nonneg (l := l) (fun i hi => (h i hi).1) hj
  have h2 := pfx_le (l := l) (b := 1000000) (fun i hi => (h i hi).2) hj
  omega

theorem cf_bad {c : List Int} {j : Nat} (h0 : c.length ≠ 0) (h40 : ¬ 40 < c.length) (hj : j < c.length) (hb : at0 c j < 0 ∨ 1000000 < at0 c j) : cf c = 1 := by
  have e : at0 c j = c[j] := by simp [at0, hj]
  have h : c.any wrong = true := List.any_eq_true.2 ⟨c[j], List.getElem_mem hj, by rw [e] at hb; simp [wrong]; omega⟩
  simp [cf, h0, h40, h]
theorem cf_sum {c : List Int} (h0 : c.length ≠ 0) (h40 : ¬ 40 < c.length) (h : ∀ i, i < c.length → 0 ≤ at0 c i ∧ at0 c i ≤ 1000000) : cf c = if tot c = 0 then 5 else 0 := by
  have hany : c.any wrong = false := by
    apply List.any_eq_false.2
    intro n hn
    obtain ⟨i, hi, rfl⟩ := List.getElem_of_mem hn
    have := h i hi
    have e : at0 c i = c[i] := by simp [at0, hi]
    rw [e] at this
    simp [wrong]; omega
  simp [cf, h0, h40, hany]

end Go.Proofs.YtkkhgdkgbhdfaakGreatDoor.Scl

/-
  hornref1's Far, Loud, Pulses: by their contracts.
-/
namespace Go.Proofs.YtkkhgdkgbhdfaakGreatDoor.Pls
open Go.RowKit
open Go.Proofs.YtkkhgdkgbhdfaakGreatDoor.Tre Go.Proofs.YtkkhgdkgbhdfaakGreatDoor.Mid
set_option linter.unusedVariables false

theorem refFar (n : Int) (w : World) (h0 : -1000000 ≤ n) (h1 : n ≤ 1000000) :
    Calls Tryz.prog 60 #[.int .i64 n] w fun e w' => e = .returned (.int .i64 (n.natAbs : Int)) ∧ w = w' := by
  by_cases h : n < 0
  · go_enter Tryz.func60, Tryz.ntmps60
    go_wp2
    go_ret
    exact ⟨ret_int (by omega), rfl⟩
  · go_enter Tryz.func60, Tryz.ntmps60
    go_wp2
    go_ret
    exact ⟨ret_int (by omega), rfl⟩

set_option maxHeartbeats 400000 in
theorem refLoudB (a : Option Addr) (cap : Nat) (l : List Int) (w : World) (hl : l.length ≤ 32) (hi : In 4000 l) (hr : Row w a l) :
    Calls Tryz.prog 50 #[.slice a l.length cap] w fun e w' => e = .returned (.int .i64 (loud l : Int)) ∧ w = w' := by
  go_enter Tryz.func50, Tryz.ntmps50
  go_wp2
  go_loop [3, 4] (fun t i => ∃ k t' : Nat, k ≤ l.length ∧ i = .int .i64 k ∧ t = .int .i64 t' ∧ Hid (t' = loud (l.take k)) ∧ t' ≤ 128000) (fun _ i => l.length - (intOf i).toNat)
  case atStart => exact ⟨0, 0, Nat.zero_le _, rfl, rfl, rfl, by omega⟩
  case round =>
    obtain ⟨k, t, hk, rfl, rfl, HT, ht⟩ := hrel
    by_cases hlt : k < l.length
    · obtain ⟨b, off, rfl, hb, hcs⟩ := hr.at hlt
      have hck := hcs k hlt
      clear hcs
      obtain ⟨e1, e2⟩ := hi _ (List.getElem_mem hlt)
      have HS : Hid (t + l[k].natAbs = loud (l.take (k + 1))) := hide (by rw [loud_step hlt, unhide HT])
      have HB : Hid (t + l[k].natAbs ≤ 128000) := hide (by
        have h1 := loud_in (b := 4000) (hi.take (k + 1))
        rw [← unhide HS] at h1
        have h2 := List.length_take_le (k + 1) l
        omega)
      have hn : l[k].natAbs ≤ 4000 := by omega
      go_wp2_with fail
      refine (refFar l[k] w (by omega) (by omega)).mono ?_
      obtain ⟨d, hd⟩ : ∃ d, l[k].natAbs = d := ⟨_, rfl⟩
      rw [hd] at HS HB hn ⊢
      clear hd
      rintro e w' ⟨rfl, rfl⟩
      go_wp2
      go_round
      case rel => exact ⟨k + 1, t + d, by omega, by go_num, by go_num, HS, unhide HB⟩
      case measure => simp [intOf]; omega
    · go_wp2
      go_ret
      exact ⟨ret_int (by rw [unhide HT, List.take_of_length_le (by omega)]), rfl⟩
theorem refLoud (a : Option Addr) (cap : Nat) (l : List Int) (w : World) (hl : l.length ≤ 32) (hi : In 1000 l) (hr : Row w a l) :
    Calls Tryz.prog 50 #[.slice a l.length cap] w fun e w' => e = .returned (.int .i64 (loud l : Int)) ∧ w = w' := refLoudB a cap l w hl (hi.mono (by omega)) hr

theorem refPulses_ok (a : Option Addr) (cap : Nat) (l : List Int) (w : World) (hr : Row w a l) (h : Hid (fault l = 0)) :
    Calls Tryz.prog 47 #[.slice a l.length cap] w fun e w' => e = .returned (.tuple #[.int .i64 (loud l : Int), .int .i64 0]) ∧ w = w' := by
  obtain ⟨h1, h2, h3⟩ := fault_ok (unhide h)
  have HA := hide (any_of_in h2)
  have hL := hide (refLoud a cap l w (by omega) (h2.mono (by omega)) hr)
  obtain ⟨k, hk⟩ : ∃ k, loud l = k := ⟨_, rfl⟩
  rw [hk] at hL h3 ⊢
  clear hk
  go_enter Tryz.func47, Tryz.ntmps47
  go_wp2_with fail
  refine (refAll 8 a cap l w (by omega) (by omega) (by omega) hr).mono ?_
  rw [unhide HA]
  rintro e w1 ⟨rfl, rfl⟩
  go_wp2_with fail
  refine (unhide hL).mono ?_
  rintro e w2 ⟨rfl, rfl⟩
  go_wp2
  go_ret2
  exact ⟨rfl, rfl⟩

theorem refPulses_no (a : Option Addr) (cap : Nat) (l : List Int) (w : World) (hl : l.length ≤ 9223372036854775807) (hr : Row w a l) (h : Hid (fault l ≠ 0)) :
    Calls Tryz.prog 47 #[.slice a l.length cap] w fun e w' => e = .returned (.tuple #[.int .i64 0, .int .i64 (fault l)]) ∧ w = w' := by
  by_cases h1 : 6 < l.length
  · have hv : fault l = 4 := by unfold fault; rw [if_pos h1]
    rw [hv]
    clear hv h
    go_enter Tryz.func47, Tryz.ntmps47
    go_wp2
    go_ret2
    exact ⟨rfl, rfl⟩
  · cases hany : l.any (out 8)
    · have h2 : In 8 l := in_of_any hany
      have hk : 8 < loud l := by
        rcases Nat.lt_or_ge 8 (loud l) with h' | h'
        · exact h'
        · exact absurd (fault_none (by omega) h2 h') (unhide h)
      have hv : fault l = 4 := by unfold fault; rw [if_neg h1, hany, if_neg (by simp), if_pos hk]
      rw [hv]
      have HA := hide hany
      have hle := loud_in (b := 8) h2
      have hL := hide (refLoud a cap l w (by omega) (h2.mono (by omega)) hr)
      have hl6 : loud l ≤ 48 := by omega
      obtain ⟨k, hk'⟩ : ∃ k, loud l = k := ⟨_, rfl⟩
      rw [hk'] at hL hk hl6
      clear hv h hany hk' hle h2
      go_enter Tryz.func47, Tryz.ntmps47
      go_wp2_with fail
      refine (refAll 8 a cap l w (by omega) (by omega) (by omega) hr).mono ?_
      rw [unhide HA]
      rintro e w1 ⟨rfl, rfl⟩
      go_wp2_with fail
      refine (unhide hL).mono ?_
      rintro e w2 ⟨rfl, rfl⟩
      go_wp2
      go_ret2
      exact ⟨rfl, rfl⟩
    · have hv : fault l = 1 := by unfold fault; rw [if_neg h1, hany, if_pos rfl]
      rw [hv]
      have HA := hide hany
      clear hv h hany
      go_enter Tryz.func47, Tryz.ntmps47
      go_wp2_with fail
      refine (refAll 8 a cap l w (by omega) (by omega) (by omega) hr).mono ?_
      rw [unhide HA]
      rintro e w1 ⟨rfl, rfl⟩
      go_wp2
      go_ret2
      exact ⟨rfl, rfl⟩

end Go.Proofs.YtkkhgdkgbhdfaakGreatDoor.Pls

/-
  A slice of bools that this call has made itself.
-/
namespace Go.Proofs.YtkkhgdkgbhdfaakGreatDoor
open Go.RowKit
open Go.Proofs.YtkkhgdkgbhdfaakGreatDoor.Tre
set_option linter.unusedVariables false

theorem info_bool : (Tryz.prog.info? 4).map (fun i => (i.zero, i.size, i.bytes)) = some (some (.bool false), 1, 1) := by kernel_rfl

/-- n bools of this call's own, as g says. -/
def HasB (w : World) (base : Nat) (v : Value) (n : Nat) (g : Nat → Bool) : Prop := w.ownsRow base 4 1 v n ((List.range n).map fun i => Value.bool (g i))

theorem HasB.kept {w w' : World} {base n : Nat} {v : Value} {g : Nat → Bool} {row : Option Nat} (h : HasB w base v n g) (hg : w.grownBy w' row) (hne : v.ownBlock = none ∨ v.ownBlock ≠ row) : HasB w' base v n g := World.ownsRow.kept h hg hne
theorem HasB.below {w w' : World} {base n : Nat} {v : Value} {g : Nat → Bool} (h : HasB w base v n g) (hb : Below w.heap.size w w') : HasB w' base v n g := by
  refine ⟨h.1, ?_⟩
  rcases h.2 with hn | ⟨k, cap, cur, rfl, hbg, hgg, rest⟩
  · exact .inl hn
  · exact .inr ⟨k, cap, cur, rfl, hbg, (hb.block k (Array.getElem?_eq_some_iff.1 hgg).1).trans hgg, rest⟩
theorem HasB.lt {w : World} {base n : Nat} {v : Value} {g : Nat → Bool} (h : HasB w base v n g) : ∀ k, v.ownBlock = some k → base ≤ k ∧ k < w.heap.size := World.ownsRow.lt h
theorem HasB.mono {w : World} {base base' n : Nat} {v : Value} {g : Nat → Bool} (h : HasB w base v n g) (hb : base' ≤ base) : HasB w base' v n g := by
  refine ⟨h.1, ?_⟩
  rcases h.2 with hn | ⟨k, cap, cur, rfl, hbg, rest⟩
  · exact .inl hn
  · exact .inr ⟨k, cap, cur, rfl, Nat.le_trans hb hbg, rest⟩
theorem HasB.get {w : World} {base G n c : Nat} {g : Nat → Bool} (h : HasB w base (.slice (some ⟨G, 0, none⟩) n c) n g) {j : Nat} (hj : j < n) : w.cell? ⟨G, j, none⟩ = some (.bool (g j)) := by
  have := World.ownsRow.cellAt h j (by omega)
  rw [this]
  simp [hj]
theorem HasB.frozen {w : World} {base G n c : Nat} {g : Nat → Bool} (h : HasB w base (.slice (some ⟨G, 0, none⟩) n c) n g) (j : Nat) : w.frozen? ⟨G, j, none⟩ = false := World.ownsRow.frozenAt h j
theorem HasB.put {w : World} {base G n c : Nat} {g : Nat → Bool} (h : HasB w base (.slice (some ⟨G, 0, none⟩) n c) n g) (j : Nat) (b : Bool) {g' : Nat → Bool} (hj : j < n) (hg : ∀ i, i < n → g' i = if i = j then b else g i) :
    HasB (w.setCell ⟨G, j, none⟩ (.bool b)) base (.slice (some ⟨G, 0, none⟩) n c) n g' ∧ w.grownBy (w.setCell ⟨G, j, none⟩ (.bool b)) (some G) := by
  have := World.ownsRow.stored h j (.bool b)
  refine ⟨?_, this.2⟩
  unfold HasB
  have e : ((List.range n).map fun i => Value.bool (g' i)) = ((List.range n).map fun i => Value.bool (g i)).set j (.bool b) := by
    apply List.ext_getElem?
    intro i
    rw [List.getElem?_set]
    by_cases hi : i < n
    · by_cases e : j = i
      · subst e
        simp [hi, hg j hi]
      · have e' : ¬ i = j := fun h => e h.symm
        rw [if_neg e]
        simp [hi, hg i hi, e']
    · by_cases e : j = i
      · omega
      · rw [if_neg e]
        simp [hi]
  rw [e]
  exact this.1

theorem wpList_mkb {ops : Array Oper} {rest : List Oper} {o : Oper} {a : Act} {Q : Exit → Act → World → Prop} (w : World) (hgd : o.guard = none) (s : Operand)
    (ho : o.op = .makeSlice 128 s s) (n : Nat) (hs : a.eval s = .int .i64 n) (hn : n ≤ 1000000)
    (h : ∀ w', HasB w' w.heap.size (.slice (some ⟨w.heap.size, 0, none⟩) n n) n (fun _ => false) → Below w.heap.size w w' → wpList Tryz.prog ops Q rest (a.put o.dst (.slice (some ⟨w.heap.size, 0, none⟩) n n)) w') :
    wpList Tryz.prog ops Q (o :: rest) a w := by
  obtain ⟨i0, hi, hz0, hz1, hz2⟩ := info_parts info_bool
  refine wpList_make_full w hgd s s 128 ho w.heap.size 4 i0 (.bool false) 1 Tryz.underlying128 hi hz0 hz1 _ _ _ _ n hs hs rfl rfl (by rw [hz2]; omega) (by unfold maxLen; omega) (Nat.le_refl _) ?_
  intro w2 hown hgrow
  refine h w2 ?_ ((Below.refl _ _).grown hgrow (Nat.le_refl _) (by intro k hk; cases hk))
  rw [Nat.mul_one] at hown
  unfold HasB
  rw [show ((List.range n).map fun _ => Value.bool false) = List.replicate n (.bool false) by simp [List.map_const'], ← toList_madeCells_one]
  exact hown

end Go.Proofs.YtkkhgdkgbhdfaakGreatDoor
