/-
  append, as a step of a region that draws its order.
-/
import Derived.Test.YtjojeifoddonnakDoorLb03
import Derived.Deep.RegionLaw
import Derived.Deep.QuietTactic
import Derived.BigQuiet
import Derived.Test.YtjojeifoddonnakDoorLb00
import Derived.Test.YtjojeifoddonnakDoorLb01
namespace Go.Proofs.YtjojeifoddonnakDoor
open Go.RowKit
set_option linter.unusedVariables false

theorem step_app {ops : Array Oper} {o : Oper} {a : Act} {K : Act → World → Prop} {Q : Exit → Act → World → Prop} {E : Prop} (w : World) (hgd : o.guard = none) (s x : Operand)
    (ho : o.op = .call { callee := .builtin .append, args := #[s, x], argTypes := #[27, 27] }) (base : Nat) (v : Value) (l m : List Int) (ad : Option Addr) (cap : Nat) (hs : a.eval s = v) (hv : Has w base v l)
    (hx : a.eval x = .slice ad m.length cap) (hr : Row w ad m) (hlen : l.length + m.length ≤ 1000000) (hbase : base ≤ w.heap.size)
    (h : ∀ v' w', Has w' base v' (l ++ m) → w.grownBy w' v.ownBlock → (v'.ownBlock = v.ownBlock ∨ v'.ownBlock = some w.heap.size) → K (a.put o.dst v') w') :
    if Region.wanted o (yielded ops a.tmps) = true then Oper.wp Tryd.prog o a w K Q else E := by
  have hw : Region.wanted o (yielded ops a.tmps) = true := by simp [Region.wanted, hgd]
  rw [if_pos hw]
  obtain ⟨v', w', hrun, h2, h3, h4, _⟩ := run_app w base v l m o.type hv ad cap hr hlen hbase
  unfold Oper.wp
  simp [execOp, ho, resolve, invoke, builtin, hs, hx, hrun, Result.andThen]
  exact h v' w' h2 h3 h4

/-- Two slices do not lie in one row. -/
def Off (u v : Value) : Prop := u.ownBlock = none ∨ u.ownBlock ≠ v.ownBlock
theorem Off.symm {u v : Value} (h : Off u v) : Off v u := by
  unfold Off at *
  rcases h with h | h
  · by_cases hv : v.ownBlock = none
    · exact Or.inl hv
    · exact Or.inr (by rw [h]; exact hv)
  · exact Or.inr (Ne.symm h)

/-- 'x = append(x, ..)', x in no box: all that a walk owes behind it. -/
theorem stepped_plain {W w1 : World} {n₀ : Nat} {v v' : Value} {l l' : List Int} {tmp : Obj} (h : Has W n₀ v l) (hn : n₀ ≤ W.heap.size)
    (h' : Has w1 n₀ v' l') (hg : (W.alloc tmp).grownBy w1 v.ownBlock) (hat : v'.ownBlock = v.ownBlock ∨ v'.ownBlock = some (W.alloc tmp).heap.size) :
    Below n₀ W w1 ∧ (∀ u m, Has W n₀ u m → Off u v → Has w1 n₀ u m ∧ Off u v') := by
  refine ⟨((Below.refl n₀ W).alloc hn tmp).grown hg (by simp; omega) (fun j e => (h.lt j e).1), fun u m hu ha => ⟨(hu.alloc tmp).kept hg ha, ?_⟩⟩
  rcases hat with e | e
  · unfold Off; rw [e]; exact ha
  · cases hb : u.ownBlock with
    | none => exact Or.inl hb
    | some k =>
      refine Or.inr ?_
      rw [e, hb]
      have := (hu.lt k hb).2
      intro hh
      cases hh
      simp at this
      omega

end Go.Proofs.YtjojeifoddonnakDoor

/-
  A slice of integers of this call's own: one number is read, or set.
-/
namespace Go.Proofs.YtjojeifoddonnakDoor
open Go.RowKit
open Go.Proofs.YtjojeifoddonnakDoor.Tre
set_option linter.unusedVariables false

/-- .. where it is none, and where it is one. -/
theorem Has.one {w : World} {base : Nat} {v : Value} {l : List Int} (h : Has w base v l) (h0 : 0 < l.length) : ∃ g c, v = .slice (some ⟨g, 0, none⟩) l.length c ∧ base ≤ g ∧ g < w.heap.size ∧ l.length ≤ c ∧ c ≤ 9223372036854775807 := by
  rcases h.2 with ⟨_, e⟩ | ⟨g, cap, cur, hv, hb, hg, hn, hm, _⟩
  · omega
  · exact ⟨g, cap, hv, hb, (Array.getElem?_eq_some_iff.1 hg).1, hn, by simpa [maxLen] using hm⟩
theorem Has.get {w : World} {base g n c : Nat} {l : List Int} (h : Has w base (.slice (some ⟨g, 0, none⟩) n c) l) {j : Nat} (hj : j < l.length) : w.cell? ⟨g, j, none⟩ = some (.int .i64 (at0 l j)) := by
  obtain ⟨a, cap, e, hr⟩ := h.row
  obtain ⟨b, off, e', hb, hcs⟩ := hr.at hj
  subst e'
  obtain ⟨e1, e2, e3⟩ := Value.slice.inj e
  cases e1
  have := hcs j hj
  rw [Nat.zero_add] at this
  rw [this, List.getD_eq_getElem?_getD]; rfl
theorem Has.put {w : World} {base g n c : Nat} {l : List Int} (h : Has w base (.slice (some ⟨g, 0, none⟩) n c) l) (j : Nat) (x : Int) :
    Has (w.setCell ⟨g, j, none⟩ (.int .i64 x)) base (.slice (some ⟨g, 0, none⟩) n c) (l.set j x) ∧ w.grownBy (w.setCell ⟨g, j, none⟩ (.int .i64 x)) (some g) := by
  obtain ⟨a, cap, e, _⟩ := h.row
  obtain ⟨e1, e2, e3⟩ := Value.slice.inj e
  subst e2
  have := World.ownsRow.stored h j (.int .i64 x)
  rw [← List.map_set] at this
  refine ⟨?_, this.2⟩
  unfold Has
  rw [List.length_set]
  exact this.1
theorem Has.frozen {w : World} {base g n c : Nat} {l : List Int} (h : Has w base (.slice (some ⟨g, 0, none⟩) n c) l) (j : Nat) : w.frozen? ⟨g, j, none⟩ = false := by
  obtain ⟨a, cap, e, _⟩ := h.row
  obtain ⟨e1, e2, e3⟩ := Value.slice.inj e
  subst e2
  exact World.ownsRow.frozenAt h j
/-- A number of one list is set: the other list stays. -/
theorem Has.beside {w w' : World} {base : Nat} {u v : Value} {m : List Int} {g n c : Nat} (hu : Has w base u m) (hv : v = .slice (some ⟨g, 0, none⟩) n c) (ho : Off u v) (hg : w.grownBy w' (some g)) : Has w' base u m := by
  refine hu.kept hg ?_
  unfold Off at ho
  rw [hv] at ho
  exact ho
theorem Has.inRow {w : World} {base : Nat} {v : Value} {l : List Int} (h : Has w base v l) {a : Option Addr} {n c : Nat} (e : v = .slice a n c) : n = l.length ∧ Row w a l := by
  obtain ⟨a', cap, e', hr⟩ := h.row
  rw [e] at e'
  obtain ⟨e1, e2, e3⟩ := Value.slice.inj e'
  subst e1 e2
  exact ⟨rfl, hr⟩

/-- One slice grows: another one stays, and does not lie in its row. -/
theorem apart {W w1 : World} {n₀ : Nat} {u v v' : Value} {m : List Int} (hu : Has W n₀ u m) (hg : W.grownBy w1 v.ownBlock) (hat : v'.ownBlock = v.ownBlock ∨ v'.ownBlock = some W.heap.size) (ho : Off u v) : Has w1 n₀ u m ∧ Off u v' := by
  refine ⟨hu.kept hg ho, ?_⟩
  rcases hat with e | e
  · unfold Off; rw [e]; exact ho
  · cases hb : u.ownBlock with
    | none => exact Or.inl hb
    | some k =>
      refine Or.inr ?_
      rw [e, hb]
      have := (hu.lt k hb).2
      intro hh
      cases hh
      omega
theorem off_nil (u : Value) : Off u (.slice none 0 0) := by
  cases h : u.ownBlock with
  | none => exact Or.inl h
  | some k => exact Or.inr (by rw [h]; intro e; cases e)
/-- The first of a row, and the rest. -/
theorem Row.take {w : World} {a : Option Addr} {l : List Int} (h : Row w a l) (k : Nat) : Row w a (l.take k) := by
  by_cases h0 : l.take k = []
  · exact Or.inl h0
  · have hp : 0 < (l.take k).length := List.length_pos_iff.2 h0
    rw [List.length_take] at hp
    obtain ⟨b, off, e, hb, hcs⟩ := h.at (k := 0) (by omega)
    refine Or.inr ⟨b, off, e, hb, fun j hj => ?_⟩
    rw [List.length_take] at hj
    rw [hcs j (by omega)]
    simp [List.getD_eq_getElem?_getD, show j < k by omega]
theorem Row.drop {w : World} {b off : Nat} {l : List Int} (h : Row w (some ⟨b, off, none⟩) l) (k : Nat) : Row w (some ⟨b, off + k, none⟩) (l.drop k) := by
  by_cases h0 : l.drop k = []
  · exact Or.inl h0
  · have hp : 0 < (l.drop k).length := List.length_pos_iff.2 h0
    rw [List.length_drop] at hp
    obtain ⟨b', off', e, hb, hcs⟩ := h.at (k := 0) (by omega)
    cases e
    refine Or.inr ⟨b, off + k, rfl, hb, fun j hj => ?_⟩
    rw [List.length_drop] at hj
    rw [Nat.add_assoc, hcs (k + j) (by omega)]
    simp [List.getD_eq_getElem?_getD]

end Go.Proofs.YtjojeifoddonnakDoor

/-
  What keeps all blocks but those of a set.
-/
namespace Go.Proofs.YtjojeifoddonnakDoor
open Go.RowKit
open Go.Proofs.YtjojeifoddonnakDoor.Tre
set_option linter.unusedVariables false

/-- All blocks but those of a set are as they were. -/
structure Keeps (Q : Nat → Prop) (W W' : World) : Prop where
  os : W'.os = W.os
  tape : W'.tape = W.tape
  output : W'.output = W.output
  size : W.heap.size ≤ W'.heap.size
  block : ∀ k, k < W.heap.size → ¬ Q k → W'.heap[k]? = W.heap[k]?
theorem Keeps.of_below {Q : Nat → Prop} {W W' : World} (h : Below W.heap.size W W') : Keeps Q W W' := ⟨h.os, h.tape, h.output, h.size, fun k hk _ => h.block k hk⟩
theorem Keeps.below {Q : Nat → Prop} {n : Nat} {W W' : World} (h : Keeps Q W W') (hn : n ≤ W.heap.size) (hq : ∀ k, Q k → n ≤ k) : Below n W W' := ⟨h.os, h.tape, h.output, h.size, fun k hk => h.block k (by omega) (fun hQ => by have := hq k hQ; omega)⟩
theorem Keeps.has {Q : Nat → Prop} {base : Nat} {W W' : World} {v : Value} {l : List Int} (h : Keeps Q W W') (hv : Has W base v l) (hq : ∀ k, v.ownBlock = some k → ¬ Q k) : Has W' base v l := by
  refine ⟨hv.1, ?_⟩
  rcases hv.2 with hn | ⟨g, cap, cur, rfl, hbg, hgg, rest⟩
  · exact .inl hn
  · exact .inr ⟨g, cap, cur, rfl, hbg, (h.block g (Array.getElem?_eq_some_iff.1 hgg).1 (hq g rfl)).trans hgg, rest⟩

end Go.Proofs.YtjojeifoddonnakDoor

/-
  A slice of texts: one that this call has made itself (append of one), and one that lies somewhere.
-/
namespace Go.Proofs.YtjojeifoddonnakDoor
open Go.RowKit
open Go.Proofs.YtjojeifoddonnakDoor.Tre
set_option linter.unusedVariables false

theorem info_str : (Tryd.prog.info? 9).map (fun i => (i.zero, i.size, i.bytes)) = some (some (.string ⟨#[]⟩), 1, 16) := by kernel_rfl

/-- The texts of a slice lie in memory. -/
def RowT (w : World) (a : Option Addr) (l : List ByteArray) : Prop :=
  l = [] ∨ ∃ b off, a = some ⟨b, off, none⟩ ∧ b < w.heap.size ∧ ∀ j, j < l.length → w.cell? ⟨b, off + j, none⟩ = some (.string (l.getD j ⟨#[]⟩))
theorem RowT.below {w w' : World} {a : Option Addr} {l : List ByteArray} (h : RowT w a l) (hb : Below w.heap.size w w') : RowT w' a l := by
  rcases h with h | ⟨b, off, e, hlt, hc⟩
  · exact Or.inl h
  · exact Or.inr ⟨b, off, e, Nat.lt_of_lt_of_le hlt hb.size, fun j hj => (hb.cell (p := ⟨b, off + j, none⟩) hlt).trans (hc j hj)⟩
theorem RowT.at {w : World} {a : Option Addr} {l : List ByteArray} (h : RowT w a l) {k : Nat} (hk : k < l.length) : ∃ b off, a = some ⟨b, off, none⟩ ∧ b < w.heap.size ∧ ∀ j, j < l.length → w.cell? ⟨b, off + j, none⟩ = some (.string (l.getD j ⟨#[]⟩)) := by
  rcases h with h | h
  · subst h; exact absurd hk (by simp)
  · exact h

/-- A slice of texts of this call's own (its block at base or behind) holds l. -/
def HasT (w : World) (base : Nat) (v : Value) (l : List ByteArray) : Prop := w.ownsRow base 9 1 v l.length (l.map Value.string)
theorem HasT.nil (w : World) (base : Nat) : HasT w base (.slice none 0 0) [] := World.ownsRow_nil _ _ _ _
theorem HasT.kept {w w' : World} {base : Nat} {v : Value} {l : List ByteArray} {row : Option Nat} (h : HasT w base v l) (hg : w.grownBy w' row) (hne : v.ownBlock = none ∨ v.ownBlock ≠ row) : HasT w' base v l := World.ownsRow.kept h hg hne
theorem HasT.alloc {w : World} {base : Nat} {v : Value} {l : List ByteArray} (h : HasT w base v l) (o : Obj) : HasT (w.alloc o) base v l := World.ownsRow.alloc h o
theorem HasT.below {w w' : World} {base : Nat} {v : Value} {l : List ByteArray} (h : HasT w base v l) (hb : Below w.heap.size w w') : HasT w' base v l := by
  refine ⟨h.1, ?_⟩
  rcases h.2 with hn | ⟨g, cap, cur, rfl, hbg, hgg, rest⟩
  · exact .inl hn
  · exact .inr ⟨g, cap, cur, rfl, hbg, (hb.block g (Array.getElem?_eq_some_iff.1 hgg).1).trans hgg, rest⟩
theorem HasT.lt {w : World} {base : Nat} {v : Value} {l : List ByteArray} (h : HasT w base v l) : ∀ k, v.ownBlock = some k → base ≤ k ∧ k < w.heap.size := World.ownsRow.lt h
theorem HasT.mono {w : World} {base base' : Nat} {v : Value} {l : List ByteArray} (h : HasT w base v l) (hb : base' ≤ base) : HasT w base' v l := by
  refine ⟨h.1, ?_⟩
  rcases h.2 with hn | ⟨k, cap, cur, rfl, hbg, rest⟩
  · exact .inl hn
  · exact .inr ⟨k, cap, cur, rfl, Nat.le_trans hb hbg, rest⟩
theorem HasT.shape {w : World} {base : Nat} {v : Value} {l : List ByteArray} (h : HasT w base v l) : ∃ a cap, v = .slice a l.length cap ∧ RowT w a l ∧ l.length ≤ cap ∧ cap ≤ 9223372036854775807 := by
  have h' := h
  rcases h.2 with ⟨h1, h2⟩ | ⟨g, cap, cur, hv, hb, hg, hn, hm, _⟩
  · have e : l = [] := List.length_eq_zero_iff.1 (by omega)
    subst e
    exact ⟨none, 0, h1, Or.inl rfl, Nat.le_refl _, by omega⟩
  · refine ⟨some ⟨g, 0, none⟩, cap, hv, Or.inr ⟨g, 0, rfl, (Array.getElem?_eq_some_iff.1 hg).1, fun j hj => ?_⟩, hn, by simpa [maxLen] using hm⟩
    subst hv
    rw [Nat.zero_add, World.ownsRow.cellAt h' j (by omega)]
    simp [List.getD_eq_getElem?_getD, hj]

/-- append of one text. -/
theorem run_appt (w : World) (base : Nat) (v : Value) (l : List ByteArray) (x : ByteArray) (ty : TypeId) (hv : HasT w base v l) (b off cap : Nat) (hr : w.cell? ⟨b, off, none⟩ = some (.string x)) (hlen : l.length + 1 ≤ 1000000) (hbase : base ≤ w.heap.size) :
    ∃ v' w', (Builtin.append_ #[30, 30] ty #[v, .slice (some ⟨b, off, none⟩) 1 cap]).run Tryd.prog w = .ok v' w' ∧ HasT w' base v' (l ++ [x]) ∧ w.grownBy w' v.ownBlock ∧ (v'.ownBlock = v.ownBlock ∨ v'.ownBlock = some w.heap.size) := by
  obtain ⟨i, hi, hz0, hz1, hz2⟩ := info_parts info_str
  have hc : ∀ (j : Nat) (u : Value), ([x].map Value.string)[j]? = some u → w.cell? ((⟨b, off, none⟩ : Addr).add j) = some u := by
    intro j u hu
    cases j with
    | zero => simp at hu; rw [addr_plain, Nat.add_zero, hr, hu]
    | succ j => simp at hu
  obtain ⟨v', w', h1, h2, h3, h4, h5⟩ := run_append_own_at (P := Tryd.prog) w base 30 ty 9 i (.string ⟨#[]⟩) 1 16 Tryd.underlying30 hi hz0 hz1 hz2 rfl (by omega) v l.length (l.map Value.string) hv ⟨b, off, none⟩ 1 cap ([x].map Value.string) (by simp) hc
    (by intro u hu; obtain ⟨z, _, rfl⟩ := List.mem_map.1 hu; rfl) (by simp only [maxLen]; omega) (by omega) hbase
  refine ⟨v', w', h1, ?_, h3, h5⟩
  unfold HasT
  rw [List.length_append, List.map_append]
  exact h2
theorem wpList_appt {ops : Array Oper} {rest : List Oper} {o : Oper} {a : Act} {Q : Exit → Act → World → Prop} (w : World) (hgd : o.guard = none) (s x : Operand)
    (ho : o.op = .call { callee := .builtin .append, args := #[s, x], argTypes := #[30, 30] }) (base : Nat) (v : Value) (l : List ByteArray) (c : ByteArray) (b off cap : Nat) (hs : a.eval s = v) (hv : HasT w base v l)
    (hx : a.eval x = .slice (some ⟨b, off, none⟩) 1 cap) (hr : w.cell? ⟨b, off, none⟩ = some (.string c)) (hlen : l.length + 1 ≤ 1000000) (hbase : base ≤ w.heap.size)
    (h : ∀ v' w', HasT w' base v' (l ++ [c]) → w.grownBy w' v.ownBlock → (v'.ownBlock = v.ownBlock ∨ v'.ownBlock = some w.heap.size) → wpList Tryd.prog ops Q rest (a.put o.dst v') w') :
    wpList Tryd.prog ops Q (o :: rest) a w := by
  refine wpList_plain hgd fun K hK => ?_
  obtain ⟨v', w', hrun, h2, h3, h4⟩ := run_appt w base v l c o.type hv b off cap hr hlen hbase
  unfold Oper.wp
  simp [execOp, ho, resolve, invoke, builtin, hs, hx, hrun, Result.andThen]
  exact hK _ _ (h v' w' h2 h3 h4)
theorem cell_str (w : World) (x : ByteArray) (t : TypeId) : (w.alloc (.cells #[.string x] t)).cell? ⟨w.heap.size, 0, none⟩ = some (.string x) := by rw [World.cell?_alloc_at _ _ _ _ rfl]; rfl

end Go.Proofs.YtjojeifoddonnakDoor

/-
  An error as a value that may be none; what a slice of this call's own has room for.
-/
namespace Go.Proofs.YtjojeifoddonnakDoor.Ev
open Go.RowKit
open Go.Proofs.YtjojeifoddonnakDoor.Tre
set_option linter.unusedVariables false

/-- An error as a value. -/
def errV (e : Int) : Value := if e = 0 then .nilIface else .iface 41 (.int .i64 e)
theorem errV_zero : errV 0 = .nilIface := rfl
theorem errV_ne {e : Int} (h : e ≠ 0) : errV e = .iface 41 (.int .i64 e) := by simp [errV, h]
/-- .. as a slice and a row, with its room. -/
theorem has_room {w : World} {base : Nat} {v : Value} {l : List Int} (h : Has w base v l) : ∃ a cap, v = .slice a l.length cap ∧ Row w a l ∧ l.length ≤ cap ∧ cap ≤ 9223372036854775807 := by
  obtain ⟨a, cap, e, hr⟩ := h.row
  rcases h.2 with ⟨h1, h2⟩ | ⟨g, c, cur, hv, hb, hg, hn, hm, _⟩
  · rw [h1] at e
    obtain ⟨e1, e2, e3⟩ := Value.slice.inj e
    exact ⟨a, cap, by rw [h1]; exact e, hr, by omega, by omega⟩
  · rw [hv] at e
    obtain ⟨e1, e2, e3⟩ := Value.slice.inj e
    subst e3
    exact ⟨a, c, by rw [hv]; exact e, hr, hn, by simpa [maxLen] using hm⟩
theorem guard_err (op : BinOp) (t : TypeId) (x : Operand) (E : Int) (w : World) : (eqGuard op t x (Operand.const Value.nilIface) (errV E) Value.nilIface).run Tryd.prog w = .ok () w := by
  unfold eqGuard errV
  by_cases h : E = 0
  · rw [if_pos h]
    cases op <;> simp [Sem.run_pure]
  · rw [if_neg h]
    cases op <;> simp [Sem.run_pure]
theorem neq_err (E : Int) (w : World) : (binOp BinOp.neq 24 (errV E) Value.nilIface).run Tryd.prog w = .ok (.bool (decide (E ≠ 0))) w := by
  unfold errV
  by_cases h : E = 0
  · rw [if_pos h]
    simp [h, go_sem]
  · rw [if_neg h]
    simp [h, go_sem]
theorem eql_err (E : Int) (w : World) : (binOp BinOp.eql 24 (errV E) Value.nilIface).run Tryd.prog w = .ok (.bool (decide (E = 0))) w := by
  unfold errV
  by_cases h : E = 0
  · rw [if_pos h]
    simp [h, go_sem]
  · rw [if_neg h]
    simp [h, go_sem]

end Go.Proofs.YtjojeifoddonnakDoor.Ev

/-
  Texts that lie in memory in a block of a set.
-/
namespace Go.Proofs.YtjojeifoddonnakDoor
open Go.RowKit
open Go.Proofs.YtjojeifoddonnakDoor.Tre
set_option linter.unusedVariables false

def RowTI (R : Nat → Prop) (w : World) (a : Option Addr) (l : List ByteArray) : Prop :=
  l = [] ∨ ∃ b off, a = some ⟨b, off, none⟩ ∧ R b ∧ b < w.heap.size ∧ ∀ j, j < l.length → w.cell? ⟨b, off + j, none⟩ = some (.string (l.getD j ⟨#[]⟩))
section
variable {R S : Nat → Prop} {w w' : World} {a : Option Addr} {l : List ByteArray}
theorem RowTI.rowT (h : RowTI R w a l) : RowT w a l := by
  rcases h with h | ⟨b, off, e, _, hb, hc⟩
  · exact Or.inl h
  · exact Or.inr ⟨b, off, e, hb, hc⟩
theorem RowTI.kept (h : RowTI R w a l) (hz : w.heap.size ≤ w'.heap.size) (hk : ∀ j, R j → j < w.heap.size → w'.heap[j]? = w.heap[j]?) (hm : ∀ j, R j → j < w.heap.size → S j) : RowTI S w' a l := by
  rcases h with h | ⟨b, off, e, hn, hb, hc⟩
  · exact Or.inl h
  · refine Or.inr ⟨b, off, e, hm b hn hb, Nat.lt_of_lt_of_le hb hz, fun j hj => ?_⟩
    rw [World.cell?_of_block (a := ⟨b, off + j, none⟩) (hk b hn hb)]
    exact hc j hj
theorem RowTI.below (h : RowTI R w a l) (hb : Below w.heap.size w w') : RowTI R w' a l := h.kept hb.size (fun j _ hj => hb.block j hj) (fun j hj _ => hj)
end

end Go.Proofs.YtjojeifoddonnakDoor

/-
  A slice of bytes that this call has made itself: what it holds, append of one byte, and one byte read or set.
-/
namespace Go.Proofs.YtjojeifoddonnakDoor
open Go.RowKit
open Go.Proofs.YtjojeifoddonnakDoor.Tre
set_option linter.unusedVariables false

theorem info_byte : (Tryd.prog.info? 5).map (fun i => (i.zero, i.size, i.bytes)) = some (some (.int .u8 0), 1, 1) := by kernel_rfl

/-- A slice of bytes of this call's own (its block at base or behind) holds l. -/
def HasY (w : World) (base : Nat) (v : Value) (l : List Int) : Prop := w.ownsRow base 5 1 v l.length (l.map (Value.int .u8))

theorem HasY.nil (w : World) (base : Nat) : HasY w base (.slice none 0 0) [] := World.ownsRow_nil _ _ _ _
theorem HasY.kept {w w' : World} {base : Nat} {v : Value} {l : List Int} {row : Option Nat} (h : HasY w base v l) (hg : w.grownBy w' row) (hne : v.ownBlock = none ∨ v.ownBlock ≠ row) : HasY w' base v l := World.ownsRow.kept h hg hne
theorem HasY.alloc {w : World} {base : Nat} {v : Value} {l : List Int} (h : HasY w base v l) (o : Obj) : HasY (w.alloc o) base v l := World.ownsRow.alloc h o
theorem HasY.below {w w' : World} {base : Nat} {v : Value} {l : List Int} (h : HasY w base v l) (hb : Below w.heap.size w w') : HasY w' base v l := by
  refine ⟨h.1, ?_⟩
  rcases h.2 with hn | ⟨g, cap, cur, rfl, hbg, hgg, rest⟩
  · exact .inl hn
  · exact .inr ⟨g, cap, cur, rfl, hbg, (hb.block g (Array.getElem?_eq_some_iff.1 hgg).1).trans hgg, rest⟩
theorem HasY.lt {w : World} {base : Nat} {v : Value} {l : List Int} (h : HasY w base v l) : ∀ k, v.ownBlock = some k → base ≤ k ∧ k < w.heap.size := World.ownsRow.lt h
theorem HasY.shape {w : World} {base : Nat} {v : Value} {l : List Int} (h : HasY w base v l) : ∃ a cap, v = .slice a l.length cap := by
  rcases h.2 with ⟨h1, h2⟩ | ⟨g, cap, cur, hv, _⟩
  · exact ⟨none, 0, by rw [h2]; exact h1⟩
  · exact ⟨some ⟨g, 0, none⟩, cap, hv⟩
theorem HasY.any {w : World} {base : Nat} {v : Value} {l : List Int} (h : HasY w base v l) : ∃ a n cap, v = .slice a n cap := by
  obtain ⟨a, cap, e⟩ := h.shape
  exact ⟨a, _, cap, e⟩
theorem HasY.one {w : World} {base : Nat} {v : Value} {l : List Int} (h : HasY w base v l) (h0 : 0 < l.length) : ∃ g c, v = .slice (some ⟨g, 0, none⟩) l.length c ∧ base ≤ g ∧ g < w.heap.size ∧ l.length ≤ c ∧ c ≤ 9223372036854775807 := by
  rcases h.2 with ⟨_, e⟩ | ⟨g, cap, cur, hv, hb, hg, hn, hm, _⟩
  · omega
  · exact ⟨g, cap, hv, hb, (Array.getElem?_eq_some_iff.1 hg).1, hn, by simpa [maxLen] using hm⟩
theorem HasY.len {w : World} {base g n c : Nat} {l : List Int} (h : HasY w base (.slice (some ⟨g, 0, none⟩) n c) l) : n = l.length := by
  obtain ⟨a, cap, e⟩ := h.shape
  exact (Value.slice.inj e).2.1
theorem HasY.get {w : World} {base g n c : Nat} {l : List Int} (h : HasY w base (.slice (some ⟨g, 0, none⟩) n c) l) {j : Nat} (hj : j < l.length) : w.cell? ⟨g, j, none⟩ = some (.int .u8 (at0 l j)) := by
  obtain rfl := h.len
  rw [World.ownsRow.cellAt h j (by omega)]
  simp [at0, hj]
theorem HasY.put {w : World} {base g n c : Nat} {l : List Int} (h : HasY w base (.slice (some ⟨g, 0, none⟩) n c) l) (j : Nat) (x : Int) :
    HasY (w.setCell ⟨g, j, none⟩ (.int .u8 x)) base (.slice (some ⟨g, 0, none⟩) n c) (l.set j x) ∧ w.grownBy (w.setCell ⟨g, j, none⟩ (.int .u8 x)) (some g) := by
  obtain rfl := h.len
  have := World.ownsRow.stored h j (.int .u8 x)
  rw [← List.map_set] at this
  refine ⟨?_, this.2⟩
  unfold HasY
  rw [List.length_set]
  exact this.1
theorem HasY.frozen {w : World} {base g n c : Nat} {l : List Int} (h : HasY w base (.slice (some ⟨g, 0, none⟩) n c) l) (j : Nat) : w.frozen? ⟨g, j, none⟩ = false := by
  obtain rfl := h.len
  exact World.ownsRow.frozenAt h j

theorem cell_byte (w : World) (x : Int) (t : TypeId) : (w.alloc (.cells #[.int .u8 x] t)).cell? ⟨w.heap.size, 0, none⟩ = some (.int .u8 x) := by rw [World.cell?_alloc_at _ _ _ _ rfl]; rfl
theorem cell_byte' {w : World} {x : Int} {t : TypeId} {n : Nat} (h : w.heap.size = n) : (w.alloc (.cells #[.int .u8 x] t)).cell? ⟨n, 0, none⟩ = some (.int .u8 x) := by subst h; exact cell_byte w x t

/-- append of one byte. -/
theorem run_appy (w : World) (base : Nat) (v : Value) (l : List Int) (x : Int) (ty : TypeId) (hv : HasY w base v l) (b : Nat) (cap : Nat) (hr : w.cell? ⟨b, 0, none⟩ = some (.int .u8 x)) (hlen : l.length + 1 ≤ 1000000) (hbase : base ≤ w.heap.size) :
    ∃ v' w', (Builtin.append_ #[38, 38] ty #[v, .slice (some ⟨b, 0, none⟩) 1 cap]).run Tryd.prog w = .ok v' w' ∧ HasY w' base v' (l ++ [x]) ∧ w.grownBy w' v.ownBlock ∧ (v'.ownBlock = v.ownBlock ∨ v'.ownBlock = some w.heap.size) := by
  obtain ⟨i, hi, hz0, hz1, hz2⟩ := info_parts info_byte
  have hc : ∀ (j : Nat) (u : Value), ([x].map (Value.int .u8))[j]? = some u → w.cell? ((⟨b, 0, none⟩ : Addr).add j) = some u := by
    intro j u hu
    cases j with
    | zero => simp at hu; rw [addr_plain, Nat.add_zero, hr, hu]
    | succ j => simp at hu
  obtain ⟨v', w', h1, h2, h3, h4, h5⟩ := run_append_own_at (P := Tryd.prog) w base 38 ty 5 i (.int .u8 0) 1 1 Tryd.underlying38 hi hz0 hz1 hz2 rfl (by omega) v l.length (l.map (Value.int .u8)) hv ⟨b, 0, none⟩ 1 cap ([x].map (Value.int .u8)) (by simp) hc
    (by intro u hu; obtain ⟨z, _, rfl⟩ := List.mem_map.1 hu; rfl) (by simp only [maxLen]; omega) (by omega) hbase
  refine ⟨v', w', h1, ?_, h3, h5⟩
  unfold HasY
  rw [List.length_append, List.map_append]
  exact h2

theorem wpListIn_appy {F : Fence} {n : Nat} {ops : Array Oper} {rest : List Oper} {o : Oper} {a : Act} {Q : Exit → Act → World → Prop} (w : World) (hgd : o.guard = none) (s x : Operand)
    (ho : o.op = .call { callee := .builtin .append, args := #[s, x], argTypes := #[38, 38] }) (base : Nat) (v : Value) (l : List Int) (c : Int) (b cap : Nat) (hs : a.eval s = v) (hv : HasY w base v l)
    (hx : a.eval x = .slice (some ⟨b, 0, none⟩) 1 cap) (hr : w.cell? ⟨b, 0, none⟩ = some (.int .u8 c)) (hlen : l.length + 1 ≤ 1000000) (hbase : base ≤ w.heap.size)
    (h : ∀ v' w', HasY w' base v' (l ++ [c]) → w.grownBy w' v.ownBlock → (v'.ownBlock = v.ownBlock ∨ v'.ownBlock = some w.heap.size) → wpListIn F n Tryd.prog ops Q rest (a.put o.dst v') w') :
    wpListIn F n Tryd.prog ops Q (o :: rest) a w := by
  refine wpListIn_plain hgd fun K hK => ?_
  obtain ⟨v', w', hrun, h2, h3, h4⟩ := run_appy w base v l c o.type hv b cap hr hlen hbase
  unfold Oper.wpIn
  refine ⟨?_, ?_⟩
  · simp [Oper.about, ho, resolve, Target.leads, Sem.run_pure]
  · rw [Oper.semAt_plain F _ _ (by rw [ho]; intro c hc'; cases hc')]
    simp [execOp, ho, resolve, invoke, builtin, hs, hx, hrun, Result.andThen]
    exact hK _ _ (h v' w' h2 h3 h4)

end Go.Proofs.YtjojeifoddonnakDoor

/-
  A value that is a slice of these integers.
-/
namespace Go.Proofs.YtjojeifoddonnakDoor
open Go.RowKit
open Go.Proofs.YtjojeifoddonnakDoor.Tre
set_option linter.unusedVariables false

/-- A slice of these integers. -/
def Sli (w : World) (V : Value) (l : List Int) : Prop := ∃ A C, V = .slice A l.length C ∧ (A = none → C = 0) ∧ l.length ≤ C ∧ C ≤ 9223372036854775807 ∧ Row w A l

theorem Sli.below {w w' : World} {V : Value} {l : List Int} (h : Sli w V l) (hb : Below w.heap.size w w') : Sli w' V l := by
  obtain ⟨A, C, h1, h2, h3, h4, h5⟩ := h
  exact ⟨A, C, h1, h2, h3, h4, h5.below hb⟩
theorem Has.sli {w : World} {base : Nat} {v : Value} {l : List Int} (h : Has w base v l) : Sli w v l := by
  have h' := h
  obtain ⟨a, cap, rfl, hr⟩ := h.row
  rcases h'.2 with ⟨e, e0⟩ | ⟨g, c, cur, e, hb, hg, hn, hm, _⟩
  · obtain ⟨e1, e2, e3⟩ := Value.slice.inj e
    exact ⟨a, cap, rfl, fun _ => e3, by omega, by omega, hr⟩
  · obtain ⟨e1, e2, e3⟩ := Value.slice.inj e
    subst e1 e3
    exact ⟨_, _, rfl, fun h => (by cases h), hn, by simpa [maxLen] using hm, hr⟩
theorem cel_of {w : World} {p : Addr} {V : Value} {l : List Int} (h : w.cell? p = some V) (hs : Sli w V l) : Cel w p l := by
  obtain ⟨A, C, h1, h2, h3, h4, h5⟩ := hs
  exact ⟨A, C, by rw [h, h1], h2, h3, h4, h5⟩

end Go.Proofs.YtjojeifoddonnakDoor

/-
  share.outside, share.check: by their contracts.
-/
namespace Go.Proofs.YtjojeifoddonnakDoor.Shr
open Go.RowKit
open Go.Proofs.YtjojeifoddonnakDoor.Tre Go.Proofs.YtjojeifoddonnakDoor.Cnt Go.Proofs.YtjojeifoddonnakDoor.Bnd
set_option linter.unusedVariables false

/-- A number is not from 0 to m. -/
def outs (m n : Int) : Bool := decide (n < 0) || decide (m < n)
theorem any_of (c : Int) (l : List Int) (k : Nat) (hk : k < l.length) (h : outs c l[k] = true) : l.any (outs c) = true :=
  List.any_eq_true.2 ⟨l[k], List.getElem_mem hk, h⟩
theorem any_step (c : Int) (l : List Int) (k : Nat) (hk : k < l.length) (h0 : (l.take k).any (outs c) = false) (h : outs c l[k] = false) : (l.take (k + 1)).any (outs c) = false := by
  rw [List.take_succ_eq_append_getElem hk, List.any_append, h0]
  simp [h]

theorem outside1 (c n : Int) (B : Nat) (w : World) (hc : w.cell? ⟨B, 0, none⟩ = some (.int .i64 c)) :
    Calls Tryd.prog 70 #[.int .i64 n, .pointer (some ⟨B, 0, none⟩)] w fun e w' => e = .returned (.bool (outs c n)) ∧ w' = w := by
  by_cases h1 : n < 0
  · have h3 : decide (n < 0) = true := by simpa using h1
    go_enter Tryd.func70, Tryd.ntmps70
    go_wp2
    go_ret
    exact ⟨by simp [outs, h3], rfl⟩
  · have h2 : decide (n < 0) = false := by simpa using h1
    go_enter Tryd.func70, Tryd.ntmps70
    go_wp2
    go_ret
    exact ⟨by simp [outs, h2], rfl⟩

set_option maxHeartbeats 400000 in
theorem indexFunc (c : Int) (a : Option Addr) (cap : Nat) (l : List Int) (B : Nat) (w : World) (hl : l.length ≤ 9223372036854775807) (hr : Row w a l) (hc : w.cell? ⟨B, 0, none⟩ = some (.int .i64 c)) :
    Calls Tryd.prog 31 #[.slice a l.length cap, .func (.func 70) #[] #[.pointer (some ⟨B, 0, none⟩)]] w
      fun e w' => (∃ r : Int, e = .returned (.int .i64 r) ∧ (decide (0 ≤ r)) = l.any (outs c)) ∧ w' = w := by
  go_enter Tryd.func31, Tryd.ntmps31
  go_wp2
  go_loop [8] (fun i => ∃ k : Nat, k ≤ l.length ∧ i = .int .i64 k ∧ (l.take k).any (outs c) = false) (fun i => l.length - (intOf i).toNat)
  case atStart => exact ⟨0, Nat.zero_le _, rfl, by simp⟩
  case round =>
    obtain ⟨k, hk, rfl, hno⟩ := hrel
    have HNO : Hid ((l.take k).any (outs c) = false) := hno
    clear hno
    by_cases hlt : k < l.length
    · obtain ⟨b, off, rfl, hb, hcs⟩ := hr.at hlt
      have hck := hcs k hlt
      clear hcs
      go_wp2_with (go_at_call 70; refine (outside1 c _ _ _ hc).mono ?_; rintro e w' ⟨rfl, rfl⟩)
      · go_ret
        have hh : outs c l[k] = true := by assumption
        exact ⟨⟨k, rfl, by rw [any_of c l k hlt hh]; simp⟩, rfl⟩
      · have hh : outs c l[k] = false := by assumption
        go_round
        case rel => exact ⟨k + 1, by omega, by go_num, any_step c l k hlt HNO.out hh⟩
        case measure => simp [intOf]; omega
    · go_wp2
      go_ret
      have hh := HNO.out
      rw [List.take_of_length_le (by omega)] at hh
      exact ⟨⟨-1, rfl, by rw [hh]; rfl⟩, rfl⟩

theorem containsFunc (c : Int) (a : Option Addr) (cap : Nat) (l : List Int) (B : Nat) (w : World) (hl : l.length ≤ 9223372036854775807) (hr : Row w a l) (hc : w.cell? ⟨B, 0, none⟩ = some (.int .i64 c)) :
    Calls Tryd.prog 20 #[.slice a l.length cap, .func (.func 70) #[] #[.pointer (some ⟨B, 0, none⟩)]] w
      fun e w' => e = .returned (.bool (l.any (outs c))) ∧ w' = w := by
  go_enter Tryd.func20, Tryd.ntmps20
  go_wp2_with fail
  refine (indexFunc c a cap l B w hl hr hc).mono ?_
  rintro e w' ⟨⟨r, rfl, hr2⟩, rfl⟩
  have HR := hide hr2
  clear hr2
  go_wp2
  go_ret
  exact ⟨by rw [← unhide HR]; rfl, rfl⟩

theorem boxed_cell (w : World) (c : Int) (t : TypeId) : (w.alloc (.cells #[.int .i64 c] t)).cell? ⟨w.heap.size, 0, none⟩ = some (.int .i64 c) := by
  rw [World.cell?_alloc_at _ _ _ _ rfl]; rfl
theorem below_box (w : World) (v : Value) (t : TypeId) : Below w.heap.size w (w.alloc (.cells #[v] t)) := (Below.refl _ _).alloc (Nat.le_refl _) _

theorem outside (c : Int) (w : World) : Calls Tryd.prog 56 #[.int .i64 c] w fun e w' => ∃ B : Nat, e = .returned (.func (.func 70) #[] #[.pointer (some ⟨B, 0, none⟩)]) ∧ w'.cell? ⟨B, 0, none⟩ = some (.int .i64 c) ∧ Below w.heap.size w w' := by
  have hmf : ∀ (fn : Fn) (first cap : Array Value) (w : World), (Instr.makeFunc fn first cap).run Tryd.prog w = .ok (.func fn first cap) w := fun _ _ _ _ => rfl
  go_enter Tryd.func56, Tryd.ntmps56
  go_wp2
  go_ret
  exact ⟨_, rfl, boxed_cell _ _ _, below_box _ _ _⟩

/-- The fault of sizes, and of numbers that bands have. -/
def chkF (s p : List Int) (m : Int) : Int := if bf s = 0 then (if p.length = s.length then (if p.any (outs m) = true then 1 else 0) else 3) else bf s
theorem costF_chk (s p : List Int) : costF s p = chkF s p 8 := rfl
theorem ofF_chk (s d : List Int) (B : Int) : ofF s d B = if chkF s d 8000 = 0 then (if outs 400 B = true then 1 else 0) else chkF s d 8000 := by
  have e : (lou : Int → Bool) = outs 8000 := rfl
  have e2 : (outs 400 B = true) ↔ (B < 0 ∨ 400 < B) := by simp [outs]
  unfold ofF chkF
  rw [e]
  by_cases h1 : bf s = 0
  · rw [if_pos h1, if_pos h1]
    by_cases h2 : d.length = s.length
    · rw [if_pos h2, if_pos h2]
      by_cases h3 : d.any (outs 8000) = true
      · rw [if_pos h3, if_pos h3, if_neg (by omega)]
      · rw [if_neg h3, if_neg h3, if_pos rfl]
        by_cases h4 : B < 0 ∨ 400 < B
        · rw [if_pos h4, if_pos (e2.2 h4)]
        · rw [if_neg h4, if_neg (mt e2.1 h4)]
    · rw [if_neg h2, if_neg h2, if_neg (by omega)]
  · rw [if_neg h1, if_neg h1, if_neg h1]

set_option maxHeartbeats 1000000 in
theorem check (a : Option Addr) (cap : Nat) (s : List Int) (b : Option Addr) (capb : Nat) (p : List Int) (m : Int) (w : World) (zs : s.length ≤ 9223372036854775807) (zp : p.length ≤ 9223372036854775807) (hr : Row w a s) (hp : Row w b p) :
    Calls Tryd.prog 55 #[.slice a s.length cap, .slice b p.length capb, .int .i64 m] w fun e w' => e = .returned (Ev.errV (chkF s p m)) ∧ Below w.heap.size w w' := by
  have HF : Hid (chkF s p m = if bf s = 0 then (if p.length = s.length then (if p.any (outs m) = true then 1 else 0) else 3) else bf s) := hide rfl
  obtain ⟨F, hF⟩ : ∃ F, chkF s p m = F := ⟨_, rfl⟩
  rw [hF] at HF ⊢
  clear hF
  by_cases h1 : bf s = 0
  · have hk := check_ok a cap s w zs hr h1
    have HF1 := unhide HF
    rw [if_pos h1] at HF1
    have HF2 := hide HF1
    obtain ⟨T, hT⟩ : ∃ T, (total s : Int) = T := ⟨_, rfl⟩
    rw [hT] at hk
    have hcf := hide (fun B W h1 h2 => containsFunc m b capb p B W zp h1 h2)
    obtain ⟨N, hN⟩ : ∃ N, s.length = N := ⟨_, rfl⟩
    obtain ⟨M, hM⟩ : ∃ M, p.length = M := ⟨_, rfl⟩
    rw [hN] at hk zs HF2 ⊢
    rw [hM] at hcf zp HF2 ⊢
    clear hT HF HF1 h1 hN hM hr
    by_cases h2 : M = N
    · have hne : ((M : Int) != (N : Int)) = false := by simp [h2]
      have HF3 := unhide HF2
      rw [if_pos h2] at HF3
      have HF4 := hide HF3
      have HP := hide hp
      clear HF2 HF3 h2 hp
      go_enter Tryd.func55, Tryd.ntmps55
      go_wp2_with fail
      refine hk.mono ?_
      clear hk
      rintro e w1 ⟨rfl, rfl⟩
      go_wp2_with fail
      refine (outside m _).mono ?_
      rintro e w2 ⟨B, rfl, hc2, hb2⟩
      go_wp2_with fail
      refine (unhide hcf B w2 ((unhide HP).below hb2) hc2).mono ?_
      rintro e w3 ⟨rfl, rfl⟩
      cases hT : p.any (outs m)
      · have e0 : F = 0 := by rw [unhide HF4, hT]; rfl
        subst e0
        clear HF4 hT
        go_wp2
        go_ret
        exact ⟨rfl, hb2⟩
      · have e0 : F = 1 := by rw [unhide HF4, hT]; rfl
        subst e0
        clear HF4 hT
        go_wp2
        go_ret
        exact ⟨rfl, hb2⟩
    · have hne : ((M : Int) != (N : Int)) = true := by simp; omega
      have HF3 := unhide HF2
      rw [if_neg h2] at HF3
      subst HF3
      clear HF2 h2 hcf hp
      go_enter Tryd.func55, Tryd.ntmps55
      go_wp2_with fail
      refine hk.mono ?_
      clear hk
      rintro e w1 ⟨rfl, rfl⟩
      go_wp2
      go_ret
      exact ⟨rfl, Below.refl _ _⟩
  · have hk := check_no a cap s w zs hr h1
    have e0 := unhide HF
    rw [if_neg h1] at e0
    rw [← e0] at hk h1
    have HE := hide (Ev.errV_ne h1)
    obtain ⟨N, hN⟩ : ∃ N, s.length = N := ⟨_, rfl⟩
    obtain ⟨M, hM⟩ : ∃ M, p.length = M := ⟨_, rfl⟩
    rw [hN] at hk ⊢
    rw [hM]
    clear hN hM zs zp hr hp HF e0 h1
    go_enter Tryd.func55, Tryd.ntmps55
    go_wp2_with fail
    refine hk.mono ?_
    clear hk
    rintro e w1 ⟨rfl, rfl⟩
    go_wp2
    go_ret
    exact ⟨by rw [unhide HE]; rfl, Below.refl _ _⟩

end Go.Proofs.YtjojeifoddonnakDoor.Shr

/-
  A list of this call's own of which the first are already new: one more is set.
-/
namespace Go.Proofs.YtjojeifoddonnakDoor.Mid
open Go.RowKit
open Go.Proofs.YtjojeifoddonnakDoor.Tre Go.Proofs.YtjojeifoddonnakDoor.Lap
set_option linter.unusedVariables false

theorem row_cell {w : World} {a : Option Addr} {l : List Int} (h : Row w a l) (h0 : 0 < l.length) : ∃ b off, a = some ⟨b, off, none⟩ ∧ b < w.heap.size ∧ ∀ j, j < l.length → w.cell? ⟨b, off + j, none⟩ = some (.int .i64 (at0 l j)) := by
  obtain ⟨b, off, e, hb, hc⟩ := h.at h0
  exact ⟨b, off, e, hb, fun j hj => (hc j hj).trans (by rw [List.getD_eq_getElem?_getD]; rfl)⟩

theorem put_mid {wr : World} {base g n c j : Nat} {f f0 : Nat → Int} {X : Int} (h : Has wr base (.slice (some ⟨g, 0, none⟩) n c) (mid f f0 n j)) (hj : j < n) (hx : f j = X) (q : Nat) :
    Has ((wr.drewN q).setCell ⟨g, j, none⟩ (.int .i64 X)) base (.slice (some ⟨g, 0, none⟩) n c) (mid f f0 n (j + 1)) ∧
      (∀ u m, Has wr base u m → Off u (.slice (some ⟨g, 0, none⟩) n c) → Has ((wr.drewN q).setCell ⟨g, j, none⟩ (.int .i64 X)) base u m) ∧
      (∀ w, Below base w wr → base ≤ g → Below base w ((wr.drewN q).setCell ⟨g, j, none⟩ (.int .i64 X))) := by
  have h1 : Has (wr.drewN q) base (.slice (some ⟨g, 0, none⟩) n c) (mid f f0 n j) := h
  obtain ⟨h2, h3⟩ := h1.put j X
  refine ⟨?_, fun u m hu ho => ?_, fun w hb hg => ?_⟩
  · rw [← mid_set f f0 hj, hx]; exact h2
  · exact Has.beside (show Has (wr.drewN q) base u m from hu) rfl ho h3
  · exact Below.setCell (w := wr.drewN q) (p := ⟨g, j, none⟩) (hb.trans ⟨rfl, rfl, rfl, Nat.le_refl _, fun _ _ => rfl⟩) hg _

end Go.Proofs.YtjojeifoddonnakDoor.Mid

/-
  A row's numbers, each in its cell.
-/
namespace Go.Proofs.YtjojeifoddonnakDoor.Bnd
open Go.RowKit
open Go.Proofs.YtjojeifoddonnakDoor.Tre
set_option linter.unusedVariables false

theorem cell_at {w : World} {a : Option Addr} {l : List Int} (h : Row w a l) (h0 : 0 < l.length) : ∃ b off, a = some ⟨b, off, none⟩ ∧ b < w.heap.size ∧ ∀ j, j < l.length → w.cell? ⟨b, off + j, none⟩ = some (.int .i64 (at0 l j)) := by
  obtain ⟨b, off, e, hb, hc⟩ := h.at h0
  exact ⟨b, off, e, hb, fun j hj => (hc j hj).trans (by rw [List.getD_eq_getElem?_getD]; rfl)⟩

end Go.Proofs.YtjojeifoddonnakDoor.Bnd

/-
  Words for the contracts of chapter 10: cells of a row, sums that no integer is too small for, the fault of counts.
-/
namespace Go.Proofs.YtjojeifoddonnakDoor.Scl
open Go.RowKit
open Go.Proofs.YtjojeifoddonnakDoor.Tre
set_option linter.unusedVariables false

theorem cell_at {w : World} {a : Option Addr} {l : List Int} (h : Row w a l) (h0 : 0 < l.length) : ∃ b off, a = some ⟨b, off, none⟩ ∧ b < w.heap.size ∧ ∀ j, j < l.length → w.cell? ⟨b, off + j, none⟩ = some (.int .i64 (at0 l j)) := by
  obtain ⟨b, off, e, hb, hc⟩ := h.at h0
  exact ⟨b, off, e, hb, fun j hj => (hc j hj).trans (by rw [List.getD_eq_getElem?_getD]; rfl)⟩

/-- Sums of the first ones that no integer is too small for. -/
def Small (l : List Int) : Prop := ∀ j, j ≤ l.length → -1000000000 ≤ pfx l j ∧ pfx l j ≤ 1000000000
theorem small_of {l : List Int} (h : ∀ i, i < l.length → 0 ≤ at0 l i ∧ at0 l i ≤ 1000000) (h40 : l.length ≤ 40) : Small l := fun j hj => by
  have h1 := pfx_nonneg (l := l) (fun i hi => (h i hi).1) hj
  have h2 := pfx_le (l := l) (b := 1000000) (fun i hi => (h i hi).2) hj
  omega

theorem cf_bad {c : List Int} {j : Nat} (h0 : c.length ≠ 0) (h40 : ¬ 40 < c.length) (hj : j < c.length) (hb : at0 c j < 0 ∨ 1000000 < at0 c j) : cf c = 1 := by
  have e : at0 c j = c[j] := by simp [at0, hj]
  have h : c.any wrong = true := List.any_eq_true.2 ⟨c[j], List.getElem_mem hj, by rw [e] at hb; simp [wrong]; omega⟩
  simp [cf, h0, h40, h]
theorem cf_sum {c : List Int} (h0 : c.length ≠ 0) (h40 : ¬ 40 < c.length) (h : ∀ i, i < c.length → 0 ≤ at0 c i ∧ at0 c i ≤ 1000000) : cf c = if tot c = 0 then 5 else 0 := by
  have hany : c.any wrong = false := by
    apply List.any_eq_false.2
    intro n hn
    obtain ⟨i, hi, rfl⟩ := List.getElem_of_mem hn
    have := h i hi
    have e : at0 c i = c[i] := by simp [at0, hi]
    rw [e] at this
    simp [wrong]; omega
  simp [cf, h0, h40, hany]

end Go.Proofs.YtjojeifoddonnakDoor.Scl
