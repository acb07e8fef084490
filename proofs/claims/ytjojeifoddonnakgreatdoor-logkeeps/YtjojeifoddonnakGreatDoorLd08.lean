/-
  append, as a step of a region that draws its order.
-/
import Derived.Test.YtjojeifoddonnakGreatDoorLd05
import Derived.Deep.RegionLaw
import Derived.Deep.QuietTactic
import Derived.BigQuiet
import Derived.Test.YtjojeifoddonnakGreatDoorLd00
import Derived.Test.YtjojeifoddonnakGreatDoorLd01
namespace Go.Proofs.YtjojeifoddonnakGreatDoor
open Go.RowKit
set_option linter.unusedVariables false

theorem step_app {ops : Array Oper} {o : Oper} {a : Act} {K : Act → World → Prop} {Q : Exit → Act → World → Prop} {E : Prop} (w : World) (hgd : o.guard = none) (s x : Operand)
    (ho : o.op = .call { callee := .builtin .append, args := #[s, x], argTypes := #[22, 22] }) (base : Nat) (v : Value) (l m : List Int) (ad : Option Addr) (cap : Nat) (hs : a.eval s = v) (hv : Has w base v l)
    (hx : a.eval x = .slice ad m.length cap) (hr : Row w ad m) (hlen : l.length + m.length ≤ 1000000) (hbase : base ≤ w.heap.size)
    (h : ∀ v' w', Has w' base v' (l ++ m) → w.grownBy w' v.ownBlock → (v'.ownBlock = v.ownBlock ∨ v'.ownBlock = some w.heap.size) → K (a.put o.dst v') w') :
    if Region.wanted o (yielded ops a.tmps) = true then Oper.wp Tryz.prog o a w K Q else E := by
  have hw : Region.wanted o (yielded ops a.tmps) = true := by simp [Region.wanted, hgd]
  rw [if_pos hw]
  obtain ⟨v', w', hrun, h2, h3, h4, _⟩ := run_app w base v l m o.type hv ad cap hr hlen hbase
  unfold Oper.wp
  simp [execOp, ho, resolve, invoke, builtin, hs, hx, hrun, Result.andThen]
  exact h v' w' h2 h3 h4

/-- Two slices do not lie in one row. -/
def Off (u v : Value) : Prop := u.ownBlock = none ∨ u.ownBlock ≠ v.ownBlock
theorem Off.symm {u v : Value} (h : Off u v) : Off v u := by
  unfold Off at *
  rcases h with h | h
  · by_cases hv : v.ownBlock = none
    · exact Or.inl hv
    · exact Or.inr (by rw [h]; exact hv)
  · exact Or.inr (Ne.symm h)

/-- 'x = append(x, ..)', x in no box: all that a walk owes behind it. -/
theorem stepped_plain {W w1 : World} {n₀ : Nat} {v v' : Value} {l l' : List Int} {tmp : Obj} (h : Has W n₀ v l) (hn : n₀ ≤ W.heap.size)
    (h' : Has w1 n₀ v' l') (hg : (W.alloc tmp).grownBy w1 v.ownBlock) (hat : v'.ownBlock = v.ownBlock ∨ v'.ownBlock = some (W.alloc tmp).heap.size) :
    Below n₀ W w1 ∧ (∀ u m, Has W n₀ u m → Off u v → Has w1 n₀ u m ∧ Off u v') := by
  refine ⟨((Below.refl n₀ W).alloc hn tmp).grown hg (by simp; omega) (fun j e => (h.lt j e).1), fun u m hu ha => ⟨(hu.alloc tmp).kept hg ha, ?_⟩⟩
  rcases hat with e | e
  · unfold Off; rw [e]; exact ha
  · cases hb : u.ownBlock with
    | none => exact Or.inl hb
    | some k =>
      refine Or.inr ?_
      rw [e, hb]
      have := (hu.lt k hb).2
      intro hh
      cases hh
      simp at this
      omega

end Go.Proofs.YtjojeifoddonnakGreatDoor

/-
  A slice of integers of this call's own: one number is read, or set.
-/
namespace Go.Proofs.YtjojeifoddonnakGreatDoor
open Go.RowKit
open Go.Proofs.YtjojeifoddonnakGreatDoor.Tre
set_option linter.unusedVariables false

/-- .. where it is none, and where it is one. -/
theorem Has.one {w : World} {base : Nat} {v : Value} {l : List Int} (h : Has w base v l) (h0 : 0 < l.length) : ∃ g c, v = .slice (some ⟨g, 0, none⟩) l.length c ∧ base ≤ g ∧ g < w.heap.size ∧ l.length ≤ c ∧ c ≤ 9223372036854775807 := by
  rcases h.2 with ⟨_, e⟩ | ⟨g, cap, cur, hv, hb, hg, hn, hm, _⟩
  · omega
  · exact ⟨g, cap, hv, hb, (Array.getElem?_eq_some_iff.1 hg).1, hn, by simpa [maxLen] using hm⟩
theorem Has.get {w : World} {base g n c : Nat} {l : List Int} (h : Has w base (.slice (some ⟨g, 0, none⟩) n c) l) {j : Nat} (hj : j < l.length) : w.cell? ⟨g, j, none⟩ = some (.int .i64 (at0 l j)) := by
  obtain ⟨a, cap, e, hr⟩ := h.row
  obtain ⟨b, off, e', hb, hcs⟩ := hr.at hj
  subst e'
  obtain ⟨e1, e2, e3⟩ := Value.slice.inj e
  cases e1
  have := hcs j hj
  rw [Nat.zero_add] at this
  rw [this, List.getD_eq_getElem?_getD]; rfl
theorem Has.put {w : World} {base g n c : Nat} {l : List Int} (h : Has w base (.slice (some ⟨g, 0, none⟩) n c) l) (j : Nat) (x : Int) :
    Has (w.setCell ⟨g, j, none⟩ (.int .i64 x)) base (.slice (some ⟨g, 0, none⟩) n c) (l.set j x) ∧ w.grownBy (w.setCell ⟨g, j, none⟩ (.int .i64 x)) (some g) := by
  obtain ⟨a, cap, e, _⟩ := h.row
  obtain ⟨e1, e2, e3⟩ := Value.slice.inj e
  subst e2
  have := World.ownsRow.stored h j (.int .i64 x)
  rw [← List.map_set] at this
  refine ⟨?_, this.2⟩
  unfold Has
  rw [List.length_set]
  exact this.1
theorem Has.frozen {w : World} {base g n c : Nat} {l : List Int} (h : Has w base (.slice (some ⟨g, 0, none⟩) n c) l) (j : Nat) : w.frozen? ⟨g, j, none⟩ = false := by
  obtain ⟨a, cap, e, _⟩ := h.row
  obtain ⟨e1, e2, e3⟩ := Value.slice.inj e
  subst e2
  exact World.ownsRow.frozenAt h j
/-- A number of one list is set: the other list stays. -/
theorem Has.beside {w w' : World} {base : Nat} {u v : Value} {m : List Int} {g n c : Nat} (hu : Has w base u m) (hv : v = .slice (some ⟨g, 0, none⟩) n c) (ho : Off u v) (hg : w.grownBy w' (some g)) : Has w' base u m := by
  refine hu.kept hg ?_
  unfold Off at ho
  rw [hv] at ho
  exact ho
theorem Has.inRow {w : World} {base : Nat} {v : Value} {l : List Int} (h : Has w base v l) {a : Option Addr} {n c : Nat} (e : v = .slice a n c) : n = l.length ∧ Row w a l := by
  obtain ⟨a', cap, e', hr⟩ := h.row
  rw [e] at e'
  obtain ⟨e1, e2, e3⟩ := Value.slice.inj e'
  subst e1 e2
  exact ⟨rfl, hr⟩

/-- One slice grows: another one stays, and does not lie in its row. -/
theorem apart {W w1 : World} {n₀ : Nat} {u v v' : Value} {m : List Int} (hu : Has W n₀ u m) (hg : W.grownBy w1 v.ownBlock) (hat : v'.ownBlock = v.ownBlock ∨ v'.ownBlock = some W.heap.size) (ho : Off u v) : Has w1 n₀ u m ∧ Off u v' := by
  refine ⟨hu.kept hg ho, ?_⟩
  rcases hat with e | e
  · unfold Off; rw [e]; exact ho
  · cases hb : u.ownBlock with
    | none => exact Or.inl hb
    | some k =>
      refine Or.inr ?_
      rw [e, hb]
      have := (hu.lt k hb).2
      intro hh
      cases hh
      omega
theorem off_nil (u : Value) : Off u (.slice none 0 0) := by
  cases h : u.ownBlock with
  | none => exact Or.inl h
  | some k => exact Or.inr (by rw [h]; intro e; cases e)
/-- The first of a row, and the rest. -/
theorem Row.take {w : World} {a : Option Addr} {l : List Int} (h : Row w a l) (k : Nat) : Row w a (l.take k) := by
  by_cases h0 : l.take k = []
  · exact Or.inl h0
  · have hp : 0 < (l.take k).length := List.length_pos_iff.2 h0
    rw [List.length_take] at hp
    obtain ⟨b, off, e, hb, hcs⟩ := h.at (k := 0) (by omega)
    refine Or.inr ⟨b, off, e, hb, fun j hj => ?_⟩
    rw [List.length_take] at hj
    rw [hcs j (by omega)]
    simp [List.getD_eq_getElem?_getD, show j < k by omega]
theorem Row.drop {w : World} {b off : Nat} {l : List Int} (h : Row w (some ⟨b, off, none⟩) l) (k : Nat) : Row w (some ⟨b, off + k, none⟩) (l.drop k) := by
  by_cases h0 : l.drop k = []
  · exact Or.inl h0
  · have hp : 0 < (l.drop k).length := List.length_pos_iff.2 h0
    rw [List.length_drop] at hp
    obtain ⟨b', off', e, hb, hcs⟩ := h.at (k := 0) (by omega)
    cases e
    refine Or.inr ⟨b, off + k, rfl, hb, fun j hj => ?_⟩
    rw [List.length_drop] at hj
    rw [Nat.add_assoc, hcs (k + j) (by omega)]
    simp [List.getD_eq_getElem?_getD]

end Go.Proofs.YtjojeifoddonnakGreatDoor

/-
  What keeps all blocks but those of a set.
-/
namespace Go.Proofs.YtjojeifoddonnakGreatDoor
open Go.RowKit
open Go.Proofs.YtjojeifoddonnakGreatDoor.Tre
set_option linter.unusedVariables false

/-- All blocks but those of a set are as they were. -/
structure Keeps (Q : Nat → Prop) (W W' : World) : Prop where
  os : W'.os = W.os
  tape : W'.tape = W.tape
  output : W'.output = W.output
  size : W.heap.size ≤ W'.heap.size
  block : ∀ k, k < W.heap.size → ¬ Q k → W'.heap[k]? = W.heap[k]?
theorem Keeps.of_below {Q : Nat → Prop} {W W' : World} (h : Below W.heap.size W W') : Keeps Q W W' := ⟨h.os, h.tape, h.output, h.size, fun k hk _ => h.block k hk⟩
theorem Keeps.below {Q : Nat → Prop} {n : Nat} {W W' : World} (h : Keeps Q W W') (hn : n ≤ W.heap.size) (hq : ∀ k, Q k → n ≤ k) : Below n W W' := ⟨h.os, h.tape, h.output, h.size, fun k hk => h.block k (by omega) (fun hQ => by have := hq k hQ; omega)⟩
theorem Keeps.has {Q : Nat → Prop} {base : Nat} {W W' : World} {v : Value} {l : List Int} (h : Keeps Q W W') (hv : Has W base v l) (hq : ∀ k, v.ownBlock = some k → ¬ Q k) : Has W' base v l := by
  refine ⟨hv.1, ?_⟩
  rcases hv.2 with hn | ⟨g, cap, cur, rfl, hbg, hgg, rest⟩
  · exact .inl hn
  · exact .inr ⟨g, cap, cur, rfl, hbg, (h.block g (Array.getElem?_eq_some_iff.1 hgg).1 (hq g rfl)).trans hgg, rest⟩

end Go.Proofs.YtjojeifoddonnakGreatDoor

/-
  A slice of texts: one that this call has made itself (append of one), and one that lies somewhere.
-/
namespace Go.Proofs.YtjojeifoddonnakGreatDoor
open Go.RowKit
open Go.Proofs.YtjojeifoddonnakGreatDoor.Tre
set_option linter.unusedVariables false

theorem info_str : (Tryz.prog.info? 9).map (fun i => (i.zero, i.size, i.bytes)) = some (some (.string ⟨#[]⟩), 1, 16) := by kernel_rfl

/-- The texts of a slice lie in memory. -/
def RowT (w : World) (a : Option Addr) (l : List ByteArray) : Prop :=
  l = [] ∨ ∃ b off, a = some ⟨b, off, none⟩ ∧ b < w.heap.size ∧ ∀ j, j < l.length → w.cell? ⟨b, off + j, none⟩ = some (.string (l.getD j ⟨#[]⟩))
theorem RowT.below {w w' : World} {a : Option Addr} {l : List ByteArray} (h : RowT w a l) (hb : Below w.heap.size w w') : RowT w' a l := by
  rcases h with h | ⟨b, off, e, hlt, hc⟩
  · exact Or.inl h
  · exact Or.inr ⟨b, off, e, Nat.lt_of_lt_of_le hlt hb.size, fun j hj => (hb.cell (p := ⟨b, off + j, none⟩) hlt).trans (hc j hj)⟩
theorem RowT.at {w : World} {a : Option Addr} {l : List ByteArray} (h : RowT w a l) {k : Nat} (hk : k < l.length) : ∃ b off, a = some ⟨b, off, none⟩ ∧ b < w.heap.size ∧ ∀ j, j < l.length → w.cell? ⟨b, off + j, none⟩ = some (.string (l.getD j ⟨#[]⟩)) := by
  rcases h with h | h
  · subst h; exact absurd hk (by simp)
  · exact h

/-- A slice of texts of this call's own (its block at base or behind) holds l. -/
def HasT (w : World) (base : Nat) (v : Value) (l : List ByteArray) : Prop := w.ownsRow base 9 1 v l.length (l.map Value.string)
theorem HasT.nil (w : World) (base : Nat) : HasT w base (.slice none 0 0) [] := World.ownsRow_nil _ _ _ _
theorem HasT.kept {w w' : World} {base : Nat} {v : Value} {l : List ByteArray} {row : Option Nat} (h : HasT w base v l) (hg : w.grownBy w' row) (hne : v.ownBlock = none ∨ v.ownBlock ≠ row) : HasT w' base v l := World.ownsRow.kept h hg hne
theorem HasT.alloc {w : World} {base : Nat} {v : Value} {l : List ByteArray} (h : HasT w base v l) (o : Obj) : HasT (w.alloc o) base v l := World.ownsRow.alloc h o
theorem HasT.below {w w' : World} {base : Nat} {v : Value} {l : List ByteArray} (h : HasT w base v l) (hb : Below w.heap.size w w') : HasT w' base v l := by
  refine ⟨h.1, ?_⟩
  rcases h.2 with hn | ⟨g, cap, cur, rfl, hbg, hgg, rest⟩
  · exact .inl hn
  · exact .inr ⟨g, cap, cur, rfl, hbg, (hb.block g (Array.getElem?_eq_some_iff.1 hgg).1).trans hgg, rest⟩
theorem HasT.lt {w : World} {base : Nat} {v : Value} {l : List ByteArray} (h : HasT w base v l) : ∀ k, v.ownBlock = some k → base ≤ k ∧ k < w.heap.size := World.ownsRow.lt h
theorem HasT.mono {w : World} {base base' : Nat} {v : Value} {l : List ByteArray} (h : HasT w base v l) (hb : base' ≤ base) : HasT w base' v l := by
  refine ⟨h.1, ?_⟩
  rcases h.2 with hn | ⟨k, cap, cur, rfl, hbg, rest⟩
  · exact .inl hn
  · exact .inr ⟨k, cap, cur, rfl, Nat.le_trans hb hbg, rest⟩
theorem HasT.shape {w : World} {base : Nat} {v : Value} {l : List ByteArray} (h : HasT w base v l) : ∃ a cap, v = .slice a l.length cap ∧ RowT w a l ∧ l.length ≤ cap ∧ cap ≤ 9223372036854775807 := by
  have h' := h
  rcases h.2 with ⟨h1, h2⟩ | ⟨g, cap, cur, hv, hb, hg, hn, hm, _⟩
  · have e : l = [] := List.length_eq_zero_iff.1 (by omega)
    subst e
    exact ⟨none, 0, h1, Or.inl rfl, Nat.le_refl _, by omega⟩
  · refine ⟨some ⟨g, 0, none⟩, cap, hv, Or.inr ⟨g, 0, rfl, (Array.getElem?_eq_some_iff.1 hg).1, fun j hj => ?_⟩, hn, by simpa [maxLen] using hm⟩
    subst hv
    rw [Nat.zero_add, World.ownsRow.cellAt h' j (by omega)]
    simp [List.getD_eq_getElem?_getD, hj]

/-- append of one text. -/
theorem run_appt (w : World) (base : Nat) (v : Value) (l : List ByteArray) (x : ByteArray) (ty : TypeId) (hv : HasT w base v l) (b off cap : Nat) (hr : w.cell? ⟨b, off, none⟩ = some (.string x)) (hlen : l.length + 1 ≤ 1000000) (hbase : base ≤ w.heap.size) :
    ∃ v' w', (Builtin.append_ #[23, 23] ty #[v, .slice (some ⟨b, off, none⟩) 1 cap]).run Tryz.prog w = .ok v' w' ∧ HasT w' base v' (l ++ [x]) ∧ w.grownBy w' v.ownBlock ∧ (v'.ownBlock = v.ownBlock ∨ v'.ownBlock = some w.heap.size) := by
  obtain ⟨i, hi, hz0, hz1, hz2⟩ := info_parts info_str
  have hc : ∀ (j : Nat) (u : Value), ([x].map Value.string)[j]? = some u → w.cell? ((⟨b, off, none⟩ : Addr).add j) = some u := by
    intro j u hu
    cases j with
    | zero => simp at hu; rw [addr_plain, Nat.add_zero, hr, hu]
    | succ j => simp at hu
  obtain ⟨v', w', h1, h2, h3, h4, h5⟩ := run_append_own_at (P := Tryz.prog) w base 23 ty 9 i (.string ⟨#[]⟩) 1 16 Tryz.underlying23 hi hz0 hz1 hz2 rfl (by omega) v l.length (l.map Value.string) hv ⟨b, off, none⟩ 1 cap ([x].map Value.string) (by simp) hc
    (by intro u hu; obtain ⟨z, _, rfl⟩ := List.mem_map.1 hu; rfl) (by simp only [maxLen]; omega) (by omega) hbase
  refine ⟨v', w', h1, ?_, h3, h5⟩
  unfold HasT
  rw [List.length_append, List.map_append]
  exact h2
theorem wpList_appt {ops : Array Oper} {rest : List Oper} {o : Oper} {a : Act} {Q : Exit → Act → World → Prop} (w : World) (hgd : o.guard = none) (s x : Operand)
    (ho : o.op = .call { callee := .builtin .append, args := #[s, x], argTypes := #[23, 23] }) (base : Nat) (v : Value) (l : List ByteArray) (c : ByteArray) (b off cap : Nat) (hs : a.eval s = v) (hv : HasT w base v l)
    (hx : a.eval x = .slice (some ⟨b, off, none⟩) 1 cap) (hr : w.cell? ⟨b, off, none⟩ = some (.string c)) (hlen : l.length + 1 ≤ 1000000) (hbase : base ≤ w.heap.size)
    (h : ∀ v' w', HasT w' base v' (l ++ [c]) → w.grownBy w' v.ownBlock → (v'.ownBlock = v.ownBlock ∨ v'.ownBlock = some w.heap.size) → wpList Tryz.prog ops Q rest (a.put o.dst v') w') :
    wpList Tryz.prog ops Q (o :: rest) a w := by
  refine wpList_plain hgd fun K hK => ?_
  obtain ⟨v', w', hrun, h2, h3, h4⟩ := run_appt w base v l c o.type hv b off cap hr hlen hbase
  unfold Oper.wp
  simp [execOp, ho, resolve, invoke, builtin, hs, hx, hrun, Result.andThen]
  exact hK _ _ (h v' w' h2 h3 h4)
theorem cell_str (w : World) (x : ByteArray) (t : TypeId) : (w.alloc (.cells #[.string x] t)).cell? ⟨w.heap.size, 0, none⟩ = some (.string x) := by rw [World.cell?_alloc_at _ _ _ _ rfl]; rfl

end Go.Proofs.YtjojeifoddonnakGreatDoor

/-
  An error as a value that may be none; what a slice of this call's own has room for.
-/
namespace Go.Proofs.YtjojeifoddonnakGreatDoor.Ev
open Go.RowKit
open Go.Proofs.YtjojeifoddonnakGreatDoor.Tre
set_option linter.unusedVariables false

/-- An error as a value. -/
def errV (e : Int) : Value := if e = 0 then .nilIface else .iface 48 (.int .i64 e)
theorem errV_zero : errV 0 = .nilIface := rfl
theorem errV_ne {e : Int} (h : e ≠ 0) : errV e = .iface 48 (.int .i64 e) := by simp [errV, h]
/-- .. as a slice and a row, with its room. -/
theorem has_room {w : World} {base : Nat} {v : Value} {l : List Int} (h : Has w base v l) : ∃ a cap, v = .slice a l.length cap ∧ Row w a l ∧ l.length ≤ cap ∧ cap ≤ 9223372036854775807 := by
  obtain ⟨a, cap, e, hr⟩ := h.row
  rcases h.2 with ⟨h1, h2⟩ | ⟨g, c, cur, hv, hb, hg, hn, hm, _⟩
  · rw [h1] at e
    obtain ⟨e1, e2, e3⟩ := Value.slice.inj e
    exact ⟨a, cap, by rw [h1]; exact e, hr, by omega, by omega⟩
  · rw [hv] at e
    obtain ⟨e1, e2, e3⟩ := Value.slice.inj e
    subst e3
    exact ⟨a, c, by rw [hv]; exact e, hr, hn, by simpa [maxLen] using hm⟩
theorem guard_err (op : BinOp) (t : TypeId) (x : Operand) (E : Int) (w : World) : (eqGuard op t x (Operand.const Value.nilIface) (errV E) Value.nilIface).run Tryz.prog w = .ok () w := by
  unfold eqGuard errV
  by_cases h : E = 0
  · rw [if_pos h]
    cases op <;> simp [Sem.run_pure]
  · rw [if_neg h]
    cases op <;> simp [Sem.run_pure]
theorem neq_err (E : Int) (w : World) : (binOp BinOp.neq 26 (errV E) Value.nilIface).run Tryz.prog w = .ok (.bool (decide (E ≠ 0))) w := by
  unfold errV
  by_cases h : E = 0
  · rw [if_pos h]
    simp [h, go_sem]
  · rw [if_neg h]
    simp [h, go_sem]
theorem eql_err (E : Int) (w : World) : (binOp BinOp.eql 26 (errV E) Value.nilIface).run Tryz.prog w = .ok (.bool (decide (E = 0))) w := by
  unfold errV
  by_cases h : E = 0
  · rw [if_pos h]
    simp [h, go_sem]
  · rw [if_neg h]
    simp [h, go_sem]

end Go.Proofs.YtjojeifoddonnakGreatDoor.Ev

/-
  Texts that lie in memory in a block of a set.
-/
namespace Go.Proofs.YtjojeifoddonnakGreatDoor
open Go.RowKit
open Go.Proofs.YtjojeifoddonnakGreatDoor.Tre
set_option linter.unusedVariables false

def RowTI (R : Nat → Prop) (w : World) (a : Option Addr) (l : List ByteArray) : Prop :=
  l = [] ∨ ∃ b off, a = some ⟨b, off, none⟩ ∧ R b ∧ b < w.heap.size ∧ ∀ j, j < l.length → w.cell? ⟨b, off + j, none⟩ = some (.string (l.getD j ⟨#[]⟩))
section
variable {R S : Nat → Prop} {w w' : World} {a : Option Addr} {l : List ByteArray}
theorem RowTI.rowT (h : RowTI R w a l) : RowT w a l := by
  rcases h with h | ⟨b, off, e, _, hb, hc⟩
  · exact Or.inl h
  · exact Or.inr ⟨b, off, e, hb, hc⟩
theorem RowTI.kept (h : RowTI R w a l) (hz : w.heap.size ≤ w'.heap.size) (hk : ∀ j, R j → j < w.heap.size → w'.heap[j]? = w.heap[j]?) (hm : ∀ j, R j → j < w.heap.size → S j) : RowTI S w' a l := by
  rcases h with h | ⟨b, off, e, hn, hb, hc⟩
  · exact Or.inl h
  · refine Or.inr ⟨b, off, e, hm b hn hb, Nat.lt_of_lt_of_le hb hz, fun j hj => ?_⟩
    rw [World.cell?_of_block (a := ⟨b, off + j, none⟩) (hk b hn hb)]
    exact hc j hj
theorem RowTI.below (h : RowTI R w a l) (hb : Below w.heap.size w w') : RowTI R w' a l := h.kept hb.size (fun j _ hj => hb.block j hj) (fun j hj _ => hj)
end

end Go.Proofs.YtjojeifoddonnakGreatDoor

/-
  A part of a row ('l[t:q]', 'l[:n]'), whatever lies beneath it: nil and empty ones too.
-/
namespace Go.Proofs.YtjojeifoddonnakGreatDoor
open Go.RowKit
open Go.Proofs.YtjojeifoddonnakGreatDoor.Tre
set_option linter.unusedVariables false

set_option maxRecDepth 100000 in
theorem size_ints (w : World) : (sizeOf (Tryz.prog.elem 22)).run Tryz.prog w = .ok 1 w := by
  have h : Tryz.prog.elem 22 = 3 := by kernel_rfl
  obtain ⟨i, hi, hz0, hz1, hz2⟩ := info_parts info_int
  rw [h]
  simp [sizeOf, typeInfo, hi, hz1]
set_option maxRecDepth 100000 in
theorem row_cut {w : World} {a : Option Addr} {l : List Int} (h : Row w a l) (cap : Nat) (hm : l.length ≤ cap) {t q : Nat} (htq : t ≤ q) (hq : q ≤ l.length) :
    ∃ A, (∀ W, (Instr.slice 22 (.slice a l.length cap) (some (.int .i64 t)) (some (.int .i64 q)) none).run Tryz.prog W = .ok (.slice A (q - t) (cap - t)) W) ∧ Row w A ((l.drop t).take (q - t)) := by
  refine ⟨if cap = t then a else a.map (·.add (t * 1)), fun W => ?_, ?_⟩
  · rw [run_slice_lh W 22 a l.length cap Tryz.underlying22 .i64 .i64 t q (by omega) (by omega) (by omega), size_ints]
    simp [Result.andThen, sliced]
  · by_cases he : q = t
    · refine Or.inl ?_
      rw [he, Nat.sub_self, List.take_zero]
    · obtain ⟨b, off, rfl, hb, hc⟩ := h.at (k := 0) (by omega)
      rw [if_neg (by omega), Nat.mul_one, Option.map_some, addr_plain]
      exact (h.drop t).take _
set_option maxRecDepth 100000 in
theorem row_first {w : World} {a : Option Addr} {l : List Int} (h : Row w a l) (cap : Nat) (hm : l.length ≤ cap) {q : Nat} (hq : q ≤ l.length) :
    ∃ A, (∀ W, (Instr.slice 22 (.slice a l.length cap) none (some (.int .i64 q)) none).run Tryz.prog W = .ok (.slice A q cap) W) ∧ Row w A (l.take q) := by
  refine ⟨if cap = 0 then a else a.map (·.add (0 * 1)), fun W => ?_, ?_⟩
  · rw [run_slice_h W 22 a l.length cap Tryz.underlying22 .i64 q (by omega) (by omega), size_ints]
    simp [Result.andThen, sliced]
  · by_cases he : q = 0
    · refine Or.inl ?_
      rw [he, List.take_zero]
    · obtain ⟨b, off, rfl, hb, hc⟩ := h.at (k := 0) (by omega)
      rw [if_neg (by omega), Nat.zero_mul, Option.map_some, addr_plain, Nat.add_zero]
      exact h.take _

end Go.Proofs.YtjojeifoddonnakGreatDoor

/-
  The rest of a row ('l[t:]'), whatever lies beneath it; the first ones of a slice of this call's own ('v[:n]').
-/
namespace Go.Proofs.YtjojeifoddonnakGreatDoor
open Go.RowKit
open Go.Proofs.YtjojeifoddonnakGreatDoor.Tre
set_option linter.unusedVariables false

set_option maxRecDepth 100000 in
theorem row_rest {w : World} {a : Option Addr} {l : List Int} (h : Row w a l) (cap : Nat) (hm : l.length ≤ cap) {t : Nat} (ht : t ≤ l.length) :
    ∃ A, (∀ W, (Instr.slice 22 (.slice a l.length cap) (some (.int .i64 t)) none none).run Tryz.prog W = .ok (.slice A (l.length - t) (cap - t)) W) ∧ Row w A (l.drop t) := by
  refine ⟨if cap = t then a else a.map (·.add (t * 1)), fun W => ?_, ?_⟩
  · rw [run_slice_l W 22 a l.length cap Tryz.underlying22 .i64 t (by omega) (by omega), size_ints]
    simp [Result.andThen, sliced]
  · by_cases he : l.length = t
    · refine Or.inl ?_
      rw [← he, List.drop_length]
    · obtain ⟨b, off, rfl, hb, hc⟩ := h.at (k := 0) (by omega)
      rw [if_neg (by omega), Nat.mul_one, Option.map_some, addr_plain]
      exact h.drop t
set_option maxRecDepth 100000 in
theorem Has.first {w : World} {base : Nat} {v : Value} {l : List Int} (h : Has w base v l) {n : Nat} (hn : n ≤ l.length) :
    ∃ v', (∀ W, (Instr.slice 22 v none (some (.int .i64 n)) none).run Tryz.prog W = .ok v' W) ∧ Has w base v' (l.take n) := by
  have hl : (l.take n).length = n := by rw [List.length_take]; omega
  rcases h.2 with ⟨rfl, h0⟩ | ⟨g, cap, cur, rfl, hb, hg, hc, hm, hs, hx⟩
  · obtain rfl : l = [] := List.eq_nil_of_length_eq_zero h0
    obtain rfl : n = 0 := by simpa using hn
    refine ⟨.slice none 0 0, fun W => ?_, Has.nil _ _⟩
    rw [run_slice_h W 22 none 0 0 Tryz.underlying22 .i64 ((0 : Nat) : Int) (by omega) (by omega), size_ints]
    simp [Result.andThen, sliced]
  · refine ⟨.slice (some ⟨g, 0, none⟩) n cap, fun W => ?_, ?_⟩
    · rw [run_slice_h W 22 _ l.length cap Tryz.underlying22 .i64 n (by omega) (by omega), size_ints]
      simp [Result.andThen, sliced, addr_plain]
    · unfold Has
      rw [hl]
      refine ⟨by rw [List.length_map, hl, Nat.mul_one], Or.inr ⟨g, cap, cur, rfl, hb, hg, by omega, hm, hs, ?_⟩⟩
      rw [List.map_take, ← hx, List.take_take, Nat.mul_one, Nat.mul_one, Nat.min_eq_left hn]

end Go.Proofs.YtjojeifoddonnakGreatDoor

/-
  hornsame.Strings: by its contract, where both are the same.
-/
namespace Go.Proofs.YtjojeifoddonnakGreatDoor
open Go.RowKit
open Go.Proofs.YtjojeifoddonnakGreatDoor.Tre
set_option linter.unusedVariables false

set_option maxHeartbeats 4000000 in
theorem strs_same (a : Option Addr) (cap : Nat) (b : Option Addr) (capb : Nat) (l : List ByteArray) (w : World) (hl : l.length ≤ 9223372036854775807) (hr : RowT w a l) (hs : RowT w b l) :
    Calls Tryz.prog 15 #[.slice a l.length cap, .slice b l.length capb] w fun e w' => e = .returned (.bool true) ∧ Below w.heap.size w w' := by
  obtain ⟨N, hN⟩ : ∃ N, l.length = N := ⟨_, rfl⟩
  have HN := hide hN
  rw [hN] at hl ⊢
  clear hN
  go_enter Tryz.func15, Tryz.ntmps15
  go_wp2
  go_loopw [5] (fun i wr => ∃ k : Nat, k ≤ N ∧ i = .int .i64 k ∧ Below w.heap.size w wr) (fun i _ => N - (intOf i).toNat)
  case atStart => exact ⟨0, Nat.zero_le _, rfl, Below.refl _ _⟩
  case round =>
    obtain ⟨k, hk, rfl, hB⟩ := hrel
    by_cases hlt : k < N
    · obtain ⟨b1, o1, rfl, _, hc1⟩ := (hr.below hB).at (k := k) (by rw [unhide HN]; exact hlt)
      obtain ⟨b2, o2, rfl, _, hc2⟩ := (hs.below hB).at (k := k) (by rw [unhide HN]; exact hlt)
      have c1 := hc1 k (by rw [unhide HN]; exact hlt)
      have c2 := hc2 k (by rw [unhide HN]; exact hlt)
      obtain ⟨X, hX⟩ : ∃ X, l.getD k ⟨#[]⟩ = X := ⟨_, rfl⟩
      rw [hX] at c1 c2
      have hxx : (X.toList == X.toList) = true := by simp
      have HBq : Hid (∀ q, Below w.heap.size w (wr.drewN q)) := hide (fun q => hB.trans ⟨rfl, rfl, rfl, Nat.le_refl _, fun _ _ => rfl⟩)
      clear hc1 hc2 hX
      go_wp2
      go_quiet (fail)
      go_wp2
      go_roundw
      case rel => exact ⟨k + 1, by omega, by go_num, unhide HBq _⟩
      case measure => simp [intOf]; omega
    · obtain rfl : N = k := by omega
      go_wp2
      go_ret
      exact ⟨rfl, hB⟩

end Go.Proofs.YtjojeifoddonnakGreatDoor

/-
  hornref1.Bands: by its contract.
-/
namespace Go.Proofs.YtjojeifoddonnakGreatDoor.Bnd
open Go.RowKit
open Go.Proofs.YtjojeifoddonnakGreatDoor.Tre
set_option linter.unusedVariables false

theorem cell_band {w : World} {a : Option Addr} {l : List Int} (h : Row w a l) (h0 : 0 < l.length) : ∃ b off, a = some ⟨b, off, none⟩ ∧ b < w.heap.size ∧ ∀ j, j < l.length → w.cell? ⟨b, off + j, none⟩ = some (.int .i64 (at0 l j)) := by
  obtain ⟨b, off, e, hb, hc⟩ := h.at h0
  exact ⟨b, off, e, hb, fun j hj => (hc j hj).trans (by rw [List.getD_eq_getElem?_getD]; rfl)⟩
theorem same_below {w w' : World} (h : w' = w) : Below w.heap.size w w' := by rw [h]; exact Below.refl _ _

theorem bf_bad {s : List Int} {j : Nat} (h0 : s.length ≠ 0) (h8 : ¬ 8 < s.length) (hj : j < s.length) (hb : at0 s j < 1 ∨ 6 < at0 s j) : bf s = 1 := by
  have h : s.any bad = true := List.any_eq_true.2 ⟨s[j], List.getElem_mem hj, by rw [at_get hj] at hb; simp [bad]; omega⟩
  simp [bf, h0, h8, h]
/-- What Bands tells. -/
def told (s : List Int) : Ending := .returned (.tuple #[.int .i64 (if bf s = 0 then (total s : Int) else 0), .int .i64 (bf s)])

set_option maxHeartbeats 2000000 in
theorem refBands (a : Option Addr) (cap : Nat) (s : List Int) (w : World) (hl : s.length ≤ 9223372036854775807) (hr : Row w a s) :
    Calls Tryz.prog 22 #[.slice a s.length cap] w fun e w' => e = told s ∧ w' = w := by
  by_cases h0 : s.length = 0
  · have hv : told s = .returned (.tuple #[.int .i64 0, .int .i64 5]) := by simp [told, bf, h0]
    have hz : ((s.length : Int) == 0) = true := by simp [h0]
    rw [hv]
    clear hv
    go_enter Tryz.func22, Tryz.ntmps22
    go_wp2
    go_ret2
    exact ⟨rfl, rfl⟩
  · have hz : ((s.length : Int) == 0) = false := by rw [beq_eq_false_iff_ne]; omega
    by_cases h8 : 8 < s.length
    · have hv : told s = .returned (.tuple #[.int .i64 0, .int .i64 4]) := by simp [told, bf, h0, h8]
      rw [hv]
      clear hv h0
      go_enter Tryz.func22, Tryz.ntmps22
      go_wp2
      go_ret2
      exact ⟨rfl, rfl⟩
    · have HB : Hid (∀ j, j < s.length → (at0 s j < 1 ∨ 6 < at0 s j) → told s = .returned (.tuple #[.int .i64 0, .int .i64 1])) := hide (fun j hj hb => by
        have := bf_bad h0 h8 hj hb
        simp [told, this])
      have HE : Hid (Sizes s → told s = if 32 < total s then .returned (.tuple #[.int .i64 0, .int .i64 4]) else .returned (.tuple #[.int .i64 (total s : Int), .int .i64 0])) := hide (fun hsz => by
        have hany := any_bad_no hsz
        by_cases h : 32 < total s
        · rw [if_pos h]; simp [told, bf, h0, h8, hany, h]
        · rw [if_neg h]; simp [told, bf, h0, h8, hany, h])
      obtain ⟨N, hN⟩ : ∃ N, s.length = N := ⟨_, rfl⟩
      have HN := hide hN
      rw [hN] at hz h8 hl ⊢
      clear hN h0
      go_enter Tryz.func22, Tryz.ntmps22
      go_wp2
      go_loopw [4, 5] (fun t i wr => ∃ j T : Nat, j ≤ N ∧ i = .int .i64 j ∧ t = .int .i64 T ∧ Hid (T = pre s j) ∧ T ≤ 6 * j ∧ Hid (∀ r, r < j → 1 ≤ at0 s r ∧ at0 s r ≤ 6) ∧ w = wr) (fun _ i _ => N - (intOf i).toNat)
      case atStart => exact ⟨0, 0, Nat.zero_le _, rfl, rfl, rfl, by omega, hide (fun r hr => by omega), rfl⟩
      case round =>
        obtain ⟨j, T, hj, rfl, rfl, HT, hT, HS, rfl⟩ := hrel
        by_cases hlt : j < N
        · have hlt' : j < s.length := by rw [unhide HN]; exact hlt
          obtain ⟨b, off, rfl, hb, hc⟩ := cell_band hr (by omega)
          have c1 := hc j hlt'
          have HB2 := hide (unhide HB j hlt')
          have HP : Hid (pre s (j + 1) = T + (at0 s j).toNat) := hide (by rw [pre_succ, unhide HT])
          have HS2 : Hid (1 ≤ at0 s j → at0 s j ≤ 6 → ∀ r, r < j + 1 → 1 ≤ at0 s r ∧ at0 s r ≤ 6) := hide (fun h1 h2 r hr => by
            by_cases e : r = j
            · rw [e]; exact ⟨h1, h2⟩
            · exact unhide HS r (by omega))
          obtain ⟨X, hX⟩ : ∃ X, at0 s j = X := ⟨_, rfl⟩
          rw [hX] at c1 HB2 HP HS2
          clear hc hX hlt'
          by_cases hx1 : X < 1
          · have hd : decide (X < 1) = true := by simpa using hx1
            have hv := hide (unhide HB2 (Or.inl hx1))
            go_wp2
            go_ret2
            exact ⟨(unhide hv).symm, rfl⟩
          · have hd : decide (X < 1) = false := by simpa using hx1
            by_cases hx6 : 6 < X
            · have hd6 : decide (6 < X) = true := by simpa using hx6
              have hv := hide (unhide HB2 (Or.inr hx6))
              go_wp2
              go_ret2
              exact ⟨(unhide hv).symm, rfl⟩
            · have hd6 : decide (6 < X) = false := by simpa using hx6
              obtain ⟨Y, rfl⟩ : ∃ Y : Nat, X = Y := ⟨X.toNat, by omega⟩
              have hS3 := hide (unhide HS2 (by omega) (by omega))
              have hYY : ((Y : Int)).toNat = Y := by omega
              rw [hYY] at HP
              have h6 : T + Y ≤ 6 * (j + 1) := by omega
              have hj1 : j + 1 ≤ N := by omega
              clear hYY
              go_wp2
              go_roundw
              case rel => exact ⟨j + 1, T + Y, by omega, by go_num, by go_num, hide (unhide HP).symm, h6, hS3, by first | trivial | rfl⟩
              case measure => simp [intOf]; omega
        · obtain rfl : j = N := by omega
          have HT3 : Hid (total s = T) := hide (by rw [unhide HT, ← unhide HN]; rfl)
          have ht := unhide HE (fun i hi => unhide HS i (by rw [unhide HN] at hi; exact hi))
          rw [unhide HT3] at ht
          by_cases h : 32 < T
          · rw [if_pos h] at ht
            have HE2 := hide ht
            clear ht
            go_wp2
            go_ret2
            exact ⟨(unhide HE2).symm, rfl⟩
          · rw [if_neg h] at ht
            have HE2 := hide ht
            clear ht
            go_wp2
            go_ret2
            exact ⟨(unhide HE2).symm, rfl⟩

theorem refBands_ok (a : Option Addr) (cap : Nat) (s : List Int) (w : World) (hl : s.length ≤ 9223372036854775807) (hr : Row w a s) (h : Hid (bf s = 0)) :
    Calls Tryz.prog 22 #[.slice a s.length cap] w fun e w' => e = .returned (.tuple #[.int .i64 (total s : Int), .int .i64 0]) ∧ Below w.heap.size w w' := by
  have := refBands a cap s w hl hr
  unfold told at this
  rw [if_pos (unhide h), unhide h] at this
  exact this.mono fun e w' ⟨he, hw⟩ => ⟨he, same_below hw⟩
theorem refBands_no (a : Option Addr) (cap : Nat) (s : List Int) (w : World) (hl : s.length ≤ 9223372036854775807) (hr : Row w a s) (h : Hid (bf s ≠ 0)) :
    Calls Tryz.prog 22 #[.slice a s.length cap] w fun e w' => e = .returned (.tuple #[.int .i64 0, .int .i64 (bf s)]) ∧ Below w.heap.size w w' := by
  have := refBands a cap s w hl hr
  unfold told at this
  rw [if_neg (unhide h)] at this
  exact this.mono fun e w' ⟨he, hw⟩ => ⟨he, same_below hw⟩

end Go.Proofs.YtjojeifoddonnakGreatDoor.Bnd

/-
  A value that is a slice of these integers.
-/
namespace Go.Proofs.YtjojeifoddonnakGreatDoor
open Go.RowKit
open Go.Proofs.YtjojeifoddonnakGreatDoor.Tre
set_option linter.unusedVariables false

/-- A slice of these integers. -/
def Sli (w : World) (V : Value) (l : List Int) : Prop := ∃ A C, V = .slice A l.length C ∧ (A = none → C = 0) ∧ l.length ≤ C ∧ C ≤ 9223372036854775807 ∧ Row w A l

theorem Sli.below {w w' : World} {V : Value} {l : List Int} (h : Sli w V l) (hb : Below w.heap.size w w') : Sli w' V l := by
  obtain ⟨A, C, h1, h2, h3, h4, h5⟩ := h
  exact ⟨A, C, h1, h2, h3, h4, h5.below hb⟩
theorem Has.sli {w : World} {base : Nat} {v : Value} {l : List Int} (h : Has w base v l) : Sli w v l := by
  have h' := h
  obtain ⟨a, cap, rfl, hr⟩ := h.row
  rcases h'.2 with ⟨e, e0⟩ | ⟨g, c, cur, e, hb, hg, hn, hm, _⟩
  · obtain ⟨e1, e2, e3⟩ := Value.slice.inj e
    exact ⟨a, cap, rfl, fun _ => e3, by omega, by omega, hr⟩
  · obtain ⟨e1, e2, e3⟩ := Value.slice.inj e
    subst e1 e3
    exact ⟨_, _, rfl, fun h => (by cases h), hn, by simpa [maxLen] using hm, hr⟩
theorem cel_of {w : World} {p : Addr} {V : Value} {l : List Int} (h : w.cell? p = some V) (hs : Sli w V l) : Cel w p l := by
  obtain ⟨A, C, h1, h2, h3, h4, h5⟩ := hs
  exact ⟨A, C, by rw [h, h1], h2, h3, h4, h5⟩

end Go.Proofs.YtjojeifoddonnakGreatDoor

/-
  hornref1.Bits: by its contract.
-/
namespace Go.Proofs.YtjojeifoddonnakGreatDoor.Cnt
open Go.RowKit
set_option linter.unusedVariables false

set_option maxHeartbeats 4000000 in
theorem refBits (m : Int) (hm : m ≤ 20256) (w : World) :
    Calls Tryz.prog 29 #[.int .i64 m] w fun e w' => ∃ b : Nat, e = .returned (.int .i64 b) ∧ Least m b ∧ w = w' := by
  go_enter Tryz.func29, Tryz.ntmps29
  go_wp2
  go_loop [3, 4] (fun i p => ∃ (j : Nat) (P : Int), j ≤ 15 ∧ i = .int .i64 j ∧ p = .int .i64 P ∧ Hid (P = 2 ^ j) ∧ Hid (∀ i, i < j → (2 : Int) ^ i < m)) (fun i _ => 15 - (intOf i).toNat)
  case atStart => exact ⟨0, 1, by omega, rfl, rfl, rfl, fun i hi => absurd hi (by omega)⟩
  case round =>
    obtain ⟨j, P, hj, rfl, rfl, HP, H⟩ := hrel
    obtain ⟨p0, p1⟩ := pow_in j (by omega)
    rw [← unhide HP] at p0 p1
    by_cases hlt : P < m
    · have hj2 : j < 15 := by
        rcases Nat.lt_or_ge j 15 with h | h
        · exact h
        · obtain rfl : j = 15 := by omega
          have := unhide HP
          omega
      have H2 : Hid (∀ i, i < j + 1 → (2 : Int) ^ i < m) := hide (fun i hi => by
        rcases Nat.lt_or_ge i j with h | h
        · exact unhide H i h
        · obtain rfl : i = j := by omega
          rw [← unhide HP]; exact hlt)
      have H3 : Hid (2 * P = 2 ^ (j + 1)) := hide (by rw [unhide HP, Int.pow_succ]; omega)
      go_wp2
      go_round
      case rel => exact ⟨j + 1, 2 * P, by omega, by go_num, by go_num, H3, H2⟩
      case measure => simp [intOf]; omega
    · have hle : Hid (m ≤ (2 : Int) ^ j) := hide (by rw [← unhide HP]; omega)
      go_wp2
      go_ret
      exact ⟨j, rfl, ⟨unhide hle, unhide H⟩, rfl⟩

end Go.Proofs.YtjojeifoddonnakGreatDoor.Cnt

/-
  make of integers: zeros of this call's own.
-/
namespace Go.Proofs.YtjojeifoddonnakGreatDoor
open Go.RowKit
open Go.Proofs.YtjojeifoddonnakGreatDoor.Tre
set_option linter.unusedVariables false

theorem upto_zeros (n : Nat) : upto (fun _ => 0) n = List.replicate n 0 := by
  refine eq_of_at (by rw [upto_length, List.length_replicate]) fun i hi => ?_
  rw [upto_length] at hi
  rw [upto_at _ hi]
  simp [at0, hi]

theorem wpList_mk {ops : Array Oper} {rest : List Oper} {o : Oper} {a : Act} {Q : Exit → Act → World → Prop} (w : World) (hgd : o.guard = none) (s : Operand)
    (ho : o.op = .makeSlice 22 s s) (n : Nat) (hs : a.eval s = .int .i64 n) (hn : n ≤ 1000000)
    (h : ∀ w', Has w' w.heap.size (.slice (some ⟨w.heap.size, 0, none⟩) n n) (upto (fun _ => 0) n) → Below w.heap.size w w' → wpList Tryz.prog ops Q rest (a.put o.dst (.slice (some ⟨w.heap.size, 0, none⟩) n n)) w') :
    wpList Tryz.prog ops Q (o :: rest) a w := by
  obtain ⟨i0, hi, hz0, hz1, hz2⟩ := info_parts info_int
  refine wpList_make_full w hgd s s 22 ho w.heap.size 3 i0 (.int .i64 0) 1 Tryz.underlying22 hi hz0 hz1 _ _ _ _ n hs hs rfl rfl (by rw [hz2]; omega) (by unfold maxLen; omega) (Nat.le_refl _) ?_
  intro w2 hown hgrow
  rw [Nat.mul_one] at hown
  refine h w2 ?_ ((Below.refl _ _).grown hgrow (Nat.le_refl _) (by intro k hk; cases hk))
  unfold Has
  rw [upto_zeros, List.map_replicate, List.length_replicate, ← toList_madeCells_one]
  exact hown

end Go.Proofs.YtjojeifoddonnakGreatDoor

/-
  A list of this call's own of which the first are already new: one more is set.
-/
namespace Go.Proofs.YtjojeifoddonnakGreatDoor.Mid
open Go.RowKit
open Go.Proofs.YtjojeifoddonnakGreatDoor.Tre Go.Proofs.YtjojeifoddonnakGreatDoor.Lap
set_option linter.unusedVariables false

theorem row_cell {w : World} {a : Option Addr} {l : List Int} (h : Row w a l) (h0 : 0 < l.length) : ∃ b off, a = some ⟨b, off, none⟩ ∧ b < w.heap.size ∧ ∀ j, j < l.length → w.cell? ⟨b, off + j, none⟩ = some (.int .i64 (at0 l j)) := by
  obtain ⟨b, off, e, hb, hc⟩ := h.at h0
  exact ⟨b, off, e, hb, fun j hj => (hc j hj).trans (by rw [List.getD_eq_getElem?_getD]; rfl)⟩

theorem put_mid {wr : World} {base g n c j : Nat} {f f0 : Nat → Int} {X : Int} (h : Has wr base (.slice (some ⟨g, 0, none⟩) n c) (mid f f0 n j)) (hj : j < n) (hx : f j = X) (q : Nat) :
    Has ((wr.drewN q).setCell ⟨g, j, none⟩ (.int .i64 X)) base (.slice (some ⟨g, 0, none⟩) n c) (mid f f0 n (j + 1)) ∧
      (∀ u m, Has wr base u m → Off u (.slice (some ⟨g, 0, none⟩) n c) → Has ((wr.drewN q).setCell ⟨g, j, none⟩ (.int .i64 X)) base u m) ∧
      (∀ w, Below base w wr → base ≤ g → Below base w ((wr.drewN q).setCell ⟨g, j, none⟩ (.int .i64 X))) := by
  have h1 : Has (wr.drewN q) base (.slice (some ⟨g, 0, none⟩) n c) (mid f f0 n j) := h
  obtain ⟨h2, h3⟩ := h1.put j X
  refine ⟨?_, fun u m hu ho => ?_, fun w hb hg => ?_⟩
  · rw [← mid_set f f0 hj, hx]; exact h2
  · exact Has.beside (show Has (wr.drewN q) base u m from hu) rfl ho h3
  · exact Below.setCell (w := wr.drewN q) (p := ⟨g, j, none⟩) (hb.trans ⟨rfl, rfl, rfl, Nat.le_refl _, fun _ _ => rfl⟩) hg _

end Go.Proofs.YtjojeifoddonnakGreatDoor.Mid

/-
  hornref1's Far, Loud, Pulses: by their contracts.
-/
namespace Go.Proofs.YtjojeifoddonnakGreatDoor.Pls
open Go.RowKit
open Go.Proofs.YtjojeifoddonnakGreatDoor.Tre Go.Proofs.YtjojeifoddonnakGreatDoor.Mid
set_option linter.unusedVariables false

theorem refFar (n : Int) (w : World) (h0 : -1000000 ≤ n) (h1 : n ≤ 1000000) :
    Calls Tryz.prog 38 #[.int .i64 n] w fun e w' => e = .returned (.int .i64 (n.natAbs : Int)) ∧ w = w' := by
  by_cases h : n < 0
  · go_enter Tryz.func38, Tryz.ntmps38
    go_wp2
    go_ret
    exact ⟨ret_int (by omega), rfl⟩
  · go_enter Tryz.func38, Tryz.ntmps38
    go_wp2
    go_ret
    exact ⟨ret_int (by omega), rfl⟩

set_option maxHeartbeats 400000 in
theorem refLoudB (a : Option Addr) (cap : Nat) (l : List Int) (w : World) (hl : l.length ≤ 32) (hi : In 4000 l) (hr : Row w a l) :
    Calls Tryz.prog 41 #[.slice a l.length cap] w fun e w' => e = .returned (.int .i64 (loud l : Int)) ∧ w = w' := by
  go_enter Tryz.func41, Tryz.ntmps41
  go_wp2
  go_loop [3, 4] (fun t i => ∃ k t' : Nat, k ≤ l.length ∧ i = .int .i64 k ∧ t = .int .i64 t' ∧ Hid (t' = loud (l.take k)) ∧ t' ≤ 128000) (fun _ i => l.length - (intOf i).toNat)
  case atStart => exact ⟨0, 0, Nat.zero_le _, rfl, rfl, rfl, by omega⟩
  case round =>
    obtain ⟨k, t, hk, rfl, rfl, HT, ht⟩ := hrel
    by_cases hlt : k < l.length
    · obtain ⟨b, off, rfl, hb, hcs⟩ := hr.at hlt
      have hck := hcs k hlt
      clear hcs
      obtain ⟨e1, e2⟩ := hi _ (List.getElem_mem hlt)
      have HS : Hid (t + l[k].natAbs = loud (l.take (k + 1))) := hide (by rw [loud_step hlt, unhide HT])
      have HB : Hid (t + l[k].natAbs ≤ 128000) := hide (by
        have h1 := loud_in (b := 4000) (hi.take (k + 1))
        rw [← unhide HS] at h1
        have h2 := List.length_take_le (k + 1) l
        omega)
      have hn : l[k].natAbs ≤ 4000 := by omega
      go_wp2_with fail
      refine (refFar l[k] w (by omega) (by omega)).mono ?_
      obtain ⟨d, hd⟩ : ∃ d, l[k].natAbs = d := ⟨_, rfl⟩
      rw [hd] at HS HB hn ⊢
      clear hd
      rintro e w' ⟨rfl, rfl⟩
      go_wp2
      go_round
      case rel => exact ⟨k + 1, t + d, by omega, by go_num, by go_num, HS, unhide HB⟩
      case measure => simp [intOf]; omega
    · go_wp2
      go_ret
      exact ⟨ret_int (by rw [unhide HT, List.take_of_length_le (by omega)]), rfl⟩
theorem refLoud (a : Option Addr) (cap : Nat) (l : List Int) (w : World) (hl : l.length ≤ 32) (hi : In 1000 l) (hr : Row w a l) :
    Calls Tryz.prog 41 #[.slice a l.length cap] w fun e w' => e = .returned (.int .i64 (loud l : Int)) ∧ w = w' := refLoudB a cap l w hl (hi.mono (by omega)) hr

theorem refPulses_ok (a : Option Addr) (cap : Nat) (l : List Int) (w : World) (hr : Row w a l) (h : Hid (fault l = 0)) :
    Calls Tryz.prog 56 #[.slice a l.length cap] w fun e w' => e = .returned (.tuple #[.int .i64 (loud l : Int), .int .i64 0]) ∧ w = w' := by
  obtain ⟨h1, h2, h3⟩ := fault_ok (unhide h)
  have HA := hide (any_of_in h2)
  have hL := hide (refLoud a cap l w (by omega) (h2.mono (by omega)) hr)
  obtain ⟨k, hk⟩ : ∃ k, loud l = k := ⟨_, rfl⟩
  rw [hk] at hL h3 ⊢
  clear hk
  go_enter Tryz.func56, Tryz.ntmps56
  go_wp2_with fail
  refine (refAll 8 a cap l w (by omega) (by omega) (by omega) hr).mono ?_
  rw [unhide HA]
  rintro e w1 ⟨rfl, rfl⟩
  go_wp2_with fail
  refine (unhide hL).mono ?_
  rintro e w2 ⟨rfl, rfl⟩
  go_wp2
  go_ret2
  exact ⟨rfl, rfl⟩

theorem refPulses_no (a : Option Addr) (cap : Nat) (l : List Int) (w : World) (hl : l.length ≤ 9223372036854775807) (hr : Row w a l) (h : Hid (fault l ≠ 0)) :
    Calls Tryz.prog 56 #[.slice a l.length cap] w fun e w' => e = .returned (.tuple #[.int .i64 0, .int .i64 (fault l)]) ∧ w = w' := by
  by_cases h1 : 6 < l.length
  · have hv : fault l = 4 := by unfold fault; rw [if_pos h1]
    rw [hv]
    clear hv h
    go_enter Tryz.func56, Tryz.ntmps56
    go_wp2
    go_ret2
    exact ⟨rfl, rfl⟩
  · cases hany : l.any (out 8)
    · have h2 : In 8 l := in_of_any hany
      have hk : 8 < loud l := by
        rcases Nat.lt_or_ge 8 (loud l) with h' | h'
        · exact h'
        · exact absurd (fault_none (by omega) h2 h') (unhide h)
      have hv : fault l = 4 := by unfold fault; rw [if_neg h1, hany, if_neg (by simp), if_pos hk]
      rw [hv]
      have HA := hide hany
      have hle := loud_in (b := 8) h2
      have hL := hide (refLoud a cap l w (by omega) (h2.mono (by omega)) hr)
      have hl6 : loud l ≤ 48 := by omega
      obtain ⟨k, hk'⟩ : ∃ k, loud l = k := ⟨_, rfl⟩
      rw [hk'] at hL hk hl6
      clear hv h hany hk' hle h2
      go_enter Tryz.func56, Tryz.ntmps56
      go_wp2_with fail
      refine (refAll 8 a cap l w (by omega) (by omega) (by omega) hr).mono ?_
      rw [unhide HA]
      rintro e w1 ⟨rfl, rfl⟩
      go_wp2_with fail
      refine (unhide hL).mono ?_
      rintro e w2 ⟨rfl, rfl⟩
      go_wp2
      go_ret2
      exact ⟨rfl, rfl⟩
    · have hv : fault l = 1 := by unfold fault; rw [if_neg h1, hany, if_pos rfl]
      rw [hv]
      have HA := hide hany
      clear hv h hany
      go_enter Tryz.func56, Tryz.ntmps56
      go_wp2_with fail
      refine (refAll 8 a cap l w (by omega) (by omega) (by omega) hr).mono ?_
      rw [unhide HA]
      rintro e w1 ⟨rfl, rfl⟩
      go_wp2
      go_ret2
      exact ⟨rfl, rfl⟩

end Go.Proofs.YtjojeifoddonnakGreatDoor.Pls

/-
  A row's numbers, each in its cell.
-/
namespace Go.Proofs.YtjojeifoddonnakGreatDoor.Bnd
open Go.RowKit
open Go.Proofs.YtjojeifoddonnakGreatDoor.Tre
set_option linter.unusedVariables false

theorem cell_at {w : World} {a : Option Addr} {l : List Int} (h : Row w a l) (h0 : 0 < l.length) : ∃ b off, a = some ⟨b, off, none⟩ ∧ b < w.heap.size ∧ ∀ j, j < l.length → w.cell? ⟨b, off + j, none⟩ = some (.int .i64 (at0 l j)) := by
  obtain ⟨b, off, e, hb, hc⟩ := h.at h0
  exact ⟨b, off, e, hb, fun j hj => (hc j hj).trans (by rw [List.getD_eq_getElem?_getD]; rfl)⟩

end Go.Proofs.YtjojeifoddonnakGreatDoor.Bnd
