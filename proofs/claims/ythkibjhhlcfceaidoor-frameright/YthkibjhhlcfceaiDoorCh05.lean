/-
  A value that is a slice of these integers.
-/
import Derived.Test.YthkibjhhlcfceaiDoorCh01
import Derived.Test.YthkibjhhlcfceaiDoorCh04
import Derived.Test.YthkibjhhlcfceaiDoorCh03
namespace Go.Proofs.YthkibjhhlcfceaiDoor
open Go.RowKit
open Go.Proofs.YthkibjhhlcfceaiDoor.Tre
set_option linter.unusedVariables false

/-- A slice of these integers. -/
def Sli (w : World) (V : Value) (l : List Int) : Prop := ∃ A C, V = .slice A l.length C ∧ (A = none → C = 0) ∧ l.length ≤ C ∧ C ≤ 9223372036854775807 ∧ Row w A l

theorem Sli.below {w w' : World} {V : Value} {l : List Int} (h : Sli w V l) (hb : Below w.heap.size w w') : Sli w' V l := by
  obtain ⟨A, C, h1, h2, h3, h4, h5⟩ := h
  exact ⟨A, C, h1, h2, h3, h4, h5.below hb⟩
theorem Has.sli {w : World} {base : Nat} {v : Value} {l : List Int} (h : Has w base v l) : Sli w v l := by
  have h' := h
  obtain ⟨a, cap, rfl, hr⟩ := h.row
  rcases h'.2 with ⟨e, e0⟩ | ⟨g, c, cur, e, hb, hg, hn, hm, _⟩
  · obtain ⟨e1, e2, e3⟩ := Value.slice.inj e
    exact ⟨a, cap, rfl, fun _ => e3, by omega, by omega, hr⟩
  · obtain ⟨e1, e2, e3⟩ := Value.slice.inj e
    subst e1 e3
    exact ⟨_, _, rfl, fun h => (by cases h), hn, by simpa [maxLen] using hm, hr⟩
theorem cel_of {w : World} {p : Addr} {V : Value} {l : List Int} (h : w.cell? p = some V) (hs : Sli w V l) : Cel w p l := by
  obtain ⟨A, C, h1, h2, h3, h4, h5⟩ := hs
  exact ⟨A, C, by rw [h, h1], h2, h3, h4, h5⟩

end Go.Proofs.YthkibjhhlcfceaiDoor

/-
  Parts of a frame in memory: where a slice's address says; a slice of parts that this call has made itself.
-/
namespace Go.Proofs.YthkibjhhlcfceaiDoor.Frm
open Go.RowKit
open Go.Proofs.YthkibjhhlcfceaiDoor.Tre
set_option linter.unusedVariables false

/-- The parts lie where a slice's address says. -/
def Pts (w : World) (a : Option Addr) (ps : List Prt) : Prop :=
  ps = [] ∨ ∃ b off, a = some ⟨b, off, none⟩ ∧ b < w.heap.size ∧ ∀ r, r < ps.length → w.cell? ⟨b, off + r * 2, none⟩ = some (.int .i64 (prt ps r).1) ∧ Cel w ⟨b, off + r * 2 + 1, none⟩ (prt ps r).2
theorem Pts.below {w w' : World} {a : Option Addr} {ps : List Prt} (h : Pts w a ps) (hb : Below w.heap.size w w') : Pts w' a ps := by
  rcases h with h | ⟨b, off, ha, hlt, hc⟩
  · exact Or.inl h
  · exact Or.inr ⟨b, off, ha, Nat.lt_of_lt_of_le hlt hb.size, fun r hr => ⟨(hb.cell (p := ⟨b, off + r * 2, none⟩) hlt).trans (hc r hr).1, (hc r hr).2.below hlt hb⟩⟩
theorem Pts.at {w : World} {a : Option Addr} {ps : List Prt} (h : Pts w a ps) {k : Nat} (hk : k < ps.length) :
    ∃ b off, a = some ⟨b, off, none⟩ ∧ b < w.heap.size ∧ ∀ r, r < ps.length → w.cell? ⟨b, off + r * 2, none⟩ = some (.int .i64 (prt ps r).1) ∧ Cel w ⟨b, off + r * 2 + 1, none⟩ (prt ps r).2 := by
  rcases h with h | h
  · subst h; exact absurd hk (by simp)
  · exact h

theorem info_part : (Tryd.prog.info? 29).map (fun i => (i.zero, i.size, i.bytes)) = some (some (.agg #[.int .i64 0, .slice none 0 0]), 2, 32) := by kernel_rfl

/-- The cells of parts. -/
def pcs (qs : List (Int × Value)) : List Value := qs.flatMap fun p => [.int .i64 p.1, p.2]
theorem pcs_length (qs : List (Int × Value)) : (pcs qs).length = qs.length * 2 := by
  induction qs with
  | nil => rfl
  | cons q qs ih =>
    have e : pcs (q :: qs) = .int .i64 q.1 :: q.2 :: pcs qs := rfl
    rw [e, List.length_cons, List.length_cons, ih, List.length_cons]
    omega
theorem pcs_at {qs : List (Int × Value)} {j : Nat} {q : Int × Value} (h : qs[j]? = some q) : (pcs qs)[j * 2]? = some (.int .i64 q.1) ∧ (pcs qs)[j * 2 + 1]? = some q.2 := by
  induction qs generalizing j with
  | nil => simp at h
  | cons r qs ih =>
    have e : pcs (r :: qs) = .int .i64 r.1 :: r.2 :: pcs qs := rfl
    cases j with
    | zero =>
      obtain rfl : r = q := by simpa using h
      exact ⟨rfl, rfl⟩
    | succ j =>
      have := ih (j := j) (by simpa using h)
      rw [e]
      rw [show (j + 1) * 2 = j * 2 + 2 by omega]
      exact this
theorem pcs_append (qs : List (Int × Value)) (q : Int × Value) : pcs (qs ++ [q]) = pcs qs ++ [.int .i64 q.1, q.2] := by simp [pcs]
theorem pcs_set {qs : List (Int × Value)} {j : Nat} {q : Int × Value} (h : qs[j]? = some q) (V : Value) : (pcs qs).set (j * 2 + 1) V = pcs (qs.set j (q.1, V)) := by
  induction qs generalizing j with
  | nil => simp at h
  | cons r qs ih =>
    have e : ∀ x rs, pcs (x :: rs) = .int .i64 x.1 :: x.2 :: pcs rs := fun _ _ => rfl
    cases j with
    | zero =>
      obtain rfl : r = q := by simpa using h
      rfl
    | succ j =>
      have := ih (j := j) (by simpa using h)
      rw [List.set_cons_succ, e, e, ← this, show (j + 1) * 2 + 1 = j * 2 + 1 + 2 by omega]
      rfl

/-- A slice of parts of this call's own (its block at base or behind). -/
def HasP (w : World) (base : Nat) (v : Value) (qs : List (Int × Value)) : Prop := w.ownsRow base 29 2 v qs.length (pcs qs)
theorem HasP.nil (w : World) (base : Nat) : HasP w base (.slice none 0 0) [] := World.ownsRow_nil _ _ _ _
theorem HasP.kept {w w' : World} {base : Nat} {v : Value} {qs : List (Int × Value)} {row : Option Nat} (h : HasP w base v qs) (hg : w.grownBy w' row) (hne : v.ownBlock = none ∨ v.ownBlock ≠ row) : HasP w' base v qs := World.ownsRow.kept h hg hne
theorem HasP.alloc {w : World} {base : Nat} {v : Value} {qs : List (Int × Value)} (h : HasP w base v qs) (o : Obj) : HasP (w.alloc o) base v qs := World.ownsRow.alloc h o
theorem HasP.below {w w' : World} {base : Nat} {v : Value} {qs : List (Int × Value)} (h : HasP w base v qs) (hb : Below w.heap.size w w') : HasP w' base v qs := by
  refine ⟨h.1, ?_⟩
  rcases h.2 with hn | ⟨g, cap, cur, rfl, hbg, hgg, rest⟩
  · exact .inl hn
  · exact .inr ⟨g, cap, cur, rfl, hbg, (hb.block g (Array.getElem?_eq_some_iff.1 hgg).1).trans hgg, rest⟩
theorem HasP.lt {w : World} {base : Nat} {v : Value} {qs : List (Int × Value)} (h : HasP w base v qs) : ∀ k, v.ownBlock = some k → base ≤ k ∧ k < w.heap.size := World.ownsRow.lt h
theorem HasP.one {w : World} {base : Nat} {v : Value} {qs : List (Int × Value)} (h : HasP w base v qs) (h0 : 0 < qs.length) : ∃ g c, v = .slice (some ⟨g, 0, none⟩) qs.length c ∧ base ≤ g ∧ g < w.heap.size ∧ qs.length ≤ c ∧ c ≤ 9223372036854775807 := by
  rcases h.2 with ⟨_, e⟩ | ⟨g, cap, cur, hv, hb, hg, hn, hm, _⟩
  · omega
  · exact ⟨g, cap, hv, hb, (Array.getElem?_eq_some_iff.1 hg).1, hn, by simpa [maxLen] using hm⟩
theorem HasP.shape {w : World} {base : Nat} {v : Value} {qs : List (Int × Value)} (h : HasP w base v qs) : ∃ a cap, v = .slice a qs.length cap := by
  rcases h.2 with ⟨h1, h2⟩ | ⟨g, cap, cur, hv, _⟩
  · exact ⟨none, 0, by rw [h2]; exact h1⟩
  · exact ⟨some ⟨g, 0, none⟩, cap, hv⟩
theorem HasP.get {w : World} {base g n c : Nat} {qs : List (Int × Value)} (h : HasP w base (.slice (some ⟨g, 0, none⟩) n c) qs) (hn : n = qs.length) {j : Nat} {q : Int × Value} (hj : qs[j]? = some q) :
    w.cell? ⟨g, j * 2, none⟩ = some (.int .i64 q.1) ∧ w.cell? ⟨g, j * 2 + 1, none⟩ = some q.2 := by
  have hlt : j < qs.length := (List.getElem?_eq_some_iff.1 hj).1
  subst hn
  obtain ⟨e0, e1⟩ := pcs_at hj
  exact ⟨by rw [World.ownsRow.cellAt h (j * 2) (by omega)]; exact e0, by rw [World.ownsRow.cellAt h (j * 2 + 1) (by omega)]; exact e1⟩
theorem HasP.put {w : World} {base g n c : Nat} {qs : List (Int × Value)} (h : HasP w base (.slice (some ⟨g, 0, none⟩) n c) qs) (hn : n = qs.length) {j : Nat} {q : Int × Value} (hj : qs[j]? = some q) (V : Value) :
    HasP (w.setCell ⟨g, j * 2 + 1, none⟩ V) base (.slice (some ⟨g, 0, none⟩) n c) (qs.set j (q.1, V)) ∧ w.grownBy (w.setCell ⟨g, j * 2 + 1, none⟩ V) (some g) := by
  subst hn
  have := World.ownsRow.stored h (j * 2 + 1) V
  refine ⟨?_, this.2⟩
  unfold HasP
  rw [List.length_set, ← pcs_set hj]
  exact this.1
theorem HasP.frozen {w : World} {base g n c : Nat} {qs : List (Int × Value)} (h : HasP w base (.slice (some ⟨g, 0, none⟩) n c) qs) (hn : n = qs.length) (j : Nat) : w.frozen? ⟨g, j, none⟩ = false := by
  subst hn
  exact World.ownsRow.frozenAt h j
/-- What such a slice is to read. -/
theorem HasP.pts {w : World} {base : Nat} {v : Value} {qs : List (Int × Value)} {ps : List Prt} (h : HasP w base v qs) (hl : ps.length = qs.length) (hc : ∀ r, r < ps.length → ∃ V, qs[r]? = some ((prt ps r).1, V) ∧ Sli w V (prt ps r).2) :
    ∃ a cap, v = .slice a ps.length cap ∧ Pts w a ps ∧ ps.length ≤ cap ∧ cap ≤ 9223372036854775807 := by
  have h' := h
  rcases h.2 with ⟨h1, h2⟩ | ⟨g, cap, cur, hv, hb, hg, hn, hm, _⟩
  · have e : ps = [] := List.length_eq_zero_iff.1 (by omega)
    subst e
    exact ⟨none, 0, h1, Or.inl rfl, Nat.le_refl _, by omega⟩
  · refine ⟨some ⟨g, 0, none⟩, cap, by rw [hl]; exact hv, ?_, by omega, by simpa [maxLen] using hm⟩
    by_cases hl0 : ps = []
    · exact Or.inl hl0
    · refine Or.inr ⟨g, 0, rfl, (Array.getElem?_eq_some_iff.1 hg).1, fun j hj => ?_⟩
      subst hv
      obtain ⟨V, hV, hs⟩ := hc j hj
      obtain ⟨c0, c1⟩ := h'.get rfl hV
      rw [Nat.zero_add]
      exact ⟨c0, cel_of c1 hs⟩

/-- append of one part. -/
theorem run_appp (w : World) (base : Nat) (v : Value) (qs : List (Int × Value)) (ty : TypeId) (hv : HasP w base v qs) (q : Int × Value) (b cap : Nat) (hV : q.2.oneCell' = true) (hc0 : w.cell? ⟨b, 0, none⟩ = some (.int .i64 q.1)) (hc1 : w.cell? ⟨b, 1, none⟩ = some q.2) (hlen : qs.length + 1 ≤ 1000000) (hbase : base ≤ w.heap.size) :
    ∃ v' w', (Builtin.append_ #[23, 23] ty #[v, .slice (some ⟨b, 0, none⟩) 1 cap]).run Tryd.prog w = .ok v' w' ∧ HasP w' base v' (qs ++ [q]) ∧ w.grownBy w' v.ownBlock ∧ (v'.ownBlock = v.ownBlock ∨ v'.ownBlock = some w.heap.size) := by
  obtain ⟨i, hi, hz0, hz1, hz2⟩ := info_parts info_part
  have hcs : ∀ (j : Nat) (u : Value), ([.int .i64 q.1, q.2] : List Value)[j]? = some u → w.cell? ((⟨b, 0, none⟩ : Addr).add j) = some u := by
    intro j u hu
    rw [addr_plain, Nat.zero_add]
    match j, hu with
    | 0, hu => rw [hc0]; simpa using hu
    | 1, hu => rw [hc1]; simpa using hu
    | j + 2, hu => simp at hu
  obtain ⟨v', w', h1, h2, h3, h4, h5⟩ := run_append_own_at (P := Tryd.prog) w base 23 ty 29 i (.agg #[.int .i64 0, .slice none 0 0]) 2 32 Tryd.underlying23 hi hz0 hz1 hz2 rfl (by omega) v qs.length (pcs qs) hv ⟨b, 0, none⟩ 1 cap [.int .i64 q.1, q.2] (by simp) hcs
    (by intro u hu
        have : u = .int .i64 q.1 ∨ u = q.2 := by simpa using hu
        rcases this with rfl | rfl
        · rfl
        · exact hV) (by simp only [maxLen]; omega) (by omega) hbase
  refine ⟨v', w', h1, ?_, h3, h5⟩
  unfold HasP
  rw [List.length_append, pcs_append]
  exact h2
theorem wpList_appp {ops : Array Oper} {rest : List Oper} {o : Oper} {a : Act} {Q : Exit → Act → World → Prop} (w : World) (hgd : o.guard = none) (s x : Operand)
    (ho : o.op = .call { callee := .builtin .append, args := #[s, x], argTypes := #[23, 23] }) (base : Nat) (v : Value) (qs : List (Int × Value)) (q : Int × Value) (b cap : Nat) (hs : a.eval s = v) (hv : HasP w base v qs)
    (hx : a.eval x = .slice (some ⟨b, 0, none⟩) 1 cap) (hV : q.2.oneCell' = true) (hc0 : w.cell? ⟨b, 0, none⟩ = some (.int .i64 q.1)) (hc1 : w.cell? ⟨b, 1, none⟩ = some q.2) (hlen : qs.length + 1 ≤ 1000000) (hbase : base ≤ w.heap.size)
    (h : ∀ v' w', HasP w' base v' (qs ++ [q]) → w.grownBy w' v.ownBlock → (v'.ownBlock = v.ownBlock ∨ v'.ownBlock = some w.heap.size) → wpList Tryd.prog ops Q rest (a.put o.dst v') w') :
    wpList Tryd.prog ops Q (o :: rest) a w := by
  refine wpList_plain hgd fun K hK => ?_
  obtain ⟨v', w', hrun, h2, h3, h4⟩ := run_appp w base v qs o.type hv q b cap hV hc0 hc1 hlen hbase
  unfold Oper.wp
  simp [execOp, ho, resolve, invoke, builtin, hs, hx, hrun, Result.andThen]
  exact hK _ _ (h v' w' h2 h3 h4)

end Go.Proofs.YthkibjhhlcfceaiDoor.Frm

/-
  An error as a value that may be none; what a slice of this call's own has room for.
-/
namespace Go.Proofs.YthkibjhhlcfceaiDoor.Ev
open Go.RowKit
open Go.Proofs.YthkibjhhlcfceaiDoor.Tre
set_option linter.unusedVariables false

/-- An error as a value. -/
def errV (e : Int) : Value := if e = 0 then .nilIface else .iface 47 (.int .i64 e)
theorem errV_zero : errV 0 = .nilIface := rfl
theorem errV_ne {e : Int} (h : e ≠ 0) : errV e = .iface 47 (.int .i64 e) := by simp [errV, h]
/-- .. as a slice and a row, with its room. -/
theorem has_room {w : World} {base : Nat} {v : Value} {l : List Int} (h : Has w base v l) : ∃ a cap, v = .slice a l.length cap ∧ Row w a l ∧ l.length ≤ cap ∧ cap ≤ 9223372036854775807 := by
  obtain ⟨a, cap, e, hr⟩ := h.row
  rcases h.2 with ⟨h1, h2⟩ | ⟨g, c, cur, hv, hb, hg, hn, hm, _⟩
  · rw [h1] at e
    obtain ⟨e1, e2, e3⟩ := Value.slice.inj e
    exact ⟨a, cap, by rw [h1]; exact e, hr, by omega, by omega⟩
  · rw [hv] at e
    obtain ⟨e1, e2, e3⟩ := Value.slice.inj e
    subst e3
    exact ⟨a, c, by rw [hv]; exact e, hr, hn, by simpa [maxLen] using hm⟩
theorem guard_err (op : BinOp) (t : TypeId) (x : Operand) (E : Int) (w : World) : (eqGuard op t x (Operand.const Value.nilIface) (errV E) Value.nilIface).run Tryd.prog w = .ok () w := by
  unfold eqGuard errV
  by_cases h : E = 0
  · rw [if_pos h]
    cases op <;> simp [Sem.run_pure]
  · rw [if_neg h]
    cases op <;> simp [Sem.run_pure]
theorem neq_err (E : Int) (w : World) : (binOp BinOp.neq 25 (errV E) Value.nilIface).run Tryd.prog w = .ok (.bool (decide (E ≠ 0))) w := by
  unfold errV
  by_cases h : E = 0
  · rw [if_pos h]
    simp [h, go_sem]
  · rw [if_neg h]
    simp [h, go_sem]
theorem eql_err (E : Int) (w : World) : (binOp BinOp.eql 25 (errV E) Value.nilIface).run Tryd.prog w = .ok (.bool (decide (E = 0))) w := by
  unfold errV
  by_cases h : E = 0
  · rw [if_pos h]
    simp [h, go_sem]
  · rw [if_neg h]
    simp [h, go_sem]

end Go.Proofs.YthkibjhhlcfceaiDoor.Ev
