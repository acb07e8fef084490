/-
  append onto a slice of integers of this call's own, up to all that memory bears.
-/
import Derived.Test.YtpinmcgaaplkiagOwn
namespace Go.Proofs.Ytpinmcgaaplkiag
open Go.RowKit
set_option linter.unusedVariables false

/-- append. -/
theorem run_appL (w : World) (base : Nat) (v : Value) (l m : List Int) (ty : TypeId) (hv : Has w base v l) (ad : Option Addr) (cap : Nat) (hr : Row w ad m) (hlen : l.length + m.length ≤ 17592186044416) (hbase : base ≤ w.heap.size) :
    ∃ v' w', (Builtin.append_ #[23, 23] ty #[v, .slice ad m.length cap]).run Try.prog w = .ok v' w' ∧ Has w' base v' (l ++ m) ∧ w.grownBy w' v.ownBlock ∧ (v'.ownBlock = v.ownBlock ∨ v'.ownBlock = some w.heap.size) ∧ (v = .slice none 0 0 → m = [] → v' = .slice none 0 0) := by
  obtain ⟨i, hi, hz0, hz1, hz2⟩ := info_parts info_int
  cases ad with
  | none =>
    obtain rfl : m = [] := by
      rcases hr with h | ⟨b, off, h, _⟩
      · exact h
      · cases h
    refine ⟨v, w, ?_, by simpa using hv, World.grownBy.refl _ _, Or.inl rfl, fun h _ => h⟩
    rcases hv.2 with ⟨rfl, hl⟩ | ⟨g, cap', cur, rfl, _, _, hnc, _⟩
    · simp [Builtin.append_, run_underlying Try.underlying23, sizeOf, typeInfo, hi, Builtin.lenOf, Builtin.firstCells]
    · simp [Builtin.append_, run_underlying Try.underlying23, sizeOf, typeInfo, hi, Builtin.lenOf, Builtin.firstCells, hnc, storeCells]
  | some a =>
    have hc : ∀ (j : Nat) (u : Value), (m.map (Value.int .i64))[j]? = some u → w.cell? (a.add j) = some u := by
      intro j u hu
      have hj : j < m.length := by
        rcases Nat.lt_or_ge j m.length with h | h
        · exact h
        · rw [List.getElem?_eq_none (by simpa using h)] at hu; cases hu
      obtain ⟨b, off, e, hb, hcs⟩ := hr.at hj
      cases e
      rw [addr_plain, hcs j hj]
      simp [List.getElem?_map, List.getElem?_eq_getElem hj] at hu
      simp [List.getD_eq_getElem?_getD, List.getElem?_eq_getElem hj, hu]
    obtain ⟨v', w', h1, h2, h3, h4, h5⟩ := run_append_own_at (P := Try.prog) w base 23 ty 3 i (.int .i64 0) 1 8 Try.underlying23 hi hz0 hz1 hz2 rfl (by omega) v l.length (l.map (Value.int .i64)) hv a m.length cap (m.map (Value.int .i64)) (by simp) hc
      (by intro u hu; obtain ⟨z, _, rfl⟩ := List.mem_map.1 hu; rfl) (by simp only [maxLen]; omega) (by omega) hbase
    refine ⟨v', w', h1, ?_, h3, h5, fun e1 e2 => h4.2 ⟨e1, by rw [e2]; rfl⟩⟩
    unfold Has
    rw [List.length_append, List.map_append]
    exact h2

theorem wpList_appL {ops : Array Oper} {rest : List Oper} {o : Oper} {a : Act} {Q : Exit → Act → World → Prop} (w : World) (hgd : o.guard = none) (s x : Operand)
    (ho : o.op = .call { callee := .builtin .append, args := #[s, x], argTypes := #[23, 23] }) (base : Nat) (v : Value) (l m : List Int) (ad : Option Addr) (cap : Nat) (hs : a.eval s = v) (hv : Has w base v l)
    (hx : a.eval x = .slice ad m.length cap) (hr : Row w ad m) (hlen : l.length + m.length ≤ 17592186044416) (hbase : base ≤ w.heap.size)
    (h : ∀ v' w', Has w' base v' (l ++ m) → w.grownBy w' v.ownBlock → (v'.ownBlock = v.ownBlock ∨ v'.ownBlock = some w.heap.size) → wpList Try.prog ops Q rest (a.put o.dst v') w') :
    wpList Try.prog ops Q (o :: rest) a w := by
  refine wpList_plain hgd fun K hK => ?_
  obtain ⟨v', w', hrun, h2, h3, h4, _⟩ := run_appL w base v l m o.type hv ad cap hr hlen hbase
  unfold Oper.wp
  simp [execOp, ho, resolve, invoke, builtin, hs, hx, hrun, Result.andThen]
  exact hK _ _ (h v' w' h2 h3 h4)

end Go.Proofs.Ytpinmcgaaplkiag
