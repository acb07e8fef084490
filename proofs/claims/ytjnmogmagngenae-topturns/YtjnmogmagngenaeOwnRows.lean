/-
  A slice of slices that this call has made itself: made, one of them set, one appended; and what it is to read.
-/
import Derived.Test.YtjnmogmagngenaeOwnSli
namespace Go.Proofs.Ytjnmogmagngenae
open Go.RowKit
open Go.Proofs.Ytjnmogmagngenae.Tre
set_option linter.unusedVariables false

theorem info_ints : (Try.prog.info? 27).map (fun i => (i.zero, i.size, i.bytes)) = some (some (.slice none 0 0), 1, 24) := by kernel_rfl

/-- A slice of this call's own (its block at base or behind) holds these slices. -/
def HasS (w : World) (base : Nat) (v : Value) (vs : List Value) : Prop := w.ownsRow base 27 1 v vs.length vs
theorem HasS.nil (w : World) (base : Nat) : HasS w base (.slice none 0 0) [] := World.ownsRow_nil _ _ _ _
theorem HasS.kept {w w' : World} {base : Nat} {v : Value} {vs : List Value} {row : Option Nat} (h : HasS w base v vs) (hg : w.grownBy w' row) (hne : v.ownBlock = none ∨ v.ownBlock ≠ row) : HasS w' base v vs := World.ownsRow.kept h hg hne
theorem HasS.alloc {w : World} {base : Nat} {v : Value} {vs : List Value} (h : HasS w base v vs) (o : Obj) : HasS (w.alloc o) base v vs := World.ownsRow.alloc h o
theorem HasS.below {w w' : World} {base : Nat} {v : Value} {vs : List Value} (h : HasS w base v vs) (hb : Below w.heap.size w w') : HasS w' base v vs := by
  refine ⟨h.1, ?_⟩
  rcases h.2 with hn | ⟨g, cap, cur, rfl, hbg, hgg, rest⟩
  · exact .inl hn
  · exact .inr ⟨g, cap, cur, rfl, hbg, (hb.block g (Array.getElem?_eq_some_iff.1 hgg).1).trans hgg, rest⟩
theorem HasS.lt {w : World} {base : Nat} {v : Value} {vs : List Value} (h : HasS w base v vs) : ∀ k, v.ownBlock = some k → base ≤ k ∧ k < w.heap.size := World.ownsRow.lt h
theorem HasS.get {w : World} {base g n c : Nat} {vs : List Value} (h : HasS w base (.slice (some ⟨g, 0, none⟩) n c) vs) (hn : n = vs.length) {j : Nat} {V : Value} (hj : vs[j]? = some V) : w.cell? ⟨g, j, none⟩ = some V := by
  have hlt : j < vs.length := (List.getElem?_eq_some_iff.1 hj).1
  subst hn
  have := World.ownsRow.cellAt h j (by omega)
  rw [this]
  simp [hj]
theorem HasS.put {w : World} {base g n c : Nat} {vs : List Value} (h : HasS w base (.slice (some ⟨g, 0, none⟩) n c) vs) (hn : n = vs.length) (j : Nat) (V : Value) :
    HasS (w.setCell ⟨g, j, none⟩ V) base (.slice (some ⟨g, 0, none⟩) n c) (vs.set j V) ∧ w.grownBy (w.setCell ⟨g, j, none⟩ V) (some g) := by
  subst hn
  have := World.ownsRow.stored h j V
  refine ⟨?_, this.2⟩
  unfold HasS
  rw [List.length_set]
  exact this.1
theorem HasS.frozen {w : World} {base g n c : Nat} {vs : List Value} (h : HasS w base (.slice (some ⟨g, 0, none⟩) n c) vs) (hn : n = vs.length) (j : Nat) : w.frozen? ⟨g, j, none⟩ = false := by
  subst hn
  exact World.ownsRow.frozenAt h j

/-- What such a slice is to read. -/
theorem HasS.rws {w : World} {base : Nat} {v : Value} {vs : List Value} {ll : List (List Int)} (h : HasS w base v vs) (hl : ll.length = vs.length) (hc : ∀ r, r < ll.length → ∃ V, vs[r]? = some V ∧ Sli w V (rowAt ll r)) :
    ∃ a cap, v = .slice a ll.length cap ∧ Rws w a ll := by
  have h' := h
  rcases h.2 with ⟨h1, h2⟩ | ⟨g, cap, cur, hv, hb, hg, r⟩
  · have e : ll = [] := List.length_eq_zero_iff.1 (by omega)
    subst e
    exact ⟨none, 0, h1, Or.inl rfl⟩
  · refine ⟨some ⟨g, 0, none⟩, cap, by rw [hl]; exact hv, ?_⟩
    by_cases hl0 : ll = []
    · exact Or.inl hl0
    · refine Or.inr ⟨g, 0, rfl, (Array.getElem?_eq_some_iff.1 hg).1, fun j hj => ?_⟩
      subst hv
      obtain ⟨V, hV, hs⟩ := hc j hj
      rw [Nat.zero_add]
      exact cel_of (h'.get rfl hV) hs

/-- make of slices: nil ones of this call's own. -/
theorem wpList_mks {ops : Array Oper} {rest : List Oper} {o : Oper} {a : Act} {Q : Exit → Act → World → Prop} (w : World) (hgd : o.guard = none) (s : Operand)
    (ho : o.op = .makeSlice 36 s s) (n : Nat) (hs : a.eval s = .int .i64 n) (hn : n ≤ 1000000)
    (h : ∀ w', HasS w' w.heap.size (.slice (some ⟨w.heap.size, 0, none⟩) n n) (List.replicate n (.slice none 0 0)) → Below w.heap.size w w' → w.heap.size < w'.heap.size → wpList Try.prog ops Q rest (a.put o.dst (.slice (some ⟨w.heap.size, 0, none⟩) n n)) w') :
    wpList Try.prog ops Q (o :: rest) a w := by
  obtain ⟨i0, hi, hz0, hz1, hz2⟩ := info_parts info_ints
  refine wpList_make_full w hgd s s 36 ho w.heap.size 27 i0 (.slice none 0 0) 1 Try.underlying36 hi hz0 hz1 _ _ _ _ n hs hs rfl rfl (by rw [hz2]; omega) (by unfold maxLen; omega) (Nat.le_refl _) ?_
  intro w2 hown hgrow
  rw [Nat.mul_one] at hown
  refine h w2 ?_ ((Below.refl _ _).grown hgrow (Nat.le_refl _) (by intro k hk; cases hk)) ?_
  · unfold HasS
    rw [List.length_replicate, ← toList_madeCells_one]
    exact hown
  · exact (World.ownsRow.lt hown w.heap.size rfl).2

/-- append of one slice. -/
theorem run_apps (w : World) (base : Nat) (v : Value) (vs : List Value) (ty : TypeId) (hv : HasS w base v vs) (V : Value) (b off cap : Nat) (hV : V.oneCell' = true) (hc : w.cell? ⟨b, off, none⟩ = some V) (hlen : vs.length + 1 ≤ 1000000) (hbase : base ≤ w.heap.size) :
    ∃ v' w', (Builtin.append_ #[36, 36] ty #[v, .slice (some ⟨b, off, none⟩) 1 cap]).run Try.prog w = .ok v' w' ∧ HasS w' base v' (vs ++ [V]) ∧ w.grownBy w' v.ownBlock ∧ (v'.ownBlock = v.ownBlock ∨ v'.ownBlock = some w.heap.size) := by
  obtain ⟨i, hi, hz0, hz1, hz2⟩ := info_parts info_ints
  have hcs : ∀ (j : Nat) (u : Value), ([V] : List Value)[j]? = some u → w.cell? ((⟨b, off, none⟩ : Addr).add j) = some u := by
    intro j u hu
    have hj : j = 0 := by
      rcases Nat.lt_or_ge j 1 with h | h
      · omega
      · rw [List.getElem?_eq_none (by simpa using h)] at hu; cases hu
    subst hj
    rw [addr_plain, Nat.add_zero, hc]
    simpa using hu
  obtain ⟨v', w', h1, h2, h3, h4, h5⟩ := run_append_own_at (P := Try.prog) w base 36 ty 27 i (.slice none 0 0) 1 24 Try.underlying36 hi hz0 hz1 hz2 rfl (by omega) v vs.length vs hv ⟨b, off, none⟩ 1 cap [V] (by simp) hcs
    (by intro u hu; obtain rfl : u = V := by simpa using hu
        exact hV) (by simp only [maxLen]; omega) (by omega) hbase
  refine ⟨v', w', h1, ?_, h3, h5⟩
  unfold HasS
  rw [List.length_append]
  exact h2

theorem wpList_apps {ops : Array Oper} {rest : List Oper} {o : Oper} {a : Act} {Q : Exit → Act → World → Prop} (w : World) (hgd : o.guard = none) (s x : Operand)
    (ho : o.op = .call { callee := .builtin .append, args := #[s, x], argTypes := #[36, 36] }) (base : Nat) (v : Value) (vs : List Value) (V : Value) (b off cap : Nat) (hs : a.eval s = v) (hv : HasS w base v vs)
    (hx : a.eval x = .slice (some ⟨b, off, none⟩) 1 cap) (hV : V.oneCell' = true) (hc : w.cell? ⟨b, off, none⟩ = some V) (hlen : vs.length + 1 ≤ 1000000) (hbase : base ≤ w.heap.size)
    (h : ∀ v' w', HasS w' base v' (vs ++ [V]) → w.grownBy w' v.ownBlock → (v'.ownBlock = v.ownBlock ∨ v'.ownBlock = some w.heap.size) → wpList Try.prog ops Q rest (a.put o.dst v') w') :
    wpList Try.prog ops Q (o :: rest) a w := by
  refine wpList_plain hgd fun K hK => ?_
  obtain ⟨v', w', hrun, h2, h3, h4⟩ := run_apps w base v vs o.type hv V b off cap hV hc hlen hbase
  unfold Oper.wp
  simp [execOp, ho, resolve, invoke, builtin, hs, hx, hrun, Result.andThen]
  exact hK _ _ (h v' w' h2 h3 h4)

end Go.Proofs.Ytjnmogmagngenae
