/-
  A slice of bytes that this call has made itself: what it holds, append of one byte, and one byte read or set.
-/
import Derived.Test.YtpinmcgaaplkiagOwnSet
namespace Go.Proofs.Ytpinmcgaaplkiag
open Go.RowKit
open Go.Proofs.Ytpinmcgaaplkiag.Tre
set_option linter.unusedVariables false

theorem info_byte : (Try.prog.info? 5).map (fun i => (i.zero, i.size, i.bytes)) = some (some (.int .u8 0), 1, 1) := by kernel_rfl

/-- A slice of bytes of this call's own (its block at base or behind) holds l. -/
def HasY (w : World) (base : Nat) (v : Value) (l : List Int) : Prop := w.ownsRow base 5 1 v l.length (l.map (Value.int .u8))

theorem HasY.nil (w : World) (base : Nat) : HasY w base (.slice none 0 0) [] := World.ownsRow_nil _ _ _ _
theorem HasY.kept {w w' : World} {base : Nat} {v : Value} {l : List Int} {row : Option Nat} (h : HasY w base v l) (hg : w.grownBy w' row) (hne : v.ownBlock = none ∨ v.ownBlock ≠ row) : HasY w' base v l := World.ownsRow.kept h hg hne
theorem HasY.alloc {w : World} {base : Nat} {v : Value} {l : List Int} (h : HasY w base v l) (o : Obj) : HasY (w.alloc o) base v l := World.ownsRow.alloc h o
theorem HasY.below {w w' : World} {base : Nat} {v : Value} {l : List Int} (h : HasY w base v l) (hb : Below w.heap.size w w') : HasY w' base v l := by
  refine ⟨h.1, ?_⟩
  rcases h.2 with hn | ⟨g, cap, cur, rfl, hbg, hgg, rest⟩
  · exact .inl hn
  · exact .inr ⟨g, cap, cur, rfl, hbg, (hb.block g (Array.getElem?_eq_some_iff.1 hgg).1).trans hgg, rest⟩
theorem HasY.lt {w : World} {base : Nat} {v : Value} {l : List Int} (h : HasY w base v l) : ∀ k, v.ownBlock = some k → base ≤ k ∧ k < w.heap.size := World.ownsRow.lt h
theorem HasY.shape {w : World} {base : Nat} {v : Value} {l : List Int} (h : HasY w base v l) : ∃ a cap, v = .slice a l.length cap := by
  rcases h.2 with ⟨h1, h2⟩ | ⟨g, cap, cur, hv, _⟩
  · exact ⟨none, 0, by rw [h2]; exact h1⟩
  · exact ⟨some ⟨g, 0, none⟩, cap, hv⟩
theorem HasY.any {w : World} {base : Nat} {v : Value} {l : List Int} (h : HasY w base v l) : ∃ a n cap, v = .slice a n cap := by
  obtain ⟨a, cap, e⟩ := h.shape
  exact ⟨a, _, cap, e⟩
theorem HasY.one {w : World} {base : Nat} {v : Value} {l : List Int} (h : HasY w base v l) (h0 : 0 < l.length) : ∃ g c, v = .slice (some ⟨g, 0, none⟩) l.length c ∧ base ≤ g ∧ g < w.heap.size ∧ l.length ≤ c ∧ c ≤ 9223372036854775807 := by
  rcases h.2 with ⟨_, e⟩ | ⟨g, cap, cur, hv, hb, hg, hn, hm, _⟩
  · omega
  · exact ⟨g, cap, hv, hb, (Array.getElem?_eq_some_iff.1 hg).1, hn, by simpa [maxLen] using hm⟩
theorem HasY.len {w : World} {base g n c : Nat} {l : List Int} (h : HasY w base (.slice (some ⟨g, 0, none⟩) n c) l) : n = l.length := by
  obtain ⟨a, cap, e⟩ := h.shape
  exact (Value.slice.inj e).2.1
theorem HasY.get {w : World} {base g n c : Nat} {l : List Int} (h : HasY w base (.slice (some ⟨g, 0, none⟩) n c) l) {j : Nat} (hj : j < l.length) : w.cell? ⟨g, j, none⟩ = some (.int .u8 (at0 l j)) := by
  obtain rfl := h.len
  rw [World.ownsRow.cellAt h j (by omega)]
  simp [at0, hj]
theorem HasY.put {w : World} {base g n c : Nat} {l : List Int} (h : HasY w base (.slice (some ⟨g, 0, none⟩) n c) l) (j : Nat) (x : Int) :
    HasY (w.setCell ⟨g, j, none⟩ (.int .u8 x)) base (.slice (some ⟨g, 0, none⟩) n c) (l.set j x) ∧ w.grownBy (w.setCell ⟨g, j, none⟩ (.int .u8 x)) (some g) := by
  obtain rfl := h.len
  have := World.ownsRow.stored h j (.int .u8 x)
  rw [← List.map_set] at this
  refine ⟨?_, this.2⟩
  unfold HasY
  rw [List.length_set]
  exact this.1
theorem HasY.frozen {w : World} {base g n c : Nat} {l : List Int} (h : HasY w base (.slice (some ⟨g, 0, none⟩) n c) l) (j : Nat) : w.frozen? ⟨g, j, none⟩ = false := by
  obtain rfl := h.len
  exact World.ownsRow.frozenAt h j

theorem cell_byte (w : World) (x : Int) (t : TypeId) : (w.alloc (.cells #[.int .u8 x] t)).cell? ⟨w.heap.size, 0, none⟩ = some (.int .u8 x) := by rw [World.cell?_alloc_at _ _ _ _ rfl]; rfl
theorem cell_byte' {w : World} {x : Int} {t : TypeId} {n : Nat} (h : w.heap.size = n) : (w.alloc (.cells #[.int .u8 x] t)).cell? ⟨n, 0, none⟩ = some (.int .u8 x) := by subst h; exact cell_byte w x t

/-- append of one byte. -/
theorem run_appy (w : World) (base : Nat) (v : Value) (l : List Int) (x : Int) (ty : TypeId) (hv : HasY w base v l) (b : Nat) (cap : Nat) (hr : w.cell? ⟨b, 0, none⟩ = some (.int .u8 x)) (hlen : l.length + 1 ≤ 1000000) (hbase : base ≤ w.heap.size) :
    ∃ v' w', (Builtin.append_ #[42, 42] ty #[v, .slice (some ⟨b, 0, none⟩) 1 cap]).run Try.prog w = .ok v' w' ∧ HasY w' base v' (l ++ [x]) ∧ w.grownBy w' v.ownBlock ∧ (v'.ownBlock = v.ownBlock ∨ v'.ownBlock = some w.heap.size) := by
  obtain ⟨i, hi, hz0, hz1, hz2⟩ := info_parts info_byte
  have hc : ∀ (j : Nat) (u : Value), ([x].map (Value.int .u8))[j]? = some u → w.cell? ((⟨b, 0, none⟩ : Addr).add j) = some u := by
    intro j u hu
    cases j with
    | zero => simp at hu; rw [addr_plain, Nat.add_zero, hr, hu]
    | succ j => simp at hu
  obtain ⟨v', w', h1, h2, h3, h4, h5⟩ := run_append_own_at (P := Try.prog) w base 42 ty 5 i (.int .u8 0) 1 1 Try.underlying42 hi hz0 hz1 hz2 rfl (by omega) v l.length (l.map (Value.int .u8)) hv ⟨b, 0, none⟩ 1 cap ([x].map (Value.int .u8)) (by simp) hc
    (by intro u hu; obtain ⟨z, _, rfl⟩ := List.mem_map.1 hu; rfl) (by simp only [maxLen]; omega) (by omega) hbase
  refine ⟨v', w', h1, ?_, h3, h5⟩
  unfold HasY
  rw [List.length_append, List.map_append]
  exact h2

theorem wpListIn_appy {F : Fence} {n : Nat} {ops : Array Oper} {rest : List Oper} {o : Oper} {a : Act} {Q : Exit → Act → World → Prop} (w : World) (hgd : o.guard = none) (s x : Operand)
    (ho : o.op = .call { callee := .builtin .append, args := #[s, x], argTypes := #[42, 42] }) (base : Nat) (v : Value) (l : List Int) (c : Int) (b cap : Nat) (hs : a.eval s = v) (hv : HasY w base v l)
    (hx : a.eval x = .slice (some ⟨b, 0, none⟩) 1 cap) (hr : w.cell? ⟨b, 0, none⟩ = some (.int .u8 c)) (hlen : l.length + 1 ≤ 1000000) (hbase : base ≤ w.heap.size)
    (h : ∀ v' w', HasY w' base v' (l ++ [c]) → w.grownBy w' v.ownBlock → (v'.ownBlock = v.ownBlock ∨ v'.ownBlock = some w.heap.size) → wpListIn F n Try.prog ops Q rest (a.put o.dst v') w') :
    wpListIn F n Try.prog ops Q (o :: rest) a w := by
  refine wpListIn_plain hgd fun K hK => ?_
  obtain ⟨v', w', hrun, h2, h3, h4⟩ := run_appy w base v l c o.type hv b cap hr hlen hbase
  unfold Oper.wpIn
  refine ⟨?_, ?_⟩
  · simp [Oper.about, ho, resolve, Target.leads, Sem.run_pure]
  · rw [Oper.semAt_plain F _ _ (by rw [ho]; intro c hc'; cases hc')]
    simp [execOp, ho, resolve, invoke, builtin, hs, hx, hrun, Result.andThen]
    exact hK _ _ (h v' w' h2 h3 h4)

end Go.Proofs.Ytpinmcgaaplkiag
