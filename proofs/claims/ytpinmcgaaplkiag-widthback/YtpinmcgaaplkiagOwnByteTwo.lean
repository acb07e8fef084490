/-
  A slice of bytes of this call's own: append of one byte, outside a fence; the text that it holds.
-/
import Derived.Test.YtpinmcgaaplkiagOwnByte
import Derived.Test.YtpinmcgaaplkiagStr
import Derived.Test.YtpinmcgaaplkiagOwnStep
namespace Go.Proofs.Ytpinmcgaaplkiag
open Go.RowKit
open Go.Proofs.Ytpinmcgaaplkiag.Tre Go.Proofs.Ytpinmcgaaplkiag.Hrn
set_option linter.unusedVariables false

theorem wpList_appy {ops : Array Oper} {rest : List Oper} {o : Oper} {a : Act} {Q : Exit → Act → World → Prop} (w : World) (hgd : o.guard = none) (s x : Operand)
    (ho : o.op = .call { callee := .builtin .append, args := #[s, x], argTypes := #[42, 42] }) (base : Nat) (v : Value) (l : List Int) (c : Int) (b cap : Nat) (hs : a.eval s = v) (hv : HasY w base v l)
    (hx : a.eval x = .slice (some ⟨b, 0, none⟩) 1 cap) (hr : w.cell? ⟨b, 0, none⟩ = some (.int .u8 c)) (hlen : l.length + 1 ≤ 1000000) (hbase : base ≤ w.heap.size)
    (h : ∀ v' w', HasY w' base v' (l ++ [c]) → w.grownBy w' v.ownBlock → (v'.ownBlock = v.ownBlock ∨ v'.ownBlock = some w.heap.size) → wpList Try.prog ops Q rest (a.put o.dst v') w') :
    wpList Try.prog ops Q (o :: rest) a w := by
  refine wpList_plain hgd fun K hK => ?_
  obtain ⟨v', w', hrun, h2, h3, h4⟩ := run_appy w base v l c o.type hv b cap hr hlen hbase
  unfold Oper.wp
  simp [execOp, ho, resolve, invoke, builtin, hs, hx, hrun, Result.andThen]
  exact hK _ _ (h v' w' h2 h3 h4)
theorem stepped_y {W w1 : World} {n₀ : Nat} {v v' : Value} {l l' : List Int} {tmp : Obj} (h : HasY W n₀ v l) (hn : n₀ ≤ W.heap.size)
    (hg : (W.alloc tmp).grownBy w1 v.ownBlock) : Below n₀ W w1 := ((Below.refl n₀ W).alloc hn tmp).grown hg (by simp; omega) (fun j e => (h.lt j e).1)
theorem run_str_nil (w : World) : (convert 42 9 (.slice none 0 0)).run Try.prog w = .ok (.string (str [])) w := by
  simp [convert, run_underlying Try.underlying42, run_underlying Try.underlying9, run_underlying Try.underlying5]
  rfl
/-- string(b) of what such a slice holds. -/
theorem run_str_y {w : World} {base : Nat} {v : Value} {l : List Int} (h : HasY w base v l) (hb : Byts l) : (convert 42 9 v).run Try.prog w = .ok (.string (str l)) w := by
  by_cases h0 : l = []
  · subst h0
    rcases h.2 with ⟨rfl, _⟩ | ⟨g, cap, cur, rfl, _⟩
    · exact run_str_nil w
    · exact run_str w ⟨g, 0, none⟩ cap [] hb (fun j hj => by simp at hj)
  · obtain ⟨g, c, rfl, _⟩ := h.one (List.length_pos_iff.2 h0)
    exact run_str w ⟨g, 0, none⟩ c l hb (fun j hj => by rw [addr_plain, Nat.zero_add]; exact h.get hj)

end Go.Proofs.Ytpinmcgaaplkiag
