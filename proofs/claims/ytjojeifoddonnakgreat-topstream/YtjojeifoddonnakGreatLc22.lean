/-
  Texts as lists of bytes: those that are made of slices of bytes.
-/
import Derived.Test.YtjojeifoddonnakGreatLc12
import Derived.Laws.IdiomStrings
import Derived.Test.YtjojeifoddonnakGreatLc07
namespace Go.Proofs.YtjojeifoddonnakGreat.Hrn
open Go.RowKit
open Go.Proofs.YtjojeifoddonnakGreat.Tre Go.Proofs.YtjojeifoddonnakGreat.Scl
set_option linter.unusedVariables false

/-- A text of bytes that a slice holds. -/
theorem run_str (w : World) (a : Addr) (cap : Nat) (l : List Int) (hb : Byts l) (hc : ∀ j, j < l.length → w.cell? (a.add j) = some (.int .u8 (at0 l j))) :
    (convert 57 9 (.slice (some a) l.length cap)).run Tryz.prog w = .ok (.string (str l)) w := by
  have h := run_convert_bytes_back (P := Tryz.prog) w 57 9 5 a cap (u8s l) Tryz.underlying57 Tryz.underlying5 Tryz.underlying9 (fun j hj => by
    rw [u8s_length] at hj
    rw [hc j hj]
    have e : at0 l j = l[j] := by simp [at0, hj]
    obtain ⟨h0, h1⟩ := hb l[j] (List.getElem_mem hj)
    rw [e]
    simp [u8s]
    omega)
  rw [u8s_length] at h
  exact h
theorem run_str1 (w : World) (n : Int) (t : TypeId) (h0 : 0 ≤ n) (h1 : n < 256) :
    (convert 57 9 (.slice (some ⟨w.heap.size, 0, none⟩) 1 1)).run Tryz.prog (w.alloc (.cells #[.int .u8 n] t)) = .ok (.string (str [n])) (w.alloc (.cells #[.int .u8 n] t)) :=
  run_str (w.alloc (.cells #[.int .u8 n] t)) ⟨w.heap.size, 0, none⟩ 1 [n] (fun b hb => by simp at hb; omega) (fun j hj => by
    obtain rfl : j = 0 := by simpa using hj
    rw [addr_plain, World.cell?_alloc_at _ _ _ _ rfl]; rfl)
theorem run_str3 (w : World) (x y z : Int) (t : TypeId) (hb : Byts [x, y, z]) :
    (convert 57 9 (.slice (some ⟨w.heap.size, 0, none⟩) 3 3)).run Tryz.prog (w.alloc (.cells #[.int .u8 x, .int .u8 y, .int .u8 z] t)) = .ok (.string (str [x, y, z])) (w.alloc (.cells #[.int .u8 x, .int .u8 y, .int .u8 z] t)) :=
  run_str (w.alloc (.cells #[.int .u8 x, .int .u8 y, .int .u8 z] t)) ⟨w.heap.size, 0, none⟩ 3 [x, y, z] hb (fun j hj => by
    have hj' : j = 0 ∨ j = 1 ∨ j = 2 := by simp at hj; omega
    rcases hj' with rfl | rfl | rfl <;> (rw [addr_plain, World.cell?_alloc_at _ _ _ _ rfl]; rfl))
end Go.Proofs.YtjojeifoddonnakGreat.Hrn

/-
  A slice of bytes of this call's own: append of one byte, outside a fence; the text that it holds.
-/
namespace Go.Proofs.YtjojeifoddonnakGreat
open Go.RowKit
open Go.Proofs.YtjojeifoddonnakGreat.Tre Go.Proofs.YtjojeifoddonnakGreat.Hrn
set_option linter.unusedVariables false

theorem wpList_appy {ops : Array Oper} {rest : List Oper} {o : Oper} {a : Act} {Q : Exit → Act → World → Prop} (w : World) (hgd : o.guard = none) (s x : Operand)
    (ho : o.op = .call { callee := .builtin .append, args := #[s, x], argTypes := #[57, 57] }) (base : Nat) (v : Value) (l : List Int) (c : Int) (b cap : Nat) (hs : a.eval s = v) (hv : HasY w base v l)
    (hx : a.eval x = .slice (some ⟨b, 0, none⟩) 1 cap) (hr : w.cell? ⟨b, 0, none⟩ = some (.int .u8 c)) (hlen : l.length + 1 ≤ 1000000) (hbase : base ≤ w.heap.size)
    (h : ∀ v' w', HasY w' base v' (l ++ [c]) → w.grownBy w' v.ownBlock → (v'.ownBlock = v.ownBlock ∨ v'.ownBlock = some w.heap.size) → wpList Tryz.prog ops Q rest (a.put o.dst v') w') :
    wpList Tryz.prog ops Q (o :: rest) a w := by
  refine wpList_plain hgd fun K hK => ?_
  obtain ⟨v', w', hrun, h2, h3, h4⟩ := run_appy w base v l c o.type hv b cap hr hlen hbase
  unfold Oper.wp
  simp [execOp, ho, resolve, invoke, builtin, hs, hx, hrun, Result.andThen]
  exact hK _ _ (h v' w' h2 h3 h4)
theorem stepped_y {W w1 : World} {n₀ : Nat} {v v' : Value} {l l' : List Int} {tmp : Obj} (h : HasY W n₀ v l) (hn : n₀ ≤ W.heap.size)
    (hg : (W.alloc tmp).grownBy w1 v.ownBlock) : Below n₀ W w1 := ((Below.refl n₀ W).alloc hn tmp).grown hg (by simp; omega) (fun j e => (h.lt j e).1)
theorem run_str_nil (w : World) : (convert 57 9 (.slice none 0 0)).run Tryz.prog w = .ok (.string (str [])) w := by
  simp [convert, run_underlying Tryz.underlying57, run_underlying Tryz.underlying9, run_underlying Tryz.underlying5]
  rfl
/-- string(b) of what such a slice holds. -/
theorem run_str_y {w : World} {base : Nat} {v : Value} {l : List Int} (h : HasY w base v l) (hb : Byts l) : (convert 57 9 v).run Tryz.prog w = .ok (.string (str l)) w := by
  by_cases h0 : l = []
  · subst h0
    rcases h.2 with ⟨rfl, _⟩ | ⟨g, cap, cur, rfl, _⟩
    · exact run_str_nil w
    · exact run_str w ⟨g, 0, none⟩ cap [] hb (fun j hj => by simp at hj)
  · obtain ⟨g, c, rfl, _⟩ := h.one (List.length_pos_iff.2 h0)
    exact run_str w ⟨g, 0, none⟩ c l hb (fun j hj => by rw [addr_plain, Nat.zero_add]; exact h.get hj)

end Go.Proofs.YtjojeifoddonnakGreat
