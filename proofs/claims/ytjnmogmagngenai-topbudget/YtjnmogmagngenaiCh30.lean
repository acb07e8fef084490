/-
  From what the statement hands over to what the walks take: a tank.
-/
import Derived.Test.YtjnmogmagngenaiCh29
import Derived.Deep.Strs
import Derived.ChangeSame
namespace Go.Proofs.Ytjnmogmagngenai
open Go.ChangeShapes Go.WideShapes Go.ChangeAt Go.RowKit
set_option linter.unusedVariables false

theorem cells_tank : Try.prog.cellsOf 42 = 3 := by kernel_rfl

set_option maxRecDepth 100000 in
theorem open_tank {H : Type} {enc : TypeId × Value → H} {W : World} {base : Nat} {v : Value} {d : DataW H} {p : List MemPlace}
    (hv : Value.okWide Try.prog W .any base 42 v) (h : DataW.Trod enc Try.prog W 0 (fun _ => true) true 42 v d p) :
    ∃ x y z : Int, v = .agg #[.int .i64 x, .int .i64 y, .int .i64 z] ∧ d = .agg [.lit (.int .i64 x), .lit (.int .i64 y), .lit (.int .i64 z)] ∧ p = [] ∧ (Lit.int .i64 x).wf = true ∧ (Lit.int .i64 y).wf = true ∧ (Lit.int .i64 z).wf = true := by
  obtain ⟨cs, rfl, hs⟩ := okWide_struct Try.underlying42 hv
  rw [cells_tank] at hs
  obtain ⟨fuel, hf⟩ := h
  obtain ⟨y0, y1, y2, n, hx, hl, h0, h1, h2⟩ := Go.Deep.trod_struct3 Try.underlying42 hf
  obtain ⟨l⟩ := cs
  match l, hs with
  | [c0, c1, c2], _ =>
    simp [Value.cells, cells_int] at h0 h1 h2
    obtain ⟨n0, e0, x0, w0⟩ := DataW.trod_int Try.underlying3 h0
    obtain ⟨n1, e1, x1, w1⟩ := DataW.trod_int Try.underlying3 h1
    obtain ⟨n2, e2, x2, w2⟩ := DataW.trod_int Try.underlying3 h2
    simp at e0 e1 e2
    subst e0 e1 e2 x0 x1 x2
    simp only [Prod.mk.injEq] at hx
    exact ⟨n0, n1, n2, rfl, hx.1, by rw [hx.2]; rfl, w0, w1, w2⟩

set_option maxRecDepth 100000 in
theorem shut_tank {H : Type} {enc : TypeId × Value → H} {W : World} {base : Nat} {spare : Nat → Bool} {held : Bool} {x y z : Int} (hx : (Lit.int .i64 x).wf = true) (hy : (Lit.int .i64 y).wf = true) (hz : (Lit.int .i64 z).wf = true) :
    DataW.Trod enc Try.prog W base spare held 42 (.agg #[.int .i64 x, .int .i64 y, .int .i64 z]) (.agg [.lit (.int .i64 x), .lit (.int .i64 y), .lit (.int .i64 z)]) [] := by
  refine ⟨2, ?_⟩
  have h := Go.Deep.trod_struct3_mk (enc := enc) (P := Try.prog) (w := W) (base := base) (spare := spare) (held := held) (n := 1) (cs := [.int .i64 x, .int .i64 y, .int .i64 z]) (y0 := (.lit (.int .i64 x), [])) (y1 := (.lit (.int .i64 y), [])) (y2 := (.lit (.int .i64 z), [])) Try.underlying42 (by rw [cells_tank]; rfl)
    (by simpa [cells_int] using trod_int_mk 0 Try.underlying3 hx) (by simpa [cells_int] using trod_int_mk 0 Try.underlying3 hy) (by simpa [cells_int] using trod_int_mk 0 Try.underlying3 hz)
  simpa [Value.cells] using h

end Go.Proofs.Ytjnmogmagngenai
