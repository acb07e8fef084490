/-
  An error as a value that may be none; what a slice of this call's own has room for.
-/
import Derived.Test.YtjnmogmagngenaiDoorOwnSet
namespace Go.Proofs.YtjnmogmagngenaiDoor.Ev
open Go.RowKit
open Go.Proofs.YtjnmogmagngenaiDoor.Tre
set_option linter.unusedVariables false

/-- An error as a value. -/
def errV (e : Int) : Value := if e = 0 then .nilIface else .iface 47 (.int .i64 e)
theorem errV_zero : errV 0 = .nilIface := rfl
theorem errV_ne {e : Int} (h : e ≠ 0) : errV e = .iface 47 (.int .i64 e) := by simp [errV, h]
/-- .. as a slice and a row, with its room. -/
theorem has_room {w : World} {base : Nat} {v : Value} {l : List Int} (h : Has w base v l) : ∃ a cap, v = .slice a l.length cap ∧ Row w a l ∧ l.length ≤ cap ∧ cap ≤ 9223372036854775807 := by
  obtain ⟨a, cap, e, hr⟩ := h.row
  rcases h.2 with ⟨h1, h2⟩ | ⟨g, c, cur, hv, hb, hg, hn, hm, _⟩
  · rw [h1] at e
    obtain ⟨e1, e2, e3⟩ := Value.slice.inj e
    exact ⟨a, cap, by rw [h1]; exact e, hr, by omega, by omega⟩
  · rw [hv] at e
    obtain ⟨e1, e2, e3⟩ := Value.slice.inj e
    subst e3
    exact ⟨a, c, by rw [hv]; exact e, hr, hn, by simpa [maxLen] using hm⟩
theorem guard_err (op : BinOp) (t : TypeId) (x : Operand) (E : Int) (w : World) : (eqGuard op t x (Operand.const Value.nilIface) (errV E) Value.nilIface).run Tryd.prog w = .ok () w := by
  unfold eqGuard errV
  by_cases h : E = 0
  · rw [if_pos h]
    cases op <;> simp [Sem.run_pure]
  · rw [if_neg h]
    cases op <;> simp [Sem.run_pure]
theorem neq_err (E : Int) (w : World) : (binOp BinOp.neq 25 (errV E) Value.nilIface).run Tryd.prog w = .ok (.bool (decide (E ≠ 0))) w := by
  unfold errV
  by_cases h : E = 0
  · rw [if_pos h]
    simp [h, go_sem]
  · rw [if_neg h]
    simp [h, go_sem]
theorem eql_err (E : Int) (w : World) : (binOp BinOp.eql 25 (errV E) Value.nilIface).run Tryd.prog w = .ok (.bool (decide (E = 0))) w := by
  unfold errV
  by_cases h : E = 0
  · rw [if_pos h]
    simp [h, go_sem]
  · rw [if_neg h]
    simp [h, go_sem]

end Go.Proofs.YtjnmogmagngenaiDoor.Ev
