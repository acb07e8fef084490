/-
  A part of a row ('l[t:q]', 'l[:n]'), whatever lies beneath it: nil and empty ones too.
-/
import Derived.Test.YtpinmcgaaplkiagOwnSet
namespace Go.Proofs.Ytpinmcgaaplkiag
open Go.RowKit
open Go.Proofs.Ytpinmcgaaplkiag.Tre
set_option linter.unusedVariables false

set_option maxRecDepth 100000 in
theorem size_int (w : World) : (sizeOf (Try.prog.elem 23)).run Try.prog w = .ok 1 w := by
  have h : Try.prog.elem 23 = 3 := by kernel_rfl
  obtain ⟨i, hi, hz0, hz1, hz2⟩ := info_parts info_int
  rw [h]
  simp [sizeOf, typeInfo, hi, hz1]
set_option maxRecDepth 100000 in
theorem row_cut {w : World} {a : Option Addr} {l : List Int} (h : Row w a l) (cap : Nat) (hm : l.length ≤ cap) {t q : Nat} (htq : t ≤ q) (hq : q ≤ l.length) :
    ∃ A, (∀ W, (Instr.slice 23 (.slice a l.length cap) (some (.int .i64 t)) (some (.int .i64 q)) none).run Try.prog W = .ok (.slice A (q - t) (cap - t)) W) ∧ Row w A ((l.drop t).take (q - t)) := by
  refine ⟨if cap = t then a else a.map (·.add (t * 1)), fun W => ?_, ?_⟩
  · rw [run_slice_lh W 23 a l.length cap Try.underlying23 .i64 .i64 t q (by omega) (by omega) (by omega), size_int]
    simp [Result.andThen, sliced]
  · by_cases he : q = t
    · refine Or.inl ?_
      rw [he, Nat.sub_self, List.take_zero]
    · obtain ⟨b, off, rfl, hb, hc⟩ := h.at (k := 0) (by omega)
      rw [if_neg (by omega), Nat.mul_one, Option.map_some, addr_plain]
      exact (h.drop t).take _
set_option maxRecDepth 100000 in
theorem row_first {w : World} {a : Option Addr} {l : List Int} (h : Row w a l) (cap : Nat) (hm : l.length ≤ cap) {q : Nat} (hq : q ≤ l.length) :
    ∃ A, (∀ W, (Instr.slice 23 (.slice a l.length cap) none (some (.int .i64 q)) none).run Try.prog W = .ok (.slice A q cap) W) ∧ Row w A (l.take q) := by
  refine ⟨if cap = 0 then a else a.map (·.add (0 * 1)), fun W => ?_, ?_⟩
  · rw [run_slice_h W 23 a l.length cap Try.underlying23 .i64 q (by omega) (by omega), size_int]
    simp [Result.andThen, sliced]
  · by_cases he : q = 0
    · refine Or.inl ?_
      rw [he, List.take_zero]
    · obtain ⟨b, off, rfl, hb, hc⟩ := h.at (k := 0) (by omega)
      rw [if_neg (by omega), Nat.zero_mul, Option.map_some, addr_plain, Nat.add_zero]
      exact h.take _

end Go.Proofs.Ytpinmcgaaplkiag
