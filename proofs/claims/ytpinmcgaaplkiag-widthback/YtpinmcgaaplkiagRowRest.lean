/-
  The rest of a row ('l[t:]'), whatever lies beneath it; the first ones of a slice of this call's own ('v[:n]').
-/
import Derived.Test.YtpinmcgaaplkiagRowCut
namespace Go.Proofs.Ytpinmcgaaplkiag
open Go.RowKit
open Go.Proofs.Ytpinmcgaaplkiag.Tre
set_option linter.unusedVariables false

set_option maxRecDepth 100000 in
theorem row_rest {w : World} {a : Option Addr} {l : List Int} (h : Row w a l) (cap : Nat) (hm : l.length ≤ cap) {t : Nat} (ht : t ≤ l.length) :
    ∃ A, (∀ W, (Instr.slice 23 (.slice a l.length cap) (some (.int .i64 t)) none none).run Try.prog W = .ok (.slice A (l.length - t) (cap - t)) W) ∧ Row w A (l.drop t) := by
  refine ⟨if cap = t then a else a.map (·.add (t * 1)), fun W => ?_, ?_⟩
  · rw [run_slice_l W 23 a l.length cap Try.underlying23 .i64 t (by omega) (by omega), size_int]
    simp [Result.andThen, sliced]
  · by_cases he : l.length = t
    · refine Or.inl ?_
      rw [← he, List.drop_length]
    · obtain ⟨b, off, rfl, hb, hc⟩ := h.at (k := 0) (by omega)
      rw [if_neg (by omega), Nat.mul_one, Option.map_some, addr_plain]
      exact h.drop t
set_option maxRecDepth 100000 in
theorem Has.first {w : World} {base : Nat} {v : Value} {l : List Int} (h : Has w base v l) {n : Nat} (hn : n ≤ l.length) :
    ∃ v', (∀ W, (Instr.slice 23 v none (some (.int .i64 n)) none).run Try.prog W = .ok v' W) ∧ Has w base v' (l.take n) := by
  have hl : (l.take n).length = n := by rw [List.length_take]; omega
  rcases h.2 with ⟨rfl, h0⟩ | ⟨g, cap, cur, rfl, hb, hg, hc, hm, hs, hx⟩
  · obtain rfl : l = [] := List.eq_nil_of_length_eq_zero h0
    obtain rfl : n = 0 := by simpa using hn
    refine ⟨.slice none 0 0, fun W => ?_, Has.nil _ _⟩
    rw [run_slice_h W 23 none 0 0 Try.underlying23 .i64 ((0 : Nat) : Int) (by omega) (by omega), size_int]
    simp [Result.andThen, sliced]
  · refine ⟨.slice (some ⟨g, 0, none⟩) n cap, fun W => ?_, ?_⟩
    · rw [run_slice_h W 23 _ l.length cap Try.underlying23 .i64 n (by omega) (by omega), size_int]
      simp [Result.andThen, sliced, addr_plain]
    · unfold Has
      rw [hl]
      refine ⟨by rw [List.length_map, hl, Nat.mul_one], Or.inr ⟨g, cap, cur, rfl, hb, hg, by omega, hm, hs, ?_⟩⟩
      rw [List.map_take, ← hx, List.take_take, Nat.mul_one, Nat.mul_one, Nat.min_eq_left hn]

end Go.Proofs.Ytpinmcgaaplkiag
