/-
  Texts as lists of bytes: a byte, a piece, the rest, and whether one is another.
-/
import Derived.Test.YtjojeifoddonnakGreatLc12
import Derived.Laws.DeepStrings4
namespace Go.Proofs.YtjojeifoddonnakGreat.Txt
open Go.RowKit
open Go.Proofs.YtjojeifoddonnakGreat.Tre Go.Proofs.YtjojeifoddonnakGreat.Scl Go.Proofs.YtjojeifoddonnakGreat.Hrn
set_option linter.unusedVariables false

theorem str_sub (l : List Int) (i j : Nat) : (str l).extract i j = str ((l.take j).drop i) := by
  apply ByteArray.ext
  rw [ByteArray.data_extract]
  show (u8s l).toArray.extract i j = (u8s ((l.take j).drop i)).toArray
  simp [u8s, List.take_drop]
  by_cases h : i ≤ j
  · rw [show i + (j - i) = j by omega]
  · rw [List.drop_eq_nil_of_le (by simp; omega), List.drop_eq_nil_of_le (by simp; omega)]
set_option maxRecDepth 100000 in
theorem run_sub {l : List Int} {i j : Nat} (hi : i ≤ j) (hj : j ≤ l.length) (w : World) : (Instr.slice 9 (.string (str l)) (some (.int .i64 i)) (some (.int .i64 j)) none).run Tryz.prog w = .ok (.string (str ((l.take j).drop i))) w := by
  rw [run_slice_string_if w 9 (str l) .i64 .i64 i j Tryz.underlying9, if_pos ⟨by omega, by rw [str_size]; omega⟩, if_pos ⟨by omega, by omega⟩]
  rw [show ((i : Int)).toNat = i by omega, show ((j : Int)).toNat = j by omega, str_sub]
theorem str_from (l : List Int) (k : Nat) : (str l).extract k (str l).size = str (l.drop k) := by
  rw [str_sub, str_size, List.take_length]
set_option maxRecDepth 100000 in
theorem run_from {l : List Int} {k : Nat} (h : k ≤ l.length) (w : World) : (Instr.slice 9 (.string (str l)) (some (.int .i64 k)) none none).run Tryz.prog w = .ok (.string (str (l.drop k))) w := by
  rw [run_slice_string_from_if w 9 (str l) .i64 k Tryz.underlying9, if_pos ⟨by omega, by rw [str_size]; omega⟩]
  rw [show ((k : Int)).toNat = k by omega, str_from]
set_option maxRecDepth 100000 in
theorem run_ch {l : List Int} (hb : Byts l) {i : Nat} (h : i < l.length) (w : World) : (Instr.index 9 (.string (str l)) (.int .i64 i)).run Tryz.prog w = .ok (.int .u8 (at0 l i)) w := by
  have hs : i < (str l).size := by rw [str_size]; exact h
  rw [run_index_string w 9 (str l) .i64 i Tryz.underlying9, dif_pos ⟨by omega, by omega⟩]
  have e : ((i : Int)).toNat = i := by omega
  have e2 := byt_at (str l) hs
  rw [byt_str hb] at e2
  rw [← e2]
  simp only [e]
theorem u8s_inj {l m : List Int} (hl : Byts l) (hm : Byts m) (h : u8s l = u8s m) : l = m := str_inj hl hm (by unfold str; rw [h])
/-- Is a text this one? -/
theorem str_is {l m : List Int} (hl : Byts l) (hm : Byts m) : ((str l).toList == (str m).toList) = decide (l = m) := by
  rw [str_toList, str_toList]
  by_cases h : l = m
  · rw [h]; simp
  · rw [decide_eq_false h, beq_eq_false_iff_ne]
    exact fun e => h (u8s_inj hl hm e)
theorem byts_take {l : List Int} (h : Byts l) (i : Nat) : Byts (l.take i) := fun b hb => h b (List.mem_of_mem_take hb)
theorem byts_rest {l : List Int} (h : Byts l) (i : Nat) : Byts (l.drop i) := fun b hb => h b (List.mem_of_mem_drop hb)
theorem byts_at {l : List Int} (h : Byts l) (i : Nat) : 0 ≤ at0 l i ∧ at0 l i ≤ 255 := by
  unfold at0
  by_cases hi : i < l.length
  · rw [List.getElem?_eq_getElem hi]
    have := h l[i] (List.getElem_mem hi)
    simp
    omega
  · rw [List.getElem?_eq_none (by omega)]
    simp

end Go.Proofs.YtjojeifoddonnakGreat.Txt
