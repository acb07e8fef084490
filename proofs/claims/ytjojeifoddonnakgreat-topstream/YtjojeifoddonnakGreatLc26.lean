/-
  Bytes that lie in memory, whatever lies beneath: one byte, a piece, the text of a piece; append of such bytes, and of a text, onto a slice of this call's own.
-/
import Derived.Test.YtjojeifoddonnakGreatLc07
import Derived.Test.YtjojeifoddonnakGreatLc22
import Derived.Lib.AppendStr
import Derived.Deep.RegionLaw
import Derived.Deep.QuietTactic
import Derived.BigQuiet
namespace Go.Proofs.YtjojeifoddonnakGreat
open Go.RowKit
open Go.Proofs.YtjojeifoddonnakGreat.Tre Go.Proofs.YtjojeifoddonnakGreat.Hrn Go.Proofs.YtjojeifoddonnakGreat.Scl
set_option linter.unusedVariables false

def RowY (w : World) (a : Option Addr) (l : List Int) : Prop :=
  l = [] ∨ ∃ b off, a = some ⟨b, off, none⟩ ∧ b < w.heap.size ∧ ∀ j, j < l.length → w.cell? ⟨b, off + j, none⟩ = some (.int .u8 (at0 l j))
section
variable {w w' : World} {a : Option Addr} {l : List Int}
theorem RowY.below (h : RowY w a l) (hb : Below w.heap.size w w') : RowY w' a l := by
  rcases h with h | ⟨b, off, e, hlt, hc⟩
  · exact Or.inl h
  · exact Or.inr ⟨b, off, e, Nat.lt_of_lt_of_le hlt hb.size, fun j hj => (hb.cell (p := ⟨b, off + j, none⟩) hlt).trans (hc j hj)⟩
theorem RowY.at (h : RowY w a l) {k : Nat} (hk : k < l.length) : ∃ b off, a = some ⟨b, off, none⟩ ∧ b < w.heap.size ∧ ∀ j, j < l.length → w.cell? ⟨b, off + j, none⟩ = some (.int .u8 (at0 l j)) := by
  rcases h with h | h
  · subst h; exact absurd hk (by simp)
  · exact h
theorem RowY.cut (h : RowY w a l) (t q : Nat) (hq : q ≤ l.length) : RowY w (a.map (·.add (t * 1))) ((l.take q).drop t) := by
  by_cases he : q ≤ t
  · refine Or.inl ?_
    rw [List.drop_eq_nil_of_le (by rw [List.length_take]; omega)]
  · obtain ⟨b, off, rfl, hb, hc⟩ := h.at (k := 0) (by omega)
    rw [Nat.mul_one, Option.map_some, addr_plain]
    refine Or.inr ⟨b, off + t, rfl, hb, fun j hj => ?_⟩
    rw [List.length_drop, List.length_take] at hj
    rw [Nat.add_assoc, hc (t + j) (by omega)]
    unfold at0
    rw [List.getElem?_drop, List.getElem?_take, if_pos (by omega)]
theorem RowY.first (h : RowY w a l) (k : Nat) : RowY w a (l.take k) := by
  by_cases he : l.take k = []
  · exact Or.inl he
  · have h0 : 0 < (l.take k).length := List.length_pos_iff.2 he
    rw [List.length_take] at h0
    obtain ⟨b, off, rfl, hb, hc⟩ := h.at (k := 0) (by omega)
    refine Or.inr ⟨b, off, rfl, hb, fun j hj => ?_⟩
    rw [List.length_take] at hj
    rw [hc j (by omega)]
    unfold at0
    rw [List.getElem?_take, if_pos (by omega)]
theorem HasY.rowY {base : Nat} {v : Value} (h : HasY w base v l) : ∃ a cap, v = .slice a l.length cap ∧ RowY w a l ∧ l.length ≤ cap ∧ cap ≤ 9223372036854775807 ∧ v.ownBlock = a.map (·.block) := by
  rcases h.2 with ⟨h1, h2⟩ | ⟨g, cap, cur, hv, hb, hg, hn, hm, _⟩
  · have e : l = [] := List.length_eq_zero_iff.1 (by omega)
    subst e
    exact ⟨none, 0, h1, Or.inl rfl, Nat.le_refl _, by omega, by rw [h1]; rfl⟩
  · refine ⟨some ⟨g, 0, none⟩, cap, hv, Or.inr ⟨g, 0, rfl, (Array.getElem?_eq_some_iff.1 hg).1, fun j hj => ?_⟩, hn, by simpa [maxLen] using hm, by rw [hv]; rfl⟩
    subst hv
    rw [Nat.zero_add]
    exact h.get hj
theorem str_row {n cap : Nat} (h : RowY w a l) (hb : Byts l) (h0 : 0 < l.length) : (convert 57 9 (.slice a l.length cap)).run Tryz.prog w = .ok (.string (str l)) w := by
  obtain ⟨b, off, rfl, hlt, hc⟩ := h.at h0
  exact run_str w ⟨b, off, none⟩ cap l hb (fun j hj => by rw [addr_plain]; exact hc j hj)
end
set_option maxRecDepth 100000 in
theorem size_bytes (w : World) : (sizeOf (Tryz.prog.elem 57)).run Tryz.prog w = .ok 1 w := by
  have h : Tryz.prog.elem 57 = 5 := by kernel_rfl
  obtain ⟨i, hi, hz0, hz1, hz2⟩ := info_parts info_byte
  rw [h]
  simp [sizeOf, typeInfo, hi, hz1]
set_option maxRecDepth 100000 in
theorem cutY {w : World} {a : Option Addr} {l : List Int} (h : RowY w a l) (cap : Nat) (hm : l.length ≤ cap) {t q : Nat} (htq : t < q) (hq : q ≤ l.length) :
    ∃ A, (∀ W, (Instr.slice 57 (.slice a l.length cap) (some (.int .i64 t)) (some (.int .i64 q)) none).run Tryz.prog W = .ok (.slice A (q - t) (cap - t)) W) ∧ RowY w A ((l.take q).drop t) := by
  refine ⟨a.map (·.add (t * 1)), fun W => ?_, h.cut t q hq⟩
  rw [run_slice_lh W 57 a l.length cap Tryz.underlying57 .i64 .i64 t q (by omega) (by omega) (by omega), size_bytes]
  simp [Result.andThen, sliced]
  intro e
  omega
set_option maxRecDepth 100000 in
theorem firstY {w : World} {base : Nat} {v : Value} {l : List Int} (h : HasY w base v l) {n : Nat} (hn : n ≤ l.length) :
    ∃ v', (∀ W, (Instr.slice 57 v none (some (.int .i64 n)) none).run Tryz.prog W = .ok v' W) ∧ HasY w base v' (l.take n) ∧ v'.ownBlock = v.ownBlock := by
  have hl : (l.take n).length = n := by rw [List.length_take]; omega
  rcases h.2 with ⟨rfl, h0⟩ | ⟨g, cap, cur, rfl, hb, hg, hc, hm, hs, hx⟩
  · obtain rfl : l = [] := List.eq_nil_of_length_eq_zero h0
    obtain rfl : n = 0 := by simpa using hn
    refine ⟨.slice none 0 0, fun W => ?_, HasY.nil _ _, rfl⟩
    rw [run_slice_h W 57 none 0 0 Tryz.underlying57 .i64 ((0 : Nat) : Int) (by omega) (by omega), size_bytes]
    simp [Result.andThen, sliced]
  · refine ⟨.slice (some ⟨g, 0, none⟩) n cap, fun W => ?_, ?_, rfl⟩
    · rw [run_slice_h W 57 _ l.length cap Tryz.underlying57 .i64 n (by omega) (by omega), size_bytes]
      simp [Result.andThen, sliced, addr_plain]
    · unfold HasY
      rw [hl]
      refine ⟨by rw [List.length_map, hl, Nat.mul_one], Or.inr ⟨g, cap, cur, rfl, hb, hg, by omega, hm, hs, ?_⟩⟩
      rw [List.map_take, ← hx, List.take_take, Nat.mul_one, Nat.mul_one, Nat.min_eq_left hn]

/-- append of bytes. -/
theorem run_appys (w : World) (base : Nat) (v : Value) (l m : List Int) (ty : TypeId) (hv : HasY w base v l) (ad : Option Addr) (cap : Nat) (hr : RowY w ad m) (hm : 0 < m.length) (hlen : l.length + m.length ≤ 1000000) (hbase : base ≤ w.heap.size) :
    ∃ v' w', (Builtin.append_ #[57, 57] ty #[v, .slice ad m.length cap]).run Tryz.prog w = .ok v' w' ∧ HasY w' base v' (l ++ m) ∧ w.grownBy w' v.ownBlock ∧ (v'.ownBlock = v.ownBlock ∨ v'.ownBlock = some w.heap.size) := by
  obtain ⟨i, hi, hz0, hz1, hz2⟩ := info_parts info_byte
  obtain ⟨b, off, rfl, hb, hcs⟩ := hr.at hm
  have hc : ∀ (j : Nat) (u : Value), (m.map (Value.int .u8))[j]? = some u → w.cell? ((⟨b, off, none⟩ : Addr).add j) = some u := by
    intro j u hu
    have hj : j < m.length := by
      rcases Nat.lt_or_ge j m.length with h | h
      · exact h
      · rw [List.getElem?_eq_none (by simpa using h)] at hu; cases hu
    rw [addr_plain, hcs j hj]
    simp [List.getElem?_map, List.getElem?_eq_getElem hj] at hu
    simp [at0, List.getElem?_eq_getElem hj, hu]
  obtain ⟨v', w', h1, h2, h3, h4, h5⟩ := run_append_own_at (P := Tryz.prog) w base 57 ty 5 i (.int .u8 0) 1 1 Tryz.underlying57 hi hz0 hz1 hz2 rfl (by omega) v l.length (l.map (Value.int .u8)) hv ⟨b, off, none⟩ m.length cap (m.map (Value.int .u8)) (by simp) hc
    (by intro u hu; obtain ⟨z, _, rfl⟩ := List.mem_map.1 hu; rfl) (by simp only [maxLen]; omega) (by omega) hbase
  refine ⟨v', w', h1, ?_, h3, h5⟩
  unfold HasY
  rw [List.length_append, List.map_append]
  exact h2
theorem wpList_appys {ops : Array Oper} {rest : List Oper} {o : Oper} {a : Act} {Q : Exit → Act → World → Prop} (w : World) (hgd : o.guard = none) (s x : Operand)
    (ho : o.op = .call { callee := .builtin .append, args := #[s, x], argTypes := #[57, 57] }) (base : Nat) (v : Value) (l m : List Int) (ad : Option Addr) (cap : Nat) (hs : a.eval s = v) (hv : HasY w base v l)
    (hx : a.eval x = .slice ad m.length cap) (hr : RowY w ad m) (hm : 0 < m.length) (hlen : l.length + m.length ≤ 1000000) (hbase : base ≤ w.heap.size)
    (h : ∀ v' w', HasY w' base v' (l ++ m) → w.grownBy w' v.ownBlock → (v'.ownBlock = v.ownBlock ∨ v'.ownBlock = some w.heap.size) → wpList Tryz.prog ops Q rest (a.put o.dst v') w') :
    wpList Tryz.prog ops Q (o :: rest) a w := by
  refine wpList_plain hgd fun K hK => ?_
  obtain ⟨v', w', hrun, h2, h3, h4⟩ := run_appys w base v l m o.type hv ad cap hr hm hlen hbase
  unfold Oper.wp
  simp [execOp, ho, resolve, invoke, builtin, hs, hx, hrun, Result.andThen]
  exact hK _ _ (h v' w' h2 h3 h4)
theorem step_appys {ops : Array Oper} {o : Oper} {a : Act} {K : Act → World → Prop} {Q : Exit → Act → World → Prop} {E : Prop} (w : World) (hgd : o.guard = none) (s x : Operand)
    (ho : o.op = .call { callee := .builtin .append, args := #[s, x], argTypes := #[57, 57] }) (base : Nat) (v : Value) (l m : List Int) (ad : Option Addr) (cap : Nat) (hs : a.eval s = v) (hv : HasY w base v l)
    (hx : a.eval x = .slice ad m.length cap) (hr : RowY w ad m) (hm : 0 < m.length) (hlen : l.length + m.length ≤ 1000000) (hbase : base ≤ w.heap.size)
    (h : ∀ v' w', HasY w' base v' (l ++ m) → w.grownBy w' v.ownBlock → (v'.ownBlock = v.ownBlock ∨ v'.ownBlock = some w.heap.size) → K (a.put o.dst v') w') :
    if Region.wanted o (yielded ops a.tmps) = true then Oper.wp Tryz.prog o a w K Q else E := by
  have hw : Region.wanted o (yielded ops a.tmps) = true := by simp [Region.wanted, hgd]
  rw [if_pos hw]
  obtain ⟨v', w', hrun, h2, h3, h4⟩ := run_appys w base v l m o.type hv ad cap hr hm hlen hbase
  unfold Oper.wp
  simp [execOp, ho, resolve, invoke, builtin, hs, hx, hrun, Result.andThen]
  exact h v' w' h2 h3 h4
theorem cells_byt (s : ByteArray) : Lib.strCells s = (byt s).map (Value.int .u8) := by
  unfold Lib.strCells byt
  rw [List.map_map]
  rfl
/-- append of a text. -/
theorem run_appyt (w : World) (base : Nat) (v : Value) (l : List Int) (x : ByteArray) (ty : TypeId) (hv : HasY w base v l) (hlen : l.length + x.size ≤ 1000000) (hbase : base ≤ w.heap.size) :
    ∃ v' w', (Builtin.append_ #[57, 9] ty #[v, .string x]).run Tryz.prog w = .ok v' w' ∧ HasY w' base v' (l ++ byt x) ∧ w.grownBy w' v.ownBlock := by
  obtain ⟨i, hi, hz0, hz1, hz2⟩ := info_parts info_byte
  obtain ⟨v', w', h1, h2, h3, h4⟩ := Lib.run_append_own_string (P := Tryz.prog) w base 57 9 ty 5 i Tryz.underlying57 Tryz.underlying9 hi hz0 hz1 hz2 v l.length (l.map (Value.int .u8)) hv x (by simp only [maxLen]; omega) (by omega) hbase
  refine ⟨v', w', h1, ?_, h3⟩
  unfold HasY
  rw [List.length_append, List.map_append, byt_length, ← cells_byt]
  exact h2
theorem wpList_appyt {ops : Array Oper} {rest : List Oper} {o : Oper} {a : Act} {Q : Exit → Act → World → Prop} (w : World) (hgd : o.guard = none) (s x : Operand)
    (ho : o.op = .call { callee := .builtin .append, args := #[s, x], argTypes := #[57, 9] }) (base : Nat) (v : Value) (l : List Int) (c : ByteArray) (hs : a.eval s = v) (hv : HasY w base v l)
    (hx : a.eval x = .string c) (hlen : l.length + c.size ≤ 1000000) (hbase : base ≤ w.heap.size)
    (h : ∀ v' w', HasY w' base v' (l ++ byt c) → w.grownBy w' v.ownBlock → wpList Tryz.prog ops Q rest (a.put o.dst v') w') :
    wpList Tryz.prog ops Q (o :: rest) a w := by
  refine wpList_plain hgd fun K hK => ?_
  obtain ⟨v', w', hrun, h2, h3⟩ := run_appyt w base v l c o.type hv hlen hbase
  unfold Oper.wp
  simp [execOp, ho, resolve, invoke, builtin, hs, hx, hrun, Result.andThen]
  exact hK _ _ (h v' w' h2 h3)
/-- A slice of one byte that was just made. -/
theorem has_byte (w : World) (x : Int) : HasY (w.alloc (.cells #[.int .u8 x] 5)) w.heap.size (.slice (some ⟨w.heap.size, 0, none⟩) 1 1) [x] :=
  ⟨rfl, .inr ⟨w.heap.size, 1, #[.int .u8 x], rfl, Nat.le_refl _, heap_alloc_new w _, Nat.le_refl _, by simp [maxLen], rfl, rfl⟩⟩

end Go.Proofs.YtjojeifoddonnakGreat
