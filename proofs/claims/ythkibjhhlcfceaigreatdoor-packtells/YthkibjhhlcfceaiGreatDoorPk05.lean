/-
  Texts as lists of bytes.
-/
import Derived.Test.YthkibjhhlcfceaiGreatDoorPk04
import Derived.Test.YthkibjhhlcfceaiGreatDoorPk03
import Derived.Laws.Concat
import Derived.Laws.IdiomStrings
import Derived.RangeFuncNested
import Derived.RangeFuncBound
import Derived.RangeFuncCalls
import Derived.RangeFuncLeaves
import Derived.Shelf.Abstract
import Derived.Shelf.RegionOpen
import Derived.WalkKit
import Derived.OwnWalkIn
import Derived.TacticsInMore
import Derived.LoopNIn
import Derived.LoopIn
import Derived.Test.YthkibjhhlcfceaiGreatDoorPk00
import Derived.Test.YthkibjhhlcfceaiGreatDoorPk02
namespace Go.Proofs.YthkibjhhlcfceaiGreatDoor.Hrn
open Go.RowKit
open Go.Proofs.YthkibjhhlcfceaiGreatDoor.Tre Go.Proofs.YthkibjhhlcfceaiGreatDoor.Scl
set_option linter.unusedVariables false

/-- A text of these bytes; and the bytes of a text. -/
def u8s (l : List Int) : List UInt8 := l.map fun n => UInt8.ofNat n.toNat
def str (l : List Int) : ByteArray := ⟨(u8s l).toArray⟩
def byt (s : ByteArray) : List Int := s.data.toList.map fun b => (b.toNat : Int)

theorem u8s_length (l : List Int) : (u8s l).length = l.length := by simp [u8s]
theorem str_size (l : List Int) : (str l).size = l.length := by
  show (u8s l).toArray.size = _
  simp [u8s]
theorem str_toList (l : List Int) : (str l).toList = u8s l := ByteArray.toList_mk _
theorem str_append (l m : List Int) : str l ++ str m = str (l ++ m) := by
  unfold str u8s
  rw [ByteArray.mk_append_mk, List.map_append]
theorem byt_length (s : ByteArray) : (byt s).length = s.size := by
  show (s.data.toList.map _).length = s.data.size
  simp
theorem byt_byts (s : ByteArray) : Byts (byt s) := by
  intro b hb
  obtain ⟨c, _, rfl⟩ := List.mem_map.1 hb
  have := c.toNat_lt
  omega
theorem str_byt (s : ByteArray) : str (byt s) = s := by
  obtain ⟨⟨l⟩⟩ := s
  unfold str byt u8s
  simp only [List.map_map]
  have : (fun n : Int => UInt8.ofNat n.toNat) ∘ (fun b : UInt8 => (b.toNat : Int)) = id := by
    funext b
    simp
  rw [this]
  simp
theorem byt_str {l : List Int} (h : Byts l) : byt (str l) = l := by
  show ((u8s l).toArray.toList.map fun b => (b.toNat : Int)) = l
  unfold u8s
  simp only [List.map_map]
  conv => rhs; rw [← List.map_id l]
  refine List.map_congr_left fun n hn => ?_
  obtain ⟨h0, h1⟩ := h n hn
  simp
  omega
theorem str_inj {l m : List Int} (hl : Byts l) (hm : Byts m) (h : str l = str m) : l = m := by rw [← byt_str hl, h, byt_str hm]
theorem byt_at (s : ByteArray) {i : Nat} (h : i < s.size) : ((s[i]'h).toNat : Int) = at0 (byt s) i := by
  obtain ⟨⟨l⟩⟩ := s
  have h' : i < l.length := h
  show ((l[i]'h').toNat : Int) = (l.map fun b => (b.toNat : Int))[i]?.getD 0
  simp [h']
/-- Is a text the other? -/
theorem str_same (s : ByteArray) (l : List Int) (hl : Byts l) : (s.toList == (str l).toList) = decide (byt s = l) := by
  by_cases h : byt s = l
  · rw [← h, str_byt]; simp
  · rw [decide_eq_false h, beq_eq_false_iff_ne]
    intro e
    apply h
    have e2 : s = str l := by
      obtain ⟨⟨x⟩⟩ := s
      rw [str_toList] at e
      have e3 : x = u8s l := by rw [← e]; exact (ByteArray.toList_mk x).symm
      rw [e3]; rfl
    rw [e2, byt_str hl]
theorem str_eq (l : List Int) : ((str l).toList == (str l).toList) = true := by simp

/-- One text behind the other. -/
theorem run_cat (w : World) (l m : List Int) (h : l.length + m.length ≤ 1000000) : (Op.stringOp .add (str l) (str m)).run Tryz.prog w = .ok (.string (str (l ++ m))) w := by
  rw [run_string_add_sum w _ _ (by rw [str_size, str_size]; omega), str_append]

end Go.Proofs.YthkibjhhlcfceaiGreatDoor.Hrn

/-
  Texts as lists of bytes: those that are made of slices of bytes.
-/
namespace Go.Proofs.YthkibjhhlcfceaiGreatDoor.Hrn
open Go.RowKit
open Go.Proofs.YthkibjhhlcfceaiGreatDoor.Tre Go.Proofs.YthkibjhhlcfceaiGreatDoor.Scl
set_option linter.unusedVariables false

/-- A text of bytes that a slice holds. -/
theorem run_str (w : World) (a : Addr) (cap : Nat) (l : List Int) (hb : Byts l) (hc : ∀ j, j < l.length → w.cell? (a.add j) = some (.int .u8 (at0 l j))) :
    (convert 101 9 (.slice (some a) l.length cap)).run Tryz.prog w = .ok (.string (str l)) w := by
  have h := run_convert_bytes_back (P := Tryz.prog) w 101 9 5 a cap (u8s l) Tryz.underlying101 Tryz.underlying5 Tryz.underlying9 (fun j hj => by
    rw [u8s_length] at hj
    rw [hc j hj]
    have e : at0 l j = l[j] := by simp [at0, hj]
    obtain ⟨h0, h1⟩ := hb l[j] (List.getElem_mem hj)
    rw [e]
    simp [u8s]
    omega)
  rw [u8s_length] at h
  exact h
theorem run_str1 (w : World) (n : Int) (t : TypeId) (h0 : 0 ≤ n) (h1 : n < 256) :
    (convert 101 9 (.slice (some ⟨w.heap.size, 0, none⟩) 1 1)).run Tryz.prog (w.alloc (.cells #[.int .u8 n] t)) = .ok (.string (str [n])) (w.alloc (.cells #[.int .u8 n] t)) :=
  run_str (w.alloc (.cells #[.int .u8 n] t)) ⟨w.heap.size, 0, none⟩ 1 [n] (fun b hb => by simp at hb; omega) (fun j hj => by
    obtain rfl : j = 0 := by simpa using hj
    rw [addr_plain, World.cell?_alloc_at _ _ _ _ rfl]; rfl)
theorem run_str3 (w : World) (x y z : Int) (t : TypeId) (hb : Byts [x, y, z]) :
    (convert 101 9 (.slice (some ⟨w.heap.size, 0, none⟩) 3 3)).run Tryz.prog (w.alloc (.cells #[.int .u8 x, .int .u8 y, .int .u8 z] t)) = .ok (.string (str [x, y, z])) (w.alloc (.cells #[.int .u8 x, .int .u8 y, .int .u8 z] t)) :=
  run_str (w.alloc (.cells #[.int .u8 x, .int .u8 y, .int .u8 z] t)) ⟨w.heap.size, 0, none⟩ 3 [x, y, z] hb (fun j hj => by
    have hj' : j = 0 ∨ j = 1 ∨ j = 2 := by simp at hj; omega
    rcases hj' with rfl | rfl | rfl <;> (rw [addr_plain, World.cell?_alloc_at _ _ _ _ rfl]; rfl))
end Go.Proofs.YthkibjhhlcfceaiGreatDoor.Hrn

/-
  Words for a range over a function: what a round keeps, rows below a mark, boxes beside slices of this call's own.
-/
namespace Go.Proofs.YthkibjhhlcfceaiGreatDoor.Itr
open Go.RowKit Go.Shelf
open Go.Proofs.YthkibjhhlcfceaiGreatDoor.Tre
set_option linter.unusedVariables false

/-- What a round must keep: all below n₀, and the box. -/
def Kp (n₀ Bs : Nat) (W W' : World) : Prop := Below n₀ W W' ∧ W'.heap[Bs]? = W.heap[Bs]?
theorem Kp.refl (n₀ Bs : Nat) (W : World) : Kp n₀ Bs W W := ⟨Below.refl _ _, rfl⟩
theorem Kp.trans {n₀ Bs : Nat} {A B C : World} (h : Kp n₀ Bs A B) (k : Kp n₀ Bs B C) : Kp n₀ Bs A C := ⟨h.1.trans k.1, k.2.trans h.2⟩
theorem Kp.cell {n₀ Bs : Nat} {A B : World} (h : Kp n₀ Bs A B) {v : Value} (hc : A.cell? ⟨Bs, 0, none⟩ = some v) : B.cell? ⟨Bs, 0, none⟩ = some v :=
  (World.cell?_of_block (a := ⟨Bs, 0, none⟩) h.2).trans hc

/-- A row that lies below n₀. -/
def RowB (n₀ : Nat) (w : World) (a : Option Addr) (l : List Int) : Prop :=
  l = [] ∨ ∃ b off, a = some ⟨b, off, none⟩ ∧ b < n₀ ∧ ∀ j, j < l.length → w.cell? ⟨b, off + j, none⟩ = some (.int .i64 (l.getD j 0))
theorem RowB.at {n₀ : Nat} {w : World} {a : Option Addr} {l : List Int} (h : RowB n₀ w a l) (hk : 0 < l.length) :
    ∃ b off, a = some ⟨b, off, none⟩ ∧ b < n₀ ∧ ∀ j, j < l.length → w.cell? ⟨b, off + j, none⟩ = some (.int .i64 (l.getD j 0)) := by
  rcases h with h | h
  · subst h; exact absurd hk (by simp)
  · exact h
theorem RowB.below {n₀ : Nat} {w w' : World} {a : Option Addr} {l : List Int} (h : RowB n₀ w a l) (hb : Below n₀ w w') : RowB n₀ w' a l := by
  rcases h with h | ⟨b, off, ha, hlt, hc⟩
  · exact Or.inl h
  · exact Or.inr ⟨b, off, ha, hlt, fun j hj => (hb.cell (p := ⟨b, off + j, none⟩) hlt).trans (hc j hj)⟩
theorem rowB_of {w : World} {a : Option Addr} {l : List Int} (h : Row w a l) : RowB w.heap.size w a l := h

theorem drew_by (w : World) : w.grownBy w.drew none := ⟨rfl, rfl, rfl, Nat.le_refl _, fun _ _ _ => rfl⟩
theorem drewN_by (w : World) (n : Nat) : w.grownBy (w.drewN n) none := ⟨rfl, rfl, rfl, Nat.le_refl _, fun _ _ _ => rfl⟩

theorem kp_b {w : World} {n₀ Bs : Nat} (hn : n₀ ≤ w.heap.size) (hs : Bs < w.heap.size) : ∀ (W : World) (l : Nat) (o o' : Obj), w.heap.size ≤ l → W.heap[l]? = some o → o.isCells = false → o.isWalk = false → Kp n₀ Bs W (W.putObj l o') :=
  fun W l o o' hl _ _ _ => ⟨⟨rfl, rfl, rfl, by simp, fun k hk => World.putObj_heap_other (by omega)⟩, World.putObj_heap_other (by omega)⟩

theorem boxed_keeps {X Y : World} {row : Option Nat} {B : Nat} {t : TypeId} {v : Value} (h : Boxed X B t v) (hg : X.grownBy Y row) (hrow : ∀ r, row = some r → ∃ o : Obj, X.heap[r]? = some o ∧ o.isCells = false) : Boxed Y B t v := by
  refine h.kept hg fun e' => ?_
  obtain ⟨o, ho, hc⟩ := hrow B e'.symm
  rw [show X.heap[B]? = _ from h] at ho; cases ho; cases hc
theorem row_keeps {e : TypeId} {X Y : World} {row : Option Nat} {n₀ n : Nat} {v : Value} {xs : List Value} (h : X.ownsRow n₀ e 1 v n xs) (hg : X.grownBy Y row) (hrow : ∀ r, row = some r → ∃ o : Obj, X.heap[r]? = some o ∧ o.isCells = false) : Y.ownsRow n₀ e 1 v n xs := by
  refine World.ownsRow.kept h hg ?_
  rcases h.2 with ⟨rfl, _⟩ | ⟨g, cap, cur, rfl, _, hgb, _⟩
  · exact .inl rfl
  · refine .inr fun e' => ?_
    obtain ⟨o, ho, hc⟩ := hrow g (by simpa [Value.ownBlock] using e'.symm)
    rw [hgb] at ho; cases ho; cases hc
theorem row_others {e : TypeId} {W w1 : World} {n₀ n : Nat} {v : Value} {xs : List Value} (h : W.ownsRow n₀ e 1 v n xs) (hg : W.grownBy w1 v.ownBlock) : KeepsOthers W w1 := by
  refine KeepsOthers.of_grownBy hg fun j o ej hj => ?_
  rcases h.2 with ⟨rfl, _⟩ | ⟨g, cap, cur, rfl, _, hgb, _⟩
  · simp [Value.ownBlock] at ej
  · obtain rfl : g = j := by simpa [Value.ownBlock] using ej
    rw [hgb] at hj; cases hj; rfl
theorem row_box {e : TypeId} {W : World} {n₀ n B : Nat} {t : TypeId} {v u : Value} {xs : List Value} (h : W.ownsRow n₀ e 1 v n xs) (hb : Boxed W B t u) (ht : t ≠ e) (u' : Value) : (W.setCell ⟨B, 0, none⟩ u').ownsRow n₀ e 1 v n xs :=
  World.ownsRow.kept h (grownBy_setCell' W B u') (Or.inr (hb.not_row ht h).symm)

end Go.Proofs.YthkibjhhlcfceaiGreatDoor.Itr
