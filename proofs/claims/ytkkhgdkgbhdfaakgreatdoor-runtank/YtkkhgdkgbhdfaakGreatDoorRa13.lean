/-
  Texts as lists of bytes.
-/
import Derived.Test.YtkkhgdkgbhdfaakGreatDoorRa00
import Derived.Test.YtkkhgdkgbhdfaakGreatDoorRa06
import Derived.Laws.Concat
namespace Go.Proofs.YtkkhgdkgbhdfaakGreatDoor.Hrn
open Go.RowKit
open Go.Proofs.YtkkhgdkgbhdfaakGreatDoor.Tre Go.Proofs.YtkkhgdkgbhdfaakGreatDoor.Scl
set_option linter.unusedVariables false

/-- A text of these bytes; and the bytes of a text. -/
def u8s (l : List Int) : List UInt8 := l.map fun n => UInt8.ofNat n.toNat
def str (l : List Int) : ByteArray := ⟨(u8s l).toArray⟩
def byt (s : ByteArray) : List Int := s.data.toList.map fun b => (b.toNat : Int)

theorem u8s_length (l : List Int) : (u8s l).length = l.length := by simp [u8s]
theorem str_size (l : List Int) : (str l).size = l.length := by
  show (u8s l).toArray.size = _
  simp [u8s]
theorem str_toList (l : List Int) : (str l).toList = u8s l := ByteArray.toList_mk _
theorem str_append (l m : List Int) : str l ++ str m = str (l ++ m) := by
  unfold str u8s
  rw [ByteArray.mk_append_mk, List.map_append]
theorem byt_length (s : ByteArray) : (byt s).length = s.size := by
  show (s.data.toList.map _).length = s.data.size
  simp
theorem byt_byts (s : ByteArray) : Byts (byt s) := by
  intro b hb
  obtain ⟨c, _, rfl⟩ := List.mem_map.1 hb
  have := c.toNat_lt
  omega
theorem str_byt (s : ByteArray) : str (byt s) = s := by
  obtain ⟨⟨l⟩⟩ := s
  unfold str byt u8s
  simp only [List.map_map]
  have : (fun n : Int => UInt8.ofNat n.toNat) ∘ (fun b : UInt8 => (b.toNat : Int)) = id := by
    funext b
    simp
  rw [this]
  simp
theorem byt_str {l : List Int} (h : Byts l) : byt (str l) = l := by
  show ((u8s l).toArray.toList.map fun b => (b.toNat : Int)) = l
  unfold u8s
  simp only [List.map_map]
  conv => rhs; rw [← List.map_id l]
  refine List.map_congr_left fun n hn => ?_
  obtain ⟨h0, h1⟩ := h n hn
  simp
  omega
theorem str_inj {l m : List Int} (hl : Byts l) (hm : Byts m) (h : str l = str m) : l = m := by rw [← byt_str hl, h, byt_str hm]
theorem byt_at (s : ByteArray) {i : Nat} (h : i < s.size) : ((s[i]'h).toNat : Int) = at0 (byt s) i := by
  obtain ⟨⟨l⟩⟩ := s
  have h' : i < l.length := h
  show ((l[i]'h').toNat : Int) = (l.map fun b => (b.toNat : Int))[i]?.getD 0
  simp [h']
/-- Is a text the other? -/
theorem str_same (s : ByteArray) (l : List Int) (hl : Byts l) : (s.toList == (str l).toList) = decide (byt s = l) := by
  by_cases h : byt s = l
  · rw [← h, str_byt]; simp
  · rw [decide_eq_false h, beq_eq_false_iff_ne]
    intro e
    apply h
    have e2 : s = str l := by
      obtain ⟨⟨x⟩⟩ := s
      rw [str_toList] at e
      have e3 : x = u8s l := by rw [← e]; exact (ByteArray.toList_mk x).symm
      rw [e3]; rfl
    rw [e2, byt_str hl]
theorem str_eq (l : List Int) : ((str l).toList == (str l).toList) = true := by simp

/-- One text behind the other. -/
theorem run_cat (w : World) (l m : List Int) (h : l.length + m.length ≤ 1000000) : (Op.stringOp .add (str l) (str m)).run Tryz.prog w = .ok (.string (str (l ++ m))) w := by
  rw [run_string_add_sum w _ _ (by rw [str_size, str_size]; omega), str_append]

end Go.Proofs.YtkkhgdkgbhdfaakGreatDoor.Hrn
