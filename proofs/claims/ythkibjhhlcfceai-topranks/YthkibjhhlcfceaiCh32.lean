/-
  horn.Most: by its contracts.
-/
import Derived.Test.YthkibjhhlcfceaiCh31
import Derived.Test.YthkibjhhlcfceaiCh27
import Derived.Test.YthkibjhhlcfceaiCh04
import Derived.Laws.Concat
import Derived.Laws.IdiomStrings
namespace Go.Proofs.Ythkibjhhlcfceai.Hrn
open Go.RowKit
open Go.Proofs.Ythkibjhhlcfceai.Tre Go.Proofs.Ythkibjhhlcfceai.Scl
set_option linter.unusedVariables false

theorem most_no (a : Option Addr) (cap : Nat) (f : List Int) (b : Option Addr) (capb : Nat) (l : List Int) (E : Int) (w : World) (hrf : Row w a f) (hm : f.length ≤ cap) (hm9 : cap ≤ 9223372036854775807) (hrl : Row w b l) (zl : l.length ≤ 9223372036854775807) (hE : Hid (RowF f l E)) (hne : Hid (E ≠ 0)) :
    Calls Try.prog 9 #[.slice a f.length cap, .slice b l.length capb] w fun e w' => e = .returned (.tuple #[.int .i64 0, .iface 52 (.int .i64 E)]) ∧ Below w.heap.size w w' := by
  have hck := bits_no a cap f b capb l E w hrf hm hm9 hrl zl hE hne
  obtain ⟨N, hN⟩ : ∃ N, l.length = N := ⟨_, rfl⟩
  obtain ⟨M, hM⟩ : ∃ M, f.length = M := ⟨_, rfl⟩
  rw [hN, hM] at hck ⊢
  clear hN hM hE hne hm hm9 zl
  go_enter Try.func9, Try.ntmps9
  go_wp2_with fail
  refine hck.mono ?_
  rintro e w1 ⟨rfl, hb1⟩
  go_wp2
  go_ret2
  exact ⟨rfl, hb1⟩

set_option maxRecDepth 100000 in
set_option maxHeartbeats 4000000 in
theorem most_ok (a : Option Addr) (cap : Nat) (f : List Int) (b : Option Addr) (capb : Nat) (l : List Int) (w : World) (hrf : Row w a f) (hm : f.length ≤ cap) (hm9 : cap ≤ 9223372036854775807) (hrl : Row w b l) (hE : Hid (RowF f l 0)) :
    Calls Try.prog 9 #[.slice a f.length cap, .slice b l.length capb] w fun e w' => e = .returned (.tuple #[.int .i64 ((4 + need f l / 8 : Nat) : Int), .nilIface]) ∧ Below w.heap.size w w' := by
  have hck := bits_ok a cap f b capb l w hrf hm hm9 hrl hE
  have h60 := (unhide hE).zero.2.1
  have HU := need_le f l
  obtain ⟨n, hU⟩ : ∃ n, need f l = n := ⟨_, rfl⟩
  rw [hU] at HU hck ⊢
  obtain ⟨R, hR⟩ : ∃ R : Int, ((4 + n / 8 : Nat) : Int) = R := ⟨_, rfl⟩
  have HR0 := hide hR
  rw [hR]
  obtain ⟨N, hN⟩ : ∃ N, l.length = N := ⟨_, rfl⟩
  obtain ⟨M, hM⟩ : ∃ M, f.length = M := ⟨_, rfl⟩
  rw [hM] at hck ⊢
  rw [hN] at hck h60 HU ⊢
  clear hN hM hU hR hE hm hm9 hrf hrl
  have t1 : Int.tdiv (n : Int) 8 = ((n / 8 : Nat) : Int) := rfl
  obtain ⟨Q, hQ⟩ : ∃ Q, n / 8 = Q := ⟨_, rfl⟩
  rw [hQ] at t1
  have hQ9 : Q ≤ n := by omega
  have w1' : IntKind.i64.wrap (3 + (Q : Int)) = 3 + (Q : Int) := IntWalk.i64_in _ (by omega)
  have w2' : IntKind.i64.wrap (3 + (Q : Int) + 1) = 3 + (Q : Int) + 1 := IntWalk.i64_in _ (by omega)
  have HR : Hid (3 + (Q : Int) + 1 = R) := hide (by have h := unhide HR0; omega)
  have hn9 : n ≤ 480 := by omega
  clear hQ HU HR0
  go_enter Try.func9, Try.ntmps9
  go_wp2_with fail
  refine hck.mono ?_
  clear hck
  rintro e w1 ⟨rfl, hb1⟩
  go_wp2
  go_ret2
  exact ⟨by first | rfl | (rw [← unhide HR]; rfl), hb1⟩

end Go.Proofs.Ythkibjhhlcfceai.Hrn

/-
  Texts as lists of bytes.
-/
namespace Go.Proofs.Ythkibjhhlcfceai.Hrn
open Go.RowKit
open Go.Proofs.Ythkibjhhlcfceai.Tre Go.Proofs.Ythkibjhhlcfceai.Scl
set_option linter.unusedVariables false

/-- A text of these bytes; and the bytes of a text. -/
def u8s (l : List Int) : List UInt8 := l.map fun n => UInt8.ofNat n.toNat
def str (l : List Int) : ByteArray := ⟨(u8s l).toArray⟩
def byt (s : ByteArray) : List Int := s.data.toList.map fun b => (b.toNat : Int)

theorem u8s_length (l : List Int) : (u8s l).length = l.length := by simp [u8s]
theorem str_size (l : List Int) : (str l).size = l.length := by
  show (u8s l).toArray.size = _
  simp [u8s]
theorem str_toList (l : List Int) : (str l).toList = u8s l := ByteArray.toList_mk _
theorem str_append (l m : List Int) : str l ++ str m = str (l ++ m) := by
  unfold str u8s
  rw [ByteArray.mk_append_mk, List.map_append]
theorem byt_length (s : ByteArray) : (byt s).length = s.size := by
  show (s.data.toList.map _).length = s.data.size
  simp
theorem byt_byts (s : ByteArray) : Byts (byt s) := by
  intro b hb
  obtain ⟨c, _, rfl⟩ := List.mem_map.1 hb
  have := c.toNat_lt
  omega
theorem str_byt (s : ByteArray) : str (byt s) = s := by
  obtain ⟨⟨l⟩⟩ := s
  unfold str byt u8s
  simp only [List.map_map]
  have : (fun n : Int => UInt8.ofNat n.toNat) ∘ (fun b : UInt8 => (b.toNat : Int)) = id := by
    funext b
    simp
  rw [this]
  simp
theorem byt_str {l : List Int} (h : Byts l) : byt (str l) = l := by
  show ((u8s l).toArray.toList.map fun b => (b.toNat : Int)) = l
  unfold u8s
  simp only [List.map_map]
  conv => rhs; rw [← List.map_id l]
  refine List.map_congr_left fun n hn => ?_
  obtain ⟨h0, h1⟩ := h n hn
  simp
  omega
theorem str_inj {l m : List Int} (hl : Byts l) (hm : Byts m) (h : str l = str m) : l = m := by rw [← byt_str hl, h, byt_str hm]
theorem byt_at (s : ByteArray) {i : Nat} (h : i < s.size) : ((s[i]'h).toNat : Int) = at0 (byt s) i := by
  obtain ⟨⟨l⟩⟩ := s
  have h' : i < l.length := h
  show ((l[i]'h').toNat : Int) = (l.map fun b => (b.toNat : Int))[i]?.getD 0
  simp [h']
/-- Is a text the other? -/
theorem str_same (s : ByteArray) (l : List Int) (hl : Byts l) : (s.toList == (str l).toList) = decide (byt s = l) := by
  by_cases h : byt s = l
  · rw [← h, str_byt]; simp
  · rw [decide_eq_false h, beq_eq_false_iff_ne]
    intro e
    apply h
    have e2 : s = str l := by
      obtain ⟨⟨x⟩⟩ := s
      rw [str_toList] at e
      have e3 : x = u8s l := by rw [← e]; exact (ByteArray.toList_mk x).symm
      rw [e3]; rfl
    rw [e2, byt_str hl]
theorem str_eq (l : List Int) : ((str l).toList == (str l).toList) = true := by simp

/-- One text behind the other. -/
theorem run_cat (w : World) (l m : List Int) (h : l.length + m.length ≤ 1000000) : (Op.stringOp .add (str l) (str m)).run Try.prog w = .ok (.string (str (l ++ m))) w := by
  rw [run_string_add_sum w _ _ (by rw [str_size, str_size]; omega), str_append]

end Go.Proofs.Ythkibjhhlcfceai.Hrn

/-
  Texts as lists of bytes: those that are made of slices of bytes.
-/
namespace Go.Proofs.Ythkibjhhlcfceai.Hrn
open Go.RowKit
open Go.Proofs.Ythkibjhhlcfceai.Tre Go.Proofs.Ythkibjhhlcfceai.Scl
set_option linter.unusedVariables false

/-- A text of bytes that a slice holds. -/
theorem run_str (w : World) (a : Addr) (cap : Nat) (l : List Int) (hb : Byts l) (hc : ∀ j, j < l.length → w.cell? (a.add j) = some (.int .u8 (at0 l j))) :
    (convert 58 9 (.slice (some a) l.length cap)).run Try.prog w = .ok (.string (str l)) w := by
  have h := run_convert_bytes_back (P := Try.prog) w 58 9 5 a cap (u8s l) Try.underlying58 Try.underlying5 Try.underlying9 (fun j hj => by
    rw [u8s_length] at hj
    rw [hc j hj]
    have e : at0 l j = l[j] := by simp [at0, hj]
    obtain ⟨h0, h1⟩ := hb l[j] (List.getElem_mem hj)
    rw [e]
    simp [u8s]
    omega)
  rw [u8s_length] at h
  exact h
theorem run_str1 (w : World) (n : Int) (t : TypeId) (h0 : 0 ≤ n) (h1 : n < 256) :
    (convert 58 9 (.slice (some ⟨w.heap.size, 0, none⟩) 1 1)).run Try.prog (w.alloc (.cells #[.int .u8 n] t)) = .ok (.string (str [n])) (w.alloc (.cells #[.int .u8 n] t)) :=
  run_str (w.alloc (.cells #[.int .u8 n] t)) ⟨w.heap.size, 0, none⟩ 1 [n] (fun b hb => by simp at hb; omega) (fun j hj => by
    obtain rfl : j = 0 := by simpa using hj
    rw [addr_plain, World.cell?_alloc_at _ _ _ _ rfl]; rfl)
theorem run_str3 (w : World) (x y z : Int) (t : TypeId) (hb : Byts [x, y, z]) :
    (convert 58 9 (.slice (some ⟨w.heap.size, 0, none⟩) 3 3)).run Try.prog (w.alloc (.cells #[.int .u8 x, .int .u8 y, .int .u8 z] t)) = .ok (.string (str [x, y, z])) (w.alloc (.cells #[.int .u8 x, .int .u8 y, .int .u8 z] t)) :=
  run_str (w.alloc (.cells #[.int .u8 x, .int .u8 y, .int .u8 z] t)) ⟨w.heap.size, 0, none⟩ 3 [x, y, z] hb (fun j hj => by
    have hj' : j = 0 ∨ j = 1 ∨ j = 2 := by simp at hj; omega
    rcases hj' with rfl | rfl | rfl <;> (rw [addr_plain, World.cell?_alloc_at _ _ _ _ rfl]; rfl))
end Go.Proofs.Ythkibjhhlcfceai.Hrn
