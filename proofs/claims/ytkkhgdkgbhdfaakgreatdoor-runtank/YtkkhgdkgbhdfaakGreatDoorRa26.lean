/-
  run.want.fits, (*run.desk).read: by their contracts.
-/
import Derived.Test.YtkkhgdkgbhdfaakGreatDoorRa25
import Derived.Test.YtkkhgdkgbhdfaakGreatDoorRa19
import Derived.Test.YtkkhgdkgbhdfaakGreatDoorRa17
import Derived.Test.YtkkhgdkgbhdfaakGreatDoorRa06
import Derived.BigRegion
namespace Go.Proofs.YtkkhgdkgbhdfaakGreatDoor.Lb
open Go.RowKit
open Go.Proofs.YtkkhgdkgbhdfaakGreatDoor.Tre Go.Proofs.YtkkhgdkgbhdfaakGreatDoor.Hrn Go.Proofs.YtkkhgdkgbhdfaakGreatDoor.Txt Go.Proofs.YtkkhgdkgbhdfaakGreatDoor.Ses
set_option linter.unusedVariables false

/-- The desk of a text: its tank, and what the words want. -/
structure Desk (W : World) (D M : Nat) (H : Int) : Prop where
  blk : W.heap[D]? = some (.cells #[.int .i64 100, .int .i64 20, .int .i64 H, .map (some M)] 112 (0, 0))
  map : W.heap[M]? = some wordsM
theorem Desk.lt {W : World} {D M : Nat} {H : Int} (h : Desk W D M H) : D < W.heap.size := (Array.getElem?_eq_some_iff.1 h.blk).1
theorem Desk.mlt {W : World} {D M : Nat} {H : Int} (h : Desk W D M H) : M < W.heap.size := (Array.getElem?_eq_some_iff.1 h.map).1
theorem Desk.ne {W : World} {D M : Nat} {H : Int} (h : Desk W D M H) : M ≠ D := fun e => by
  have h1 := h.map
  rw [e, h.blk] at h1
  simp [wordsM] at h1
theorem Desk.below {W W' : World} {D M : Nat} {H : Int} (h : Desk W D M H) (hb : Below W.heap.size W W') : Desk W' D M H :=
  ⟨(hb.block D h.lt).trans h.blk, (hb.block M h.mlt).trans h.map⟩
theorem Desk.c0 {W : World} {D M : Nat} {H : Int} (h : Desk W D M H) : W.cell? ⟨D, 0, none⟩ = some (.int .i64 100) := by simp [World.cell?, h.blk]
theorem Desk.c1 {W : World} {D M : Nat} {H : Int} (h : Desk W D M H) : W.cell? ⟨D, 1, none⟩ = some (.int .i64 20) := by simp [World.cell?, h.blk]
theorem Desk.c2 {W : World} {D M : Nat} {H : Int} (h : Desk W D M H) : W.cell? ⟨D, 2, none⟩ = some (.int .i64 H) := by simp [World.cell?, h.blk]
theorem Desk.c3 {W : World} {D M : Nat} {H : Int} (h : Desk W D M H) : W.cell? ⟨D, 3, none⟩ = some (.map (some M)) := by simp [World.cell?, h.blk]
theorem Desk.fz {W : World} {D M : Nat} {H : Int} (h : Desk W D M H) (j : Nat) : W.frozen? ⟨D, j, none⟩ = false := by simp [World.frozen?, h.blk]

theorem want_fits (f : Int) (r : Bool) (m : Int) (w : World) :
    Calls Tryz.prog 93 #[.agg #[.int .i64 f, .bool r], .int .i64 m] w fun e w' => e = .returned (.bool (if r = true then decide (f < m) else decide (m = f))) ∧ Below w.heap.size w w' := by
  have hb : Below w.heap.size w (w.alloc (.cells #[.int .i64 f, .bool r] 149)) := (Below.refl _ _).alloc (Nat.le_refl _) _
  cases r
  · go_enter Tryz.func93, Tryz.ntmps93
    go_wp2
    go_ret
    refine ⟨?_, hb⟩
    rfl
  · go_enter Tryz.func93, Tryz.ntmps93
    go_wp2
    go_ret
    exact ⟨rfl, hb⟩

theorem size_strs (w : World) : (sizeOf (Tryz.prog.elem 23)).run Tryz.prog w = .ok 1 w := by
  have h : Tryz.prog.elem 23 = 9 := by kernel_rfl
  obtain ⟨i, hi, hz0, hz1, hz2⟩ := info_parts info_str
  rw [h]
  simp [sizeOf, typeInfo, hi, hz1]
set_option maxRecDepth 100000 in
theorem rest_strs (b m : Nat) (hm : m ≤ 4000) : ∃ A, (∀ W, (Instr.slice 23 (.slice (some ⟨b, 0, none⟩) (m + 1) (m + 1)) (some (.int .i64 1)) none none).run Tryz.prog W = .ok (.slice A m m) W) ∧ (0 < m → A = some ⟨b, 1, none⟩) := by
  refine ⟨if m + 1 = 1 then some ⟨b, 0, none⟩ else (some ⟨b, 0, none⟩ : Option Addr).map (·.add (1 * 1)), fun W => ?_, ?_⟩
  · rw [run_slice_l W 23 _ (m + 1) (m + 1) Tryz.underlying23 .i64 1 (by omega) (by omega), size_strs]
    simp [Result.andThen, sliced]
  · intro h
    rw [if_neg (by omega), Option.map_some, addr_plain]

/-- What a line is read as. -/
def ReadSays (l : List Int) (w : World) (e : Ending) (w' : World) : Prop :=
  ((∃ n v, Reads l n ∧ e = .returned (.tuple #[.string (str (hd l)), v, .nilIface]) ∧ Has w' w.heap.size v n) ∨ ((∀ n, ¬ Reads l n) ∧ e = .returned (.tuple #[.string { data := #[] }, .slice none 0 0, badV]))) ∧ Below w.heap.size w w'

set_option maxRecDepth 100000 in
set_option maxHeartbeats 8000000 in
theorem read_kind {l : List Int} (hb : Byts l) (hl : l.length ≤ 3000) (D M : Nat) (H : Int) (w : World) (hL : Lib20 w) (hg : 9 ≤ w.heap.size) (hD : Desk w D M H) (F : Int) (R : Bool) (hF : fst20 (kind (hd l)) = F) (hR : more (kind (hd l)) = R) (h0 : kind (hd l) = 0) :
    Calls Tryz.prog 68 #[.pointer (some ⟨D, 0, none⟩), .string (str l)] w fun e w' => ReadSays l w e w' := by
  have HNO : Hid ((∀ n, ¬ Reads l n) → ∀ w', Below w.heap.size w w' → ReadSays l w (.returned (.tuple #[.string { data := #[] }, .slice none 0 0, .iface 154 (.agg #[.int .i64 2])])) w') := hide (fun h w' hb => ⟨Or.inr ⟨h, rfl⟩, hb⟩)
  have cS := split20 hb hl w hL
  have hbh : Byts (hd l) := by
    have := word_byts hb (j := 0) (List.length_pos_iff.2 (cut_ne 32 l))
    rw [cut_head] at this
    exact this
  have LK : Hid (∀ (W : World), W.heap[M]? = some wordsM → (Instr.lookup 109 (.map (some M)) (.string (str (hd l))) true).run Tryz.prog W = .ok (.tuple #[.agg #[.int .i64 F, .bool R], .bool false]) W) := hide (fun W hm => by
    rw [look20 hbh W M hm, ← hF, ← hR]
    simp [h0])
  obtain ⟨m, hm⟩ : ∃ m, (tlw l).length = m := ⟨_, rfl⟩
  have hN : (cut 32 l).length = m + 1 := by have := tlw_length l; omega
  have hcl := cut_length 32 l
  have HX0 : Hid ((cut 32 l).getD 0 [] = hd l) := hide (cut_head l)
  have HZ := hide (none_kind h0)
  clear h0 hF hR
  rw [hN] at cS hcl
  go_enter Tryz.func68, Tryz.ntmps68
  go_wp2_with fail
  refine cS.mono ?_
  rintro e w1 ⟨rfl, hb1, hlt1, hc1⟩
  have hD1 := hD.below hb1
  have d3 := hD1.c3
  have c0 : w1.cell? ⟨w.heap.size, 0, none⟩ = some (.string (str (hd l))) := by
    have := unhide hc1 0 (by omega)
    rw [unhide HX0] at this
    exact this
  have lk1 := unhide LK w1.drew hD1.map
  have lk2 := unhide LK (w1.alloc (.cells #[.int .i64 0, .bool false] 149)).drew (by rw [show (w1.alloc (.cells #[.int .i64 0, .bool false] 149)).drew.heap = (w1.alloc (.cells #[.int .i64 0, .bool false] 149)).heap from rfl, Below.heap_alloc _ _ M hD1.mlt]; exact hD1.map)
  have hba : Below w1.heap.size w1 (w1.alloc (.cells #[.int .i64 0, .bool false] 149)) := (Below.refl _ _).alloc (Nat.le_refl _) _
  have d3a := (hD1.below hba).c3
  have c0a : (w1.alloc (.cells #[.int .i64 0, .bool false] 149)).cell? ⟨w.heap.size, 0, none⟩ = some (.string (str (hd l))) := (hba.cell (p := ⟨w.heap.size, 0, none⟩) hlt1).trans c0
  have hsz1 := hb1.size
  clear cS LK hba hD1 hD hbh
  obtain ⟨X, hX⟩ : ∃ X, str (hd l) = X := ⟨_, rfl⟩
  rw [hX] at lk1 lk2 c0 c0a
  have HX := hide hX
  clear hX
  go_wp2
  go_region
  all_goals (
    obtain ⟨W2, hW2⟩ : ∃ W2, (w1.alloc (.cells #[.int .i64 F, .bool R] 149)).drew = W2 := ⟨_, rfl⟩
    have hb2 : Below w1.heap.size w1 W2 := by rw [← hW2]; exact (((Below.refl _ _).alloc (Nat.le_refl _) _).drew)
    have f0 : W2.cell? ⟨w1.heap.size, 0, none⟩ = some (.int .i64 F) := by rw [← hW2]; show (w1.alloc _).cell? _ = _; simp
    have f1 : W2.cell? ⟨w1.heap.size, 1, none⟩ = some (.bool R) := by rw [← hW2]; show (w1.alloc _).cell? _ = _; simp
    have hl2 : w1.heap.size < W2.heap.size := cell_lt f0
    have hB2 : Below w.heap.size w W2 := hb1.trans (hb2.mono hsz1)
    rw [hW2]
    clear hW2 lk1 lk2 d3 d3a c0 c0a
    go_wp2
    go_ret3
    exact unhide HNO (unhide HZ) _ hB2)

set_option maxRecDepth 100000 in
set_option maxHeartbeats 8000000 in
theorem read_many {l : List Int} (hb : Byts l) (hl : l.length ≤ 3000) (D M : Nat) (H : Int) (w : World) (hL : Lib20 w) (hg : 9 ≤ w.heap.size) (hD : Desk w D M H) (F : Int) (R : Bool) (hF : fst20 (kind (hd l)) = F) (hR : more (kind (hd l)) = R) (h0 : kind (hd l) ≠ 0) (hf : fits20 (kind (hd l)) (tlw l).length = false) :
    Calls Tryz.prog 68 #[.pointer (some ⟨D, 0, none⟩), .string (str l)] w fun e w' => ReadSays l w e w' := by
  have HNO : Hid ((∀ n, ¬ Reads l n) → ∀ w', Below w.heap.size w w' → ReadSays l w (.returned (.tuple #[.string { data := #[] }, .slice none 0 0, .iface 154 (.agg #[.int .i64 2])])) w') := hide (fun h w' hb => ⟨Or.inr ⟨h, rfl⟩, hb⟩)
  have cS := split20 hb hl w hL
  have hbh : Byts (hd l) := by
    have := word_byts hb (j := 0) (List.length_pos_iff.2 (cut_ne 32 l))
    rw [cut_head] at this
    exact this
  have LK : Hid (∀ (W : World), W.heap[M]? = some wordsM → (Instr.lookup 109 (.map (some M)) (.string (str (hd l))) true).run Tryz.prog W = .ok (.tuple #[.agg #[.int .i64 F, .bool R], .bool true]) W) := hide (fun W hm => by
    rw [look20 hbh W M hm, ← hF, ← hR]
    simp [h0])
  obtain ⟨m, hm⟩ : ∃ m, (tlw l).length = m := ⟨_, rfl⟩
  have hN : (cut 32 l).length = m + 1 := by have := tlw_length l; omega
  have hcl := cut_length 32 l
  have HX0 : Hid ((cut 32 l).getD 0 [] = hd l) := hide (cut_head l)
  have HZ := hide (none_fits h0 hf)
  rw [hm] at hf
  have HFT : Hid (∀ W, Calls Tryz.prog 93 #[.agg #[.int .i64 F, .bool R], .int .i64 (m : Int)] W fun e w' => e = .returned (.bool false) ∧ Below W.heap.size W w') := hide (fun W => by
    have := want_fits F R m W
    rw [← hF, ← hR] at this ⊢
    unfold fits20 at hf
    rw [hf] at this
    exact this)
  have hw1 : IntKind.i64.wrap (m : Int) = m := IntWalk.i64_in _ (by omega)
  clear h0 hF hR hf
  rw [hN] at cS hcl
  go_enter Tryz.func68, Tryz.ntmps68
  go_wp2_with fail
  refine cS.mono ?_
  rintro e w1 ⟨rfl, hb1, hlt1, hc1⟩
  have hD1 := hD.below hb1
  have d3 := hD1.c3
  have c0 : w1.cell? ⟨w.heap.size, 0, none⟩ = some (.string (str (hd l))) := by
    have := unhide hc1 0 (by omega)
    rw [unhide HX0] at this
    exact this
  have lk1 := unhide LK w1.drew hD1.map
  have lk2 := unhide LK (w1.alloc (.cells #[.int .i64 0, .bool false] 149)).drew (by rw [show (w1.alloc (.cells #[.int .i64 0, .bool false] 149)).drew.heap = (w1.alloc (.cells #[.int .i64 0, .bool false] 149)).heap from rfl, Below.heap_alloc _ _ M hD1.mlt]; exact hD1.map)
  have hba : Below w1.heap.size w1 (w1.alloc (.cells #[.int .i64 0, .bool false] 149)) := (Below.refl _ _).alloc (Nat.le_refl _) _
  have d3a := (hD1.below hba).c3
  have c0a : (w1.alloc (.cells #[.int .i64 0, .bool false] 149)).cell? ⟨w.heap.size, 0, none⟩ = some (.string (str (hd l))) := (hba.cell (p := ⟨w.heap.size, 0, none⟩) hlt1).trans c0
  have hsz1 := hb1.size
  clear cS LK hba hD1 hD hbh
  obtain ⟨X, hX⟩ : ∃ X, str (hd l) = X := ⟨_, rfl⟩
  rw [hX] at lk1 lk2 c0 c0a
  have HX := hide hX
  clear hX
  go_wp2
  go_region
  all_goals (
    obtain ⟨W2, hW2⟩ : ∃ W2, (w1.alloc (.cells #[.int .i64 F, .bool R] 149)).drew = W2 := ⟨_, rfl⟩
    have hb2 : Below w1.heap.size w1 W2 := by rw [← hW2]; exact (((Below.refl _ _).alloc (Nat.le_refl _) _).drew)
    have f0 : W2.cell? ⟨w1.heap.size, 0, none⟩ = some (.int .i64 F) := by rw [← hW2]; show (w1.alloc _).cell? _ = _; simp
    have f1 : W2.cell? ⟨w1.heap.size, 1, none⟩ = some (.bool R) := by rw [← hW2]; show (w1.alloc _).cell? _ = _; simp
    have hl2 : w1.heap.size < W2.heap.size := cell_lt f0
    have hB2 : Below w.heap.size w W2 := hb1.trans (hb2.mono hsz1)
    rw [hW2]
    clear hW2 lk1 lk2 d3 d3a c0 c0a
    go_wp2_with fail
    refine (unhide HFT _).mono ?_
    rintro e w3 ⟨rfl, hb3⟩
    go_wp2
    go_ret3
    exact unhide HNO (unhide HZ) _ (hB2.trans (hb3.mono hB2.size)))

set_option maxRecDepth 100000 in
set_option maxHeartbeats 8000000 in
theorem read_all {l : List Int} (hb : Byts l) (hl : l.length ≤ 3000) (D M : Nat) (H : Int) (w : World) (hL : Lib20 w) (hg : 9 ≤ w.heap.size) (hD : Desk w D M H) (F : Int) (R : Bool) (hF : fst20 (kind (hd l)) = F) (hR : more (kind (hd l)) = R) (h0 : kind (hd l) ≠ 0) (hf : fits20 (kind (hd l)) (tlw l).length = true) :
    Calls Tryz.prog 68 #[.pointer (some ⟨D, 0, none⟩), .string (str l)] w fun e w' => ReadSays l w e w' := by
  have HNO : Hid ((∀ n, ¬ Reads l n) → ∀ w', Below w.heap.size w w' → ReadSays l w (.returned (.tuple #[.string { data := #[] }, .slice none 0 0, .iface 154 (.agg #[.int .i64 2])])) w') := hide (fun h w' hb => ⟨Or.inr ⟨h, rfl⟩, hb⟩)
  have cS := split20 hb hl w hL
  have hbh : Byts (hd l) := by
    have := word_byts hb (j := 0) (List.length_pos_iff.2 (cut_ne 32 l))
    rw [cut_head] at this
    exact this
  have LK : Hid (∀ (W : World), W.heap[M]? = some wordsM → (Instr.lookup 109 (.map (some M)) (.string (str (hd l))) true).run Tryz.prog W = .ok (.tuple #[.agg #[.int .i64 F, .bool R], .bool true]) W) := hide (fun W hm => by
    rw [look20 hbh W M hm, ← hF, ← hR]
    simp [h0])
  obtain ⟨m, hm⟩ : ∃ m, (tlw l).length = m := ⟨_, rfl⟩
  have hN : (cut 32 l).length = m + 1 := by have := tlw_length l; omega
  have hcl := cut_length 32 l
  have HX0 : Hid ((cut 32 l).getD 0 [] = hd l) := hide (cut_head l)
  have HYES : Hid (∀ n v w', Reads l n → Has w' w.heap.size v n → Below w.heap.size w w' → ReadSays l w (.returned (.tuple #[.string (str (hd l)), v, .nilIface])) w') := hide (fun n v w' h1 h2 h3 => ⟨Or.inl ⟨n, v, h1, rfl, h2⟩, h3⟩)
  have HWB : Hid (∀ j, j < m → Byts ((tlw l).getD j []) ∧ ((tlw l).getD j []).length ≤ 3000) := hide (fun j hj => by
    have h1 : j + 1 < (cut 32 l).length := by omega
    have h2 := word_byts hb h1
    have h3 := word_long h1
    rw [cut_word] at h2 h3
    exact ⟨h2, by omega⟩)
  have HCW := hide (fun (j : Nat) => cut_word l j)
  have HR0 := hide (rd_zero (below (kind (hd l))) l)
  have HBL : Hid (∀ j, j < m → decide (below (kind (hd l)) ≤ j) = !decide ((j : Int) < F)) := hide (fun j hj => by rw [← hF]; exact below_is (kind_in _) h0 hf (by omega))
  have HNW : Hid (∀ j n, Rd (below (kind (hd l))) l j n → j < m → wd (!decide ((j : Int) < F)) ((tlw l).getD j []) = none → ∀ n, ¬ Reads l n) := hide (fun j n h1 h2 h3 => none_word h1 (by omega) (by rw [unhide HBL j h2]; exact h3))
  have HNX : Hid (∀ j n k, Rd (below (kind (hd l))) l j n → j < m → wd (!decide ((j : Int) < F)) ((tlw l).getD j []) = some k → Rd (below (kind (hd l))) l (j + 1) (n ++ [k])) := hide (fun j n k h1 h2 h3 => rd_next h1 (by omega) (by rw [unhide HBL j h2]; exact h3))
  have HEND : Hid (∀ n, Rd (below (kind (hd l))) l m n → Reads l n) := hide (fun n h => all_read h0 hf (by rw [hm]; exact h))
  rw [hm] at hf
  have HFT : Hid (∀ W, Calls Tryz.prog 93 #[.agg #[.int .i64 F, .bool R], .int .i64 (m : Int)] W fun e w' => e = .returned (.bool true) ∧ Below W.heap.size W w') := hide (fun W => by
    have := want_fits F R m W
    rw [← hF, ← hR] at this ⊢
    unfold fits20 at hf
    rw [hf] at this
    exact this)
  have hF9 : 0 ≤ F ∧ F ≤ 3 := by rw [← hF]; exact fst_in _
  have hw1 : IntKind.i64.wrap (m : Int) = m := IntWalk.i64_in _ (by omega)
  obtain ⟨A, hA, hA1⟩ := rest_strs w.heap.size m (by omega)
  have HA1 := hide hA1
  clear h0 hF hR hf HBL hA1
  rw [hN] at cS hcl
  go_enter Tryz.func68, Tryz.ntmps68
  go_wp2_with fail
  refine cS.mono ?_
  rintro e w1 ⟨rfl, hb1, hlt1, hc1⟩
  have hD1 := hD.below hb1
  have d3 := hD1.c3
  have c0 : w1.cell? ⟨w.heap.size, 0, none⟩ = some (.string (str (hd l))) := by
    have := unhide hc1 0 (by omega)
    rw [unhide HX0] at this
    exact this
  have lk1 := unhide LK w1.drew hD1.map
  have lk2 := unhide LK (w1.alloc (.cells #[.int .i64 0, .bool false] 149)).drew (by rw [show (w1.alloc (.cells #[.int .i64 0, .bool false] 149)).drew.heap = (w1.alloc (.cells #[.int .i64 0, .bool false] 149)).heap from rfl, Below.heap_alloc _ _ M hD1.mlt]; exact hD1.map)
  have hba : Below w1.heap.size w1 (w1.alloc (.cells #[.int .i64 0, .bool false] 149)) := (Below.refl _ _).alloc (Nat.le_refl _) _
  have d3a := (hD1.below hba).c3
  have c0a : (w1.alloc (.cells #[.int .i64 0, .bool false] 149)).cell? ⟨w.heap.size, 0, none⟩ = some (.string (str (hd l))) := (hba.cell (p := ⟨w.heap.size, 0, none⟩) hlt1).trans c0
  have hsz1 := hb1.size
  clear cS LK hba hD1 hD hbh
  obtain ⟨X, hX⟩ : ∃ X, str (hd l) = X := ⟨_, rfl⟩
  rw [hX] at lk1 lk2 c0 c0a
  have HX := hide hX
  clear hX
  go_wp2
  go_region
  all_goals (
    obtain ⟨W2, hW2⟩ : ∃ W2, (w1.alloc (.cells #[.int .i64 F, .bool R] 149)).drew = W2 := ⟨_, rfl⟩
    have hb2 : Below w1.heap.size w1 W2 := by rw [← hW2]; exact (((Below.refl _ _).alloc (Nat.le_refl _) _).drew)
    have f0 : W2.cell? ⟨w1.heap.size, 0, none⟩ = some (.int .i64 F) := by rw [← hW2]; show (w1.alloc _).cell? _ = _; simp
    have f1 : W2.cell? ⟨w1.heap.size, 1, none⟩ = some (.bool R) := by rw [← hW2]; show (w1.alloc _).cell? _ = _; simp
    have hl2 : w1.heap.size < W2.heap.size := cell_lt f0
    have hB2 : Below w.heap.size w W2 := hb1.trans (hb2.mono hsz1)
    rw [hW2]
    clear hW2 lk1 lk2 d3 d3a c0 c0a
    have HCN : Hid (∀ W, Below W2.heap.size W2 W → (∀ j, j < m → W.cell? ⟨w.heap.size, 1 + j, none⟩ = some (.string (str ((tlw l).getD j [])))) ∧ W.cell? ⟨w.heap.size, 0, none⟩ = some (.string X) ∧ W.cell? ⟨w1.heap.size, 0, none⟩ = some (.int .i64 F)) := hide (fun W hW => ⟨fun j hj => by
      have h1 := unhide hc1 (j + 1) (by omega)
      rw [unhide HCW] at h1
      rw [Nat.add_comm 1 j]
      exact ((hW.cell (p := ⟨w.heap.size, j + 1, none⟩) (by show w.heap.size < _; omega)).trans (hb2.cell (p := ⟨w.heap.size, j + 1, none⟩) hlt1)).trans h1, by
      have h1 := unhide hc1 0 (by omega)
      rw [unhide HX0, unhide HX] at h1
      exact ((hW.cell (p := ⟨w.heap.size, 0, none⟩) (by show w.heap.size < _; omega)).trans (hb2.cell (p := ⟨w.heap.size, 0, none⟩) hlt1)).trans h1, (hW.cell (p := ⟨w1.heap.size, 0, none⟩) hl2).trans f0⟩)
    clear hc1 HCW HX0
    go_wp2_with fail
    refine (unhide HFT _).mono ?_
    rintro e w3 ⟨rfl, hb3⟩
    clear HFT f0 f1
    have hs3 := hb3.size
    have hB3 : Below w.heap.size w w3 := hB2.trans (hb3.mono hB2.size)
    go_wp2
    go_loopw [10, 43] (fun nv iv wr => ∃ (j : Nat) (n : List Int), j ≤ m ∧ iv = .int .i64 j ∧ n.length = j ∧ Has wr w3.heap.size nv n ∧ Hid (Rd (below (kind (hd l))) l j n) ∧ Below w3.heap.size w3 wr) (fun _ iv _ => m - (intOf iv).toNat)
    case atStart => exact ⟨0, [], Nat.zero_le _, rfl, rfl, Has.nil _ _, HR0, Below.refl _ _⟩
    case round =>
      obtain ⟨j, n, hj, rfl, hn, hv, HRD, hbr⟩ := hrel
      have hsr := hbr.size
      have hBr : Below w.heap.size w wr := hB3.trans (hbr.mono hB3.size)
      have HBR := hide hBr
      obtain ⟨q1, q0, q2⟩ := unhide HCN wr (hb3.trans (hbr.mono hs3))
      by_cases hlt : j < m
      · have c1 := q1 j hlt
        obtain rfl := unhide HA1 (by omega)
        obtain ⟨y1, y2⟩ := unhide HWB j hlt
        have cN := number20 y1 y2 wr (hL.on hBr hg) (Nat.le_trans hg hBr.size)
        have HN1 := hide (unhide HNW j n (unhide HRD) hlt)
        have HN2 := hide (fun k => unhide HNX j n k (unhide HRD) hlt)
        obtain ⟨x, hx⟩ : ∃ x, (tlw l).getD j [] = x := ⟨_, rfl⟩
        rw [hx] at c1 cN HN1 HN2
        obtain ⟨Y, hY⟩ : ∃ Y, str x = Y := ⟨_, rfl⟩
        rw [hY] at c1 cN
        clear q1 q0 hx hY y1 y2 hBr HRD
        go_wp2_with fail
        refine cN.mono ?_
        rintro e w5 ⟨hsay, hb5⟩
        have hs5 := hb5.size
        have z0 : w5.cell? ⟨w1.heap.size, 0, none⟩ = some (.int .i64 F) := (hb5.cell (p := ⟨w1.heap.size, 0, none⟩) (by show w1.heap.size < _; omega)).trans q2
        have hB5 : Below w.heap.size w w5 := (unhide HBR).trans (hb5.mono (unhide HBR).size)
        rcases hsay with ⟨k, hk, rfl⟩ | ⟨hk, rfl⟩
        · have hk9 := wd_in hk
          have HK : Hid (wd true x = some k) := hide hk
          by_cases hbad : k < 0 ∧ (j : Int) < F
          · have HZ : Hid (∀ n, ¬ Reads l n) := hide (unhide HN1 (by rw [decide_eq_true hbad.2]; exact wd_below hk hbad.1))
            have d1 : decide (k < 0) = true := decide_eq_true hbad.1
            have d2 : decide ((j : Int) < F) = true := decide_eq_true hbad.2
            have hb1' := hbad.1
            have hb2' := hbad.2
            clear hk cN HN1 HN2 hbad
            go_wp2
            go_ret3
            exact unhide HNO (unhide HZ) _ hB5
          · have HX2 : Hid (Rd (below (kind (hd l))) l (j + 1) (n ++ [k])) := hide (unhide HN2 k (wd_read hk (by
              by_cases h1 : (j : Int) < F
              · exact Or.inr (by omega)
              · exact Or.inl (by rw [decide_eq_false h1]; rfl))))
            have hv5 := hv.below hb5
            have hva := hv5.alloc (.cells #[.int .i64 k] 3)
            clear hk cN HN1 HN2
            by_cases h1 : k < 0
            · have h2 : ¬ (j : Int) < F := fun h => hbad ⟨h1, h⟩
              have d1 : decide (k < 0) = true := decide_eq_true h1
              have d2 : decide ((j : Int) < F) = false := decide_eq_false h2
              clear hbad
              go_wp2_with (at_builtin; refine wpList_app _ rfl _ _ rfl w3.heap.size _ n [k] _ _ rfl hva rfl (row_one _ _ _) (by simp; omega) (by simp; omega) ?_; intro v' w6 hv6 hg6 hl6)
              have hb6 : Below w3.heap.size w3 w6 := ((hbr.trans (hb5.mono hsr)).alloc (by omega) _).grown hg6 (by simp; omega) (fun k hk => (hva.lt k hk).1)
              go_wp2
              go_roundw
              case rel => exact ⟨j + 1, n ++ [k], by omega, by go_num, by simp [hn], hv6, HX2, hb6⟩
              case measure => simp [intOf]; omega
            · have d1 : decide (k < 0) = false := decide_eq_false h1
              clear hbad
              go_wp2_with (at_builtin; refine wpList_app _ rfl _ _ rfl w3.heap.size _ n [k] _ _ rfl hva rfl (row_one _ _ _) (by simp; omega) (by simp; omega) ?_; intro v' w6 hv6 hg6 hl6)
              have hb6 : Below w3.heap.size w3 w6 := ((hbr.trans (hb5.mono hsr)).alloc (by omega) _).grown hg6 (by simp; omega) (fun k hk => (hva.lt k hk).1)
              go_wp2
              go_roundw
              case rel => exact ⟨j + 1, n ++ [k], by omega, by go_num, by simp [hn], hv6, HX2, hb6⟩
              case measure => simp [intOf]; omega
        · have HZ : Hid (∀ n, ¬ Reads l n) := hide (unhide HN1 (wd_both hk _))
          clear hk cN HN1 HN2
          unfold badV
          go_wp2
          go_ret3
          exact unhide HNO (unhide HZ) _ hB5
      · obtain rfl : j = m := by omega
        have HZ : Hid (Reads l n) := hide (unhide HEND n (unhide HRD))
        have hvw := hv.mono hB3.size
        clear q1 q2
        go_wp2
        go_ret3
        rw [← unhide HX]
        exact unhide HYES n _ _ (unhide HZ) hvw (unhide HBR))

theorem read20 {l : List Int} (hb : Byts l) (hl : l.length ≤ 3000) (D M : Nat) (H : Int) (w : World) (hL : Lib20 w) (hg : 9 ≤ w.heap.size) (hD : Desk w D M H) :
    Calls Tryz.prog 68 #[.pointer (some ⟨D, 0, none⟩), .string (str l)] w fun e w' => ReadSays l w e w' := by
  by_cases h0 : kind (hd l) = 0
  · exact read_kind hb hl D M H w hL hg hD _ _ rfl rfl h0
  · cases hf : fits20 (kind (hd l)) (tlw l).length
    · exact read_many hb hl D M H w hL hg hD _ _ rfl rfl h0 hf
    · exact read_all hb hl D M H w hL hg hD _ _ rfl rfl h0 hf

end Go.Proofs.YtkkhgdkgbhdfaakGreatDoor.Lb
