/-
  run.loudness, (*run.desk).turn: by their contracts.
-/
import Derived.Test.YtkkhgdkgbhdfaakGreatDoorRa26
import Derived.Test.YtkkhgdkgbhdfaakGreatDoorRa07
import Derived.Test.YtkkhgdkgbhdfaakGreatDoorRa23
import Derived.RangeFuncBox
namespace Go.Proofs.YtkkhgdkgbhdfaakGreatDoor.Lb
open Go.RowKit
open Go.Proofs.YtkkhgdkgbhdfaakGreatDoor.Tre Go.Proofs.YtkkhgdkgbhdfaakGreatDoor.Hrn Go.Proofs.YtkkhgdkgbhdfaakGreatDoor.Txt Go.Proofs.YtkkhgdkgbhdfaakGreatDoor.Ses Go.Proofs.YtkkhgdkgbhdfaakGreatDoor.Tnk Go.Proofs.YtkkhgdkgbhdfaakGreatDoor.Gai Go.Proofs.YtkkhgdkgbhdfaakGreatDoor.Ev
set_option linter.unusedVariables false

/-- All but one block is as it was. -/
def But (b : Nat) (W W' : World) : Prop := W.grownBy W' (some b)
theorem But.refl (b : Nat) (W : World) : But b W W := World.grownBy.refl _ _
theorem But.trans {b : Nat} {A C D : World} (h : But b A C) (k : But b C D) : But b A D :=
  ⟨k.os.trans h.os, k.tape.trans h.tape, k.output.trans h.output, Nat.le_trans h.size k.size, fun j hj hne => (k.block j (Nat.lt_of_lt_of_le hj h.size) hne).trans (h.block j hj hne)⟩
theorem But.of_below {b : Nat} {W W' : World} (h : Below W.heap.size W W') : But b W W' := ⟨h.os, h.tape, h.output, h.size, fun j hj _ => h.block j hj⟩
theorem But.set {b j : Nat} (W : World) (v : Value) : But b W (W.setCell ⟨b, j, none⟩ v) :=
  ⟨rfl, rfl, rfl, (KeepsWalks.setCell W _ v).size, fun k _ hk => Below.heap_setCell _ _ _ k (fun e => hk (by rw [e]))⟩
theorem But.below {b n : Nat} {W W' : World} (h : But b W W') (hb : n ≤ b) (hn : n ≤ W.heap.size) : Below n W W' := ⟨h.os, h.tape, h.output, h.size, fun j hj => h.block j (by omega) (fun e => by cases e; omega)⟩

theorem loud_no (n : Int) (w : World) (h : 0 ≤ n) (h8 : 8000 < n) :
    Calls Tryz.prog 74 #[.int .i64 n] w fun e w' => e = .returned (.tuple #[.int .i64 0, .int .i64 0, .iface 58 (.int .i64 1)]) ∧ w' = w := by
  go_enter Tryz.func74, Tryz.ntmps74
  go_wp2_with fail
  refine (index_no n w (Or.inr ⟨h, h8⟩)).mono ?_
  rintro e w1 ⟨rfl, rfl⟩
  go_wp2
  go_ret3
  exact ⟨rfl, rfl⟩
theorem loud_ok (n : Nat) (w : World) (h8 : n ≤ 8000) :
    Calls Tryz.prog 74 #[.int .i64 n] w fun e w' => e = .returned (.tuple #[.int .i64 (gi n), .int .i64 (vl (gi n)), .nilIface]) ∧ w' = w := by
  obtain ⟨g1, g2, _, _⟩ := gi_near h8
  have cI := index_ok n h8 w
  have cV := value_ok (gi n) g1 (hide g2) w
  obtain ⟨G, hG⟩ : ∃ G, gi n = G := ⟨_, rfl⟩
  rw [hG] at cI cV ⊢
  obtain ⟨V, hV⟩ : ∃ V, vl G = V := ⟨_, rfl⟩
  rw [hV] at cV ⊢
  clear hG hV g1 g2
  go_enter Tryz.func74, Tryz.ntmps74
  go_wp2_with fail
  refine cI.mono ?_
  rintro e w1 ⟨rfl, rfl⟩
  go_wp2_with fail
  refine cV.mono ?_
  rintro e w1 ⟨rfl, rfl⟩
  go_wp2
  go_ret3
  exact ⟨rfl, rfl⟩

theorem Desk.but {W W' : World} {D M C : Nat} {H : Int} (h : Desk W D M H) (hb : But C W W') (hC : C ≠ D) (hM : C ≠ M) : Desk W' D M H :=
  ⟨(hb.block D h.lt (fun e => hC (Option.some.inj e).symm)).trans h.blk, (hb.block M h.mlt (fun e => hM (Option.some.inj e).symm)).trans h.map⟩
theorem Desk.set {W : World} {D M : Nat} {H : Int} (h : Desk W D M H) (H' : Int) :
    Desk (((W.setCell ⟨D, 0, none⟩ (.int .i64 100)).setCell ⟨D, 1, none⟩ (.int .i64 20)).setCell ⟨D, 2, none⟩ (.int .i64 H')) D M H' := by
  have hne := h.ne
  refine ⟨?_, ?_⟩
  · simp [World.setCell, Array.getElem?_modify, h.blk]
  · rw [Below.heap_setCell _ _ _ M hne, Below.heap_setCell _ _ _ M hne, Below.heap_setCell _ _ _ M hne]
    exact h.map

/-- What a turn of the desk's tank answers. -/
def DeskTurn (D M : Nat) (H b : Int) (w : World) (e : Ending) (w' : World) : Prop :=
  e = .returned (errV (turnF 100 20 H b)) ∧ Desk w' D M (if turnF 100 20 H b = 0 then may 100 20 H - b else H) ∧ But D w w'

set_option maxRecDepth 100000 in
set_option maxHeartbeats 4000000 in
theorem turn20 (D M : Nat) (H b : Int) (w : World) (hD : Desk w D M H) :
    Calls Tryz.prog 75 #[.pointer (some ⟨D, 0, none⟩), .int .i64 b] w fun e w' => DeskTurn D M H b w e w' := by
  have cT := turn_says 100 20 H b w
  have d0 := hD.c0
  have d1 := hD.c1
  have d2 := hD.c2
  by_cases h0 : turnF 100 20 H b = 0
  · obtain ⟨e1, e2, e3⟩ := Tnk.turn_is h0
    have HP : Hid (∀ w', Desk w' D M (may 100 20 H - b) → But D w w' → DeskTurn D M H b w (.returned .nilIface) w') := hide (fun w' h1 h2 => ⟨by rw [h0, errV_zero], by rw [if_pos h0]; exact h1, h2⟩)
    unfold TurnSays at cT
    rw [e1, e2, e3, h0, errV_zero] at cT
    obtain ⟨Z, hZ⟩ : ∃ Z, may 100 20 H - b = Z := ⟨_, rfl⟩
    rw [hZ] at cT HP
    clear h0 e1 e2 e3 hZ
    go_enter Tryz.func75, Tryz.ntmps75
    go_wp2_with fail
    refine cT.mono ?_
    rintro e w1 ⟨rfl, hb1⟩
    have hD1 := hD.below hb1
    have hD2 := hD1.below ((Below.refl w1.heap.size w1).alloc (Nat.le_refl _) (.cells #[.int .i64 100, .int .i64 20, .int .i64 Z] 44))
    have fz := hD2.fz
    have x0 := hD2.c0
    have x1 := hD2.c1
    have x2 := hD2.c2
    clear d0 d1 d2 cT
    go_wp2
    go_ret
    exact unhide HP _ (hD2.set Z) ((But.of_below hb1).trans ((((But.of_below ((Below.refl w1.heap.size w1).alloc (Nat.le_refl _) _)).trans (But.set _ _)).trans (But.set _ _)).trans (But.set _ _)))
  · obtain ⟨e1, e2, e3⟩ := turn_no h0
    have HP : Hid (∀ w', Desk w' D M H → But D w w' → DeskTurn D M H b w (.returned (.iface 58 (.int .i64 (turnF 100 20 H b)))) w') := hide (fun w' h1 h2 => ⟨by rw [errV_ne h0], by rw [if_neg h0]; exact h1, h2⟩)
    unfold TurnSays at cT
    rw [e1, e2, e3, errV_ne h0] at cT
    obtain ⟨Z, hZ⟩ : ∃ Z, turnF 100 20 H b = Z := ⟨_, rfl⟩
    rw [hZ] at cT HP
    clear h0 e1 e2 e3 hZ
    go_enter Tryz.func75, Tryz.ntmps75
    go_wp2_with fail
    refine cT.mono ?_
    rintro e w1 ⟨rfl, hb1⟩
    have hD1 := hD.below hb1
    have hba := (Below.refl w1.heap.size w1).alloc (Nat.le_refl _) (.cells #[.int .i64 0, .int .i64 0, .int .i64 0] 44)
    clear d0 d1 d2 cT
    go_wp2
    go_ret
    exact unhide HP _ (hD1.below hba) ((But.of_below hb1).trans (But.of_below hba))

end Go.Proofs.YtkkhgdkgbhdfaakGreatDoor.Lb
