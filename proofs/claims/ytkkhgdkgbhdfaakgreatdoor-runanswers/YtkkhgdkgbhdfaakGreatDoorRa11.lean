/-
  A tank in memory: one block of three numbers.
-/
import Derived.Test.YtkkhgdkgbhdfaakGreatDoorRa00
import Derived.RangeFuncBox
import Derived.Deep.WholeRow
import Derived.Laws.CopyOwn
import Derived.Deep.QuietTactic
import Derived.BigQuiet
namespace Go.Proofs.YtkkhgdkgbhdfaakGreatDoor.Tnk
open Go.RowKit
open Go.Proofs.YtkkhgdkgbhdfaakGreatDoor.Tre
set_option linter.unusedVariables false

def Tk (W : World) (B : Nat) (S E H : Int) : Prop := W.heap[B]? = some (.cells #[.int .i64 S, .int .i64 E, .int .i64 H] 44 (0, 0))
section
variable {W W' : World} {B : Nat} {S E H : Int}
theorem Tk.lt (h : Tk W B S E H) : B < W.heap.size := (Array.getElem?_eq_some_iff.1 h).1
theorem Tk.c0 (h : Tk W B S E H) : W.cell? ⟨B, 0, none⟩ = some (.int .i64 S) := by simp [World.cell?, show W.heap[B]? = _ from h]
theorem Tk.c1 (h : Tk W B S E H) : W.cell? ⟨B, 1, none⟩ = some (.int .i64 E) := by simp [World.cell?, show W.heap[B]? = _ from h]
theorem Tk.c2 (h : Tk W B S E H) : W.cell? ⟨B, 2, none⟩ = some (.int .i64 H) := by simp [World.cell?, show W.heap[B]? = _ from h]
theorem Tk.fz (h : Tk W B S E H) (j : Nat) : W.frozen? ⟨B, j, none⟩ = false := by simp [World.frozen?, show W.heap[B]? = _ from h]
theorem Tk.new (W : World) (S E H : Int) : Tk (W.alloc (.cells #[.int .i64 S, .int .i64 E, .int .i64 H] 44)) W.heap.size S E H := World.alloc_heap_new W _
theorem Tk.kept {row : Option Nat} (h : Tk W B S E H) (hg : W.grownBy W' row) (hne : some B ≠ row) : Tk W' B S E H := (hg.block B h.lt hne).trans h
theorem Tk.alloc (h : Tk W B S E H) (o : Obj) : Tk (W.alloc o) B S E H := h.kept (World.grownBy_alloc W o none) (by simp)
theorem Tk.below {n : Nat} (h : Tk W B S E H) (hb : Below n W W') (hn : B < n) : Tk W' B S E H := (hb.block B hn).trans h
theorem Tk.other {B' j : Nat} (h : Tk W B S E H) (hne : B' ≠ B) (v : Value) : Tk (W.setCell ⟨B', j, none⟩ v) B S E H := by
  unfold Tk
  rw [Below.heap_setCell _ _ _ _ (fun e => hne e.symm)]
  exact h
theorem Tk.has (h : Tk W B S E H) (x : Int) : Tk (W.setCell ⟨B, 2, none⟩ (.int .i64 x)) B S E x := by
  unfold Tk
  rw [setCell_eq_setRow W B 2 _ _ _ _ h, setRow_heap W B _ _ _ _ h]
  rfl
theorem Tk.each (h : Tk W B S E H) (x : Int) : Tk (W.setCell ⟨B, 1, none⟩ (.int .i64 x)) B S x H := by
  unfold Tk
  rw [setCell_eq_setRow W B 1 _ _ _ _ h, setRow_heap W B _ _ _ _ h]
  rfl
theorem Tk.size (h : Tk W B S E H) (x : Int) : Tk (W.setCell ⟨B, 0, none⟩ (.int .i64 x)) B x E H := by
  unfold Tk
  rw [setCell_eq_setRow W B 0 _ _ _ _ h, setRow_heap W B _ _ _ _ h]
  rfl
theorem Tk.drew (h : Tk W B S E H) (n : Nat) : Tk (W.drewN n) B S E H := h
end

theorem info_tank : (Tryz.prog.info? 44).map (·.size) = some 3 := by kernel_rfl
theorem load_tank {W : World} {B : Nat} {S E H : Int} (h : Tk W B S E H) : (loadVar 44 ⟨B, 0, none⟩).run Tryz.prog W = .ok (.agg #[.int .i64 S, .int .i64 E, .int .i64 H]) W :=
  run_loadVar_row W B 44 44 #[.int .i64 S, .int .i64 E, .int .i64 H] (0, 0) _ h Tryz.underlying44 rfl info_tank
/-- What a function answers that has a tank in a box, and another thing. -/
theorem results_tank {fn : Func} {p u : Tmp} (h : fn.results = #[.cell p 44, .tmp u]) (tmps : Array Value) (w : World) (B : Nat) (S E H : Int) (hp : tmps.getD p undef = .pointer (some ⟨B, 0, none⟩)) (hk : Tk w B S E H) :
    (results fn tmps).run Tryz.prog w = .ok (.tuple #[.agg #[.int .i64 S, .int .i64 E, .int .i64 H], tmps.getD u undef]) w := by
  have hp' : tmps[p]?.getD undef = .pointer (some ⟨B, 0, none⟩) := by simpa using hp
  simp [results, h, hp', asAddr, load_tank hk]
/-- All three are stored. -/
theorem Tk.put {W : World} {B : Nat} {S E H : Int} (h : Tk W B S E H) (x y z : Int) : Tk (((W.setCell ⟨B, 0, none⟩ (.int .i64 x)).setCell ⟨B, 1, none⟩ (.int .i64 y)).setCell ⟨B, 2, none⟩ (.int .i64 z)) B x y z := ((h.size x).each y).has z
theorem below_put {n : Nat} {w W : World} (h : Below n w W) {B : Nat} (hB : n ≤ B) (u v x : Value) : Below n w (((W.setCell ⟨B, 0, none⟩ u).setCell ⟨B, 1, none⟩ v).setCell ⟨B, 2, none⟩ x) :=
  ((h.setCell (p := ⟨B, 0, none⟩) hB u).setCell (p := ⟨B, 1, none⟩) hB v).setCell (p := ⟨B, 2, none⟩) hB x

theorem Tk.aside {W : World} {B B' : Nat} {S E H : Int} (h : Tk W B S E H) (hne : B' ≠ B) (u v x : Value) : Tk (((W.setCell ⟨B', 0, none⟩ u).setCell ⟨B', 1, none⟩ v).setCell ⟨B', 2, none⟩ x) B S E H := ((h.other hne u).other hne v).other hne x

end Go.Proofs.YtkkhgdkgbhdfaakGreatDoor.Tnk

/-
  hornref2.Tank, May, Turn: by their contracts.
-/
namespace Go.Proofs.YtkkhgdkgbhdfaakGreatDoor.Tnk
open Go.RowKit
open Go.Proofs.YtkkhgdkgbhdfaakGreatDoor.Tre
set_option linter.unusedVariables false

set_option maxRecDepth 100000 in
set_option maxHeartbeats 4000000 in
theorem refTank (S E H : Int) (w : World) :
    Calls Tryz.prog 78 #[.agg #[.int .i64 S, .int .i64 E, .int .i64 H]] w fun e w' => e = .returned (.int .i64 (tankF S E H)) ∧ Below w.heap.size w w' := by
  by_cases h1 : S < 0
  · have d1 : decide (S < 0) = true := by simpa using h1
    have HT : Hid (tankF S E H = 1) := hide (by unfold tankF; rw [if_neg (fun h => by have := h.1; omega)])
    rw [unhide HT]
    clear h1
    go_enter Tryz.func78, Tryz.ntmps78
    go_wp2
    go_ret
    exact ⟨rfl, (Below.refl _ _).alloc (Nat.le_refl _) _⟩
  · have d1 : decide (S < 0) = false := by simpa using h1
    by_cases h2 : 1000000 < S
    · have d2 : decide (1000000 < S) = true := by simpa using h2
      have HT : Hid (tankF S E H = 1) := hide (by unfold tankF; rw [if_neg (fun h => by have := h.2.1; omega)])
      rw [unhide HT]
      clear h1 h2
      go_enter Tryz.func78, Tryz.ntmps78
      go_wp2
      go_ret
      exact ⟨rfl, (Below.refl _ _).alloc (Nat.le_refl _) _⟩
    · have d2 : decide (1000000 < S) = false := by simpa using h2
      by_cases h3 : E < 0
      · have d3 : decide (E < 0) = true := by simpa using h3
        have HT : Hid (tankF S E H = 1) := hide (by unfold tankF; rw [if_neg (fun h => by have := h.2.2.1; omega)])
        rw [unhide HT]
        clear h1 h2 h3
        go_enter Tryz.func78, Tryz.ntmps78
        go_wp2
        go_ret
        exact ⟨rfl, (Below.refl _ _).alloc (Nat.le_refl _) _⟩
      · have d3 : decide (E < 0) = false := by simpa using h3
        by_cases h4 : S < E
        · have d4 : decide (S < E) = true := by simpa using h4
          have HT : Hid (tankF S E H = 1) := hide (by unfold tankF; rw [if_neg (fun h => by have := h.2.2.2.1; omega)])
          rw [unhide HT]
          clear h1 h2 h3 h4
          go_enter Tryz.func78, Tryz.ntmps78
          go_wp2
          go_ret
          exact ⟨rfl, (Below.refl _ _).alloc (Nat.le_refl _) _⟩
        · have d4 : decide (S < E) = false := by simpa using h4
          by_cases h5 : H < 0
          · have d5 : decide (H < 0) = true := by simpa using h5
            have HT : Hid (tankF S E H = 1) := hide (by unfold tankF; rw [if_neg (fun h => by have := h.2.2.2.2.1; omega)])
            rw [unhide HT]
            clear h1 h2 h3 h4 h5
            go_enter Tryz.func78, Tryz.ntmps78
            go_wp2
            go_ret
            exact ⟨rfl, (Below.refl _ _).alloc (Nat.le_refl _) _⟩
          · have d5 : decide (H < 0) = false := by simpa using h5
            by_cases h6 : S < H
            · have d6 : decide (S < H) = true := by simpa using h6
              have HT : Hid (tankF S E H = 1) := hide (by unfold tankF; rw [if_neg (fun h => by have := h.2.2.2.2.2; omega)])
              rw [unhide HT]
              clear h1 h2 h3 h4 h5 h6
              go_enter Tryz.func78, Tryz.ntmps78
              go_wp2
              go_ret
              exact ⟨rfl, (Below.refl _ _).alloc (Nat.le_refl _) _⟩
            · have d6 : decide (S < H) = false := by simpa using h6
              have HT : Hid (tankF S E H = 0) := hide (tankF_zero.2 ⟨by omega, by omega, by omega, by omega, by omega, by omega⟩)
              rw [unhide HT]
              clear h1 h2 h3 h4 h5 h6
              go_enter Tryz.func78, Tryz.ntmps78
              go_wp2
              go_ret
              exact ⟨rfl, (Below.refl _ _).alloc (Nat.le_refl _) _⟩

set_option maxRecDepth 100000 in
set_option maxHeartbeats 4000000 in
theorem refMay (S E H : Int) (w : World) (hk : Hid (Ok S E H)) :
    Calls Tryz.prog 54 #[.agg #[.int .i64 S, .int .i64 E, .int .i64 H]] w fun e w' => e = .returned (.int .i64 (may S E H)) ∧ Below w.heap.size w w' := by
  obtain ⟨h1, h2, h3, h4, h5, h6⟩ := unhide hk
  obtain ⟨Z, hZ⟩ : ∃ Z, H + E = Z := ⟨_, rfl⟩
  have w1 : IntKind.i64.wrap (H + E) = Z := by rw [hZ]; exact IntWalk.i64_in _ (by omega)
  by_cases h : S < Z
  · have d : decide (S < Z) = true := by simpa using h
    have HT : Hid (may S E H = S) := hide (by unfold may; rw [if_pos (by omega)])
    rw [unhide HT]
    clear hk h1 h2 h3 h4 h5 h6 hZ
    go_enter Tryz.func54, Tryz.ntmps54
    go_wp2
    go_ret
    exact ⟨rfl, (Below.refl _ _).alloc (Nat.le_refl _) _⟩
  · have d : decide (S < Z) = false := by simpa using h
    have HT : Hid (may S E H = Z) := hide (by unfold may; rw [if_neg (by omega)]; exact hZ)
    rw [unhide HT]
    clear hk h1 h2 h3 h4 h5 h6 hZ
    go_enter Tryz.func54, Tryz.ntmps54
    go_wp2
    go_ret
    exact ⟨rfl, (Below.refl _ _).alloc (Nat.le_refl _) _⟩

/-- What Turn answers. -/
def TurnPost (S E H b : Int) (w : World) (e : Ending) (w' : World) : Prop :=
  e = .returned (.tuple #[.agg #[.int .i64 (tS S E H b), .int .i64 (tE S E H b), .int .i64 (tH S E H b)], .int .i64 (turnF S E H b)]) ∧ Below w.heap.size w w'

set_option maxRecDepth 100000 in
set_option maxHeartbeats 4000000 in
theorem refTurn (S E H b : Int) (w : World) :
    Calls Tryz.prog 53 #[.agg #[.int .i64 S, .int .i64 E, .int .i64 H], .int .i64 b] w fun e w' => TurnPost S E H b w e w' := by
  have HP : Hid (∀ F, F ≠ 0 → turnF S E H b = F → ∀ w', Below w.heap.size w w' → TurnPost S E H b w (.returned (.tuple #[.agg #[.int .i64 0, .int .i64 0, .int .i64 0], .int .i64 F])) w') := hide (fun F hF h w' hb => by
    obtain ⟨e1, e2, e3⟩ := turn_no (S := S) (E := E) (H := H) (b := b) (by rw [h]; exact hF)
    exact ⟨by rw [e1, e2, e3, h], hb⟩)
  by_cases hk : Ok S E H
  · have hk2 := hide hk
    have HTK : Hid (tankF S E H = 0) := hide (tankF_zero.2 hk)
    have hm := may_in hk
    have HF1 : Hid (b < 0 ∨ 1000000 < b → turnF S E H b = 1) := hide (fun h => by unfold turnF; rw [if_pos hk, if_pos h])
    have HF8 : Hid (¬ (b < 0 ∨ 1000000 < b) → may S E H < b → turnF S E H b = 8) := hide (fun h h2 => by unfold turnF; rw [if_pos hk, if_neg h, if_pos h2])
    have HF0 : Hid (¬ (b < 0 ∨ 1000000 < b) → ¬ may S E H < b → ∀ w', Below w.heap.size w w' → TurnPost S E H b w (.returned (.tuple #[.agg #[.int .i64 S, .int .i64 E, .int .i64 (may S E H - b)], .int .i64 0])) w') := hide (fun h h2 w' hb => by
      have h0 : turnF S E H b = 0 := by unfold turnF; rw [if_pos hk, if_neg h, if_neg h2]
      obtain ⟨e1, e2, e3⟩ := turn_is h0
      exact ⟨by rw [e1, e2, e3, h0], hb⟩)
    have CT := hide (fun W => refTank S E H W)
    have CM := hide (fun W => refMay S E H W hk2)
    rw [unhide HTK] at CT
    have hk9 := hk.2.1
    obtain ⟨M, hM⟩ : ∃ M, may S E H = M := ⟨_, rfl⟩
    rw [hM] at CM HF8 HF0 hm
    clear hk hM HTK
    obtain ⟨W0, hW0⟩ : ∃ W0, ((w.alloc (.cells #[.int .i64 S, .int .i64 E, .int .i64 H] 44)).alloc (.cells #[.int .i64 0, .int .i64 0, .int .i64 0] 44)) = W0 := ⟨_, rfl⟩
    have hb0 : Below w.heap.size w W0 := by rw [← hW0]; exact ((Below.refl _ _).alloc (Nat.le_refl _) _).alloc (by simp) _
    have t0 : Tk W0 w.heap.size S E H := by rw [← hW0]; exact (Tk.new w S E H).alloc _
    have r0 : Tk W0 (w.heap.size + 1) 0 0 0 := by rw [← hW0]; simpa using Tk.new (w.alloc (.cells #[.int .i64 S, .int .i64 E, .int .i64 H] 44)) 0 0 0
    have a0 := t0.c0
    have a1 := t0.c1
    have a2 := t0.c2
    go_enter Tryz.func53, Tryz.ntmps53
    go_wp2_with fail
    refine (unhide CT _).mono ?_
    rintro e w1 ⟨rfl, hb1⟩
    have t1 := t0.below hb1 t0.lt
    have r1 := r0.below hb1 r0.lt
    have hB1 := Below.chain hb0 hb1
    clear a0 a1 a2
    have a0 := t1.c0
    have a1 := t1.c1
    have a2 := t1.c2
    have q0 := r1.c0
    have q1 := r1.c1
    have q2 := r1.c2
    have f0 := r1.fz 0
    have f1 := r1.fz 1
    have f2 := r1.fz 2
    clear t0 r0 hb0 hb1 CT hW0
    by_cases h1 : b < 0
    · have d1 : decide (b < 0) = true := by simpa using h1
      have HF := hide (unhide HF1 (Or.inl h1))
      clear HF1 HF8 HF0 CM h1
      go_wp2
      refine bodyPost_ret (results_tank rfl _ _ _ _ _ _ rfl (r1.put 0 0 0)) rfl ?_
      exact unhide HP 1 (by omega) (unhide HF) _ (below_put hB1 (by omega) _ _ _)
    · have d1 : decide (b < 0) = false := by simpa using h1
      by_cases h2 : 1000000 < b
      · have d2 : decide (1000000 < b) = true := by simpa using h2
        have HF := hide (unhide HF1 (Or.inr h2))
        clear HF1 HF8 HF0 CM h1
        go_wp2
        refine bodyPost_ret (results_tank rfl _ _ _ _ _ _ rfl (r1.put 0 0 0)) rfl ?_
        exact unhide HP 1 (by omega) (unhide HF) _ (below_put hB1 (by omega) _ _ _)
      · have d2 : decide (1000000 < b) = false := by simpa using h2
        have HN : Hid (¬ (b < 0 ∨ 1000000 < b)) := hide (by omega)
        go_wp2_with fail
        refine (unhide CM _).mono ?_
        rintro e w2 ⟨rfl, hb2⟩
        have t2 := t1.below hb2 t1.lt
        have r2 := r1.below hb2 r1.lt
        have hB2 := Below.chain hB1 hb2
        clear a0 a1 a2 q0 q1 q2 f0 f1 f2
        have a0 := t2.c0
        have a1 := t2.c1
        have a2 := t2.c2
        have q0 := r2.c0
        have q1 := r2.c1
        have q2 := r2.c2
        have f0 := r2.fz 0
        have f1 := r2.fz 1
        have f2 := r2.fz 2
        have g2 := t2.fz 2
        clear t1 r1 hb2 CM
        by_cases h3 : M < b
        · have d3 : decide (M < b) = true := by simpa using h3
          have HF := hide (unhide HF8 (unhide HN) h3)
          clear HF1 HF8 HF0 h1 h2 h3
          go_wp2
          refine bodyPost_ret (results_tank rfl _ _ _ _ _ _ rfl (r2.put 0 0 0)) rfl ?_
          exact unhide HP 8 (by omega) (unhide HF) _ (below_put hB2 (by omega) _ _ _)
        · have d3 : decide (M < b) = false := by simpa using h3
          have HF := hide (unhide HF0 (unhide HN) (by omega))
          obtain ⟨X, hX⟩ : ∃ X, M - b = X := ⟨_, rfl⟩
          have wx : IntKind.i64.wrap (M - b) = X := by rw [hX]; exact IntWalk.i64_in _ (by omega)
          rw [hX] at HF
          have t3 := t2.has X
          have r3 := r2.other (B' := w.heap.size) (j := 2) (by omega) (.int .i64 X)
          have b0 := t3.c0
          have b1 := t3.c1
          have b2 := t3.c2
          have m0 := r3.c0
          have m1 := r3.c1
          have m2 := r3.c2
          have n0 := r3.fz 0
          have n1 := r3.fz 1
          have n2 := r3.fz 2
          have hB3 := hB2.setCell (p := ⟨w.heap.size, 2, none⟩) (Nat.le_refl _) (.int .i64 X)
          have HR := hide (r3.put S E X)
          have HB := hide (below_put hB3 (B := w.heap.size + 1) (by omega) (.int .i64 S) (.int .i64 E) (.int .i64 X))
          clear HF1 HF8 HF0 h1 h2 h3 hX hm hk2 hk9 HN t2 r2 t3 r3 hB2 hB3
          go_wp2
          refine bodyPost_ret (results_tank rfl _ _ _ _ _ _ rfl (unhide HR)) rfl ?_
          exact unhide HF _ (unhide HB)
  · have CT := hide (fun W => refTank S E H W)
    have HTK : Hid (tankF S E H = 1) := hide (by unfold tankF; rw [if_neg hk])
    have HF : Hid (turnF S E H b = 1) := hide (by unfold turnF; rw [if_neg hk])
    rw [unhide HTK] at CT
    obtain ⟨W0, hW0⟩ : ∃ W0, ((w.alloc (.cells #[.int .i64 S, .int .i64 E, .int .i64 H] 44)).alloc (.cells #[.int .i64 0, .int .i64 0, .int .i64 0] 44)) = W0 := ⟨_, rfl⟩
    have hb0 : Below w.heap.size w W0 := by rw [← hW0]; exact ((Below.refl _ _).alloc (Nat.le_refl _) _).alloc (by simp) _
    have t0 : Tk W0 w.heap.size S E H := by rw [← hW0]; exact (Tk.new w S E H).alloc _
    have r0 : Tk W0 (w.heap.size + 1) 0 0 0 := by rw [← hW0]; simpa using Tk.new (w.alloc (.cells #[.int .i64 S, .int .i64 E, .int .i64 H] 44)) 0 0 0
    have a0 := t0.c0
    have a1 := t0.c1
    have a2 := t0.c2
    clear hk HTK
    go_enter Tryz.func53, Tryz.ntmps53
    go_wp2_with fail
    refine (unhide CT _).mono ?_
    rintro e w1 ⟨rfl, hb1⟩
    have r1 := r0.below hb1 r0.lt
    have hB1 := Below.chain hb0 hb1
    clear a0 a1 a2
    have q0 := r1.c0
    have q1 := r1.c1
    have q2 := r1.c2
    have f0 := r1.fz 0
    have f1 := r1.fz 1
    have f2 := r1.fz 2
    clear t0 r0 hb0 hb1 CT hW0
    go_wp2
    refine bodyPost_ret (results_tank rfl _ _ _ _ _ _ rfl (r1.put 0 0 0)) rfl ?_
    exact unhide HP 1 (by omega) (unhide HF) _ (below_put hB1 (by omega) _ _ _)

end Go.Proofs.YtkkhgdkgbhdfaakGreatDoor.Tnk
