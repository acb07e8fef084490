/-
  The landed log's record, stops, All: by their contracts.
-/
import Derived.Test.YtjojeifoddonnakDoorLb16
import Derived.Test.YtjojeifoddonnakDoorLb28
namespace Go.Proofs.YtjojeifoddonnakDoor.Lg19
open Go.RowKit
open Go.Proofs.YtjojeifoddonnakDoor.Tre Go.Proofs.YtjojeifoddonnakDoor.Bnd Go.Proofs.YtjojeifoddonnakDoor.Frm Go.Proofs.YtjojeifoddonnakDoor.Pck Go.Proofs.YtjojeifoddonnakDoor.Hrn Go.Proofs.YtjojeifoddonnakDoor.Ev
set_option linter.unusedVariables false

set_option maxRecDepth 100000 in
set_option maxHeartbeats 4000000 in
theorem recordL (x : ByteArray) (w : World) (h50 : x.size ≤ 50) : Calls Tryd.prog 12 #[.string x] w fun e w' => ∃ v, e = .returned v ∧ HasY w' w.heap.size v (rcd x) ∧ Below w.heap.size w w' := by
  have H0 := has_byte w (x.size : Int)
  have hln : [(x.size : Int)].length + x.size ≤ 1000000 := by simp; omega
  have hbA : Below w.heap.size w (w.alloc (.cells #[.int .u8 (x.size : Int)] 5)) := (Below.refl _ _).alloc (Nat.le_refl _) _
  go_enter Tryd.func12, Tryd.ntmps12
  go_wp2_with (at_builtin; refine wpList_appyt _ rfl _ _ rfl w.heap.size _ [(x.size : Int)] x rfl H0 rfl hln (by simp) ?_; intro v1 w1 k1 g1)
  go_ret
  exact ⟨_, rfl, k1, hbA.grown g1 (by simp) (fun j e => (H0.lt j e).1)⟩

/-- What the counter does. -/
def StopSays (W : World) (b : Nat) (lf : Int) (e : Ending) (W' : World) : Prop :=
  (lf < 0 ∧ e = .returned (.bool false) ∧ W' = W) ∨ (lf = 0 ∧ e = .returned (.bool true) ∧ W' = (W.setCell ⟨b, 4, none⟩ (.int .i64 (-1))).setCell ⟨b, 5, none⟩ (.bool true)) ∨
    (0 < lf ∧ e = .returned (.bool false) ∧ W' = (W.setCell ⟨b, 4, none⟩ (.int .i64 (lf - 1))).setCell ⟨b, 5, none⟩ (.bool false))
set_option maxRecDepth 100000 in
set_option maxHeartbeats 4000000 in
theorem stopsL {W : World} {b : Nat} {sv dv : Value} {B sf lf : Int} {st : Bool} (h : LogB W b sv B dv sf lf st) (hm : lf ≤ 9223372036854775807) :
    Calls Tryd.prog 13 #[.pointer (some ⟨b, 0, none⟩)] W fun e W' => StopSays W b lf e W' := by
  have c4 := h.c4
  have f4 := h.fz 4
  rcases Int.lt_trichotomy lf 0 with h0 | h0 | h0
  · have d1 : decide (lf < 0) = true := decide_eq_true h0
    have HR : Hid (StopSays W b lf (.returned (.bool false)) W) := hide (Or.inl ⟨h0, rfl, rfl⟩)
    go_enter Tryd.func13, Tryd.ntmps13
    go_wp2
    go_ret
    exact unhide HR
  · subst h0
    have h1 := h.left (-1)
    have h2 := h1.stop true
    have d4 := h1.c4
    have d5 := h1.c5
    have e5 := h2.c5
    have f5 := h1.fz 5
    have HR : Hid (StopSays W b 0 (.returned (.bool true)) ((W.setCell ⟨b, 4, none⟩ (.int .i64 (-1))).setCell ⟨b, 5, none⟩ (.bool true))) := hide (Or.inr (Or.inl ⟨rfl, rfl, rfl⟩))
    clear h h1 h2
    go_enter Tryd.func13, Tryd.ntmps13
    go_wp2
    go_ret
    exact unhide HR
  · have h1 := h.left (lf - 1)
    have h2 := h1.stop false
    have d4 := h1.c4
    have d5 := h1.c5
    have e5 := h2.c5
    have f5 := h1.fz 5
    have d1 : decide (lf < 0) = false := decide_eq_false (by omega)
    have d2 : decide (lf - 1 < 0) = false := decide_eq_false (by omega)
    have HR : Hid (StopSays W b lf (.returned (.bool false)) ((W.setCell ⟨b, 4, none⟩ (.int .i64 (lf - 1))).setCell ⟨b, 5, none⟩ (.bool false))) := hide (Or.inr (Or.inr ⟨h0, rfl, rfl⟩))
    clear h h1 h2
    go_enter Tryd.func13, Tryd.ntmps13
    go_wp2
    go_ret
    exact unhide HR

section
variable {s : List Int} {B : Int} {Q : Nat → Prop} {W : World} {b : Nat} {a : Option Addr} {cap : Nat} {vd : Value} {D : List Int} {L : St} {lf sf : Int} {st : Bool}
set_option maxRecDepth 100000 in
set_option maxHeartbeats 4000000 in
theorem allL (h : LgM s B Q W b a cap vd D sf lf st) (hi : Inv L D lf) :
    Calls Tryd.prog 7 #[.pointer (some ⟨b, 0, none⟩)] W fun e W' => ∃ v, e = .returned v ∧ HasT W' W.heap.size v L.F ∧ Below W.heap.size W W' := by
  obtain ⟨T, hD, h1, h2, h3⟩ := hi.dat
  obtain ⟨p, q, rfl, hr, hq, _, _⟩ := h.dat.rowY
  have c2 := h.lay.c2
  have CW := hide (wholeL p q D L.F T W hD h1 hi.byts hi.frs hi.few hr hq (by have := hi.long.1; omega))
  obtain ⟨N, hN⟩ : ∃ N, D.length = N := ⟨_, rfl⟩
  rw [hN] at c2 CW
  clear h hi hD h1 h2 h3 hr hq hN
  go_enter Tryd.func7, Tryd.ntmps7
  go_wp2_with fail
  refine (unhide CW).mono ?_
  rintro e w1 ⟨v, rfl, hv, hb⟩
  go_wp2
  go_ret
  exact ⟨_, rfl, hv, hb⟩
end

end Go.Proofs.YtjojeifoddonnakDoor.Lg19
