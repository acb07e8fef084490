/-
  The function that share.Of makes: by its contract.
-/
import Derived.Test.YtjojeifoddonnakDoorLb36
import Derived.Test.YtjojeifoddonnakDoorLb33
namespace Go.Proofs.YtjojeifoddonnakDoor.Shr
open Go.RowKit
open Go.Proofs.YtjojeifoddonnakDoor.Itr Go.Proofs.YtjojeifoddonnakDoor.Tre Go.Proofs.YtjojeifoddonnakDoor.Cnt Go.Proofs.YtjojeifoddonnakDoor.Bnd
set_option linter.unusedVariables false

set_option maxHeartbeats 4000000 in
theorem afford (i Bz Bp Bl : Nat) (s o : List Int) (L : Int) (w : World) (hi : i < o.length) (hl : s.length = o.length) (h8 : o.length ≤ 8) (hs : Sizes s) (h0 : 0 ≤ at0 o i) (h7 : at0 o i < 8) (hbz : BoxR w Bz s) (hbp : BoxR w Bp o) (hbl : Boxed w Bl 3 (.int .i64 L)) :
    Calls Tryd.prog 57 #[.int .i64 i, .pointer (some ⟨Bz, 0, none⟩), .pointer (some ⟨Bp, 0, none⟩), .pointer (some ⟨Bl, 0, none⟩)] w fun e w' => e = .returned (.bool (decide (pr (at0 s i).toNat (at0 o i).toNat ≤ L))) ∧ Below w.heap.size w w' := by
  obtain ⟨g1, off1, c1, z1, z2, z3⟩ := hbz
  obtain ⟨g2, off2, c2, p1, p2, p3⟩ := hbp
  have x1 := z1.cell
  have x2 := z3 i (by omega)
  have y1 := p1.cell
  have y2 := p3 i hi
  have s1 := hs i (by omega)
  obtain ⟨S, hS⟩ : ∃ S : Nat, at0 s i = S := ⟨(at0 s i).toNat, by omega⟩
  obtain ⟨P, hP⟩ : ∃ P : Nat, at0 o i = P := ⟨(at0 o i).toNat, by omega⟩
  have eS : (at0 s i).toNat = S := by omega
  have eP : (at0 o i).toNat = P := by omega
  rw [eS, eP]
  rw [hS] at x2 s1
  rw [hP] at y2 h0 h7
  have HPR := hide (fun W => price S P (by omega) (by omega) W)
  have hpr := pr_in (n := S) (k := P) (by omega) (by omega)
  obtain ⟨R, hR⟩ : ∃ R, pr S P = R := ⟨_, rfl⟩
  rw [hR] at HPR hpr ⊢
  obtain ⟨N, hN⟩ : ∃ N, o.length = N := ⟨_, rfl⟩
  rw [hl, hN] at x1
  rw [hN] at y1 hi h8
  have l1 := hbl.cell
  have X1 : ∀ W : Cls w, W.val.cell? ⟨Bz, 0, none⟩ = _ := fun W => W.cell z1.lt x1
  have X2 : ∀ W : Cls w, W.val.cell? ⟨g1, off1 + i, none⟩ = _ := fun W => W.cell z2 x2
  have Y1 : ∀ W : Cls w, W.val.cell? ⟨Bp, 0, none⟩ = _ := fun W => W.cell p1.lt y1
  have Y2 : ∀ W : Cls w, W.val.cell? ⟨g2, off2 + i, none⟩ = _ := fun W => W.cell p2 y2
  have L1 : ∀ W : Cls w, W.val.cell? ⟨Bl, 0, none⟩ = _ := fun W => W.cell hbl.lt l1
  clear z1 z2 z3 p1 p2 p3 hS hP eS eP hN hR hl hs hbl s1 h0 h7 x1 x2 y1 y2 l1
  go_enter Tryd.func57, Tryd.ntmps57
  go_wp2
  refine region_calm (by kernel_rfl) (by kernel_rfl) ?_
  repeat (go_big_quiet_step ((go_at_call 58; exact calm_call (unhide HPR _))))
  refine wpQuiet_nil ?_
  intro _ hw'
  obtain ⟨WQ, hw''⟩ := hw'
  subst hw''
  go_wp2
  go_ret
  exact ⟨rfl, WQ.ok⟩

end Go.Proofs.YtjojeifoddonnakDoor.Shr
