/-
  hornsame.Error, with an error and without: one contract.
-/
import Derived.Test.YthkibjhhlcfceaiGreatDoorPk14
import Derived.Test.YthkibjhhlcfceaiGreatDoorPk41
import Derived.Test.YthkibjhhlcfceaiGreatDoorPk34
import Derived.Test.YthkibjhhlcfceaiGreatDoorPk40
import Derived.Test.YthkibjhhlcfceaiGreatDoorPk00
import Derived.ProofKit
import Derived.OpenShut
import Derived.ShutString
import Derived.ChangeOld
import Derived.SizedLaws
namespace Go.Proofs.YthkibjhhlcfceaiGreatDoor.Ev
open Go.RowKit
open Go.Proofs.YthkibjhhlcfceaiGreatDoor.Tre Go.Proofs.YthkibjhhlcfceaiGreatDoor.Aser
set_option linter.unusedVariables false

theorem error_any (E : Int) (w : World) (hL : Laid w) : Calls Tryz.prog 7 #[errV E, .int .i64 E] w fun e w' => e = .returned (.bool true) ∧ Below w.heap.size w w' := by
  by_cases h : E = 0
  · subst h
    exact (error_nil w).mono fun e w' ⟨he, hw⟩ => ⟨he, by rw [hw]; exact Below.refl _ _⟩
  · rw [errV_ne h]
    exact error_is E w hL

end Go.Proofs.YthkibjhhlcfceaiGreatDoor.Ev

/-
  The walk of hornlaw3.PackTells.
-/
namespace Go.Proofs.YthkibjhhlcfceaiGreatDoor.PackTellsLaw
open Go.RowKit
open Go.Proofs.YthkibjhhlcfceaiGreatDoor.Tre Go.Proofs.YthkibjhhlcfceaiGreatDoor.Frm Go.Proofs.YthkibjhhlcfceaiGreatDoor.Pck Go.Proofs.YthkibjhhlcfceaiGreatDoor.Ev Go.Proofs.YthkibjhhlcfceaiGreatDoor.Same Go.Proofs.YthkibjhhlcfceaiGreatDoor.Aser Go.Proofs.YthkibjhhlcfceaiGreatDoor.Hrn
set_option linter.unusedVariables false

theorem unp_small {b s : List Int} {B E : Int} {ps : List Prt} (h : UnpF b s B E ps) : ps.length ≤ 8 ∧ ∀ i, i < ps.length → (prt ps i).2.length ≤ 6 := by
  rcases h with ⟨_, _, rfl⟩ | ⟨h1, h⟩
  · exact ⟨by simp, fun i hi => by simp at hi⟩
  · rcases h with ⟨_, _, rfl⟩ | ⟨_, h⟩
    · exact ⟨by simp, fun i hi => by simp at hi⟩
    · rcases h with ⟨_, _, rfl⟩ | ⟨h, _⟩
      · exact ⟨by simp, fun i hi => by simp at hi⟩
      · have hr := (frm_zero h.1).2.2.2
        exact ⟨by rw [hr.len]; exact (Bnd.bf_ok h1).2.1, fun i hi => (right_in hr hi).1⟩

set_option maxRecDepth 100000 in
set_option maxHeartbeats 32000000 in
theorem walk0 (a0 : Option Addr) (cap0 : Nat) (ps : List Prt) (a1 : Option Addr) (cap1 : Nat) (s : List Int) (B : Int) (x : ByteArray) (w : World) (hL : Laid w) (hp : Pts w a0 ps) (zp : ps.length ≤ 17592186044416) (zl : Hid (∀ i, i < ps.length → (prt ps i).2.length ≤ 17592186044416)) (hr : Row w a1 s) (zs : s.length ≤ 17592186044416) (zx : x.size ≤ 9223372036854775807) :
    Calls Tryz.prog 4 #[.slice a0 ps.length cap0, .slice a1 s.length cap1, .int .i64 B, .string x] w fun e w' => e = .returned (.bool true) ∧ Below w.heap.size w w' := by
  have hgd := guard_err
  have hne := neq_err
  have heq := eql_err
  have C1 := refPack a0 cap0 ps a1 cap1 s B w hp hr (by omega) (by omega)
  unfold PackPost at C1
  have C2 := hide (fun W h h' => Pck.pack a0 cap0 ps a1 cap1 s B W h h' zp zl zs)
  unfold PackSays at C2
  have C3 := hide (fun W h => refUnpack x a1 cap1 s B W zx h (by omega))
  unfold UnpPost at C3
  have C4 := hide (fun W h => Pck.unpack x a1 cap1 s B W zx h zs)
  unfold UnpSays at C4
  have C5O := hide (fun W h (h1 : Bnd.bf s = 0) => Bnd.refBands_ok a1 cap1 s W (by omega) h (hide h1))
  have C5N := hide (fun W h (h1 : Bnd.bf s ≠ 0) => Bnd.refBands_no a1 cap1 s W (by omega) h (hide h1))
  have C6 := hide (fun W h => Pck.long a1 cap1 s B W h zs)
  have hway : (∃ F, F ≠ 0 ∧ Bnd.bf s = F) ∨ (Bnd.bf s = 0 ∧ B < 0) ∨ (Bnd.bf s = 0 ∧ 0 ≤ B ∧ 400 < B) ∨ (Bnd.bf s = 0 ∧ 0 ≤ B ∧ B ≤ 400 ∧ 400 < 6 * (s.length : Int) + B ∧ s.length ≤ 8) ∨ (Bnd.bf s = 0 ∧ 0 ≤ B ∧ B ≤ 400 ∧ 6 * (s.length : Int) + B ≤ 400 ∧ s.length ≤ 8) := by
    by_cases e1 : Bnd.bf s = 0
    · have h8 := (Bnd.bf_ok e1).2.1
      by_cases e2 : B < 0
      · exact Or.inr (Or.inl ⟨e1, e2⟩)
      · by_cases e3 : 400 < B
        · exact Or.inr (Or.inr (Or.inl ⟨e1, by omega, e3⟩))
        · by_cases e4 : 400 < 6 * (s.length : Int) + B
          · exact Or.inr (Or.inr (Or.inr (Or.inl ⟨e1, by omega, by omega, e4, h8⟩)))
          · exact Or.inr (Or.inr (Or.inr (Or.inr ⟨e1, by omega, by omega, by omega, h8⟩)))
    · exact Or.inl ⟨_, e1, rfl⟩
  have HLF : Hid (longF s B = if Bnd.bf s = 0 then (if 0 ≤ B ∧ B ≤ 400 then (if 400 < 6 * (s.length : Int) + B then 4 else 0) else 1) else Bnd.bf s) := hide rfl
  have HLN : Hid (longN s B = if longF s B = 0 then (6 * (s.length : Int) + B + 7) / 8 else 0) := hide rfl
  obtain ⟨PL, hPL⟩ : ∃ PL, ps.length = PL := ⟨_, rfl⟩
  obtain ⟨N, hN⟩ : ∃ N, s.length = N := ⟨_, rfl⟩
  rw [hPL] at C1 C2 ⊢
  rw [hN] at C1 C2 C3 C4 C5O C5N C6 hway HLF HLN zs ⊢
  have HW := hide hway
  clear hPL hN zl hway zp
  go_enter Tryz.func4, Tryz.ntmps4
  go_wp2_with fail
  refine C1.mono ?_
  clear C1
  rintro e w1 ⟨E1, rfl, H1, hb1⟩
  go_wp2_with fail
  refine (unhide C2 w1 (hp.below hb1) (hr.below hb1)).mono ?_
  clear C2
  rintro e w2 ⟨E2, rfl, H2, hb2⟩
  obtain rfl := H2.one H1
  have hB2 := Below.chain hb1 hb2
  obtain ⟨Z, hZ⟩ : ∃ Z, pstr ps E2 = Z := ⟨_, rfl⟩
  rw [hZ]
  have hzz : (Z.toList == Z.toList) = true := by simp
  clear H1 H2 hZ hb1 hb2
  go_wp2_with fail
  refine (error_any E2 w2 (hL.below hB2)).mono ?_
  rintro e w3 ⟨rfl, hb3⟩
  have hB3 := Below.chain hB2 hb3
  clear hb3 hB2
  go_wp2_with fail
  refine (unhide C3 w3 (hr.below hB3)).mono ?_
  clear C3
  rintro e w4 ⟨E4, p4, q4, l4, rfl, P4, m4, m49, U4, hb4⟩
  have hB4 := Below.chain hB3 hb4
  clear hb4 hB3
  go_wp2_with fail
  refine (unhide C4 w4 (hr.below hB4)).mono ?_
  clear C4
  rintro e w5 ⟨E5, p5, q5, l5, rfl, P5, m5, m59, U5, hb5⟩
  obtain ⟨rfl, rfl⟩ := U5.one U4
  have P4' := P4.pts.below hb5
  have hB5 := Below.chain hB4 hb5
  obtain ⟨s1, s2⟩ := unp_small U4
  have HSM : Hid (l5.length ≤ 8) := hide s1
  have C7 := hide (fun W h h' => parts_same p5 q5 p4 q4 l5 W (by omega) h h')
  obtain ⟨M, hM⟩ : ∃ M, l5.length = M := ⟨_, rfl⟩
  rw [hM] at C7 ⊢
  clear U4 U5 hb5 hB4 P4 s1 s2 hM m4 m5 m49 m59
  go_wp2_with fail
  refine (error_any E5 w5 (hL.below hB5)).mono ?_
  rintro e w6 ⟨rfl, hb6⟩
  have hB6 := Below.chain hB5 hb6
  have c7 := unhide C7 w6 (P5.pts.below hb6) (P4'.below hb6)
  clear C7 P5 P4' hb6 hB5
  go_wp2_with fail
  refine c7.mono ?_
  clear c7
  rintro e w7 ⟨rfl, hb7⟩
  have hB7 := Below.chain hB6 hb7
  have r7 := hr.below hB7
  obtain ⟨TT, hTT⟩ : ∃ TT, Bnd.total s = TT := ⟨_, rfl⟩
  rw [hTT] at C5O
  clear hb7 hB6 hTT
  rcases unhide HW with ⟨F, hF, e1⟩ | ⟨e1, e2⟩ | ⟨e1, e2, e3⟩ | ⟨e1, e2, e3, e4, e8⟩ | ⟨e1, e2, e3, e4, e8⟩
  · have c5 := unhide C5N w7 r7 (by rw [e1]; exact hF)
    have hlf : longF s B = F := by rw [unhide HLF, e1, if_neg hF]
    have hln : longN s B = 0 := by rw [unhide HLN, hlf, if_neg hF]
    rw [hlf, hln] at C6
    rw [e1] at c5
    have n1 : (F == 0) = false := by rw [beq_eq_false_iff_ne]; exact hF
    clear C5O C5N HW HLF HLN e1 hlf hln
    go_wp2_with fail
    refine c5.mono ?_
    clear c5
    rintro e w8 ⟨rfl, hb8⟩
    have hB8 := Below.chain hB7 hb8
    go_wp2_with fail
    refine (unhide C6 w8 (hr.below hB8)).mono ?_
    clear C6
    rintro e w9 ⟨rfl, hb9⟩
    have hB9 := Below.chain hB8 hb9
    go_wp2_with fail
    refine (error_any F w9 (hL.below hB9)).mono ?_
    rintro e wa ⟨rfl, hba⟩
    go_wp2
    go_ret
    exact ⟨rfl, Below.chain hB9 hba⟩
  all_goals (
    have c5 := unhide C5O w7 r7 e1
    have hlf := unhide HLF
    rw [if_pos e1] at hlf)
  · have hlf2 : longF s B = 1 := by rw [hlf, if_neg (by omega)]
    have hln : longN s B = 0 := by rw [unhide HLN, hlf2, if_neg (by omega)]
    rw [hlf2, hln] at C6
    have d1 : decide (B < 0) = true := by simpa using e2
    clear C5O C5N HW HLF HLN e1 hlf hlf2 hln
    go_wp2_with fail
    refine c5.mono ?_
    clear c5
    rintro e w8 ⟨rfl, hb8⟩
    have hB8 := Below.chain hB7 hb8
    go_wp2_with fail
    refine (unhide C6 w8 (hr.below hB8)).mono ?_
    clear C6
    rintro e w9 ⟨rfl, hb9⟩
    have hB9 := Below.chain hB8 hb9
    go_wp2_with fail
    refine (error_any 1 w9 (hL.below hB9)).mono ?_
    rintro e wa ⟨rfl, hba⟩
    go_wp2
    go_ret
    exact ⟨rfl, Below.chain hB9 hba⟩
  · have hlf2 : longF s B = 1 := by rw [hlf, if_neg (by omega)]
    have hln : longN s B = 0 := by rw [unhide HLN, hlf2, if_neg (by omega)]
    rw [hlf2, hln] at C6
    have d1 : decide (B < 0) = false := by simp; omega
    have d2 : decide (400 < B) = true := by simpa using e3
    clear C5O C5N HW HLF HLN e1 hlf hlf2 hln
    go_wp2_with fail
    refine c5.mono ?_
    clear c5
    rintro e w8 ⟨rfl, hb8⟩
    have hB8 := Below.chain hB7 hb8
    go_wp2_with fail
    refine (unhide C6 w8 (hr.below hB8)).mono ?_
    clear C6
    rintro e w9 ⟨rfl, hb9⟩
    have hB9 := Below.chain hB8 hb9
    go_wp2_with fail
    refine (error_any 1 w9 (hL.below hB9)).mono ?_
    rintro e wa ⟨rfl, hba⟩
    go_wp2
    go_ret
    exact ⟨rfl, Below.chain hB9 hba⟩
  · have hlf2 : longF s B = 4 := by rw [hlf, if_pos ⟨e2, e3⟩, if_pos e4]
    have hln : longN s B = 0 := by rw [unhide HLN, hlf2, if_neg (by omega)]
    rw [hlf2, hln] at C6
    have d1 : decide (B < 0) = false := by simp; omega
    have d2 : decide (400 < B) = false := by simp; omega
    have d3 : decide (400 < 6 * (N : Int) + B) = true := by simpa using e4
    have w6N : IntKind.i64.wrap (6 * (N : Int)) = 6 * (N : Int) := IntWalk.i64_in _ (by omega)
    have w6B : IntKind.i64.wrap (6 * (N : Int) + B) = 6 * (N : Int) + B := IntWalk.i64_in _ (by omega)
    clear C5O C5N HW HLF HLN e1 hlf hlf2 hln
    go_wp2_with fail
    refine c5.mono ?_
    clear c5
    rintro e w8 ⟨rfl, hb8⟩
    have hB8 := Below.chain hB7 hb8
    go_wp2_with fail
    refine (unhide C6 w8 (hr.below hB8)).mono ?_
    clear C6
    rintro e w9 ⟨rfl, hb9⟩
    have hB9 := Below.chain hB8 hb9
    go_wp2_with fail
    refine (error_any 4 w9 (hL.below hB9)).mono ?_
    rintro e wa ⟨rfl, hba⟩
    go_wp2
    go_ret
    exact ⟨rfl, Below.chain hB9 hba⟩
  · have hlf2 : longF s B = 0 := by rw [hlf, if_pos ⟨e2, e3⟩, if_neg (by omega)]
    obtain ⟨Q, hQ⟩ : ∃ Q, (6 * (N : Int) + B + 7) / 8 = Q := ⟨_, rfl⟩
    have hln : longN s B = Q := by rw [unhide HLN, hlf2, if_pos rfl, hQ]
    rw [hlf2, hln, errV_zero] at C6
    have d1 : decide (B < 0) = false := by simp; omega
    have d2 : decide (400 < B) = false := by simp; omega
    have d3 : decide (400 < 6 * (N : Int) + B) = false := by simp; omega
    have w6N : IntKind.i64.wrap (6 * (N : Int)) = 6 * (N : Int) := IntWalk.i64_in _ (by omega)
    have w6B : IntKind.i64.wrap (6 * (N : Int) + B) = 6 * (N : Int) + B := IntWalk.i64_in _ (by omega)
    have w7B : IntKind.i64.wrap (6 * (N : Int) + B + 7) = 6 * (N : Int) + B + 7 := IntWalk.i64_in _ (by omega)
    have tQ : Int.tdiv (6 * (N : Int) + B + 7) 8 = Q := by rw [Int.tdiv_eq_ediv_of_nonneg (by omega)]; exact hQ
    have hQ0 : 0 ≤ Q := by omega
    have hQ9 : Q ≤ 51 := by omega
    have hqq : (Q == Q) = true := by simp
    clear C5O C5N HW HLF HLN e1 hlf hlf2 hln hQ
    go_wp2_with fail
    refine c5.mono ?_
    clear c5
    rintro e w8 ⟨rfl, hb8⟩
    have hB8 := Below.chain hB7 hb8
    go_wp2_with fail
    refine (unhide C6 w8 (hr.below hB8)).mono ?_
    clear C6
    rintro e w9 ⟨rfl, hb9⟩
    have hB9 := Below.chain hB8 hb9
    go_wp2_with fail
    refine (error_any 0 w9 (hL.below hB9)).mono ?_
    rintro e wa ⟨rfl, hba⟩
    go_wp2
    go_ret
    exact ⟨rfl, Below.chain hB9 hba⟩

end Go.Proofs.YthkibjhhlcfceaiGreatDoor.PackTellsLaw

/-
  What each frame of a law of this seat takes: no knob of its own, and all types are laid out.
-/
namespace Go.Proofs.YthkibjhhlcfceaiGreatDoor
open Go.ChangeShapes Go.WideShapes Go.ChangeAt Go.RowKit
set_option linter.unusedVariables false

theorem own : ownKnob Tryz.prog.godebug = none := by kernel_rfl
theorem laidOut : laidOutB Tryz.prog = true := by kernel_rfl

end Go.Proofs.YthkibjhhlcfceaiGreatDoor
