/-
  width.Put of one number: by its contracts.
-/
import Derived.Test.YtpinmcgaaplkiagDoorWidthFaces
namespace Go.Proofs.YtpinmcgaaplkiagDoor.Wid
open Go.RowKit
open Go.Proofs.YtpinmcgaaplkiagDoor.Tre Go.Proofs.YtpinmcgaaplkiagDoor.Bnd Go.Proofs.YtpinmcgaaplkiagDoor.Hrn
set_option linter.unusedVariables false

theorem put_one (x y : Int) : putF [x] [y] = if Fit x y then 0 else 1 := by
  have e : puts [x] [y] = bin y.toNat x := by simp [puts, bins, at0]
  unfold putF
  rw [if_pos (show [x].length = [y].length from rfl), e, bin_length]
  by_cases h : Fit x y
  · rw [if_pos h, if_pos (by rw [pf, if_pos h]; rfl), if_neg (by have := h.2.1; omega)]
  · rw [if_neg h, if_neg (by rw [pf, if_neg h]; omega)]
theorem puts_one (x y : Int) : puts [x] [y] = bin y.toNat x := by simp [puts, bins, at0]
theorem bin_ones (w : Nat) : bin w (2 ^ w - 1) = upto (fun _ => 1) w := by
  have key : ∀ w : Nat, bin w (2 ^ w - 1) = List.replicate w 1 := by
    intro w
    induction w with
    | zero => rfl
    | succ w ih =>
      have hp := two_pos w
      have e1 : ((2 : Int) ^ (w + 1) - 1) / 2 ^ w = 1 := by
        rw [two_succ, show (2 : Int) * 2 ^ w - 1 = (2 ^ w - 1) + 2 ^ w * 1 by omega, Int.add_mul_ediv_left _ _ (by omega), Int.ediv_eq_zero_of_lt (by omega) (by omega)]
        rfl
      have e2 : ((2 : Int) ^ (w + 1) - 1) % 2 ^ w = 2 ^ w - 1 := by
        rw [two_succ, show (2 : Int) * 2 ^ w - 1 = (2 ^ w - 1) + 2 ^ w * 1 by omega, Int.add_mul_emod_self_left, Int.emod_eq_of_lt (by omega) (by omega)]
      rw [bin, e1, e2, ih, List.replicate_succ]
  rw [key]
  refine eq_of_at (by rw [upto_length, List.length_replicate]) fun i hi => ?_
  rw [List.length_replicate] at hi
  rw [upto_at _ hi]
  simp [at0, hi]

theorem row_old {w : World} {a : Option Addr} {l : List Int} (h : Row w a l) (o : Obj) : Row (w.alloc o) a l := h.below ((Below.refl _ _).alloc (Nat.le_refl _) _)
theorem two_below (w : World) (o p : Obj) : Below w.heap.size w ((w.alloc o).alloc p) := ((Below.refl _ _).alloc (Nat.le_refl _) _).alloc (by simp) _
theorem one_no (x y : Int) (p1 p2 : Nat) (w : World) (t t' : TypeId) (h1 : w.heap.size = p1) (h2 : (w.alloc (.cells #[.int .i64 x] t)).heap.size = p2) (h : ¬ Fit x y) :
    Calls Tryd.prog 16 #[.slice (some ⟨p1, 0, none⟩) 1 1, .slice (some ⟨p2, 0, none⟩) 1 1] ((w.alloc (.cells #[.int .i64 x] t)).alloc (.cells #[.int .i64 y] t'))
      fun e w' => e = .returned (.tuple #[.slice none 0 0, .iface 48 (.int .i64 1)]) ∧ Below w.heap.size w w' := by
  have hr := row_old (row_one' (x := x) (t := t) h1) (.cells #[.int .i64 y] t')
  have hs := row_one' (x := y) (t := t') h2
  refine (put_no _ 1 [x] _ 1 [y] 1 _ hr hs (by simp) (by simp) (hide (by rw [put_one, if_neg h])) (hide (by omega))).mono ?_
  rintro e w' ⟨he, hb⟩
  exact ⟨he, Below.chain (two_below w _ _) hb⟩
theorem one_ok (x y : Int) (p1 p2 : Nat) (w : World) (t t' : TypeId) (h1 : w.heap.size = p1) (h2 : (w.alloc (.cells #[.int .i64 x] t)).heap.size = p2) (h : Fit x y) :
    Calls Tryd.prog 16 #[.slice (some ⟨p1, 0, none⟩) 1 1, .slice (some ⟨p2, 0, none⟩) 1 1] ((w.alloc (.cells #[.int .i64 x] t)).alloc (.cells #[.int .i64 y] t'))
      fun e w' => ∃ v, e = .returned (.tuple #[v, .nilIface]) ∧ Has w' w.heap.size v (bin y.toNat x) ∧ Below w.heap.size w w' := by
  have hr := row_old (row_one' (x := x) (t := t) h1) (.cells #[.int .i64 y] t')
  have hs := row_one' (x := y) (t := t') h2
  refine (put_ok _ 1 [x] _ 1 [y] _ hr hs (by simp) (by simp) (hide (by rw [put_one, if_pos h]))).mono ?_
  rintro e w' ⟨v, he, hv, hb⟩
  rw [puts_one] at hv
  exact ⟨v, he, hv.mono (by simp; omega), Below.chain (two_below w _ _) hb⟩

end Go.Proofs.YtpinmcgaaplkiagDoor.Wid
