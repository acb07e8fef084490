/-
  The landed hide.New, by its contract: whether there is one, and its fault.
-/
import Derived.Test.YtjojeifoddonnakGreatDoorLd03
import Derived.Test.YtjojeifoddonnakGreatDoorLd08
import Derived.Test.YtjojeifoddonnakGreatDoorLd33
import Derived.Test.YtjojeifoddonnakGreatDoorLd01
namespace Go.Proofs.YtjojeifoddonnakGreatDoor.Hid18
open Go.RowKit
open Go.Proofs.YtjojeifoddonnakGreatDoor.Tre Go.Proofs.YtjojeifoddonnakGreatDoor.Bnd Go.Proofs.YtjojeifoddonnakGreatDoor.Frm Go.Proofs.YtjojeifoddonnakGreatDoor.Pck Go.Proofs.YtjojeifoddonnakGreatDoor.Ev
set_option linter.unusedVariables false

set_option maxRecDepth 100000 in
set_option maxHeartbeats 8000000 in
theorem newB (a : Option Addr) (cap : Nat) (s : List Int) (B : Int) (w : World) (hs : Row w a s) (zs : s.length ≤ 17592186044416) :
    Calls Tryz.prog 16 #[.slice a s.length cap, .int .i64 B] w fun e W' => ((newF s B ≠ 0 ∧ e = .returned (.tuple #[.pointer none, errV (newF s B)])) ∨
      (newF s B = 0 ∧ ∃ b, e = .returned (.tuple #[.pointer (some ⟨b, 0, none⟩), .nilIface]))) ∧ Below w.heap.size w W' := by
  by_cases h1 : bf s = 0
  · have CB := hide (check_ok a cap s w (by omega) hs (hide h1))
    obtain ⟨n0, n8, hsz, n32⟩ := bf_ok h1
    have e1 : newF s B = if B < 0 ∨ 400 < B then 1 else if total s % 2 = 0 then 0 else 3 := by unfold newF; rw [if_pos h1]
    have HNH : Hid (∀ w1 v, Has w1 w.heap.size v s → ∃ a cap, v = .slice a s.length cap) := hide (fun w1 v hv => by obtain ⟨a, cap, h, _⟩ := hv.row; exact ⟨a, cap, h⟩)
    obtain ⟨b0, off0, rfl, hb0, hc0⟩ := hs.at (k := 0) (by omega)
    have CCL := hide (fun W hr => clone b0 off0 cap s.length s W (hide rfl) (by omega) hr)
    obtain ⟨NF, hNF⟩ : ∃ NF, newF s B = NF := ⟨_, rfl⟩
    rw [hNF] at e1 ⊢
    obtain ⟨TT, hTT⟩ : ∃ TT, total s = TT := ⟨_, rfl⟩
    obtain ⟨N, hN⟩ : ∃ N, s.length = N := ⟨_, rfl⟩
    rw [hTT] at n32 CB e1
    rw [hN] at CB CCL HNH ⊢
    have hmod : Int.tmod (TT : Int) 2 = ((TT % 2 : Nat) : Int) := rfl
    clear hTT hN h1 zs hsz n8 n0 hc0 hNF
    by_cases hB0 : B < 0
    · have d1 : decide (B < 0) = true := decide_eq_true hB0
      rw [if_pos (Or.inl hB0)] at e1
      subst e1
      rw [errV_ne (by omega)]
      clear HNH CCL
      go_enter Tryz.func16, Tryz.ntmps16
      go_wp2_with fail
      refine (unhide CB).mono ?_
      rintro e w1 ⟨rfl, hw1⟩
      obtain rfl : w = w1 := hw1.symm
      go_wp2
      go_ret2
      exact ⟨Or.inl ⟨by omega, rfl⟩, Below.refl _ _⟩
    · have d1 : decide (B < 0) = false := decide_eq_false hB0
      by_cases hB4 : 400 < B
      · have d2 : decide (400 < B) = true := decide_eq_true hB4
        rw [if_pos (Or.inr hB4)] at e1
        subst e1
        rw [errV_ne (by omega)]
        clear HNH CCL
        go_enter Tryz.func16, Tryz.ntmps16
        go_wp2_with fail
        refine (unhide CB).mono ?_
        rintro e w1 ⟨rfl, hw1⟩
        obtain rfl : w = w1 := hw1.symm
        go_wp2
        go_ret2
        exact ⟨Or.inl ⟨by omega, rfl⟩, Below.refl _ _⟩
      · have d2 : decide (400 < B) = false := decide_eq_false hB4
        rw [if_neg (by omega)] at e1
        by_cases hT : TT % 2 = 0
        · rw [if_pos hT] at e1
          rw [hT] at hmod
          subst e1
          clear hT
          go_enter Tryz.func16, Tryz.ntmps16
          go_wp2_with fail
          refine (unhide CB).mono ?_
          rintro e w1 ⟨rfl, hw1⟩
          obtain rfl : w = w1 := hw1.symm
          clear CB
          go_wp2_with fail
          refine (unhide CCL w hs).mono ?_
          clear CCL
          rintro e w2 ⟨v, rfl, hv, hb2⟩
          obtain ⟨a', cap', rfl⟩ := unhide HNH w2 v hv
          have hsz2 := hb2.size
          clear HNH hv
          go_wp2
          go_ret2
          exact ⟨Or.inr ⟨by first | trivial | rfl, _, rfl⟩, hb2.alloc hsz2 _⟩
        · rw [if_neg hT] at e1
          have h1 : TT % 2 = 1 := by omega
          rw [h1] at hmod
          subst e1
          rw [errV_ne (by omega)]
          clear hT h1 HNH CCL
          go_enter Tryz.func16, Tryz.ntmps16
          go_wp2_with fail
          refine (unhide CB).mono ?_
          rintro e w1 ⟨rfl, hw1⟩
          obtain rfl : w = w1 := hw1.symm
          go_wp2
          go_ret2
          exact ⟨Or.inl ⟨by omega, rfl⟩, Below.refl _ _⟩
  · have CB := hide (check_no a cap s w (by omega) hs (hide h1))
    have e1 : newF s B = bf s := by unfold newF; rw [if_neg h1]
    rw [e1]
    obtain ⟨F, hF⟩ : ∃ F, bf s = F := ⟨_, rfl⟩
    obtain ⟨N, hN⟩ : ∃ N, s.length = N := ⟨_, rfl⟩
    rw [hF] at h1 CB
    rw [hN] at CB
    rw [hF, hN, errV_ne h1]
    have HF := hide h1
    clear hF hN h1 e1 zs
    go_enter Tryz.func16, Tryz.ntmps16
    go_wp2_with fail
    refine (unhide CB).mono ?_
    rintro e w1 ⟨rfl, hw1⟩
    obtain rfl : w = w1 := hw1.symm
    go_wp2
    go_ret2
    exact ⟨Or.inl ⟨unhide HF, rfl⟩, Below.refl _ _⟩

end Go.Proofs.YtjojeifoddonnakGreatDoor.Hid18
