/-
  Package gain: Index: by its contract.
-/
import Derived.Test.YthkibjhhlcfceaiGreatDoorCh03
import Derived.Test.YthkibjhhlcfceaiGreatDoorCh15
namespace Go.Proofs.YthkibjhhlcfceaiGreatDoor.Gai
open Go.RowKit
set_option linter.unusedVariables false

theorem len (n m : Nat) (h0 : Hid (2 ^ m ≤ n)) (h1 : Hid (n < 2 ^ (m + 1))) (h : n ≤ 8000) (w : World) :
    Calls Tryz.prog 100 #[.int .u64 n] w fun e w' => e = .returned (.int .i64 ((m + 1 : Nat) : Int)) ∧ w' = w := by
  go_enter Tryz.func100, Tryz.ntmps100
  go_wp2_with fail
  have c := len64 n h w
  rw [len_is (unhide h0) (unhide h1) h] at c
  refine c.mono ?_
  clear c
  rintro e w1 ⟨rfl, rfl⟩
  go_wp2
  go_ret
  exact ⟨rfl, rfl⟩

theorem index_no (n : Int) (w : World) (h : n < 0 ∨ (0 ≤ n ∧ 8000 < n)) :
    Calls Tryz.prog 67 #[.int .i64 n] w fun e w' => e = .returned (.tuple #[.int .i64 0, .iface 63 (.int .i64 1)]) ∧ w' = w := by
  rcases h with h | ⟨h, g⟩
  all_goals
    go_enter Tryz.func67, Tryz.ntmps67
    go_wp2
    go_ret2
    exact ⟨rfl, rfl⟩

theorem index_ok (n : Nat) (h : n ≤ 8000) (w : World) :
    Calls Tryz.prog 67 #[.int .i64 n] w fun e w' => e = .returned (.tuple #[.int .i64 (gi n), .nilIface]) ∧ w' = w := by
  rcases Nat.eq_zero_or_pos n with e | hn
  · subst e
    go_enter Tryz.func67, Tryz.ntmps67
    go_wp2
    go_ret2
    exact ⟨rfl, rfl⟩
  · obtain ⟨m, h0, h1⟩ := log_is hn
    have hm := log_in h0 h
    have hg := hide (gi_is h0 h1 rfl)
    have H0 := hide h0
    have H1 := hide h1
    have hz : ((n : Int) == 0) = false := by simp; omega
    have hc := hide (len n m H0 H1 h w)
    have ec : (2 : Int) ^ m = ((2 ^ m : Nat) : Int) := by simp
    obtain ⟨P, hP⟩ : ∃ P, 2 ^ m = P := ⟨_, rfl⟩
    have h1' : n < 2 * P := by rw [← hP]; rw [Nat.pow_succ] at h1; omega
    have hp : 0 < P := by rw [← hP]; exact Nat.two_pow_pos m
    rw [hP] at h0 ec hg
    obtain ⟨q, hq⟩ : ∃ q, (n - P) * 4 / P = q := ⟨_, rfl⟩
    have hq3 : q ≤ 3 := by
      rw [← hq]
      have : (n - P) * 4 / P < 4 := (Nat.div_lt_iff_lt_mul hp).2 (by omega)
      omega
    rw [hq] at hg
    have ed : Int.tdiv (((n : Int) - (P : Int)) * 4) (P : Int) = (q : Int) := by
      rw [show ((n : Int) - (P : Int)) * 4 = (((n - P) * 4 : Nat) : Int) by omega, ← Int.ofNat_tdiv, hq]
    have ez : ((P : Int) == 0) = false := by simp; omega
    rw [unhide hg]
    clear h1 hP hg H0 H1 hq
    go_enter Tryz.func67, Tryz.ntmps67
    go_wp2_with fail
    refine (unhide hc).mono ?_
    rintro e w1 ⟨rfl, rfl⟩
    go_wp2
    go_ret2
    refine ⟨?_, rfl⟩
    first | rfl | (simp; done) | (simp; omega)

end Go.Proofs.YthkibjhhlcfceaiGreatDoor.Gai
