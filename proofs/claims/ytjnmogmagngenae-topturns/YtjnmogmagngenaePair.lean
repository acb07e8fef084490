/-
  What each function of package pair does, called with any numbers: contracts.
-/
import Derived.Test.YtjnmogmagngenaeBase
namespace Go.Proofs.Ytjnmogmagngenae.Par
open Go.RowKit
set_option linter.unusedVariables false

def out (n b : Int) : Bool := decide (n < -b) || decide (b < n)

theorem beyond (n b : Int) (w : World) (h0 : 0 ≤ b) (h1 : b ≤ 8000) :
    Calls Try.prog 74 #[.int .i64 n, .int .i64 b] w fun e w' => e = .returned (.bool (out n b)) ∧ w' = w := by
  by_cases h2 : n < -b
  · have h3 : decide (n < -b) = true := by simpa using h2
    go_enter Try.func74, Try.ntmps74
    go_wp2
    go_ret
    exact ⟨by simp [out, h3], rfl⟩
  · have h3 : decide (n < -b) = false := by simpa using h2
    go_enter Try.func74, Try.ntmps74
    go_wp2
    go_ret
    exact ⟨by simp [out, h3], rfl⟩

theorem half (n : Int) (w : World) (h0 : -100000 ≤ n) (h1 : n ≤ 100000) :
    Calls Try.prog 75 #[.int .i64 n] w fun e w' => e = .returned (.int .i64 (n / 2)) ∧ w' = w := by
  go_enter Try.func75, Try.ntmps75
  go_wp2
  go_ret
  exact ⟨rfl, rfl⟩

theorem out_no {n b : Int} (h0 : -b ≤ n) (h1 : n ≤ b) : out n b = false := by simp [out]; omega
theorem out_in {n b : Int} (h : out n b = false) : -b ≤ n ∧ n ≤ b := by simp [out] at h; omega

end Go.Proofs.Ytjnmogmagngenae.Par
