/-
  math/bits.Len64, of a number up to 8000: by its contract.
-/
import Derived.Test.YtkkhgdkgbhdfaakGreatDoorRows
import Derived.Lib.Walk
import Derived.Lib.Small
import Derived.Lib.BitFns
namespace Go.Proofs.YtkkhgdkgbhdfaakGreatDoor.Gai
set_option linter.unusedVariables false

set_option maxRecDepth 100000 in
set_option maxHeartbeats 4000000 in
theorem len64 (n : Nat) (h : n ≤ 8000) (w : World) :
    Calls Tryz.prog 170 #[.int .u64 n] w fun e w' => e = .returned (.int .i64 (Lib.bitLen n)) ∧ w' = w := by
  by_cases hn : n < 256
  · have e : ((n : Int) % 256).toNat = n := by omega
    have l := Lib.bitLen_le8' ((n : Int) % 256) (by omega) (by omega)
    go_enter Tryz.func170, Tryz.ntmps170
    go_wp2
    go_ret
    refine ⟨congrArg (fun x => Ending.returned (Value.int IntKind.i64 x)) ?_, rfl⟩
    rw [Lib.len8_of ((n : Int) % 256) (by omega) (by omega), e]
    rw [e] at l
    omega
  · have e : ((n : Int) / 256 % 256).toNat = n / 256 := by omega
    have l := Lib.bitLen_le8' ((n : Int) / 256 % 256) (by omega) (by omega)
    have s := Lib.bitLen_shift8 n (by omega) (by omega)
    go_enter Tryz.func170, Tryz.ntmps170
    go_wp2
    go_ret
    refine ⟨congrArg (fun x => Ending.returned (Value.int IntKind.i64 x)) ?_, rfl⟩
    rw [Lib.len8_of ((n : Int) / 256 % 256) (by omega) (by omega), e]
    rw [e] at l
    omega

end Go.Proofs.YtkkhgdkgbhdfaakGreatDoor.Gai
