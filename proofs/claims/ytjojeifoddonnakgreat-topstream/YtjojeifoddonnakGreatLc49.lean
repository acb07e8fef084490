/-
  pack.Long: by its contract (Pack: PackPut; Unpack: PackUnp).
-/
import Derived.Test.YtjojeifoddonnakGreatLc46
import Derived.Test.YtjojeifoddonnakGreatLc47
namespace Go.Proofs.YtjojeifoddonnakGreat.Pck
open Go.RowKit
open Go.Proofs.YtjojeifoddonnakGreat.Tre Go.Proofs.YtjojeifoddonnakGreat.Bnd Go.Proofs.YtjojeifoddonnakGreat.Ev Go.Proofs.YtjojeifoddonnakGreat.Frm Go.Proofs.YtjojeifoddonnakGreat.Hrn
set_option linter.unusedVariables false

set_option maxRecDepth 100000 in
set_option maxHeartbeats 4000000 in
theorem long (b : Option Addr) (capb : Nat) (s : List Int) (B : Int) (w : World) (hs : Row w b s) (zs : s.length ≤ 17592186044416) :
    Calls Tryz.prog 7 #[.slice b s.length capb, .int .i64 B] w fun e w' => e = .returned (.tuple #[.int .i64 (longN s B), errV (longF s B)]) ∧ Below w.heap.size w w' := by
  have CCK := hide (checks b capb s B w hs (by omega))
  by_cases h : chkF s B = 0
  · obtain ⟨h1, hB0, hB4⟩ := chkF_zero h
    obtain ⟨n0, n8, hsz, n32⟩ := bf_ok h1
    rw [h, errV_zero] at CCK
    obtain ⟨BN, rfl⟩ : ∃ BN : Nat, B = BN := ⟨B.toNat, by omega⟩
    have e1 : longF s (BN : Int) = if 400 < 6 * (s.length : Int) + (BN : Int) then 4 else 0 := by unfold longF; rw [if_pos h1, if_pos ⟨hB0, hB4⟩]
    have e2 : longN s (BN : Int) = if longF s (BN : Int) = 0 then (6 * (s.length : Int) + (BN : Int) + 7) / 8 else 0 := rfl
    rw [e2, e1]
    obtain ⟨N, hN⟩ : ∃ N, s.length = N := ⟨_, rfl⟩
    rw [hN] at CCK n8 ⊢
    obtain ⟨M, hM⟩ : ∃ M, 6 * N = M := ⟨_, rfl⟩
    have wM : IntKind.i64.wrap (6 * (N : Int)) = (M : Int) := by rw [IntWalk.i64_in _ (by omega)]; omega
    obtain ⟨T, hT⟩ : ∃ T, M + BN = T := ⟨_, rfl⟩
    have wT : IntKind.i64.wrap ((M : Int) + (BN : Int)) = (T : Int) := by rw [IntWalk.i64_in _ (by omega)]; omega
    have eT : 6 * (N : Int) + (BN : Int) = (T : Int) := by omega
    have CBF := hide (fun W => bytesFor T W (by omega))
    rw [eT]
    clear hN h h1 zs e1 e2 hsz n32
    by_cases ht : 400 < (T : Int)
    · rw [if_pos ht, if_neg (by omega), errV_ne (by omega)]
      have d1 : decide (400 < (T : Int)) = true := by simpa using ht
      clear eT hM hT
      go_enter Tryz.func7, Tryz.ntmps7
      go_wp2_with fail
      refine (unhide CCK).mono ?_
      rintro e w1 ⟨rfl, hw1⟩
      obtain rfl : w = w1 := hw1.symm
      clear CCK
      go_wp2
      go_ret2
      exact ⟨rfl, Below.refl _ _⟩
    · rw [if_neg ht, if_pos rfl, errV_zero]
      have d1 : decide (400 < (T : Int)) = false := by simp; omega
      obtain ⟨Z, hZ⟩ : ∃ Z, (T + 7) / 8 = Z := ⟨_, rfl⟩
      have eZ : ((T : Int) + 7) / 8 = (Z : Int) := by omega
      rw [eZ]
      rw [hZ] at CBF
      clear eT hM hT hZ eZ
      go_enter Tryz.func7, Tryz.ntmps7
      go_wp2_with fail
      refine (unhide CCK).mono ?_
      rintro e w1 ⟨rfl, hw1⟩
      obtain rfl : w = w1 := hw1.symm
      clear CCK
      go_wp2_with fail
      refine (unhide CBF _).mono ?_
      rintro e w1 ⟨rfl, hw1⟩
      obtain rfl : w = w1 := hw1.symm
      go_wp2
      go_ret2
      exact ⟨rfl, Below.refl _ _⟩
  · obtain ⟨e1, e2⟩ := chkF_long h
    rw [e1, e2]
    rw [errV_ne h] at CCK ⊢
    obtain ⟨F, hF⟩ : ∃ F, chkF s B = F := ⟨_, rfl⟩
    obtain ⟨N, hN⟩ : ∃ N, s.length = N := ⟨_, rfl⟩
    rw [hF, hN] at CCK
    rw [hF, hN]
    clear hN hF h e1 e2 zs
    go_enter Tryz.func7, Tryz.ntmps7
    go_wp2_with fail
    refine (unhide CCK).mono ?_
    rintro e w1 ⟨rfl, hw1⟩
    obtain rfl : w = w1 := hw1.symm
    clear CCK
    go_wp2
    go_ret2
    exact ⟨rfl, Below.refl _ _⟩

end Go.Proofs.YtjojeifoddonnakGreat.Pck
