/-
  pack.check, Unpack, Long: by their contracts (Pack: PackPut).
-/
import Derived.Test.YthkibjhhlcfceajGreatDoorBa33
import Derived.Test.YthkibjhhlcfceajGreatDoorBa36
namespace Go.Proofs.YthkibjhhlcfceajGreatDoor.Pck
open Go.RowKit
open Go.Proofs.YthkibjhhlcfceajGreatDoor.Tre Go.Proofs.YthkibjhhlcfceajGreatDoor.Bnd Go.Proofs.YthkibjhhlcfceajGreatDoor.Ev Go.Proofs.YthkibjhhlcfceajGreatDoor.Frm Go.Proofs.YthkibjhhlcfceajGreatDoor.Hrn
set_option linter.unusedVariables false

/-- The fault of sizes and bits. -/
def chkF (s : List Int) (B : Int) : Int := if bf s = 0 then (if 0 ≤ B ∧ B ≤ 400 then 0 else 1) else bf s
theorem chkF_long {s : List Int} {B : Int} (h : chkF s B ≠ 0) : longF s B = chkF s B ∧ longN s B = 0 := by
  have e : longF s B = chkF s B := by
    unfold chkF at h
    unfold longF chkF
    split
    · rename_i h1
      rw [if_pos h1] at h
      split
      · rename_i h2
        rw [if_pos h2] at h
        exact absurd rfl h
      · rfl
    · rfl
  refine ⟨e, ?_⟩
  unfold longN
  rw [e, if_neg h]
theorem chkF_zero {s : List Int} {B : Int} (h : chkF s B = 0) : bf s = 0 ∧ 0 ≤ B ∧ B ≤ 400 := by
  unfold chkF at h
  split at h
  · rename_i h1
    split at h
    · rename_i h2
      exact ⟨h1, h2.1, h2.2⟩
    · omega
  · rename_i h1; exact absurd h h1
theorem chkF_unp {b s : List Int} {B : Int} (h : chkF s B ≠ 0) : UnpF b s B (chkF s B) [] := by
  by_cases h1 : bf s = 0
  · have h2 : ¬ (0 ≤ B ∧ B ≤ 400) := fun h2 => h (by unfold chkF; rw [if_pos h1, if_pos h2])
    exact Or.inr ⟨h1, Or.inl ⟨h2, by unfold chkF; rw [if_pos h1, if_neg h2], rfl⟩⟩
  · exact Or.inl ⟨h1, by unfold chkF; rw [if_neg h1], rfl⟩

set_option maxHeartbeats 4000000 in
theorem checks (b : Option Addr) (capb : Nat) (s : List Int) (B : Int) (w : World) (hs : Row w b s) (zs : s.length ≤ 9223372036854775807) :
    Calls Tryz.prog 21 #[.slice b s.length capb, .int .i64 B] w fun e w' => e = .returned (errV (chkF s B)) ∧ w' = w := by
  by_cases h1 : bf s = 0
  · have CB := hide (Bnd.check_ok b capb s w zs hs (hide h1))
    have e1 : chkF s B = if 0 ≤ B ∧ B ≤ 400 then 0 else 1 := by unfold chkF; rw [if_pos h1]
    rw [e1]
    obtain ⟨TT, hTT⟩ : ∃ TT, total s = TT := ⟨_, rfl⟩
    obtain ⟨N, hN⟩ : ∃ N, s.length = N := ⟨_, rfl⟩
    rw [hTT, hN] at CB
    rw [hN]
    clear hTT hN h1 e1 zs
    by_cases hB : 0 ≤ B ∧ B ≤ 400
    · rw [if_pos hB, errV_zero]
      have d1 : decide (B < 0) = false := by simp; omega
      have d2 : decide (400 < B) = false := by simp; omega
      go_enter Tryz.func21, Tryz.ntmps21
      go_wp2_with fail
      refine (unhide CB).mono ?_
      rintro e w1 ⟨rfl, hw1⟩
      obtain rfl : w = w1 := hw1.symm
      go_wp2
      go_ret
      exact ⟨rfl, rfl⟩
    · rw [if_neg hB, errV_ne (by omega)]
      by_cases hb0 : B < 0
      · have d1 : decide (B < 0) = true := by simpa using hb0
        go_enter Tryz.func21, Tryz.ntmps21
        go_wp2_with fail
        refine (unhide CB).mono ?_
        rintro e w1 ⟨rfl, hw1⟩
        obtain rfl : w = w1 := hw1.symm
        go_wp2
        go_ret
        exact ⟨rfl, rfl⟩
      · have d1 : decide (B < 0) = false := by simpa using hb0
        have d2 : decide (400 < B) = true := by simp; omega
        go_enter Tryz.func21, Tryz.ntmps21
        go_wp2_with fail
        refine (unhide CB).mono ?_
        rintro e w1 ⟨rfl, hw1⟩
        obtain rfl : w = w1 := hw1.symm
        go_wp2
        go_ret
        exact ⟨rfl, rfl⟩
  · have CB := hide (Bnd.check_no b capb s w zs hs (hide h1))
    have e1 : chkF s B = bf s := by unfold chkF; rw [if_neg h1]
    rw [e1, errV_ne h1]
    obtain ⟨F, hF⟩ : ∃ F, bf s = F := ⟨_, rfl⟩
    obtain ⟨N, hN⟩ : ∃ N, s.length = N := ⟨_, rfl⟩
    rw [hF, hN] at CB
    rw [hF, hN]
    clear hF hN h1 e1 zs
    go_enter Tryz.func21, Tryz.ntmps21
    go_wp2_with fail
    refine (unhide CB).mono ?_
    rintro e w1 ⟨rfl, hw1⟩
    obtain rfl : w = w1 := hw1.symm
    go_wp2
    go_ret
    exact ⟨rfl, rfl⟩

set_option maxRecDepth 100000 in
set_option maxHeartbeats 4000000 in
theorem unpack (x : ByteArray) (b : Option Addr) (capb : Nat) (s : List Int) (B : Int) (w : World) (zx : x.size ≤ 9223372036854775807) (hs : Row w b s) (zs : s.length ≤ 17592186044416) :
    Calls Tryz.prog 6 #[.string x, .slice b s.length capb, .int .i64 B] w fun e w' => UnpSays x s B w e w' := by
  have CCK := hide (checks b capb s B w hs (by omega))
  by_cases h : chkF s B = 0
  · obtain ⟨h1, hB0, hB4⟩ := chkF_zero h
    rw [h, errV_zero] at CCK
    have CRD := hide (readFrame x b capb s B w zx hs (hide h1) hB0 hB4)
    unfold ReadSays at CRD
    have HNO : Hid ((∀ qs, ¬ IsP (byt x) s B qs) → ∀ w', Below w.heap.size w w' → UnpSays x s B w (.returned (.tuple #[.slice none 0 0, .iface 48 (.int .i64 2)])) w') := hide (fun h w' hb => ⟨2, none, 0, [], by rw [errV_ne (by omega)]; rfl, Or.inl rfl, Nat.le_refl _, by omega, Or.inr ⟨h1, Or.inr ⟨⟨hB0, hB4⟩, Or.inl ⟨h, rfl, rfl⟩⟩⟩, hb⟩)
    have HOK : Hid (∀ p q ps w', PtsN w.heap.size w' p ps → ps.length ≤ q → q ≤ 9223372036854775807 → IsP (byt x) s B ps → Below w.heap.size w w' → UnpSays x s B w (.returned (.tuple #[.slice p ps.length q, .nilIface])) w') := hide (fun p q ps w' h2 h3 h4 h5 hb => ⟨0, p, q, ps, rfl, h2, h3, h4, Or.inr ⟨h1, Or.inr ⟨⟨hB0, hB4⟩, Or.inr ⟨h5, rfl⟩⟩⟩, hb⟩)
    obtain ⟨N, hN⟩ : ∃ N, s.length = N := ⟨_, rfl⟩
    rw [hN] at CCK CRD ⊢
    clear hN h h1 zs
    go_enter Tryz.func6, Tryz.ntmps6
    go_wp2_with fail
    refine (unhide CCK).mono ?_
    rintro e w1 ⟨rfl, hw1⟩
    obtain rfl : w = w1 := hw1.symm
    clear CCK
    go_wp2_with fail
    refine (unhide CRD).mono ?_
    rintro e w1 ⟨hsay, hb1⟩
    clear CRD
    rcases hsay with ⟨hno, E, rfl⟩ | ⟨p, q, ps, rfl, k1, k2, k3, k4⟩
    · have HP := hide (unhide HNO hno w1 hb1)
      clear HNO HOK
      go_wp2
      go_ret2
      exact unhide HP
    · have HP := hide (unhide HOK p q ps w1 k1 k2 k3 k4 hb1)
      obtain ⟨M, hM⟩ : ∃ M, ps.length = M := ⟨_, rfl⟩
      rw [hM] at HP ⊢
      clear HNO HOK k1 k2 k3 k4 hM
      go_wp2
      go_ret2
      exact unhide HP
  · have HP : Hid (UnpSays x s B w (.returned (.tuple #[.slice none 0 0, .iface 48 (.int .i64 (chkF s B))])) w) := hide ⟨chkF s B, none, 0, [], by rw [errV_ne h]; rfl, Or.inl rfl, Nat.le_refl _, by omega, chkF_unp h, Below.refl _ _⟩
    rw [errV_ne h] at CCK
    obtain ⟨F, hF⟩ : ∃ F, chkF s B = F := ⟨_, rfl⟩
    obtain ⟨N, hN⟩ : ∃ N, s.length = N := ⟨_, rfl⟩
    rw [hF] at HP
    rw [hF, hN] at CCK
    rw [hN]
    clear hN hF h zs
    go_enter Tryz.func6, Tryz.ntmps6
    go_wp2_with fail
    refine (unhide CCK).mono ?_
    rintro e w1 ⟨rfl, hw1⟩
    obtain rfl : w = w1 := hw1.symm
    clear CCK
    go_wp2
    go_ret2
    exact unhide HP

set_option maxRecDepth 100000 in
set_option maxHeartbeats 4000000 in
theorem long (b : Option Addr) (capb : Nat) (s : List Int) (B : Int) (w : World) (hs : Row w b s) (zs : s.length ≤ 17592186044416) :
    Calls Tryz.prog 8 #[.slice b s.length capb, .int .i64 B] w fun e w' => e = .returned (.tuple #[.int .i64 (longN s B), errV (longF s B)]) ∧ Below w.heap.size w w' := by
  have CCK := hide (checks b capb s B w hs (by omega))
  by_cases h : chkF s B = 0
  · obtain ⟨h1, hB0, hB4⟩ := chkF_zero h
    obtain ⟨n0, n8, hsz, n32⟩ := bf_ok h1
    rw [h, errV_zero] at CCK
    obtain ⟨BN, rfl⟩ : ∃ BN : Nat, B = BN := ⟨B.toNat, by omega⟩
    have e1 : longF s (BN : Int) = if 400 < 6 * (s.length : Int) + (BN : Int) then 4 else 0 := by unfold longF; rw [if_pos h1, if_pos ⟨hB0, hB4⟩]
    have e2 : longN s (BN : Int) = if longF s (BN : Int) = 0 then (6 * (s.length : Int) + (BN : Int) + 7) / 8 else 0 := rfl
    rw [e2, e1]
    obtain ⟨N, hN⟩ : ∃ N, s.length = N := ⟨_, rfl⟩
    rw [hN] at CCK n8 ⊢
    obtain ⟨M, hM⟩ : ∃ M, 6 * N = M := ⟨_, rfl⟩
    have wM : IntKind.i64.wrap (6 * (N : Int)) = (M : Int) := by rw [IntWalk.i64_in _ (by omega)]; omega
    obtain ⟨T, hT⟩ : ∃ T, M + BN = T := ⟨_, rfl⟩
    have wT : IntKind.i64.wrap ((M : Int) + (BN : Int)) = (T : Int) := by rw [IntWalk.i64_in _ (by omega)]; omega
    have eT : 6 * (N : Int) + (BN : Int) = (T : Int) := by omega
    have CBF := hide (fun W => bytesFor T W (by omega))
    rw [eT]
    clear hN h h1 zs e1 e2 hsz n32
    by_cases ht : 400 < (T : Int)
    · rw [if_pos ht, if_neg (by omega), errV_ne (by omega)]
      have d1 : decide (400 < (T : Int)) = true := by simpa using ht
      clear eT hM hT
      go_enter Tryz.func8, Tryz.ntmps8
      go_wp2_with fail
      refine (unhide CCK).mono ?_
      rintro e w1 ⟨rfl, hw1⟩
      obtain rfl : w = w1 := hw1.symm
      clear CCK
      go_wp2
      go_ret2
      exact ⟨rfl, Below.refl _ _⟩
    · rw [if_neg ht, if_pos rfl, errV_zero]
      have d1 : decide (400 < (T : Int)) = false := by simp; omega
      obtain ⟨Z, hZ⟩ : ∃ Z, (T + 7) / 8 = Z := ⟨_, rfl⟩
      have eZ : ((T : Int) + 7) / 8 = (Z : Int) := by omega
      rw [eZ]
      rw [hZ] at CBF
      clear eT hM hT hZ eZ
      go_enter Tryz.func8, Tryz.ntmps8
      go_wp2_with fail
      refine (unhide CCK).mono ?_
      rintro e w1 ⟨rfl, hw1⟩
      obtain rfl : w = w1 := hw1.symm
      clear CCK
      go_wp2_with fail
      refine (unhide CBF _).mono ?_
      rintro e w1 ⟨rfl, hw1⟩
      obtain rfl : w = w1 := hw1.symm
      go_wp2
      go_ret2
      exact ⟨rfl, Below.refl _ _⟩
  · obtain ⟨e1, e2⟩ := chkF_long h
    rw [e1, e2]
    rw [errV_ne h] at CCK ⊢
    obtain ⟨F, hF⟩ : ∃ F, chkF s B = F := ⟨_, rfl⟩
    obtain ⟨N, hN⟩ : ∃ N, s.length = N := ⟨_, rfl⟩
    rw [hF, hN] at CCK
    rw [hF, hN]
    clear hN hF h e1 e2 zs
    go_enter Tryz.func8, Tryz.ntmps8
    go_wp2_with fail
    refine (unhide CCK).mono ?_
    rintro e w1 ⟨rfl, hw1⟩
    obtain rfl : w = w1 := hw1.symm
    clear CCK
    go_wp2
    go_ret2
    exact ⟨rfl, Below.refl _ _⟩

end Go.Proofs.YthkibjhhlcfceajGreatDoor.Pck
