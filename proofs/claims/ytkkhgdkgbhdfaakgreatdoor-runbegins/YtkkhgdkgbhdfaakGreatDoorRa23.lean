/-
  tank.outside, Check, May: by their contracts.
-/
import Derived.Test.YtkkhgdkgbhdfaakGreatDoorRa11
import Derived.Test.YtkkhgdkgbhdfaakGreatDoorRa06
import Derived.Test.YtkkhgdkgbhdfaakGreatDoorRa20
import Derived.Deep.RegionLaw
import Derived.Deep.WholeRow
namespace Go.Proofs.YtkkhgdkgbhdfaakGreatDoor.Tnk
open Go.RowKit
open Go.Proofs.YtkkhgdkgbhdfaakGreatDoor.Tre Go.Proofs.YtkkhgdkgbhdfaakGreatDoor.Ev
set_option linter.unusedVariables false

/-- A number is not from 0 to m. -/
def outs (n m : Int) : Bool := decide (n < 0) || decide (m < n)
theorem outs_no {n m : Int} : outs n m = false ↔ 0 ≤ n ∧ n ≤ m := by simp [outs]
theorem outs_yes {n m : Int} : outs n m = true ↔ n < 0 ∨ m < n := by simp [outs]

theorem outside (n m : Int) (w : World) : Calls Tryz.prog 138 #[.int .i64 n, .int .i64 m] w fun e w' => e = .returned (.bool (outs n m)) ∧ w' = w := by
  by_cases h1 : n < 0
  · have h3 : decide (n < 0) = true := by simpa using h1
    go_enter Tryz.func138, Tryz.ntmps138
    go_wp2
    go_ret
    exact ⟨by simp [outs, h3], rfl⟩
  · have h2 : decide (n < 0) = false := by simpa using h1
    go_enter Tryz.func138, Tryz.ntmps138
    go_wp2
    go_ret
    exact ⟨by simp [outs, h2], rfl⟩

set_option maxRecDepth 100000 in
set_option maxHeartbeats 4000000 in
theorem check (S E H : Int) (w : World) :
    Calls Tryz.prog 109 #[.agg #[.int .i64 S, .int .i64 E, .int .i64 H]] w fun e w' => e = .returned (errV (tankF S E H)) ∧ Below w.heap.size w w' := by
  have C1 := hide (fun W => outside S 1000000 W)
  have C2 := hide (fun W => outside E S W)
  have C3 := hide (fun W => outside H S W)
  have HN : Hid (outs S 1000000 = true ∨ outs E S = true ∨ outs H S = true → tankF S E H = 1) := hide (fun h => by
    unfold tankF
    rw [if_neg]
    intro hk
    obtain ⟨h1, h2, h3, h4, h5, h6⟩ := hk
    rw [outs_yes, outs_yes, outs_yes] at h
    omega)
  have HY : Hid (outs S 1000000 = false → outs E S = false → outs H S = false → tankF S E H = 0) := hide (fun h1 h2 h3 => by
    rw [outs_no] at h1 h2 h3
    exact tankF_zero.2 ⟨h1.1, h1.2, h2.1, h2.2, h3.1, h3.2⟩)
  obtain ⟨W0, hW0⟩ : ∃ W0, w.alloc (.cells #[.int .i64 S, .int .i64 E, .int .i64 H] 44) = W0 := ⟨_, rfl⟩
  have hb0 : Below w.heap.size w W0 := by rw [← hW0]; exact (Below.refl _ _).alloc (Nat.le_refl _) _
  have t0 : Tk W0 w.heap.size S E H := by rw [← hW0]; exact Tk.new w S E H
  have a0 := t0.c0
  have a1 := t0.c1
  have a2 := t0.c2
  obtain ⟨F, hF⟩ : ∃ F, tankF S E H = F := ⟨_, rfl⟩
  rw [hF] at HN HY ⊢
  clear hF t0
  cases h1 : outs S 1000000
  · rw [h1] at C1 HN HY
    clear h1
    cases h2 : outs E S
    · rw [h2] at C2 HN HY
      clear h2
      cases h3 : outs H S
      · rw [h3] at C3 HN HY
        clear h3
        have e0 := unhide HY rfl rfl rfl
        subst e0
        clear HN HY
        go_enter Tryz.func109, Tryz.ntmps109
        go_wp2_with fail
        refine (unhide C1 _).mono ?_
        rintro e w1 ⟨rfl, rfl⟩
        go_wp2_with fail
        refine (unhide C2 _).mono ?_
        rintro e w1 ⟨rfl, rfl⟩
        go_wp2_with fail
        refine (unhide C3 _).mono ?_
        rintro e w1 ⟨rfl, rfl⟩
        go_wp2
        go_ret
        exact ⟨rfl, hb0⟩
      · rw [h3] at C3 HN HY
        clear h3
        have e0 := unhide HN (by simp)
        subst e0
        clear HN HY
        go_enter Tryz.func109, Tryz.ntmps109
        go_wp2_with fail
        refine (unhide C1 _).mono ?_
        rintro e w1 ⟨rfl, rfl⟩
        go_wp2_with fail
        refine (unhide C2 _).mono ?_
        rintro e w1 ⟨rfl, rfl⟩
        go_wp2_with fail
        refine (unhide C3 _).mono ?_
        rintro e w1 ⟨rfl, rfl⟩
        go_wp2
        go_ret
        exact ⟨rfl, hb0⟩
    · rw [h2] at C2 HN HY
      clear h2
      have e0 := unhide HN (by simp)
      subst e0
      clear HN HY
      go_enter Tryz.func109, Tryz.ntmps109
      go_wp2_with fail
      refine (unhide C1 _).mono ?_
      rintro e w1 ⟨rfl, rfl⟩
      go_wp2_with fail
      refine (unhide C2 _).mono ?_
      rintro e w1 ⟨rfl, rfl⟩
      go_wp2
      go_ret
      exact ⟨rfl, hb0⟩
  · rw [h1] at C1 HN HY
    clear h1
    have e0 := unhide HN (by simp)
    subst e0
    clear HN HY
    go_enter Tryz.func109, Tryz.ntmps109
    go_wp2_with fail
    refine (unhide C1 _).mono ?_
    rintro e w1 ⟨rfl, rfl⟩
    go_wp2
    go_ret
    exact ⟨rfl, hb0⟩

set_option maxRecDepth 100000 in
set_option maxHeartbeats 4000000 in
theorem mayG (S E H : Int) (w : World) :
    Calls Tryz.prog 76 #[.agg #[.int .i64 S, .int .i64 E, .int .i64 H]] w fun e w' => e = .returned (.tuple #[.int .i64 (mayN S E H), errV (tankF S E H)]) ∧ Below w.heap.size w w' := by
  have CC := hide (fun W => check S E H W)
  obtain ⟨W0, hW0⟩ : ∃ W0, w.alloc (.cells #[.int .i64 S, .int .i64 E, .int .i64 H] 44) = W0 := ⟨_, rfl⟩
  have hb0 : Below w.heap.size w W0 := by rw [← hW0]; exact (Below.refl _ _).alloc (Nat.le_refl _) _
  have t0 : Tk W0 w.heap.size S E H := by rw [← hW0]; exact Tk.new w S E H
  have a0 := t0.c0
  have a1 := t0.c1
  have a2 := t0.c2
  by_cases hk : Ok S E H
  · have e0 : tankF S E H = 0 := tankF_zero.2 hk
    have e1 : mayN S E H = may S E H := by unfold mayN; rw [if_pos e0]
    rw [e0, errV_zero] at CC ⊢
    rw [e1]
    have HM : Hid (may S E H = if S < H + E then S else H + E) := hide rfl
    obtain ⟨M, hM⟩ : ∃ M, may S E H = M := ⟨_, rfl⟩
    rw [hM] at HM ⊢
    obtain ⟨k1, k2, k3, k4, k5, k6⟩ := hk
    obtain ⟨X, hX⟩ : ∃ X, H + E = X := ⟨_, rfl⟩
    have wx : IntKind.i64.wrap (H + E) = X := by rw [hX]; exact IntWalk.i64_in _ (by omega)
    rw [hX] at HM
    clear hX hM e0 e1 k3 k4 k5 k6 k1 k2
    by_cases hx : S < X
    · have em := unhide HM
      rw [if_pos hx] at em
      subst em
      have hx2 : ¬ X < M := by omega
      have hx3 : ¬ X ≤ M := by omega
      have d1 : decide (X < M) = false := by simpa using hx2
      have d2 : decide (M < X) = true := by simpa using hx
      clear HM
      go_enter Tryz.func76, Tryz.ntmps76
      go_wp2_with fail
      refine (unhide CC _).mono ?_
      rintro e w1 ⟨rfl, hb1⟩
      have t1 := t0.below hb1 t0.lt
      clear a0 a1 a2
      have a0 := t1.c0
      have a1 := t1.c1
      have a2 := t1.c2
      go_wp2
      go_ret2
      exact ⟨rfl, Below.chain hb0 hb1⟩
    · have em := unhide HM
      rw [if_neg hx] at em
      subst em
      have hx3 : M ≤ S := by omega
      have d2 : decide (S < M) = false := by simpa using hx
      clear HM
      go_enter Tryz.func76, Tryz.ntmps76
      go_wp2_with fail
      refine (unhide CC _).mono ?_
      rintro e w1 ⟨rfl, hb1⟩
      have t1 := t0.below hb1 t0.lt
      clear a0 a1 a2
      have a0 := t1.c0
      have a1 := t1.c1
      have a2 := t1.c2
      go_wp2
      go_ret2
      exact ⟨rfl, Below.chain hb0 hb1⟩
  · have e0 : tankF S E H = 1 := by unfold tankF; rw [if_neg hk]
    have e1 : mayN S E H = 0 := by unfold mayN; rw [if_neg (by omega)]
    rw [e0, errV_ne (by omega)] at CC ⊢
    rw [e1]
    clear hk e0 e1
    go_enter Tryz.func76, Tryz.ntmps76
    go_wp2_with fail
    refine (unhide CC _).mono ?_
    rintro e w1 ⟨rfl, hb1⟩
    go_wp2
    go_ret2
    exact ⟨rfl, Below.chain hb0 hb1⟩

end Go.Proofs.YtkkhgdkgbhdfaakGreatDoor.Tnk

/-
  tank.Turn: by its contract.
-/
namespace Go.Proofs.YtkkhgdkgbhdfaakGreatDoor.Tnk
open Go.RowKit
open Go.Proofs.YtkkhgdkgbhdfaakGreatDoor.Tre Go.Proofs.YtkkhgdkgbhdfaakGreatDoor.Ev
set_option linter.unusedVariables false

/-- What Turn answers. -/
def TurnSays (S E H b : Int) (w : World) (e : Ending) (w' : World) : Prop :=
  e = .returned (.tuple #[.agg #[.int .i64 (tS S E H b), .int .i64 (tE S E H b), .int .i64 (tH S E H b)], errV (turnF S E H b)]) ∧ Below w.heap.size w w'

set_option maxRecDepth 100000 in
set_option maxHeartbeats 4000000 in
theorem turn_says (S E H b : Int) (w : World) :
    Calls Tryz.prog 108 #[.agg #[.int .i64 S, .int .i64 E, .int .i64 H], .int .i64 b] w fun e w' => TurnSays S E H b w e w' := by
  have HP : Hid (∀ F, F ≠ 0 → turnF S E H b = F → ∀ w', Below w.heap.size w w' → TurnSays S E H b w (.returned (.tuple #[.agg #[.int .i64 0, .int .i64 0, .int .i64 0], .iface 58 (.int .i64 F)])) w') := hide (fun F hF h w' hb => by
    obtain ⟨e1, e2, e3⟩ := turn_no (S := S) (E := E) (H := H) (b := b) (by rw [h]; exact hF)
    exact ⟨by rw [e1, e2, e3, h, errV_ne hF], hb⟩)
  have CM := hide (fun W => mayG S E H W)
  have CO := hide (fun W => outside b 1000000 W)
  obtain ⟨W0, hW0⟩ : ∃ W0, ((w.alloc (.cells #[.int .i64 S, .int .i64 E, .int .i64 H] 44)).alloc (.cells #[.int .i64 0, .int .i64 0, .int .i64 0] 44)) = W0 := ⟨_, rfl⟩
  have hb0 : Below w.heap.size w W0 := by rw [← hW0]; exact ((Below.refl _ _).alloc (Nat.le_refl _) _).alloc (by simp) _
  have t0 : Tk W0 w.heap.size S E H := by rw [← hW0]; exact (Tk.new w S E H).alloc _
  have r0 : Tk W0 (w.heap.size + 1) 0 0 0 := by rw [← hW0]; simpa using Tk.new (w.alloc (.cells #[.int .i64 S, .int .i64 E, .int .i64 H] 44)) 0 0 0
  have a0 := t0.c0
  have a1 := t0.c1
  have a2 := t0.c2
  by_cases hk : Ok S E H
  · have e0 : tankF S E H = 0 := tankF_zero.2 hk
    have e1 : mayN S E H = may S E H := by unfold mayN; rw [if_pos e0]
    rw [e0, errV_zero, e1] at CM
    have hm := may_in hk
    have hk9 := hk.2.1
    have HF1 : Hid (outs b 1000000 = true → turnF S E H b = 1) := hide (fun h => by unfold turnF; rw [if_pos hk, if_pos (outs_yes.1 h)])
    have HF8 : Hid (outs b 1000000 = false → may S E H < b → turnF S E H b = 8) := hide (fun h h2 => by have := outs_no.1 h; unfold turnF; rw [if_pos hk, if_neg (by omega), if_pos h2])
    have HF0 : Hid (outs b 1000000 = false → ¬ may S E H < b → ∀ w', Below w.heap.size w w' → TurnSays S E H b w (.returned (.tuple #[.agg #[.int .i64 S, .int .i64 E, .int .i64 (may S E H - b)], .nilIface])) w') := hide (fun h h2 w' hb => by
      have h3 := outs_no.1 h
      have h0 : turnF S E H b = 0 := by unfold turnF; rw [if_pos hk, if_neg (by omega), if_neg h2]
      obtain ⟨e1, e2, e3⟩ := turn_is h0
      exact ⟨by rw [e1, e2, e3, h0, errV_zero], hb⟩)
    have HB : Hid (outs b 1000000 = false → 0 ≤ b ∧ b ≤ 1000000) := hide (fun h => outs_no.1 h)
    obtain ⟨M, hM⟩ : ∃ M, may S E H = M := ⟨_, rfl⟩
    rw [hM] at CM HF8 HF0 hm
    clear hk hM e0 e1
    go_enter Tryz.func108, Tryz.ntmps108
    go_wp2_with fail
    refine (unhide CM _).mono ?_
    rintro e w1 ⟨rfl, hb1⟩
    have t1 := t0.below hb1 t0.lt
    have r1 := r0.below hb1 r0.lt
    have hB1 := Below.chain hb0 hb1
    clear a0 a1 a2
    have a0 := t1.c0
    have a1 := t1.c1
    have a2 := t1.c2
    have q0 := r1.c0
    have q1 := r1.c1
    have q2 := r1.c2
    have f0 := r1.fz 0
    have f1 := r1.fz 1
    have f2 := r1.fz 2
    have g2 := t1.fz 2
    clear t0 r0 hb0 hb1 CM hW0
    go_wp2_with fail
    refine (unhide CO _).mono ?_
    rintro e w2 ⟨rfl, rfl⟩
    cases hO : outs b 1000000
    · have HF8' := hide (unhide HF8 hO)
      have HF0' := hide (unhide HF0 hO)
      have hbb := unhide HB hO
      clear HF1 HF8 HF0 HB hO CO
      by_cases h3 : M < b
      · have d3 : decide (M < b) = true := by simpa using h3
        have HF := hide (unhide HF8' h3)
        clear HF8' HF0'
        go_wp2
        refine bodyPost_ret (results_tank rfl _ _ _ _ _ _ rfl (r1.put 0 0 0)) rfl ?_
        exact unhide HP 8 (by omega) (unhide HF) _ (below_put hB1 (by omega) _ _ _)
      · have d3 : decide (M < b) = false := by simpa using h3
        have HF := hide (unhide HF0' (by omega))
        obtain ⟨X, hX⟩ : ∃ X, M - b = X := ⟨_, rfl⟩
        have wx : IntKind.i64.wrap (M - b) = X := by rw [hX]; exact IntWalk.i64_in _ (by omega)
        rw [hX] at HF
        have t3 := t1.has X
        have r3 := r1.other (B' := w.heap.size) (j := 2) (by omega) (.int .i64 X)
        have b0 := t3.c0
        have b1 := t3.c1
        have b2 := t3.c2
        have m0 := r3.c0
        have m1 := r3.c1
        have m2 := r3.c2
        have n0 := r3.fz 0
        have n1 := r3.fz 1
        have n2 := r3.fz 2
        have hB3 := hB1.setCell (p := ⟨w.heap.size, 2, none⟩) (Nat.le_refl _) (.int .i64 X)
        have HR := hide (r3.put S E X)
        have HB := hide (below_put hB3 (B := w.heap.size + 1) (by omega) (.int .i64 S) (.int .i64 E) (.int .i64 X))
        clear HF8' HF0' h3 hX hm hk9 hbb t1 r1 t3 r3 hB1 hB3
        go_wp2
        refine bodyPost_ret (results_tank rfl _ _ _ _ _ _ rfl (unhide HR)) rfl ?_
        exact unhide HF _ (unhide HB)
    · have HF := hide (unhide HF1 hO)
      clear HF1 HF8 HF0 HB hO CO
      go_wp2
      refine bodyPost_ret (results_tank rfl _ _ _ _ _ _ rfl (r1.put 0 0 0)) rfl ?_
      exact unhide HP 1 (by omega) (unhide HF) _ (below_put hB1 (by omega) _ _ _)
  · have e0 : tankF S E H = 1 := by unfold tankF; rw [if_neg hk]
    have e1 : mayN S E H = 0 := by unfold mayN; rw [if_neg (by omega)]
    rw [e0, errV_ne (by omega), e1] at CM
    have HF : Hid (turnF S E H b = 1) := hide (by unfold turnF; rw [if_neg hk])
    clear hk e0 e1
    go_enter Tryz.func108, Tryz.ntmps108
    go_wp2_with fail
    refine (unhide CM _).mono ?_
    rintro e w1 ⟨rfl, hb1⟩
    have r1 := r0.below hb1 r0.lt
    have hB1 := Below.chain hb0 hb1
    clear a0 a1 a2
    have q0 := r1.c0
    have q1 := r1.c1
    have q2 := r1.c2
    have f0 := r1.fz 0
    have f1 := r1.fz 1
    have f2 := r1.fz 2
    clear t0 r0 hb0 hb1 CM hW0
    go_wp2
    refine bodyPost_ret (results_tank rfl _ _ _ _ _ _ rfl (r1.put 0 0 0)) rfl ?_
    exact unhide HP 1 (by omega) (unhide HF) _ (below_put hB1 (by omega) _ _ _)

theorem turn (S E H b : Int) (w : World) :
    Calls Tryz.prog 108 #[.agg #[.int .i64 S, .int .i64 E, .int .i64 H], .int .i64 b] w fun e w' => e = .returned (.tuple #[.agg #[.int .i64 (tS S E H b), .int .i64 (tE S E H b), .int .i64 (tH S E H b)], errV (turnF S E H b)]) ∧ Below w.heap.size w w' := turn_says S E H b w

end Go.Proofs.YtkkhgdkgbhdfaakGreatDoor.Tnk

/-
  slices.Repeat of one number, seven times: by its contract.
-/
namespace Go.Proofs.YtkkhgdkgbhdfaakGreatDoor.Cnt
open Go.RowKit
set_option linter.unusedVariables false

theorem mul64 (w : World) :
    Calls Tryz.prog 194 #[.int .u64 1, .int .u64 7] w fun e w' => e = .returned (.tuple #[.int .u64 0, .int .u64 7]) ∧ w = w' := by
  have b1 : bits .and .u64 1 4294967295 = 1 := by decide
  have b7 : bits .and .u64 7 4294967295 = 7 := by decide
  have b0 : bits .and .u64 0 4294967295 = 0 := by decide
  go_enter Tryz.func194, Tryz.ntmps194
  go_wp2
  go_ret2
  exact ⟨rfl, rfl⟩

theorem mul (w : World) :
    Calls Tryz.prog 163 #[.int .u64 1, .int .u64 7] w fun e w' => e = .returned (.tuple #[.int .u64 0, .int .u64 7]) ∧ w = w' := by
  go_enter Tryz.func163, Tryz.ntmps163
  go_wp2_with fail
  refine (mul64 w).mono ?_
  rintro e w' ⟨rfl, rfl⟩
  go_wp2
  go_ret2
  exact ⟨rfl, rfl⟩

/-- j ones, and zeros behind them: seven together. -/
def ones (j : Nat) : List Value := (List.replicate j (1 : Int) ++ List.replicate (7 - j) 0).map (Value.int .i64)

theorem has_ones {w w' : World} (h : w'.heap[w.heap.size]? = some (.cells (ones 7).toArray 3 (0, 0))) : Has w' w.heap.size (.slice (some ⟨w.heap.size, 0, none⟩) 7 7) (List.replicate 7 1) := by
  refine ⟨by rfl, .inr ⟨w.heap.size, 7, _, rfl, Nat.le_refl _, h, by decide, by decide, by rfl, by rfl⟩⟩
theorem ones_at {w' : World} {g : Nat} {j k : Nat} {v : Value} (h : w'.heap[g]? = some (.cells (ones k).toArray 3 (0, 0))) (hv : (ones k)[j]? = some v) : w'.cell? ((⟨g, 0, none⟩ : Addr).add j) = some v := by
  rw [addr_plain, Nat.zero_add]
  simp [World.cell?, h, hv]
theorem ones_sub {j m k : Nat} {v : Value} (hm : m ≤ k) (h : ((List.replicate m (1 : Int)).map (Value.int .i64))[j]? = some v) : (ones k)[j]? = some v := by
  have hj : j < m := by
    rcases Nat.lt_or_ge j m with h' | h'
    · exact h'
    · rw [List.getElem?_eq_none (by simpa using h')] at h; cases h
  unfold ones
  rw [List.map_append, List.getElem?_append_left (by simp; omega)]
  simp only [List.map_replicate, List.getElem?_replicate] at h ⊢
  rw [if_pos hj] at h
  rw [if_pos (by omega)]
  exact h
theorem ones_one {m : Nat} : ∀ v ∈ (List.replicate m (1 : Int)).map (Value.int .i64), v.oneCell' = true := by
  intro v hv
  obtain ⟨z, _, rfl⟩ := List.mem_map.1 hv
  rfl

theorem first_copy (w : World) (b off cap : Nat) (hr : Row w (some ⟨b, off, none⟩) [1]) (ty : TypeId) :
    (Builtin.copy_ #[22, 22] ty #[.slice (some ⟨w.heap.size, 0, none⟩) 7 7, .slice (some ⟨b, off, none⟩) 1 cap]).run Tryz.prog (w.alloc (.cells (ones 0).toArray 3)) = .ok (.int .i64 1) (w.alloc (.cells (ones 1).toArray 3)) := by
  obtain ⟨b', off', e, hb, hc⟩ := hr.at (k := 0) (by decide)
  cases e
  have hrun := run_copy_row (P := Tryz.prog) (w.alloc (.cells (ones 0).toArray 3)) 22 22 ty 3 w.heap.size 0 7 7 ⟨b, off, none⟩ 1 cap (ones 0).toArray 3 [.int .i64 1] Tryz.underlying22 size_int (heap_alloc_new _ _) rfl
    (by
      intro j v hv
      cases j with
      | succ j => cases hv
      | zero =>
        rw [addr_plain, World.cell?_alloc_past _ _ _ hb, hc 0 (by decide)]
        exact hv) (by decide) (by intro v hv; rw [List.mem_singleton.1 hv]; rfl)
  rw [World.setRow_alloc_new] at hrun
  exact hrun

theorem splice_ones : splice (ones 1) 1 ((List.replicate 1 (1 : Int)).map (Value.int .i64)) = ones 2 ∧ splice (ones 2) 2 ((List.replicate 2 (1 : Int)).map (Value.int .i64)) = ones 4 ∧ splice (ones 4) 4 ((List.replicate 3 (1 : Int)).map (Value.int .i64)) = ones 7 := ⟨rfl, rfl, rfl⟩

set_option maxHeartbeats 4000000 in
theorem repeat7 (a : Option Addr) (cap : Nat) (w : World) (hr : Row w a [1]) :
    Calls Tryz.prog 128 #[.slice a 1 cap, .int .i64 7] w fun e w' => ∃ v, e = .returned v ∧ Has w' w.heap.size v (List.replicate 7 1) ∧ Below w.heap.size w w' := by
  obtain ⟨b, off, rfl, hb, hc⟩ := hr.at (k := 0) (by decide)
  have hmk : ∀ w, (Instr.makeSlice 22 (.int .i64 7) (.int .i64 7)).run Tryz.prog w = .ok (.slice (some ⟨w.heap.size, 0, none⟩) 7 7) (w.alloc (.cells (ones 0).toArray 3)) := fun _ => by kernel_rfl
  have hcp := first_copy w b off cap hr 3
  have hnew : Hid ((w.alloc (.cells (ones 1).toArray 3)).heap[w.heap.size]? = some (.cells (ones 1).toArray 3 (0, 0))) := hide (heap_alloc_new _ _)
  have hbA : Below w.heap.size w (w.alloc (.cells (ones 1).toArray 3)) := (Below.refl _ _).alloc (Nat.le_refl _) _
  obtain ⟨sp1, sp2, sp4⟩ := splice_ones
  have hs1 := hide sp1
  have hs2 := hide sp2
  have hs4 := hide sp4
  clear sp1 sp2 sp4
  clear hc
  go_enter Tryz.func128, Tryz.ntmps128
  go_wp2_with fail
  refine (mul w).mono ?_
  rintro e w' ⟨rfl, rfl⟩
  go_wp2
  go_loopw [8] (fun n wr => ∃ j : Nat, (j = 1 ∨ j = 2 ∨ j = 4 ∨ j = 7) ∧ n = .int .i64 j ∧ Hid (wr.heap[w.heap.size]? = some (.cells (ones j).toArray 3 (0, 0))) ∧ Below w.heap.size w wr) (fun n _ => 7 - (intOf n).toNat)
  case atStart => exact ⟨1, Or.inl rfl, rfl, hnew, hbA⟩
  case round =>
    obtain ⟨j, hj, rfl, H, hB⟩ := hrel
    have hBd : Below w.heap.size w wr.drew := hB.trans ⟨rfl, rfl, rfl, Nat.le_refl _, fun _ _ => rfl⟩
    rcases hj with rfl | rfl | rfl | rfl
    · go_wp2
      go_region_law (refine step_copy_splice rfl (.tmp 41) (.tmp 44) 22 22 rfl 3 Tryz.underlying22 size_int (some ⟨w.heap.size, 1, none⟩) (some ⟨w.heap.size, 0, none⟩) 6 6 1 7 (by simp [Act.eval, Act.put]) (by simp [Act.eval, Act.put]) w.heap.size 1 (ones 1) 3 (unhide H) ((List.replicate 1 (1 : Int)).map (Value.int .i64)) rfl (fun _ => ⟨rfl, _, rfl, fun j v hv => ones_at (unhide H) (ones_sub (by decide) hv)⟩) (by decide) ones_one w.heap.size w hBd (Nat.le_refl _) ?_; intro w4 hg4 hb4)
      go_wp2
      go_roundw
      case rel => ((repeat apply Exists.intro); exact ⟨⟨2, Or.inr (Or.inl rfl), rfl, by rw [← unhide hs1]; exact hg4, hb4⟩, rfl⟩)
      case measure => (simp [intOf, Act.put]; decide)
    · go_wp2
      go_region_law (refine step_copy_splice rfl (.tmp 41) (.tmp 44) 22 22 rfl 3 Tryz.underlying22 size_int (some ⟨w.heap.size, 2, none⟩) (some ⟨w.heap.size, 0, none⟩) 5 5 2 7 (by simp [Act.eval, Act.put]) (by simp [Act.eval, Act.put]) w.heap.size 2 (ones 2) 3 (unhide H) ((List.replicate 2 (1 : Int)).map (Value.int .i64)) rfl (fun _ => ⟨rfl, _, rfl, fun j v hv => ones_at (unhide H) (ones_sub (by decide) hv)⟩) (by decide) ones_one w.heap.size w hBd (Nat.le_refl _) ?_; intro w4 hg4 hb4)
      go_wp2
      go_roundw
      case rel => ((repeat apply Exists.intro); exact ⟨⟨4, Or.inr (Or.inr (Or.inl rfl)), rfl, by rw [← unhide hs2]; exact hg4, hb4⟩, rfl⟩)
      case measure => (simp [intOf, Act.put]; decide)
    · go_wp2
      go_region_law (refine step_copy_splice rfl (.tmp 41) (.tmp 44) 22 22 rfl 3 Tryz.underlying22 size_int (some ⟨w.heap.size, 4, none⟩) (some ⟨w.heap.size, 0, none⟩) 3 3 4 7 (by simp [Act.eval, Act.put]) (by simp [Act.eval, Act.put]) w.heap.size 4 (ones 4) 3 (unhide H) ((List.replicate 3 (1 : Int)).map (Value.int .i64)) rfl (fun _ => ⟨rfl, _, rfl, fun j v hv => ones_at (unhide H) (ones_sub (by decide) hv)⟩) (by decide) ones_one w.heap.size w hBd (Nat.le_refl _) ?_; intro w4 hg4 hb4)
      go_wp2
      go_roundw
      case rel => ((repeat apply Exists.intro); exact ⟨⟨7, Or.inr (Or.inr (Or.inr rfl)), rfl, by rw [← unhide hs4]; exact hg4, hb4⟩, rfl⟩)
      case measure => (simp [intOf, Act.put]; decide)
    · go_wp2
      go_ret
      exact ⟨_, rfl, has_ones (unhide H), hB⟩

end Go.Proofs.YtkkhgdkgbhdfaakGreatDoor.Cnt
