/-
  Package count: outside, onePulseMore, counts, Of: by their contracts.
-/
import Derived.Test.YtkkhgdkgbhdfaakGreatDoorRa23
import Derived.Test.YtkkhgdkgbhdfaakGreatDoorRa06
import Derived.Test.YtkkhgdkgbhdfaakGreatDoorRa00
import Derived.Deep.QuietTactic
import Derived.BigQuiet
import Derived.BigRegion
import Derived.Test.YtkkhgdkgbhdfaakGreatDoorRa01
import Derived.Deep.WholeRow
import Derived.Laws.CopyOwn
namespace Go.Proofs.YtkkhgdkgbhdfaakGreatDoor.Cnt
open Go.RowKit
open Go.Proofs.YtkkhgdkgbhdfaakGreatDoor.Tre Go.Proofs.YtkkhgdkgbhdfaakGreatDoor.Lap Go.Proofs.YtkkhgdkgbhdfaakGreatDoor.Mid
set_option linter.unusedVariables false

/-- Outside of 0 to the most that may be. -/
def wide (n most : Int) : Bool := decide (n < 0) || decide (most < n)
theorem wide_no {n most : Int} (h0 : 0 ≤ n) (h1 : n ≤ most) : wide n most = false := by simp [wide]; omega
theorem wide_or (n most : Int) : wide n most = true ∨ (wide n most = false ∧ 0 ≤ n ∧ n ≤ most) := by
  by_cases h : 0 ≤ n ∧ n ≤ most
  · exact Or.inr ⟨wide_no h.1 h.2, h.1, h.2⟩
  · left; simp [wide]; omega

theorem outside (n most : Int) (w : World) :
    Calls Tryz.prog 98 #[.int .i64 n, .int .i64 most] w fun e w' => e = .returned (.bool (wide n most)) ∧ w = w' := by
  have H : Hid (wide n most = (decide (n < 0) || decide (most < n))) := hide rfl
  obtain ⟨o, ho⟩ : ∃ o, wide n most = o := ⟨_, rfl⟩
  rw [ho] at H ⊢
  clear ho
  by_cases h : n < 0
  · have e : o = true := by rw [unhide H, decide_eq_true h]; rfl
    subst e
    go_enter Tryz.func98, Tryz.ntmps98
    go_wp2
    go_ret
    exact ⟨rfl, rfl⟩
  · have e : o = decide (most < n) := by rw [unhide H, decide_eq_false h]; rfl
    subst e
    go_enter Tryz.func98, Tryz.ntmps98
    go_wp2
    all_goals go_ret
    all_goals (refine ⟨?_, rfl⟩; first | rfl | (simp; done) | (simp; omega))

theorem has_zeros (w : World) : Has (w.alloc (.cells (ones 0).toArray 3)) w.heap.size (.slice (some ⟨w.heap.size, 0, none⟩) 7 7) (List.replicate 7 0) :=
  ⟨by rfl, .inr ⟨w.heap.size, 7, _, rfl, Nat.le_refl _, heap_alloc_new _ _, by decide, by decide, by rfl, by rfl⟩⟩

set_option maxHeartbeats 4000000 in
theorem pulse (k : Nat) (hk : k < 8) (a : Option Addr) (cap : Nat) (w : World) (hr : Row w a (cts k)) :
    Calls Tryz.prog 129 #[.slice a 7 cap] w fun e w' => ∃ v, e = .returned v ∧ Has w' w.heap.size v (cts (k + 1)) ∧ Below w.heap.size w w' := by
  obtain ⟨b, off, rfl, hb, hc⟩ := Mid.row_cell hr (by rw [cts_length]; omega)
  rw [cts_length] at hc
  have HC : Hid (∀ n, n < 7 → w.cell? ⟨b, off + n, none⟩ = some (.int .i64 (V k n))) := hide (fun n hn => by rw [hc n hn, cts_at k hn])
  clear hc
  have hmk : ∀ w, (Instr.makeSlice 22 (.int .i64 7) (.int .i64 7)).run Tryz.prog w = .ok (.slice (some ⟨w.heap.size, 0, none⟩) 7 7) (w.alloc (.cells (ones 0).toArray 3)) := fun _ => by kernel_rfl
  have hz := has_zeros w
  have hbA : Below w.heap.size w (w.alloc (.cells (ones 0).toArray 3)) := (Below.refl _ _).alloc (Nat.le_refl _) _
  have hm1 := hide (mid_one k)
  go_enter Tryz.func129, Tryz.ntmps129
  go_wp2
  go_loopw [11] (fun i wr => ∃ j : Nat, j ≤ 6 ∧ i = .int .i64 j ∧ Has wr w.heap.size (.slice (some ⟨w.heap.size, 0, none⟩) 7 7) (mid (V (k + 1)) (fun _ => 0) 7 (j + 1)) ∧ Below w.heap.size w wr) (fun i _ => 6 - (intOf i).toNat)
  case atStart => exact ⟨0, Nat.zero_le _, rfl, by rw [unhide hm1]; exact hz, hbA⟩
  case round =>
    obtain ⟨j, hj, rfl, h9, hB⟩ := hrel
    clear hz hbA hm1 hmk
    by_cases hlt : j < 6
    · have hcl := h9.get (j := j) (by rw [mid_length]; omega)
      rw [mid_lt _ _ (by omega) (by omega)] at hcl
      have hcn := h9.get (j := j + 1) (by rw [mid_length]; omega)
      rw [mid_at _ _ (by omega)] at hcn
      have hfz := h9.frozen (j + 1)
      have c0 := (hB.cell (p := ⟨b, off + j, none⟩) hb).trans (unhide HC j (by omega))
      have c1 := (hB.cell (p := ⟨b, off + (j + 1), none⟩) hb).trans (unhide HC (j + 1) (by omega))
      obtain ⟨x0, x1⟩ := V_in (k + 1) j (by omega) (by omega)
      obtain ⟨y0, y1⟩ := V_in k j (by omega) (by omega)
      obtain ⟨z0, z1⟩ := V_in k (j + 1) (by omega) (by omega)
      have HV : Hid (V (k + 1) (j + 1) = V (k + 1) j + V k (j + 1) + V k j) := hide (V_sum k j)
      obtain ⟨X, hX⟩ : ∃ X, V (k + 1) j = X := ⟨_, rfl⟩
      obtain ⟨Y, hY⟩ : ∃ Y, V k j = Y := ⟨_, rfl⟩
      obtain ⟨Z, hZ⟩ : ∃ Z, V k (j + 1) = Z := ⟨_, rfl⟩
      rw [hX] at hcl x0 x1 HV
      rw [hY] at c0 y0 y1 HV
      rw [hZ] at c1 z0 z1 HV
      clear hX hY hZ
      have hwr1 : IntKind.i64.wrap (X + Z) = X + Z := IntWalk.i64_in _ (by omega)
      have hwr2 : IntKind.i64.wrap (X + Z + Y) = X + Z + Y := IntWalk.i64_in _ (by omega)
      go_wp2
      go_region
      obtain ⟨m1, m2, m3⟩ := Mid.put_mid h9 (show j + 1 < 7 by omega) (unhide HV) 1
      go_wp2
      go_roundw
      case rel => exact ⟨j + 1, by omega, by go_num, m1, m3 _ hB (Nat.le_refl _)⟩
      case measure => simp [intOf]; omega
    · obtain rfl : j = 6 := by omega
      go_wp2
      go_ret
      refine ⟨_, rfl, ?_, hB⟩
      rw [mid_all] at h9
      exact h9

set_option maxHeartbeats 4000000 in
theorem counts (k : Nat) (hk : k ≤ 8) (w : World) :
    Calls Tryz.prog 99 #[.int .i64 k] w fun e w' => ∃ v, e = .returned v ∧ Has w' w.heap.size v (cts k) ∧ Below w.heap.size w w' := by
  have hrA := row_one w 1 3
  have hbA : Below w.heap.size w (w.alloc (.cells #[.int .i64 1] 3)) := (Below.refl _ _).alloc (Nat.le_refl _) _
  go_enter Tryz.func99, Tryz.ntmps99
  go_wp2_with fail
  refine (repeat7 _ _ _ hrA).mono ?_
  rintro e w1 ⟨v1, rfl, h1, hb1⟩
  have hB1 := Below.chain hbA hb1
  have h1' := h1.mono hbA.size
  clear h1 hb1 hrA
  go_wp2
  go_loopw [3, 7] (fun v i wr => ∃ j : Nat, j ≤ k ∧ i = .int .i64 j ∧ Has wr w.heap.size v (cts j) ∧ Below w.heap.size w wr) (fun _ i _ => k - (intOf i).toNat)
  case atStart => exact ⟨0, Nat.zero_le _, rfl, by rw [cts_zero]; exact h1', hB1⟩
  case round =>
    obtain ⟨j, hj, rfl, h9, hB⟩ := hrel
    clear h1' hB1 hbA
    by_cases hlt : j < k
    · obtain ⟨p, q, rfl, hr9⟩ := h9.row
      rw [cts_length]
      go_wp2_with fail
      refine (pulse j (by omega) p q wr hr9).mono ?_
      rintro e w2 ⟨v2, rfl, h2, hb2⟩
      go_wp2
      go_roundw
      case rel => exact ⟨j + 1, by omega, by go_num, h2.mono hB.size, hB.trans (hb2.mono hB.size)⟩
      case measure => simp [intOf]; omega
    · obtain rfl : j = k := by omega
      go_wp2
      go_ret
      exact ⟨_, rfl, h9, hB⟩

set_option maxHeartbeats 4000000 in
theorem of_ok (n k : Nat) (hn : n ≤ 6) (hk : k ≤ 8) (w : World) :
    Calls Tryz.prog 70 #[.int .i64 n, .int .i64 k] w fun e w' => e = .returned (.tuple #[.int .i64 (V k n), .nilIface]) ∧ Below w.heap.size w w' := by
  have o1 := wide_no (n := (n : Int)) (most := 6) (by omega) (by omega)
  have o2 := wide_no (n := (k : Int)) (most := 8) (by omega) (by omega)
  have H1 := hide o1
  have H2 := hide o2
  clear o1 o2
  go_enter Tryz.func70, Tryz.ntmps70
  go_wp2_with fail
  refine (outside n 6 w).mono ?_
  rw [unhide H1]
  rintro e w' ⟨rfl, rfl⟩
  go_wp2_with fail
  refine (outside k 8 w).mono ?_
  rw [unhide H2]
  rintro e w' ⟨rfl, rfl⟩
  go_wp2_with fail
  refine (counts k hk w).mono ?_
  rintro e w1 ⟨v1, rfl, h1, hb1⟩
  obtain ⟨p, q, rfl, hr1⟩ := h1.row
  obtain ⟨b, off, rfl, hb, hc⟩ := Mid.row_cell hr1 (by rw [cts_length]; omega)
  rw [cts_length] at hc ⊢
  have hcn := hc n (by omega)
  rw [cts_at k (by omega)] at hcn
  clear hc
  go_wp2
  go_ret2
  exact ⟨rfl, hb1⟩

theorem of_no (n k : Int) (w : World) (h : Hid (wide n 6 = true) ∨ (Hid (wide n 6 = false) ∧ Hid (wide k 8 = true))) :
    Calls Tryz.prog 70 #[.int .i64 n, .int .i64 k] w fun e w' => e = .returned (.tuple #[.int .i64 0, .iface 58 (.int .i64 1)]) ∧ Below w.heap.size w w' := by
  rcases h with H1 | ⟨H1, H2⟩
  · go_enter Tryz.func70, Tryz.ntmps70
    go_wp2_with fail
    refine (outside n 6 w).mono ?_
    rw [unhide H1]
    rintro e w' ⟨rfl, rfl⟩
    go_wp2
    go_ret2
    exact ⟨rfl, Below.refl _ _⟩
  · go_enter Tryz.func70, Tryz.ntmps70
    go_wp2_with fail
    refine (outside n 6 w).mono ?_
    rw [unhide H1]
    rintro e w' ⟨rfl, rfl⟩
    go_wp2_with fail
    refine (outside k 8 w).mono ?_
    rw [unhide H2]
    rintro e w' ⟨rfl, rfl⟩
    go_wp2
    go_ret2
    exact ⟨rfl, Below.refl _ _⟩

/-- Below, above, or within. -/
def Ways (n most : Int) : Prop := (n < 0 ∧ Hid (wide n most = true)) ∨ (0 ≤ n ∧ most < n ∧ Hid (wide n most = true)) ∨ (Hid (wide n most = false) ∧ ∃ m : Nat, n = m ∧ (m : Int) ≤ most)
theorem ways (n most : Int) : Ways n most := by
  unfold Ways
  rcases wide_or n most with h | ⟨h, h0, h1⟩
  · by_cases h0 : n < 0
    · exact Or.inl ⟨h0, h⟩
    · refine Or.inr (Or.inl ⟨by omega, ?_, h⟩)
      simp [wide] at h
      omega
  · exact Or.inr (Or.inr ⟨h, n.toNat, by omega, by omega⟩)

end Go.Proofs.YtkkhgdkgbhdfaakGreatDoor.Cnt

/-
  Package pulse: rowsAfter: by its contract.
-/
namespace Go.Proofs.YtkkhgdkgbhdfaakGreatDoor.Pls
open Go.RowKit
open Go.Proofs.YtkkhgdkgbhdfaakGreatDoor.Tre Go.Proofs.YtkkhgdkgbhdfaakGreatDoor.Lap Go.Proofs.YtkkhgdkgbhdfaakGreatDoor.Cnt Go.Proofs.YtkkhgdkgbhdfaakGreatDoor.Mid
set_option linter.unusedVariables false

theorem rowsAfter (b L : Nat) (X : Int) (hb : b ≤ 6) (hL : L ≤ 8) (h0 : -(L : Int) ≤ X) (h1 : X ≤ L) (w : World) :
    Calls Tryz.prog 101 #[.int .i64 X, .int .i64 b, .int .i64 L] w fun e w' => e = .returned (.int .i64 (V (L - X.natAbs) b)) ∧ Below w.heap.size w w' := by
  have hD := hide (dist X w (by omega) (by omega))
  obtain ⟨K, hK⟩ : ∃ K, L - X.natAbs = K := ⟨_, rfl⟩
  obtain ⟨d, hd⟩ : ∃ d, X.natAbs = d := ⟨_, rfl⟩
  have hsub : (L : Int) - (d : Int) = (K : Int) := by omega
  have hK8 : K ≤ 8 := by omega
  rw [hK]
  rw [hd] at hD
  clear hK hd h0 h1
  go_enter Tryz.func101, Tryz.ntmps101
  go_wp2_with fail
  refine (unhide hD).mono ?_
  rintro e w1 ⟨rfl, rfl⟩
  go_wp2_with fail
  refine (of_ok b K hb hK8 w).mono ?_
  rintro e w2 ⟨rfl, hb2⟩
  go_wp2
  go_ret
  exact ⟨rfl, hb2⟩

end Go.Proofs.YtkkhgdkgbhdfaakGreatDoor.Pls

/-
  Package pulse: Rank, where nothing is wrong: by its contract.
-/
namespace Go.Proofs.YtkkhgdkgbhdfaakGreatDoor.Pls
open Go.RowKit
open Go.Proofs.YtkkhgdkgbhdfaakGreatDoor.Tre Go.Proofs.YtkkhgdkgbhdfaakGreatDoor.Lap Go.Proofs.YtkkhgdkgbhdfaakGreatDoor.Cnt Go.Proofs.YtkkhgdkgbhdfaakGreatDoor.Mid
set_option linter.unusedVariables false

set_option maxRecDepth 100000 in
set_option maxHeartbeats 8000000 in
theorem rank_ok (a : Option Addr) (cap : Nat) (l : List Int) (w : World) (hr : Row w a l) (h : Hid (fault l = 0)) :
    Calls Tryz.prog 71 #[.slice a l.length cap] w fun e w' => e = .returned (.tuple #[.int .i64 (rk l (loud l)), .nilIface]) ∧ Below w.heap.size w w' := by
  obtain ⟨h1, h2, h3⟩ := fault_ok (unhide h)
  have hR9 : Hid (rk l (loud l) ≤ 20256) := hide (by have h4 := (rk_in l h1 h3).2; have h5 := (V_in (loud l) l.length (by omega) (by omega)).2; omega)
  have hck := hide (check_ok a cap l w hr h)
  have hLd : Hid (∀ i, loud (l.drop i) ≤ 8) := hide (fun i => by
    have e := loud_append (l.take i) (l.drop i)
    rw [List.take_append_drop] at e
    omega)
  have hst : Hid ((0 : Int) + rk (l.drop 0) (loud (l.drop 0)) = rk l (loud l)) := hide (by rw [List.drop_zero]; omega)
  have hst2 : Hid (loud l = loud (l.drop 0)) := hide (by rw [List.drop_zero])
  obtain ⟨K, hK⟩ : ∃ K, loud l = K := ⟨_, rfl⟩
  obtain ⟨R, hR⟩ : ∃ R, rk l K = R := ⟨_, rfl⟩
  rw [hK] at hck h3 hR9 hst hst2 ⊢
  rw [hR] at hR9 hst ⊢
  clear hK hR h
  go_enter Tryz.func71, Tryz.ntmps71
  go_wp2_with fail
  refine (unhide hck).mono ?_
  rintro e w1 ⟨rfl, hb1⟩
  clear hck
  go_wp2
  go_loopw [4, 6, 20] (fun v4 v6 i wr => ∃ (j L : Nat) (A : Int), j ≤ l.length ∧ i = .int .i64 j ∧ v4 = .int .i64 L ∧ v6 = .int .i64 A ∧ Hid (L = loud (l.drop j)) ∧ Hid (A + rk (l.drop j) (loud (l.drop j)) = R) ∧ L ≤ 8 ∧ 0 ≤ A ∧ A ≤ 20256 ∧ Below w.heap.size w wr) (fun _ _ i _ => l.length - (intOf i).toNat)
  case atStart => exact ⟨0, K, 0, Nat.zero_le _, rfl, rfl, rfl, hst2, hst, h3, by omega, by omega, hb1⟩
  case round =>
    obtain ⟨j, L, A, hj, rfl, rfl, rfl, HL, HA, hL, hA0, hA9, hB⟩ := hrel
    clear hst hst2 hb1
    by_cases hlt : j < l.length
    · obtain ⟨b, off, rfl, hb, hc⟩ := Mid.row_cell hr (by omega)
      have hcj := (hB.cell (p := ⟨b, off + j, none⟩) hb).trans (hc j hlt)
      have HC : Hid (∀ w' : World, Below w.heap.size w w' → w'.cell? ⟨b, off + j, none⟩ = some (.int .i64 (at0 l j))) := hide (fun w' hB' => (hB'.cell (p := ⟨b, off + j, none⟩) hb).trans (hc j hlt))
      clear hc
      have hd := rk_drop hlt
      rw [← unhide HL] at hd
      obtain ⟨d1, d2⟩ := hd
      rw [← unhide HL] at HA
      obtain ⟨L', hL'⟩ : ∃ L', loud (l.drop (j + 1)) = L' := ⟨_, rfl⟩
      obtain ⟨X, hX⟩ : ∃ X, at0 l j = X := ⟨_, rfl⟩
      obtain ⟨m, hm⟩ : ∃ m, l.length - 1 - j = m := ⟨_, rfl⟩
      obtain ⟨S, hS⟩ : ∃ S, (X + (L : Int)).toNat = S := ⟨_, rfl⟩
      have hlast : Hid (∀ B, B = A + ahead m L S → B + rk (l.drop (j + 1)) (loud (l.drop (j + 1))) = R ∧ B ≤ 20256) := hide (by
        rintro B rfl
        have h4 := unhide HA
        rw [d2, hm, hX, hS] at h4
        have h5 := (rk_in (l.drop (j + 1)) (by rw [List.length_drop]; omega) (unhide hLd _)).1
        have h6 := unhide hR9
        omega)
      rw [hX] at d1 hcj HC
      rw [hL'] at d1
      have hXS : X + (L : Int) = (S : Int) := by omega
      have hX0 : -(L : Int) ≤ X := by omega
      have hX1 : X ≤ (L : Int) := by omega
      have hdist := hide (dist X)
      obtain ⟨D, hD⟩ : ∃ D, X.natAbs = D := ⟨_, rfl⟩
      rw [hD] at d1 hdist
      have hLD : (L : Int) - (D : Int) = (L' : Int) := by omega
      have hS2 : S ≤ 2 * L := by omega
      have hm1 : (l.length : Int) - 1 - (j : Int) = (m : Int) := by omega
      have hm5 : m ≤ 5 := by omega
      have hL8 : L' ≤ 8 := by omega
      have HL' : Hid (L' = loud (l.drop (j + 1))) := hide hL'.symm
      clear hL' hX hm hS d2 hD d1 HA HL
      go_wp2
      go_loopw [6, 34] (fun v6 i wr => ∃ (s : Nat) (B : Int), s ≤ S ∧ i = .int .i64 s ∧ v6 = .int .i64 B ∧ Hid (B = A + ahead m L s) ∧ Below w.heap.size w wr) (fun _ i _ => S - (intOf i).toNat)
      case atStart => exact ⟨0, A, Nat.zero_le _, rfl, rfl, hide (by rw [ahead_zero]; omega), hB⟩
      case round =>
        obtain ⟨s, B, hs, rfl, rfl, HB, hB2⟩ := hrel
        clear hB hcj
        have hin := ahead_in (m := m) (L := L) (s := s) (by omega) (by omega) (by omega)
        have hB0 : 0 ≤ B := by rw [unhide HB]; omega
        have hB9 : B ≤ 40512 := by rw [unhide HB]; omega
        clear hin
        by_cases hlt2 : s < S
        · obtain ⟨Y, hY⟩ : ∃ Y, (s : Int) - (L : Int) = Y := ⟨_, rfl⟩
          have hra := hide (rowsAfter m L Y (by omega) hL (by omega) (by omega) wr)
          obtain ⟨r0, r1⟩ := rows_in (m := m) (L := L) (s := s) (by omega) (by omega)
          have HR : Hid (V (L - Y.natAbs) m = rows m L s) := hide (by rw [← hY]; rfl)
          rw [unhide HR] at hra
          have HS : Hid (B + rows m L s = A + ahead m L (s + 1)) := hide (by rw [ahead_succ, unhide HB]; omega)
          obtain ⟨Q, hQ⟩ : ∃ Q, rows m L s = Q := ⟨_, rfl⟩
          rw [hQ] at r0 r1 hra HS
          clear hQ HR HB
          have hsub : IntKind.i64.wrap ((s : Int) - (L : Int)) = Y := by rw [IntWalk.i64_in _ (by omega)]; exact hY
          clear hY
          go_wp2_with fail
          refine (unhide hra).mono ?_
          rintro e w2 ⟨rfl, hb2⟩
          go_wp2
          go_roundw
          case rel => exact ⟨s + 1, B + Q, by omega, by go_num, by go_num, HS, hB2.trans (hb2.mono hB2.size)⟩
          case measure => simp [intOf]; omega
        · obtain rfl : s = S := by omega
          obtain ⟨e1, e2⟩ := unhide hlast B (unhide HB)
          have E1 := hide e1
          clear e1 HB hlast
          have hcj := unhide HC wr hB2
          go_wp2_with fail
          refine (unhide hdist wr (by omega) (by omega)).mono ?_
          rintro e w3 ⟨rfl, rfl⟩
          go_wp2
          go_roundw
          case rel => exact ⟨j + 1, L', B, by omega, by go_num, by go_num, rfl, HL', E1, hL8, hB0, e2, hB2⟩
          case measure => simp [intOf]; omega
    · obtain rfl : j = l.length := by omega
      have hz : Hid (A = R) := hide (by
        have h4 := unhide HA
        rw [List.drop_eq_nil_of_le (Nat.le_refl _)] at h4
        simp only [rk] at h4
        omega)
      go_wp2
      go_ret2
      refine ⟨?_, hB⟩
      rw [← unhide hz]
      rfl

theorem rank_no (a : Option Addr) (cap : Nat) (l : List Int) (w : World) (hl : l.length ≤ 9223372036854775807) (hr : Row w a l) (h : Hid (fault l ≠ 0)) :
    Calls Tryz.prog 71 #[.slice a l.length cap] w fun e w' => e = .returned (.tuple #[.int .i64 0, .iface 58 (.int .i64 (fault l))]) ∧ Below w.heap.size w w' := by
  go_enter Tryz.func71, Tryz.ntmps71
  go_wp2_with fail
  refine (check_no a cap l w hl hr h).mono ?_
  rintro e w1 ⟨rfl, hb1⟩
  go_wp2
  go_ret2
  exact ⟨rfl, hb1⟩

end Go.Proofs.YtkkhgdkgbhdfaakGreatDoor.Pls

/-
  Package pulse: numberAt: by its contract.
-/
namespace Go.Proofs.YtkkhgdkgbhdfaakGreatDoor.Pls
open Go.RowKit
open Go.Proofs.YtkkhgdkgbhdfaakGreatDoor.Tre Go.Proofs.YtkkhgdkgbhdfaakGreatDoor.Lap Go.Proofs.YtkkhgdkgbhdfaakGreatDoor.Cnt Go.Proofs.YtkkhgdkgbhdfaakGreatDoor.Mid
set_option linter.unusedVariables false

set_option maxHeartbeats 4000000 in
theorem numberAt (r : Int) (b L : Nat) (hb : b ≤ 5) (hL : L ≤ 8) (h0 : 0 ≤ r) (h9 : r ≤ 20256) (h1 : Hid (r < V L (b + 1))) (w : World) :
    Calls Tryz.prog 103 #[.int .i64 r, .int .i64 b, .int .i64 L] w fun e w' => ∃ s : Nat, e = .returned (.tuple #[.int .i64 ((s : Int) - (L : Int)), .int .i64 (ahead b L s)]) ∧ s ≤ 2 * L ∧ Hid (ahead b L s ≤ r ∧ r < ahead b L (s + 1)) ∧ Below w.heap.size w w' := by
  go_enter Tryz.func103, Tryz.ntmps103
  go_wp2
  go_loopw [7, 12] (fun v i wr => ∃ (s : Nat) (A : Int), s ≤ 2 * L ∧ i = .int .i64 s ∧ v = .int .i64 A ∧ Hid (A = ahead b L s) ∧ A ≤ r ∧ Below w.heap.size w wr) (fun _ i _ => 2 * L - (intOf i).toNat)
  case atStart => exact ⟨0, 0, Nat.zero_le _, rfl, rfl, rfl, h0, Below.refl _ _⟩
  case round =>
    obtain ⟨s, A, hs, rfl, rfl, HA, hA, hB⟩ := hrel
    have hin := ahead_in (m := b) (L := L) (s := s) (by omega) (by omega) (by omega)
    rw [← unhide HA] at hin
    obtain ⟨a0, a1⟩ := hin
    by_cases hlt : s < 2 * L
    · obtain ⟨X, hX⟩ : ∃ X, (s : Int) - (L : Int) = X := ⟨_, rfl⟩
      have hx0 : -(L : Int) ≤ X := by omega
      have hx1 : X ≤ L := by omega
      have hR := hide (rowsAfter b L X (by omega) hL hx0 hx1 wr)
      obtain ⟨r0, r1⟩ := rows_in (m := b) (L := L) (s := s) (by omega) (by omega)
      have HR : Hid (V (L - X.natAbs) b = rows b L s) := hide (by rw [← hX]; rfl)
      rw [unhide HR] at hR
      have HS := hide (ahead_succ b L s)
      obtain ⟨Q, hQ⟩ : ∃ Q, rows b L s = Q := ⟨_, rfl⟩
      rw [hQ] at r0 r1 hR HS
      rw [← unhide HA] at HS
      clear hQ HR
      have HX := hide hX
      by_cases hlt2 : r < A + Q
      · have hsub : IntKind.i64.wrap ((s : Int) - (L : Int)) = X := by rw [IntWalk.i64_in _ (by omega)]; exact hX
        clear hX
        go_wp2_with fail
        refine (unhide hR).mono ?_
        rintro e w1 ⟨rfl, hb1⟩
        go_wp2
        go_ret2
        refine ⟨s, ?_, hs, ?_, hB.trans (hb1.mono hB.size)⟩
        · rw [unhide HX, unhide HA]; rfl
        · show _ ∧ _
          rw [unhide HS, ← unhide HA]
          exact ⟨hA, hlt2⟩
      · have hle : A + Q ≤ r := by omega
        have hsub : IntKind.i64.wrap ((s : Int) - (L : Int)) = X := by rw [IntWalk.i64_in _ (by omega)]; exact hX
        clear hX
        go_wp2_with fail
        refine (unhide hR).mono ?_
        rintro e w1 ⟨rfl, hb1⟩
        go_wp2
        go_roundw
        case rel => exact ⟨s + 1, A + Q, by omega, by go_num, by go_num, (unhide HS).symm, hle, hB.trans (hb1.mono hB.size)⟩
        case measure => simp [intOf]; omega
    · obtain rfl : s = 2 * L := by omega
      have hsub : ((2 * L : Nat) : Int) - (L : Int) = (L : Int) := by omega
      have HE : Hid (ahead b L (2 * L) ≤ r ∧ r < ahead b L (2 * L + 1)) := hide ⟨by rw [← unhide HA]; exact hA, by rw [ahead_all (by omega) (by omega)]; exact unhide h1⟩
      have HU := hide hsub
      clear hsub
      go_wp2
      go_ret2
      refine ⟨2 * L, ?_, Nat.le_refl _, HE, hB⟩
      rw [unhide HU, unhide HA]; rfl

end Go.Proofs.YtkkhgdkgbhdfaakGreatDoor.Pls

/-
  Package pulse: Of: by its contracts.
-/
namespace Go.Proofs.YtkkhgdkgbhdfaakGreatDoor.Pls
open Go.RowKit
open Go.Proofs.YtkkhgdkgbhdfaakGreatDoor.Tre Go.Proofs.YtkkhgdkgbhdfaakGreatDoor.Lap Go.Proofs.YtkkhgdkgbhdfaakGreatDoor.Cnt Go.Proofs.YtkkhgdkgbhdfaakGreatDoor.Mid
set_option linter.unusedVariables false

set_option maxRecDepth 100000 in
set_option maxHeartbeats 8000000 in
theorem row_ok (n k : Nat) (r : Int) (hn : n ≤ 6) (hk : k ≤ 8) (h0 : 0 ≤ r) (h1 : Hid (r < V k n)) (w : World) :
    Calls Tryz.prog 72 #[.int .i64 n, .int .i64 k, .int .i64 r] w fun e w' => ∃ v l, e = .returned (.tuple #[v, .nilIface]) ∧ Has w' w.heap.size v l ∧ Hid (Is n k r l) ∧ Below w.heap.size w w' := by
  have hof := hide (of_ok n k hn hk w)
  have hV := (V_in k n (by omega) (by omega)).2
  have hr9 : r ≤ 20256 := by have := unhide h1; omega
  have hst : Hid (r < V k (n - 0)) := h1
  have h1' := unhide h1
  obtain ⟨C, hC⟩ : ∃ C, V k n = C := ⟨_, rfl⟩
  rw [hC] at hof hV h1'
  clear hC
  go_enter Tryz.func72, Tryz.ntmps72
  go_wp2_with fail
  refine (unhide hof).mono ?_
  rintro e w1 ⟨rfl, hb1⟩
  clear hof
  go_wp2
  go_loopw [2, 10, 11, 34] (fun v2 v10 v11 i wr => ∃ (j L : Nat) (A : Int) (l : List Int), j ≤ n ∧ i = .int .i64 j ∧ v11 = .int .i64 L ∧ v2 = .int .i64 A ∧ Has wr w.heap.size v10 l ∧ Hid (l.length = j) ∧ Hid (Wants n k r l L A) ∧ Hid (A < V L (n - j)) ∧ L ≤ 8 ∧ 0 ≤ A ∧ A ≤ 20256 ∧ Below w.heap.size w wr) (fun _ _ _ i _ => n - (intOf i).toNat)
  case atStart => exact ⟨0, k, r, [], Nat.zero_le _, rfl, rfl, rfl, Has.nil _ _, rfl, wants_all n k r, hst, hk, h0, hr9, hb1⟩
  case round =>
    obtain ⟨j, L, A, l, hj, rfl, rfl, rfl, h9, HJ, HW, HV, hL, hA0, hA9, hB⟩ := hrel
    clear hb1 h1' hst
    by_cases hlt : j < n
    · obtain ⟨b, hb⟩ : ∃ b, n - 1 - j = b := ⟨_, rfl⟩
      have hb1 : (n : Int) - 1 - (j : Int) = (b : Int) := by omega
      have hb5 : b ≤ 5 := by omega
      have HB : Hid (A < V L (b + 1)) := hide (by have := unhide HV; rwa [show n - j = b + 1 by omega] at this)
      have HN : Hid (n - l.length = b + 1) := hide (by rw [unhide HJ]; omega)
      have hl9 : Hid (l.length + 1 ≤ 1000000) := hide (by rw [unhide HJ]; omega)
      have hnb : n - (j + 1) = b := by omega
      have HNB := hide hnb
      clear hb hnb HV
      go_wp2_with fail
      refine (numberAt A b L hb5 hL hA0 hA9 HB wr).mono ?_
      rintro e w2 ⟨s, rfl, hs, hin, hb2⟩
      have h10 := h9.below hb2
      have hB2 := hB.trans (hb2.mono hB.size)
      have hWs := hB2.size
      have HW2 := hide ((unhide HW).step (unhide HN) hs)
      obtain ⟨i1, i2⟩ := unhide hin
      rw [ahead_succ] at i2
      have hai := ahead_in (m := b) (L := L) (s := s) (by omega) (by omega) (by omega)
      have HV2 : Hid (A - ahead b L s < V (L - ((s : Int) - (L : Int)).natAbs) b) := hide (by
        have e : rows b L s = V (L - ((s : Int) - (L : Int)).natAbs) b := rfl
        rw [← e]; omega)
      obtain ⟨X, hX⟩ : ∃ X, (s : Int) - (L : Int) = X := ⟨_, rfl⟩
      obtain ⟨Q, hQ⟩ : ∃ Q, ahead b L s = Q := ⟨_, rfl⟩
      have hx0 : -(L : Int) ≤ X := by omega
      have hx1 : X ≤ L := by omega
      rw [hX] at HV2 HW2 ⊢
      rw [hQ] at HV2 HW2 hai i1 ⊢
      have hdist := hide (dist X)
      obtain ⟨D, hD⟩ : ∃ D, X.natAbs = D := ⟨_, rfl⟩
      rw [hD] at HV2 HW2 hdist
      obtain ⟨L', hL'⟩ : ∃ L', L - D = L' := ⟨_, rfl⟩
      rw [hL'] at HV2 HW2
      have hLD : (L : Int) - (D : Int) = (L' : Int) := by omega
      have hL8 : L' ≤ 8 := by omega
      obtain ⟨q0, q1⟩ := hai
      clear hX hQ hD hL' i2 hin hb2 h9 hB HB HW
      go_wp2_with (first
        | (at_builtin; refine wpList_app _ rfl _ _ rfl w.heap.size u10 l [X] _ _ rfl (h10.alloc _) rfl (row_one _ _ _) (unhide hl9) (by simp; omega) ?_; intro s' w3 k3 g3 at3)
        | fail)
      obtain ⟨d1, d2⟩ := stepped_plain h10 hWs k3 g3 at3
      have hB3 := hB2.trans d1
      refine (unhide hdist w3 (by omega) (by omega)).mono ?_
      rintro e w4 ⟨rfl, rfl⟩
      go_wp2
      go_roundw
      case rel => exact ⟨j + 1, L', A - Q, l ++ [X], by omega, by go_num, by go_num, by go_num, k3, hide (by rw [List.length_append, unhide HJ]; rfl), HW2, hide (by rw [unhide HNB]; exact unhide HV2), hL8, by omega, by omega, hB3⟩
      case measure => simp [intOf]; omega
    · obtain rfl : j = n := by omega
      have HI : Hid (Is j k r l) := hide ((unhide HW).done (unhide HJ) hL hA0 (by have := unhide HV; rwa [Nat.sub_self] at this))
      go_wp2
      go_ret2
      exact ⟨_, l, rfl, h9, HI, hB⟩

theorem row_no (n k r : Int) (w : World) (h : Hid (wide n 6 = true) ∨ (Hid (wide n 6 = false) ∧ Hid (wide k 8 = true))) :
    Calls Tryz.prog 72 #[.int .i64 n, .int .i64 k, .int .i64 r] w fun e w' => e = .returned (.tuple #[.slice none 0 0, .iface 58 (.int .i64 1)]) ∧ Below w.heap.size w w' := by
  go_enter Tryz.func72, Tryz.ntmps72
  go_wp2_with fail
  refine (of_no n k w h).mono ?_
  rintro e w1 ⟨rfl, hb1⟩
  go_wp2
  go_ret2
  exact ⟨rfl, hb1⟩
theorem row_out (n k : Nat) (r : Int) (hn : n ≤ 6) (hk : k ≤ 8) (h : r < 0 ∨ (0 ≤ r ∧ Hid (V k n ≤ r))) (w : World) :
    Calls Tryz.prog 72 #[.int .i64 n, .int .i64 k, .int .i64 r] w fun e w' => e = .returned (.tuple #[.slice none 0 0, .iface 58 (.int .i64 1)]) ∧ Below w.heap.size w w' := by
  have hof := hide (of_ok n k hn hk w)
  obtain ⟨C, hC⟩ : ∃ C, V k n = C := ⟨_, rfl⟩
  rw [hC] at hof h
  clear hC
  rcases h with h | ⟨h, g⟩
  · go_enter Tryz.func72, Tryz.ntmps72
    go_wp2_with fail
    refine (unhide hof).mono ?_
    rintro e w1 ⟨rfl, hb1⟩
    go_wp2
    go_ret2
    exact ⟨rfl, hb1⟩
  · have g' := unhide g
    go_enter Tryz.func72, Tryz.ntmps72
    go_wp2_with fail
    refine (unhide hof).mono ?_
    rintro e w1 ⟨rfl, hb1⟩
    go_wp2
    go_ret2
    exact ⟨rfl, hb1⟩

end Go.Proofs.YtkkhgdkgbhdfaakGreatDoor.Pls

/-
  hornref1.Count: by its contract.
-/
namespace Go.Proofs.YtkkhgdkgbhdfaakGreatDoor.Cnt
open Go.RowKit
open Go.Proofs.YtkkhgdkgbhdfaakGreatDoor.Tre
set_option linter.unusedVariables false

/-- Nine numbers in memory. -/
def nine (f : Nat → Int) : Array Value := ((upto f 9).map (Value.int .i64)).toArray
theorem nine_size (f : Nat → Int) : (nine f).size = 9 := by simp [nine, upto_length]
theorem nine_at (f : Nat → Int) {j : Nat} (h : j < 9) : (nine f)[j]? = some (.int .i64 (f j)) := by simp [nine, upto, h]
theorem nine_set (f : Nat → Int) {j : Nat} (x : Int) : (nine f).setIfInBounds j (.int .i64 x) = nine (fun y => if y = j then x else f y) := by
  apply Array.ext
  · simp [nine_size]
  · intro i h1 h2
    rw [nine_size] at h2
    have e1 := nine_at (fun y => if y = j then x else f y) h2
    have e2 := nine_at f h2
    rw [Array.getElem?_eq_getElem (by rw [nine_size]; exact h2)] at e1 e2
    rw [Option.some.inj e1, Array.getElem_setIfInBounds (by rw [nine_size]; exact h2)]
    by_cases h : j = i
    · subst h; simp
    · rw [if_neg h, Option.some.inj e2, if_neg (fun e => h e.symm)]
theorem nine_congr {f g : Nat → Int} (h : ∀ i, i < 9 → f i = g i) : nine f = nine g := by unfold nine; rw [upto_congr h]
theorem nine_one (f : Nat → Int) : (nine f).all (·.oneCell') = true := by
  rw [Array.all_eq_true_iff_forall_mem]
  intro v hv
  obtain ⟨z, _, rfl⟩ := List.mem_map.1 (by simpa [nine] using hv)
  rfl
def Arr (w : World) (g : Nat) (f : Nat → Int) : Prop := w.heap[g]? = some (.cells (nine f) 104 (0, 0))
theorem Arr.cell {w : World} {g : Nat} {f : Nat → Int} (h : Arr w g f) {j : Nat} (hj : j < 9) : w.cell? ⟨g, j, none⟩ = some (.int .i64 (f j)) := by
  rw [cell_of_row w g j _ _ _ h, nine_at f hj]
theorem Arr.frozen {w : World} {g : Nat} {f : Nat → Int} (h : Arr w g f) (j : Nat) : w.frozen? ⟨g, j, none⟩ = false := frozen_of_row w g j _ _ h
theorem Arr.put {w : World} {g : Nat} {f : Nat → Int} (h : Arr w g f) (j : Nat) (x : Int) : Arr (w.setCell ⟨g, j, none⟩ (.int .i64 x)) g (fun y => if y = j then x else f y) := by
  unfold Arr
  rw [setCell_eq_setRow w g j _ _ _ _ h, setRow_heap w g _ _ _ _ h, nine_set]
theorem Arr.beside {w : World} {g g' : Nat} {f : Nat → Int} (h : Arr w g f) (hne : g ≠ g') (j : Nat) (v : Value) : Arr (w.setCell ⟨g', j, none⟩ v) g f := by
  unfold Arr
  rw [Below.heap_setCell _ _ _ _ hne]
  exact h
theorem Arr.lt {w : World} {g : Nat} {f : Nat → Int} (h : Arr w g f) : g < w.heap.size := (Array.getElem?_eq_some_iff.1 h).1

/-- What is done of one number more: the first j are as they will be, the next one is c. -/
def nx (i j : Nat) (c : Int) : Nat → Int := fun y => if y < j then V y (i + 1) else if y = j then c else 0
/-- As many as are wanted, up to k pulses. -/
def T (k i : Nat) : Nat → Int := fun y => if y < k + 1 then V y i else 0
theorem nx_zero (i : Nat) : nine (nx i 0 0) = nine (fun _ => 0) := nine_congr fun y _ => by simp [nx]
theorem nx_at (i j : Nat) (c : Int) : nx i j c j = c := by simp [nx]
theorem nx_put (i j : Nat) (c x : Int) : (fun y => if y = j then x else nx i j c y) = nx i j x := by
  funext y
  unfold nx
  by_cases h : y = j
  · subst h; simp
  · simp [h]
theorem nx_next (i j : Nat) : nx i j (V j (i + 1)) = nx i (j + 1) 0 := by
  funext y
  unfold nx
  rcases Nat.lt_trichotomy y j with h | h | h
  · rw [if_pos h, if_pos (by omega)]
  · subst h; rw [if_neg (by omega), if_pos rfl, if_pos (by omega)]
  · rw [if_neg (by omega), if_neg (by omega), if_neg (by omega)]; split <;> rfl
theorem nx_end (i k : Nat) : nx i (k + 1) 0 = T k (i + 1) := by
  funext y
  unfold nx T
  by_cases h : y < k + 1
  · rw [if_pos h, if_pos h]
  · rw [if_neg h, if_neg h]; split <;> rfl
theorem T_zero (k : Nat) : nine (T k 0) = #[.int .i64 1, .int .i64 0, .int .i64 0, .int .i64 0, .int .i64 0, .int .i64 0, .int .i64 0, .int .i64 0, .int .i64 0] := by
  have h : nine (T k 0) = nine (fun y => if y = 0 then 1 else 0) := nine_congr fun y _ => by
    unfold T
    cases y with
    | zero => simp [V_zero]
    | succ y => rw [V_none]; simp
  rw [h]; rfl
theorem T_at (k i : Nat) {y : Nat} (h : y ≤ k) : T k i y = V y i := by unfold T; rw [if_pos (by omega)]

theorem sumF_in {f : Nat → Int} {j : Nat} (h : ∀ t, t < j → 0 ≤ f t) : ∀ y, y ≤ j → 0 ≤ sumF f y ∧ sumF f y ≤ sumF f j := by
  have h0 : ∀ y, y ≤ j → 0 ≤ sumF f y := by
    intro y
    induction y with
    | zero => intro _; exact Int.le_refl _
    | succ y ih => intro hy; have := ih (by omega); have := h y (by omega); simp only [sumF]; omega
  have h1 : ∀ d, d ≤ j → sumF f (j - d) ≤ sumF f j := by
    intro d
    induction d with
    | zero => intro _; exact Int.le_refl _
    | succ d ih =>
      intro hd
      have h2 := ih (by omega)
      have h3 := h (j - (d + 1)) (by omega)
      have e : j - d = (j - (d + 1)) + 1 := by omega
      rw [e] at h2
      simp only [sumF] at h2
      omega
  intro y hy
  refine ⟨h0 y hy, ?_⟩
  have := h1 (j - y) (by omega)
  rwa [show j - (j - y) = y by omega] at this

/-- Of the last x. -/
def part (i j x : Nat) : Int := V j i + 2 * (sumF (fun t => V t i) j - sumF (fun t => V t i) (j - x))
theorem part_zero (i j : Nat) : part i j 0 = V j i := by unfold part; rw [Nat.sub_zero]; omega
theorem part_all (i j : Nat) : part i j j = V j (i + 1) := by
  unfold part
  rw [V_more, Nat.sub_self]
  simp only [sumF]
  omega
theorem part_succ (i : Nat) {j x d : Nat} (hd : j = d + (x + 1)) : part i j (x + 1) = part i j x + 2 * V d i := by
  unfold part
  have e1 : j - (x + 1) = d := by omega
  have e2 : j - x = d + 1 := by omega
  rw [e1, e2]
  simp only [sumF]
  omega
theorem part_in {i j : Nat} (hi : i < 6) (hj : j < 9) {x : Nat} (hx : x ≤ j) : 0 ≤ part i j x ∧ part i j x ≤ 20256 := by
  have h := sumF_in (f := fun t => V t i) (j := j) (fun t ht => (V_in t i (by omega) (by omega)).1) (j - x) (by omega)
  have h0 := V_in j i hj (by omega)
  have h1 := V_in j (i + 1) hj (by omega)
  rw [V_more] at h1
  unfold part
  omega

set_option maxRecDepth 100000 in
set_option maxHeartbeats 8000000 in
theorem refCount (n k : Nat) (hn : n ≤ 6) (hk : k ≤ 8) (w : World) :
    Calls Tryz.prog 35 #[.int .i64 n, .int .i64 k] w fun e w' => e = .returned (.int .i64 (V k n)) ∧ Below w.heap.size w w' := by
  have hst : Hid (Arr (w.alloc (.cells #[.int .i64 1, .int .i64 0, .int .i64 0, .int .i64 0, .int .i64 0, .int .i64 0, .int .i64 0, .int .i64 0, .int .i64 0] 104)) w.heap.size (T k 0)) := hide (by unfold Arr; rw [T_zero]; exact heap_alloc_new _ _)
  have hbA : Below w.heap.size w (w.alloc (.cells #[.int .i64 1, .int .i64 0, .int .i64 0, .int .i64 0, .int .i64 0, .int .i64 0, .int .i64 0, .int .i64 0, .int .i64 0] 104)) := (Below.refl _ _).alloc (Nat.le_refl _) _
  go_enter Tryz.func35, Tryz.ntmps35
  go_wp2
  go_loopw [6] (fun i wr => ∃ p : Nat, p ≤ n ∧ i = .int .i64 p ∧ Hid (Arr wr w.heap.size (T k p)) ∧ Below w.heap.size w wr) (fun i _ => n - (intOf i).toNat)
  case atStart => exact ⟨0, Nat.zero_le _, rfl, hst, hbA⟩
  case round =>
    obtain ⟨p, hp, rfl, H0, hB⟩ := hrel
    clear hst hbA
    by_cases hlt : p < n
    · have hsz := (unhide H0).lt
      obtain ⟨g, hg⟩ : ∃ g, g = wr.heap.size := ⟨_, rfl⟩
      have hne : w.heap.size ≠ g := by omega
      have hle : w.heap.size ≤ g := by omega
      have HA : Hid (Arr (wr.alloc (.cells #[.int .i64 0, .int .i64 0, .int .i64 0, .int .i64 0, .int .i64 0, .int .i64 0, .int .i64 0, .int .i64 0, .int .i64 0] 104)) g (nx p 0 0)) := hide (by unfold Arr; rw [nx_zero, hg]; exact heap_alloc_new _ _)
      have HB : Hid (Arr (wr.alloc (.cells #[.int .i64 0, .int .i64 0, .int .i64 0, .int .i64 0, .int .i64 0, .int .i64 0, .int .i64 0, .int .i64 0, .int .i64 0] 104)) w.heap.size (T k p)) := hide (by unfold Arr; rw [heap_alloc_old _ _ hsz]; exact unhide H0)
      have hB1 : Below w.heap.size w (wr.alloc (.cells #[.int .i64 0, .int .i64 0, .int .i64 0, .int .i64 0, .int .i64 0, .int .i64 0, .int .i64 0, .int .i64 0, .int .i64 0] 104)) := hB.alloc (by omega) _
      clear hB H0 hsz
      go_wp2
      rw [← hg]
      go_loopw [8] (fun i wr => ∃ j : Nat, j ≤ k + 1 ∧ i = .int .i64 j ∧ Hid (Arr wr w.heap.size (T k p)) ∧ Hid (Arr wr g (nx p j 0)) ∧ Below w.heap.size w wr) (fun i _ => k + 1 - (intOf i).toNat)
      case atStart => exact ⟨0, Nat.zero_le _, rfl, HB, HA, hB1⟩
      case round =>
        obtain ⟨j, hj, rfl, H0, H1, hB2⟩ := hrel
        clear HA HB hB1 hg
        by_cases hlt2 : j ≤ k
        · have hc0 := (unhide H0).cell (show j < 9 by omega)
          rw [T_at k p hlt2] at hc0
          have hc1 := (unhide H1).cell (show j < 9 by omega)
          have hf1 := (unhide H1).frozen j
          have H2 : Hid (Arr (wr.setCell ⟨g, j, none⟩ (.int .i64 (V j p))) g (nx p j (part p j 0))) := hide (by
            have h := (unhide H1).put j (V j p)
            rw [nx_put] at h
            rw [part_zero]
            exact h)
          have H3 : Hid (Arr (wr.setCell ⟨g, j, none⟩ (.int .i64 (V j p))) w.heap.size (T k p)) := hide ((unhide H0).beside hne _ _)
          have hB3 : Below w.heap.size w (wr.setCell ⟨g, j, none⟩ (.int .i64 (V j p))) := hB2.setCell (p := ⟨g, j, none⟩) hle _
          obtain ⟨Z, hZ⟩ : ∃ Z, V j p = Z := ⟨_, rfl⟩
          rw [hZ] at hc0 H2 H3 hB3
          clear H0 H1 hB2 hZ
          go_wp2
          go_loopw [9] (fun i wr => ∃ x : Nat, x ≤ j ∧ i = .int .i64 (x + 1) ∧ Hid (Arr wr w.heap.size (T k p)) ∧ Hid (Arr wr g (nx p j (part p j x))) ∧ Below w.heap.size w wr) (fun i _ => j + 1 - (intOf i).toNat)
          case atStart => exact ⟨0, Nat.zero_le _, rfl, H3, H2, hB3⟩
          case round =>
            obtain ⟨x, hx, rfl, H4, H5, hB4⟩ := hrel
            clear H2 H3 hB3 hc0 hc1 hf1
            by_cases hlt3 : x < j
            · obtain ⟨d, hd⟩ : ∃ d, j = d + (x + 1) := ⟨j - (x + 1), by omega⟩
              have HS := hide (part_succ p hd)
              have hd9 : d < 9 := by omega
              have hsub : (j : Int) - ((x : Int) + 1) = (d : Int) := by omega
              have hc0 := (unhide H4).cell hd9
              rw [T_at k p (show d ≤ k by omega)] at hc0
              have hc1 := (unhide H5).cell (show j < 9 by omega)
              rw [nx_at] at hc1
              have hf1 := (unhide H5).frozen j
              obtain ⟨x0, x1⟩ := V_in d p hd9 (by omega)
              obtain ⟨y0, y1⟩ := part_in (show p < 6 by omega) (show j < 9 by omega) (show x ≤ j by omega)
              have P1 : Hid (∀ X, X = part p j (x + 1) → Arr (wr.setCell ⟨g, j, none⟩ (.int .i64 X)) g (nx p j (part p j (x + 1)))) := hide (by
                rintro X rfl
                have h := (unhide H5).put j (part p j (x + 1))
                rw [nx_put] at h
                exact h)
              have P2 : Hid (∀ X, Arr (wr.setCell ⟨g, j, none⟩ (.int .i64 X)) w.heap.size (T k p)) := hide (fun X => (unhide H4).beside hne _ _)
              have P3 : Hid (∀ X, Below w.heap.size w (wr.setCell ⟨g, j, none⟩ (.int .i64 X)).drew) := hide (fun X => (hB4.setCell (p := ⟨g, j, none⟩) hle _).trans ⟨rfl, rfl, rfl, Nat.le_refl _, fun _ _ => rfl⟩)
              obtain ⟨X, hX⟩ : ∃ X, V d p = X := ⟨_, rfl⟩
              obtain ⟨Y, hY⟩ : ∃ Y, part p j x = Y := ⟨_, rfl⟩
              rw [hX] at hc0 x0 x1 HS
              rw [hY] at hc1 y0 y1 HS
              have hwm : IntKind.i64.wrap (2 * X) = 2 * X := IntWalk.i64_in _ (by omega)
              have hwa : IntKind.i64.wrap (Y + 2 * X) = Y + 2 * X := IntWalk.i64_in _ (by omega)
              clear hX hY hd H4 H5 hB4
              go_wp2
              go_region
              go_wp2
              go_roundw
              case rel => exact ⟨x + 1, by omega, by go_num, unhide P2 _, unhide P1 _ (unhide HS).symm, unhide P3 _⟩
              case measure => simp [intOf]; omega
            · obtain rfl : x = j := by omega
              rw [part_all, nx_next] at H5
              go_wp2
              go_roundw
              case rel => exact ⟨x + 1, by omega, by go_num, H4, H5, hB4⟩
              case measure => simp [intOf]; omega
        · obtain rfl : j = k + 1 := by omega
          rw [nx_end] at H1
          have hg1 := unhide H1
          have hg0 := unhide H0
          unfold Arr at hg1 hg0
          have hi9 : (Tryz.prog.info? 104).map (·.size) = some 9 := by kernel_rfl
          have hi : (Tryz.prog.info? 104).map (·.size) = some (nine (T k (p + 1))).size := by rw [nine_size]; exact hi9
          have ho : (nine (T k p)).size = (nine (T k (p + 1))).size := by rw [nine_size, nine_size]
          have hall := nine_one (T k (p + 1))
          have G1 := hide hg1
          have G0 := hide hg0
          have HI := hide hi
          have HO := hide ho
          have HL := hide hall
          have HE : Hid (Arr (wr.setRow w.heap.size (nine (T k (p + 1)))) w.heap.size (T k (p + 1))) := hide (setRow_heap _ _ _ _ _ _ hg0)
          have hB5 : Below w.heap.size w (wr.setRow w.heap.size (nine (T k (p + 1)))) := below_setRow hB2 (Nat.le_refl _) _
          clear hg1 hg0 hi ho hall hi9 H0 H1
          go_wp2_with (first
            | (refine wpList_load_row rfl 104 _ rfl g rfl 104 _ _ _ (unhide G1) Tryz.underlying104 rfl (unhide HI) ?_)
            | (refine wpList_store_row rfl 104 _ _ rfl w.heap.size (nine (T k (p + 1))) rfl rfl 104 _ (unhide G0) (unhide HI) (unhide HO) (unhide HL) ?_))
          go_roundw
          case rel => exact ⟨p + 1, by omega, by go_num, HE, hB5⟩
          case measure => simp [intOf]; omega
    · obtain rfl : p = n := by omega
      have hc := (unhide H0).cell (show k < 9 by omega)
      rw [T_at k p (Nat.le_refl _)] at hc
      go_wp2
      go_ret
      exact ⟨rfl, hB⟩

end Go.Proofs.YtkkhgdkgbhdfaakGreatDoor.Cnt

/-
  hornref1's Rank and Row: by their contracts.
-/
namespace Go.Proofs.YtkkhgdkgbhdfaakGreatDoor.Pls
open Go.RowKit
open Go.Proofs.YtkkhgdkgbhdfaakGreatDoor.Tre Go.Proofs.YtkkhgdkgbhdfaakGreatDoor.Cnt Go.Proofs.YtkkhgdkgbhdfaakGreatDoor.Mid
set_option linter.unusedVariables false

set_option maxRecDepth 100000 in
set_option maxHeartbeats 8000000 in
theorem refRank (l : List Int) : ∀ (a : Option Addr) (cap : Nat) (w : World), l.length ≤ 6 → loud l ≤ 8 → l.length ≤ cap → cap ≤ 9223372036854775807 → Row w a l →
    Calls Tryz.prog 48 #[.slice a l.length cap] w fun e w' => e = .returned (.int .i64 (rk l (loud l))) ∧ Below w.heap.size w w' := by
  induction l with
  | nil =>
    intro a cap w _ _ _ _ _
    go_enter Tryz.func48, Tryz.ntmps48
    go_wp2
    go_ret
    exact ⟨rfl, Below.refl _ _⟩
  | cons x r ih =>
    intro a cap w hl hk hcap hc9 hr
    have hlo := hide (refLoud a cap (x :: r) w (by omega) (loud_all (by omega)) hr)
    obtain ⟨b, off, rfl, hb, hc⟩ := row_cell hr (by simp)
    have hcx : w.cell? ⟨b, off, none⟩ = some (.int .i64 x) := hc 0 (by simp)
    have HX : Hid (∀ w' : World, Below w.heap.size w w' → w'.cell? ⟨b, off, none⟩ = some (.int .i64 x)) := hide (fun w' hB' => (hB'.cell (p := ⟨b, off, none⟩) hb).trans hcx)
    have hd : Row w (some ⟨b, off + 1, none⟩) r := hr.drop 1
    have hloud : loud (x :: r) = x.natAbs + loud r := rfl
    have hin := rk_in (x :: r) hl hk
    have hV := (V_in (loud (x :: r)) (x :: r).length (by omega) (by omega)).2
    have hin2 := rk_in r (by simp at hl; omega) (by omega)
    have HR : Hid (rk (x :: r) (loud (x :: r)) = ahead r.length (loud (x :: r)) (x + (loud (x :: r) : Int)).toNat + rk r (loud r)) := hide (by
      simp only [rk]
      rw [show loud (x :: r) - x.natAbs = loud r by omega])
    obtain ⟨K, hK⟩ : ∃ K, loud (x :: r) = K := ⟨_, rfl⟩
    obtain ⟨M, hM⟩ : ∃ M, (x :: r).length = M := ⟨_, rfl⟩
    obtain ⟨m, hm⟩ : ∃ m, r.length = m := ⟨_, rfl⟩
    have hMm : M = m + 1 := by rw [← hM, ← hm]; rfl
    rw [hK] at hlo hloud hk hin hV HR ⊢
    rw [hM] at hlo hl hcap hin hV ⊢
    rw [hm] at HR
    have hih := fun a' cap' w' h1 h2 h3 => ih a' cap' w' (by omega) (by omega) h1 h2 h3
    rw [hm] at hih
    have HI := hide hih
    obtain ⟨P, hP⟩ : ∃ P, rk r (loud r) = P := ⟨_, rfl⟩
    rw [hP] at HI hin2 HR
    obtain ⟨S, hS⟩ : ∃ S, (x + (K : Int)).toNat = S := ⟨_, rfl⟩
    rw [hS] at HR
    have hxS : x = (S : Int) - (K : Int) := by omega
    have hS2 : S ≤ 2 * K := by omega
    have hM1 : (M : Int) - 1 = (m : Int) := by omega
    have hM1' : M - 1 = m := by omega
    have hm5 : m ≤ 5 := by omega
    have hP9 : 0 ≤ P ∧ P ≤ 20256 := by have := unhide HR; have := ahead_in (m := m) (L := K) (s := S) (by omega) (by omega) (by omega); omega
    obtain ⟨P0, P9⟩ := hP9
    have hM0 : ((M : Int) == 0) = false := by simp; omega
    have h1M : (1 : Int) ≤ M := by omega
    have hx0 : -(K : Int) ≤ x := by omega
    have hx1 : x ≤ (K : Int) := by omega
    have HM1 := hide hM1'
    have hcap1 : 1 ≤ cap := by omega
    have hcm : m ≤ cap - 1 := by omega
    have hr1 : Hid (cap = 1 → r = []) := hide (fun e => List.eq_nil_of_length_eq_zero (by omega))
    have HXS := hide hxS
    clear hK hM hm hP hS hih ih hin hin2 hV hloud hc hcx hr hMm hxS hM1'
    go_enter Tryz.func48, Tryz.ntmps48
    go_wp2_with fail
    refine (unhide hlo).mono ?_
    clear hlo
    rintro e w1 ⟨rfl, rfl⟩
    go_wp2
    go_loopw [4, 5] (fun v4 v5 wr => ∃ (s : Nat) (A X : Int), s ≤ S ∧ v5 = .int .i64 X ∧ X = (s : Int) - (K : Int) ∧ v4 = .int .i64 A ∧ Hid (A = ahead m K s) ∧ Below w.heap.size w wr) (fun _ v _ => ((S : Int) - (K : Int) - intOf v).toNat)
    case atStart => exact ⟨0, 0, -(K : Int), Nat.zero_le _, by go_num, by omega, rfl, rfl, Below.refl _ _⟩
    case round =>
      obtain ⟨s, A, X, hs, rfl, hX, rfl, HA, hB⟩ := hrel
      have hai := ahead_in (m := m) (L := K) (s := s) (by omega) (by omega) (by omega)
      rw [← unhide HA] at hai
      obtain ⟨A0, A9⟩ := hai
      have hcx := unhide HX wr hB
      have hxS := unhide HXS
      by_cases hlt : s < S
      · have hXx : X < x := by omega
        have hx2 : X + 1 = ((s + 1 : Nat) : Int) - (K : Int) := by omega
        obtain ⟨r0, r1⟩ := rows_in (m := m) (L := K) (s := s) (by omega) (by omega)
        have hfar := hide (refFar X wr (by omega) (by omega))
        have HQ : Hid (rows m K s = V (K - X.natAbs) m) := hide (by rw [hX]; rfl)
        have HS : Hid (A + rows m K s = ahead m K (s + 1)) := hide (by rw [ahead_succ, unhide HA])
        obtain ⟨D, hD⟩ : ∃ D, X.natAbs = D := ⟨_, rfl⟩
        rw [hD] at hfar HQ
        obtain ⟨J, hJ⟩ : ∃ J, K - D = J := ⟨_, rfl⟩
        rw [hJ] at HQ
        have hsub : (K : Int) - (D : Int) = (J : Int) := by omega
        have hJ8 : J ≤ 8 := by omega
        have hcnt := hide (refCount m J (by omega) hJ8 wr)
        rw [← unhide HQ] at hcnt
        obtain ⟨Q, hQ⟩ : ∃ Q, rows m K s = Q := ⟨_, rfl⟩
        rw [hQ] at hcnt HS r0 r1
        have hX0 : -8 ≤ X := by omega
        have hX8 : X ≤ 8 := by omega
        have HX2 := hide hx2
        clear hQ HQ hD hJ HA hx2
        have HXe := hide hX
        clear hX hxS
        go_wp2_with fail
        refine (unhide hfar).mono ?_
        rintro e w2 ⟨rfl, rfl⟩
        go_wp2_with fail
        refine (unhide hcnt).mono ?_
        rintro e w3 ⟨rfl, hb3⟩
        go_wp2
        go_roundw
        case rel => exact ⟨s + 1, A + Q, X + 1, by omega, by go_num, unhide HX2, by go_num, HS, hB.trans (hb3.mono hB.size)⟩
        case measure => have := unhide HXe; have := unhide HXS; simp [intOf]; omega
      · obtain rfl : s = S := by omega
        have hXx : X = x := by omega
        subst hXx
        have hrd := hd.below hB
        have HE : Hid (A + P = rk (X :: r) K) := hide (by rw [unhide HR, unhide HA])
        have hend : ∀ (a' : Option Addr) (cap' : Nat), m ≤ cap' → cap' ≤ 9223372036854775807 → Row wr a' r → Calls Tryz.prog 48 #[.slice a' m cap'] wr fun e w' => e = .returned (.int .i64 P) ∧ Below wr.heap.size wr w' := fun a' cap' h1 h2 h3 => unhide HI a' cap' wr h1 h2 h3
        have HN := hide hend
        have HXe := hide hX
        clear hend HI HR HA hX hxS
        by_cases hc1 : cap = 1
        · subst hc1
          obtain rfl := unhide hr1 rfl
          obtain rfl : m = 0 := by omega
          go_wp2_with fail
          refine (unhide HN _ 0 (Nat.le_refl _) (by omega) (Or.inl rfl)).mono ?_
          rintro e w4 ⟨rfl, hb4⟩
          go_wp2
          go_ret
          exact ⟨ret_int (unhide HE), hB.trans (hb4.mono hB.size)⟩
        · go_wp2_with fail
          rw [unhide HM1]
          refine (unhide HN _ (cap - 1) hcm (by omega) hrd).mono ?_
          rintro e w4 ⟨rfl, hb4⟩
          go_wp2
          go_ret
          exact ⟨ret_int (unhide HE), hB.trans (hb4.mono hB.size)⟩

set_option maxRecDepth 100000 in
set_option maxHeartbeats 8000000 in
theorem refRow (n : Nat) : ∀ (k : Nat) (r : Int) (w : World), n ≤ 6 → k ≤ 8 → 0 ≤ r → Hid (r < V k n) →
    Calls Tryz.prog 37 #[.int .i64 n, .int .i64 k, .int .i64 r] w fun e w' => ∃ v l, e = .returned v ∧ Has w' w.heap.size v l ∧ Hid (Is n k r l) ∧ Below w.heap.size w w' := by
  induction n with
  | zero =>
    intro k r w hn hk h0 h1
    have HI : Hid (Is 0 k r []) := hide ((wants_all 0 k r).done rfl hk h0 (unhide h1))
    go_enter Tryz.func37, Tryz.ntmps37
    go_wp2
    go_ret
    exact ⟨_, [], rfl, Has.nil _ _, HI, Below.refl _ _⟩
  | succ n ih =>
    intro k r w hn hk h0 h1
    have hr9 : r ≤ 20256 := by have h2 := unhide h1; have h3 := (V_in k (n + 1) (by omega) (by omega)).2; omega
    have HI := hide ih
    obtain ⟨N, hN⟩ : ∃ N : Int, N = ((n + 1 : Nat) : Int) := ⟨_, rfl⟩
    rw [← hN]
    have hN1 : N - 1 = (n : Int) := by omega
    have hN2 : (N == 0) = false := by simp; omega
    have hN0 : 0 ≤ N := by omega
    have hN9 : N ≤ 6 := by omega
    have hn5 : n ≤ 5 := by omega
    clear hN ih hn
    have hfar0 := hide (refFar (-(k : Int)) w (by omega) (by omega))
    rw [show (-(k : Int)).natAbs = k by omega] at hfar0
    have hkk : (k : Int) - (k : Int) = 0 := by omega
    have hcnt0 := hide (refCount n 0 (by omega) (by omega) w)
    rw [← show rows n k 0 = V 0 n by rw [rows_first, V_zero]] at hcnt0
    obtain ⟨Q0, hQ0⟩ : ∃ Q, rows n k 0 = Q := ⟨_, rfl⟩
    rw [hQ0] at hcnt0
    have HQ0 := hide hQ0.symm
    clear hQ0
    go_enter Tryz.func37, Tryz.ntmps37
    go_wp2_with fail
    refine (unhide hfar0).mono ?_
    rintro e w1 ⟨rfl, rfl⟩
    go_wp2_with fail
    refine (unhide hcnt0).mono ?_
    rintro e w1 ⟨rfl, hb1⟩
    clear hfar0 hcnt0
    go_wp2
    go_loopw [2, 7, 8] (fun v2 v7 v8 wr => ∃ (s : Nat) (A X Q : Int), s ≤ 2 * k ∧ v7 = .int .i64 X ∧ Hid (X = (s : Int) - (k : Int)) ∧ v2 = .int .i64 A ∧ Hid (A = r - ahead n k s) ∧ 0 ≤ A ∧ v8 = .int .i64 Q ∧ Hid (Q = rows n k s) ∧ Below w.heap.size w wr) (fun _ v _ _ => ((k : Int) - intOf v).toNat)
    case atStart => exact ⟨0, r, -(k : Int), Q0, Nat.zero_le _, by go_num, hide (by omega), rfl, hide (by rw [ahead_zero]; omega), h0, rfl, HQ0, hb1⟩
    case round =>
      obtain ⟨s, A, X, Q, hs, rfl, HX, rfl, HA, hA0, rfl, HQ, hB⟩ := hrel
      clear hb1 HQ0
      have hA9 : A ≤ 20256 := by have h2 := (ahead_in (m := n) (L := k) (s := s) (by omega) (by omega) (by omega)).1; have h3 := unhide HA; omega
      have hq := rows_in (m := n) (L := k) (s := s) (by omega) (by omega)
      rw [← unhide HQ] at hq
      obtain ⟨q0, q9⟩ := hq
      have hX0 : -(k : Int) ≤ X := by have := unhide HX; omega
      have hX1 : X ≤ (k : Int) := by have := unhide HX; omega
      have hfarX := hide (fun W => refFar X W (by omega) (by omega))
      obtain ⟨D, hD⟩ : ∃ D, X.natAbs = D := ⟨_, rfl⟩
      obtain ⟨J, hJ⟩ : ∃ J, k - D = J := ⟨_, rfl⟩
      by_cases hge : Q ≤ A
      · have hs2 : s < 2 * k := by
          rcases Nat.lt_or_ge s (2 * k) with h | h
          · exact h
          · obtain rfl : s = 2 * k := by omega
            have h2 := ahead_all (m := n) (L := k) (by omega) (by omega)
            rw [ahead_succ] at h2
            have h3 := unhide h1
            have h4 := unhide HA
            have h5 := unhide HQ
            omega
        have hX2 : X + 1 ≤ (k : Int) := by have := unhide HX; omega
        have hfar := hide (refFar (X + 1) wr (by omega) (by omega))
        have HX2 : Hid (X + 1 = ((s + 1 : Nat) : Int) - (k : Int)) := hide (by have := unhide HX; omega)
        have HA2 : Hid (A - Q = r - ahead n k (s + 1)) := hide (by rw [ahead_succ, unhide HA, unhide HQ]; omega)
        have HQ2 : Hid (rows n k (s + 1) = V (k - (X + 1).natAbs) n) := hide (by rw [unhide HX2]; rfl)
        obtain ⟨D', hD'⟩ : ∃ D', (X + 1).natAbs = D' := ⟨_, rfl⟩
        rw [hD'] at hfar HQ2
        obtain ⟨J', hJ'⟩ : ∃ J', k - D' = J' := ⟨_, rfl⟩
        rw [hJ'] at HQ2
        have hsub : (k : Int) - (D' : Int) = (J' : Int) := by omega
        have hJ8 : J' ≤ 8 := by omega
        have hcnt := hide (refCount n J' (by omega) hJ8 wr)
        rw [← unhide HQ2] at hcnt
        obtain ⟨Q', hQ'⟩ : ∃ Q', rows n k (s + 1) = Q' := ⟨_, rfl⟩
        rw [hQ'] at hcnt
        have HQ' := hide hQ'.symm
        clear hQ' HQ2 hD' hJ' hD hJ hfarX HA HQ
        go_wp2_with fail
        refine (unhide hfar).mono ?_
        rintro e w2 ⟨rfl, rfl⟩
        go_wp2_with fail
        refine (unhide hcnt).mono ?_
        rintro e w3 ⟨rfl, hb3⟩
        go_wp2
        go_roundw
        case rel => exact ⟨s + 1, A - Q, X + 1, Q', by omega, by go_num, HX2, by go_num, HA2, by omega, rfl, HQ', hB.trans (hb3.mono hB.size)⟩
        case measure => simp [intOf]; omega
      · have hsub : (k : Int) - (D : Int) = (J : Int) := by omega
        have hJ8 : J ≤ 8 := by omega
        have HV : Hid (A < V J n) := hide (by
          have h2 : rows n k s = V (k - X.natAbs) n := by rw [unhide HX]; rfl
          rw [hD, hJ, ← unhide HQ] at h2
          omega)
        have hrec := hide (fun W => unhide HI J A W (by omega) hJ8 hA0 HV)
        have HC : Hid (∀ m, Is n J A m → Is (n + 1) k r (X :: m)) := hide (fun m hm => by
          have e := unhide HX
          rw [e]
          refine is_cons hs ?_
          rw [← e, ← unhide HA, hD, hJ]
          exact hm)
        rw [hD] at hfarX
        clear hD hJ HI HX HA HQ
        have hBs := hB.size
        go_wp2_with (first
          | (at_builtin; refine wpList_app _ rfl _ _ rfl w.heap.size _ [] [X] _ _ rfl (Has.nil _ _) rfl (row_one _ _ _) (by simp) (by simp; omega) ?_; intro v3 w3 k3 g3 at3)
          | fail)
        obtain ⟨d1, d2⟩ := stepped_plain (Has.nil wr w.heap.size) hBs k3 g3 at3
        have hB3 := hB.trans d1
        rw [List.nil_append] at k3
        clear d1 d2 g3 at3 hB hBs
        refine (unhide hfarX w3).mono ?_
        rintro e w4 ⟨rfl, rfl⟩
        go_wp2_with fail
        refine (unhide hrec w3).mono ?_
        rintro e w5 ⟨v5, l5, rfl, h5, H5, hb5⟩
        have hB5 := hB3.trans (hb5.mono hB3.size)
        have k5 := k3.below hb5
        obtain ⟨p5, q5, rfl, r5⟩ := h5.row
        have hl5 : Hid ([X].length + l5.length ≤ 1000000) := hide (by rw [(unhide H5).1]; simp; omega)
        have hBs5 := hB5.size
        go_wp2_with (at_builtin; refine wpList_app _ rfl _ _ rfl w.heap.size v3 [X] l5 p5 q5 rfl k5 rfl r5 (unhide hl5) hBs5 ?_; intro v6 w6 k6 g6 at6)
        go_ret
        exact ⟨_, _, rfl, k6, hide (unhide HC _ (unhide H5)), hB5.grown g6 hBs5 (fun r e => (k5.lt r e).1)⟩

end Go.Proofs.YtkkhgdkgbhdfaakGreatDoor.Pls
