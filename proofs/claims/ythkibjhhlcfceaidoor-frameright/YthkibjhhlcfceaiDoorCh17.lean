/-
  A list of this call's own of which the first are already new: one more is set.
-/
import Derived.Test.YthkibjhhlcfceaiDoorCh00
import Derived.Test.YthkibjhhlcfceaiDoorCh04
import Derived.Test.YthkibjhhlcfceaiDoorCh16
import Derived.Test.YthkibjhhlcfceaiDoorCh01
import Derived.Deep.QuietTactic
import Derived.BigQuiet
import Derived.BigRegion
namespace Go.Proofs.YthkibjhhlcfceaiDoor.Mid
open Go.RowKit
open Go.Proofs.YthkibjhhlcfceaiDoor.Tre Go.Proofs.YthkibjhhlcfceaiDoor.Lap
set_option linter.unusedVariables false

theorem row_cell {w : World} {a : Option Addr} {l : List Int} (h : Row w a l) (h0 : 0 < l.length) : ∃ b off, a = some ⟨b, off, none⟩ ∧ b < w.heap.size ∧ ∀ j, j < l.length → w.cell? ⟨b, off + j, none⟩ = some (.int .i64 (at0 l j)) := by
  obtain ⟨b, off, e, hb, hc⟩ := h.at h0
  exact ⟨b, off, e, hb, fun j hj => (hc j hj).trans (by rw [List.getD_eq_getElem?_getD]; rfl)⟩

theorem put_mid {wr : World} {base g n c j : Nat} {f f0 : Nat → Int} {X : Int} (h : Has wr base (.slice (some ⟨g, 0, none⟩) n c) (mid f f0 n j)) (hj : j < n) (hx : f j = X) (q : Nat) :
    Has ((wr.drewN q).setCell ⟨g, j, none⟩ (.int .i64 X)) base (.slice (some ⟨g, 0, none⟩) n c) (mid f f0 n (j + 1)) ∧
      (∀ u m, Has wr base u m → Off u (.slice (some ⟨g, 0, none⟩) n c) → Has ((wr.drewN q).setCell ⟨g, j, none⟩ (.int .i64 X)) base u m) ∧
      (∀ w, Below base w wr → base ≤ g → Below base w ((wr.drewN q).setCell ⟨g, j, none⟩ (.int .i64 X))) := by
  have h1 : Has (wr.drewN q) base (.slice (some ⟨g, 0, none⟩) n c) (mid f f0 n j) := h
  obtain ⟨h2, h3⟩ := h1.put j X
  refine ⟨?_, fun u m hu ho => ?_, fun w hb hg => ?_⟩
  · rw [← mid_set f f0 hj, hx]; exact h2
  · exact Has.beside (show Has (wr.drewN q) base u m from hu) rfl ho h3
  · exact Below.setCell (w := wr.drewN q) (p := ⟨g, j, none⟩) (hb.trans ⟨rfl, rfl, rfl, Nat.le_refl _, fun _ _ => rfl⟩) hg _

end Go.Proofs.YthkibjhhlcfceaiDoor.Mid

/-
  Package count: outside, onePulseMore, counts, Of: by their contracts.
-/
namespace Go.Proofs.YthkibjhhlcfceaiDoor.Cnt
open Go.RowKit
open Go.Proofs.YthkibjhhlcfceaiDoor.Tre Go.Proofs.YthkibjhhlcfceaiDoor.Lap Go.Proofs.YthkibjhhlcfceaiDoor.Mid
set_option linter.unusedVariables false

/-- Outside of 0 to the most that may be. -/
def wide (n most : Int) : Bool := decide (n < 0) || decide (most < n)
theorem wide_no {n most : Int} (h0 : 0 ≤ n) (h1 : n ≤ most) : wide n most = false := by simp [wide]; omega
theorem wide_or (n most : Int) : wide n most = true ∨ (wide n most = false ∧ 0 ≤ n ∧ n ≤ most) := by
  by_cases h : 0 ≤ n ∧ n ≤ most
  · exact Or.inr ⟨wide_no h.1 h.2, h.1, h.2⟩
  · left; simp [wide]; omega

theorem outside (n most : Int) (w : World) :
    Calls Tryd.prog 66 #[.int .i64 n, .int .i64 most] w fun e w' => e = .returned (.bool (wide n most)) ∧ w = w' := by
  have H : Hid (wide n most = (decide (n < 0) || decide (most < n))) := hide rfl
  obtain ⟨o, ho⟩ : ∃ o, wide n most = o := ⟨_, rfl⟩
  rw [ho] at H ⊢
  clear ho
  by_cases h : n < 0
  · have e : o = true := by rw [unhide H, decide_eq_true h]; rfl
    subst e
    go_enter Tryd.func66, Tryd.ntmps66
    go_wp2
    go_ret
    exact ⟨rfl, rfl⟩
  · have e : o = decide (most < n) := by rw [unhide H, decide_eq_false h]; rfl
    subst e
    go_enter Tryd.func66, Tryd.ntmps66
    go_wp2
    all_goals go_ret
    all_goals (refine ⟨?_, rfl⟩; first | rfl | (simp; done) | (simp; omega))

theorem has_zeros (w : World) : Has (w.alloc (.cells (ones 0).toArray 3)) w.heap.size (.slice (some ⟨w.heap.size, 0, none⟩) 7 7) (List.replicate 7 0) :=
  ⟨by rfl, .inr ⟨w.heap.size, 7, _, rfl, Nat.le_refl _, heap_alloc_new _ _, by decide, by decide, by rfl, by rfl⟩⟩

set_option maxHeartbeats 4000000 in
theorem pulse (k : Nat) (hk : k < 8) (a : Option Addr) (cap : Nat) (w : World) (hr : Row w a (cts k)) :
    Calls Tryd.prog 78 #[.slice a 7 cap] w fun e w' => ∃ v, e = .returned v ∧ Has w' w.heap.size v (cts (k + 1)) ∧ Below w.heap.size w w' := by
  obtain ⟨b, off, rfl, hb, hc⟩ := Mid.row_cell hr (by rw [cts_length]; omega)
  rw [cts_length] at hc
  have HC : Hid (∀ n, n < 7 → w.cell? ⟨b, off + n, none⟩ = some (.int .i64 (V k n))) := hide (fun n hn => by rw [hc n hn, cts_at k hn])
  clear hc
  have hmk : ∀ w, (Instr.makeSlice 22 (.int .i64 7) (.int .i64 7)).run Tryd.prog w = .ok (.slice (some ⟨w.heap.size, 0, none⟩) 7 7) (w.alloc (.cells (ones 0).toArray 3)) := fun _ => by kernel_rfl
  have hz := has_zeros w
  have hbA : Below w.heap.size w (w.alloc (.cells (ones 0).toArray 3)) := (Below.refl _ _).alloc (Nat.le_refl _) _
  have hm1 := hide (mid_one k)
  go_enter Tryd.func78, Tryd.ntmps78
  go_wp2
  go_loopw [11] (fun i wr => ∃ j : Nat, j ≤ 6 ∧ i = .int .i64 j ∧ Has wr w.heap.size (.slice (some ⟨w.heap.size, 0, none⟩) 7 7) (mid (V (k + 1)) (fun _ => 0) 7 (j + 1)) ∧ Below w.heap.size w wr) (fun i _ => 6 - (intOf i).toNat)
  case atStart => exact ⟨0, Nat.zero_le _, rfl, by rw [unhide hm1]; exact hz, hbA⟩
  case round =>
    obtain ⟨j, hj, rfl, h9, hB⟩ := hrel
    clear hz hbA hm1 hmk
    by_cases hlt : j < 6
    · have hcl := h9.get (j := j) (by rw [mid_length]; omega)
      rw [mid_lt _ _ (by omega) (by omega)] at hcl
      have hcn := h9.get (j := j + 1) (by rw [mid_length]; omega)
      rw [mid_at _ _ (by omega)] at hcn
      have hfz := h9.frozen (j + 1)
      have c0 := (hB.cell (p := ⟨b, off + j, none⟩) hb).trans (unhide HC j (by omega))
      have c1 := (hB.cell (p := ⟨b, off + (j + 1), none⟩) hb).trans (unhide HC (j + 1) (by omega))
      obtain ⟨x0, x1⟩ := V_in (k + 1) j (by omega) (by omega)
      obtain ⟨y0, y1⟩ := V_in k j (by omega) (by omega)
      obtain ⟨z0, z1⟩ := V_in k (j + 1) (by omega) (by omega)
      have HV : Hid (V (k + 1) (j + 1) = V (k + 1) j + V k (j + 1) + V k j) := hide (V_sum k j)
      obtain ⟨X, hX⟩ : ∃ X, V (k + 1) j = X := ⟨_, rfl⟩
      obtain ⟨Y, hY⟩ : ∃ Y, V k j = Y := ⟨_, rfl⟩
      obtain ⟨Z, hZ⟩ : ∃ Z, V k (j + 1) = Z := ⟨_, rfl⟩
      rw [hX] at hcl x0 x1 HV
      rw [hY] at c0 y0 y1 HV
      rw [hZ] at c1 z0 z1 HV
      clear hX hY hZ
      have hwr1 : IntKind.i64.wrap (X + Z) = X + Z := IntWalk.i64_in _ (by omega)
      have hwr2 : IntKind.i64.wrap (X + Z + Y) = X + Z + Y := IntWalk.i64_in _ (by omega)
      go_wp2
      go_region
      obtain ⟨m1, m2, m3⟩ := Mid.put_mid h9 (show j + 1 < 7 by omega) (unhide HV) 1
      go_wp2
      go_roundw
      case rel => exact ⟨j + 1, by omega, by go_num, m1, m3 _ hB (Nat.le_refl _)⟩
      case measure => simp [intOf]; omega
    · obtain rfl : j = 6 := by omega
      go_wp2
      go_ret
      refine ⟨_, rfl, ?_, hB⟩
      rw [mid_all] at h9
      exact h9

set_option maxHeartbeats 4000000 in
theorem counts (k : Nat) (hk : k ≤ 8) (w : World) :
    Calls Tryd.prog 67 #[.int .i64 k] w fun e w' => ∃ v, e = .returned v ∧ Has w' w.heap.size v (cts k) ∧ Below w.heap.size w w' := by
  have hrA := row_one w 1 3
  have hbA : Below w.heap.size w (w.alloc (.cells #[.int .i64 1] 3)) := (Below.refl _ _).alloc (Nat.le_refl _) _
  go_enter Tryd.func67, Tryd.ntmps67
  go_wp2_with fail
  refine (repeat7 _ _ _ hrA).mono ?_
  rintro e w1 ⟨v1, rfl, h1, hb1⟩
  have hB1 := Below.chain hbA hb1
  have h1' := h1.mono hbA.size
  clear h1 hb1 hrA
  go_wp2
  go_loopw [3, 7] (fun v i wr => ∃ j : Nat, j ≤ k ∧ i = .int .i64 j ∧ Has wr w.heap.size v (cts j) ∧ Below w.heap.size w wr) (fun _ i _ => k - (intOf i).toNat)
  case atStart => exact ⟨0, Nat.zero_le _, rfl, by rw [cts_zero]; exact h1', hB1⟩
  case round =>
    obtain ⟨j, hj, rfl, h9, hB⟩ := hrel
    clear h1' hB1 hbA
    by_cases hlt : j < k
    · obtain ⟨p, q, rfl, hr9⟩ := h9.row
      rw [cts_length]
      go_wp2_with fail
      refine (pulse j (by omega) p q wr hr9).mono ?_
      rintro e w2 ⟨v2, rfl, h2, hb2⟩
      go_wp2
      go_roundw
      case rel => exact ⟨j + 1, by omega, by go_num, h2.mono hB.size, hB.trans (hb2.mono hB.size)⟩
      case measure => simp [intOf]; omega
    · obtain rfl : j = k := by omega
      go_wp2
      go_ret
      exact ⟨_, rfl, h9, hB⟩

set_option maxHeartbeats 4000000 in
theorem of_ok (n k : Nat) (hn : n ≤ 6) (hk : k ≤ 8) (w : World) :
    Calls Tryd.prog 50 #[.int .i64 n, .int .i64 k] w fun e w' => e = .returned (.tuple #[.int .i64 (V k n), .nilIface]) ∧ Below w.heap.size w w' := by
  have o1 := wide_no (n := (n : Int)) (most := 6) (by omega) (by omega)
  have o2 := wide_no (n := (k : Int)) (most := 8) (by omega) (by omega)
  have H1 := hide o1
  have H2 := hide o2
  clear o1 o2
  go_enter Tryd.func50, Tryd.ntmps50
  go_wp2_with fail
  refine (outside n 6 w).mono ?_
  rw [unhide H1]
  rintro e w' ⟨rfl, rfl⟩
  go_wp2_with fail
  refine (outside k 8 w).mono ?_
  rw [unhide H2]
  rintro e w' ⟨rfl, rfl⟩
  go_wp2_with fail
  refine (counts k hk w).mono ?_
  rintro e w1 ⟨v1, rfl, h1, hb1⟩
  obtain ⟨p, q, rfl, hr1⟩ := h1.row
  obtain ⟨b, off, rfl, hb, hc⟩ := Mid.row_cell hr1 (by rw [cts_length]; omega)
  rw [cts_length] at hc ⊢
  have hcn := hc n (by omega)
  rw [cts_at k (by omega)] at hcn
  clear hc
  go_wp2
  go_ret2
  exact ⟨rfl, hb1⟩

theorem of_no (n k : Int) (w : World) (h : Hid (wide n 6 = true) ∨ (Hid (wide n 6 = false) ∧ Hid (wide k 8 = true))) :
    Calls Tryd.prog 50 #[.int .i64 n, .int .i64 k] w fun e w' => e = .returned (.tuple #[.int .i64 0, .iface 47 (.int .i64 1)]) ∧ Below w.heap.size w w' := by
  rcases h with H1 | ⟨H1, H2⟩
  · go_enter Tryd.func50, Tryd.ntmps50
    go_wp2_with fail
    refine (outside n 6 w).mono ?_
    rw [unhide H1]
    rintro e w' ⟨rfl, rfl⟩
    go_wp2
    go_ret2
    exact ⟨rfl, Below.refl _ _⟩
  · go_enter Tryd.func50, Tryd.ntmps50
    go_wp2_with fail
    refine (outside n 6 w).mono ?_
    rw [unhide H1]
    rintro e w' ⟨rfl, rfl⟩
    go_wp2_with fail
    refine (outside k 8 w).mono ?_
    rw [unhide H2]
    rintro e w' ⟨rfl, rfl⟩
    go_wp2
    go_ret2
    exact ⟨rfl, Below.refl _ _⟩

/-- Below, above, or within. -/
def Ways (n most : Int) : Prop := (n < 0 ∧ Hid (wide n most = true)) ∨ (0 ≤ n ∧ most < n ∧ Hid (wide n most = true)) ∨ (Hid (wide n most = false) ∧ ∃ m : Nat, n = m ∧ (m : Int) ≤ most)
theorem ways (n most : Int) : Ways n most := by
  unfold Ways
  rcases wide_or n most with h | ⟨h, h0, h1⟩
  · by_cases h0 : n < 0
    · exact Or.inl ⟨h0, h⟩
    · refine Or.inr (Or.inl ⟨by omega, ?_, h⟩)
      simp [wide] at h
      omega
  · exact Or.inr (Or.inr ⟨h, n.toNat, by omega, by omega⟩)

end Go.Proofs.YthkibjhhlcfceaiDoor.Cnt

/-
  Package count: bitsFor, Bits: by their contracts.
-/
namespace Go.Proofs.YthkibjhhlcfceaiDoor.Cnt
open Go.RowKit
open Go.Proofs.YthkibjhhlcfceaiDoor.Tre Go.Proofs.YthkibjhhlcfceaiDoor.Lap Go.Proofs.YthkibjhhlcfceaiDoor.Mid
set_option linter.unusedVariables false


set_option maxHeartbeats 4000000 in
theorem bitsFor (m : Int) (hm : m ≤ 20256) (w : World) :
    Calls Tryd.prog 51 #[.int .i64 m] w fun e w' => ∃ b : Nat, e = .returned (.int .i64 b) ∧ Least m b ∧ w = w' := by
  go_enter Tryd.func51, Tryd.ntmps51
  go_wp2
  go_loop [3] (fun i => ∃ j : Nat, j ≤ 15 ∧ i = .int .i64 j ∧ Hid (∀ i, i < j → (2 : Int) ^ i < m)) (fun i => 15 - (intOf i).toNat)
  case atStart => exact ⟨0, by omega, rfl, fun i hi => absurd hi (by omega)⟩
  case round =>
    obtain ⟨j, hj, rfl, H⟩ := hrel
    obtain ⟨p0, p1⟩ := pow_in j (by omega)
    have h15 : Hid (j = 15 → m ≤ 2 ^ j) := hide (fun e => by subst e; omega)
    by_cases hlt : (2 : Int) ^ j < m
    · have hj2 : j < 15 := by
        rcases Nat.lt_or_ge j 15 with h | h
        · exact h
        · have := unhide h15 (by omega); omega
      have H2 : Hid (∀ i, i < j + 1 → (2 : Int) ^ i < m) := hide (fun i hi => by
        rcases Nat.lt_or_ge i j with h | h
        · exact unhide H i h
        · obtain rfl : i = j := by omega
          exact hlt)
      go_wp2
      go_round
      case rel => exact ⟨j + 1, by omega, by go_num, H2⟩
      case measure => simp [intOf]; omega
    · have hle : Hid (m ≤ (2 : Int) ^ j) := hide (by omega)
      go_wp2
      go_ret
      exact ⟨j, rfl, ⟨unhide hle, unhide H⟩, rfl⟩

theorem bits_ok (n k : Nat) (hn : n ≤ 6) (hk : k ≤ 8) (w : World) :
    Calls Tryd.prog 28 #[.int .i64 n, .int .i64 k] w fun e w' => ∃ b : Nat, e = .returned (.tuple #[.int .i64 b, .nilIface]) ∧ Least (V k n) b ∧ Below w.heap.size w w' := by
  go_enter Tryd.func28, Tryd.ntmps28
  go_wp2_with fail
  refine (of_ok n k hn hk w).mono ?_
  rintro e w1 ⟨rfl, hb1⟩
  go_wp2_with fail
  refine (bitsFor (V k n) (V_in k n (by omega) (by omega)).2 w1).mono ?_
  rintro e w2 ⟨b, rfl, hb, rfl⟩
  go_wp2
  go_ret2
  exact ⟨b, rfl, hb, hb1⟩

theorem bits_no (n k : Int) (w : World) (h : Hid (wide n 6 = true) ∨ (Hid (wide n 6 = false) ∧ Hid (wide k 8 = true))) :
    Calls Tryd.prog 28 #[.int .i64 n, .int .i64 k] w fun e w' => e = .returned (.tuple #[.int .i64 0, .iface 47 (.int .i64 1)]) ∧ Below w.heap.size w w' := by
  go_enter Tryd.func28, Tryd.ntmps28
  go_wp2_with fail
  refine (of_no n k w h).mono ?_
  rintro e w1 ⟨rfl, hb1⟩
  go_wp2
  go_ret2
  exact ⟨rfl, hb1⟩

end Go.Proofs.YthkibjhhlcfceaiDoor.Cnt
