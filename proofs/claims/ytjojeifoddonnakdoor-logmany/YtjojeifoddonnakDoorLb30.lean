/-
  Package count: outside, onePulseMore, counts, Of: by their contracts.
-/
import Derived.Test.YtjojeifoddonnakDoorLb24
import Derived.Test.YtjojeifoddonnakDoorLb05
import Derived.Test.YtjojeifoddonnakDoorLb00
import Derived.Deep.QuietTactic
import Derived.BigQuiet
import Derived.BigRegion
import Derived.Test.YtjojeifoddonnakDoorLb01
namespace Go.Proofs.YtjojeifoddonnakDoor.Cnt
open Go.RowKit
open Go.Proofs.YtjojeifoddonnakDoor.Tre Go.Proofs.YtjojeifoddonnakDoor.Lap Go.Proofs.YtjojeifoddonnakDoor.Mid
set_option linter.unusedVariables false

/-- Outside of 0 to the most that may be. -/
def wide (n most : Int) : Bool := decide (n < 0) || decide (most < n)
theorem wide_no {n most : Int} (h0 : 0 ≤ n) (h1 : n ≤ most) : wide n most = false := by simp [wide]; omega
theorem wide_or (n most : Int) : wide n most = true ∨ (wide n most = false ∧ 0 ≤ n ∧ n ≤ most) := by
  by_cases h : 0 ≤ n ∧ n ≤ most
  · exact Or.inr ⟨wide_no h.1 h.2, h.1, h.2⟩
  · left; simp [wide]; omega

theorem outside (n most : Int) (w : World) :
    Calls Tryd.prog 61 #[.int .i64 n, .int .i64 most] w fun e w' => e = .returned (.bool (wide n most)) ∧ w = w' := by
  have H : Hid (wide n most = (decide (n < 0) || decide (most < n))) := hide rfl
  obtain ⟨o, ho⟩ : ∃ o, wide n most = o := ⟨_, rfl⟩
  rw [ho] at H ⊢
  clear ho
  by_cases h : n < 0
  · have e : o = true := by rw [unhide H, decide_eq_true h]; rfl
    subst e
    go_enter Tryd.func61, Tryd.ntmps61
    go_wp2
    go_ret
    exact ⟨rfl, rfl⟩
  · have e : o = decide (most < n) := by rw [unhide H, decide_eq_false h]; rfl
    subst e
    go_enter Tryd.func61, Tryd.ntmps61
    go_wp2
    all_goals go_ret
    all_goals (refine ⟨?_, rfl⟩; first | rfl | (simp; done) | (simp; omega))

theorem has_zeros (w : World) : Has (w.alloc (.cells (ones 0).toArray 3)) w.heap.size (.slice (some ⟨w.heap.size, 0, none⟩) 7 7) (List.replicate 7 0) :=
  ⟨by rfl, .inr ⟨w.heap.size, 7, _, rfl, Nat.le_refl _, heap_alloc_new _ _, by decide, by decide, by rfl, by rfl⟩⟩

set_option maxHeartbeats 4000000 in
theorem pulse (k : Nat) (hk : k < 8) (a : Option Addr) (cap : Nat) (w : World) (hr : Row w a (cts k)) :
    Calls Tryd.prog 73 #[.slice a 7 cap] w fun e w' => ∃ v, e = .returned v ∧ Has w' w.heap.size v (cts (k + 1)) ∧ Below w.heap.size w w' := by
  obtain ⟨b, off, rfl, hb, hc⟩ := Mid.row_cell hr (by rw [cts_length]; omega)
  rw [cts_length] at hc
  have HC : Hid (∀ n, n < 7 → w.cell? ⟨b, off + n, none⟩ = some (.int .i64 (V k n))) := hide (fun n hn => by rw [hc n hn, cts_at k hn])
  clear hc
  have hmk : ∀ w, (Instr.makeSlice 27 (.int .i64 7) (.int .i64 7)).run Tryd.prog w = .ok (.slice (some ⟨w.heap.size, 0, none⟩) 7 7) (w.alloc (.cells (ones 0).toArray 3)) := fun _ => by kernel_rfl
  have hz := has_zeros w
  have hbA : Below w.heap.size w (w.alloc (.cells (ones 0).toArray 3)) := (Below.refl _ _).alloc (Nat.le_refl _) _
  have hm1 := hide (mid_one k)
  go_enter Tryd.func73, Tryd.ntmps73
  go_wp2
  go_loopw [11] (fun i wr => ∃ j : Nat, j ≤ 6 ∧ i = .int .i64 j ∧ Has wr w.heap.size (.slice (some ⟨w.heap.size, 0, none⟩) 7 7) (mid (V (k + 1)) (fun _ => 0) 7 (j + 1)) ∧ Below w.heap.size w wr) (fun i _ => 6 - (intOf i).toNat)
  case atStart => exact ⟨0, Nat.zero_le _, rfl, by rw [unhide hm1]; exact hz, hbA⟩
  case round =>
    obtain ⟨j, hj, rfl, h9, hB⟩ := hrel
    clear hz hbA hm1 hmk
    by_cases hlt : j < 6
    · have hcl := h9.get (j := j) (by rw [mid_length]; omega)
      rw [mid_lt _ _ (by omega) (by omega)] at hcl
      have hcn := h9.get (j := j + 1) (by rw [mid_length]; omega)
      rw [mid_at _ _ (by omega)] at hcn
      have hfz := h9.frozen (j + 1)
      have c0 := (hB.cell (p := ⟨b, off + j, none⟩) hb).trans (unhide HC j (by omega))
      have c1 := (hB.cell (p := ⟨b, off + (j + 1), none⟩) hb).trans (unhide HC (j + 1) (by omega))
      obtain ⟨x0, x1⟩ := V_in (k + 1) j (by omega) (by omega)
      obtain ⟨y0, y1⟩ := V_in k j (by omega) (by omega)
      obtain ⟨z0, z1⟩ := V_in k (j + 1) (by omega) (by omega)
      have HV : Hid (V (k + 1) (j + 1) = V (k + 1) j + V k (j + 1) + V k j) := hide (V_sum k j)
      obtain ⟨X, hX⟩ : ∃ X, V (k + 1) j = X := ⟨_, rfl⟩
      obtain ⟨Y, hY⟩ : ∃ Y, V k j = Y := ⟨_, rfl⟩
      obtain ⟨Z, hZ⟩ : ∃ Z, V k (j + 1) = Z := ⟨_, rfl⟩
      rw [hX] at hcl x0 x1 HV
      rw [hY] at c0 y0 y1 HV
      rw [hZ] at c1 z0 z1 HV
      clear hX hY hZ
      have hwr1 : IntKind.i64.wrap (X + Z) = X + Z := IntWalk.i64_in _ (by omega)
      have hwr2 : IntKind.i64.wrap (X + Z + Y) = X + Z + Y := IntWalk.i64_in _ (by omega)
      go_wp2
      go_region
      obtain ⟨m1, m2, m3⟩ := Mid.put_mid h9 (show j + 1 < 7 by omega) (unhide HV) 1
      go_wp2
      go_roundw
      case rel => exact ⟨j + 1, by omega, by go_num, m1, m3 _ hB (Nat.le_refl _)⟩
      case measure => simp [intOf]; omega
    · obtain rfl : j = 6 := by omega
      go_wp2
      go_ret
      refine ⟨_, rfl, ?_, hB⟩
      rw [mid_all] at h9
      exact h9

set_option maxHeartbeats 4000000 in
theorem counts (k : Nat) (hk : k ≤ 8) (w : World) :
    Calls Tryd.prog 62 #[.int .i64 k] w fun e w' => ∃ v, e = .returned v ∧ Has w' w.heap.size v (cts k) ∧ Below w.heap.size w w' := by
  have hrA := row_one w 1 3
  have hbA : Below w.heap.size w (w.alloc (.cells #[.int .i64 1] 3)) := (Below.refl _ _).alloc (Nat.le_refl _) _
  go_enter Tryd.func62, Tryd.ntmps62
  go_wp2_with fail
  refine (repeat7 _ _ _ hrA).mono ?_
  rintro e w1 ⟨v1, rfl, h1, hb1⟩
  have hB1 := Below.chain hbA hb1
  have h1' := h1.mono hbA.size
  clear h1 hb1 hrA
  go_wp2
  go_loopw [3, 7] (fun v i wr => ∃ j : Nat, j ≤ k ∧ i = .int .i64 j ∧ Has wr w.heap.size v (cts j) ∧ Below w.heap.size w wr) (fun _ i _ => k - (intOf i).toNat)
  case atStart => exact ⟨0, Nat.zero_le _, rfl, by rw [cts_zero]; exact h1', hB1⟩
  case round =>
    obtain ⟨j, hj, rfl, h9, hB⟩ := hrel
    clear h1' hB1 hbA
    by_cases hlt : j < k
    · obtain ⟨p, q, rfl, hr9⟩ := h9.row
      rw [cts_length]
      go_wp2_with fail
      refine (pulse j (by omega) p q wr hr9).mono ?_
      rintro e w2 ⟨v2, rfl, h2, hb2⟩
      go_wp2
      go_roundw
      case rel => exact ⟨j + 1, by omega, by go_num, h2.mono hB.size, hB.trans (hb2.mono hB.size)⟩
      case measure => simp [intOf]; omega
    · obtain rfl : j = k := by omega
      go_wp2
      go_ret
      exact ⟨_, rfl, h9, hB⟩

set_option maxHeartbeats 4000000 in
theorem of_ok (n k : Nat) (hn : n ≤ 6) (hk : k ≤ 8) (w : World) :
    Calls Tryd.prog 40 #[.int .i64 n, .int .i64 k] w fun e w' => e = .returned (.tuple #[.int .i64 (V k n), .nilIface]) ∧ Below w.heap.size w w' := by
  have o1 := wide_no (n := (n : Int)) (most := 6) (by omega) (by omega)
  have o2 := wide_no (n := (k : Int)) (most := 8) (by omega) (by omega)
  have H1 := hide o1
  have H2 := hide o2
  clear o1 o2
  go_enter Tryd.func40, Tryd.ntmps40
  go_wp2_with fail
  refine (outside n 6 w).mono ?_
  rw [unhide H1]
  rintro e w' ⟨rfl, rfl⟩
  go_wp2_with fail
  refine (outside k 8 w).mono ?_
  rw [unhide H2]
  rintro e w' ⟨rfl, rfl⟩
  go_wp2_with fail
  refine (counts k hk w).mono ?_
  rintro e w1 ⟨v1, rfl, h1, hb1⟩
  obtain ⟨p, q, rfl, hr1⟩ := h1.row
  obtain ⟨b, off, rfl, hb, hc⟩ := Mid.row_cell hr1 (by rw [cts_length]; omega)
  rw [cts_length] at hc ⊢
  have hcn := hc n (by omega)
  rw [cts_at k (by omega)] at hcn
  clear hc
  go_wp2
  go_ret2
  exact ⟨rfl, hb1⟩

theorem of_no (n k : Int) (w : World) (h : Hid (wide n 6 = true) ∨ (Hid (wide n 6 = false) ∧ Hid (wide k 8 = true))) :
    Calls Tryd.prog 40 #[.int .i64 n, .int .i64 k] w fun e w' => e = .returned (.tuple #[.int .i64 0, .iface 41 (.int .i64 1)]) ∧ Below w.heap.size w w' := by
  rcases h with H1 | ⟨H1, H2⟩
  · go_enter Tryd.func40, Tryd.ntmps40
    go_wp2_with fail
    refine (outside n 6 w).mono ?_
    rw [unhide H1]
    rintro e w' ⟨rfl, rfl⟩
    go_wp2
    go_ret2
    exact ⟨rfl, Below.refl _ _⟩
  · go_enter Tryd.func40, Tryd.ntmps40
    go_wp2_with fail
    refine (outside n 6 w).mono ?_
    rw [unhide H1]
    rintro e w' ⟨rfl, rfl⟩
    go_wp2_with fail
    refine (outside k 8 w).mono ?_
    rw [unhide H2]
    rintro e w' ⟨rfl, rfl⟩
    go_wp2
    go_ret2
    exact ⟨rfl, Below.refl _ _⟩

/-- Below, above, or within. -/
def Ways (n most : Int) : Prop := (n < 0 ∧ Hid (wide n most = true)) ∨ (0 ≤ n ∧ most < n ∧ Hid (wide n most = true)) ∨ (Hid (wide n most = false) ∧ ∃ m : Nat, n = m ∧ (m : Int) ≤ most)
theorem ways (n most : Int) : Ways n most := by
  unfold Ways
  rcases wide_or n most with h | ⟨h, h0, h1⟩
  · by_cases h0 : n < 0
    · exact Or.inl ⟨h0, h⟩
    · refine Or.inr (Or.inl ⟨by omega, ?_, h⟩)
      simp [wide] at h
      omega
  · exact Or.inr (Or.inr ⟨h, n.toNat, by omega, by omega⟩)

end Go.Proofs.YtjojeifoddonnakDoor.Cnt

/-
  Package count: bitsFor, Bits: by their contracts.
-/
namespace Go.Proofs.YtjojeifoddonnakDoor.Cnt
open Go.RowKit
open Go.Proofs.YtjojeifoddonnakDoor.Tre Go.Proofs.YtjojeifoddonnakDoor.Lap Go.Proofs.YtjojeifoddonnakDoor.Mid
set_option linter.unusedVariables false


set_option maxHeartbeats 4000000 in
theorem bitsFor (m : Int) (hm : m ≤ 20256) (w : World) :
    Calls Tryd.prog 60 #[.int .i64 m] w fun e w' => ∃ b : Nat, e = .returned (.int .i64 b) ∧ Least m b ∧ w = w' := by
  go_enter Tryd.func60, Tryd.ntmps60
  go_wp2
  go_loop [3] (fun i => ∃ j : Nat, j ≤ 15 ∧ i = .int .i64 j ∧ Hid (∀ i, i < j → (2 : Int) ^ i < m)) (fun i => 15 - (intOf i).toNat)
  case atStart => exact ⟨0, by omega, rfl, fun i hi => absurd hi (by omega)⟩
  case round =>
    obtain ⟨j, hj, rfl, H⟩ := hrel
    obtain ⟨p0, p1⟩ := pow_in j (by omega)
    have h15 : Hid (j = 15 → m ≤ 2 ^ j) := hide (fun e => by subst e; omega)
    by_cases hlt : (2 : Int) ^ j < m
    · have hj2 : j < 15 := by
        rcases Nat.lt_or_ge j 15 with h | h
        · exact h
        · have := unhide h15 (by omega); omega
      have H2 : Hid (∀ i, i < j + 1 → (2 : Int) ^ i < m) := hide (fun i hi => by
        rcases Nat.lt_or_ge i j with h | h
        · exact unhide H i h
        · obtain rfl : i = j := by omega
          exact hlt)
      go_wp2
      go_round
      case rel => exact ⟨j + 1, by omega, by go_num, H2⟩
      case measure => simp [intOf]; omega
    · have hle : Hid (m ≤ (2 : Int) ^ j) := hide (by omega)
      go_wp2
      go_ret
      exact ⟨j, rfl, ⟨unhide hle, unhide H⟩, rfl⟩

theorem bits_ok (n k : Nat) (hn : n ≤ 6) (hk : k ≤ 8) (w : World) :
    Calls Tryd.prog 38 #[.int .i64 n, .int .i64 k] w fun e w' => ∃ b : Nat, e = .returned (.tuple #[.int .i64 b, .nilIface]) ∧ Least (V k n) b ∧ Below w.heap.size w w' := by
  go_enter Tryd.func38, Tryd.ntmps38
  go_wp2_with fail
  refine (of_ok n k hn hk w).mono ?_
  rintro e w1 ⟨rfl, hb1⟩
  go_wp2_with fail
  refine (bitsFor (V k n) (V_in k n (by omega) (by omega)).2 w1).mono ?_
  rintro e w2 ⟨b, rfl, hb, rfl⟩
  go_wp2
  go_ret2
  exact ⟨b, rfl, hb, hb1⟩

theorem bits_no (n k : Int) (w : World) (h : Hid (wide n 6 = true) ∨ (Hid (wide n 6 = false) ∧ Hid (wide k 8 = true))) :
    Calls Tryd.prog 38 #[.int .i64 n, .int .i64 k] w fun e w' => e = .returned (.tuple #[.int .i64 0, .iface 41 (.int .i64 1)]) ∧ Below w.heap.size w w' := by
  go_enter Tryd.func38, Tryd.ntmps38
  go_wp2_with fail
  refine (of_no n k w h).mono ?_
  rintro e w1 ⟨rfl, hb1⟩
  go_wp2
  go_ret2
  exact ⟨rfl, hb1⟩

end Go.Proofs.YtjojeifoddonnakDoor.Cnt

/-
  count.Bits, by how many there are.
-/
namespace Go.Proofs.YtjojeifoddonnakDoor.Shr
open Go.RowKit
open Go.Proofs.YtjojeifoddonnakDoor.Tre Go.Proofs.YtjojeifoddonnakDoor.Cnt Go.Proofs.YtjojeifoddonnakDoor.Bnd
set_option linter.unusedVariables false

theorem cell_shr' {w : World} {a : Option Addr} {l : List Int} (h : Row w a l) (h0 : 0 < l.length) : ∃ b off, a = some ⟨b, off, none⟩ ∧ b < w.heap.size ∧ ∀ j, j < l.length → w.cell? ⟨b, off + j, none⟩ = some (.int .i64 (at0 l j)) := by
  obtain ⟨b, off, e, hb, hc⟩ := h.at h0
  exact ⟨b, off, e, hb, fun j hj => (hc j hj).trans (by rw [List.getD_eq_getElem?_getD]; rfl)⟩
theorem bits_is (n k : Nat) (hn : n ≤ 6) (hk : k ≤ 8) (w : World) :
    Calls Tryd.prog 38 #[.int .i64 n, .int .i64 k] w fun e w' => e = .returned (.tuple #[.int .i64 (Bt k n : Int), .nilIface]) ∧ Below w.heap.size w w' :=
  (bits_ok n k hn hk w).mono fun e w' ⟨b, he, hb, hw⟩ => ⟨by rw [he, hb.one (Bt_is hk hn)], hw⟩

end Go.Proofs.YtjojeifoddonnakDoor.Shr

/-
  share.price: by its contract.
-/
namespace Go.Proofs.YtjojeifoddonnakDoor.Shr
open Go.RowKit
open Go.Proofs.YtjojeifoddonnakDoor.Tre Go.Proofs.YtjojeifoddonnakDoor.Cnt Go.Proofs.YtjojeifoddonnakDoor.Bnd
set_option linter.unusedVariables false

set_option maxHeartbeats 1000000 in
theorem price (n k : Nat) (hn : n ≤ 6) (hk : k < 8) (w : World) :
    Calls Tryd.prog 58 #[.int .i64 n, .int .i64 k] w fun e w' => e = .returned (.int .i64 (pr n k)) ∧ Below w.heap.size w w' := by
  have h1 := Bt_le (k := k) (n := n) (by omega) hn
  have h2 := Bt_le (k := k + 1) (n := n) (by omega) hn
  have HP : Hid (pr n k = (Bt (k + 1) n : Int) - (Bt k n : Int)) := hide rfl
  have b1 := bits_is n k hn (by omega) w
  have b2 := hide (fun W => bits_is n (k + 1) hn (by omega) W)
  obtain ⟨X, hX⟩ : ∃ X, Bt k n = X := ⟨_, rfl⟩
  obtain ⟨Y, hY⟩ : ∃ Y, Bt (k + 1) n = Y := ⟨_, rfl⟩
  obtain ⟨P, hP⟩ : ∃ P, pr n k = P := ⟨_, rfl⟩
  rw [hX] at h1 HP b1
  rw [hY] at h2 HP b2
  rw [hP] at HP ⊢
  have wP : IntKind.i64.wrap ((Y : Int) - (X : Int)) = P := by rw [← unhide HP]; exact IntWalk.i64_in _ (by rw [unhide HP]; omega)
  have wK : IntKind.i64.wrap ((k : Int) + 1) = ((k + 1 : Nat) : Int) := by rw [Int.natCast_add]; exact IntWalk.i64_in _ (by omega)
  obtain ⟨K, hK⟩ : ∃ K, k + 1 = K := ⟨_, rfl⟩
  rw [hK] at wK b2
  clear hX hY hP hK
  go_enter Tryd.func58, Tryd.ntmps58
  go_wp2_with fail
  refine b1.mono ?_
  clear b1
  rintro e w1 ⟨rfl, hb1⟩
  go_wp2_with fail
  refine (unhide b2 w1).mono ?_
  clear b2
  rintro e w2 ⟨rfl, hb2⟩
  go_wp2
  go_ret
  exact ⟨rfl, Below.chain hb1 hb2⟩

end Go.Proofs.YtjojeifoddonnakDoor.Shr

/-
  Package pulse: rowsAfter: by its contract.
-/
namespace Go.Proofs.YtjojeifoddonnakDoor.Pls
open Go.RowKit
open Go.Proofs.YtjojeifoddonnakDoor.Tre Go.Proofs.YtjojeifoddonnakDoor.Lap Go.Proofs.YtjojeifoddonnakDoor.Cnt Go.Proofs.YtjojeifoddonnakDoor.Mid
set_option linter.unusedVariables false

theorem rowsAfter (b L : Nat) (X : Int) (hb : b ≤ 6) (hL : L ≤ 8) (h0 : -(L : Int) ≤ X) (h1 : X ≤ L) (w : World) :
    Calls Tryd.prog 63 #[.int .i64 X, .int .i64 b, .int .i64 L] w fun e w' => e = .returned (.int .i64 (V (L - X.natAbs) b)) ∧ Below w.heap.size w w' := by
  have hD := hide (dist X w (by omega) (by omega))
  obtain ⟨K, hK⟩ : ∃ K, L - X.natAbs = K := ⟨_, rfl⟩
  obtain ⟨d, hd⟩ : ∃ d, X.natAbs = d := ⟨_, rfl⟩
  have hsub : (L : Int) - (d : Int) = (K : Int) := by omega
  have hK8 : K ≤ 8 := by omega
  rw [hK]
  rw [hd] at hD
  clear hK hd h0 h1
  go_enter Tryd.func63, Tryd.ntmps63
  go_wp2_with fail
  refine (unhide hD).mono ?_
  rintro e w1 ⟨rfl, rfl⟩
  go_wp2_with fail
  refine (of_ok b K hb hK8 w).mono ?_
  rintro e w2 ⟨rfl, hb2⟩
  go_wp2
  go_ret
  exact ⟨rfl, hb2⟩

end Go.Proofs.YtjojeifoddonnakDoor.Pls

/-
  Package pulse: numberAt: by its contract.
-/
namespace Go.Proofs.YtjojeifoddonnakDoor.Pls
open Go.RowKit
open Go.Proofs.YtjojeifoddonnakDoor.Tre Go.Proofs.YtjojeifoddonnakDoor.Lap Go.Proofs.YtjojeifoddonnakDoor.Cnt Go.Proofs.YtjojeifoddonnakDoor.Mid
set_option linter.unusedVariables false

set_option maxHeartbeats 4000000 in
theorem numberAt (r : Int) (b L : Nat) (hb : b ≤ 5) (hL : L ≤ 8) (h0 : 0 ≤ r) (h9 : r ≤ 20256) (h1 : Hid (r < V L (b + 1))) (w : World) :
    Calls Tryd.prog 41 #[.int .i64 r, .int .i64 b, .int .i64 L] w fun e w' => ∃ s : Nat, e = .returned (.tuple #[.int .i64 ((s : Int) - (L : Int)), .int .i64 (ahead b L s)]) ∧ s ≤ 2 * L ∧ Hid (ahead b L s ≤ r ∧ r < ahead b L (s + 1)) ∧ Below w.heap.size w w' := by
  go_enter Tryd.func41, Tryd.ntmps41
  go_wp2
  go_loopw [7, 12] (fun v i wr => ∃ (s : Nat) (A : Int), s ≤ 2 * L ∧ i = .int .i64 s ∧ v = .int .i64 A ∧ Hid (A = ahead b L s) ∧ A ≤ r ∧ Below w.heap.size w wr) (fun _ i _ => 2 * L - (intOf i).toNat)
  case atStart => exact ⟨0, 0, Nat.zero_le _, rfl, rfl, rfl, h0, Below.refl _ _⟩
  case round =>
    obtain ⟨s, A, hs, rfl, rfl, HA, hA, hB⟩ := hrel
    have hin := ahead_in (m := b) (L := L) (s := s) (by omega) (by omega) (by omega)
    rw [← unhide HA] at hin
    obtain ⟨a0, a1⟩ := hin
    by_cases hlt : s < 2 * L
    · obtain ⟨X, hX⟩ : ∃ X, (s : Int) - (L : Int) = X := ⟨_, rfl⟩
      have hx0 : -(L : Int) ≤ X := by omega
      have hx1 : X ≤ L := by omega
      have hR := hide (rowsAfter b L X (by omega) hL hx0 hx1 wr)
      obtain ⟨r0, r1⟩ := rows_in (m := b) (L := L) (s := s) (by omega) (by omega)
      have HR : Hid (V (L - X.natAbs) b = rows b L s) := hide (by rw [← hX]; rfl)
      rw [unhide HR] at hR
      have HS := hide (ahead_succ b L s)
      obtain ⟨Q, hQ⟩ : ∃ Q, rows b L s = Q := ⟨_, rfl⟩
      rw [hQ] at r0 r1 hR HS
      rw [← unhide HA] at HS
      clear hQ HR
      have HX := hide hX
      by_cases hlt2 : r < A + Q
      · have hsub : IntKind.i64.wrap ((s : Int) - (L : Int)) = X := by rw [IntWalk.i64_in _ (by omega)]; exact hX
        clear hX
        go_wp2_with fail
        refine (unhide hR).mono ?_
        rintro e w1 ⟨rfl, hb1⟩
        go_wp2
        go_ret2
        refine ⟨s, ?_, hs, ?_, hB.trans (hb1.mono hB.size)⟩
        · rw [unhide HX, unhide HA]; rfl
        · show _ ∧ _
          rw [unhide HS, ← unhide HA]
          exact ⟨hA, hlt2⟩
      · have hle : A + Q ≤ r := by omega
        have hsub : IntKind.i64.wrap ((s : Int) - (L : Int)) = X := by rw [IntWalk.i64_in _ (by omega)]; exact hX
        clear hX
        go_wp2_with fail
        refine (unhide hR).mono ?_
        rintro e w1 ⟨rfl, hb1⟩
        go_wp2
        go_roundw
        case rel => exact ⟨s + 1, A + Q, by omega, by go_num, by go_num, (unhide HS).symm, hle, hB.trans (hb1.mono hB.size)⟩
        case measure => simp [intOf]; omega
    · obtain rfl : s = 2 * L := by omega
      have hsub : ((2 * L : Nat) : Int) - (L : Int) = (L : Int) := by omega
      have HE : Hid (ahead b L (2 * L) ≤ r ∧ r < ahead b L (2 * L + 1)) := hide ⟨by rw [← unhide HA]; exact hA, by rw [ahead_all (by omega) (by omega)]; exact unhide h1⟩
      have HU := hide hsub
      clear hsub
      go_wp2
      go_ret2
      refine ⟨2 * L, ?_, Nat.le_refl _, HE, hB⟩
      rw [unhide HU, unhide HA]; rfl

end Go.Proofs.YtjojeifoddonnakDoor.Pls

/-
  Package pulse: Of: by its contracts.
-/
namespace Go.Proofs.YtjojeifoddonnakDoor.Pls
open Go.RowKit
open Go.Proofs.YtjojeifoddonnakDoor.Tre Go.Proofs.YtjojeifoddonnakDoor.Lap Go.Proofs.YtjojeifoddonnakDoor.Cnt Go.Proofs.YtjojeifoddonnakDoor.Mid
set_option linter.unusedVariables false

set_option maxRecDepth 100000 in
set_option maxHeartbeats 8000000 in
theorem row_ok (n k : Nat) (r : Int) (hn : n ≤ 6) (hk : k ≤ 8) (h0 : 0 ≤ r) (h1 : Hid (r < V k n)) (w : World) :
    Calls Tryd.prog 26 #[.int .i64 n, .int .i64 k, .int .i64 r] w fun e w' => ∃ v l, e = .returned (.tuple #[v, .nilIface]) ∧ Has w' w.heap.size v l ∧ Hid (Is n k r l) ∧ Below w.heap.size w w' := by
  have hof := hide (of_ok n k hn hk w)
  have hV := (V_in k n (by omega) (by omega)).2
  have hr9 : r ≤ 20256 := by have := unhide h1; omega
  have hst : Hid (r < V k (n - 0)) := h1
  have h1' := unhide h1
  obtain ⟨C, hC⟩ : ∃ C, V k n = C := ⟨_, rfl⟩
  rw [hC] at hof hV h1'
  clear hC
  go_enter Tryd.func26, Tryd.ntmps26
  go_wp2_with fail
  refine (unhide hof).mono ?_
  rintro e w1 ⟨rfl, hb1⟩
  clear hof
  go_wp2
  go_loopw [2, 10, 11, 34] (fun v2 v10 v11 i wr => ∃ (j L : Nat) (A : Int) (l : List Int), j ≤ n ∧ i = .int .i64 j ∧ v11 = .int .i64 L ∧ v2 = .int .i64 A ∧ Has wr w.heap.size v10 l ∧ Hid (l.length = j) ∧ Hid (Wants n k r l L A) ∧ Hid (A < V L (n - j)) ∧ L ≤ 8 ∧ 0 ≤ A ∧ A ≤ 20256 ∧ Below w.heap.size w wr) (fun _ _ _ i _ => n - (intOf i).toNat)
  case atStart => exact ⟨0, k, r, [], Nat.zero_le _, rfl, rfl, rfl, Has.nil _ _, rfl, wants_all n k r, hst, hk, h0, hr9, hb1⟩
  case round =>
    obtain ⟨j, L, A, l, hj, rfl, rfl, rfl, h9, HJ, HW, HV, hL, hA0, hA9, hB⟩ := hrel
    clear hb1 h1' hst
    by_cases hlt : j < n
    · obtain ⟨b, hb⟩ : ∃ b, n - 1 - j = b := ⟨_, rfl⟩
      have hb1 : (n : Int) - 1 - (j : Int) = (b : Int) := by omega
      have hb5 : b ≤ 5 := by omega
      have HB : Hid (A < V L (b + 1)) := hide (by have := unhide HV; rwa [show n - j = b + 1 by omega] at this)
      have HN : Hid (n - l.length = b + 1) := hide (by rw [unhide HJ]; omega)
      have hl9 : Hid (l.length + 1 ≤ 1000000) := hide (by rw [unhide HJ]; omega)
      have hnb : n - (j + 1) = b := by omega
      have HNB := hide hnb
      clear hb hnb HV
      go_wp2_with fail
      refine (numberAt A b L hb5 hL hA0 hA9 HB wr).mono ?_
      rintro e w2 ⟨s, rfl, hs, hin, hb2⟩
      have h10 := h9.below hb2
      have hB2 := hB.trans (hb2.mono hB.size)
      have hWs := hB2.size
      have HW2 := hide ((unhide HW).step (unhide HN) hs)
      obtain ⟨i1, i2⟩ := unhide hin
      rw [ahead_succ] at i2
      have hai := ahead_in (m := b) (L := L) (s := s) (by omega) (by omega) (by omega)
      have HV2 : Hid (A - ahead b L s < V (L - ((s : Int) - (L : Int)).natAbs) b) := hide (by
        have e : rows b L s = V (L - ((s : Int) - (L : Int)).natAbs) b := rfl
        rw [← e]; omega)
      obtain ⟨X, hX⟩ : ∃ X, (s : Int) - (L : Int) = X := ⟨_, rfl⟩
      obtain ⟨Q, hQ⟩ : ∃ Q, ahead b L s = Q := ⟨_, rfl⟩
      have hx0 : -(L : Int) ≤ X := by omega
      have hx1 : X ≤ L := by omega
      rw [hX] at HV2 HW2 ⊢
      rw [hQ] at HV2 HW2 hai i1 ⊢
      have hdist := hide (dist X)
      obtain ⟨D, hD⟩ : ∃ D, X.natAbs = D := ⟨_, rfl⟩
      rw [hD] at HV2 HW2 hdist
      obtain ⟨L', hL'⟩ : ∃ L', L - D = L' := ⟨_, rfl⟩
      rw [hL'] at HV2 HW2
      have hLD : (L : Int) - (D : Int) = (L' : Int) := by omega
      have hL8 : L' ≤ 8 := by omega
      obtain ⟨q0, q1⟩ := hai
      clear hX hQ hD hL' i2 hin hb2 h9 hB HB HW
      go_wp2_with (first
        | (at_builtin; refine wpList_app _ rfl _ _ rfl w.heap.size u10 l [X] _ _ rfl (h10.alloc _) rfl (row_one _ _ _) (unhide hl9) (by simp; omega) ?_; intro s' w3 k3 g3 at3)
        | fail)
      obtain ⟨d1, d2⟩ := stepped_plain h10 hWs k3 g3 at3
      have hB3 := hB2.trans d1
      refine (unhide hdist w3 (by omega) (by omega)).mono ?_
      rintro e w4 ⟨rfl, rfl⟩
      go_wp2
      go_roundw
      case rel => exact ⟨j + 1, L', A - Q, l ++ [X], by omega, by go_num, by go_num, by go_num, k3, hide (by rw [List.length_append, unhide HJ]; rfl), HW2, hide (by rw [unhide HNB]; exact unhide HV2), hL8, by omega, by omega, hB3⟩
      case measure => simp [intOf]; omega
    · obtain rfl : j = n := by omega
      have HI : Hid (Is j k r l) := hide ((unhide HW).done (unhide HJ) hL hA0 (by have := unhide HV; rwa [Nat.sub_self] at this))
      go_wp2
      go_ret2
      exact ⟨_, l, rfl, h9, HI, hB⟩

theorem row_no (n k r : Int) (w : World) (h : Hid (wide n 6 = true) ∨ (Hid (wide n 6 = false) ∧ Hid (wide k 8 = true))) :
    Calls Tryd.prog 26 #[.int .i64 n, .int .i64 k, .int .i64 r] w fun e w' => e = .returned (.tuple #[.slice none 0 0, .iface 41 (.int .i64 1)]) ∧ Below w.heap.size w w' := by
  go_enter Tryd.func26, Tryd.ntmps26
  go_wp2_with fail
  refine (of_no n k w h).mono ?_
  rintro e w1 ⟨rfl, hb1⟩
  go_wp2
  go_ret2
  exact ⟨rfl, hb1⟩
theorem row_out (n k : Nat) (r : Int) (hn : n ≤ 6) (hk : k ≤ 8) (h : r < 0 ∨ (0 ≤ r ∧ Hid (V k n ≤ r))) (w : World) :
    Calls Tryd.prog 26 #[.int .i64 n, .int .i64 k, .int .i64 r] w fun e w' => e = .returned (.tuple #[.slice none 0 0, .iface 41 (.int .i64 1)]) ∧ Below w.heap.size w w' := by
  have hof := hide (of_ok n k hn hk w)
  obtain ⟨C, hC⟩ : ∃ C, V k n = C := ⟨_, rfl⟩
  rw [hC] at hof h
  clear hC
  rcases h with h | ⟨h, g⟩
  · go_enter Tryd.func26, Tryd.ntmps26
    go_wp2_with fail
    refine (unhide hof).mono ?_
    rintro e w1 ⟨rfl, hb1⟩
    go_wp2
    go_ret2
    exact ⟨rfl, hb1⟩
  · have g' := unhide g
    go_enter Tryd.func26, Tryd.ntmps26
    go_wp2_with fail
    refine (unhide hof).mono ?_
    rintro e w1 ⟨rfl, hb1⟩
    go_wp2
    go_ret2
    exact ⟨rfl, hb1⟩

end Go.Proofs.YtjojeifoddonnakDoor.Pls
