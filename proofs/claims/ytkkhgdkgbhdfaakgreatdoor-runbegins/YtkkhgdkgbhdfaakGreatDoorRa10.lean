/-
  Package near: greatestFirst, and what of the library it asks (cmp.Compare, slices.SortStableFunc at a few numbers): by their contracts.
-/
import Derived.Test.YtkkhgdkgbhdfaakGreatDoorRa06
import Derived.Test.YtkkhgdkgbhdfaakGreatDoorRa00
import Derived.Shelf.RegionOpen
namespace Go.Proofs.YtkkhgdkgbhdfaakGreatDoor.Nea
open Go.RowKit
open Go.Proofs.YtkkhgdkgbhdfaakGreatDoor.Tre Go.Proofs.YtkkhgdkgbhdfaakGreatDoor.Lap Go.Proofs.YtkkhgdkgbhdfaakGreatDoor.Pls Go.Proofs.YtkkhgdkgbhdfaakGreatDoor.Mid
set_option linter.unusedVariables false

/-- cmp.Compare. -/
def cf (x y : Int) : Int := if x < y then -1 else if y < x then 1 else 0
theorem cf_sign (n : Int) : cf n 0 = n.sign := by
  unfold cf
  rcases Int.lt_trichotomy n 0 with h | h | h
  · rw [if_pos h, Int.sign_eq_neg_one_of_neg h]
  · subst h; rfl
  · rw [if_neg (by omega), if_pos h, Int.sign_eq_one_of_pos h]

theorem isNaN (x : Int) (w : World) : Calls Tryz.prog 168 #[.int .i64 x] w fun e w' => e = .returned (.bool false) ∧ w' = w := by
  have hx : (x == x) = true := by simp
  go_enter Tryz.func168, Tryz.ntmps168
  go_wp2
  go_ret
  exact ⟨by simp, rfl⟩

theorem compare (x y : Int) (w : World) : Calls Tryz.prog 135 #[.int .i64 x, .int .i64 y] w fun e w' => e = .returned (.int .i64 (cf x y)) ∧ w' = w := by
  unfold cf
  rcases Int.lt_trichotomy x y with h | h | h
  · rw [if_pos h]
    go_enter Tryz.func135, Tryz.ntmps135
    go_wp2_with fail
    refine (isNaN x w).mono ?_
    rintro e w' ⟨rfl, rfl⟩
    go_wp2_with fail
    refine (isNaN y _).mono ?_
    rintro e w' ⟨rfl, rfl⟩
    go_wp2
    go_ret
    exact ⟨rfl, rfl⟩
  · subst h
    have h1 : ¬ x < x := by omega
    rw [if_neg h1, if_neg h1]
    go_enter Tryz.func135, Tryz.ntmps135
    go_wp2_with fail
    refine (isNaN x w).mono ?_
    rintro e w' ⟨rfl, rfl⟩
    go_wp2_with fail
    refine (isNaN x _).mono ?_
    rintro e w' ⟨rfl, rfl⟩
    go_wp2
    go_ret
    exact ⟨rfl, rfl⟩
  · have h1 : ¬ x < y := by omega
    rw [if_neg h1, if_pos h]
    go_enter Tryz.func135, Tryz.ntmps135
    go_wp2_with fail
    refine (isNaN x w).mono ?_
    rintro e w' ⟨rfl, rfl⟩
    go_wp2_with fail
    refine (isNaN y _).mono ?_
    rintro e w' ⟨rfl, rfl⟩
    go_wp2
    go_ret
    exact ⟨rfl, rfl⟩

/-- The function that greatestFirst hands to the sort: its rests lie in a box. -/
def Boxed (W : World) (B : Nat) (r : Nat → Nat) (n : Nat) : Prop := ∃ g off c, W.cell? ⟨B, 0, none⟩ = some (.slice (some ⟨g, off, none⟩) n c) ∧ B < W.heap.size ∧ g < W.heap.size ∧ ∀ i, i < n → W.cell? ⟨g, off + i, none⟩ = some (.int .i64 (r i))
theorem Boxed.below {W w : World} {B : Nat} {r : Nat → Nat} {n : Nat} (h : Boxed W B r n) (hb : Below W.heap.size W w) : Boxed w B r n := by
  obtain ⟨g, off, c, h1, h2, h3, h4⟩ := h
  exact ⟨g, off, c, (hb.cell (p := ⟨B, 0, none⟩) h2).trans h1, Nat.lt_of_lt_of_le h2 hb.size, Nat.lt_of_lt_of_le h3 hb.size, fun i hi => (hb.cell (p := ⟨g, off + i, none⟩) h3).trans (h4 i hi)⟩

set_option maxHeartbeats 2000000 in
theorem order (x y : Nat) (B : Nat) (r : Nat → Nat) (n : Nat) (w : World) (hn : n ≤ 6) (hx : x < n) (hy : y < n) (hbx : Boxed w B r n) :
    Calls Tryz.prog 167 #[.int .i64 x, .int .i64 y, .pointer (some ⟨B, 0, none⟩)] w fun e w' => e = .returned (.int .i64 (cf (r y) (r x))) ∧ ∃ q, w' = w.drewN q := by
  obtain ⟨g, off, c, h1, h2, h3, h4⟩ := hbx
  have c1 := h4 x hx
  have c2 := h4 y hy
  obtain ⟨X, hX⟩ : ∃ X, r x = X := ⟨_, rfl⟩
  obtain ⟨Y, hY⟩ : ∃ Y, r y = Y := ⟨_, rfl⟩
  rw [hX] at c1 ⊢
  rw [hY] at c2 ⊢
  have hc := hide (compare (Y : Int) (X : Int))
  obtain ⟨C, hC⟩ : ∃ C, cf (Y : Int) (X : Int) = C := ⟨_, rfl⟩
  rw [hC] at hc ⊢
  clear h4 hX hY hC
  go_enter Tryz.func167, Tryz.ntmps167
  go_wp2
  go_quiet ((go_at_call 135; exact Calls.quiet_of_same (unhide hc _)))
  go_wp2
  go_ret
  exact ⟨rfl, _, rfl⟩

end Go.Proofs.YtkkhgdkgbhdfaakGreatDoor.Nea

/-
  slices.insertionSortCmpFunc at a few places, by greatestFirst's function: by its contract.
-/
namespace Go.Proofs.YtkkhgdkgbhdfaakGreatDoor.Nea
open Go.RowKit
open Go.Proofs.YtkkhgdkgbhdfaakGreatDoor.Tre Go.Proofs.YtkkhgdkgbhdfaakGreatDoor.Lap Go.Proofs.YtkkhgdkgbhdfaakGreatDoor.Pls Go.Proofs.YtkkhgdkgbhdfaakGreatDoor.Mid
set_option linter.unusedVariables false

set_option maxRecDepth 100000 in
set_option maxHeartbeats 8000000 in
theorem insertion (P c n B : Nat) (r : Nat → Nat) (W w : World) (hn : n ≤ 6) (h0 : 0 < n) (hbx : Boxed W B r n) (hB0 : Below W.heap.size W w) (hv : Has w W.heap.size (.slice (some ⟨P, 0, none⟩) n c) (upto (fun t => (t : Int)) n)) :
    Calls Tryz.prog 204 #[.slice (some ⟨P, 0, none⟩) n c, .int .i64 0, .int .i64 n, .func (.func 167) #[] #[.pointer (some ⟨B, 0, none⟩)]] w
      fun e w' => e = .returned (.tuple #[]) ∧ ∃ s : Nat → Nat, Has w' W.heap.size (.slice (some ⟨P, 0, none⟩) n c) (upto (fun t => (s t : Int)) n) ∧ Hid (Ins r s n n) ∧ Below W.heap.size W w' := by
  have hP : W.heap.size ≤ P := (hv.lt P rfl).1
  have HBX := hide hbx
  have HP := hide hP
  clear hbx hP
  go_enter Tryz.func204, Tryz.ntmps204
  go_wp2
  go_loopw [8] (fun vi wr => ∃ (i : Nat) (s : Nat → Nat), vi = .int .i64 i ∧ 1 ≤ i ∧ i ≤ n ∧ Has wr W.heap.size (.slice (some ⟨P, 0, none⟩) n c) (upto (fun t => (s t : Int)) n) ∧ Hid (Ins r s n i) ∧ Below W.heap.size W wr) (fun i _ => n - (intOf i).toNat)
  case atStart => exact ⟨1, fun t => t, by go_num, Nat.le_refl _, h0, hv, ins_start r n, hB0⟩
  case round =>
    obtain ⟨i, s, rfl, hi1, hin, hs, HI, hB⟩ := hrel
    clear hv hB0
    by_cases hlt : i < n
    · have HJ0 := hide ((unhide HI).go hlt)
      clear HI
      go_wp2
      go_loopw [9] (fun vj wr2 => ∃ (j : Nat) (s2 : Nat → Nat), vj = .int .i64 j ∧ j ≤ i ∧ Has wr2 W.heap.size (.slice (some ⟨P, 0, none⟩) n c) (upto (fun t => (s2 t : Int)) n) ∧ Hid (InsJ r s2 n i j) ∧ Below W.heap.size W wr2) (fun j _ => (intOf j).toNat)
      case atStart => exact ⟨i, s, rfl, Nat.le_refl _, hs, HJ0, hB⟩
      case round =>
        obtain ⟨j, s2, rfl, hji, hs2, HJ, hB2⟩ := hrel
        clear hs HJ0 hB
        by_cases hj0 : 0 < j
        · obtain ⟨jp, rfl⟩ : ∃ jp, j = jp + 1 := ⟨j - 1, by omega⟩
          have c1 := hs2.get (j := jp + 1) (by rw [upto_length]; omega)
          have c2 := hs2.get (j := jp) (by rw [upto_length]; omega)
          rw [upto_at _ (by omega)] at c1 c2
          have f1 := hs2.frozen (jp + 1)
          have f2 := hs2.frozen jp
          obtain ⟨q1, q2, q3⟩ := (unhide HJ).2.2.1
          have b1 := q1 (jp + 1) (by omega)
          have b2 := q1 jp (by omega)
          have hord : Hid (∀ x, Calls Tryz.prog 167 #[.int .i64 (s2 (jp + 1)), .int .i64 (s2 jp), .pointer (some ⟨B, 0, none⟩)] (wr.drewN x) fun e w' => e = .returned (.int .i64 (cf (r (s2 jp)) (r (s2 (jp + 1))))) ∧ ∃ q, w' = (wr.drewN x).drewN q) :=
            hide (fun x => order (s2 (jp + 1)) (s2 jp) B r n (wr.drewN x) hn b1 b2 ((unhide HBX).below (below_drewN hB2 x)))
          have HSW : Hid (((upto (fun t => (s2 t : Int)) n).set (jp + 1) (s2 jp)).set jp (s2 (jp + 1)) = upto (fun t => (swp s2 jp t : Int)) n) := hide (swp_set s2 rfl rfl)
          have HST := hide (fun h => (unhide HJ).step (j := jp) h)
          have HSP := hide (fun h => (unhide HJ).stop h)
          rw [Nat.add_sub_cancel] at HSP
          obtain ⟨Y, hY⟩ : ∃ Y, s2 jp = Y := ⟨_, rfl⟩
          obtain ⟨X, hX⟩ : ∃ X, s2 (jp + 1) = X := ⟨_, rfl⟩
          rw [hY, hX] at hord HSW HST HSP
          rw [hX] at c1 b1
          rw [hY] at c2 b2
          have hjz : (0 : Int) < (jp : Int) + 1 := by omega
          have hj6 : jp + 1 < n := by omega
          have jz : (jp : Int) + 1 < (n : Int) := by omega
          have jz1 : (jp : Int) < (n : Int) := by omega
          clear q1 q2 q3 hY hX HJ
          by_cases hr : r Y < r X
          · have hcf : cf (r Y) (r X) = -1 := by unfold cf; rw [if_pos (by omega)]
            rw [hcf] at hord
            have HJ2 := hide (unhide HST hr)
            clear HST HSP hcf hr
            go_wp2
            go_quiet ((go_at_call 167; exact Calls.quiet_of (unhide hord _)))
            go_wp2
            go_region
            have m1 := Has.put (show Has (wr.drewN (nq + 1)) _ _ _ from hs2) (jp + 1) (Y : Int)
            have m2 := m1.1.put jp (X : Int)
            rw [unhide HSW] at m2
            have hB3 := Below.setCell (p := ⟨P, jp, none⟩) (Below.setCell (p := ⟨P, jp + 1, none⟩) (below_drewN hB2 (nq + 1)) (unhide HP) (.int .i64 (Y : Int))) (unhide HP) (.int .i64 (X : Int))
            clear m1 hs2 hB2
            go_wp2
            go_roundw
            case rel => exact ⟨jp, swp s2 jp, by go_num, by omega, m2.1, HJ2, hB3⟩
            case measure => simp [intOf]
          · have hcf : decide (cf (r Y) (r X) < 0) = false := by unfold cf; rw [if_neg (by omega)]; split <;> simp
            obtain ⟨C, hC⟩ : ∃ C, cf (r Y) (r X) = C := ⟨_, rfl⟩
            rw [hC] at hcf hord
            have HI2 := hide (unhide HSP (Or.inr (by omega)))
            clear HST HSP hr hC
            go_wp2
            go_quiet ((go_at_call 167; exact Calls.quiet_of (unhide hord _)))
            go_wp2
            go_roundw
            case rel => exact ⟨i + 1, s2, by go_num, by omega, by omega, hs2, HI2, below_drewN hB2 _⟩
            case measure => simp [intOf]; omega
        · have hjz : decide ((0 : Int) < (j : Int)) = false := by simp; omega
          have HI2 := hide ((unhide HJ).stop (Or.inl (by omega)))
          clear HJ
          go_wp2
          go_quiet (fail)
          go_wp2
          go_roundw
          case rel => exact ⟨i + 1, s2, by go_num, by omega, by omega, hs2, HI2, below_drewN hB2 _⟩
          case measure => simp [intOf]; omega
    · obtain rfl : i = n := by omega
      go_wp2
      go_end0
      exact ⟨rfl, s, hs, HI, hB⟩

end Go.Proofs.YtkkhgdkgbhdfaakGreatDoor.Nea

/-
  slices.SortStableFunc at a few places, near.greatestFirst: by their contracts.
-/
namespace Go.Proofs.YtkkhgdkgbhdfaakGreatDoor.Nea
open Go.RowKit
open Go.Proofs.YtkkhgdkgbhdfaakGreatDoor.Tre Go.Proofs.YtkkhgdkgbhdfaakGreatDoor.Lap Go.Proofs.YtkkhgdkgbhdfaakGreatDoor.Pls Go.Proofs.YtkkhgdkgbhdfaakGreatDoor.Mid
set_option linter.unusedVariables false

set_option maxRecDepth 100000 in
set_option maxHeartbeats 4000000 in
theorem stable (P c n B : Nat) (r : Nat → Nat) (W w : World) (hn : n ≤ 6) (h0 : 0 < n) (hbx : Hid (Boxed W B r n)) (hB0 : Below W.heap.size W w) (hv : Has w W.heap.size (.slice (some ⟨P, 0, none⟩) n c) (upto (fun t => (t : Int)) n)) :
    Calls Tryz.prog 195 #[.slice (some ⟨P, 0, none⟩) n c, .int .i64 n, .func (.func 167) #[] #[.pointer (some ⟨B, 0, none⟩)]] w
      fun e w' => e = .returned (.tuple #[]) ∧ ∃ s : Nat → Nat, Has w' W.heap.size (.slice (some ⟨P, 0, none⟩) n c) (upto (fun t => (s t : Int)) n) ∧ Hid (Ins r s n n) ∧ Below W.heap.size W w' := by
  have h20 : ¬ (20 : Int) ≤ (n : Int) := by omega
  have h20' : ¬ (20 : Int) < (n : Int) := by omega
  go_enter Tryz.func195, Tryz.ntmps195
  go_wp2
  go_loopw [7, 8] (fun a b wr => a = .int .i64 0 ∧ b = .int .i64 20 ∧ wr = w) (fun _ _ _ => 0)
  case atStart => exact ⟨rfl, rfl, rfl⟩
  case round =>
    obtain ⟨rfl, rfl, rfl⟩ := hrel
    go_wp2_with fail
    refine (insertion P c n B r W _ hn h0 (unhide hbx) hB0 hv).mono ?_
    rintro e w1 ⟨rfl, s, hs, HI, hB⟩
    go_wp2
    go_loopw [6] (fun b wr => b = .int .i64 20 ∧ wr = w1) (fun _ _ => 0)
    case atStart => exact ⟨rfl, rfl⟩
    case round =>
      obtain ⟨rfl, rfl⟩ := hrel
      go_wp2
      go_end0
      exact ⟨rfl, s, hs, HI, hB⟩

theorem sortStable (P c n B : Nat) (r : Nat → Nat) (W w : World) (hn : n ≤ 6) (h0 : 0 < n) (hbx : Hid (Boxed W B r n)) (hB0 : Below W.heap.size W w) (hv : Has w W.heap.size (.slice (some ⟨P, 0, none⟩) n c) (upto (fun t => (t : Int)) n)) :
    Calls Tryz.prog 166 #[.slice (some ⟨P, 0, none⟩) n c, .func (.func 167) #[] #[.pointer (some ⟨B, 0, none⟩)]] w
      fun e w' => e = .returned (.tuple #[]) ∧ ∃ s : Nat → Nat, Has w' W.heap.size (.slice (some ⟨P, 0, none⟩) n c) (upto (fun t => (s t : Int)) n) ∧ Hid (Ins r s n n) ∧ Below W.heap.size W w' := by
  go_enter Tryz.func166, Tryz.ntmps166
  go_wp2_with fail
  refine (stable P c n B r W w hn h0 hbx hB0 hv).mono ?_
  rintro e w1 ⟨rfl, s, hs, HI, hB⟩
  go_wp2
  go_end0
  exact ⟨rfl, s, hs, HI, hB⟩

theorem boxed_new {w : World} {a : Option Addr} {n c : Nat} {r : Nat → Nat} (h0 : 0 < n) (hr : Row w a (upto (fun i => (r i : Int)) n)) : Boxed (w.alloc (.cells #[.slice a n c] 22)) w.heap.size r n := by
  have hb1 : Below w.heap.size w (w.alloc (.cells #[.slice a n c] 22)) := (Below.refl _ _).alloc (Nat.le_refl _) _
  obtain ⟨b, off, rfl, hb, hc⟩ := Mid.row_cell (hr.below hb1) (by rw [upto_length]; exact h0)
  refine ⟨b, off, c, by rw [World.cell?_alloc_at _ _ _ _ rfl]; rfl, by simp, hb, fun i hi => ?_⟩
  rw [hc i (by rw [upto_length]; exact hi), upto_at _ hi]

set_option maxRecDepth 100000 in
set_option maxHeartbeats 4000000 in
theorem first (a : Option Addr) (n c : Nat) (r : Nat → Nat) (w : World) (hn : n ≤ 6) (h0 : 0 < n) (hr : Row w a (upto (fun i => (r i : Int)) n)) :
    Calls Tryz.prog 133 #[.slice a n c] w
      fun e w' => ∃ (v : Value) (s : Nat → Nat), e = .returned v ∧ Has w' w.heap.size v (upto (fun t => (s t : Int)) n) ∧ Hid (Ins r s n n) ∧ Below w.heap.size w w' := by
  have hmf : ∀ (fn : Fn) (first cap : Array Value) (w : World), (Instr.makeFunc fn first cap).run Tryz.prog w = .ok (.func fn first cap) w := fun _ _ _ _ => rfl
  have HBX := hide (boxed_new (c := c) h0 hr)
  have hb1 : Below w.heap.size w (w.alloc (.cells #[.slice a n c] 22)) := (Below.refl _ _).alloc (Nat.le_refl _) _
  go_enter Tryz.func133, Tryz.ntmps133
  go_wp2_with (at_make; refine wpList_mk _ rfl _ rfl n rfl (by omega) ?_; intro w2 hv2 hb2)
  have hsz : (w.alloc (.cells #[.slice a n c] 22)).heap.size = w.heap.size + 1 := by simp
  obtain ⟨W, hW⟩ : ∃ W, w.alloc (.cells #[.slice a n c] 22) = W := ⟨_, rfl⟩
  rw [hW] at HBX hb1 hv2 hb2 hsz
  obtain ⟨P, hP⟩ : ∃ P, w.heap.size + 1 = P := ⟨_, rfl⟩
  rw [hsz, hP] at hv2 hb2
  rw [hP] at hsz
  rw [hP]
  have hPw : w.heap.size ≤ P := by omega
  have HS := hide hsz
  rw [← unhide HS] at hb2
  clear hsz hW hP
  go_loopw [10] (fun i wr => ∃ j : Nat, j ≤ n ∧ i = .int .i64 j ∧ Has wr P (.slice (some ⟨P, 0, none⟩) n n) (mid (fun t => (t : Int)) (fun _ => 0) n j) ∧ Hid (Below P W wr)) (fun i _ => n - (intOf i).toNat)
  case atStart => exact ⟨0, Nat.zero_le _, rfl, by rw [mid_zero]; exact hv2, hide (by rw [← unhide HS]; exact hb2)⟩
  case round =>
    obtain ⟨j, hj, rfl, hs, hB⟩ := hrel
    clear hv2 hb2
    by_cases hlt : j < n
    · have hcl := hs.get (j := j) (by rw [mid_length]; exact hlt)
      rw [mid_at _ _ hlt] at hcl
      have hfz := hs.frozen j
      obtain ⟨m1, m2, m3⟩ := Mid.put_mid hs hlt (show ((j : Int)) = (j : Int) from rfl) 0
      go_wp2
      go_roundw
      case rel => exact ⟨j + 1, by omega, by go_num, m1, hide (m3 _ (unhide hB) (Nat.le_refl _))⟩
      case measure => simp [intOf]; omega
    · obtain rfl : j = n := by omega
      rw [mid_all] at hs
      have hs1 : Has wr W.heap.size (.slice (some ⟨P, 0, none⟩) j j) (upto (fun t => (t : Int)) j) := by rw [unhide HS]; exact hs
      have hB1 : Hid (Below W.heap.size W wr) := hide (by rw [unhide HS]; exact unhide hB)
      clear hs hB
      go_wp2_with fail
      refine (sortStable P j j w.heap.size r W wr hn h0 HBX (unhide hB1) hs1).mono ?_
      rintro e w3 ⟨rfl, s, hs3, HI, hB3⟩
      go_wp2
      go_ret
      exact ⟨_, s, rfl, hs3.mono (by rw [unhide HS]; exact hPw), HI, Below.chain hb1 hB3⟩

end Go.Proofs.YtkkhgdkgbhdfaakGreatDoor.Nea

/-
  near.Spread: by its contracts.
-/
namespace Go.Proofs.YtkkhgdkgbhdfaakGreatDoor.Nea
open Go.RowKit
open Go.Proofs.YtkkhgdkgbhdfaakGreatDoor.Tre Go.Proofs.YtkkhgdkgbhdfaakGreatDoor.Lap Go.Proofs.YtkkhgdkgbhdfaakGreatDoor.Pls Go.Proofs.YtkkhgdkgbhdfaakGreatDoor.Mid
set_option linter.unusedVariables false

theorem near_zero (v : List Int) : Near v 0 (upto (fun _ => 0) v.length) := by
  refine ⟨fun _ => false, ?_, upto_congr fun i _ => ?_⟩
  · rw [show lft v 0 = 0 by simp [lft]]; exact pick_zero _ _
  · simp [res, qt, sh, one]
theorem off_new {w w' : World} {b : Nat} {p v : Value} {l m : List Int} (hp : Has w b p l) (hv : Has w' w.heap.size v m) : Off p v := by
  cases h : p.ownBlock with
  | none => exact Or.inl h
  | some k =>
    refine Or.inr ?_
    have := (hp.lt k h).2
    rw [h]
    intro e
    have := (hv.lt k e.symm).1
    omega
/-- One more gets a pulse. -/
theorem put_gt {r s : Nat → Nat} {n j : Nat} (q : Nat → Nat) (h : Ins r s n n) (hj : j < n) {Q : Nat} (hQ : q (s j) = Q) :
    (upto (fun i => ((q i + one (gt s j i) : Nat) : Int)) n).set (s j) ((Q + 1 : Nat) : Int) = upto (fun i => ((q i + one (gt s (j + 1) i) : Nat) : Int)) n ∧ at0 (upto (fun i => ((q i + one (gt s j i) : Nat) : Int)) n) (s j) = (Q : Int) ∧ s j < n := by
  obtain ⟨b1, b2, b3⟩ := gt_best h hj
  refine ⟨?_, ?_, b1⟩
  · rw [upto_set]
    refine upto_congr fun i _ => ?_
    rw [gt_succ, one_with b2]
    by_cases e : i = s j
    · subst e; rw [if_pos rfl, if_pos rfl, b2, hQ]; simp [one]
    · rw [if_neg e, if_neg e]; simp
  · rw [upto_at _ b1, b2, hQ]; simp [one]

theorem spread_range (a : Option Addr) (cap N : Nat) (k : Int) (w : World) (hk : k < 0 ∨ (0 ≤ k ∧ 8 < k)) :
    Calls Tryz.prog 105 #[.slice a N cap, .int .i64 k] w fun e w' => e = .returned (.tuple #[.slice none 0 0, .iface 58 (.int .i64 1)]) ∧ w' = w := by
  rcases hk with hk | ⟨hk, hk'⟩
  all_goals
    go_enter Tryz.func105, Tryz.ntmps105
    go_wp2
    go_ret2
    exact ⟨rfl, rfl⟩
theorem spread_none (a : Option Addr) (cap : Nat) (v : List Int) (k : Nat) (w : World) (hr : Row w a v) (h6 : v.length ≤ 6) (hi : In 4000 v) (hk : 0 < k) (hk8 : k ≤ 8) (hM : Hid (loud v = 0)) :
    Calls Tryz.prog 105 #[.slice a v.length cap, .int .i64 k] w fun e w' => e = .returned (.tuple #[.slice none 0 0, .iface 58 (.int .i64 5)]) ∧ w' = w := by
  have hk0 : ((k : Int) == 0) = false := by simp; omega
  go_enter Tryz.func105, Tryz.ntmps105
  go_wp2_with fail
  refine (dists a cap v w (by omega) hi hr).mono ?_
  rw [unhide hM]
  rintro e w1 ⟨rfl, rfl⟩
  go_wp2
  go_ret2
  exact ⟨rfl, rfl⟩
theorem spread_zero (a : Option Addr) (cap : Nat) (v : List Int) (w : World) (hr : Row w a v) (h6 : v.length ≤ 6) :
    Calls Tryz.prog 105 #[.slice a v.length cap, .int .i64 0] w fun e w' => ∃ p l, e = .returned (.tuple #[p, .nilIface]) ∧ Has w' w.heap.size p l ∧ Hid (Near v 0 l) ∧ Below w.heap.size w w' := by
  go_enter Tryz.func105, Tryz.ntmps105
  go_wp2_with (at_make; refine wpList_mk _ rfl _ rfl v.length rfl (by omega) ?_; intro w2 hv2 hb2)
  go_ret2
  exact ⟨_, _, rfl, hv2, near_zero v, hb2⟩

set_option maxRecDepth 100000 in
set_option maxHeartbeats 16000000 in
theorem spread_some (a : Option Addr) (cap : Nat) (v : List Int) (k : Nat) (w : World) (hr : Row w a v) (h6 : v.length ≤ 6) (hi : In 4000 v) (hk : 0 < k) (hk8 : k ≤ 8) (hM0 : Hid (0 < loud v)) :
    Calls Tryz.prog 105 #[.slice a v.length cap, .int .i64 k] w fun e w' => ∃ p l, e = .returned (.tuple #[p, .nilIface]) ∧ Has w' w.heap.size p l ∧ Hid (Near v k l) ∧ Below w.heap.size w w' := by
  have hMle := loud_in (b := 4000) hi
  have hc1 := hide (dists a cap v w (by omega) hi hr)
  have HKL : Hid (k = 0 ∨ 0 < loud v) := hide (Or.inr (unhide hM0))
  have hL := lft_le k (unhide HKL)
  have hn0 : 0 < v.length := by
    rcases Nat.eq_zero_or_pos v.length with e | e
    · have := unhide hM0
      rw [loud_tot, e] at this
      simp [tot] at this
    · exact e
  obtain ⟨M, hM⟩ : ∃ M, loud v = M := ⟨_, rfl⟩
  have hM1 : 0 < M := by rw [← hM]; exact unhide hM0
  have hM9 : M ≤ 24000 := by omega
  rw [hM] at hc1
  have HM := hide hM
  have hMz : ((M : Int) == 0) = false := by simp; omega
  have hk0 : ((k : Int) == 0) = false := by simp; omega
  clear hM hMle
  go_enter Tryz.func105, Tryz.ntmps105
  go_wp2_with fail
  refine (unhide hc1).mono ?_
  rintro e w1 ⟨rfl, rfl⟩
  have hr1 := hr
  have hb1 := Below.refl w.heap.size w
  clear hc1
  go_wp2_with fail
  refine (wholes a cap v k M w h6 hi hk8 HM hM1 hM9 hr1).mono ?_
  rintro e w2 ⟨p, r, rfl, hp, hrs, ho, hb2⟩
  have hB2 := Below.chain hb1 hb2
  have hr2 := hr1.below hb2
  obtain ⟨N, hN⟩ : ∃ N, v.length = N := ⟨_, rfl⟩
  have HN := hide hN
  rw [hN] at hp hrs hL hn0 h6
  obtain ⟨gp, cp, ep, -, -, -, -⟩ := hp.one (by rw [upto_length]; exact hn0)
  obtain ⟨gr, cr, er, -, -, -, -⟩ := hrs.one (by rw [upto_length]; exact hn0)
  rw [upto_length] at ep er
  subst ep er
  have hrr := (hrs.inRow rfl).2
  have hp0 := hp.mono hb1.size
  clear hr1 hb1 hb2 hN
  go_wp2_with fail
  refine (first (some ⟨gr, 0, none⟩) N cr (rt v k) w2 h6 hn0 hrr).mono ?_
  rintro e w3 ⟨pl, s, rfl, hpl, HI, hb3⟩
  have hB3 := Below.chain hB2 hb3
  have hr3 := hr2.below hb3
  have hp3 := hp0.below hb3
  have hop := off_new hp0 hpl
  obtain ⟨gs, cs, es, hgs, -, hcs1, hcs2⟩ := hpl.one (by rw [upto_length]; exact hn0)
  rw [upto_length] at es hcs1
  subst es
  have hpl0 := hpl.mono hB2.size
  have hlc := hide (left (some ⟨gp, 0, none⟩) cp v k N w3 HN h6 hk8 HKL ((hp3.inRow rfl).2))
  obtain ⟨L, hLd⟩ : ∃ L, lft v k = L := ⟨_, rfl⟩
  rw [hLd] at hlc hL
  have HL := hide hLd
  clear hrs ho hrr hp hr2 hB2 hb3 hp0 hpl hLd hgs
  go_wp2_with fail
  refine (unhide hlc).mono ?_
  rintro e w4 ⟨rfl, rfl⟩
  clear hlc
  have hLz : (L : Int) ≤ (cs : Int) := by omega
  go_wp2
  go_loopw [44] (fun i wr => ∃ j : Nat, j ≤ L ∧ i = .int .i64 j ∧ Has wr w.heap.size (.slice (some ⟨gp, 0, none⟩) N cp) (upto (fun i => ((qt v k i + one (gt s j i) : Nat) : Int)) N) ∧ Has wr w.heap.size (.slice (some ⟨gs, 0, none⟩) N cs) (upto (fun t => (s t : Int)) N) ∧ Below w.heap.size w wr) (fun i _ => L - (intOf i).toNat)
  case atStart => exact ⟨0, Nat.zero_le _, rfl, by simpa [gt_zero, one] using hp3, hpl0, hB3⟩
  case round =>
    obtain ⟨j, hj, rfl, hpj, hsj, hBj⟩ := hrel
    clear hp3 hpl0 hB3 hr3
    by_cases hlt : j < L
    · have hjN : j < N := by omega
      obtain ⟨Q, hQ⟩ : ∃ Q, qt v k (s j) = Q := ⟨_, rfl⟩
      obtain ⟨p1, p2, p3⟩ := put_gt (qt v k) (unhide HI) hjN hQ
      have hQ8 : Q ≤ 8 := by
        have h1 := qt_le k (unhide HKL)
        have h2 := tot_one (f := qt v k) (n := v.length) (i := s j) (by rw [unhide HN]; exact p3)
        omega
      have c1 := hsj.get (j := j) (by rw [upto_length]; exact hjN)
      rw [upto_at _ hjN] at c1
      have c2 := hpj.get (j := s j) (by rw [upto_length]; exact p3)
      rw [p2] at c2
      have f2 := hpj.frozen (s j)
      have hg := (hpj.lt gp rfl).1
      obtain ⟨m1, m2⟩ := hpj.put (s j) ((Q + 1 : Nat) : Int)
      rw [p1] at m1
      have m3 := Has.beside hsj rfl hop.symm m2
      have m4 := Below.setCell (p := ⟨gp, s j, none⟩) hBj hg (.int .i64 ((Q + 1 : Nat) : Int))
      have M1 := hide m1
      have M3 := hide m3
      have M4 := hide m4
      clear p1 p2 hQ m1 m2 m3 m4 hpj hsj hBj hg
      obtain ⟨X, hX⟩ : ∃ X, s j = X := ⟨_, rfl⟩
      rw [hX] at c1 c2 p3 f2 M1 M3 M4
      obtain ⟨Q1, hQ1⟩ : ∃ Q1, Q + 1 = Q1 := ⟨_, rfl⟩
      rw [hQ1] at M1 M3 M4
      have eQ : IntKind.i64.wrap ((Q : Int) + 1) = (Q1 : Int) := by rw [← hQ1]; exact IntWalk.i64_in _ (by omega)
      have jz : (j : Int) < (L : Int) := by omega
      have Xz : (X : Int) < (N : Int) := by omega
      clear hX hQ1
      go_wp2
      go_roundw
      case rel => exact ⟨j + 1, by omega, by go_num, unhide M1, unhide M3, unhide M4⟩
      case measure => simp [intOf]; omega
    · obtain rfl : j = L := by omega
      have HP := hide (show Pick (rt v k) v.length (lft v k) (gt s j) from by rw [unhide HN, unhide HL]; exact gt_pick (unhide HI) j hL)
      obtain ⟨g, hg⟩ : ∃ g, gt s j = g := ⟨_, rfl⟩
      rw [hg] at hpj HP
      clear hg hsj HI hop
      have hvN : (v.length : Int) = (N : Int) := by rw [unhide HN]
      have hpm : Has wr w.heap.size (.slice (some ⟨gp, 0, none⟩) N cp) (mid (res v k g) (fun i => ((qt v k i + one (g i) : Nat) : Int)) N 0) := by rw [mid_zero]; exact hpj
      clear hpj
      go_wp2
      go_loopw [57] (fun i wr => ∃ j : Nat, j ≤ N ∧ i = .int .i64 j ∧ Has wr w.heap.size (.slice (some ⟨gp, 0, none⟩) N cp) (mid (res v k g) (fun i => ((qt v k i + one (g i) : Nat) : Int)) N j) ∧ Below w.heap.size w wr) (fun i _ => N - (intOf i).toNat)
      case atStart => exact ⟨0, Nat.zero_le _, rfl, hpm, hBj⟩
      case round =>
        obtain ⟨x, hx, rfl, hpx, hBx⟩ := hrel
        clear hpm hBj
        by_cases hlt : x < N
        · have hr5 := hr.below hBx
          obtain ⟨b, off, rfl, hb, hc⟩ := Mid.row_cell hr5 (by rw [unhide HN]; omega)
          have c1 := hc x (by rw [unhide HN]; exact hlt)
          have c2 := hpx.get (j := x) (by rw [mid_length]; exact hlt)
          rw [mid_at _ _ hlt] at c2
          have f2 := hpx.frozen x
          have hg := (hpx.lt gp rfl).1
          have HRS : Hid (res v k g x = (at0 v x).sign * ((qt v k x + one (g x) : Nat) : Int)) := hide rfl
          have hQ9 : qt v k x + one (g x) ≤ 9 := by
            have h1 := qt_le k (unhide HKL)
            have h2 := tot_one (f := qt v k) (n := v.length) (i := x) (by rw [unhide HN]; exact hlt)
            have h3 : one (g x) ≤ 1 := by unfold one; split <;> omega
            omega
          have HC := hide (fun W => compare (at0 v x) 0 W)
          rw [cf_sign] at HC
          obtain ⟨X, hX⟩ : ∃ X, at0 v x = X := ⟨_, rfl⟩
          rw [hX] at c1 HC HRS
          have hS : X.sign = -1 ∨ X.sign = 0 ∨ X.sign = 1 := by
            rcases Int.lt_trichotomy X 0 with e | e | e
            · exact Or.inl (Int.sign_eq_neg_one_of_neg e)
            · subst e; exact Or.inr (Or.inl rfl)
            · exact Or.inr (Or.inr (Int.sign_eq_one_of_pos e))
          obtain ⟨S, hS'⟩ : ∃ S, X.sign = S := ⟨_, rfl⟩
          rw [hS'] at HC HRS hS
          obtain ⟨Q, hQ⟩ : ∃ Q, qt v k x + one (g x) = Q := ⟨_, rfl⟩
          rw [hQ] at c2 HRS hQ9
          obtain ⟨R, hR⟩ : ∃ R, S * (Q : Int) = R := ⟨_, rfl⟩
          rw [hR] at HRS
          have hmul : IntKind.i64.wrap ((Q : Int) * S) = R := by
            rw [Int.mul_comm, hR]
            refine IntWalk.i64_in _ ?_
            rcases hS with e | e | e <;> (rw [e] at hR; omega)
          clear hX hS hS' hQ hR hc
          go_wp2
          go_region_with (go_at_call 135; refine (unhide HC _).mono ?_; rintro e w' ⟨rfl, rfl⟩)
          all_goals
            obtain ⟨m1, m2, m3⟩ := Mid.put_mid hpx hlt (unhide HRS) 1
            go_wp2
            go_roundw
            case rel => exact ⟨x + 1, by omega, by go_num, m1, m3 _ hBx hg⟩
            case measure => simp [intOf]; omega
        · obtain rfl : x = N := by omega
          rw [mid_all] at hpx
          have HNR : Hid (Near v k (upto (res v k g) x)) := hide ⟨g, unhide HP, by rw [unhide HN]⟩
          go_wp2
          go_ret2
          exact ⟨_, _, rfl, hpx, HNR, hBx⟩

theorem spread_ok (a : Option Addr) (cap : Nat) (v : List Int) (k : Nat) (w : World) (hr : Row w a v) (h6 : v.length ≤ 6) (hi : In 4000 v) (hk8 : k ≤ 8) (hM0 : Hid (k = 0 ∨ 0 < loud v)) :
    Calls Tryz.prog 105 #[.slice a v.length cap, .int .i64 k] w fun e w' => ∃ p l, e = .returned (.tuple #[p, .nilIface]) ∧ Has w' w.heap.size p l ∧ Hid (Near v k l) ∧ Below w.heap.size w w' := by
  rcases Nat.eq_zero_or_pos k with e | e
  · subst e
    exact spread_zero a cap v w hr h6
  · exact spread_some a cap v k w hr h6 hi e hk8 (hide (by have := unhide hM0; omega))

end Go.Proofs.YtkkhgdkgbhdfaakGreatDoor.Nea

/-
  near.Of: by its contracts.
-/
namespace Go.Proofs.YtkkhgdkgbhdfaakGreatDoor.Nea
open Go.RowKit
open Go.Proofs.YtkkhgdkgbhdfaakGreatDoor.Tre Go.Proofs.YtkkhgdkgbhdfaakGreatDoor.Lap Go.Proofs.YtkkhgdkgbhdfaakGreatDoor.Pls Go.Proofs.YtkkhgdkgbhdfaakGreatDoor.Mid
set_option linter.unusedVariables false

theorem of_no (a : Option Addr) (cap : Nat) (v : List Int) (k : Int) (w : World) (hl : v.length ≤ 9223372036854775807) (hr : Row w a v) (h : Hid (vf v ≠ 0)) :
    Calls Tryz.prog 73 #[.slice a v.length cap, .int .i64 k] w fun e w' => e = .returned (.tuple #[.slice none 0 0, .iface 58 (.int .i64 (vf v))]) ∧ Below w.heap.size w w' := by
  go_enter Tryz.func73, Tryz.ntmps73
  go_wp2_with fail
  refine (loudOf_no a cap v w hl hr h).mono ?_
  rintro e w1 ⟨rfl, hb1⟩
  go_wp2
  go_ret2
  exact ⟨rfl, hb1⟩
theorem of_range (a : Option Addr) (cap : Nat) (v : List Int) (k : Int) (w : World) (hr : Row w a v) (h : Hid (vf v = 0)) (hk : k < 0 ∨ (0 ≤ k ∧ 8 < k)) :
    Calls Tryz.prog 73 #[.slice a v.length cap, .int .i64 k] w fun e w' => e = .returned (.tuple #[.slice none 0 0, .iface 58 (.int .i64 1)]) ∧ Below w.heap.size w w' := by
  have HK := hide hk
  clear hk
  go_enter Tryz.func73, Tryz.ntmps73
  go_wp2_with fail
  refine (loudOf_ok a cap v w hr h).mono ?_
  rintro e w1 ⟨rfl, hb1⟩
  go_wp2_with fail
  refine (spread_range a cap v.length k w1 (unhide HK)).mono ?_
  rintro e w2 ⟨rfl, rfl⟩
  go_wp2
  go_ret2
  exact ⟨rfl, hb1⟩
theorem of_none (a : Option Addr) (cap : Nat) (v : List Int) (k : Nat) (w : World) (hr : Row w a v) (h : Hid (vf v = 0)) (hk : 0 < k) (hk8 : k ≤ 8) (hM : Hid (loud v = 0)) :
    Calls Tryz.prog 73 #[.slice a v.length cap, .int .i64 k] w fun e w' => e = .returned (.tuple #[.slice none 0 0, .iface 58 (.int .i64 5)]) ∧ Below w.heap.size w w' := by
  obtain ⟨h6, hi⟩ := vf_ok (unhide h)
  go_enter Tryz.func73, Tryz.ntmps73
  go_wp2_with fail
  refine (loudOf_ok a cap v w hr h).mono ?_
  rintro e w1 ⟨rfl, hb1⟩
  go_wp2_with fail
  refine (spread_none a cap v k w1 (hr.below hb1) h6 (hi.mono (by omega)) hk hk8 hM).mono ?_
  rintro e w2 ⟨rfl, rfl⟩
  go_wp2
  go_ret2
  exact ⟨rfl, hb1⟩
theorem of_ok (a : Option Addr) (cap : Nat) (v : List Int) (k : Nat) (w : World) (hr : Row w a v) (h : Hid (vf v = 0)) (hk8 : k ≤ 8) (hM0 : Hid (k = 0 ∨ 0 < loud v)) :
    Calls Tryz.prog 73 #[.slice a v.length cap, .int .i64 k] w fun e w' => ∃ p l, e = .returned (.tuple #[p, .nilIface]) ∧ Has w' w.heap.size p l ∧ Hid (Near v k l) ∧ Below w.heap.size w w' := by
  obtain ⟨h6, hi⟩ := vf_ok (unhide h)
  go_enter Tryz.func73, Tryz.ntmps73
  go_wp2_with fail
  refine (loudOf_ok a cap v w hr h).mono ?_
  rintro e w1 ⟨rfl, hb1⟩
  go_wp2_with fail
  refine (spread_ok a cap v k w1 (hr.below hb1) h6 (hi.mono (by omega)) hk8 hM0).mono ?_
  rintro e w2 ⟨p, l, rfl, hp, hn, hb2⟩
  go_wp2
  go_ret2
  exact ⟨p, l, rfl, hp.mono hb1.size, hn, Below.chain hb1 hb2⟩
theorem of_some (a : Option Addr) (cap : Nat) (v : List Int) (k : Nat) (w : World) (hr : Row w a v) (h : Hid (vf v = 0)) (hk : 0 < k) (hk8 : k ≤ 8) (hM0 : Hid (0 < loud v)) :
    Calls Tryz.prog 73 #[.slice a v.length cap, .int .i64 k] w fun e w' => ∃ p l, e = .returned (.tuple #[p, .nilIface]) ∧ Has w' w.heap.size p l ∧ Hid (Near v k l) ∧ Below w.heap.size w w' :=
  of_ok a cap v k w hr h hk8 (hide (Or.inr (unhide hM0)))
theorem of_zero (a : Option Addr) (cap : Nat) (v : List Int) (w : World) (hr : Row w a v) (h : Hid (vf v = 0)) :
    Calls Tryz.prog 73 #[.slice a v.length cap, .int .i64 0] w fun e w' => ∃ p l, e = .returned (.tuple #[p, .nilIface]) ∧ Has w' w.heap.size p l ∧ Hid (Near v 0 l) ∧ Below w.heap.size w w' :=
  of_ok a cap v 0 w hr h (by omega) (hide (Or.inl rfl))

end Go.Proofs.YtkkhgdkgbhdfaakGreatDoor.Nea

/-
  hornref1.Near: by its contracts.
-/
namespace Go.Proofs.YtkkhgdkgbhdfaakGreatDoor.Nea
open Go.RowKit
open Go.Proofs.YtkkhgdkgbhdfaakGreatDoor.Tre Go.Proofs.YtkkhgdkgbhdfaakGreatDoor.Lap Go.Proofs.YtkkhgdkgbhdfaakGreatDoor.Pls Go.Proofs.YtkkhgdkgbhdfaakGreatDoor.Mid
set_option linter.unusedVariables false

theorem near_zero' (v : List Int) : Near v 0 (upto (fun _ => 0) v.length) := by
  refine ⟨fun _ => false, ?_, upto_congr fun i _ => ?_⟩
  · rw [show lft v 0 = 0 by simp [lft]]; exact pick_zero _ _
  · simp [res, qt, sh, one]
theorem ref_zero (a : Option Addr) (cap : Nat) (v : List Int) (w : World) (h6 : v.length ≤ 6) (hr : Row w a v) :
    Calls Tryz.prog 51 #[.slice a v.length cap, .int .i64 0] w fun e w' => ∃ p l, e = .returned p ∧ Has w' w.heap.size p l ∧ Hid (Near v 0 l) ∧ Below w.heap.size w w' := by
  go_enter Tryz.func51, Tryz.ntmps51
  go_wp2_with (at_make; refine wpList_mk _ rfl _ rfl v.length rfl (by omega) ?_; intro w2 hv2 hb2)
  go_ret
  exact ⟨_, _, rfl, hv2, near_zero' v, hb2⟩

/-- One share: what a number gets for certain, and its rest. -/
def Share (v : List Int) (k M j : Nat) (X : Int) (D S Q T : Nat) : Prop := at0 v j = X ∧ X.natAbs = D ∧ IntKind.i64.wrap ((k : Int) * (D : Int)) = (S : Int) ∧ Int.tdiv (S : Int) (M : Int) = (Q : Int) ∧ Int.tmod (S : Int) (M : Int) = (T : Int) ∧ qt v k j = Q ∧ rt v k j = T ∧ D ≤ 4000 ∧ S ≤ 32000 ∧ Q ≤ 32000 ∧ T ≤ 24000
theorem share (v : List Int) (k M j : Nat) (hi : In 4000 v) (hk : k ≤ 8) (HM : loud v = M) (hM : 0 < M) (hM9 : M ≤ 24000) : ∃ X D S Q T, Share v k M j X D S Q T := by
  obtain ⟨i0, i1⟩ := hi.at (by omega) j
  have hD : (at0 v j).natAbs ≤ 4000 := by omega
  have hS : k * (at0 v j).natAbs ≤ 32000 := Nat.mul_le_mul hk hD
  refine ⟨at0 v j, (at0 v j).natAbs, k * (at0 v j).natAbs, k * (at0 v j).natAbs / M, k * (at0 v j).natAbs % M, rfl, rfl, ?_, rfl, rfl, by rw [← HM]; rfl, by rw [← HM]; rfl, hD, hS, Nat.le_trans (Nat.div_le_self _ _) hS, ?_⟩
  · rw [← Int.natCast_mul]; exact IntWalk.i64_in _ (by omega)
  · have := Nat.mod_lt (k * (at0 v j).natAbs) hM; omega

/-- The best so far. -/
def Found (r : Nat → Nat) (g : Nat → Bool) (t : Nat) (B : Int) : Prop := (B = -1 ∧ ∀ i, i < t → g i = true) ∨ ∃ b : Nat, B = b ∧ Best r g t b

theorem tot_mono (f : Nat → Nat) (j m : Nat) : tot f j ≤ tot f (j + m) := by
  induction m with
  | zero => exact Nat.le_refl _
  | succ m ih => rw [← Nat.add_assoc, tot]; omega
theorem put_one (q : Nat → Nat) {g : Nat → Bool} {n b Q : Nat} (hb : b < n) (hg : g b = false) (hQ : q b = Q) :
    (upto (fun i => ((q i + one (g i) : Nat) : Int)) n).set b ((Q + 1 : Nat) : Int) = upto (fun i => ((q i + one (with1 g b i) : Nat) : Int)) n ∧ at0 (upto (fun i => ((q i + one (g i) : Nat) : Int)) n) b = (Q : Int) := by
  refine ⟨?_, ?_⟩
  · rw [upto_set]
    refine upto_congr fun i _ => ?_
    rw [one_with hg]
    by_cases e : i = b
    · subst e; rw [if_pos rfl, if_pos rfl, hg, hQ]; simp [one]
    · rw [if_neg e, if_neg e]; simp
  · rw [upto_at _ hb, hg, hQ]; simp [one]
theorem with_if (g : Nat → Bool) (b i : Nat) : with1 g b i = if i = b then true else g i := by
  unfold with1
  by_cases e : i = b
  · simp [e]
  · simp [e]
/-- With the numbers' signs. -/
theorem res_neg {v : List Int} {k : Nat} {g : Nat → Bool} {i : Nat} (h : at0 v i < 0) : res v k g i = -((qt v k i + one (g i) : Nat) : Int) := by
  unfold res; rw [Int.sign_eq_neg_one_of_neg h]; omega
theorem res_pos {v : List Int} {k : Nat} {g : Nat → Bool} {i : Nat} (hk : k = 0 ∨ 0 < loud v) (hp : Pick (rt v k) v.length (lft v k) g) (hi : i < v.length) (h : 0 ≤ at0 v i) : res v k g i = ((qt v k i + one (g i) : Nat) : Int) := by
  have h1 := res_abs hk hp hi
  have h2 : 0 ≤ res v k g i := by
    unfold res
    exact Int.mul_nonneg (Int.sign_nonneg_iff.2 h) (by omega)
  omega

set_option maxRecDepth 100000 in
set_option maxHeartbeats 16000000 in
theorem ref_some (a : Option Addr) (cap : Nat) (v : List Int) (k M : Nat) (w : World) (h6 : v.length ≤ 6) (hi : In 4000 v) (hk : 0 < k) (hk8 : k ≤ 8) (HM : Hid (loud v = M)) (hM : 0 < M) (hM9 : M ≤ 24000) (hr : Row w a v) :
    Calls Tryz.prog 51 #[.slice a v.length cap, .int .i64 k] w fun e w' => ∃ p l, e = .returned p ∧ Has w' w.heap.size p l ∧ Hid (Near v k l) ∧ Below w.heap.size w w' := by
  have HKL : Hid (k = 0 ∨ 0 < loud v) := hide (Or.inr (by rw [unhide HM]; exact hM))
  have hle : Hid (tot (qt v k) v.length ≤ k) := hide (qt_le k (unhide HKL))
  have HSUM := hide (rests v k (unhide HKL)).2
  have hL := lft_le k (unhide HKL)
  have hld := hide (fun W hr => refLoudB a cap v W (by omega) hi hr)
  rw [unhide HM] at hld
  have HSH : Hid (∀ j, ∃ X D S Q T, Share v k M j X D S Q T) := hide (fun j => share v k M j hi hk8 (unhide HM) hM hM9)
  have hMz : ((M : Int) == 0) = false := by simp; omega
  have hk0 : ((k : Int) == 0) = false := by simp; omega
  obtain ⟨N, hN⟩ : ∃ N, v.length = N := ⟨_, rfl⟩
  have HN := hide hN
  rw [hN] at hle hL hld h6 HSUM ⊢
  obtain ⟨L, hLd⟩ : ∃ L, lft v k = L := ⟨_, rfl⟩
  rw [hLd] at hL HSUM
  have HL := hide hLd
  clear hN hLd hi
  go_enter Tryz.func51, Tryz.ntmps51
  go_wp2_with (first
    | (at_make; refine wpList_mk _ rfl _ rfl N rfl (by omega) ?_; intro w1 hv1 hb1)
    | fail)
  have hr1 := hr.below hb1
  refine (unhide hld w1 hr1).mono ?_
  rintro e w2 ⟨rfl, rfl⟩
  clear hld
  go_wp2
  go_loopw [7, 8] (fun t i wr => ∃ j t' : Nat, j ≤ N ∧ i = .int .i64 j ∧ t = .int .i64 t' ∧ Hid (t' + tot (qt v k) j = k) ∧ t' ≤ 8 ∧ Has wr w.heap.size (.slice (some ⟨w.heap.size, 0, none⟩) N N) (mid (fun i => (qt v k i : Int)) (fun _ => 0) N j) ∧ Below w.heap.size w wr) (fun _ i _ => N - (intOf i).toNat)
  case atStart => exact ⟨0, k, Nat.zero_le _, rfl, rfl, rfl, hk8, by rw [mid_zero]; exact hv1, hb1⟩
  case round =>
    obtain ⟨j, t, hj, rfl, rfl, HT, ht, hs, hB⟩ := hrel
    clear hv1 hb1 hr1
    by_cases hlt : j < N
    · obtain ⟨b, off, rfl, hb, hc⟩ := Mid.row_cell (hr.below hB) (by rw [unhide HN]; omega)
      have c1 := hc j (by rw [unhide HN]; exact hlt)
      have c2 := hs.get (j := j) (by rw [mid_length]; exact hlt)
      rw [mid_at _ _ hlt] at c2
      have f2 := hs.frozen j
      obtain ⟨X, D, S, Q, T, z1, z2, z3, z4, z5, z6, z7, z8, z9, z10, z11⟩ := unhide HSH j
      rw [z1] at c1
      have hf := hide (fun W => refFar X W (by omega) (by omega))
      rw [z2] at hf
      have h1 : tot (qt v k) (j + 1) = tot (qt v k) j + qt v k j := rfl
      have h2 := tot_mono (qt v k) (j + 1) (N - (j + 1))
      rw [show j + 1 + (N - (j + 1)) = N by omega] at h2
      have h3 := unhide hle
      have h4 := unhide HT
      rw [z6] at h1
      obtain ⟨t2, h5⟩ : ∃ t2, t = t2 + Q := ⟨t - Q, by omega⟩
      have HS2 : Hid (t2 + tot (qt v k) (j + 1) = k) := hide (by omega)
      have hsub : (t : Int) - (Q : Int) = (t2 : Int) := by omega
      have ht2 : t2 ≤ 8 := by omega
      obtain ⟨m1, m2, m3⟩ := Mid.put_mid hs hlt (show (qt v k j : Int) = (Q : Int) by rw [z6]) 0
      have M1 := hide m1
      have M3 := hide (m3 _ hB (Nat.le_refl _))
      clear z1 z2 z5 z6 z7 h1 h2 h3 h4 h5 m1 m2 m3 hc
      go_wp2_with fail
      refine (unhide hf _).mono ?_
      rintro e w3 ⟨rfl, rfl⟩
      go_wp2
      go_roundw
      case rel => exact ⟨j + 1, t2, by omega, by go_num, by go_num, HS2, ht2, unhide M1, unhide M3⟩
      case measure => simp [intOf]; omega
    · obtain rfl : j = N := by omega
      have etL : t = L := by have h1 := unhide HT; have h2 := unhide HSUM; omega
      subst etL
      rw [mid_all] at hs
      have hs2 : Has wr w.heap.size (.slice (some ⟨w.heap.size, 0, none⟩) j j) (upto (fun i => ((qt v k i + one ((fun _ => false) i) : Nat) : Int)) j) := by simpa [one] using hs
      clear hs HT HSUM hle
      go_wp2_with (at_make; refine wpList_mkb _ rfl _ rfl j rfl (by omega) ?_; intro w4 hg4 hb4)
      have hs4 := hs2.below hb4
      have hB4 := hB.trans (hb4.mono hB.size)
      have hne : w.heap.size < wr.heap.size := (hs2.lt w.heap.size rfl).2
      have hg5 := hg4.mono hB.size
      obtain ⟨G, hG⟩ : ∃ G, wr.heap.size = G := ⟨_, rfl⟩
      rw [hG] at hg5 hne ⊢
      have n1 : ¬ (w.heap.size = G) := by omega
      have n2 : ¬ (G = w.heap.size) := by omega
      have hGb : w.heap.size ≤ G := by omega
      clear hG hg4 hb4 hB hs2
      have HP0 := hide (pick_zero (rt v k) j)
      go_loopw [7] (fun x wr => ∃ (t' c : Nat) (g : Nat → Bool), x = .int .i64 t' ∧ Hid (c + t' = t) ∧ t' ≤ 8 ∧ Hid (Pick (rt v k) j c g) ∧ Has wr w.heap.size (.slice (some ⟨w.heap.size, 0, none⟩) j j) (upto (fun i => ((qt v k i + one (g i) : Nat) : Int)) j) ∧ HasB wr w.heap.size (.slice (some ⟨G, 0, none⟩) j j) j g ∧ Below w.heap.size w wr) (fun x _ => (intOf x).toNat)
      case atStart => exact ⟨t, 0, fun _ => false, rfl, hide (Nat.zero_add _), ht, HP0, hs4, hg5, hB4⟩
      case round =>
        obtain ⟨x, c, g, rfl, HC, hx8, HP, ho, hg, hB⟩ := hrel
        clear HP0 hs4 hg5 hB4
        by_cases hx : 0 < x
        · have HF0 : Hid (Found (rt v k) g 0 (-1)) := hide (Or.inl ⟨rfl, fun i hi => absurd hi (Nat.not_lt_zero _)⟩)
          go_wp2
          go_loopw [10, 11] (fun b i wr2 => ∃ (y : Nat) (B : Int), y ≤ j ∧ i = .int .i64 y ∧ b = .int .i64 B ∧ Hid (Found (rt v k) g y B) ∧ Has wr2 w.heap.size (.slice (some ⟨w.heap.size, 0, none⟩) j j) (upto (fun i => ((qt v k i + one (g i) : Nat) : Int)) j) ∧ HasB wr2 w.heap.size (.slice (some ⟨G, 0, none⟩) j j) j g ∧ Below w.heap.size w wr2) (fun _ i _ => j - (intOf i).toNat)
          case atStart => exact ⟨0, -1, Nat.zero_le _, rfl, rfl, HF0, ho, hg, hB⟩
          case round =>
            obtain ⟨y, B, hy, rfl, rfl, HF, ho2, hg2, hB2⟩ := hrel
            clear HF0 ho hg hB
            by_cases hlt : y < j
            · have cg := hg2.get (j := y) hlt
              obtain ⟨b, off, rfl, hb, hcv⟩ := Mid.row_cell (hr.below hB2) (by rw [unhide HN]; omega)
              have c1 := hcv y (by rw [unhide HN]; exact hlt)
              obtain ⟨X, D, S, Q, T, z1, z2, z3, z4, z5, z6, z7, z8, z9, z10, z11⟩ := unhide HSH y
              rw [z1] at c1
              cases hgy : g y with
              | true =>
                rw [hgy] at cg
                have HF2 : Hid (Found (rt v k) g (y + 1) B) := hide (by
                  rcases unhide HF with ⟨e, ha⟩ | ⟨b, e, ha⟩
                  · exact Or.inl ⟨e, fun i hi => by
                      rcases Nat.lt_or_ge i y with h | h
                      · exact ha i h
                      · rw [show i = y by omega]; exact hgy⟩
                  · exact Or.inr ⟨b, e, ha.old (Or.inl hgy)⟩)
                clear HF hgy hcv z1 z2 z3 z4 z5 z6 z7 c1
                go_wp2
                go_quiet (fail)
                go_wp2
                go_roundw
                case rel => exact ⟨y + 1, B, by omega, by go_num, rfl, HF2, ho2, hg2, below_drewN hB2 _⟩
                case measure => simp [intOf]; omega
              | false =>
                rw [hgy] at cg
                rcases unhide HF with ⟨rfl, ha⟩ | ⟨b2, rfl, ha⟩
                · have HF2 : Hid (Found (rt v k) g (y + 1) (y : Int)) := hide (Or.inr ⟨y, rfl, best_first ha hgy⟩)
                  clear HF hgy hcv z1 z2 z3 z4 z5 z6 z7 c1 ha
                  go_wp2
                  go_quiet (fail)
                  go_wp2
                  go_roundw
                  case rel => exact ⟨y + 1, (y : Int), by omega, by go_num, rfl, HF2, ho2, hg2, below_drewN hB2 _⟩
                  case measure => simp [intOf]; omega
                · have hby := ha.1
                  have c2 := hcv b2 (by rw [unhide HN]; omega)
                  obtain ⟨X2, D2, S2, Q2, T2, y1, y2, y3, y4, y5, y6, y7, y8, y9, y10, y11⟩ := unhide HSH b2
                  rw [y1] at c2
                  have hf : Hid (∀ W, Calls Tryz.prog 60 #[.int .i64 X] W fun e w' => e = .returned (.int .i64 (D : Int)) ∧ w' = W) := hide (fun W => by
                    have := refFar X W (by omega) (by omega)
                    rw [z2] at this
                    exact this.mono fun e w' ⟨h1, h2⟩ => ⟨h1, h2.symm⟩)
                  have hf2 : Hid (∀ W, Calls Tryz.prog 60 #[.int .i64 X2] W fun e w' => e = .returned (.int .i64 (D2 : Int)) ∧ w' = W) := hide (fun W => by
                    have := refFar X2 W (by omega) (by omega)
                    rw [y2] at this
                    exact this.mono fun e w' ⟨h1, h2⟩ => ⟨h1, h2.symm⟩)
                  have b0 : (0 : Int) ≤ (b2 : Int) := by omega
                  have b1 : decide ((b2 : Int) < 0) = false := by simp
                  have b3 : (b2 : Int) < (j : Int) := by omega
                  have b4 : (y : Int) < (j : Int) := by omega
                  by_cases hrr : T2 < T
                  · have HF2 : Hid (Found (rt v k) g (y + 1) (y : Int)) := hide (Or.inr ⟨y, rfl, ha.new hgy (by rw [z7, y7]; exact hrr)⟩)
                    have hd : (T2 : Int) < (T : Int) := by omega
                    clear HF hgy hcv z1 z2 z4 z6 z7 y1 y2 y4 y6 y7 ha
                    go_wp2
                    go_quiet ((go_at_call 60; (first | exact Calls.quiet_of_same (unhide hf _) | exact Calls.quiet_of_same (unhide hf2 _))))
                    go_wp2
                    go_roundw
                    case rel => exact ⟨y + 1, (y : Int), by omega, by go_num, rfl, HF2, ho2, hg2, below_drewN hB2 _⟩
                    case measure => simp [intOf]; omega
                  · have HF2 : Hid (Found (rt v k) g (y + 1) (b2 : Int)) := hide (Or.inr ⟨b2, rfl, ha.old (Or.inr (by rw [z7, y7]; omega))⟩)
                    have hd : decide ((T2 : Int) < (T : Int)) = false := by simp; omega
                    clear HF hgy hcv z1 z2 z4 z6 z7 y1 y2 y4 y6 y7 ha
                    go_wp2
                    go_quiet ((go_at_call 60; (first | exact Calls.quiet_of_same (unhide hf _) | exact Calls.quiet_of_same (unhide hf2 _))))
                    go_wp2
                    go_roundw
                    case rel => exact ⟨y + 1, (b2 : Int), by omega, by go_num, rfl, HF2, ho2, hg2, below_drewN hB2 _⟩
                    case measure => simp [intOf]; omega
            · obtain rfl : y = j := by omega
              rcases unhide HF with ⟨-, ha⟩ | ⟨b2, rfl, ha⟩
              · exfalso
                have h1 := (unhide HP).1
                obtain ⟨i, hi, hgi⟩ := cnt_free (g := g) (n := y) (by have := unhide HC; omega)
                rw [ha i hi] at hgi
                cases hgi
              · have HP2 := hide ((unhide HP).more ha)
                obtain ⟨hb2, hgb, -⟩ := ha
                obtain ⟨Q, hQ⟩ : ∃ Q, qt v k b2 = Q := ⟨_, rfl⟩
                have hQ8 : Q ≤ 8 := by
                  have h1 := qt_le k (unhide HKL)
                  have h2 := tot_one (f := qt v k) (n := v.length) (i := b2) (by rw [unhide HN]; exact hb2)
                  omega
                obtain ⟨p1, p2⟩ := put_one (qt v k) hb2 hgb hQ
                have c2 := ho2.get (j := b2) (by rw [upto_length]; exact hb2)
                rw [p2] at c2
                have f2 := ho2.frozen b2
                have c3 := hg2.get (j := b2) hb2
                have f3 := hg2.frozen b2
                obtain ⟨m1, m2⟩ := hg2.put b2 true (g' := with1 g b2) hb2 (fun i _ => with_if g b2 i)
                have m3 := ho2.kept m2 (Or.inr (by intro e; exact n1 (by injection e)))
                obtain ⟨m4, m5⟩ := m3.put b2 ((Q + 1 : Nat) : Int)
                rw [p1] at m4
                have m6 := m1.kept m5 (Or.inr (by intro e; exact n2 (by injection e)))
                have m7 := Below.setCell (p := ⟨w.heap.size, b2, none⟩) (Below.setCell (p := ⟨G, b2, none⟩) hB2 hGb (.bool true)) (Nat.le_refl _) (.int .i64 ((Q + 1 : Nat) : Int))
                obtain ⟨x2, rfl⟩ : ∃ x2, x = x2 + 1 := ⟨x - 1, by omega⟩
                have HC2 : Hid (c + 1 + x2 = t) := hide (by have := unhide HC; omega)
                obtain ⟨Q1, hQ1⟩ : ∃ Q1, Q + 1 = Q1 := ⟨_, rfl⟩
                rw [hQ1] at m4 m5 m6 m7
                have eQ : IntKind.i64.wrap ((Q : Int) + 1) = (Q1 : Int) := by rw [← hQ1]; exact IntWalk.i64_in _ (by omega)
                have b3 : (b2 : Int) < (y : Int) := by omega
                have M4 := hide m4
                have M6 := hide m6
                have M7 := hide m7
                clear m1 m2 m3 m4 m5 m6 m7 p1 p2 hQ hQ1 HF HP HC ho2 hg2 hgb
                go_wp2
                go_roundw
                case rel => exact ⟨x2, c + 1, with1 g b2, by go_num, HC2, by omega, HP2, unhide M4, unhide M6, unhide M7⟩
                case measure => simp [intOf]
        · obtain rfl : x = 0 := by omega
          have HP2 : Hid (Pick (rt v k) v.length (lft v k) g) := hide (by
            have h1 := unhide HP
            rw [show c = t from unhide HC] at h1
            rw [unhide HN, unhide HL]; exact h1)
          have hom : Has wr w.heap.size (.slice (some ⟨w.heap.size, 0, none⟩) j j) (mid (res v k g) (fun i => ((qt v k i + one (g i) : Nat) : Int)) j 0) := by rw [mid_zero]; exact ho
          clear HP HC ho hg
          go_wp2
          go_loopw [12] (fun i wr => ∃ y : Nat, y ≤ j ∧ i = .int .i64 y ∧ Has wr w.heap.size (.slice (some ⟨w.heap.size, 0, none⟩) j j) (mid (res v k g) (fun i => ((qt v k i + one (g i) : Nat) : Int)) j y) ∧ Below w.heap.size w wr) (fun i _ => j - (intOf i).toNat)
          case atStart => exact ⟨0, Nat.zero_le _, rfl, hom, hB⟩
          case round =>
            obtain ⟨y, hy, rfl, hoy, hBy⟩ := hrel
            clear hom hB
            by_cases hlt : y < j
            · obtain ⟨b, off, rfl, hb, hcv⟩ := Mid.row_cell (hr.below hBy) (by rw [unhide HN]; omega)
              have c1 := hcv y (by rw [unhide HN]; exact hlt)
              have c2 := hoy.get (j := y) (by rw [mid_length]; exact hlt)
              rw [mid_at _ _ hlt] at c2
              have f2 := hoy.frozen y
              have hQ9 : qt v k y + one (g y) ≤ 9 := by
                have h1 := qt_le k (unhide HKL)
                have h2 := tot_one (f := qt v k) (n := v.length) (i := y) (by rw [unhide HN]; exact hlt)
                have h3 : one (g y) ≤ 1 := by unfold one; split <;> omega
                omega
              have HRN : Hid (at0 v y < 0 → res v k g y = -((qt v k y + one (g y) : Nat) : Int)) := hide (fun h => res_neg h)
              have HRP : Hid (0 ≤ at0 v y → res v k g y = ((qt v k y + one (g y) : Nat) : Int)) := hide (fun h => res_pos (unhide HKL) (unhide HP2) (by rw [unhide HN]; exact hlt) h)
              have HST := hide (mid_set (res v k g) (fun i => ((qt v k i + one (g i) : Nat) : Int)) hlt)
              have HME : Hid (at0 (mid (res v k g) (fun i => ((qt v k i + one (g i) : Nat) : Int)) j y) y = ((qt v k y + one (g y) : Nat) : Int)) := hide (mid_at _ _ hlt)
              obtain ⟨X, hX⟩ : ∃ X, at0 v y = X := ⟨_, rfl⟩
              rw [hX] at c1 HRN HRP
              by_cases hneg : X < 0
              · have e1 := unhide HRN hneg
                obtain ⟨Q, hQ⟩ : ∃ Q, qt v k y + one (g y) = Q := ⟨_, rfl⟩
                rw [hQ] at c2 hQ9 e1
                obtain ⟨m1, m2, m3⟩ := Mid.put_mid hoy hlt e1 0
                have M1 := hide m1
                have M3 := hide (m3 _ hBy (Nat.le_refl _))
                clear e1 m1 m2 m3 hQ hX hcv HRN HRP HST HME
                go_wp2
                go_roundw
                case rel => exact ⟨y + 1, by omega, by go_num, unhide M1, unhide M3⟩
                case measure => simp [intOf]; omega
              · have e1 := unhide HRP (by omega)
                have M1 : Hid (mid (res v k g) (fun i => ((qt v k i + one (g i) : Nat) : Int)) j (y + 1) = mid (res v k g) (fun i => ((qt v k i + one (g i) : Nat) : Int)) j y) := hide (by
                  unfold mid
                  refine upto_congr fun i _ => ?_
                  by_cases h1 : i < y
                  · rw [if_pos (by omega), if_pos h1]
                  · rw [if_neg h1]
                    by_cases h2 : i = y
                    · subst h2; rw [if_pos (by omega), e1]
                    · rw [if_neg (by omega)])
                clear e1 hX hcv HRN HRP HST HME c2
                go_wp2
                go_roundw
                case rel => exact ⟨y + 1, by omega, by go_num, by rw [unhide M1]; exact hoy, hBy⟩
                case measure => simp [intOf]; omega
            · obtain rfl : y = j := by omega
              rw [mid_all] at hoy
              have HNR : Hid (Near v k (upto (res v k g) y)) := hide ⟨g, unhide HP2, by rw [unhide HN]⟩
              go_wp2
              go_ret
              exact ⟨_, _, rfl, hoy, HNR, hBy⟩

theorem ref_okB (a : Option Addr) (cap : Nat) (v : List Int) (k : Nat) (w : World) (h6 : v.length ≤ 6) (hi : In 4000 v) (hk8 : k ≤ 8) (HKL : Hid (k = 0 ∨ 0 < loud v)) (hr : Row w a v) :
    Calls Tryz.prog 51 #[.slice a v.length cap, .int .i64 k] w fun e w' => ∃ p l, e = .returned p ∧ Has w' w.heap.size p l ∧ Hid (Near v k l) ∧ Below w.heap.size w w' := by
  rcases Nat.eq_zero_or_pos k with e | e
  · subst e
    exact ref_zero a cap v w h6 hr
  · have h1 := loud_in (b := 4000) hi
    exact ref_some a cap v k (loud v) w h6 hi e hk8 rfl (by have := unhide HKL; omega) (by omega) hr

theorem ref_ok (a : Option Addr) (cap : Nat) (v : List Int) (k : Nat) (w : World) (h6 : v.length ≤ 6) (hi : In 1000 v) (hk8 : k ≤ 8) (HKL : Hid (k = 0 ∨ 0 < loud v)) (hr : Row w a v) :
    Calls Tryz.prog 51 #[.slice a v.length cap, .int .i64 k] w fun e w' => ∃ p l, e = .returned p ∧ Has w' w.heap.size p l ∧ Hid (Near v k l) ∧ Below w.heap.size w w' := ref_okB a cap v k w h6 (hi.mono (by omega)) hk8 HKL hr

end Go.Proofs.YtkkhgdkgbhdfaakGreatDoor.Nea
