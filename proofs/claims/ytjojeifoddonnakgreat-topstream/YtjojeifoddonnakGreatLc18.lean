/-
  Package near: greatestFirst, and what of the library it asks (cmp.Compare, slices.SortStableFunc at a few numbers): by their contracts.
-/
import Derived.Test.YtjojeifoddonnakGreatLc07
import Derived.Test.YtjojeifoddonnakGreatLc00
import Derived.Shelf.RegionOpen
namespace Go.Proofs.YtjojeifoddonnakGreat.Nea
open Go.RowKit
open Go.Proofs.YtjojeifoddonnakGreat.Tre Go.Proofs.YtjojeifoddonnakGreat.Lap Go.Proofs.YtjojeifoddonnakGreat.Pls Go.Proofs.YtjojeifoddonnakGreat.Mid
set_option linter.unusedVariables false

/-- cmp.Compare. -/
def cf (x y : Int) : Int := if x < y then -1 else if y < x then 1 else 0
theorem cf_sign (n : Int) : cf n 0 = n.sign := by
  unfold cf
  rcases Int.lt_trichotomy n 0 with h | h | h
  · rw [if_pos h, Int.sign_eq_neg_one_of_neg h]
  · subst h; rfl
  · rw [if_neg (by omega), if_pos h, Int.sign_eq_one_of_pos h]

theorem isNaN (x : Int) (w : World) : Calls Tryz.prog 89 #[.int .i64 x] w fun e w' => e = .returned (.bool false) ∧ w' = w := by
  have hx : (x == x) = true := by simp
  go_enter Tryz.func89, Tryz.ntmps89
  go_wp2
  go_ret
  exact ⟨by simp, rfl⟩

theorem compare (x y : Int) (w : World) : Calls Tryz.prog 56 #[.int .i64 x, .int .i64 y] w fun e w' => e = .returned (.int .i64 (cf x y)) ∧ w' = w := by
  unfold cf
  rcases Int.lt_trichotomy x y with h | h | h
  · rw [if_pos h]
    go_enter Tryz.func56, Tryz.ntmps56
    go_wp2_with fail
    refine (isNaN x w).mono ?_
    rintro e w' ⟨rfl, rfl⟩
    go_wp2_with fail
    refine (isNaN y _).mono ?_
    rintro e w' ⟨rfl, rfl⟩
    go_wp2
    go_ret
    exact ⟨rfl, rfl⟩
  · subst h
    have h1 : ¬ x < x := by omega
    rw [if_neg h1, if_neg h1]
    go_enter Tryz.func56, Tryz.ntmps56
    go_wp2_with fail
    refine (isNaN x w).mono ?_
    rintro e w' ⟨rfl, rfl⟩
    go_wp2_with fail
    refine (isNaN x _).mono ?_
    rintro e w' ⟨rfl, rfl⟩
    go_wp2
    go_ret
    exact ⟨rfl, rfl⟩
  · have h1 : ¬ x < y := by omega
    rw [if_neg h1, if_pos h]
    go_enter Tryz.func56, Tryz.ntmps56
    go_wp2_with fail
    refine (isNaN x w).mono ?_
    rintro e w' ⟨rfl, rfl⟩
    go_wp2_with fail
    refine (isNaN y _).mono ?_
    rintro e w' ⟨rfl, rfl⟩
    go_wp2
    go_ret
    exact ⟨rfl, rfl⟩

/-- The function that greatestFirst hands to the sort: its rests lie in a box. -/
def Boxed (W : World) (B : Nat) (r : Nat → Nat) (n : Nat) : Prop := ∃ g off c, W.cell? ⟨B, 0, none⟩ = some (.slice (some ⟨g, off, none⟩) n c) ∧ B < W.heap.size ∧ g < W.heap.size ∧ ∀ i, i < n → W.cell? ⟨g, off + i, none⟩ = some (.int .i64 (r i))
theorem Boxed.below {W w : World} {B : Nat} {r : Nat → Nat} {n : Nat} (h : Boxed W B r n) (hb : Below W.heap.size W w) : Boxed w B r n := by
  obtain ⟨g, off, c, h1, h2, h3, h4⟩ := h
  exact ⟨g, off, c, (hb.cell (p := ⟨B, 0, none⟩) h2).trans h1, Nat.lt_of_lt_of_le h2 hb.size, Nat.lt_of_lt_of_le h3 hb.size, fun i hi => (hb.cell (p := ⟨g, off + i, none⟩) h3).trans (h4 i hi)⟩

set_option maxHeartbeats 2000000 in
theorem order (x y : Nat) (B : Nat) (r : Nat → Nat) (n : Nat) (w : World) (hn : n ≤ 6) (hx : x < n) (hy : y < n) (hbx : Boxed w B r n) :
    Calls Tryz.prog 88 #[.int .i64 x, .int .i64 y, .pointer (some ⟨B, 0, none⟩)] w fun e w' => e = .returned (.int .i64 (cf (r y) (r x))) ∧ ∃ q, w' = w.drewN q := by
  obtain ⟨g, off, c, h1, h2, h3, h4⟩ := hbx
  have c1 := h4 x hx
  have c2 := h4 y hy
  obtain ⟨X, hX⟩ : ∃ X, r x = X := ⟨_, rfl⟩
  obtain ⟨Y, hY⟩ : ∃ Y, r y = Y := ⟨_, rfl⟩
  rw [hX] at c1 ⊢
  rw [hY] at c2 ⊢
  have hc := hide (compare (Y : Int) (X : Int))
  obtain ⟨C, hC⟩ : ∃ C, cf (Y : Int) (X : Int) = C := ⟨_, rfl⟩
  rw [hC] at hc ⊢
  clear h4 hX hY hC
  go_enter Tryz.func88, Tryz.ntmps88
  go_wp2
  go_quiet ((go_at_call 56; exact Calls.quiet_of_same (unhide hc _)))
  go_wp2
  go_ret
  exact ⟨rfl, _, rfl⟩

end Go.Proofs.YtjojeifoddonnakGreat.Nea

/-
  slices.insertionSortCmpFunc at a few places, by greatestFirst's function: by its contract.
-/
namespace Go.Proofs.YtjojeifoddonnakGreat.Nea
open Go.RowKit
open Go.Proofs.YtjojeifoddonnakGreat.Tre Go.Proofs.YtjojeifoddonnakGreat.Lap Go.Proofs.YtjojeifoddonnakGreat.Pls Go.Proofs.YtjojeifoddonnakGreat.Mid
set_option linter.unusedVariables false

set_option maxRecDepth 100000 in
set_option maxHeartbeats 8000000 in
theorem insertion (P c n B : Nat) (r : Nat → Nat) (W w : World) (hn : n ≤ 6) (h0 : 0 < n) (hbx : Boxed W B r n) (hB0 : Below W.heap.size W w) (hv : Has w W.heap.size (.slice (some ⟨P, 0, none⟩) n c) (upto (fun t => (t : Int)) n)) :
    Calls Tryz.prog 116 #[.slice (some ⟨P, 0, none⟩) n c, .int .i64 0, .int .i64 n, .func (.func 88) #[] #[.pointer (some ⟨B, 0, none⟩)]] w
      fun e w' => e = .returned (.tuple #[]) ∧ ∃ s : Nat → Nat, Has w' W.heap.size (.slice (some ⟨P, 0, none⟩) n c) (upto (fun t => (s t : Int)) n) ∧ Hid (Ins r s n n) ∧ Below W.heap.size W w' := by
  have hP : W.heap.size ≤ P := (hv.lt P rfl).1
  have HBX := hide hbx
  have HP := hide hP
  clear hbx hP
  go_enter Tryz.func116, Tryz.ntmps116
  go_wp2
  go_loopw [8] (fun vi wr => ∃ (i : Nat) (s : Nat → Nat), vi = .int .i64 i ∧ 1 ≤ i ∧ i ≤ n ∧ Has wr W.heap.size (.slice (some ⟨P, 0, none⟩) n c) (upto (fun t => (s t : Int)) n) ∧ Hid (Ins r s n i) ∧ Below W.heap.size W wr) (fun i _ => n - (intOf i).toNat)
  case atStart => exact ⟨1, fun t => t, by go_num, Nat.le_refl _, h0, hv, ins_start r n, hB0⟩
  case round =>
    obtain ⟨i, s, rfl, hi1, hin, hs, HI, hB⟩ := hrel
    clear hv hB0
    by_cases hlt : i < n
    · have HJ0 := hide ((unhide HI).go hlt)
      clear HI
      go_wp2
      go_loopw [9] (fun vj wr2 => ∃ (j : Nat) (s2 : Nat → Nat), vj = .int .i64 j ∧ j ≤ i ∧ Has wr2 W.heap.size (.slice (some ⟨P, 0, none⟩) n c) (upto (fun t => (s2 t : Int)) n) ∧ Hid (InsJ r s2 n i j) ∧ Below W.heap.size W wr2) (fun j _ => (intOf j).toNat)
      case atStart => exact ⟨i, s, rfl, Nat.le_refl _, hs, HJ0, hB⟩
      case round =>
        obtain ⟨j, s2, rfl, hji, hs2, HJ, hB2⟩ := hrel
        clear hs HJ0 hB
        by_cases hj0 : 0 < j
        · obtain ⟨jp, rfl⟩ : ∃ jp, j = jp + 1 := ⟨j - 1, by omega⟩
          have c1 := hs2.get (j := jp + 1) (by rw [upto_length]; omega)
          have c2 := hs2.get (j := jp) (by rw [upto_length]; omega)
          rw [upto_at _ (by omega)] at c1 c2
          have f1 := hs2.frozen (jp + 1)
          have f2 := hs2.frozen jp
          obtain ⟨q1, q2, q3⟩ := (unhide HJ).2.2.1
          have b1 := q1 (jp + 1) (by omega)
          have b2 := q1 jp (by omega)
          have hord : Hid (∀ x, Calls Tryz.prog 88 #[.int .i64 (s2 (jp + 1)), .int .i64 (s2 jp), .pointer (some ⟨B, 0, none⟩)] (wr.drewN x) fun e w' => e = .returned (.int .i64 (cf (r (s2 jp)) (r (s2 (jp + 1))))) ∧ ∃ q, w' = (wr.drewN x).drewN q) :=
            hide (fun x => order (s2 (jp + 1)) (s2 jp) B r n (wr.drewN x) hn b1 b2 ((unhide HBX).below (below_drewN hB2 x)))
          have HSW : Hid (((upto (fun t => (s2 t : Int)) n).set (jp + 1) (s2 jp)).set jp (s2 (jp + 1)) = upto (fun t => (swp s2 jp t : Int)) n) := hide (swp_set s2 rfl rfl)
          have HST := hide (fun h => (unhide HJ).step (j := jp) h)
          have HSP := hide (fun h => (unhide HJ).stop h)
          rw [Nat.add_sub_cancel] at HSP
          obtain ⟨Y, hY⟩ : ∃ Y, s2 jp = Y := ⟨_, rfl⟩
          obtain ⟨X, hX⟩ : ∃ X, s2 (jp + 1) = X := ⟨_, rfl⟩
          rw [hY, hX] at hord HSW HST HSP
          rw [hX] at c1 b1
          rw [hY] at c2 b2
          have hjz : (0 : Int) < (jp : Int) + 1 := by omega
          have hj6 : jp + 1 < n := by omega
          have jz : (jp : Int) + 1 < (n : Int) := by omega
          have jz1 : (jp : Int) < (n : Int) := by omega
          clear q1 q2 q3 hY hX HJ
          by_cases hr : r Y < r X
          · have hcf : cf (r Y) (r X) = -1 := by unfold cf; rw [if_pos (by omega)]
            rw [hcf] at hord
            have HJ2 := hide (unhide HST hr)
            clear HST HSP hcf hr
            go_wp2
            go_quiet ((go_at_call 88; exact Calls.quiet_of (unhide hord _)))
            go_wp2
            go_region
            have m1 := Has.put (show Has (wr.drewN (nq + 1)) _ _ _ from hs2) (jp + 1) (Y : Int)
            have m2 := m1.1.put jp (X : Int)
            rw [unhide HSW] at m2
            have hB3 := Below.setCell (p := ⟨P, jp, none⟩) (Below.setCell (p := ⟨P, jp + 1, none⟩) (below_drewN hB2 (nq + 1)) (unhide HP) (.int .i64 (Y : Int))) (unhide HP) (.int .i64 (X : Int))
            clear m1 hs2 hB2
            go_wp2
            go_roundw
            case rel => exact ⟨jp, swp s2 jp, by go_num, by omega, m2.1, HJ2, hB3⟩
            case measure => simp [intOf]
          · have hcf : decide (cf (r Y) (r X) < 0) = false := by unfold cf; rw [if_neg (by omega)]; split <;> simp
            obtain ⟨C, hC⟩ : ∃ C, cf (r Y) (r X) = C := ⟨_, rfl⟩
            rw [hC] at hcf hord
            have HI2 := hide (unhide HSP (Or.inr (by omega)))
            clear HST HSP hr hC
            go_wp2
            go_quiet ((go_at_call 88; exact Calls.quiet_of (unhide hord _)))
            go_wp2
            go_roundw
            case rel => exact ⟨i + 1, s2, by go_num, by omega, by omega, hs2, HI2, below_drewN hB2 _⟩
            case measure => simp [intOf]; omega
        · have hjz : decide ((0 : Int) < (j : Int)) = false := by simp; omega
          have HI2 := hide ((unhide HJ).stop (Or.inl (by omega)))
          clear HJ
          go_wp2
          go_quiet (fail)
          go_wp2
          go_roundw
          case rel => exact ⟨i + 1, s2, by go_num, by omega, by omega, hs2, HI2, below_drewN hB2 _⟩
          case measure => simp [intOf]; omega
    · obtain rfl : i = n := by omega
      go_wp2
      go_end0
      exact ⟨rfl, s, hs, HI, hB⟩

end Go.Proofs.YtjojeifoddonnakGreat.Nea

/-
  slices.SortStableFunc at a few places, near.greatestFirst: by their contracts.
-/
namespace Go.Proofs.YtjojeifoddonnakGreat.Nea
open Go.RowKit
open Go.Proofs.YtjojeifoddonnakGreat.Tre Go.Proofs.YtjojeifoddonnakGreat.Lap Go.Proofs.YtjojeifoddonnakGreat.Pls Go.Proofs.YtjojeifoddonnakGreat.Mid
set_option linter.unusedVariables false

set_option maxRecDepth 100000 in
set_option maxHeartbeats 4000000 in
theorem stable (P c n B : Nat) (r : Nat → Nat) (W w : World) (hn : n ≤ 6) (h0 : 0 < n) (hbx : Hid (Boxed W B r n)) (hB0 : Below W.heap.size W w) (hv : Has w W.heap.size (.slice (some ⟨P, 0, none⟩) n c) (upto (fun t => (t : Int)) n)) :
    Calls Tryz.prog 108 #[.slice (some ⟨P, 0, none⟩) n c, .int .i64 n, .func (.func 88) #[] #[.pointer (some ⟨B, 0, none⟩)]] w
      fun e w' => e = .returned (.tuple #[]) ∧ ∃ s : Nat → Nat, Has w' W.heap.size (.slice (some ⟨P, 0, none⟩) n c) (upto (fun t => (s t : Int)) n) ∧ Hid (Ins r s n n) ∧ Below W.heap.size W w' := by
  have h20 : ¬ (20 : Int) ≤ (n : Int) := by omega
  have h20' : ¬ (20 : Int) < (n : Int) := by omega
  go_enter Tryz.func108, Tryz.ntmps108
  go_wp2
  go_loopw [7, 8] (fun a b wr => a = .int .i64 0 ∧ b = .int .i64 20 ∧ wr = w) (fun _ _ _ => 0)
  case atStart => exact ⟨rfl, rfl, rfl⟩
  case round =>
    obtain ⟨rfl, rfl, rfl⟩ := hrel
    go_wp2_with fail
    refine (insertion P c n B r W _ hn h0 (unhide hbx) hB0 hv).mono ?_
    rintro e w1 ⟨rfl, s, hs, HI, hB⟩
    go_wp2
    go_loopw [6] (fun b wr => b = .int .i64 20 ∧ wr = w1) (fun _ _ => 0)
    case atStart => exact ⟨rfl, rfl⟩
    case round =>
      obtain ⟨rfl, rfl⟩ := hrel
      go_wp2
      go_end0
      exact ⟨rfl, s, hs, HI, hB⟩

theorem sortStable (P c n B : Nat) (r : Nat → Nat) (W w : World) (hn : n ≤ 6) (h0 : 0 < n) (hbx : Hid (Boxed W B r n)) (hB0 : Below W.heap.size W w) (hv : Has w W.heap.size (.slice (some ⟨P, 0, none⟩) n c) (upto (fun t => (t : Int)) n)) :
    Calls Tryz.prog 87 #[.slice (some ⟨P, 0, none⟩) n c, .func (.func 88) #[] #[.pointer (some ⟨B, 0, none⟩)]] w
      fun e w' => e = .returned (.tuple #[]) ∧ ∃ s : Nat → Nat, Has w' W.heap.size (.slice (some ⟨P, 0, none⟩) n c) (upto (fun t => (s t : Int)) n) ∧ Hid (Ins r s n n) ∧ Below W.heap.size W w' := by
  go_enter Tryz.func87, Tryz.ntmps87
  go_wp2_with fail
  refine (stable P c n B r W w hn h0 hbx hB0 hv).mono ?_
  rintro e w1 ⟨rfl, s, hs, HI, hB⟩
  go_wp2
  go_end0
  exact ⟨rfl, s, hs, HI, hB⟩

theorem boxed_new {w : World} {a : Option Addr} {n c : Nat} {r : Nat → Nat} (h0 : 0 < n) (hr : Row w a (upto (fun i => (r i : Int)) n)) : Boxed (w.alloc (.cells #[.slice a n c] 23)) w.heap.size r n := by
  have hb1 : Below w.heap.size w (w.alloc (.cells #[.slice a n c] 23)) := (Below.refl _ _).alloc (Nat.le_refl _) _
  obtain ⟨b, off, rfl, hb, hc⟩ := Mid.row_cell (hr.below hb1) (by rw [upto_length]; exact h0)
  refine ⟨b, off, c, by rw [World.cell?_alloc_at _ _ _ _ rfl]; rfl, by simp, hb, fun i hi => ?_⟩
  rw [hc i (by rw [upto_length]; exact hi), upto_at _ hi]

set_option maxRecDepth 100000 in
set_option maxHeartbeats 4000000 in
theorem first (a : Option Addr) (n c : Nat) (r : Nat → Nat) (w : World) (hn : n ≤ 6) (h0 : 0 < n) (hr : Row w a (upto (fun i => (r i : Int)) n)) :
    Calls Tryz.prog 54 #[.slice a n c] w
      fun e w' => ∃ (v : Value) (s : Nat → Nat), e = .returned v ∧ Has w' w.heap.size v (upto (fun t => (s t : Int)) n) ∧ Hid (Ins r s n n) ∧ Below w.heap.size w w' := by
  have hmf : ∀ (fn : Fn) (first cap : Array Value) (w : World), (Instr.makeFunc fn first cap).run Tryz.prog w = .ok (.func fn first cap) w := fun _ _ _ _ => rfl
  have HBX := hide (boxed_new (c := c) h0 hr)
  have hb1 : Below w.heap.size w (w.alloc (.cells #[.slice a n c] 23)) := (Below.refl _ _).alloc (Nat.le_refl _) _
  go_enter Tryz.func54, Tryz.ntmps54
  go_wp2_with (at_make; refine wpList_mk _ rfl _ rfl n rfl (by omega) ?_; intro w2 hv2 hb2)
  have hsz : (w.alloc (.cells #[.slice a n c] 23)).heap.size = w.heap.size + 1 := by simp
  obtain ⟨W, hW⟩ : ∃ W, w.alloc (.cells #[.slice a n c] 23) = W := ⟨_, rfl⟩
  rw [hW] at HBX hb1 hv2 hb2 hsz
  obtain ⟨P, hP⟩ : ∃ P, w.heap.size + 1 = P := ⟨_, rfl⟩
  rw [hsz, hP] at hv2 hb2
  rw [hP] at hsz
  rw [hP]
  have hPw : w.heap.size ≤ P := by omega
  have HS := hide hsz
  rw [← unhide HS] at hb2
  clear hsz hW hP
  go_loopw [10] (fun i wr => ∃ j : Nat, j ≤ n ∧ i = .int .i64 j ∧ Has wr P (.slice (some ⟨P, 0, none⟩) n n) (mid (fun t => (t : Int)) (fun _ => 0) n j) ∧ Hid (Below P W wr)) (fun i _ => n - (intOf i).toNat)
  case atStart => exact ⟨0, Nat.zero_le _, rfl, by rw [mid_zero]; exact hv2, hide (by rw [← unhide HS]; exact hb2)⟩
  case round =>
    obtain ⟨j, hj, rfl, hs, hB⟩ := hrel
    clear hv2 hb2
    by_cases hlt : j < n
    · have hcl := hs.get (j := j) (by rw [mid_length]; exact hlt)
      rw [mid_at _ _ hlt] at hcl
      have hfz := hs.frozen j
      obtain ⟨m1, m2, m3⟩ := Mid.put_mid hs hlt (show ((j : Int)) = (j : Int) from rfl) 0
      go_wp2
      go_roundw
      case rel => exact ⟨j + 1, by omega, by go_num, m1, hide (m3 _ (unhide hB) (Nat.le_refl _))⟩
      case measure => simp [intOf]; omega
    · obtain rfl : j = n := by omega
      rw [mid_all] at hs
      have hs1 : Has wr W.heap.size (.slice (some ⟨P, 0, none⟩) j j) (upto (fun t => (t : Int)) j) := by rw [unhide HS]; exact hs
      have hB1 : Hid (Below W.heap.size W wr) := hide (by rw [unhide HS]; exact unhide hB)
      clear hs hB
      go_wp2_with fail
      refine (sortStable P j j w.heap.size r W wr hn h0 HBX (unhide hB1) hs1).mono ?_
      rintro e w3 ⟨rfl, s, hs3, HI, hB3⟩
      go_wp2
      go_ret
      exact ⟨_, s, rfl, hs3.mono (by rw [unhide HS]; exact hPw), HI, Below.chain hb1 hB3⟩

end Go.Proofs.YtjojeifoddonnakGreat.Nea

/-
  near.Spread: by its contracts.
-/
namespace Go.Proofs.YtjojeifoddonnakGreat.Nea
open Go.RowKit
open Go.Proofs.YtjojeifoddonnakGreat.Tre Go.Proofs.YtjojeifoddonnakGreat.Lap Go.Proofs.YtjojeifoddonnakGreat.Pls Go.Proofs.YtjojeifoddonnakGreat.Mid
set_option linter.unusedVariables false

theorem near_zero (v : List Int) : Near v 0 (upto (fun _ => 0) v.length) := by
  refine ⟨fun _ => false, ?_, upto_congr fun i _ => ?_⟩
  · rw [show lft v 0 = 0 by simp [lft]]; exact pick_zero _ _
  · simp [res, qt, sh, one]
theorem off_new {w w' : World} {b : Nat} {p v : Value} {l m : List Int} (hp : Has w b p l) (hv : Has w' w.heap.size v m) : Off p v := by
  cases h : p.ownBlock with
  | none => exact Or.inl h
  | some k =>
    refine Or.inr ?_
    have := (hp.lt k h).2
    rw [h]
    intro e
    have := (hv.lt k e.symm).1
    omega
/-- One more gets a pulse. -/
theorem put_gt {r s : Nat → Nat} {n j : Nat} (q : Nat → Nat) (h : Ins r s n n) (hj : j < n) {Q : Nat} (hQ : q (s j) = Q) :
    (upto (fun i => ((q i + one (gt s j i) : Nat) : Int)) n).set (s j) ((Q + 1 : Nat) : Int) = upto (fun i => ((q i + one (gt s (j + 1) i) : Nat) : Int)) n ∧ at0 (upto (fun i => ((q i + one (gt s j i) : Nat) : Int)) n) (s j) = (Q : Int) ∧ s j < n := by
  obtain ⟨b1, b2, b3⟩ := gt_best h hj
  refine ⟨?_, ?_, b1⟩
  · rw [upto_set]
    refine upto_congr fun i _ => ?_
    rw [gt_succ, one_with b2]
    by_cases e : i = s j
    · subst e; rw [if_pos rfl, if_pos rfl, b2, hQ]; simp [one]
    · rw [if_neg e, if_neg e]; simp
  · rw [upto_at _ b1, b2, hQ]; simp [one]

theorem spread_range (a : Option Addr) (cap N : Nat) (k : Int) (w : World) (hk : k < 0 ∨ (0 ≤ k ∧ 8 < k)) :
    Calls Tryz.prog 26 #[.slice a N cap, .int .i64 k] w fun e w' => e = .returned (.tuple #[.slice none 0 0, .iface 60 (.int .i64 1)]) ∧ w' = w := by
  rcases hk with hk | ⟨hk, hk'⟩
  all_goals
    go_enter Tryz.func26, Tryz.ntmps26
    go_wp2
    go_ret2
    exact ⟨rfl, rfl⟩
theorem spread_none (a : Option Addr) (cap : Nat) (v : List Int) (k : Nat) (w : World) (hr : Row w a v) (h6 : v.length ≤ 6) (hi : In 4000 v) (hk : 0 < k) (hk8 : k ≤ 8) (hM : Hid (loud v = 0)) :
    Calls Tryz.prog 26 #[.slice a v.length cap, .int .i64 k] w fun e w' => e = .returned (.tuple #[.slice none 0 0, .iface 60 (.int .i64 5)]) ∧ w' = w := by
  have hk0 : ((k : Int) == 0) = false := by simp; omega
  go_enter Tryz.func26, Tryz.ntmps26
  go_wp2_with fail
  refine (dists a cap v w (by omega) hi hr).mono ?_
  rw [unhide hM]
  rintro e w1 ⟨rfl, rfl⟩
  go_wp2
  go_ret2
  exact ⟨rfl, rfl⟩
theorem spread_zero (a : Option Addr) (cap : Nat) (v : List Int) (w : World) (hr : Row w a v) (h6 : v.length ≤ 6) :
    Calls Tryz.prog 26 #[.slice a v.length cap, .int .i64 0] w fun e w' => ∃ p l, e = .returned (.tuple #[p, .nilIface]) ∧ Has w' w.heap.size p l ∧ Hid (Near v 0 l) ∧ Below w.heap.size w w' := by
  go_enter Tryz.func26, Tryz.ntmps26
  go_wp2_with (at_make; refine wpList_mk _ rfl _ rfl v.length rfl (by omega) ?_; intro w2 hv2 hb2)
  go_ret2
  exact ⟨_, _, rfl, hv2, near_zero v, hb2⟩

set_option maxRecDepth 100000 in
set_option maxHeartbeats 16000000 in
theorem spread_some (a : Option Addr) (cap : Nat) (v : List Int) (k : Nat) (w : World) (hr : Row w a v) (h6 : v.length ≤ 6) (hi : In 4000 v) (hk : 0 < k) (hk8 : k ≤ 8) (hM0 : Hid (0 < loud v)) :
    Calls Tryz.prog 26 #[.slice a v.length cap, .int .i64 k] w fun e w' => ∃ p l, e = .returned (.tuple #[p, .nilIface]) ∧ Has w' w.heap.size p l ∧ Hid (Near v k l) ∧ Below w.heap.size w w' := by
  have hMle := loud_in (b := 4000) hi
  have hc1 := hide (dists a cap v w (by omega) hi hr)
  have HKL : Hid (k = 0 ∨ 0 < loud v) := hide (Or.inr (unhide hM0))
  have hL := lft_le k (unhide HKL)
  have hn0 : 0 < v.length := by
    rcases Nat.eq_zero_or_pos v.length with e | e
    · have := unhide hM0
      rw [loud_tot, e] at this
      simp [tot] at this
    · exact e
  obtain ⟨M, hM⟩ : ∃ M, loud v = M := ⟨_, rfl⟩
  have hM1 : 0 < M := by rw [← hM]; exact unhide hM0
  have hM9 : M ≤ 24000 := by omega
  rw [hM] at hc1
  have HM := hide hM
  have hMz : ((M : Int) == 0) = false := by simp; omega
  have hk0 : ((k : Int) == 0) = false := by simp; omega
  clear hM hMle
  go_enter Tryz.func26, Tryz.ntmps26
  go_wp2_with fail
  refine (unhide hc1).mono ?_
  rintro e w1 ⟨rfl, rfl⟩
  have hr1 := hr
  have hb1 := Below.refl w.heap.size w
  clear hc1
  go_wp2_with fail
  refine (wholes a cap v k M w h6 hi hk8 HM hM1 hM9 hr1).mono ?_
  rintro e w2 ⟨p, r, rfl, hp, hrs, ho, hb2⟩
  have hB2 := Below.chain hb1 hb2
  have hr2 := hr1.below hb2
  obtain ⟨N, hN⟩ : ∃ N, v.length = N := ⟨_, rfl⟩
  have HN := hide hN
  rw [hN] at hp hrs hL hn0 h6
  obtain ⟨gp, cp, ep, -, -, -, -⟩ := hp.one (by rw [upto_length]; exact hn0)
  obtain ⟨gr, cr, er, -, -, -, -⟩ := hrs.one (by rw [upto_length]; exact hn0)
  rw [upto_length] at ep er
  subst ep er
  have hrr := (hrs.inRow rfl).2
  have hp0 := hp.mono hb1.size
  clear hr1 hb1 hb2 hN
  go_wp2_with fail
  refine (first (some ⟨gr, 0, none⟩) N cr (rt v k) w2 h6 hn0 hrr).mono ?_
  rintro e w3 ⟨pl, s, rfl, hpl, HI, hb3⟩
  have hB3 := Below.chain hB2 hb3
  have hr3 := hr2.below hb3
  have hp3 := hp0.below hb3
  have hop := off_new hp0 hpl
  obtain ⟨gs, cs, es, hgs, -, hcs1, hcs2⟩ := hpl.one (by rw [upto_length]; exact hn0)
  rw [upto_length] at es hcs1
  subst es
  have hpl0 := hpl.mono hB2.size
  have hlc := hide (left (some ⟨gp, 0, none⟩) cp v k N w3 HN h6 hk8 HKL ((hp3.inRow rfl).2))
  obtain ⟨L, hLd⟩ : ∃ L, lft v k = L := ⟨_, rfl⟩
  rw [hLd] at hlc hL
  have HL := hide hLd
  clear hrs ho hrr hp hr2 hB2 hb3 hp0 hpl hLd hgs
  go_wp2_with fail
  refine (unhide hlc).mono ?_
  rintro e w4 ⟨rfl, rfl⟩
  clear hlc
  have hLz : (L : Int) ≤ (cs : Int) := by omega
  go_wp2
  go_loopw [44] (fun i wr => ∃ j : Nat, j ≤ L ∧ i = .int .i64 j ∧ Has wr w.heap.size (.slice (some ⟨gp, 0, none⟩) N cp) (upto (fun i => ((qt v k i + one (gt s j i) : Nat) : Int)) N) ∧ Has wr w.heap.size (.slice (some ⟨gs, 0, none⟩) N cs) (upto (fun t => (s t : Int)) N) ∧ Below w.heap.size w wr) (fun i _ => L - (intOf i).toNat)
  case atStart => exact ⟨0, Nat.zero_le _, rfl, by simpa [gt_zero, one] using hp3, hpl0, hB3⟩
  case round =>
    obtain ⟨j, hj, rfl, hpj, hsj, hBj⟩ := hrel
    clear hp3 hpl0 hB3 hr3
    by_cases hlt : j < L
    · have hjN : j < N := by omega
      obtain ⟨Q, hQ⟩ : ∃ Q, qt v k (s j) = Q := ⟨_, rfl⟩
      obtain ⟨p1, p2, p3⟩ := put_gt (qt v k) (unhide HI) hjN hQ
      have hQ8 : Q ≤ 8 := by
        have h1 := qt_le k (unhide HKL)
        have h2 := tot_one (f := qt v k) (n := v.length) (i := s j) (by rw [unhide HN]; exact p3)
        omega
      have c1 := hsj.get (j := j) (by rw [upto_length]; exact hjN)
      rw [upto_at _ hjN] at c1
      have c2 := hpj.get (j := s j) (by rw [upto_length]; exact p3)
      rw [p2] at c2
      have f2 := hpj.frozen (s j)
      have hg := (hpj.lt gp rfl).1
      obtain ⟨m1, m2⟩ := hpj.put (s j) ((Q + 1 : Nat) : Int)
      rw [p1] at m1
      have m3 := Has.beside hsj rfl hop.symm m2
      have m4 := Below.setCell (p := ⟨gp, s j, none⟩) hBj hg (.int .i64 ((Q + 1 : Nat) : Int))
      have M1 := hide m1
      have M3 := hide m3
      have M4 := hide m4
      clear p1 p2 hQ m1 m2 m3 m4 hpj hsj hBj hg
      obtain ⟨X, hX⟩ : ∃ X, s j = X := ⟨_, rfl⟩
      rw [hX] at c1 c2 p3 f2 M1 M3 M4
      obtain ⟨Q1, hQ1⟩ : ∃ Q1, Q + 1 = Q1 := ⟨_, rfl⟩
      rw [hQ1] at M1 M3 M4
      have eQ : IntKind.i64.wrap ((Q : Int) + 1) = (Q1 : Int) := by rw [← hQ1]; exact IntWalk.i64_in _ (by omega)
      have jz : (j : Int) < (L : Int) := by omega
      have Xz : (X : Int) < (N : Int) := by omega
      clear hX hQ1
      go_wp2
      go_roundw
      case rel => exact ⟨j + 1, by omega, by go_num, unhide M1, unhide M3, unhide M4⟩
      case measure => simp [intOf]; omega
    · obtain rfl : j = L := by omega
      have HP := hide (show Pick (rt v k) v.length (lft v k) (gt s j) from by rw [unhide HN, unhide HL]; exact gt_pick (unhide HI) j hL)
      obtain ⟨g, hg⟩ : ∃ g, gt s j = g := ⟨_, rfl⟩
      rw [hg] at hpj HP
      clear hg hsj HI hop
      have hvN : (v.length : Int) = (N : Int) := by rw [unhide HN]
      have hpm : Has wr w.heap.size (.slice (some ⟨gp, 0, none⟩) N cp) (mid (res v k g) (fun i => ((qt v k i + one (g i) : Nat) : Int)) N 0) := by rw [mid_zero]; exact hpj
      clear hpj
      go_wp2
      go_loopw [57] (fun i wr => ∃ j : Nat, j ≤ N ∧ i = .int .i64 j ∧ Has wr w.heap.size (.slice (some ⟨gp, 0, none⟩) N cp) (mid (res v k g) (fun i => ((qt v k i + one (g i) : Nat) : Int)) N j) ∧ Below w.heap.size w wr) (fun i _ => N - (intOf i).toNat)
      case atStart => exact ⟨0, Nat.zero_le _, rfl, hpm, hBj⟩
      case round =>
        obtain ⟨x, hx, rfl, hpx, hBx⟩ := hrel
        clear hpm hBj
        by_cases hlt : x < N
        · have hr5 := hr.below hBx
          obtain ⟨b, off, rfl, hb, hc⟩ := Mid.row_cell hr5 (by rw [unhide HN]; omega)
          have c1 := hc x (by rw [unhide HN]; exact hlt)
          have c2 := hpx.get (j := x) (by rw [mid_length]; exact hlt)
          rw [mid_at _ _ hlt] at c2
          have f2 := hpx.frozen x
          have hg := (hpx.lt gp rfl).1
          have HRS : Hid (res v k g x = (at0 v x).sign * ((qt v k x + one (g x) : Nat) : Int)) := hide rfl
          have hQ9 : qt v k x + one (g x) ≤ 9 := by
            have h1 := qt_le k (unhide HKL)
            have h2 := tot_one (f := qt v k) (n := v.length) (i := x) (by rw [unhide HN]; exact hlt)
            have h3 : one (g x) ≤ 1 := by unfold one; split <;> omega
            omega
          have HC := hide (fun W => compare (at0 v x) 0 W)
          rw [cf_sign] at HC
          obtain ⟨X, hX⟩ : ∃ X, at0 v x = X := ⟨_, rfl⟩
          rw [hX] at c1 HC HRS
          have hS : X.sign = -1 ∨ X.sign = 0 ∨ X.sign = 1 := by
            rcases Int.lt_trichotomy X 0 with e | e | e
            · exact Or.inl (Int.sign_eq_neg_one_of_neg e)
            · subst e; exact Or.inr (Or.inl rfl)
            · exact Or.inr (Or.inr (Int.sign_eq_one_of_pos e))
          obtain ⟨S, hS'⟩ : ∃ S, X.sign = S := ⟨_, rfl⟩
          rw [hS'] at HC HRS hS
          obtain ⟨Q, hQ⟩ : ∃ Q, qt v k x + one (g x) = Q := ⟨_, rfl⟩
          rw [hQ] at c2 HRS hQ9
          obtain ⟨R, hR⟩ : ∃ R, S * (Q : Int) = R := ⟨_, rfl⟩
          rw [hR] at HRS
          have hmul : IntKind.i64.wrap ((Q : Int) * S) = R := by
            rw [Int.mul_comm, hR]
            refine IntWalk.i64_in _ ?_
            rcases hS with e | e | e <;> (rw [e] at hR; omega)
          clear hX hS hS' hQ hR hc
          go_wp2
          go_region_with (go_at_call 56; refine (unhide HC _).mono ?_; rintro e w' ⟨rfl, rfl⟩)
          all_goals
            obtain ⟨m1, m2, m3⟩ := Mid.put_mid hpx hlt (unhide HRS) 1
            go_wp2
            go_roundw
            case rel => exact ⟨x + 1, by omega, by go_num, m1, m3 _ hBx hg⟩
            case measure => simp [intOf]; omega
        · obtain rfl : x = N := by omega
          rw [mid_all] at hpx
          have HNR : Hid (Near v k (upto (res v k g) x)) := hide ⟨g, unhide HP, by rw [unhide HN]⟩
          go_wp2
          go_ret2
          exact ⟨_, _, rfl, hpx, HNR, hBx⟩

theorem spread_ok (a : Option Addr) (cap : Nat) (v : List Int) (k : Nat) (w : World) (hr : Row w a v) (h6 : v.length ≤ 6) (hi : In 4000 v) (hk8 : k ≤ 8) (hM0 : Hid (k = 0 ∨ 0 < loud v)) :
    Calls Tryz.prog 26 #[.slice a v.length cap, .int .i64 k] w fun e w' => ∃ p l, e = .returned (.tuple #[p, .nilIface]) ∧ Has w' w.heap.size p l ∧ Hid (Near v k l) ∧ Below w.heap.size w w' := by
  rcases Nat.eq_zero_or_pos k with e | e
  · subst e
    exact spread_zero a cap v w hr h6
  · exact spread_some a cap v k w hr h6 hi e hk8 (hide (by have := unhide hM0; omega))

end Go.Proofs.YtjojeifoddonnakGreat.Nea
