/-
  Package near: greatestFirst, and what of the library it asks (cmp.Compare, slices.SortStableFunc at a few numbers): by their contracts.
-/
import Derived.Test.YthkibjhhlcfceaiDoorCh20
import Derived.Test.YthkibjhhlcfceaiDoorCh21
import Derived.Test.YthkibjhhlcfceaiDoorCh17
import Derived.Shelf.RegionOpen
namespace Go.Proofs.YthkibjhhlcfceaiDoor.Nea
open Go.RowKit
open Go.Proofs.YthkibjhhlcfceaiDoor.Tre Go.Proofs.YthkibjhhlcfceaiDoor.Lap Go.Proofs.YthkibjhhlcfceaiDoor.Pls Go.Proofs.YthkibjhhlcfceaiDoor.Mid
set_option linter.unusedVariables false

/-- cmp.Compare. -/
def cf (x y : Int) : Int := if x < y then -1 else if y < x then 1 else 0
theorem cf_sign (n : Int) : cf n 0 = n.sign := by
  unfold cf
  rcases Int.lt_trichotomy n 0 with h | h | h
  · rw [if_pos h, Int.sign_eq_neg_one_of_neg h]
  · subst h; rfl
  · rw [if_neg (by omega), if_pos h, Int.sign_eq_one_of_pos h]

theorem isNaN (x : Int) (w : World) : Calls Tryd.prog 64 #[.int .i64 x] w fun e w' => e = .returned (.bool false) ∧ w' = w := by
  have hx : (x == x) = true := by simp
  go_enter Tryd.func64, Tryd.ntmps64
  go_wp2
  go_ret
  exact ⟨by simp, rfl⟩

theorem compare (x y : Int) (w : World) : Calls Tryd.prog 46 #[.int .i64 x, .int .i64 y] w fun e w' => e = .returned (.int .i64 (cf x y)) ∧ w' = w := by
  unfold cf
  rcases Int.lt_trichotomy x y with h | h | h
  · rw [if_pos h]
    go_enter Tryd.func46, Tryd.ntmps46
    go_wp2_with fail
    refine (isNaN x w).mono ?_
    rintro e w' ⟨rfl, rfl⟩
    go_wp2_with fail
    refine (isNaN y _).mono ?_
    rintro e w' ⟨rfl, rfl⟩
    go_wp2
    go_ret
    exact ⟨rfl, rfl⟩
  · subst h
    have h1 : ¬ x < x := by omega
    rw [if_neg h1, if_neg h1]
    go_enter Tryd.func46, Tryd.ntmps46
    go_wp2_with fail
    refine (isNaN x w).mono ?_
    rintro e w' ⟨rfl, rfl⟩
    go_wp2_with fail
    refine (isNaN x _).mono ?_
    rintro e w' ⟨rfl, rfl⟩
    go_wp2
    go_ret
    exact ⟨rfl, rfl⟩
  · have h1 : ¬ x < y := by omega
    rw [if_neg h1, if_pos h]
    go_enter Tryd.func46, Tryd.ntmps46
    go_wp2_with fail
    refine (isNaN x w).mono ?_
    rintro e w' ⟨rfl, rfl⟩
    go_wp2_with fail
    refine (isNaN y _).mono ?_
    rintro e w' ⟨rfl, rfl⟩
    go_wp2
    go_ret
    exact ⟨rfl, rfl⟩

/-- The function that greatestFirst hands to the sort: its rests lie in a box. -/
def Boxed (W : World) (B : Nat) (r : Nat → Nat) (n : Nat) : Prop := ∃ g off c, W.cell? ⟨B, 0, none⟩ = some (.slice (some ⟨g, off, none⟩) n c) ∧ B < W.heap.size ∧ g < W.heap.size ∧ ∀ i, i < n → W.cell? ⟨g, off + i, none⟩ = some (.int .i64 (r i))
theorem Boxed.below {W w : World} {B : Nat} {r : Nat → Nat} {n : Nat} (h : Boxed W B r n) (hb : Below W.heap.size W w) : Boxed w B r n := by
  obtain ⟨g, off, c, h1, h2, h3, h4⟩ := h
  exact ⟨g, off, c, (hb.cell (p := ⟨B, 0, none⟩) h2).trans h1, Nat.lt_of_lt_of_le h2 hb.size, Nat.lt_of_lt_of_le h3 hb.size, fun i hi => (hb.cell (p := ⟨g, off + i, none⟩) h3).trans (h4 i hi)⟩

set_option maxHeartbeats 2000000 in
theorem order (x y : Nat) (B : Nat) (r : Nat → Nat) (n : Nat) (w : World) (hn : n ≤ 6) (hx : x < n) (hy : y < n) (hbx : Boxed w B r n) :
    Calls Tryd.prog 63 #[.int .i64 x, .int .i64 y, .pointer (some ⟨B, 0, none⟩)] w fun e w' => e = .returned (.int .i64 (cf (r y) (r x))) ∧ ∃ q, w' = w.drewN q := by
  obtain ⟨g, off, c, h1, h2, h3, h4⟩ := hbx
  have c1 := h4 x hx
  have c2 := h4 y hy
  obtain ⟨X, hX⟩ : ∃ X, r x = X := ⟨_, rfl⟩
  obtain ⟨Y, hY⟩ : ∃ Y, r y = Y := ⟨_, rfl⟩
  rw [hX] at c1 ⊢
  rw [hY] at c2 ⊢
  have hc := hide (compare (Y : Int) (X : Int))
  obtain ⟨C, hC⟩ : ∃ C, cf (Y : Int) (X : Int) = C := ⟨_, rfl⟩
  rw [hC] at hc ⊢
  clear h4 hX hY hC
  go_enter Tryd.func63, Tryd.ntmps63
  go_wp2
  go_quiet ((go_at_call 46; exact Calls.quiet_of_same (unhide hc _)))
  go_wp2
  go_ret
  exact ⟨rfl, _, rfl⟩

end Go.Proofs.YthkibjhhlcfceaiDoor.Nea

/-
  slices.insertionSortCmpFunc at a few places, by greatestFirst's function: by its contract.
-/
namespace Go.Proofs.YthkibjhhlcfceaiDoor.Nea
open Go.RowKit
open Go.Proofs.YthkibjhhlcfceaiDoor.Tre Go.Proofs.YthkibjhhlcfceaiDoor.Lap Go.Proofs.YthkibjhhlcfceaiDoor.Pls Go.Proofs.YthkibjhhlcfceaiDoor.Mid
set_option linter.unusedVariables false

set_option maxRecDepth 100000 in
set_option maxHeartbeats 8000000 in
theorem insertion (P c n B : Nat) (r : Nat → Nat) (W w : World) (hn : n ≤ 6) (h0 : 0 < n) (hbx : Boxed W B r n) (hB0 : Below W.heap.size W w) (hv : Has w W.heap.size (.slice (some ⟨P, 0, none⟩) n c) (upto (fun t => (t : Int)) n)) :
    Calls Tryd.prog 82 #[.slice (some ⟨P, 0, none⟩) n c, .int .i64 0, .int .i64 n, .func (.func 63) #[] #[.pointer (some ⟨B, 0, none⟩)]] w
      fun e w' => e = .returned (.tuple #[]) ∧ ∃ s : Nat → Nat, Has w' W.heap.size (.slice (some ⟨P, 0, none⟩) n c) (upto (fun t => (s t : Int)) n) ∧ Hid (Ins r s n n) ∧ Below W.heap.size W w' := by
  have hP : W.heap.size ≤ P := (hv.lt P rfl).1
  have HBX := hide hbx
  have HP := hide hP
  clear hbx hP
  go_enter Tryd.func82, Tryd.ntmps82
  go_wp2
  go_loopw [8] (fun vi wr => ∃ (i : Nat) (s : Nat → Nat), vi = .int .i64 i ∧ 1 ≤ i ∧ i ≤ n ∧ Has wr W.heap.size (.slice (some ⟨P, 0, none⟩) n c) (upto (fun t => (s t : Int)) n) ∧ Hid (Ins r s n i) ∧ Below W.heap.size W wr) (fun i _ => n - (intOf i).toNat)
  case atStart => exact ⟨1, fun t => t, by go_num, Nat.le_refl _, h0, hv, ins_start r n, hB0⟩
  case round =>
    obtain ⟨i, s, rfl, hi1, hin, hs, HI, hB⟩ := hrel
    clear hv hB0
    by_cases hlt : i < n
    · have HJ0 := hide ((unhide HI).go hlt)
      clear HI
      go_wp2
      go_loopw [9] (fun vj wr2 => ∃ (j : Nat) (s2 : Nat → Nat), vj = .int .i64 j ∧ j ≤ i ∧ Has wr2 W.heap.size (.slice (some ⟨P, 0, none⟩) n c) (upto (fun t => (s2 t : Int)) n) ∧ Hid (InsJ r s2 n i j) ∧ Below W.heap.size W wr2) (fun j _ => (intOf j).toNat)
      case atStart => exact ⟨i, s, rfl, Nat.le_refl _, hs, HJ0, hB⟩
      case round =>
        obtain ⟨j, s2, rfl, hji, hs2, HJ, hB2⟩ := hrel
        clear hs HJ0 hB
        by_cases hj0 : 0 < j
        · obtain ⟨jp, rfl⟩ : ∃ jp, j = jp + 1 := ⟨j - 1, by omega⟩
          have c1 := hs2.get (j := jp + 1) (by rw [upto_length]; omega)
          have c2 := hs2.get (j := jp) (by rw [upto_length]; omega)
          rw [upto_at _ (by omega)] at c1 c2
          have f1 := hs2.frozen (jp + 1)
          have f2 := hs2.frozen jp
          obtain ⟨q1, q2, q3⟩ := (unhide HJ).2.2.1
          have b1 := q1 (jp + 1) (by omega)
          have b2 := q1 jp (by omega)
          have hord : Hid (∀ x, Calls Tryd.prog 63 #[.int .i64 (s2 (jp + 1)), .int .i64 (s2 jp), .pointer (some ⟨B, 0, none⟩)] (wr.drewN x) fun e w' => e = .returned (.int .i64 (cf (r (s2 jp)) (r (s2 (jp + 1))))) ∧ ∃ q, w' = (wr.drewN x).drewN q) :=
            hide (fun x => order (s2 (jp + 1)) (s2 jp) B r n (wr.drewN x) hn b1 b2 ((unhide HBX).below (below_drewN hB2 x)))
          have HSW : Hid (((upto (fun t => (s2 t : Int)) n).set (jp + 1) (s2 jp)).set jp (s2 (jp + 1)) = upto (fun t => (swp s2 jp t : Int)) n) := hide (swp_set s2 rfl rfl)
          have HST := hide (fun h => (unhide HJ).step (j := jp) h)
          have HSP := hide (fun h => (unhide HJ).stop h)
          rw [Nat.add_sub_cancel] at HSP
          obtain ⟨Y, hY⟩ : ∃ Y, s2 jp = Y := ⟨_, rfl⟩
          obtain ⟨X, hX⟩ : ∃ X, s2 (jp + 1) = X := ⟨_, rfl⟩
          rw [hY, hX] at hord HSW HST HSP
          rw [hX] at c1 b1
          rw [hY] at c2 b2
          have hjz : (0 : Int) < (jp : Int) + 1 := by omega
          have hj6 : jp + 1 < n := by omega
          have jz : (jp : Int) + 1 < (n : Int) := by omega
          have jz1 : (jp : Int) < (n : Int) := by omega
          clear q1 q2 q3 hY hX HJ
          by_cases hr : r Y < r X
          · have hcf : cf (r Y) (r X) = -1 := by unfold cf; rw [if_pos (by omega)]
            rw [hcf] at hord
            have HJ2 := hide (unhide HST hr)
            clear HST HSP hcf hr
            go_wp2
            go_quiet ((go_at_call 63; exact Calls.quiet_of (unhide hord _)))
            go_wp2
            go_region
            have m1 := Has.put (show Has (wr.drewN (nq + 1)) _ _ _ from hs2) (jp + 1) (Y : Int)
            have m2 := m1.1.put jp (X : Int)
            rw [unhide HSW] at m2
            have hB3 := Below.setCell (p := ⟨P, jp, none⟩) (Below.setCell (p := ⟨P, jp + 1, none⟩) (below_drewN hB2 (nq + 1)) (unhide HP) (.int .i64 (Y : Int))) (unhide HP) (.int .i64 (X : Int))
            clear m1 hs2 hB2
            go_wp2
            go_roundw
            case rel => exact ⟨jp, swp s2 jp, by go_num, by omega, m2.1, HJ2, hB3⟩
            case measure => simp [intOf]
          · have hcf : decide (cf (r Y) (r X) < 0) = false := by unfold cf; rw [if_neg (by omega)]; split <;> simp
            obtain ⟨C, hC⟩ : ∃ C, cf (r Y) (r X) = C := ⟨_, rfl⟩
            rw [hC] at hcf hord
            have HI2 := hide (unhide HSP (Or.inr (by omega)))
            clear HST HSP hr hC
            go_wp2
            go_quiet ((go_at_call 63; exact Calls.quiet_of (unhide hord _)))
            go_wp2
            go_roundw
            case rel => exact ⟨i + 1, s2, by go_num, by omega, by omega, hs2, HI2, below_drewN hB2 _⟩
            case measure => simp [intOf]; omega
        · have hjz : decide ((0 : Int) < (j : Int)) = false := by simp; omega
          have HI2 := hide ((unhide HJ).stop (Or.inl (by omega)))
          clear HJ
          go_wp2
          go_quiet (fail)
          go_wp2
          go_roundw
          case rel => exact ⟨i + 1, s2, by go_num, by omega, by omega, hs2, HI2, below_drewN hB2 _⟩
          case measure => simp [intOf]; omega
    · obtain rfl : i = n := by omega
      go_wp2
      go_end0
      exact ⟨rfl, s, hs, HI, hB⟩

end Go.Proofs.YthkibjhhlcfceaiDoor.Nea

/-
  slices.SortStableFunc at a few places, near.greatestFirst: by their contracts.
-/
namespace Go.Proofs.YthkibjhhlcfceaiDoor.Nea
open Go.RowKit
open Go.Proofs.YthkibjhhlcfceaiDoor.Tre Go.Proofs.YthkibjhhlcfceaiDoor.Lap Go.Proofs.YthkibjhhlcfceaiDoor.Pls Go.Proofs.YthkibjhhlcfceaiDoor.Mid
set_option linter.unusedVariables false

set_option maxRecDepth 100000 in
set_option maxHeartbeats 4000000 in
theorem stable (P c n B : Nat) (r : Nat → Nat) (W w : World) (hn : n ≤ 6) (h0 : 0 < n) (hbx : Hid (Boxed W B r n)) (hB0 : Below W.heap.size W w) (hv : Has w W.heap.size (.slice (some ⟨P, 0, none⟩) n c) (upto (fun t => (t : Int)) n)) :
    Calls Tryd.prog 76 #[.slice (some ⟨P, 0, none⟩) n c, .int .i64 n, .func (.func 63) #[] #[.pointer (some ⟨B, 0, none⟩)]] w
      fun e w' => e = .returned (.tuple #[]) ∧ ∃ s : Nat → Nat, Has w' W.heap.size (.slice (some ⟨P, 0, none⟩) n c) (upto (fun t => (s t : Int)) n) ∧ Hid (Ins r s n n) ∧ Below W.heap.size W w' := by
  have h20 : ¬ (20 : Int) ≤ (n : Int) := by omega
  have h20' : ¬ (20 : Int) < (n : Int) := by omega
  go_enter Tryd.func76, Tryd.ntmps76
  go_wp2
  go_loopw [7, 8] (fun a b wr => a = .int .i64 0 ∧ b = .int .i64 20 ∧ wr = w) (fun _ _ _ => 0)
  case atStart => exact ⟨rfl, rfl, rfl⟩
  case round =>
    obtain ⟨rfl, rfl, rfl⟩ := hrel
    go_wp2_with fail
    refine (insertion P c n B r W _ hn h0 (unhide hbx) hB0 hv).mono ?_
    rintro e w1 ⟨rfl, s, hs, HI, hB⟩
    go_wp2
    go_loopw [6] (fun b wr => b = .int .i64 20 ∧ wr = w1) (fun _ _ => 0)
    case atStart => exact ⟨rfl, rfl⟩
    case round =>
      obtain ⟨rfl, rfl⟩ := hrel
      go_wp2
      go_end0
      exact ⟨rfl, s, hs, HI, hB⟩

theorem sortStable (P c n B : Nat) (r : Nat → Nat) (W w : World) (hn : n ≤ 6) (h0 : 0 < n) (hbx : Hid (Boxed W B r n)) (hB0 : Below W.heap.size W w) (hv : Has w W.heap.size (.slice (some ⟨P, 0, none⟩) n c) (upto (fun t => (t : Int)) n)) :
    Calls Tryd.prog 62 #[.slice (some ⟨P, 0, none⟩) n c, .func (.func 63) #[] #[.pointer (some ⟨B, 0, none⟩)]] w
      fun e w' => e = .returned (.tuple #[]) ∧ ∃ s : Nat → Nat, Has w' W.heap.size (.slice (some ⟨P, 0, none⟩) n c) (upto (fun t => (s t : Int)) n) ∧ Hid (Ins r s n n) ∧ Below W.heap.size W w' := by
  go_enter Tryd.func62, Tryd.ntmps62
  go_wp2_with fail
  refine (stable P c n B r W w hn h0 hbx hB0 hv).mono ?_
  rintro e w1 ⟨rfl, s, hs, HI, hB⟩
  go_wp2
  go_end0
  exact ⟨rfl, s, hs, HI, hB⟩

theorem boxed_new {w : World} {a : Option Addr} {n c : Nat} {r : Nat → Nat} (h0 : 0 < n) (hr : Row w a (upto (fun i => (r i : Int)) n)) : Boxed (w.alloc (.cells #[.slice a n c] 22)) w.heap.size r n := by
  have hb1 : Below w.heap.size w (w.alloc (.cells #[.slice a n c] 22)) := (Below.refl _ _).alloc (Nat.le_refl _) _
  obtain ⟨b, off, rfl, hb, hc⟩ := Mid.row_cell (hr.below hb1) (by rw [upto_length]; exact h0)
  refine ⟨b, off, c, by rw [World.cell?_alloc_at _ _ _ _ rfl]; rfl, by simp, hb, fun i hi => ?_⟩
  rw [hc i (by rw [upto_length]; exact hi), upto_at _ hi]

set_option maxRecDepth 100000 in
set_option maxHeartbeats 4000000 in
theorem first (a : Option Addr) (n c : Nat) (r : Nat → Nat) (w : World) (hn : n ≤ 6) (h0 : 0 < n) (hr : Row w a (upto (fun i => (r i : Int)) n)) :
    Calls Tryd.prog 44 #[.slice a n c] w
      fun e w' => ∃ (v : Value) (s : Nat → Nat), e = .returned v ∧ Has w' w.heap.size v (upto (fun t => (s t : Int)) n) ∧ Hid (Ins r s n n) ∧ Below w.heap.size w w' := by
  have hmf : ∀ (fn : Fn) (first cap : Array Value) (w : World), (Instr.makeFunc fn first cap).run Tryd.prog w = .ok (.func fn first cap) w := fun _ _ _ _ => rfl
  have HBX := hide (boxed_new (c := c) h0 hr)
  have hb1 : Below w.heap.size w (w.alloc (.cells #[.slice a n c] 22)) := (Below.refl _ _).alloc (Nat.le_refl _) _
  go_enter Tryd.func44, Tryd.ntmps44
  go_wp2_with (at_make; refine wpList_mk _ rfl _ rfl n rfl (by omega) ?_; intro w2 hv2 hb2)
  have hsz : (w.alloc (.cells #[.slice a n c] 22)).heap.size = w.heap.size + 1 := by simp
  obtain ⟨W, hW⟩ : ∃ W, w.alloc (.cells #[.slice a n c] 22) = W := ⟨_, rfl⟩
  rw [hW] at HBX hb1 hv2 hb2 hsz
  obtain ⟨P, hP⟩ : ∃ P, w.heap.size + 1 = P := ⟨_, rfl⟩
  rw [hsz, hP] at hv2 hb2
  rw [hP] at hsz
  rw [hP]
  have hPw : w.heap.size ≤ P := by omega
  have HS := hide hsz
  rw [← unhide HS] at hb2
  clear hsz hW hP
  go_loopw [10] (fun i wr => ∃ j : Nat, j ≤ n ∧ i = .int .i64 j ∧ Has wr P (.slice (some ⟨P, 0, none⟩) n n) (mid (fun t => (t : Int)) (fun _ => 0) n j) ∧ Hid (Below P W wr)) (fun i _ => n - (intOf i).toNat)
  case atStart => exact ⟨0, Nat.zero_le _, rfl, by rw [mid_zero]; exact hv2, hide (by rw [← unhide HS]; exact hb2)⟩
  case round =>
    obtain ⟨j, hj, rfl, hs, hB⟩ := hrel
    clear hv2 hb2
    by_cases hlt : j < n
    · have hcl := hs.get (j := j) (by rw [mid_length]; exact hlt)
      rw [mid_at _ _ hlt] at hcl
      have hfz := hs.frozen j
      obtain ⟨m1, m2, m3⟩ := Mid.put_mid hs hlt (show ((j : Int)) = (j : Int) from rfl) 0
      go_wp2
      go_roundw
      case rel => exact ⟨j + 1, by omega, by go_num, m1, hide (m3 _ (unhide hB) (Nat.le_refl _))⟩
      case measure => simp [intOf]; omega
    · obtain rfl : j = n := by omega
      rw [mid_all] at hs
      have hs1 : Has wr W.heap.size (.slice (some ⟨P, 0, none⟩) j j) (upto (fun t => (t : Int)) j) := by rw [unhide HS]; exact hs
      have hB1 : Hid (Below W.heap.size W wr) := hide (by rw [unhide HS]; exact unhide hB)
      clear hs hB
      go_wp2_with fail
      refine (sortStable P j j w.heap.size r W wr hn h0 HBX (unhide hB1) hs1).mono ?_
      rintro e w3 ⟨rfl, s, hs3, HI, hB3⟩
      go_wp2
      go_ret
      exact ⟨_, s, rfl, hs3.mono (by rw [unhide HS]; exact hPw), HI, Below.chain hb1 hB3⟩

end Go.Proofs.YthkibjhhlcfceaiDoor.Nea
