/-
  tree.neighbours and tree.facing: the iterators, by their contracts.
-/
import Derived.RangeFuncNested
import Derived.RangeFuncBound
import Derived.RangeFuncCalls
import Derived.RangeFuncLeaves
import Derived.Shelf.Abstract
import Derived.Shelf.RegionOpen
import Derived.WalkKit
import Derived.OwnWalkIn
import Derived.TacticsInMore
import Derived.LoopNIn
import Derived.LoopIn
import Derived.Test.YtjnmogmagngenaeTreeMath
import Derived.Test.YtjnmogmagngenaeOwn
namespace Go.Proofs.Ytjnmogmagngenae.Tre
open Go.RowKit Go.Shelf
set_option linter.unusedVariables false
attribute [local go_sem] Oper.semAt_some

/-- What a round must keep: all below n₀, and the box. -/
def Kp (n₀ Bs : Nat) (W W' : World) : Prop := Below n₀ W W' ∧ W'.heap[Bs]? = W.heap[Bs]?
theorem Kp.refl (n₀ Bs : Nat) (W : World) : Kp n₀ Bs W W := ⟨Below.refl _ _, rfl⟩
theorem Kp.trans {n₀ Bs : Nat} {A B C : World} (h : Kp n₀ Bs A B) (k : Kp n₀ Bs B C) : Kp n₀ Bs A C := ⟨h.1.trans k.1, k.2.trans h.2⟩
theorem Kp.cell {n₀ Bs : Nat} {A B : World} (h : Kp n₀ Bs A B) {v : Value} (hc : A.cell? ⟨Bs, 0, none⟩ = some v) : B.cell? ⟨Bs, 0, none⟩ = some v :=
  (World.cell?_of_block (a := ⟨Bs, 0, none⟩) h.2).trans hc

/-- A row that lies below n₀. -/
def RowB (n₀ : Nat) (w : World) (a : Option Addr) (l : List Int) : Prop :=
  l = [] ∨ ∃ b off, a = some ⟨b, off, none⟩ ∧ b < n₀ ∧ ∀ j, j < l.length → w.cell? ⟨b, off + j, none⟩ = some (.int .i64 (l.getD j 0))
theorem RowB.at {n₀ : Nat} {w : World} {a : Option Addr} {l : List Int} (h : RowB n₀ w a l) (hk : 0 < l.length) :
    ∃ b off, a = some ⟨b, off, none⟩ ∧ b < n₀ ∧ ∀ j, j < l.length → w.cell? ⟨b, off + j, none⟩ = some (.int .i64 (l.getD j 0)) := by
  rcases h with h | h
  · subst h; exact absurd hk (by simp)
  · exact h
theorem RowB.below {n₀ : Nat} {w w' : World} {a : Option Addr} {l : List Int} (h : RowB n₀ w a l) (hb : Below n₀ w w') : RowB n₀ w' a l := by
  rcases h with h | ⟨b, off, ha, hlt, hc⟩
  · exact Or.inl h
  · exact Or.inr ⟨b, off, ha, hlt, fun j hj => (hb.cell (p := ⟨b, off + j, none⟩) hlt).trans (hc j hj)⟩

abbrev encN (l : List Int) (i : Nat) : Array Value := #[.int .i64 (at0 l (2 * i)), .int .i64 (at0 l (2 * i + 1))]

theorem drew_by (w : World) : w.grownBy w.drew none := ⟨rfl, rfl, rfl, Nat.le_refl _, fun _ _ _ => rfl⟩

set_option maxRecDepth 100000 in
set_option maxHeartbeats 4000000 in
theorem neighbours1 (n : Nat) (hn : 1 ≤ n) (L Bs n₀ : Nat) (a : Option Addr) (cap : Nat) (l : List Int) (hl : l.length ≤ 1000) (J Jx : List Nat → World → Prop) (W : World)
    (hJ : AbidesFrom W.heap.size J)
    (hY : ∀ pre x W1, J pre W1 → pre.length < l.length / 2 → YieldAt Fence.wide (n - 1) Try.prog L (encN l x) W1 fun e W' =>
      (e = .returned (.bool true) ∧ J (pre ++ [x]) W' ∧ Kp n₀ Bs W1 W') ∨ (e = .returned (.bool false) ∧ Jx (pre ++ [x]) W'))
    (hBs : W.cell? ⟨Bs, 0, none⟩ = some (.slice a l.length cap)) (hr : RowB n₀ W a l) (h0 : J [] W) :
    CallsIn Fence.wide n Try.prog 73 #[.func (.yield L) #[] #[], .pointer (some ⟨Bs, 0, none⟩)] W fun e W' => (∃ v, e = .returned v) ∧
      ((∃ ys, ys = List.range (l.length / 2) ∧ J ys W') ∨ (∃ pre, (∃ k, k ≤ l.length / 2 ∧ pre = List.range k) ∧ Jx pre W')) := by
  have hmx : Try.prog.follows .mixedOrders = true := by kernel_rfl
  refine callsIn_of_wp Try.func73 rfl trivial ?_ rfl
  simp only [Try.ntmps73, List.size_toArray, List.length_cons, List.length_nil, Nat.reduceAdd, Nat.reduceSub, Array.replicate_succ, Array.replicate_zero, List.push_toArray, List.append_toArray, List.nil_append, List.cons_append]
  have hq : Int.tdiv (l.length : Int) 2 = ((l.length / 2 : Nat) : Int) := rfl
  gi_wp2
  gi_loopw [7] (fun i wr => ∃ k : Nat, k ≤ l.length / 2 ∧ i = .int .i64 k ∧ J (List.range k) wr ∧ Kp n₀ Bs W wr ∧ W.heap.size ≤ wr.heap.size) (fun i _ => l.length / 2 - (intOf i).toNat)
  case atStart => exact ⟨0, Nat.zero_le _, rfl, h0, Kp.refl _ _ _, Nat.le_refl _⟩
  case round =>
    obtain ⟨k, hk, rfl, hJs, hK, hsz⟩ := hrel
    by_cases hlt : k < l.length / 2
    · obtain ⟨b, off, rfl, hb, hc⟩ := hr.at (show 0 < l.length by omega)
      obtain ⟨x, hx⟩ : ∃ x, x = at0 l (2 * k) := ⟨_, rfl⟩
      obtain ⟨y, hy'⟩ : ∃ y, y = at0 l (2 * k + 1) := ⟨_, rfl⟩
      obtain ⟨fn, tmps, assign, body, hy, hR⟩ := hY _ k wr.drew (hJ _ _ _ none hJs (drew_by wr) (fun r e => by cases e)) (by rw [List.length_range]; exact hlt)
      dsimp only [encN] at hy
      rw [← hx, ← hy'] at hy
      have hB1 := hK.cell hBs
      have hc1 : wr.cell? ⟨b, off + 2 * k, none⟩ = some (.int .i64 x) := (hK.1.cell (p := ⟨b, off + 2 * k, none⟩) hb).trans ((hc (2 * k) (by omega)).trans (by rw [hx, List.getD_eq_getElem?_getD]; rfl))
      have hc2 : wr.cell? ⟨b, off + (2 * k + 1), none⟩ = some (.int .i64 y) := (hK.1.cell (p := ⟨b, off + (2 * k + 1), none⟩) hb).trans ((hc (2 * k + 1) (by omega)).trans (by rw [hy', List.getD_eq_getElem?_getD]; rfl))
      have HX := hide hx
      have HY := hide hy'
      clear hx hy' hc hBs hY
      have hw1 : IntKind.i64.wrap (2 * (k : Int)) = 2 * (k : Int) := IntWalk.i64_in _ (by omega)
      have hw2 : IntKind.i64.wrap (2 * (k : Int) + 1) = 2 * (k : Int) + 1 := IntWalk.i64_in _ (by omega)
      have hR' := hR.mono (R' := fun e W' => ∃ t : Bool, e = .returned (.bool t) ∧ Hid ((t = true ∧ J (List.range k ++ [k]) W' ∧ Kp n₀ Bs wr.drew W') ∨ (t = false ∧ Jx (List.range k ++ [k]) W'))) (by
        rintro e W' (⟨rfl, h1, h2⟩ | ⟨rfl, h1⟩)
        · exact ⟨true, rfl, hide (.inl ⟨rfl, h1, h2⟩)⟩
        · exact ⟨false, rfl, hide (.inr ⟨rfl, h1⟩)⟩)
      clear hR
      have hn0 : 0 ≤ 2 * (k : Int) := by omega
      have hn1 : 2 * (k : Int) < l.length := by omega
      have hn2 : 0 ≤ 2 * (k : Int) + 1 := by omega
      have hn3 : 2 * (k : Int) + 1 < l.length := by omega
      have hn4 : (2 * (k : Int)).toNat = 2 * k := by omega
      have hn5 : (2 * (k : Int) + 1).toNat = 2 * k + 1 := by omega
      gi_wp2
      gi_region_with_o (refine hR'.mono ?_; rintro e W3 ⟨t, rfl, ht⟩)
      all_goals (cases t)
      all_goals (rcases unhide ht with ⟨h1, hJ3, hk3⟩ | ⟨h1, hJx3⟩ <;> first | (cases h1; done) | clear h1 ht)
      all_goals (first
        | (gi_wp2
           go_roundw
           case rel => exact ⟨k + 1, by omega, by go_num, by rw [List.range_succ]; exact hJ3, hK.trans (Kp.trans ⟨Below.drew (Below.refl _ _), rfl⟩ hk3), Nat.le_trans hsz hk3.1.size⟩
           case measure => simp [intOf]; omega)
        | (gi_wp2
           refine bodyPost_ret (results_none rfl _ _ _) rfl ?_
           exact ⟨⟨_, rfl⟩, .inr ⟨_, ⟨k + 1, by omega, List.range_succ.symm⟩, hJx3⟩⟩))
    · obtain rfl : k = l.length / 2 := by omega
      gi_wp2
      go_end0
      exact ⟨⟨_, rfl⟩, .inl ⟨_, rfl, hJs⟩⟩

end Go.Proofs.Ytjnmogmagngenae.Tre
