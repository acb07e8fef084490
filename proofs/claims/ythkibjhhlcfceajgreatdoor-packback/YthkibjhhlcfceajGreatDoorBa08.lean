/-
  The rest of a row ('l[t:]'), whatever lies beneath it; the first ones of a slice of this call's own ('v[:n]').
-/
import Derived.Test.YthkibjhhlcfceajGreatDoorBa07
import Derived.Test.YthkibjhhlcfceajGreatDoorBa06
import Derived.Test.YthkibjhhlcfceajGreatDoorBa00
import Derived.Test.YthkibjhhlcfceajGreatDoorBa02
import Derived.Test.YthkibjhhlcfceajGreatDoorBa01
namespace Go.Proofs.YthkibjhhlcfceajGreatDoor
open Go.RowKit
open Go.Proofs.YthkibjhhlcfceajGreatDoor.Tre
set_option linter.unusedVariables false

set_option maxRecDepth 100000 in
theorem row_rest {w : World} {a : Option Addr} {l : List Int} (h : Row w a l) (cap : Nat) (hm : l.length ≤ cap) {t : Nat} (ht : t ≤ l.length) :
    ∃ A, (∀ W, (Instr.slice 22 (.slice a l.length cap) (some (.int .i64 t)) none none).run Tryz.prog W = .ok (.slice A (l.length - t) (cap - t)) W) ∧ Row w A (l.drop t) := by
  refine ⟨if cap = t then a else a.map (·.add (t * 1)), fun W => ?_, ?_⟩
  · rw [run_slice_l W 22 a l.length cap Tryz.underlying22 .i64 t (by omega) (by omega), size_ints]
    simp [Result.andThen, sliced]
  · by_cases he : l.length = t
    · refine Or.inl ?_
      rw [← he, List.drop_length]
    · obtain ⟨b, off, rfl, hb, hc⟩ := h.at (k := 0) (by omega)
      rw [if_neg (by omega), Nat.mul_one, Option.map_some, addr_plain]
      exact h.drop t
set_option maxRecDepth 100000 in
theorem Has.first {w : World} {base : Nat} {v : Value} {l : List Int} (h : Has w base v l) {n : Nat} (hn : n ≤ l.length) :
    ∃ v', (∀ W, (Instr.slice 22 v none (some (.int .i64 n)) none).run Tryz.prog W = .ok v' W) ∧ Has w base v' (l.take n) := by
  have hl : (l.take n).length = n := by rw [List.length_take]; omega
  rcases h.2 with ⟨rfl, h0⟩ | ⟨g, cap, cur, rfl, hb, hg, hc, hm, hs, hx⟩
  · obtain rfl : l = [] := List.eq_nil_of_length_eq_zero h0
    obtain rfl : n = 0 := by simpa using hn
    refine ⟨.slice none 0 0, fun W => ?_, Has.nil _ _⟩
    rw [run_slice_h W 22 none 0 0 Tryz.underlying22 .i64 ((0 : Nat) : Int) (by omega) (by omega), size_ints]
    simp [Result.andThen, sliced]
  · refine ⟨.slice (some ⟨g, 0, none⟩) n cap, fun W => ?_, ?_⟩
    · rw [run_slice_h W 22 _ l.length cap Tryz.underlying22 .i64 n (by omega) (by omega), size_ints]
      simp [Result.andThen, sliced, addr_plain]
    · unfold Has
      rw [hl]
      refine ⟨by rw [List.length_map, hl, Nat.mul_one], Or.inr ⟨g, cap, cur, rfl, hb, hg, by omega, hm, hs, ?_⟩⟩
      rw [List.map_take, ← hx, List.take_take, Nat.mul_one, Nat.mul_one, Nat.min_eq_left hn]

end Go.Proofs.YthkibjhhlcfceajGreatDoor

/-
  make of integers, up to all that memory bears: zeros of this call's own.
-/
namespace Go.Proofs.YthkibjhhlcfceajGreatDoor
open Go.RowKit
open Go.Proofs.YthkibjhhlcfceajGreatDoor.Tre
set_option linter.unusedVariables false

theorem wpList_mkL {ops : Array Oper} {rest : List Oper} {o : Oper} {a : Act} {Q : Exit → Act → World → Prop} (w : World) (hgd : o.guard = none) (s : Operand)
    (ho : o.op = .makeSlice 22 s s) (n : Nat) (hs : a.eval s = .int .i64 n) (hn : n ≤ 17592186044416)
    (h : ∀ w', Has w' w.heap.size (.slice (some ⟨w.heap.size, 0, none⟩) n n) (upto (fun _ => 0) n) → Below w.heap.size w w' → wpList Tryz.prog ops Q rest (a.put o.dst (.slice (some ⟨w.heap.size, 0, none⟩) n n)) w') :
    wpList Tryz.prog ops Q (o :: rest) a w := by
  obtain ⟨i0, hi, hz0, hz1, hz2⟩ := info_parts info_int
  refine wpList_make_full w hgd s s 22 ho w.heap.size 3 i0 (.int .i64 0) 1 Tryz.underlying22 hi hz0 hz1 _ _ _ _ n hs hs rfl rfl (by rw [hz2]; omega) (by unfold maxLen; omega) (Nat.le_refl _) ?_
  intro w2 hown hgrow
  rw [Nat.mul_one] at hown
  refine h w2 ?_ ((Below.refl _ _).grown hgrow (Nat.le_refl _) (by intro k hk; cases hk))
  unfold Has
  rw [upto_zeros, List.map_replicate, List.length_replicate, ← toList_madeCells_one]
  exact hown

end Go.Proofs.YthkibjhhlcfceajGreatDoor

/-
  A row's numbers, each in its cell (package lap).
-/
namespace Go.Proofs.YthkibjhhlcfceajGreatDoor.Lap
open Go.RowKit
open Go.Proofs.YthkibjhhlcfceajGreatDoor.Tre
set_option linter.unusedVariables false

theorem row_cell {w : World} {a : Option Addr} {l : List Int} (h : Row w a l) (h0 : 0 < l.length) : ∃ b off, a = some ⟨b, off, none⟩ ∧ ∀ j, j < l.length → w.cell? ⟨b, off + j, none⟩ = some (.int .i64 (at0 l j)) := by
  obtain ⟨b, off, e, _, hc⟩ := h.at h0
  exact ⟨b, off, e, fun j hj => (hc j hj).trans (by rw [List.getD_eq_getElem?_getD]; rfl)⟩

end Go.Proofs.YthkibjhhlcfceajGreatDoor.Lap

/-
  lap.guess, lap.lift: by their contracts.
-/
namespace Go.Proofs.YthkibjhhlcfceajGreatDoor.Lap
open Go.RowKit
open Go.Proofs.YthkibjhhlcfceajGreatDoor.Tre
set_option linter.unusedVariables false

set_option maxHeartbeats 1000000 in
theorem guess (a : Option Addr) (n cap : Nat) (l : List Int) (i : Nat) (w : World) (hn : Hid (n = l.length)) (hl : n ≤ 1000) (hi : i < n) (hin : In 100000 l) (hr : Row w a l) :
    Calls Tryz.prog 83 #[.slice a n cap, .int .i64 i] w fun e w' => e = .returned (.int .i64 (gs l i)) ∧ ∃ q, w' = w.drewN q := by
  obtain ⟨b, off, rfl, hc⟩ := row_cell hr (by rw [← unhide hn]; omega)
  obtain ⟨x0, x1⟩ := hin.at (by omega) i
  obtain ⟨k, hk⟩ : ∃ k, k = min (i + 1) (n - 1) := ⟨_, rfl⟩
  obtain ⟨y0, y1⟩ := hin.at (by omega) k
  have hc1 := hc i (by rw [← unhide hn]; exact hi)
  have hc2 := hc k (by rw [← unhide hn]; omega)
  have HG : Hid (gs l i = (at0 l i + at0 l k) / 2) := hide (by unfold gs; rw [← unhide hn, ← hk])
  clear hc
  obtain ⟨X, hX⟩ : ∃ X, at0 l i = X := ⟨_, rfl⟩
  obtain ⟨Y, hY⟩ : ∃ Y, at0 l k = Y := ⟨_, rfl⟩
  rw [hX, hY] at HG
  rw [hX] at x0 x1 hc1
  rw [hY] at y0 y1 hc2
  clear hX hY
  obtain ⟨G, hG⟩ : ∃ G, gs l i = G := ⟨_, rfl⟩
  rw [hG] at HG ⊢
  clear hG
  have hkn : k < n := by omega
  by_cases h : i + 1 < n
  · obtain rfl : k = i + 1 := by omega
    have hm : ¬ ((n : Int) - 1 < (i : Int) + 1) := by omega
    clear hk
    go_enter Tryz.func83, Tryz.ntmps83
    go_wp2
    go_quiet (fail)
    go_wp2
    go_ret
    exact ⟨ret_int (unhide HG).symm, nq, rfl⟩
  · obtain rfl : i = k := by omega
    obtain rfl : X = Y := by rw [hc1] at hc2; cases hc2; rfl
    have hm : (n : Int) - 1 = (i : Int) := by omega
    clear hk
    go_enter Tryz.func83, Tryz.ntmps83
    go_wp2
    go_quiet (fail)
    go_wp2
    go_ret
    exact ⟨ret_int (unhide HG).symm, nq, rfl⟩

set_option maxHeartbeats 1000000 in
theorem lift (a : Option Addr) (n cap : Nat) (l : List Int) (i : Nat) (w : World) (hn : Hid (n = l.length)) (hl : n ≤ 1000) (hi : i < n) (hin : In 100000 l) (hr : Row w a l) :
    Calls Tryz.prog 84 #[.slice a n cap, .int .i64 i] w fun e w' => e = .returned (.int .i64 (lf l i)) ∧ ∃ q, w' = w.drewN q := by
  obtain ⟨b, off, rfl, hc⟩ := row_cell hr (by rw [← unhide hn]; omega)
  obtain ⟨x0, x1⟩ := hin.at (by omega) i
  obtain ⟨k, hk⟩ : ∃ k, k = i - 1 := ⟨_, rfl⟩
  obtain ⟨y0, y1⟩ := hin.at (by omega) k
  have hc1 := hc i (by rw [← unhide hn]; exact hi)
  have hc2 := hc k (by rw [← unhide hn]; omega)
  have HG : Hid (lf l i = (at0 l k + at0 l i + 2) / 4) := hide (by unfold lf; rw [← hk])
  clear hc
  obtain ⟨X, hX⟩ : ∃ X, at0 l i = X := ⟨_, rfl⟩
  obtain ⟨Y, hY⟩ : ∃ Y, at0 l k = Y := ⟨_, rfl⟩
  rw [hX, hY] at HG
  rw [hX] at x0 x1 hc1
  rw [hY] at y0 y1 hc2
  clear hX hY
  obtain ⟨G, hG⟩ : ∃ G, lf l i = G := ⟨_, rfl⟩
  rw [hG] at HG ⊢
  clear hG
  have hkn : k < n := by omega
  by_cases h : 0 < i
  · have hm : (i : Int) - 1 = (k : Int) := by omega
    have hm0 : ¬ ((k : Int) < 0) := by omega
    clear hk
    go_enter Tryz.func84, Tryz.ntmps84
    go_wp2
    go_quiet (fail)
    go_wp2
    go_ret
    exact ⟨ret_int (unhide HG).symm, nq, rfl⟩
  · obtain rfl : i = 0 := by omega
    obtain rfl : k = 0 := by omega
    obtain rfl : X = Y := by rw [hc1] at hc2; cases hc2; rfl
    clear hk
    rw [Nat.add_zero] at hc1
    go_enter Tryz.func84, Tryz.ntmps84
    go_wp2
    go_quiet (fail)
    go_wp2
    go_ret
    exact ⟨ret_int (unhide HG).symm, nq, rfl⟩

end Go.Proofs.YthkibjhhlcfceajGreatDoor.Lap

/-
  lap.deal: by its contract; a number of a list of this call's own is set.
-/
namespace Go.Proofs.YthkibjhhlcfceajGreatDoor.Lap
open Go.RowKit
open Go.Proofs.YthkibjhhlcfceajGreatDoor.Tre
set_option linter.unusedVariables false

set_option maxHeartbeats 2000000 in
theorem deal (a : Option Addr) (cap : Nat) (l : List Int) (w : World) (hl : l.length ≤ 1000) (he : Hid (l.length = 2 * (l.length / 2))) (hr : Row w a l) :
    Calls Tryz.prog 82 #[.slice a l.length cap] w fun e w' => ∃ s d, e = .returned (.tuple #[s, d]) ∧ Has w' w.heap.size s (ev l) ∧ Has w' w.heap.size d (od l) ∧ Off s d ∧ Below w.heap.size w w' := by
  go_enter Tryz.func82, Tryz.ntmps82
  go_wp2
  go_loopw [2, 3, 8] (fun s d i wr => ∃ j : Nat, j ≤ l.length ∧ i = .int .i64 j ∧ Has wr w.heap.size s (upto (fun i => at0 l (2 * i)) ((j + 1) / 2)) ∧ Has wr w.heap.size d (upto (fun i => at0 l (2 * i + 1)) (j / 2)) ∧ Off s d ∧ Below w.heap.size w wr) (fun _ _ i _ => l.length - (intOf i).toNat)
  case atStart => exact ⟨0, Nat.zero_le _, rfl, Has.nil _ _, Has.nil _ _, Or.inl rfl, Below.refl _ _⟩
  case round =>
    obtain ⟨j, hj, rfl, h1, h2, h3, hB⟩ := hrel
    by_cases hlt : j < l.length
    · obtain ⟨b, off, rfl, hc⟩ := row_cell (hr.below hB) (by omega)
      have hc1 := hc j hlt
      have hmod : Int.tmod (j : Int) 2 = ((j % 2 : Nat) : Int) := rfl
      obtain ⟨X, hX⟩ : ∃ X, at0 l j = X := ⟨_, rfl⟩
      rw [hX] at hc1
      have HX := hide hX
      clear hX hc
      have hWs := hB.size
      by_cases hm : j % 2 = 0
      · have e1 : Hid (upto (fun i => at0 l (2 * i)) ((j + 1 + 1) / 2) = upto (fun i => at0 l (2 * i)) ((j + 1) / 2) ++ [X]) := hide (by
          have : (j + 1 + 1) / 2 = (j + 1) / 2 + 1 := by omega
          have e : 2 * ((j + 1) / 2) = j := by omega
          rw [this, upto_succ, e, unhide HX])
        have e2 : Hid ((j + 1) / 2 = j / 2) := hide (by omega)
        have hln : Hid ((upto (fun i => at0 l (2 * i)) ((j + 1) / 2)).length + 1 ≤ 1000000) := hide (by rw [upto_length]; omega)
        go_wp2_with (at_builtin; refine wpList_app _ rfl _ _ rfl w.heap.size u2 (upto (fun i => at0 l (2 * i)) ((j + 1) / 2)) [X] _ _ rfl (h1.alloc _) rfl (row_one _ _ _) (unhide hln) (by simp; omega) ?_; intro s' w1 k1 g1 at1)
        obtain ⟨d1, d2⟩ := stepped_plain h1 hWs k1 g1 at1
        obtain ⟨h2', h3'⟩ := d2 _ _ h2 h3.symm
        go_wp2
        go_roundw
        case rel => exact ⟨j + 1, by omega, by go_num, by rw [unhide e1]; exact k1, by rw [unhide e2]; exact h2', h3'.symm, hB.trans d1⟩
        case measure => simp [intOf]; omega
      · have e1 : Hid (upto (fun i => at0 l (2 * i + 1)) ((j + 1) / 2) = upto (fun i => at0 l (2 * i + 1)) (j / 2) ++ [X]) := hide (by
          have : (j + 1) / 2 = j / 2 + 1 := by omega
          have e : 2 * (j / 2) + 1 = j := by omega
          rw [this, upto_succ, e, unhide HX])
        have e2 : Hid ((j + 1 + 1) / 2 = (j + 1) / 2) := hide (by omega)
        have hln : Hid ((upto (fun i => at0 l (2 * i + 1)) (j / 2)).length + 1 ≤ 1000000) := hide (by rw [upto_length]; omega)
        go_wp2_with (at_builtin; refine wpList_app _ rfl _ _ rfl w.heap.size u3 (upto (fun i => at0 l (2 * i + 1)) (j / 2)) [X] _ _ rfl (h2.alloc _) rfl (row_one _ _ _) (unhide hln) (by simp; omega) ?_; intro s' w1 k1 g1 at1)
        obtain ⟨d1, d2⟩ := stepped_plain h2 hWs k1 g1 at1
        obtain ⟨h1', h3'⟩ := d2 _ _ h1 h3
        go_wp2
        go_roundw
        case rel => exact ⟨j + 1, by omega, by go_num, by rw [unhide e2]; exact h1', by rw [unhide e1]; exact k1, h3', hB.trans d1⟩
        case measure => simp [intOf]; omega
    · obtain rfl : j = l.length := by omega
      have e1 : Hid ((l.length + 1) / 2 = l.length / 2) := hide (by have := unhide he; omega)
      go_wp2
      go_ret2
      refine ⟨_, _, rfl, ?_, h2, h3, hB⟩
      unfold ev
      rw [← unhide e1]
      exact h1

/-- One more number of a list of this call's own is as by f. -/
theorem put_mid {wr : World} {base g n c j : Nat} {f f0 : Nat → Int} {X : Int} (h : Has wr base (.slice (some ⟨g, 0, none⟩) n c) (mid f f0 n j)) (hj : j < n) (hx : f j = X) (q : Nat) :
    Has ((wr.drewN q).setCell ⟨g, j, none⟩ (.int .i64 X)) base (.slice (some ⟨g, 0, none⟩) n c) (mid f f0 n (j + 1)) ∧
      (∀ u m, Has wr base u m → Off u (.slice (some ⟨g, 0, none⟩) n c) → Has ((wr.drewN q).setCell ⟨g, j, none⟩ (.int .i64 X)) base u m) ∧
      (∀ w, Below base w wr → base ≤ g → Below base w ((wr.drewN q).setCell ⟨g, j, none⟩ (.int .i64 X))) := by
  have h1 : Has (wr.drewN q) base (.slice (some ⟨g, 0, none⟩) n c) (mid f f0 n j) := h
  obtain ⟨h2, h3⟩ := h1.put j X
  refine ⟨?_, fun u m hu ho => ?_, fun w hb hg => ?_⟩
  · rw [← mid_set f f0 hj, hx]; exact h2
  · exact Has.beside (show Has (wr.drewN q) base u m from hu) rfl ho h3
  · exact Below.setCell (w := wr.drewN q) (p := ⟨g, j, none⟩) (hb.trans ⟨rfl, rfl, rfl, Nat.le_refl _, fun _ _ => rfl⟩) hg _

end Go.Proofs.YthkibjhhlcfceajGreatDoor.Lap

/-
  Package near: wholes, left: by their contracts.
-/
namespace Go.Proofs.YthkibjhhlcfceajGreatDoor.Nea
open Go.RowKit
open Go.Proofs.YthkibjhhlcfceajGreatDoor.Tre Go.Proofs.YthkibjhhlcfceajGreatDoor.Lap Go.Proofs.YthkibjhhlcfceajGreatDoor.Pls Go.Proofs.YthkibjhhlcfceajGreatDoor.Mid
set_option linter.unusedVariables false

theorem mul_in {k d : Nat} (hk : k ≤ 8) (hd : d ≤ 4000) : k * d ≤ 32000 := Nat.mul_le_mul hk hd

set_option maxHeartbeats 4000000 in
theorem wholes (a : Option Addr) (cap : Nat) (v : List Int) (k M : Nat) (w : World) (hv : v.length ≤ 6) (hi : In 4000 v) (hk : k ≤ 8) (HM : Hid (loud v = M)) (hM : 0 < M) (hM9 : M ≤ 24000) (hr : Row w a v) :
    Calls Tryz.prog 56 #[.slice a v.length cap, .int .i64 k, .int .i64 M] w fun e w' => ∃ p r, e = .returned (.tuple #[p, r]) ∧ Has w' w.heap.size p (upto (fun i => (qt v k i : Int)) v.length) ∧
      Has w' w.heap.size r (upto (fun i => (rt v k i : Int)) v.length) ∧ Off p r ∧ Below w.heap.size w w' := by
  go_enter Tryz.func56, Tryz.ntmps56
  go_wp2
  go_loopw [6, 7, 13] (fun s d i wr => ∃ j : Nat, j ≤ v.length ∧ i = .int .i64 j ∧ Has wr w.heap.size s (upto (fun i => (qt v k i : Int)) j) ∧ Has wr w.heap.size d (upto (fun i => (rt v k i : Int)) j) ∧ Off s d ∧ Below w.heap.size w wr) (fun _ _ i _ => v.length - (intOf i).toNat)
  case atStart => exact ⟨0, Nat.zero_le _, rfl, Has.nil _ _, Has.nil _ _, Or.inl rfl, Below.refl _ _⟩
  case round =>
    obtain ⟨j, hj, rfl, h1, h2, h3, hB⟩ := hrel
    by_cases hlt : j < v.length
    · obtain ⟨b, off, rfl, hb, hc⟩ := Mid.row_cell (hr.below hB) (by omega)
      have hc1 := hc j hlt
      obtain ⟨i0, i1⟩ := hi.at (by omega) j
      have hS : sh v k j = k * (at0 v j).natAbs := rfl
      have hQ : qt v k j = sh v k j / loud v := rfl
      have hR : rt v k j = sh v k j % loud v := rfl
      have e1 : Hid (upto (fun i => (qt v k i : Int)) (j + 1) = upto (fun i => (qt v k i : Int)) j ++ [(qt v k j : Int)]) := hide (upto_succ _ _)
      have e2 : Hid (upto (fun i => (rt v k i : Int)) (j + 1) = upto (fun i => (rt v k i : Int)) j ++ [(rt v k j : Int)]) := hide (upto_succ _ _)
      have hln1 : Hid ((upto (fun i => (qt v k i : Int)) j).length + 1 ≤ 1000000) := hide (by rw [upto_length]; omega)
      have hln2 : Hid ((upto (fun i => (rt v k i : Int)) j).length + 1 ≤ 1000000) := hide (by rw [upto_length]; omega)
      rw [unhide HM] at hQ hR
      have hdist := hide (dist (at0 v j) wr (by omega) (by omega))
      obtain ⟨X, hX⟩ : ∃ X, at0 v j = X := ⟨_, rfl⟩
      rw [hX] at hc1 hdist hS i0 i1
      obtain ⟨D, hD⟩ : ∃ D, X.natAbs = D := ⟨_, rfl⟩
      rw [hD] at hdist hS
      have hD9 : D ≤ 4000 := by omega
      have hS9 := mul_in hk hD9
      rw [← hS] at hS9
      obtain ⟨S, hS'⟩ : ∃ S, sh v k j = S := ⟨_, rfl⟩
      rw [hS'] at hS hQ hR hS9
      have hmul : IntKind.i64.wrap ((k : Int) * (D : Int)) = (S : Int) := by rw [hS, ← Int.natCast_mul]; exact IntWalk.i64_in _ (by omega)
      obtain ⟨Q, hQ'⟩ : ∃ Q, qt v k j = Q := ⟨_, rfl⟩
      obtain ⟨T, hT'⟩ : ∃ T, rt v k j = T := ⟨_, rfl⟩
      rw [hQ'] at hQ e1
      rw [hT'] at hR e2
      have hq : Int.tdiv (S : Int) (M : Int) = (Q : Int) := by rw [hQ]; rfl
      have hrm : Int.tmod (S : Int) (M : Int) = (T : Int) := by rw [hR]; rfl
      have hQ9 : Q ≤ 32000 := by rw [hQ]; exact Nat.le_trans (Nat.div_le_self _ _) hS9
      have hT9 : T ≤ 24000 := by rw [hR]; have := Nat.mod_lt S hM; omega
      have hMz : ((M : Int) == 0) = false := by simp; omega
      have hWs := hB.size
      clear hX hD hS hS' hQ hR hQ' hT' hc
      go_wp2_with fail
      refine (unhide hdist).mono ?_
      rintro e w1 ⟨rfl, rfl⟩
      clear hdist
      go_wp2_with (first
        | (at_builtin; refine wpList_app _ rfl _ _ rfl w.heap.size u6 (upto (fun i => (qt v k i : Int)) j) [(Q : Int)] _ _ rfl (h1.alloc _) rfl (row_one _ _ _) (unhide hln1) (by simp; omega) ?_; intro s1 w1 k1 g1 at1
           obtain ⟨d1, d2⟩ := stepped_plain h1 hWs k1 g1 at1
           obtain ⟨h2', h3'⟩ := d2 _ _ h2 h3.symm
           have hB1 := hB.trans d1
           have hWs1 := hB1.size
           clear d1 d2)
        | (at_builtin; refine wpList_app _ rfl _ _ rfl w.heap.size u7 (upto (fun i => (rt v k i : Int)) j) [(T : Int)] _ _ rfl (h2'.alloc _) rfl (row_one _ _ _) (unhide hln2) (by simp; omega) ?_; intro s2 w2 k2 g2 at2
           obtain ⟨d1, d2⟩ := stepped_plain h2' hWs1 k2 g2 at2
           obtain ⟨k1', h4'⟩ := d2 _ _ k1 h3'.symm
           have hB2 := hB1.trans d1
           clear d1 d2))
      go_wp2
      go_roundw
      case rel => exact ⟨j + 1, by omega, by go_num, by rw [unhide e1]; exact k1', by rw [unhide e2]; exact k2, h4', hB2⟩
      case measure => simp [intOf]; omega
    · obtain rfl : j = v.length := by omega
      go_wp2
      go_ret2
      exact ⟨_, _, rfl, h1, h2, h3, hB⟩

theorem left (a : Option Addr) (cap : Nat) (v : List Int) (k : Nat) (n : Nat) (w : World) (hn : Hid (v.length = n)) (hv : n ≤ 6) (hk : k ≤ 8) (h : Hid (k = 0 ∨ 0 < loud v)) (hr : Row w a (upto (fun i => (qt v k i : Int)) n)) :
    Calls Tryz.prog 58 #[.slice a n cap, .int .i64 k] w fun e w' => e = .returned (.int .i64 (lft v k)) ∧ w = w' := by
  have hle : ∀ j, j ≤ n → tot (qt v k) j ≤ k := fun j hj => by
    have h1 := qt_le k (unhide h)
    have h2 := tot_le (f := fun i => if i < j then qt v k i else 0) (g := qt v k) (n := v.length) fun i _ => by split <;> omega
    have h3 : ∀ m, tot (fun i => if i < j then qt v k i else 0) (j + m) = tot (qt v k) j := by
      intro m
      induction m with
      | zero => exact tot_congr fun i hi => if_pos hi
      | succ m ih => rw [← Nat.add_assoc, tot, ih, if_neg (by omega)]; omega
    have := h3 (v.length - j)
    rw [show j + (v.length - j) = v.length by rw [unhide hn]; omega] at this
    omega
  have HE : Hid (k - tot (qt v k) n = lft v k) := hide (by unfold lft; rw [unhide hn])
  go_enter Tryz.func58, Tryz.ntmps58
  go_wp2
  go_loop [1, 9] (fun t i => ∃ j t' : Nat, j ≤ n ∧ i = .int .i64 j ∧ t = .int .i64 t' ∧ Hid (t' + tot (qt v k) j = k) ∧ t' ≤ 8) (fun _ i => n - (intOf i).toNat)
  case atStart => exact ⟨0, k, Nat.zero_le _, rfl, rfl, rfl, hk⟩
  case round =>
    obtain ⟨j, t, hj, rfl, rfl, HT, ht⟩ := hrel
    by_cases hlt : j < n
    · obtain ⟨b, off, rfl, hb, hc⟩ := Mid.row_cell hr (by rw [upto_length]; omega)
      have hc1 := hc j (by rw [upto_length]; omega)
      rw [upto_at _ hlt] at hc1
      have h1 := hle (j + 1) hlt
      have h2 : tot (qt v k) (j + 1) = tot (qt v k) j + qt v k j := rfl
      have h3 := unhide HT
      obtain ⟨Q, hQ⟩ : ∃ Q, qt v k j = Q := ⟨_, rfl⟩
      rw [hQ] at h2 hc1
      obtain ⟨t2, h4⟩ : ∃ t2, t = t2 + Q := ⟨t - Q, by omega⟩
      have HS : Hid (t2 + tot (qt v k) (j + 1) = k) := hide (by omega)
      have hsub : (t : Int) - (Q : Int) = (t2 : Int) := by omega
      have h5 : t2 ≤ 8 := by omega
      have hQ8 : Q ≤ 8 := by omega
      clear h1 h2 h3 h4 hQ hle hc
      go_wp2
      go_round
      case rel => exact ⟨j + 1, t2, by omega, by go_num, by go_num, HS, h5⟩
      case measure => simp [intOf]; omega
    · obtain rfl : j = n := by omega
      have h1 := unhide HT
      clear hle
      go_wp2
      go_ret
      exact ⟨ret_int (by rw [← unhide HE]; omega), rfl⟩

end Go.Proofs.YthkibjhhlcfceajGreatDoor.Nea
