/-
  hornref1.Tree, level by level: its contract.
-/
import Derived.Test.YtcodgebchmhobabDoorRefLevels
import Derived.Test.YtcodgebchmhobabDoorOwnStep
import Derived.Test.YtcodgebchmhobabDoorDown
namespace Go.Proofs.YtcodgebchmhobabDoor.Tre
open Go.RowKit
set_option linter.unusedVariables false

theorem has_drew {w : World} {n : Nat} {base : Nat} {v : Value} {l : List Int} (h : Has w base v l) : Has (w.drewN n) base v l := h
theorem row_drew {w : World} {n : Nat} {a : Option Addr} {l : List Int} (h : Row w a l) : Row (w.drewN n) a l := h.below ⟨rfl, rfl, rfl, Nat.le_refl _, fun _ _ => rfl⟩

set_option maxHeartbeats 4000000 in
theorem refTree (k : Nat) : ∀ (a : Option Addr) (cap : Nat) (l : List Int) (w : World), k ≤ 5 → l.length ≤ 32 → Hid (2 ^ k ∣ l.length) → In 1000 l → Row w a l →
    Calls Tryd.prog 6 #[.slice a l.length cap, .int .i64 k] w fun e w' => ∃ a' n' cap', e = .returned (.slice a' n' cap') ∧ Hid (n' = (tree k l).length) ∧ Row w' a' (tree k l) ∧ Below w.heap.size w w' := by
  induction k with
  | zero =>
    intro a cap l w hk hl hd hi hr
    go_enter Tryd.func6, Tryd.ntmps6
    go_wp2
    go_ret
    exact ⟨_, _, _, rfl, hide rfl, hr, Below.refl _ _⟩
  | succ k ih =>
    intro a cap l w hk hl hd hi hr
    have HH := hide (half_dvd (unhide hd))
    have hev : ∃ n, l.length = 2 * n := ⟨_, (unhide HH).2⟩
    obtain ⟨n, hn⟩ := hev
    have HN := hide hn
    have hn1 : l.length ≤ 2 * n := by omega
    have hn2 : 2 * n ≤ l.length := by omega
    clear hn
    obtain ⟨N, hN⟩ : ∃ N : Int, N = ((k + 1 : Nat) : Int) := ⟨_, rfl⟩
    rw [← hN]
    have hk1 : N - 1 = (k : Int) := by omega
    have hk2 : (N == 0) = false := by simp; omega
    have hN0 : 0 ≤ N := by omega
    have hN9 : N ≤ 6 := by omega
    clear hN
    go_enter Tryd.func6, Tryd.ntmps6
    go_wp2
    go_loopw [5, 6, 7] (fun s d i wr => ∃ j : Nat, j ≤ n ∧ i = .int .i64 (2 * (j : Int)) ∧ Has wr w.heap.size s (upto (sumAt l) j) ∧ Has wr w.heap.size d (upto (difAt l) j) ∧ Off s d ∧ Below w.heap.size w wr) (fun _ _ i _ => 2 * n - (intOf i).toNat)
    case atStart => exact ⟨0, Nat.zero_le _, rfl, Has.nil _ _, Has.nil _ _, Or.inl rfl, Below.refl _ _⟩
    case round =>
      obtain ⟨j, hj, rfl, h1, h2, h3, hB⟩ := hrel
      by_cases hlt : j < n
      · obtain ⟨b, off, rfl, hb, hcs⟩ := hr.at (k := 0) (by omega)
        obtain ⟨x0, x1⟩ := hi.at (by omega) (2 * j)
        obtain ⟨y0, y1⟩ := hi.at (by omega) (2 * j + 1)
        obtain ⟨X, hX⟩ : ∃ X, X = at0 l (2 * j) := ⟨_, rfl⟩
        obtain ⟨Y, hY⟩ : ∃ Y, Y = at0 l (2 * j + 1) := ⟨_, rfl⟩
        rw [← hX] at x0 x1
        rw [← hY] at y0 y1
        have hc1 : wr.cell? ⟨b, off + 2 * j, none⟩ = some (.int .i64 X) := (hB.cell (p := ⟨b, off + 2 * j, none⟩) hb).trans ((hcs (2 * j) (by omega)).trans (by rw [hX, List.getD_eq_getElem?_getD]; rfl))
        have hc2 : wr.cell? ⟨b, off + (2 * j + 1), none⟩ = some (.int .i64 Y) := (hB.cell (p := ⟨b, off + (2 * j + 1), none⟩) hb).trans ((hcs (2 * j + 1) (by omega)).trans (by rw [hY, List.getD_eq_getElem?_getD]; rfl))
        have HX := hide hX
        have HY := hide hY
        clear hX hY hcs
        have e1 : Hid (upto (sumAt l) (j + 1) = upto (sumAt l) j ++ [(X + Y) / 2]) := hide (by rw [upto_succ, sumAt, ← unhide HX, ← unhide HY])
        have e2 : Hid (upto (difAt l) (j + 1) = upto (difAt l) j ++ [X - Y]) := hide (by rw [upto_succ, difAt, ← unhide HX, ← unhide HY])
        have hl1 : Hid ((upto (sumAt l) j).length + 1 ≤ 1000000) := hide (by rw [upto_length]; omega)
        have hl2 : Hid ((upto (difAt l) j).length + 1 ≤ 1000000) := hide (by rw [upto_length]; omega)
        have hw1 : IntKind.i64.wrap (2 * (j : Int) + 1) = 2 * (j : Int) + 1 := IntWalk.i64_in _ (by omega)
        have hw2 : IntKind.i64.wrap (X + Y) = X + Y := IntWalk.i64_in _ (by omega)
        have hn4 : (2 * (j : Int)).toNat = 2 * j := by omega
        have hn5 : (2 * (j : Int) + 1).toNat = 2 * j + 1 := by omega
        have hm0 : 0 ≤ 2 * (j : Int) := by omega
        have hm1 : 2 * (j : Int) < l.length := by omega
        have hm2 : 0 ≤ 2 * (j : Int) + 1 := by omega
        have hm3 : 2 * (j : Int) + 1 < l.length := by omega
        go_wp2
        go_quiet ((go_at_call 12; exact Calls.quiet_of_same (down2 (X + Y) _ (by omega) (by omega))))
        have h1V : Has (wr.drewN nq) w.heap.size u5 (upto (sumAt l) j) := h1
        have h2V : Has (wr.drewN nq) w.heap.size u6 (upto (difAt l) j) := h2
        have hc1V : (wr.drewN nq).cell? ⟨b, off + 2 * j, none⟩ = some (.int .i64 X) := hc1
        have hc2V : (wr.drewN nq).cell? ⟨b, off + (2 * j + 1), none⟩ = some (.int .i64 Y) := hc2
        have hBV : Below w.heap.size w (wr.drewN nq) := below_drewN hB nq
        obtain ⟨V, hV⟩ : ∃ V, wr.drewN nq = V := ⟨_, rfl⟩
        rw [hV] at h1V h2V hc1V hc2V hBV ⊢
        clear hV h1 h2 hc1 hc2 hB
        have hVs := hBV.size
        go_wp2_with (at_builtin; refine wpList_app _ rfl _ _ rfl w.heap.size u5 (upto (sumAt l) j) [(X + Y) / 2] _ _ rfl (h1V.alloc _) rfl (row_one _ _ _) (unhide hl1) (by simp; omega) ?_; intro s' w1 k1 g1 at1)
        obtain ⟨d1, d2⟩ := stepped_plain h1V hVs k1 g1 at1
        obtain ⟨h2', h3'⟩ := d2 _ _ h2V h3.symm
        have hc1' := (d1.cell (p := ⟨b, off + 2 * j, none⟩) hb).trans hc1V
        have hc2' := (d1.cell (p := ⟨b, off + (2 * j + 1), none⟩) hb).trans hc2V
        have hB1 := hBV.trans d1
        have hw3 : IntKind.i64.wrap (X - Y) = X - Y := IntWalk.i64_in _ (by omega)
        have hmx : Tryd.prog.follows .mixedOrders = true := by kernel_rfl
        have hw1s := hB1.size
        go_region_law (refine step_app _ rfl _ _ rfl w.heap.size u6 (upto (difAt l) j) [X - Y] _ _ rfl (Has.alloc (w := w1.drew) h2' _) rfl (row_one' (w := w1.drew) rfl) (unhide hl2) (by simp; omega) ?_; intro d' w2 k2 g2 at2)
        all_goals
          obtain ⟨f1, f2⟩ := stepped_plain (W := w1.drew) h2' hw1s k2 g2 at2
          obtain ⟨k1', h4'⟩ := f2 _ _ k1 h3'.symm
          go_wp2
          go_roundw
          case rel => exact ⟨j + 1, by omega, by go_num, by rw [unhide e1]; exact k1', by rw [unhide e2]; exact k2, h4', hB1.trans ⟨f1.os, f1.tape, f1.output, f1.size, f1.block⟩⟩
          case measure => simp [intOf]; omega
      · have hjn : n = j := by omega
        subst hjn
        have hhalf : l.length / 2 = n := by omega
        have h1' : Has wr w.heap.size u5 (sums l) := by unfold sums; rw [hhalf]; exact h1
        have h2' : Has wr w.heap.size u6 (difs l) := by unfold difs; rw [hhalf]; exact h2
        have hs1 : Hid ((sums l).length = n) := hide (by rw [sums_length]; exact hhalf)
        have hs2 : Hid ((difs l).length = n) := hide (by rw [difs_length]; exact hhalf)
        have hd' : Hid (2 ^ k ∣ (sums l).length) := hide (by rw [sums_length]; exact (unhide HH).1)
        have ht : Hid ((tree k (sums l)).length = n) := hide (by rw [tree_length k _ (unhide hd'), unhide hs1])
        have hin := sums_in (by omega) hi
        clear h1 h2 hhalf
        obtain ⟨p1, q1, rfl, r1⟩ := h1'.row
        obtain ⟨p2, q2, rfl, r2⟩ := h2'.row
        obtain ⟨n1, hn1'⟩ : ∃ n1, n1 = (sums l).length := ⟨_, rfl⟩
        obtain ⟨n2, hn2'⟩ : ∃ n2, n2 = (difs l).length := ⟨_, rfl⟩
        have hih := ih p1 q1 (sums l) wr (by omega) (by rw [unhide hs1]; omega) hd' hin r1
        rw [← hn1'] at hih ⊢
        rw [← hn2']
        have HN2 := hide hn2'
        clear hn1' hn2'
        go_wp2_with fail
        refine hih.mono ?_
        clear hih
        rintro e w3 ⟨a3, n3, c3, rfl, H3, r3, hb3⟩
        have hB3 := hB.trans (hb3.mono hB.size)
        have r2' := r2.below hb3
        go_wp2_with (first
          | (at_builtin; refine wpList_app0 _ rfl _ _ rfl w.heap.size (tree k (sums l)) a3 c3 rfl (congrArg (fun n => Value.slice a3 n c3) (unhide H3)) r3 (by rw [unhide ht]; omega) hB3.size ?_; intro all w4 k4 b4 _; clear r3; have r2'' := r2'.below b4)
          | (at_builtin; refine wpList_app _ rfl _ _ rfl w.heap.size all (tree k (sums l)) (difs l) p2 q2 rfl k4 (congrArg (fun n => Value.slice p2 n q2) (unhide HN2)) r2'' (by rw [unhide ht, unhide hs2]; omega) (Nat.le_trans hB3.size b4.size) ?_; intro v5 w5 k5 g5 _))
        obtain ⟨p5, q5, rfl, r5⟩ := k5.row
        have hB4 := hB3.trans (b4.mono hB3.size)
        have hB5 := hB4.grown g5 hB4.size (fun r e => (k4.lt r e).1)
        go_ret
        exact ⟨_, _, _, rfl, hide rfl, r5, hB5⟩

end Go.Proofs.YtcodgebchmhobabDoor.Tre
