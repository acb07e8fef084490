/-
  hornref1.Back, level by level: its contract.
-/
import Derived.Test.YtcodgebchmhobabDoorRefTree
import Derived.Test.YtcodgebchmhobabDoorTreeInv
namespace Go.Proofs.YtcodgebchmhobabDoor.Tre
open Go.RowKit
set_option linter.unusedVariables false

theorem refAll_nil (c : Int) (w : World) (hc0 : 0 ≤ c) (hc9 : c ≤ 8000) : Calls Tryd.prog 5 #[.slice none 0 0, .int .i64 c] w fun e w' => e = .returned (.bool true) ∧ w' = w :=
  refAll c none 0 [] w hc0 hc9 (by simp) (Or.inl rfl)

set_option maxHeartbeats 4000000 in
theorem refBack_nil (k : Nat) : ∀ (a : Option Addr) (cap : Nat) (w : World), k ≤ 5 → (a = none → cap = 0) → cap ≤ 9223372036854775807 →
    Calls Tryd.prog 10 #[.slice a 0 cap, .int .i64 k] w fun e w' => ∃ a' cap', e = .returned (.tuple #[.slice a' 0 cap', .int .i64 0]) ∧ Below w.heap.size w w' := by
  induction k with
  | zero =>
    intro a cap w hk ha hm
    go_enter Tryd.func10, Tryd.ntmps10
    go_wp2
    go_ret2
    exact ⟨_, _, rfl, Below.refl _ _⟩
  | succ k ih =>
    intro a cap w hk ha hm
    obtain ⟨N, hN⟩ : ∃ N : Int, N = ((k + 1 : Nat) : Int) := ⟨_, rfl⟩
    rw [← hN]
    have hk1 : N - 1 = (k : Int) := by omega
    have hk2 : (N == 0) = false := by simp; omega
    have hN0 : 0 ≤ N := by omega
    have hN9 : N ≤ 6 := by omega
    clear hN
    cases a with
    | none =>
      obtain rfl := ha rfl
      go_enter Tryd.func10, Tryd.ntmps10
      go_wp2_with fail
      refine (ih none 0 w (by omega) (fun _ => rfl) (by omega)).mono ?_
      rintro e w1 ⟨a1, c1, rfl, hb1⟩
      go_wp2
      refine wp_loop_rounds 1 ?_
      rw [rounds_succ]
      go_wp2_with fail
      refine (refAll_nil 4000 w1 (by omega) (by omega)).mono ?_
      rintro e w2 ⟨rfl, rfl⟩
      go_wp2
      go_ret2
      exact ⟨_, _, rfl, hb1⟩
    | some A =>
      go_enter Tryd.func10, Tryd.ntmps10
      go_wp2_with fail
      refine (ih (some A) cap w (by omega) (fun h => by cases h) hm).mono ?_
      rintro e w1 ⟨a1, c1, rfl, hb1⟩
      go_wp2
      refine wp_loop_rounds 1 ?_
      rw [rounds_succ]
      go_wp2_with fail
      refine (refAll_nil 4000 w1 (by omega) (by omega)).mono ?_
      rintro e w2 ⟨rfl, rfl⟩
      go_wp2
      go_ret2
      exact ⟨_, _, rfl, hb1⟩

theorem back_in (k : Nat) (l x : List Int) (hl : In 2000 l) (h : back k l = some x) : In 4000 x := by
  cases k with
  | zero => cases h; exact hl.mono (by omega)
  | succ k =>
    unfold back at h
    split at h
    · cases h
    · split at h
      · cases h
      · rename_i hn
        cases h
        exact in_of_any (by simpa using hn)

def BackPost (l : List Int) (k : Nat) (e : Ending) (w' : World) : Prop :=
  (back k l = none ∧ e = .returned (.tuple #[.slice none 0 0, .int .i64 1])) ∨ ∃ x a' n' cap', back k l = some x ∧ e = .returned (.tuple #[.slice a' n' cap', .int .i64 0]) ∧ n' = x.length ∧ Row w' a' x

theorem back_succ_none {k : Nat} {l : List Int} (h : back k (l.take (l.length / 2)) = none) : back (k + 1) l = none := by rw [back, h]
theorem back_succ_some {k : Nat} {l s : List Int} (h : back k (l.take (l.length / 2)) = some s) :
    back (k + 1) l = if (joins s (l.drop (l.length / 2))).any (out 4000) = true then none else some (joins s (l.drop (l.length / 2))) := by rw [back, h]

set_option maxHeartbeats 4000000 in
theorem refBack_some (k : Nat) : ∀ (b off cap : Nat) (l : List Int) (w : World), k ≤ 5 → 0 < l.length → l.length ≤ 32 → Hid (2 ^ k ∣ l.length) → In 2000 l → l.length ≤ cap → cap ≤ 9223372036854775807 → b < w.heap.size →
    (∀ j, j < l.length → w.cell? ⟨b, off + j, none⟩ = some (.int .i64 (l.getD j 0))) →
    Calls Tryd.prog 10 #[.slice (some ⟨b, off, none⟩) l.length cap, .int .i64 k] w fun e w' => BackPost l k e w' ∧ Below w.heap.size w w' := by
  induction k with
  | zero =>
    intro b off cap l w hk h0 hl hd hi hc1 hc2 hb hcs
    go_enter Tryd.func10, Tryd.ntmps10
    go_wp2
    go_ret2
    exact ⟨Or.inr ⟨l, _, _, _, rfl, rfl, rfl, Or.inr ⟨b, off, rfl, hb, hcs⟩⟩, Below.refl _ _⟩
  | succ k ih =>
    intro b off cap l w hk h0 hl hd hi hc1 hc2 hb hcs
    have HH := hide (half_dvd (unhide hd))
    obtain ⟨n, hn⟩ : ∃ n, n = l.length / 2 := ⟨_, rfl⟩
    have HN := hide hn
    have hq : Int.tdiv (l.length : Int) 2 = (n : Int) := by rw [hn]; rfl
    have hn1 : l.length ≤ 2 * n := by have := (unhide HH).2; omega
    have hn2 : 2 * n ≤ l.length := by omega
    clear hn
    obtain ⟨N, hN⟩ : ∃ N : Int, N = ((k + 1 : Nat) : Int) := ⟨_, rfl⟩
    rw [← hN]
    have hk1 : N - 1 = (k : Int) := by omega
    have hk2 : (N == 0) = false := by simp; omega
    have hN0 : 0 ≤ N := by omega
    have hN9 : N ≤ 6 := by omega
    clear hN
    have htl : Hid ((l.take n).length = n) := hide (by rw [List.length_take]; omega)
    have hih := ih b off cap (l.take n) w (by omega) (by rw [unhide htl]; omega) (by rw [unhide htl]; omega) (hide (by rw [unhide htl, unhide HN]; exact (unhide HH).1)) (hi.take n) (by rw [unhide htl]; omega) hc2 hb
      (fun j hj => (hcs j (by rw [unhide htl] at hj; omega)).trans (by rw [unhide htl] at hj; simp [List.getD_eq_getElem?_getD, hj]))
    rw [unhide htl] at hih
    go_enter Tryd.func10, Tryd.ntmps10
    go_wp2_with fail
    refine hih.mono ?_
    clear hih
    rintro e w1 ⟨hp, hb1⟩
    rcases hp with ⟨hbn, rfl⟩ | ⟨s, a3, n3, c3, hbs, rfl, hn3, r3⟩
    · have HB := hide (back_succ_none (l := l) (by rw [← unhide HN]; exact hbn))
      clear hbn
      go_wp2
      go_ret2
      exact ⟨Or.inl ⟨unhide HB, rfl⟩, hb1⟩
    · have HB := hide (back_succ_some (l := l) (by rw [← unhide HN]; exact hbs))
      have hsi := back_in k _ _ (hi.take n) hbs
      have hsl : Hid (s.length = n) := hide (by rw [back_length k _ _ (by rw [unhide htl, unhide HN]; exact (unhide HH).1) hbs, unhide htl])
      clear hbs
      have hn3' : n = n3 := by rw [hn3, unhide hsl]
      subst hn3'
      clear hn3
      obtain ⟨b3, off3, rfl, hb3, hcs3⟩ := r3.at (k := 0) (by rw [unhide hsl]; omega)
      have hbs0 := hb1.size
      go_wp2
      go_loopw [9, 10] (fun o i wr => ∃ j : Nat, j ≤ n ∧ i = .int .i64 j ∧ Has wr w1.heap.size o (flat (oneAt s (l.drop n)) (twoAt s (l.drop n)) j) ∧ Below w1.heap.size w1 wr) (fun _ i _ => n - (intOf i).toNat)
      case atStart => exact ⟨0, Nat.zero_le _, rfl, Has.nil _ _, Below.refl _ _⟩
      case round =>
        obtain ⟨j, hj, rfl, h1, hB⟩ := hrel
        by_cases hlt : j < n
        · obtain ⟨x0, x1⟩ := hsi.at (by omega) j
          obtain ⟨y0, y1⟩ := hi.at (by omega) (n + j)
          obtain ⟨X, hX⟩ : ∃ X, X = at0 s j := ⟨_, rfl⟩
          obtain ⟨Y, hY⟩ : ∃ Y, Y = at0 l (n + j) := ⟨_, rfl⟩
          rw [← hX] at x0 x1
          rw [← hY] at y0 y1
          have hc1' : wr.cell? ⟨b3, off3 + j, none⟩ = some (.int .i64 X) := (hB.cell (p := ⟨b3, off3 + j, none⟩) hb3).trans ((hcs3 j (by rw [unhide hsl]; exact hlt)).trans (by rw [hX, List.getD_eq_getElem?_getD]; rfl))
          have hc2' : wr.cell? ⟨b, off + (n + j), none⟩ = some (.int .i64 Y) := (hB.cell (p := ⟨b, off + (n + j), none⟩) (Nat.lt_of_lt_of_le hb hbs0)).trans ((hb1.cell (p := ⟨b, off + (n + j), none⟩) hb).trans ((hcs (n + j) (by omega)).trans (by rw [hY, List.getD_eq_getElem?_getD]; rfl)))
          have HX := hide hX
          have HY := hide hY
          clear hX hY
          obtain ⟨A, hA⟩ : ∃ A, A = X + (Y + 1) / 2 := ⟨_, rfl⟩
          have e1 : Hid (flat (oneAt s (l.drop n)) (twoAt s (l.drop n)) (j + 1) = flat (oneAt s (l.drop n)) (twoAt s (l.drop n)) j ++ [A, A - Y]) := hide (by
            rw [flat_succ]
            have ey : at0 (l.drop n) j = Y := by rw [unhide HY]; simp [at0]
            unfold oneAt twoAt
            rw [ey, ← unhide HX, ← hA])
          have hl1 : Hid ((flat (oneAt s (l.drop n)) (twoAt s (l.drop n)) j).length + 2 ≤ 1000000) := hide (by rw [flat_length]; omega)
          have hw1 : IntKind.i64.wrap ((n : Int) + (j : Int)) = (n : Int) + (j : Int) := IntWalk.i64_in _ (by omega)
          have hw2 : IntKind.i64.wrap (Y + 1) = Y + 1 := IntWalk.i64_in _ (by omega)
          have hw3 : IntKind.i64.wrap (X + (Y + 1) / 2) = A := by rw [hA]; exact IntWalk.i64_in _ (by omega)
          have hA0 : -8000 ≤ A := by omega
          have hA1 : A ≤ 8000 := by omega
          clear hA
          have hm4 : ((n : Int) + (j : Int)).toNat = n + j := by omega
          have hm0 : 0 ≤ (n : Int) + (j : Int) := by omega
          have hm1 : (n : Int) + (j : Int) < l.length := by omega
          go_wp2
          go_quiet ((go_at_call 12; exact Calls.quiet_of_same (down2 (Y + 1) _ (by omega) (by omega))))
          have h1V : Has (wr.drewN nq) w1.heap.size u9 (flat (oneAt s (l.drop n)) (twoAt s (l.drop n)) j) := h1
          have hc2V : (wr.drewN nq).cell? ⟨b, off + (n + j), none⟩ = some (.int .i64 Y) := hc2'
          have hBV : Below w1.heap.size w1 (wr.drewN nq) := below_drewN hB nq
          obtain ⟨V, hV⟩ : ∃ V, wr.drewN nq = V := ⟨_, rfl⟩
          rw [hV] at h1V hc2V hBV ⊢
          clear hV h1 hc1' hc2' hB
          have hVs := hBV.size
          go_wp2_with (at_builtin; refine wpList_app _ rfl _ _ rfl w1.heap.size u9 (flat (oneAt s (l.drop n)) (twoAt s (l.drop n)) j) [A, A - Y] _ _ rfl (h1V.alloc _) rfl (row_two _ _ _ _) (unhide hl1) (by simp; omega) ?_; intro o' w4 k4 g4 at4)
          obtain ⟨d1, d2⟩ := stepped_plain h1V hVs k4 g4 at4
          go_roundw
          case rel => exact ⟨j + 1, by omega, by go_num, by rw [unhide e1]; exact k4, hBV.trans d1⟩
          case measure => simp [intOf]; omega
        · have hjn : n = j := by omega
          subst hjn
          have h1' : Has wr w1.heap.size u9 (joins s (l.drop n)) := by unfold joins; rw [unhide hsl]; exact h1
          clear h1
          have hBw := Below.chain hb1 hB
          have HB' : Hid (back (k + 1) l = if (joins s (l.drop n)).any (out 4000) = true then none else some (joins s (l.drop n))) := hide (by rw [unhide HN]; exact unhide HB)
          obtain ⟨J, hJ⟩ : ∃ J, J = joins s (l.drop n) := ⟨_, rfl⟩
          rw [← hJ] at h1' HB'
          have hJl : J.length ≤ 9223372036854775807 := by rw [hJ, joins_length, unhide hsl]; omega
          clear hJ
          obtain ⟨p1, q1, rfl, r1⟩ := h1'.row
          cases hany : J.any (out 4000)
          · have HA := hide hany
            clear hany
            go_wp2_with fail
            refine (refAll 4000 p1 q1 J wr (by omega) (by omega) hJl r1).mono ?_
            rw [unhide HA]
            rintro e w5 ⟨rfl, rfl⟩
            go_wp2
            go_ret2
            exact ⟨Or.inr ⟨J, _, _, _, by rw [unhide HB', if_neg (by rw [unhide HA]; simp)], rfl, rfl, r1⟩, hBw⟩
          · have HA := hide hany
            clear hany
            go_wp2_with fail
            refine (refAll 4000 p1 q1 J wr (by omega) (by omega) hJl r1).mono ?_
            rw [unhide HA]
            rintro e w5 ⟨rfl, rfl⟩
            go_wp2
            go_ret2
            exact ⟨Or.inl ⟨by rw [unhide HB', if_pos (unhide HA)], rfl⟩, hBw⟩

/-- What a slice that was handed in is: nil has no room; else it is no longer than its room. -/
def Roomy (a : Option Addr) (len cap : Nat) : Prop := (a = none → cap = 0) ∧ len ≤ cap ∧ cap ≤ 9223372036854775807

theorem refBack (a : Option Addr) (cap : Nat) (l : List Int) (k : Nat) (w : World) (hk : k ≤ 5) (hl : l.length ≤ 32) (hd : Hid (2 ^ k ∣ l.length)) (hi : In 2000 l) (hm : Roomy a l.length cap) (hr : Row w a l) :
    Calls Tryd.prog 10 #[.slice a l.length cap, .int .i64 k] w fun e w' => BackPost l k e w' ∧ Below w.heap.size w w' := by
  by_cases h0 : 0 < l.length
  · obtain ⟨b, off, rfl, hb, hcs⟩ := hr.at h0
    exact refBack_some k b off cap l w hk h0 hl hd hi hm.2.1 hm.2.2 hb hcs
  · obtain rfl : l = [] := List.eq_nil_of_length_eq_zero (by omega)
    exact (refBack_nil k a cap w hk hm.1 hm.2.2).mono fun e w' ⟨a', c', he, hb⟩ => ⟨Or.inr ⟨[], a', 0, c', back_nil k, he, rfl, Or.inl rfl⟩, hb⟩
theorem refBack_none (a : Option Addr) (cap : Nat) (l : List Int) (k : Nat) (w : World) (hk : k ≤ 5) (hl : l.length ≤ 32) (hd : Hid (2 ^ k ∣ l.length)) (hi : In 2000 l) (hm : Roomy a l.length cap) (hr : Row w a l) (h : Hid (back k l = none)) :
    Calls Tryd.prog 10 #[.slice a l.length cap, .int .i64 k] w fun e w' => e = .returned (.tuple #[.slice none 0 0, .int .i64 1]) ∧ Below w.heap.size w w' :=
  (refBack a cap l k w hk hl hd hi hm hr).mono fun e w' ⟨hp, hb⟩ => by
    rcases hp with ⟨_, he⟩ | ⟨x, _, _, _, hx, _⟩
    · exact ⟨he, hb⟩
    · rw [unhide h] at hx; cases hx
theorem refBack_is (a : Option Addr) (cap : Nat) (l x : List Int) (k : Nat) (w : World) (hk : k ≤ 5) (hl : l.length ≤ 32) (hd : Hid (2 ^ k ∣ l.length)) (hi : In 2000 l) (hm : Roomy a l.length cap) (hr : Row w a l) (h : Hid (back k l = some x)) :
    Calls Tryd.prog 10 #[.slice a l.length cap, .int .i64 k] w fun e w' => ∃ a' cap', e = .returned (.tuple #[.slice a' x.length cap', .int .i64 0]) ∧ Row w' a' x ∧ Below w.heap.size w w' :=
  (refBack a cap l k w hk hl hd hi hm hr).mono fun e w' ⟨hp, hb⟩ => by
    rcases hp with ⟨hn, _⟩ | ⟨y, a', n', c', hy, he, hn, hr'⟩
    · rw [unhide h] at hn; cases hn
    · rw [unhide h] at hy; cases hy; subst hn; exact ⟨a', c', he, hr', hb⟩

end Go.Proofs.YtcodgebchmhobabDoor.Tre
