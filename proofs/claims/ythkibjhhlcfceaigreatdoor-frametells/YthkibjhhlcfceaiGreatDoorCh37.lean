/-
  hornref1.Cut: by its contract.
-/
import Derived.Test.YthkibjhhlcfceaiGreatDoorCh08
import Derived.Test.YthkibjhhlcfceaiGreatDoorCh36
import Derived.Test.YthkibjhhlcfceaiGreatDoorCh07
import Derived.Test.YthkibjhhlcfceaiGreatDoorCh00
import Derived.Test.YthkibjhhlcfceaiGreatDoorCh10
namespace Go.Proofs.YthkibjhhlcfceaiGreatDoor.Bnd
open Go.RowKit
open Go.Proofs.YthkibjhhlcfceaiGreatDoor.Tre
set_option linter.unusedVariables false

/-- As many numbers as the first sizes say. -/
theorem pre_of {ll : List (List Int)} {s : List Int} (hl : ll.length = s.length) {j : Nat} (hj : j ≤ s.length) (h : ∀ r, r < j → ((rowAt ll r).length : Int) = at0 s r) : (ll.take j).flatten.length = pre s j := by
  induction j with
  | zero => simp [pre]
  | succ j ih =>
    rw [flat_step (by omega), List.length_append, ih (by omega) (fun r hr => h r (by omega)), pre_succ]
    have := h j (by omega)
    omega

theorem cell_one (w : World) (V : Value) (t : TypeId) : (w.alloc (.cells #[V] t)).cell? ⟨w.heap.size, 0, none⟩ = some V := by
  rw [World.cell?_alloc_at _ _ _ _ rfl]; rfl

set_option maxHeartbeats 2000000 in
theorem refCut (a : Option Addr) (cap : Nat) (l : List Int) (b : Option Addr) (capb : Nat) (s : List Int) (w : World) (hr : Row w a l) (hm : l.length ≤ cap) (hm9 : cap ≤ 9223372036854775807) (hs : Row w b s) (h : Hid (bf s = 0)) (ht : Hid (total s = l.length)) :
    Calls Tryz.prog 21 #[.slice a l.length cap, .slice b s.length capb] w fun e w' => ∃ A C, e = .returned (.slice A s.length C) ∧ Rws w' A (cuts l s) ∧ Below w.heap.size w w' := by
  obtain ⟨f1, f2, f3, f4⟩ := bf_ok (unhide h)
  have hl0 : 0 < l.length := by have := total_pos f3 f1; have := unhide ht; omega
  have hl32 : l.length ≤ 32 := by have := unhide ht; omega
  obtain ⟨b0, off0, rfl, hb0, _⟩ := hr.at hl0
  have HSL : Hid (∀ j, j < s.length → Row w (some ⟨b0, off0 + pre s j, none⟩) (cutAt l s j)) := hide (fun j hj => (hr.drop (pre s j)).take _)
  obtain ⟨N, hN⟩ : ∃ N, s.length = N := ⟨_, rfl⟩
  obtain ⟨M0, hM0⟩ : ∃ M0, l.length = M0 := ⟨_, rfl⟩
  have HN := hide hN
  have HSZ := hide f3
  have HM0 := hide hM0
  rw [hN] at f1 f2 ⊢
  rw [hM0] at hm hl32 ht ⊢
  clear hN hM0 f3 f4 hl0
  go_enter Tryz.func21, Tryz.ntmps21
  go_wp2
  go_loopw [5, 6, 7] (fun o t i wr => ∃ (j P : Nat) (vs : List Value), j ≤ N ∧ i = .int .i64 j ∧ t = .int .i64 P ∧ Hid (P = pre s j) ∧ P ≤ M0 ∧ HasS wr w.heap.size o vs ∧ Hid (vs.length = j) ∧ Hid (∀ r, r < j → ∃ V, vs[r]? = some V ∧ Sli w V (cutAt l s r)) ∧ Below w.heap.size w wr) (fun _ _ i _ => N - (intOf i).toNat)
  case atStart => exact ⟨0, 0, [], Nat.zero_le _, rfl, rfl, rfl, Nat.zero_le _, HasS.nil _ _, hide rfl, hide (fun r hr => by omega), Below.refl _ _⟩
  case round =>
    obtain ⟨j, P, vs, hj, rfl, rfl, HP, hPM, hS, HV, HD, hB⟩ := hrel
    by_cases hlt : j < N
    · have hjs : j < s.length := by rw [unhide HN]; exact hlt
      obtain ⟨b1, off1, rfl, hb1, hc1⟩ := cell_at hs (by omega)
      have c0 := hc1 j hjs
      have h1 := unhide HSZ j hjs
      have hp := pre_total s (j := j + 1) hjs
      rw [pre_succ, unhide ht, ← unhide HP] at hp
      have HQ : Hid (pre s (j + 1) = P + (at0 s j).toNat) := hide (by rw [pre_succ, unhide HP])
      have HC1 : Hid ((cutAt l s j).length = (at0 s j).toNat) := hide (cutAt_length (by rw [unhide ht, unhide HM0]) hjs)
      have hrow := unhide HSL j hjs
      rw [← unhide HP] at hrow
      obtain ⟨X, hX⟩ : ∃ X : Nat, at0 s j = X := ⟨(at0 s j).toNat, by omega⟩
      rw [hX] at c0 h1 hp HC1 HQ
      have c1 := (hB.cell (p := ⟨b1, off1 + j, none⟩) hb1).trans c0
      have HC0 := hide c0
      have hXX : ((X : Int)).toNat = X := by omega
      rw [hXX] at hp HC1 HQ
      obtain ⟨Q, hQ⟩ : ∃ Q, P + X = Q := ⟨_, rfl⟩
      have hwq : IntKind.i64.wrap ((P : Int) + (X : Int)) = (Q : Int) := by rw [← hQ]; exact IntWalk.i64_in _ (by omega)
      rw [hQ] at hp HQ
      have HV1 : Hid (Sli w (.slice (some ⟨b0, off0 + P, none⟩) (Q - P) (cap - P)) (cutAt l s j)) := hide ⟨_, _, by rw [unhide HC1, show Q - P = X by omega], fun e => (by cases e), by rw [unhide HC1]; omega, by omega, hrow⟩
      have hPQ : P ≤ Q := by omega
      have hQM : Q ≤ M0 := by omega
      have hQc : Q ≤ cap := by omega
      have hcP : ¬ (cap = P) := by omega
      have hlen : Hid (vs.length + 1 ≤ 1000000) := hide (by rw [unhide HV]; omega)
      have hBs := hB.size
      have hQ32 : Q ≤ 32 := by omega
      clear hc1 h1 hp hX hXX hrow hjs hQ c0
      go_wp2_with (at_builtin; refine wpList_apps _ rfl _ _ rfl w.heap.size u5 vs (.slice (some ⟨b0, off0 + P, none⟩) (Q - P) (cap - P)) wr.heap.size 0 1 rfl (hS.alloc _) rfl rfl (cell_one wr _ _) (unhide hlen) (by simp; omega) ?_; intro s1 w1 k1 g1 at1; have hB1 : Below w.heap.size w w1 := (hB.alloc hBs _).grown g1 (by simp; omega) (fun q e => (hS.lt q e).1); have c1' := (hB1.cell (p := ⟨b1, off1 + j, none⟩) hb1).trans (unhide HC0); clear c1 g1 at1 hS)
      go_roundw
      case rel => exact ⟨j + 1, Q, _, by omega, by go_num, by go_num, hide (unhide HQ).symm, hQM, k1, hide (by rw [List.length_append, unhide HV]; rfl), hide (fun r hr => by
        by_cases e : r = j
        · refine ⟨_, ?_, by rw [e]; exact unhide HV1⟩
          rw [List.getElem?_append_right (by rw [unhide HV]; omega), unhide HV, e, Nat.sub_self]
          rfl
        · obtain ⟨V, hV, hSl⟩ := unhide HD r (by omega)
          exact ⟨V, by rw [List.getElem?_append_left (by rw [unhide HV]; omega)]; exact hV, hSl⟩), hB1⟩
      case measure => simp [intOf]; omega
    · obtain rfl : j = N := by omega
      obtain ⟨a', c', rfl, h'⟩ := hS.rws (ll := cuts l s) (by rw [cuts_length, unhide HV, unhide HN]) (fun r hr => by
        rw [cuts_length, unhide HN] at hr
        obtain ⟨V, hV, hH⟩ := unhide HD r hr
        exact ⟨V, hV, by rw [cuts_at l s (by rw [unhide HN]; exact hr)]; exact hH.below hB⟩)
      rw [cuts_length, unhide HN]
      clear HD hS
      go_wp2
      go_ret
      exact ⟨_, _, rfl, h', hB⟩

end Go.Proofs.YthkibjhhlcfceaiGreatDoor.Bnd

/-
  hornref1.Down: a number by another one, rounded down.
-/
namespace Go.Proofs.YthkibjhhlcfceaiGreatDoor
open Go.RowKit
set_option linter.unusedVariables false

theorem td (n k : Int) (hk : 0 < k) : k * n.tdiv k + n.tmod k = n ∧ -k < n.tmod k ∧ n.tmod k < k :=
  ⟨Int.mul_tdiv_add_tmod n k, Int.lt_tmod_of_pos n hk, Int.tmod_lt_of_pos n hk⟩

theorem down2 (n : Int) (w : World) (h0 : -1000000 ≤ n) (h1 : n ≤ 1000000) :
    Calls Tryz.prog 62 #[.int .i64 n, .int .i64 2] w fun e w' => e = .returned (.int .i64 (n / 2)) ∧ w' = w := by
  obtain ⟨t1, t2, t3⟩ := td n 2 (by omega)
  have q0 : -1000000 ≤ n.tdiv 2 ∧ n.tdiv 2 ≤ 1000000 := by omega
  obtain ⟨q1, q2⟩ := q0
  by_cases hm : n.tmod 2 < 0
  · have hd : decide (n.tmod 2 < 0) = true := decide_eq_true hm
    go_enter Tryz.func62, Tryz.ntmps62
    go_wp2
    go_ret
    exact ⟨ret_int (by omega), rfl⟩
  · have hd : decide (n.tmod 2 < 0) = false := decide_eq_false hm
    go_enter Tryz.func62, Tryz.ntmps62
    go_wp2
    go_ret
    exact ⟨ret_int (by omega), rfl⟩
theorem down4 (n : Int) (w : World) (h0 : -1000000 ≤ n) (h1 : n ≤ 1000000) :
    Calls Tryz.prog 62 #[.int .i64 n, .int .i64 4] w fun e w' => e = .returned (.int .i64 (n / 4)) ∧ w' = w := by
  obtain ⟨t1, t2, t3⟩ := td n 4 (by omega)
  have q0 : -1000000 ≤ n.tdiv 4 ∧ n.tdiv 4 ≤ 1000000 := by omega
  obtain ⟨q1, q2⟩ := q0
  by_cases hm : n.tmod 4 < 0
  · have hd : decide (n.tmod 4 < 0) = true := decide_eq_true hm
    go_enter Tryz.func62, Tryz.ntmps62
    go_wp2
    go_ret
    exact ⟨ret_int (by omega), rfl⟩
  · have hd : decide (n.tmod 4 < 0) = false := decide_eq_false hm
    go_enter Tryz.func62, Tryz.ntmps62
    go_wp2
    go_ret
    exact ⟨ret_int (by omega), rfl⟩

end Go.Proofs.YthkibjhhlcfceaiGreatDoor

/-
  hornref1.Lap: by its contract.
-/
namespace Go.Proofs.YthkibjhhlcfceaiGreatDoor.Lap
open Go.RowKit
open Go.Proofs.YthkibjhhlcfceaiGreatDoor.Tre
set_option linter.unusedVariables false

theorem at_ev {l : List Int} {n j : Nat} (hn : n = l.length / 2) (h : j < n) : at0 (ev l) j = at0 l (2 * j) := by subst hn; exact upto_at _ h
theorem at_od {l : List Int} {n j : Nat} (hn : n = l.length / 2) (h : j < n) : at0 (od l) j = at0 l (2 * j + 1) := by subst hn; exact upto_at _ h
/-- Of a difference, by the numbers beside it. -/
theorem dif_step {l : List Int} {n j T : Nat} (hn : n = l.length / 2) (h : j < n) (hT : T = if j + 1 < n then 2 * j + 2 else 2 * j) : upto (difF (ev l) (od l)) (j + 1) = upto (difF (ev l) (od l)) j ++ [at0 l (2 * j + 1) - (at0 l (2 * j) + at0 l T) / 2] := by
  rw [upto_succ]
  have e : min (j + 1) ((ev l).length - 1) < n := by rw [ev_length, ← hn]; omega
  have e2 : 2 * min (j + 1) ((ev l).length - 1) = T := by
    rw [ev_length, ← hn, hT]
    by_cases h3 : j + 1 < n
    · rw [if_pos h3, Nat.min_eq_left (by omega)]; omega
    · rw [if_neg h3, Nat.min_eq_right (by omega)]; omega
  unfold difF gs
  rw [at_od hn h, at_ev hn h, at_ev hn e, e2]
theorem sty_step {l : List Int} {n j T : Nat} (hn : n = l.length / 2) (h : j < n) (hT : T = j - 1) : upto (styF (ev l) (dif l)) (j + 1) = upto (styF (ev l) (dif l)) j ++ [at0 l (2 * j) + (at0 (dif l) T + at0 (dif l) j + 2) / 4] := by
  rw [upto_succ]
  unfold styF lf
  rw [at_ev hn h, hT]

set_option maxRecDepth 100000 in
set_option maxHeartbeats 8000000 in
theorem refLap (a : Option Addr) (cap : Nat) (l : List Int) (w : World) (hl : l.length ≤ 32) (he : Hid (l.length = 2 * (l.length / 2))) (hi : In 1000 l) (hr : Row w a l) :
    Calls Tryz.prog 22 #[.slice a l.length cap] w fun e w' => ∃ v, e = .returned v ∧ Has w' w.heap.size v (lap l) ∧ Below w.heap.size w w' := by
  obtain ⟨n, hn⟩ : ∃ n, n = l.length / 2 := ⟨_, rfl⟩
  have hdv : Int.tdiv (l.length : Int) 2 = (n : Int) := by rw [hn]; rfl
  have hn9 : n ≤ 16 := by omega
  have hN2 : 2 * n ≤ l.length := by omega
  have hN3 : l.length ≤ 2 * n := by have := unhide he; omega
  have HN := hide hn
  have hin := dif_in (by omega) hi
  have HLD : Hid ((dif l).length = n) := hide (by rw [dif_length]; exact hn.symm)
  have HLS : Hid ((sty l).length = n) := hide (by rw [sty_length]; exact hn.symm)
  obtain ⟨L, hL⟩ : ∃ L, l.length = L := ⟨_, rfl⟩
  rw [hL] at hdv hN2 hN3 hl ⊢
  have HL := hide hL
  clear hn hL
  go_enter Tryz.func22, Tryz.ntmps22
  go_wp2
  go_loopw [4, 6] (fun d i wr => ∃ j : Nat, j ≤ n ∧ i = .int .i64 j ∧ Has wr w.heap.size d (upto (difF (ev l) (od l)) j) ∧ Below w.heap.size w wr) (fun _ i _ => n - (intOf i).toNat)
  case atStart => exact ⟨0, Nat.zero_le _, rfl, Has.nil _ _, Below.refl _ _⟩
  case round =>
    obtain ⟨j, hj, rfl, h1, hB⟩ := hrel
    by_cases hlt : j < n
    · obtain ⟨b, off, rfl, hc⟩ := row_cell (hr.below hB) (by rw [unhide HL]; omega)
      rw [unhide HL] at hc
      obtain ⟨T, hT⟩ : ∃ T, T = if j + 1 < n then 2 * j + 2 else 2 * j := ⟨_, rfl⟩
      have HS := hide (dif_step (unhide HN) hlt hT)
      obtain ⟨E, hE⟩ : ∃ E, E = 2 * j := ⟨_, rfl⟩
      obtain ⟨O, hO⟩ : ∃ O, O = 2 * j + 1 := ⟨_, rfl⟩
      rw [← hO, ← hE] at HS
      have hT2 : T = if j + 1 < n then E + 2 else E := by rw [hT, hE]
      have hEl : E < L := by omega
      have hOl : O < L := by omega
      have hTl : T < L := by rw [hT]; split <;> omega
      have c1 := hc E hEl
      have c2 := hc O hOl
      have c3 := hc T hTl
      obtain ⟨x0, x1⟩ := hi.at (by omega) E
      obtain ⟨y0, y1⟩ := hi.at (by omega) O
      obtain ⟨z0, z1⟩ := hi.at (by omega) T
      obtain ⟨X, hX⟩ : ∃ X, at0 l E = X := ⟨_, rfl⟩
      obtain ⟨Y, hY⟩ : ∃ Y, at0 l O = Y := ⟨_, rfl⟩
      obtain ⟨Z, hZ⟩ : ∃ Z, at0 l T = Z := ⟨_, rfl⟩
      rw [hX] at c1 x0 x1 HS
      rw [hY] at c2 y0 y1 HS
      rw [hZ] at c3 z0 z1 HS
      clear hX hY hZ hc hT
      have hE2 : 2 * (j : Int) = (E : Int) := by omega
      have hO2 : (E : Int) + 1 = (O : Int) := by omega
      have hln : Hid ((upto (difF (ev l) (od l)) j).length + 1 ≤ 1000000) := hide (by rw [upto_length]; omega)
      clear hE hO
      by_cases h3 : j + 1 < n
      all_goals (first
        | (rw [if_pos h3] at hT2
           have hT3 : (E : Int) + 2 = (T : Int) := by omega
           clear hT2
           go_wp2
           go_quiet ((go_at_call 62; exact Calls.quiet_of_same (down2 (X + Z) _ (by omega) (by omega)))))
        | (rw [if_neg h3] at hT2
           obtain rfl := hT2
           obtain rfl : X = Z := by rw [c1] at c3; cases c3; rfl
           go_wp2
           go_quiet ((go_at_call 62; exact Calls.quiet_of_same (down2 (X + X) _ (by omega) (by omega))))))
      all_goals
        have h1V : Has (wr.drewN nq) w.heap.size u4 (upto (difF (ev l) (od l)) j) := h1
        have c2V : (wr.drewN nq).cell? ⟨b, off + O, none⟩ = some (.int .i64 Y) := c2
        have hBV : Below w.heap.size w (wr.drewN nq) := hB.trans ⟨rfl, rfl, rfl, Nat.le_refl _, fun _ _ => rfl⟩
        obtain ⟨V, hV⟩ : ∃ V, wr.drewN nq = V := ⟨_, rfl⟩
        rw [hV] at h1V c2V hBV ⊢
        clear hV h1 c1 c2 c3 hB
        have hVs := hBV.size
        go_wp2_with (at_builtin; refine wpList_app _ rfl _ _ rfl w.heap.size u4 (upto (difF (ev l) (od l)) j) _ _ _ rfl (h1V.alloc _) rfl (row_one _ _ _) (unhide hln) (by simp; omega) ?_; intro s' w1 k1 g1 at1)
        obtain ⟨d1, d2⟩ := stepped_plain h1V hVs k1 g1 at1
        go_wp2
        go_roundw
        case rel => exact ⟨j + 1, by omega, by go_num, by rw [unhide HS]; exact k1, hBV.trans d1⟩
        case measure => simp [intOf]; omega
    · obtain rfl : n = j := by omega
      have h1' : Has wr w.heap.size u4 (dif l) := by unfold dif; rw [← unhide HN]; exact h1
      clear h1
      obtain ⟨p2, q2, rfl, -⟩ := h1'.row
      rw [unhide HLD] at h1' ⊢
      go_wp2
      go_loopw [5, 9] (fun s i wr => ∃ j : Nat, j ≤ n ∧ i = .int .i64 j ∧ Has wr w.heap.size s (upto (styF (ev l) (dif l)) j) ∧ Has wr w.heap.size (.slice p2 n q2) (dif l) ∧ Off (.slice p2 n q2) s ∧ Below w.heap.size w wr) (fun _ i _ => n - (intOf i).toNat)
      case atStart => exact ⟨0, Nat.zero_le _, rfl, Has.nil _ _, h1', off_nil _, hB⟩
      case round =>
        obtain ⟨j, hj, rfl, h1, h2, h3, hB2⟩ := hrel
        clear h1' hB
        by_cases hlt : j < n
        · obtain ⟨b, off, rfl, hc⟩ := row_cell (hr.below hB2) (by rw [unhide HL]; omega)
          rw [unhide HL] at hc
          obtain ⟨g, c, e1, hg1, hg2, hg3, hg4⟩ := h2.one (by rw [unhide HLD]; omega)
          rw [unhide HLD] at e1
          obtain ⟨rfl, -, rfl⟩ := Value.slice.inj e1
          obtain ⟨T, hT⟩ : ∃ T, T = j - 1 := ⟨_, rfl⟩
          have HS := hide (sty_step (unhide HN) hlt hT)
          obtain ⟨E, hE⟩ : ∃ E, E = 2 * j := ⟨_, rfl⟩
          rw [← hE] at HS
          have hEl : E < L := by omega
          have c1 := hc E hEl
          have c2 := h2.get (j := j) (by rw [unhide HLD]; exact hlt)
          have c3 := h2.get (j := T) (by rw [unhide HLD]; omega)
          obtain ⟨x0, x1⟩ := hi.at (by omega) E
          obtain ⟨y0, y1⟩ := hin.at (by omega) j
          obtain ⟨z0, z1⟩ := hin.at (by omega) T
          obtain ⟨X, hX⟩ : ∃ X, at0 l E = X := ⟨_, rfl⟩
          obtain ⟨Y, hY⟩ : ∃ Y, at0 (dif l) j = Y := ⟨_, rfl⟩
          obtain ⟨Z, hZ⟩ : ∃ Z, at0 (dif l) T = Z := ⟨_, rfl⟩
          rw [hX] at c1 x0 x1 HS
          rw [hY] at c2 y0 y1 HS
          rw [hZ] at c3 z0 z1 HS
          clear hX hY hZ hc
          have hE2 : 2 * (j : Int) = (E : Int) := by omega
          have hln : Hid ((upto (styF (ev l) (dif l)) j).length + 1 ≤ 1000000) := hide (by rw [upto_length]; omega)
          have hTn : T < n := by omega
          clear hE
          by_cases h4 : 0 < j
          all_goals (first
            | (have hT2 : (j : Int) - 1 = (T : Int) := by omega
               clear hT
               go_wp2
               go_quiet ((go_at_call 62; exact Calls.quiet_of_same (down4 (Z + Y + 2) _ (by omega) (by omega)))))
            | (obtain rfl : T = j := by omega
               obtain rfl : Y = Z := by rw [c2] at c3; cases c3; rfl
               clear hT
               go_wp2
               go_quiet ((go_at_call 62; exact Calls.quiet_of_same (down4 (Y + Y + 2) _ (by omega) (by omega))))))
          all_goals
            have h1V : Has (wr.drewN nq) w.heap.size u5 (upto (styF (ev l) (dif l)) _) := h1
            have h2V : Has (wr.drewN nq) w.heap.size (.slice (some ⟨g, 0, none⟩) n q2) (dif l) := h2
            have c1V : (wr.drewN nq).cell? ⟨b, off + E, none⟩ = some (.int .i64 X) := c1
            have hBV : Below w.heap.size w (wr.drewN nq) := hB2.trans ⟨rfl, rfl, rfl, Nat.le_refl _, fun _ _ => rfl⟩
            obtain ⟨V, hV⟩ : ∃ V, wr.drewN nq = V := ⟨_, rfl⟩
            rw [hV] at h1V h2V c1V hBV ⊢
            clear hV h1 h2 c1 c2 c3 hB2
            have hVs := hBV.size
            go_wp2_with (at_builtin; refine wpList_app _ rfl _ _ rfl w.heap.size u5 (upto (styF (ev l) (dif l)) _) _ _ _ rfl (h1V.alloc _) rfl (row_one _ _ _) (unhide hln) (by simp; omega) ?_; intro s' w1 k1 g1 at1)
            obtain ⟨d1, d2⟩ := stepped_plain h1V hVs k1 g1 at1
            obtain ⟨h2', h3'⟩ := d2 _ _ h2V h3
            go_wp2
            go_roundw
            case rel => exact ⟨_, hlt, by go_num, by rw [unhide HS]; exact k1, h2', h3', hBV.trans d1⟩
            case measure => simp [intOf]; omega
        · obtain rfl : n = j := by omega
          have h1' : Has wr w.heap.size u5 (sty l) := by unfold sty; rw [← unhide HN]; exact h1
          clear h1
          have hrd := (h2.inRow rfl).2
          go_wp2_with (at_builtin; refine wpList_app _ rfl _ _ rfl w.heap.size u5 (sty l) (dif l) p2 q2 rfl h1' (congrArg (fun n => Value.slice p2 n q2) (unhide HLD).symm) hrd (by rw [unhide HLD, unhide HLS]; omega) hB2.size ?_; intro v5 w5 k5 g5 _)
          have hB5 := hB2.grown g5 hB2.size (fun r e => (h1'.lt r e).1)
          go_ret
          exact ⟨_, rfl, k5, hB5⟩

end Go.Proofs.YthkibjhhlcfceaiGreatDoor.Lap
