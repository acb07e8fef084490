/-
  hornref1.Bands, hornref1.Cut: by their contracts.
-/
import Derived.Test.YtiddiohbnliphaeDoorBandSplit
namespace Go.Proofs.YtiddiohbnliphaeDoor.Bnd
open Go.RowKit
open Go.Proofs.YtiddiohbnliphaeDoor.Tre
set_option linter.unusedVariables false

theorem same_below {w w' : World} (h : w' = w) : Below w.heap.size w w' := by rw [h]; exact Below.refl _ _

theorem bf_bad {s : List Int} {j : Nat} (h0 : s.length ≠ 0) (h8 : ¬ 8 < s.length) (hj : j < s.length) (hb : at0 s j < 1 ∨ 6 < at0 s j) : bf s = 1 := by
  have h : s.any bad = true := List.any_eq_true.2 ⟨s[j], List.getElem_mem hj, by rw [at_get hj] at hb; simp [bad]; omega⟩
  simp [bf, h0, h8, h]
/-- As many numbers as the first sizes say. -/
theorem pre_of {ll : List (List Int)} {s : List Int} (hl : ll.length = s.length) {j : Nat} (hj : j ≤ s.length) (h : ∀ r, r < j → ((rowAt ll r).length : Int) = at0 s r) : (ll.take j).flatten.length = pre s j := by
  induction j with
  | zero => simp [pre]
  | succ j ih =>
    rw [flat_step (by omega), List.length_append, ih (by omega) (fun r hr => h r (by omega)), pre_succ]
    have := h j (by omega)
    omega

/-- What Bands tells. -/
def told (s : List Int) : Ending := .returned (.tuple #[.int .i64 (if bf s = 0 then (total s : Int) else 0), .int .i64 (bf s)])

set_option maxHeartbeats 2000000 in
theorem refBands (a : Option Addr) (cap : Nat) (s : List Int) (w : World) (hl : s.length ≤ 9223372036854775807) (hr : Row w a s) :
    Calls Tryd.prog 4 #[.slice a s.length cap] w fun e w' => e = told s ∧ w' = w := by
  by_cases h0 : s.length = 0
  · have hv : told s = .returned (.tuple #[.int .i64 0, .int .i64 5]) := by simp [told, bf, h0]
    have hz : ((s.length : Int) == 0) = true := by simp [h0]
    rw [hv]
    clear hv
    go_enter Tryd.func4, Tryd.ntmps4
    go_wp2
    go_ret2
    exact ⟨rfl, rfl⟩
  · have hz : ((s.length : Int) == 0) = false := by rw [beq_eq_false_iff_ne]; omega
    by_cases h8 : 8 < s.length
    · have hv : told s = .returned (.tuple #[.int .i64 0, .int .i64 4]) := by simp [told, bf, h0, h8]
      rw [hv]
      clear hv h0
      go_enter Tryd.func4, Tryd.ntmps4
      go_wp2
      go_ret2
      exact ⟨rfl, rfl⟩
    · have HB : Hid (∀ j, j < s.length → (at0 s j < 1 ∨ 6 < at0 s j) → told s = .returned (.tuple #[.int .i64 0, .int .i64 1])) := hide (fun j hj hb => by
        have := bf_bad h0 h8 hj hb
        simp [told, this])
      have HE : Hid (Sizes s → told s = if 32 < total s then .returned (.tuple #[.int .i64 0, .int .i64 4]) else .returned (.tuple #[.int .i64 (total s : Int), .int .i64 0])) := hide (fun hsz => by
        have hany := any_bad_no hsz
        by_cases h : 32 < total s
        · rw [if_pos h]; simp [told, bf, h0, h8, hany, h]
        · rw [if_neg h]; simp [told, bf, h0, h8, hany, h])
      obtain ⟨N, hN⟩ : ∃ N, s.length = N := ⟨_, rfl⟩
      have HN := hide hN
      rw [hN] at hz h8 hl ⊢
      clear hN h0
      go_enter Tryd.func4, Tryd.ntmps4
      go_wp2
      go_loopw [4, 5] (fun t i wr => ∃ j T : Nat, j ≤ N ∧ i = .int .i64 j ∧ t = .int .i64 T ∧ Hid (T = pre s j) ∧ T ≤ 6 * j ∧ Hid (∀ r, r < j → 1 ≤ at0 s r ∧ at0 s r ≤ 6) ∧ w = wr) (fun _ i _ => N - (intOf i).toNat)
      case atStart => exact ⟨0, 0, Nat.zero_le _, rfl, rfl, rfl, by omega, hide (fun r hr => by omega), rfl⟩
      case round =>
        obtain ⟨j, T, hj, rfl, rfl, HT, hT, HS, rfl⟩ := hrel
        by_cases hlt : j < N
        · have hlt' : j < s.length := by rw [unhide HN]; exact hlt
          obtain ⟨b, off, rfl, hb, hc⟩ := cell_at hr (by omega)
          have c1 := hc j hlt'
          have HB2 := hide (unhide HB j hlt')
          have HP : Hid (pre s (j + 1) = T + (at0 s j).toNat) := hide (by rw [pre_succ, unhide HT])
          have HS2 : Hid (1 ≤ at0 s j → at0 s j ≤ 6 → ∀ r, r < j + 1 → 1 ≤ at0 s r ∧ at0 s r ≤ 6) := hide (fun h1 h2 r hr => by
            by_cases e : r = j
            · rw [e]; exact ⟨h1, h2⟩
            · exact unhide HS r (by omega))
          obtain ⟨X, hX⟩ : ∃ X, at0 s j = X := ⟨_, rfl⟩
          rw [hX] at c1 HB2 HP HS2
          clear hc hX hlt'
          by_cases hx1 : X < 1
          · have hd : decide (X < 1) = true := by simpa using hx1
            have hv := hide (unhide HB2 (Or.inl hx1))
            go_wp2
            go_ret2
            exact ⟨(unhide hv).symm, rfl⟩
          · have hd : decide (X < 1) = false := by simpa using hx1
            by_cases hx6 : 6 < X
            · have hd6 : decide (6 < X) = true := by simpa using hx6
              have hv := hide (unhide HB2 (Or.inr hx6))
              go_wp2
              go_ret2
              exact ⟨(unhide hv).symm, rfl⟩
            · have hd6 : decide (6 < X) = false := by simpa using hx6
              obtain ⟨Y, rfl⟩ : ∃ Y : Nat, X = Y := ⟨X.toNat, by omega⟩
              have hS3 := hide (unhide HS2 (by omega) (by omega))
              have hYY : ((Y : Int)).toNat = Y := by omega
              rw [hYY] at HP
              have h6 : T + Y ≤ 6 * (j + 1) := by omega
              have hj1 : j + 1 ≤ N := by omega
              clear hYY
              go_wp2
              go_roundw
              case rel => exact ⟨j + 1, T + Y, by omega, by go_num, by go_num, hide (unhide HP).symm, h6, hS3, by first | trivial | rfl⟩
              case measure => simp [intOf]; omega
        · obtain rfl : j = N := by omega
          have HT3 : Hid (total s = T) := hide (by rw [unhide HT, ← unhide HN]; rfl)
          have ht := unhide HE (fun i hi => unhide HS i (by rw [unhide HN] at hi; exact hi))
          rw [unhide HT3] at ht
          by_cases h : 32 < T
          · rw [if_pos h] at ht
            have HE2 := hide ht
            clear ht
            go_wp2
            go_ret2
            exact ⟨(unhide HE2).symm, rfl⟩
          · rw [if_neg h] at ht
            have HE2 := hide ht
            clear ht
            go_wp2
            go_ret2
            exact ⟨(unhide HE2).symm, rfl⟩

theorem refBands_ok (a : Option Addr) (cap : Nat) (s : List Int) (w : World) (hl : s.length ≤ 9223372036854775807) (hr : Row w a s) (h : Hid (bf s = 0)) :
    Calls Tryd.prog 4 #[.slice a s.length cap] w fun e w' => e = .returned (.tuple #[.int .i64 (total s : Int), .int .i64 0]) ∧ Below w.heap.size w w' := by
  have := refBands a cap s w hl hr
  unfold told at this
  rw [if_pos (unhide h), unhide h] at this
  exact this.mono fun e w' ⟨he, hw⟩ => ⟨he, same_below hw⟩
theorem refBands_no (a : Option Addr) (cap : Nat) (s : List Int) (w : World) (hl : s.length ≤ 9223372036854775807) (hr : Row w a s) (h : Hid (bf s ≠ 0)) :
    Calls Tryd.prog 4 #[.slice a s.length cap] w fun e w' => e = .returned (.tuple #[.int .i64 0, .int .i64 (bf s)]) ∧ Below w.heap.size w w' := by
  have := refBands a cap s w hl hr
  unfold told at this
  rw [if_neg (unhide h)] at this
  exact this.mono fun e w' ⟨he, hw⟩ => ⟨he, same_below hw⟩

theorem cell_one (w : World) (V : Value) (t : TypeId) : (w.alloc (.cells #[V] t)).cell? ⟨w.heap.size, 0, none⟩ = some V := by
  rw [World.cell?_alloc_at _ _ _ _ rfl]; rfl

set_option maxHeartbeats 2000000 in
theorem refCut (a : Option Addr) (cap : Nat) (l : List Int) (b : Option Addr) (capb : Nat) (s : List Int) (w : World) (hr : Row w a l) (hm : l.length ≤ cap) (hm9 : cap ≤ 9223372036854775807) (hs : Row w b s) (h : Hid (bf s = 0)) (ht : Hid (total s = l.length)) :
    Calls Tryd.prog 7 #[.slice a l.length cap, .slice b s.length capb] w fun e w' => ∃ A C, e = .returned (.slice A s.length C) ∧ Rws w' A (cuts l s) ∧ Below w.heap.size w w' := by
  obtain ⟨f1, f2, f3, f4⟩ := bf_ok (unhide h)
  have hl0 : 0 < l.length := by have := total_pos f3 f1; have := unhide ht; omega
  have hl32 : l.length ≤ 32 := by have := unhide ht; omega
  obtain ⟨b0, off0, rfl, hb0, _⟩ := hr.at hl0
  have HSL : Hid (∀ j, j < s.length → Row w (some ⟨b0, off0 + pre s j, none⟩) (cutAt l s j)) := hide (fun j hj => (hr.drop (pre s j)).take _)
  obtain ⟨N, hN⟩ : ∃ N, s.length = N := ⟨_, rfl⟩
  obtain ⟨M0, hM0⟩ : ∃ M0, l.length = M0 := ⟨_, rfl⟩
  have HN := hide hN
  have HSZ := hide f3
  have HM0 := hide hM0
  rw [hN] at f1 f2 ⊢
  rw [hM0] at hm hl32 ht ⊢
  clear hN hM0 f3 f4 hl0
  go_enter Tryd.func7, Tryd.ntmps7
  go_wp2
  go_loopw [5, 6, 7] (fun o t i wr => ∃ (j P : Nat) (vs : List Value), j ≤ N ∧ i = .int .i64 j ∧ t = .int .i64 P ∧ Hid (P = pre s j) ∧ P ≤ M0 ∧ HasS wr w.heap.size o vs ∧ Hid (vs.length = j) ∧ Hid (∀ r, r < j → ∃ V, vs[r]? = some V ∧ Sli w V (cutAt l s r)) ∧ Below w.heap.size w wr) (fun _ _ i _ => N - (intOf i).toNat)
  case atStart => exact ⟨0, 0, [], Nat.zero_le _, rfl, rfl, rfl, Nat.zero_le _, HasS.nil _ _, hide rfl, hide (fun r hr => by omega), Below.refl _ _⟩
  case round =>
    obtain ⟨j, P, vs, hj, rfl, rfl, HP, hPM, hS, HV, HD, hB⟩ := hrel
    by_cases hlt : j < N
    · have hjs : j < s.length := by rw [unhide HN]; exact hlt
      obtain ⟨b1, off1, rfl, hb1, hc1⟩ := cell_at hs (by omega)
      have c0 := hc1 j hjs
      have h1 := unhide HSZ j hjs
      have hp := pre_total s (j := j + 1) hjs
      rw [pre_succ, unhide ht, ← unhide HP] at hp
      have HQ : Hid (pre s (j + 1) = P + (at0 s j).toNat) := hide (by rw [pre_succ, unhide HP])
      have HC1 : Hid ((cutAt l s j).length = (at0 s j).toNat) := hide (cutAt_length (by rw [unhide ht, unhide HM0]) hjs)
      have hrow := unhide HSL j hjs
      rw [← unhide HP] at hrow
      obtain ⟨X, hX⟩ : ∃ X : Nat, at0 s j = X := ⟨(at0 s j).toNat, by omega⟩
      rw [hX] at c0 h1 hp HC1 HQ
      have c1 := (hB.cell (p := ⟨b1, off1 + j, none⟩) hb1).trans c0
      have HC0 := hide c0
      have hXX : ((X : Int)).toNat = X := by omega
      rw [hXX] at hp HC1 HQ
      obtain ⟨Q, hQ⟩ : ∃ Q, P + X = Q := ⟨_, rfl⟩
      have hwq : IntKind.i64.wrap ((P : Int) + (X : Int)) = (Q : Int) := by rw [← hQ]; exact IntWalk.i64_in _ (by omega)
      rw [hQ] at hp HQ
      have HV1 : Hid (Sli w (.slice (some ⟨b0, off0 + P, none⟩) (Q - P) (cap - P)) (cutAt l s j)) := hide ⟨_, _, by rw [unhide HC1, show Q - P = X by omega], fun e => (by cases e), by rw [unhide HC1]; omega, by omega, hrow⟩
      have hPQ : P ≤ Q := by omega
      have hQM : Q ≤ M0 := by omega
      have hQc : Q ≤ cap := by omega
      have hcP : ¬ (cap = P) := by omega
      have hlen : Hid (vs.length + 1 ≤ 1000000) := hide (by rw [unhide HV]; omega)
      have hBs := hB.size
      have hQ32 : Q ≤ 32 := by omega
      clear hc1 h1 hp hX hXX hrow hjs hQ c0
      go_wp2_with (at_builtin; refine wpList_apps _ rfl _ _ rfl w.heap.size u5 vs (.slice (some ⟨b0, off0 + P, none⟩) (Q - P) (cap - P)) wr.heap.size 0 1 rfl (hS.alloc _) rfl rfl (cell_one wr _ _) (unhide hlen) (by simp; omega) ?_; intro s1 w1 k1 g1 at1; have hB1 : Below w.heap.size w w1 := (hB.alloc hBs _).grown g1 (by simp; omega) (fun q e => (hS.lt q e).1); have c1' := (hB1.cell (p := ⟨b1, off1 + j, none⟩) hb1).trans (unhide HC0); clear c1 g1 at1 hS)
      go_roundw
      case rel => exact ⟨j + 1, Q, _, by omega, by go_num, by go_num, hide (unhide HQ).symm, hQM, k1, hide (by rw [List.length_append, unhide HV]; rfl), hide (fun r hr => by
        by_cases e : r = j
        · refine ⟨_, ?_, by rw [e]; exact unhide HV1⟩
          rw [List.getElem?_append_right (by rw [unhide HV]; omega), unhide HV, e, Nat.sub_self]
          rfl
        · obtain ⟨V, hV, hSl⟩ := unhide HD r (by omega)
          exact ⟨V, by rw [List.getElem?_append_left (by rw [unhide HV]; omega)]; exact hV, hSl⟩), hB1⟩
      case measure => simp [intOf]; omega
    · obtain rfl : j = N := by omega
      obtain ⟨a', c', rfl, h'⟩ := hS.rws (ll := cuts l s) (by rw [cuts_length, unhide HV, unhide HN]) (fun r hr => by
        rw [cuts_length, unhide HN] at hr
        obtain ⟨V, hV, hH⟩ := unhide HD r hr
        exact ⟨V, hV, by rw [cuts_at l s (by rw [unhide HN]; exact hr)]; exact hH.below hB⟩)
      rw [cuts_length, unhide HN]
      clear HD hS
      go_wp2
      go_ret
      exact ⟨_, _, rfl, h', hB⟩

end Go.Proofs.YtiddiohbnliphaeDoor.Bnd
