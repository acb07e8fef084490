/-
  The walk of hornlaw1.SoundTells on the way on which both are samples, and as many.
-/
import Derived.Test.YtjnmogmagngenaaDoorSoundTellsWalk
namespace Go.Proofs.YtjnmogmagngenaaDoor.SoundTellsLaw
open Go.RowKit
open Go.Proofs.YtjnmogmagngenaaDoor.Snd Go.Proofs.YtjnmogmagngenaaDoor.Aser
set_option linter.unusedVariables false

theorem mixAt_hi (l m : List Int) (k : Nat) (hl : k < l.length) (hm : k < m.length) (h : 1000 < l[k] + m[k]) : mixAt l m k = 1000 := by
  rw [← mixVal l m k hl hm, if_neg (show ¬ l[k] + m[k] < -1000 by omega), if_pos h]
theorem mixAt_lo (l m : List Int) (k : Nat) (hl : k < l.length) (hm : k < m.length) (h : l[k] + m[k] < -1000) : mixAt l m k = -1000 := by
  rw [← mixVal l m k hl hm, if_pos h, if_neg (by omega)]
theorem mixAt_in (l m : List Int) (k : Nat) (hl : k < l.length) (hm : k < m.length) (h : ¬ 1000 < l[k] + m[k]) (h' : ¬ l[k] + m[k] < -1000) : mixAt l m k = l[k] + m[k] := by
  rw [← mixVal l m k hl hm, if_neg h', if_neg h]

/-- The first k of two, mixed, as values. -/
def ms (l m : List Int) (k : Nat) : List Value := ((mix l m).take k).map (Value.int .i64)
theorem app_rel {w : World} {base : Nat} {v : Value} {x : Int} (l m : List Int) (k : Nat) (hk : k < l.length)
    (HX : Hid (mixAt l m k = x)) (h : w.ownsRow base 3 1 v (k + 1) (ms l m k ++ [.int .i64 x])) : w.ownsRow base 3 1 v (k + 1) (ms l m (k + 1)) := by
  unfold ms
  rw [mix_snoc l m k hk, unhide HX]; exact h
theorem one_cell (x : Int) : ∀ u ∈ [Value.int .i64 x], u.oneCell' = true := by intro u hu; simp at hu; subst hu; rfl
theorem size_le_alloc {n : Nat} {w : World} (h : n ≤ w.heap.size) (o : Obj) : n ≤ (w.alloc o).heap.size := by simp; omega
theorem one_new (w : World) (v : Value) (t : TypeId) : ∀ j u, [v][j]? = some u → (w.alloc (.cells #[v] t)).cell? (Addr.add ⟨w.heap.size, 0, none⟩ j) = some u := by
  intro j u hj
  match j, hj with
  | 0, hj => simp at hj; subst hj; simp [Addr.add]
theorem own_ge {w : World} {base : Nat} {e : TypeId} {size : Nat} {v : Value} {n : Nat} {xs : List Value} (h : w.ownsRow base e size v n xs) : ∀ k, v.ownBlock = some k → base ≤ k := by
  intro k hk
  rcases h.2 with ⟨h1, _⟩ | ⟨g, cap, cur, hv, hb, _⟩
  · rw [h1] at hk; cases hk
  · rw [hv] at hk
    obtain rfl := Option.some.inj hk
    exact hb

set_option maxRecDepth 100000 in
set_option maxHeartbeats 4000000 in
theorem walk_two (a0 : Option Addr) (cap0 : Nat) (l0 : List Int) (a1 : Option Addr) (cap1 : Nat) (l1 : List Int) (w : World) (hL : Laid w)
    (hr0 : Row w a0 l0) (z0 : l0.length ≤ 9223372036854775807) (hr1 : Row w a1 l1) (z1 : l1.length ≤ 9223372036854775807) (H : Hid (chk l0 = 0)) (T : Hid (two l0 l1 = 0)) :
    Calls Tryd.prog 3 #[.slice a0 l0.length cap0, .slice a1 l1.length cap1] w fun e w' => e = .returned (.bool true) ∧ Below w.heap.size w w' := by
  obtain ⟨i0, hi, hz0, hz1, hz2⟩ := info_parts info_int
  have HZ2 := hide hz2
  clear hz2
  have hok := ok_of (unhide H)
  obtain ⟨_, hom, hlm⟩ := two_ok (unhide T)
  have i1 : l0.length ≤ l1.length := by omega
  have i2 : l1.length ≤ l0.length := by omega
  have i3 : l0.length ≤ 32 := hok.1
  clear hlm
  go_enter Tryd.func3, Tryd.ntmps3
  go_wp2_with fail
  refine (refSound a0 cap0 l0 w z0 hr0).mono ?_
  rw [unhide H]
  rintro e w1 ⟨rfl, rfl⟩
  go_wp2_with fail
  refine (check_ok a0 cap0 l0 _ z0 hr0 H).mono ?_
  rintro e w2 ⟨rfl, hb⟩
  go_wp2_with fail
  refine (error_nil w2).mono ?_
  rintro e w3 ⟨rfl, rfl⟩
  have hr2 := hr0.below hb
  go_wp2
  go_loopw [7, 8, 9] (fun t u i wr => ∃ k : Nat, k ≤ l0.length ∧ i = .int .i64 k ∧ t = .int .i64 (tot sq (l0.take k)) ∧ u = .int .i64 (tot far (l0.take k)) ∧ ∃ n, wr = w3.drewN n) (fun _ _ i _ => l0.length - (intOf i).toNat)
  case atStart => exact ⟨0, Nat.zero_le _, rfl, rfl, rfl, 0, rfl⟩
  case round =>
    obtain ⟨k, hk, rfl, rfl, rfl, n, rfl⟩ := hrel
    by_cases hlt : k < l0.length
    · obtain ⟨b1, b2⟩ := tot_bd32 sq 1000000 (by omega) l0 hok sq_bd k
      obtain ⟨b3, b4⟩ := tot_bd32 far 1000 (by omega) l0 hok far_bd k
      obtain ⟨b, off, rfl, hbl, hcs⟩ := hr2.at hlt
      have hck := hcs k hlt
      clear hcs
      obtain ⟨e1, e2⟩ := hok.at hlt
      obtain ⟨e3, e4⟩ := far_bd l0[k] e1 e2
      obtain ⟨e5, e6⟩ := sq_bd l0[k] e1 e2
      have e5' : 0 ≤ l0[k] * l0[k] := e5
      have e6' : l0[k] * l0[k] ≤ 1000000 := e6
      have S1 := hide (tot_snoc sq l0 k hlt)
      have S2 := hide (tot_snoc far l0 k hlt)
      have hw1 : IntKind.i64.wrap (l0[k] * l0[k]) = l0[k] * l0[k] := IntWalk.i64_in _ (by omega)
      have hw2 : IntKind.i64.wrap (tot sq (l0.take k) + l0[k] * l0[k]) = tot sq (l0.take k) + l0[k] * l0[k] := IntWalk.i64_in _ (by omega)
      go_wp2
      go_quiet (fail)
      go_wp2_with fail
      refine (refFar l0[k] _ (by omega) (by omega)).mono ?_
      rintro e w4 ⟨rfl, rfl⟩
      go_wp2
      go_roundw
      case rel => exact ⟨k + 1, by omega, by go_num, by rw [unhide S1]; rfl, by rw [unhide S2], _, rfl⟩
      case measure => simp [intOf]; omega
    · have hkl : k = l0.length := by omega
      subst hkl
      have hc := below_drewN hb n
      clear hb hr2
      rw [List.take_of_length_le (Nat.le_refl _)]
      go_wp2_with fail
      refine (energy_ok a0 cap0 l0 _ z0 (hr0.below hc) H).mono ?_
      rintro e w4 ⟨rfl, hb4⟩
      have hb := Below.chain hc hb4
      clear hc hb4
      go_wp2_with fail
      refine (error_nil w4).mono ?_
      rintro e w5 ⟨rfl, rfl⟩
      go_wp2_with fail
      refine (loud_ok a0 cap0 l0 _ z0 (hr0.below hb) H).mono ?_
      rintro e w6 ⟨rfl, hb6⟩
      have hc := Below.chain hb hb6
      clear hb hb6
      go_wp2_with fail
      refine (error_nil w6).mono ?_
      rintro e w7 ⟨rfl, rfl⟩
      go_wp2_with fail
      refine (refTwo a0 cap0 l0 a1 cap1 l1 _ z0 z1 (hr0.below hc) (hr1.below hc)).mono ?_
      rw [unhide T]
      rintro e w8 ⟨rfl, rfl⟩
      have hra := hr0.below hc
      have hrb := hr1.below hc
      go_wp2
      go_loopw [14, 15, 16] (fun t v i wr => ∃ k : Nat, k ≤ l0.length ∧ i = .int .i64 k ∧ t = .int .i64 (apTo l0 l1 k) ∧ wr.ownsRow w8.heap.size 3 1 v k (ms l0 l1 k) ∧ Below w8.heap.size w8 wr) (fun _ _ i _ => l0.length - (intOf i).toNat)
      case atStart => exact ⟨0, Nat.zero_le _, rfl, rfl, World.ownsRow_nil _ _ _ _, Below.refl _ _⟩
      case round =>
        obtain ⟨k, hk, rfl, rfl, hown, hB⟩ := hrel
        by_cases hlt : k < l0.length
        · have hlt' : k < l1.length := by omega
          obtain ⟨b1, b2⟩ := apTo_bd l0 l1 hok hom k
          obtain ⟨b, off, rfl, hbl, hcs⟩ := hra.at hlt
          have hck := (hB.cell (p := ⟨b, off + k, none⟩) hbl).trans (hcs k hlt)
          obtain ⟨b', off', rfl, hbl', hcs'⟩ := hrb.at hlt'
          have hck' := (hB.cell (p := ⟨b', off' + k, none⟩) hbl').trans (hcs' k hlt')
          clear hcs hcs'
          obtain ⟨e1, e2⟩ := hok.at hlt
          obtain ⟨e3, e4⟩ := hom.at hlt'
          have hsub : IntKind.i64.wrap (l0[k] - l1[k]) = l0[k] - l1[k] := IntWalk.i64_in _ (by omega)
          have hadd : IntKind.i64.wrap (l0[k] + l1[k]) = l0[k] + l1[k] := IntWalk.i64_in _ (by omega)
          have HA := hide (ap_step l0 l1 k hlt hlt')
          go_wp2
          go_quiet ((go_at_call 8; exact Calls.quiet_of_same (refFar (l0[k] - l1[k]) _ (sub_lo e1 e4) (sub_hi e2 e3))))
          go_wp2
          all_goals
            go_quiet (fail)
            generalize hwq : World.drewN _ _ = wq
            have hown2 : wq.ownsRow w8.heap.size 3 1 u15 k (ms l0 l1 k) := by rw [← hwq]; exact hown
            have hB2 : Below w8.heap.size w8 wq := by rw [← hwq]; exact below_drewN (below_drewN hB _) _
            clear hwq hown hB
            have hm1 : k + 1 ≤ maxLen := by unfold maxLen; omega
            have hm2 : (k + 1) * 8 ≤ 140737488355328 := by omega
            by_cases hx1 : 1000 < l0[k] + l1[k]
            · have HX := hide (mixAt_hi l0 l1 k hlt hlt' hx1)
              go_wp2_with (at_builtin; refine wpList_append_own _ rfl _ _ 22 rfl w8.heap.size 3 i0 (.int .i64 0) 1 8 Tryd.underlying22 hi hz0 hz1 (unhide HZ2) rfl (by decide) _ _ _ rfl (hown2.alloc _) ⟨wq.heap.size, 0, none⟩ 1 1 [.int .i64 (1000)] rfl rfl (one_new _ _ _) (one_cell _) hm1 hm2 (size_le_alloc hB2.size _) ?_)
              intro v2 w9 hown3 hgrow _
              have R := app_rel (x := 1000) l0 l1 k hlt HX hown3
              have hB3 : Below w8.heap.size w8 w9 := (hB2.alloc hB2.size _).grown hgrow (size_le_alloc hB2.size _) (own_ge hown2)
              clear hown3 hgrow hown2 hB2
              go_wp2
              go_roundw
              case rel => exact ⟨k + 1, by omega, by go_num, by rw [unhide HA]; first | rw [if_pos (by assumption)] | rw [if_neg (by omega)], R, hB3⟩
              case measure => simp [intOf]; omega
            · by_cases hx2 : l0[k] + l1[k] < -1000
              · have HX := hide (mixAt_lo l0 l1 k hlt hlt' hx2)
                go_wp2_with (at_builtin; refine wpList_append_own _ rfl _ _ 22 rfl w8.heap.size 3 i0 (.int .i64 0) 1 8 Tryd.underlying22 hi hz0 hz1 (unhide HZ2) rfl (by decide) _ _ _ rfl (hown2.alloc _) ⟨wq.heap.size, 0, none⟩ 1 1 [.int .i64 (-1000)] rfl rfl (one_new _ _ _) (one_cell _) hm1 hm2 (size_le_alloc hB2.size _) ?_)
                intro v2 w9 hown3 hgrow _
                have R := app_rel (x := -1000) l0 l1 k hlt HX hown3
                have hB3 : Below w8.heap.size w8 w9 := (hB2.alloc hB2.size _).grown hgrow (size_le_alloc hB2.size _) (own_ge hown2)
                clear hown3 hgrow hown2 hB2
                go_wp2
                go_roundw
                case rel => exact ⟨k + 1, by omega, by go_num, by rw [unhide HA]; first | rw [if_pos (by assumption)] | rw [if_neg (by omega)], R, hB3⟩
                case measure => simp [intOf]; omega
              · have HX := hide (mixAt_in l0 l1 k hlt hlt' hx1 hx2)
                go_wp2_with (at_builtin; refine wpList_append_own _ rfl _ _ 22 rfl w8.heap.size 3 i0 (.int .i64 0) 1 8 Tryd.underlying22 hi hz0 hz1 (unhide HZ2) rfl (by decide) _ _ _ rfl (hown2.alloc _) ⟨wq.heap.size, 0, none⟩ 1 1 [.int .i64 (l0[k] + l1[k])] rfl rfl (one_new _ _ _) (one_cell _) hm1 hm2 (size_le_alloc hB2.size _) ?_)
                intro v2 w9 hown3 hgrow _
                have R := app_rel (x := l0[k] + l1[k]) l0 l1 k hlt HX hown3
                have hB3 : Below w8.heap.size w8 w9 := (hB2.alloc hB2.size _).grown hgrow (size_le_alloc hB2.size _) (own_ge hown2)
                clear hown3 hgrow hown2 hB2
                go_wp2
                go_roundw
                case rel => exact ⟨k + 1, by omega, by go_num, by rw [unhide HA]; first | rw [if_pos (by assumption)] | rw [if_neg (by omega)], R, hB3⟩
                case measure => simp [intOf]; omega
        · have hkl : k = l0.length := by omega
          subst hkl
          have hown4 : wr.ownsRow w8.heap.size 3 1 u15 (mix l0 l1).length ((mix l0 l1).map (Value.int .i64)) := by
            have h1 : ms l0 l1 l0.length = (mix l0 l1).map (Value.int .i64) := by
              unfold ms; rw [List.take_of_length_le (by rw [mix_length]; exact Nat.le_refl _)]
            rw [mix_length, ← h1]; exact hown
          obtain ⟨am, capm, hu, hrm⟩ := own_row hown4
          subst hu
          clear hown hown4
          have hd := Below.chain hc hB
          have zm : (mix l0 l1).length ≤ 9223372036854775807 := by rw [mix_length]; exact z0
          clear hc hB hra hrb
          go_wp2_with fail
          refine (apart_ok a0 cap0 l0 a1 cap1 l1 wr z0 z1 (hr0.below hd) (hr1.below hd) T).mono ?_
          rw [show ap l0 l1 = apTo l0 l1 l0.length from rfl]
          rintro e w9 ⟨rfl, hb9⟩
          have hrm9 := hrm.below hb9
          have hb := Below.chain hd hb9
          clear hd hb9 hrm
          go_wp2_with fail
          refine (error_nil w9).mono ?_
          rintro e w10 ⟨rfl, rfl⟩
          go_wp2_with fail
          refine (mix_ok a0 cap0 l0 a1 cap1 l1 _ z0 z1 (hr0.below hb) (hr1.below hb) T).mono ?_
          rintro e w11 ⟨g, rfl, hrg, hb11⟩
          have hrm11 := hrm9.below hb11
          have hd := Below.chain hb hb11
          clear hb hb11 hrm9
          go_wp2_with fail
          refine (error_nil w11).mono ?_
          rintro e w12 ⟨rfl, rfl⟩
          go_wp2_with fail
          refine (ints (some ⟨g, 0, none⟩) _ (mix l0 l1) am capm (mix l0 l1) _ zm zm hrg hrm11).mono ?_
          rw [decide_eq_true rfl]
          rintro e w13 ⟨rfl, n2, rfl⟩
          go_wp2
          go_ret
          exact ⟨rfl, below_drewN hd _⟩

theorem walk (a0 : Option Addr) (cap0 : Nat) (l0 : List Int) (a1 : Option Addr) (cap1 : Nat) (l1 : List Int) (w : World) (hL : Laid w)
    (hr0 : Row w a0 l0) (hw0 : ∀ n ∈ l0, (Lit.int .i64 n).wf = true) (hz0 : l0.length * 8 ≤ 140737488351232) (hr1 : Row w a1 l1) (hw1 : ∀ n ∈ l1, (Lit.int .i64 n).wf = true) (hz1 : l1.length * 8 ≤ 140737488351232) :
    Calls Tryd.prog 3 #[.slice a0 l0.length cap0, .slice a1 l1.length cap1] w fun e w' => e = .returned (.bool true) ∧ Below w.heap.size w w' := by
  by_cases h : chk l0 = 0
  · by_cases t : two l0 l1 = 0
    · exact walk_two a0 cap0 l0 a1 cap1 l1 w hL hr0 (by omega) hr1 (by omega) (hide h) (hide t)
    · exact walk_one a0 cap0 l0 a1 cap1 l1 w hL hr0 (by omega) hr1 (by omega) (hide h) (hide t)
  · exact walk_no a0 cap0 l0 a1 cap1 l1 w hL hr0 (by omega) hr1 (by omega) (hide h)
end Go.Proofs.YtjnmogmagngenaaDoor.SoundTellsLaw
