/-
  The walk of hornlaw1.SoundTells.
-/
import Derived.Test.YtjnmogmagngenaaDoorRefSound
import Derived.Test.YtjnmogmagngenaaDoorTold
namespace Go.Proofs.YtjnmogmagngenaaDoor.SoundTellsLaw
open Go.RowKit
open Go.Proofs.YtjnmogmagngenaaDoor.Snd Go.Proofs.YtjnmogmagngenaaDoor.Aser
set_option linter.unusedVariables false

theorem chk_pos {l : List Int} (h : chk l ≠ 0) : 0 < l.length := by
  cases l with
  | nil => exact absurd (by decide) h
  | cons => simp

theorem two_first {l m : List Int} (h : chk l ≠ 0) : two l m ≠ 0 := by
  unfold two; rw [if_pos h]; exact h

/-- What an append has built, as a row. -/
theorem own_row {w : World} {base : Nat} {v : Value} {l : List Int} (h : w.ownsRow base 3 1 v l.length (l.map (Value.int .i64))) : ∃ a cap, v = .slice a l.length cap ∧ Row w a l := by
  rcases h.2 with ⟨h1, h2⟩ | ⟨g, cap, cur, hv, hb, hg, r⟩
  · have hl : l = [] := List.length_eq_zero_iff.1 h2
    subst hl
    exact ⟨none, 0, h1, Or.inl rfl⟩
  · refine ⟨some ⟨g, 0, none⟩, cap, hv, ?_⟩
    by_cases hl : l = []
    · exact Or.inl hl
    · refine Or.inr ⟨g, 0, rfl, (Array.getElem?_eq_some_iff.1 hg).1, fun j hj => ?_⟩
      subst hv
      rw [Nat.zero_add, World.ownsRow.cellAt h j (by omega)]
      simp [List.getD_eq_getElem?_getD, List.getElem?_eq_getElem hj]

theorem mix_at {l m : List Int} (k : Nat) (hk : k < (mix l m).length) : (mix l m)[k] = mixAt l m k := by simp [mix]
theorem mix_snoc (l m : List Int) (k : Nat) (hk : k < l.length) : ((mix l m).take (k + 1)).map (Value.int .i64) = ((mix l m).take k).map (Value.int .i64) ++ [.int .i64 (mixAt l m k)] := by
  rw [List.take_succ_eq_append_getElem (by rw [mix_length]; exact hk), List.map_append, mix_at]
  rfl
theorem mix_take_length (l m : List Int) (k : Nat) (hk : k ≤ l.length) : ((mix l m).take k).length = k := by
  rw [List.length_take, mix_length]; omega

set_option maxRecDepth 100000 in
set_option maxHeartbeats 2000000 in
theorem walk_no (a0 : Option Addr) (cap0 : Nat) (l0 : List Int) (a1 : Option Addr) (cap1 : Nat) (l1 : List Int) (w : World) (hL : Laid w)
    (hr0 : Row w a0 l0) (z0 : l0.length ≤ 9223372036854775807) (hr1 : Row w a1 l1) (z1 : l1.length ≤ 9223372036854775807) (H : Hid (chk l0 ≠ 0)) :
    Calls Tryd.prog 3 #[.slice a0 l0.length cap0, .slice a1 l1.length cap1] w fun e w' => e = .returned (.bool true) ∧ Below w.heap.size w w' := by
  have hp := chk_pos (unhide H)
  have hq : (chk l0 == 0) = false := by simpa using unhide H
  have T : Hid (two l0 l1 ≠ 0) := hide (two_first (unhide H))
  have ht : (two l0 l1 == 0) = false := by simpa using unhide T
  go_enter Tryd.func3, Tryd.ntmps3
  go_wp2_with fail
  refine (refSound a0 cap0 l0 w z0 hr0).mono ?_
  rintro e w1 ⟨rfl, rfl⟩
  go_wp2_with fail
  refine (check_no a0 cap0 l0 _ z0 hr0 H).mono ?_
  rintro e w2 ⟨rfl, hb2⟩
  go_wp2_with fail
  refine (error_is (chk l0) w2 (hL.below hb2)).mono ?_
  rintro e w3 ⟨rfl, hb3⟩
  have hb := Below.chain hb2 hb3
  clear hb2 hb3
  go_wp2
  refine wp_loop_rounds 1 ?_
  rw [rounds_succ]
  go_wp2_with fail
  refine (energy_no a0 cap0 l0 w3 z0 (hr0.below hb) H).mono ?_
  rintro e w4 ⟨rfl, hb4⟩
  have hc := Below.chain hb hb4
  clear hb hb4
  go_wp2_with fail
  refine (error_is (chk l0) w4 (hL.below hc)).mono ?_
  rintro e w5 ⟨rfl, hb5⟩
  have hb := Below.chain hc hb5
  clear hc hb5
  go_wp2_with fail
  refine (loud_no a0 cap0 l0 w5 z0 (hr0.below hb) H).mono ?_
  rintro e w6 ⟨rfl, hb6⟩
  have hc := Below.chain hb hb6
  clear hb hb6
  go_wp2_with fail
  refine (error_is (chk l0) w6 (hL.below hc)).mono ?_
  rintro e w7 ⟨rfl, hb7⟩
  have hb := Below.chain hc hb7
  clear hc hb7
  go_wp2_with fail
  refine (refTwo a0 cap0 l0 a1 cap1 l1 w7 z0 z1 (hr0.below hb) (hr1.below hb)).mono ?_
  rintro e w8 ⟨rfl, rfl⟩
  go_wp2
  refine wp_loop_rounds 1 ?_
  rw [rounds_succ]
  go_wp2_with fail
  refine (apart_no a0 cap0 l0 a1 cap1 l1 _ z0 z1 (hr0.below hb) (hr1.below hb) T).mono ?_
  rintro e w9 ⟨rfl, hb9⟩
  have hc := Below.chain hb hb9
  clear hb hb9
  go_wp2_with fail
  refine (error_is (two l0 l1) w9 (hL.below hc)).mono ?_
  rintro e w10 ⟨rfl, hb10⟩
  have hb := Below.chain hc hb10
  clear hc hb10
  go_wp2_with fail
  refine (mix_no a0 cap0 l0 a1 cap1 l1 w10 z0 z1 (hr0.below hb) (hr1.below hb) T).mono ?_
  rintro e w11 ⟨rfl, hb11⟩
  have hc := Below.chain hb hb11
  clear hb hb11
  go_wp2_with fail
  refine (error_is (two l0 l1) w11 (hL.below hc)).mono ?_
  rintro e w12 ⟨rfl, hb12⟩
  have hb := Below.chain hc hb12
  clear hc hb12
  go_wp2_with fail
  refine (ints none 0 [] none 0 [] w12 (by simp) (by simp) (Or.inl rfl) (Or.inl rfl)).mono ?_
  rw [decide_eq_true rfl]
  rintro e w13 ⟨rfl, n, rfl⟩
  go_wp2
  go_ret
  exact ⟨rfl, below_drewN hb _⟩
theorem tot_bd32 (g : Int → Int) (M : Int) (hM : 0 ≤ M) (l : List Int) (hl : Ok l) (hg : ∀ n, -1000 ≤ n → n ≤ 1000 → 0 ≤ g n ∧ g n ≤ M) (k : Nat) : 0 ≤ tot g (l.take k) ∧ tot g (l.take k) ≤ M * 32 := by
  have hb := tot_bd g M (l.take k) fun n hn => hg n (hl.2 n (List.mem_of_mem_take hn)).1 (hl.2 n (List.mem_of_mem_take hn)).2
  have hlk : ((l.take k).length : Int) ≤ 32 := by have h1 : (l.take k).length ≤ l.length := by { rw [List.length_take]; omega }; have := hl.1; omega
  exact ⟨hb.1, Int.le_trans hb.2 (Int.mul_le_mul_of_nonneg_left hlk hM)⟩

set_option maxRecDepth 100000 in
set_option maxHeartbeats 2000000 in
theorem walk_one (a0 : Option Addr) (cap0 : Nat) (l0 : List Int) (a1 : Option Addr) (cap1 : Nat) (l1 : List Int) (w : World) (hL : Laid w)
    (hr0 : Row w a0 l0) (z0 : l0.length ≤ 9223372036854775807) (hr1 : Row w a1 l1) (z1 : l1.length ≤ 9223372036854775807) (H : Hid (chk l0 = 0)) (T : Hid (two l0 l1 ≠ 0)) :
    Calls Tryd.prog 3 #[.slice a0 l0.length cap0, .slice a1 l1.length cap1] w fun e w' => e = .returned (.bool true) ∧ Below w.heap.size w w' := by
  have ht : (two l0 l1 == 0) = false := by simpa using unhide T
  have hok := ok_of (unhide H)
  go_enter Tryd.func3, Tryd.ntmps3
  go_wp2_with fail
  refine (refSound a0 cap0 l0 w z0 hr0).mono ?_
  rw [unhide H]
  rintro e w1 ⟨rfl, rfl⟩
  go_wp2_with fail
  refine (check_ok a0 cap0 l0 _ z0 hr0 H).mono ?_
  rintro e w2 ⟨rfl, hb⟩
  go_wp2_with fail
  refine (error_nil w2).mono ?_
  rintro e w3 ⟨rfl, rfl⟩
  have hr2 := hr0.below hb
  go_wp2
  go_loopw [7, 8, 9] (fun t u i wr => ∃ k : Nat, k ≤ l0.length ∧ i = .int .i64 k ∧ t = .int .i64 (tot sq (l0.take k)) ∧ u = .int .i64 (tot far (l0.take k)) ∧ ∃ n, wr = w3.drewN n) (fun _ _ i _ => l0.length - (intOf i).toNat)
  case atStart => exact ⟨0, Nat.zero_le _, rfl, rfl, rfl, 0, rfl⟩
  case round =>
    obtain ⟨k, hk, rfl, rfl, rfl, n, rfl⟩ := hrel
    by_cases hlt : k < l0.length
    · obtain ⟨b1, b2⟩ := tot_bd32 sq 1000000 (by omega) l0 hok sq_bd k
      obtain ⟨b3, b4⟩ := tot_bd32 far 1000 (by omega) l0 hok far_bd k
      obtain ⟨b, off, rfl, hbl, hcs⟩ := hr2.at hlt
      have hck := hcs k hlt
      clear hcs
      obtain ⟨e1, e2⟩ := hok.at hlt
      obtain ⟨e3, e4⟩ := far_bd l0[k] e1 e2
      obtain ⟨e5, e6⟩ := sq_bd l0[k] e1 e2
      have e5' : 0 ≤ l0[k] * l0[k] := e5
      have e6' : l0[k] * l0[k] ≤ 1000000 := e6
      have S1 := hide (tot_snoc sq l0 k hlt)
      have S2 := hide (tot_snoc far l0 k hlt)
      have hw1 : IntKind.i64.wrap (l0[k] * l0[k]) = l0[k] * l0[k] := IntWalk.i64_in _ (by omega)
      have hw2 : IntKind.i64.wrap (tot sq (l0.take k) + l0[k] * l0[k]) = tot sq (l0.take k) + l0[k] * l0[k] := IntWalk.i64_in _ (by omega)
      go_wp2
      go_quiet (fail)
      go_wp2_with fail
      refine (refFar l0[k] _ (by omega) (by omega)).mono ?_
      rintro e w4 ⟨rfl, rfl⟩
      go_wp2
      go_roundw
      case rel => exact ⟨k + 1, by omega, by go_num, by rw [unhide S1]; rfl, by rw [unhide S2], _, rfl⟩
      case measure => simp [intOf]; omega
    · have hkl : k = l0.length := by omega
      subst hkl
      have hc := below_drewN hb n
      clear hb hr2
      rw [List.take_of_length_le (Nat.le_refl _)]
      go_wp2_with fail
      refine (energy_ok a0 cap0 l0 _ z0 (hr0.below hc) H).mono ?_
      rintro e w4 ⟨rfl, hb4⟩
      have hb := Below.chain hc hb4
      clear hc hb4
      go_wp2_with fail
      refine (error_nil w4).mono ?_
      rintro e w5 ⟨rfl, rfl⟩
      go_wp2_with fail
      refine (loud_ok a0 cap0 l0 _ z0 (hr0.below hb) H).mono ?_
      rintro e w6 ⟨rfl, hb6⟩
      have hc := Below.chain hb hb6
      clear hb hb6
      go_wp2_with fail
      refine (error_nil w6).mono ?_
      rintro e w7 ⟨rfl, rfl⟩
      go_wp2_with fail
      refine (refTwo a0 cap0 l0 a1 cap1 l1 _ z0 z1 (hr0.below hc) (hr1.below hc)).mono ?_
      rintro e w8 ⟨rfl, rfl⟩
      go_wp2
      by_cases hz : 0 < l0.length
      all_goals
        refine wp_loop_rounds 1 ?_
        rw [rounds_succ]
        go_wp2_with fail
        refine (apart_no a0 cap0 l0 a1 cap1 l1 _ z0 z1 (hr0.below hc) (hr1.below hc) T).mono ?_
        rintro e w9 ⟨rfl, hb9⟩
        have hb := Below.chain hc hb9
        clear hb9
        go_wp2_with fail
        refine (error_is (two l0 l1) w9 (hL.below hb)).mono ?_
        rintro e w10 ⟨rfl, hb10⟩
        have hd := Below.chain hb hb10
        clear hb hb10
        go_wp2_with fail
        refine (mix_no a0 cap0 l0 a1 cap1 l1 w10 z0 z1 (hr0.below hd) (hr1.below hd) T).mono ?_
        rintro e w11 ⟨rfl, hb11⟩
        have hb := Below.chain hd hb11
        clear hd hb11
        go_wp2_with fail
        refine (error_is (two l0 l1) w11 (hL.below hb)).mono ?_
        rintro e w12 ⟨rfl, hb12⟩
        have hd := Below.chain hb hb12
        clear hb hb12
        go_wp2_with fail
        refine (ints none 0 [] none 0 [] w12 (by simp) (by simp) (Or.inl rfl) (Or.inl rfl)).mono ?_
        rw [decide_eq_true rfl]
        rintro e w13 ⟨rfl, n2, rfl⟩
        go_wp2
        go_ret
        exact ⟨rfl, below_drewN hd _⟩
end Go.Proofs.YtjnmogmagngenaaDoor.SoundTellsLaw
