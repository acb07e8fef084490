/-
  It is proved that hornlaw4.SoundStill returns true for every slice: samples mixed with silence are themselves, and nothing is apart from itself. No condition.
-/
import Derived.Test.YtmbicnjciddcmaaSoundMix
import Derived.Test.YtmbicnjciddcmaaFrame
namespace Go.Proofs.Ytmbicnjciddcmaa.SoundStillLaw
open Go.ChangeShapes Go.WideShapes Go.ChangeAt Go.RowKit
open Go.Proofs.Ytmbicnjciddcmaa.Snd
set_option linter.unusedVariables false

theorem fact (w : World) : Calls Try.prog 9 #[.slice (some ⟨w.heap.size, 0, none⟩) 2 2] (w.alloc (.cells #[.int .i64 3, .int .i64 (-4)] 3)) fun e w' => e = .returned (.tuple #[.int .i64 25, .nilIface]) ∧ Below w.heap.size w w' := by
  have hr : Row (w.alloc (.cells #[.int .i64 3, .int .i64 (-4)] 3)) (some ⟨w.heap.size, 0, none⟩) [3, -4] := by
    refine Or.inr ⟨w.heap.size, 0, rfl, by simp, fun j hj => ?_⟩
    rw [World.cell?_alloc_at _ _ _ _ rfl]
    match j, hj with
    | 0, _ => rfl
    | 1, _ => rfl
  refine (energy_ok (some ⟨w.heap.size, 0, none⟩) 2 [3, -4] _ (by simp) hr (hide (by decide))).mono ?_
  rintro e w' ⟨rfl, hb⟩
  exact ⟨rfl, ((Below.refl _ _).alloc (Nat.le_refl _) _).trans (hb.mono (by simp))⟩

theorem chk_still (n : Nat) (h : n ≤ 32) : chk (List.replicate n 0) = 0 := by
  have h1 : (List.replicate n (0 : Int)).any bey = false := by
    rw [List.any_eq_false]
    intro x hx
    rw [(List.mem_replicate.1 hx).2]
    decide
  simp [chk, h1]
  omega
theorem two_self (l : List Int) : two l l = chk l := by
  unfold two
  by_cases h : chk l = 0 <;> simp [h]
theorem two_still (l : List Int) : two l (List.replicate l.length 0) = chk l := by
  unfold two
  by_cases h : chk l = 0
  · have := chk_still l.length (ok_of h).1
    simp [h, this]
  · simp [h]
theorem mix_still (l : List Int) (h : Ok l) : mix l (List.replicate l.length 0) = l := by
  apply List.ext_getElem
  · simp [mix]
  · intro j h1 h2
    have hb := h.at h2
    have e1 : l.getD j 0 = l[j] := by rw [List.getD_eq_getElem?_getD, List.getElem?_eq_getElem h2]; rfl
    have e2 : (List.replicate l.length (0 : Int)).getD j 0 = 0 := by
      rw [List.getD_eq_getElem?_getD, List.getElem?_replicate]; split <;> rfl
    simp only [mix, List.getElem_map, List.getElem_range, mixAt, e1, e2, clamp, Int.add_zero]
    rw [if_neg (by omega), if_neg (by omega)]
theorem ap_self (l : List Int) : ap l l = 0 := by
  unfold ap
  generalize l.length = k
  induction k with
  | zero => rfl
  | succ k ih => rw [apTo, ih, Int.sub_self]; rfl

theorem mix_yes (a : Option Addr) (cap : Nat) (l : List Int) (g : Nat) (w : World) (hl : l.length ≤ 9223372036854775807) (hr : Row w a l) (hrs : Row w (some ⟨g, 0, none⟩) (List.replicate l.length 0)) (h : Hid (chk l = 0)) :
    Calls Try.prog 8 #[.slice a l.length cap, .slice (some ⟨g, 0, none⟩) l.length l.length] w fun e w' => ∃ g', e = .returned (.tuple #[.slice (some ⟨g', 0, none⟩) l.length l.length, .nilIface]) ∧ Row w' (some ⟨g', 0, none⟩) l ∧ Below w.heap.size w w' := by
  have := mix_ok a cap l (some ⟨g, 0, none⟩) l.length (List.replicate l.length 0) w hl (by simpa using hl) hr hrs (hide (by rw [two_still]; exact unhide h))
  rw [List.length_replicate, mix_still l (ok_of (unhide h))] at this
  exact this
theorem mix_not (a : Option Addr) (cap : Nat) (l : List Int) (g : Nat) (w : World) (hl : l.length ≤ 9223372036854775807) (hr : Row w a l) (hrs : Row w (some ⟨g, 0, none⟩) (List.replicate l.length 0)) (h : Hid (chk l ≠ 0)) :
    Calls Try.prog 8 #[.slice a l.length cap, .slice (some ⟨g, 0, none⟩) l.length l.length] w fun e w' => e = .returned (.tuple #[.slice none 0 0, .iface 23 (.int .i64 (chk l))]) ∧ Below w.heap.size w w' := by
  have := mix_no a cap l (some ⟨g, 0, none⟩) l.length (List.replicate l.length 0) w hl (by simpa using hl) hr hrs (hide (by rw [two_still]; exact unhide h))
  rw [List.length_replicate, two_still] at this
  exact this

set_option maxHeartbeats 400000 in
theorem walk (a0 : Option Addr) (cap0 : Nat) (l0 : List Int) (w : World) (hr0 : Row w a0 l0) (hw0 : ∀ n ∈ l0, (Lit.int .i64 n).wf = true) (hz0 : l0.length * 8 ≤ 140737488351232) :
    Calls Try.prog 5 #[.slice a0 l0.length cap0] w fun e w' => e = .returned (.bool true) ∧ Below w.heap.size w w' := by
  obtain ⟨i0, hi, hz, hz1, hz2⟩ := info_parts info_int
  have HZ2 := hide hz2
  clear hz2
  go_enter Try.func5, Try.ntmps5
  go_wp2_with fail
  refine (fact w).mono ?_
  rintro e w1 ⟨rfl, hb1⟩
  go_wp2_with (at_make; refine wpList_make_full _ rfl _ _ 26 rfl w1.heap.size 3 i0 (.int .i64 0) 1 Try.underlying26 hi hz hz1 _ _ _ _ l0.length rfl rfl rfl rfl ?c1 ?c2 (Nat.le_refl _) ?_)
  case c1 => rw [unhide HZ2]; omega
  case c2 => unfold maxLen; omega
  intro w2 hown hgrow
  have hb2 : Below w1.heap.size w1 w2 := (Below.refl _ _).grown hgrow (Nat.le_refl _) (by intro k hk; cases hk)
  have hrl := (hr0.below hb1).below hb2
  have hrs : Row w2 (some ⟨w1.heap.size, 0, none⟩) (List.replicate l0.length 0) := by
    refine Owns.row (base := w1.heap.size) ?_
    unfold Owns
    rw [List.map_replicate, List.length_replicate, ← toList_madeCells_one]
    exact hown
  have hb3 := Below.chain hb1 hb2
  clear hown hgrow hb2
  have hlen : l0.length ≤ 9223372036854775807 := by omega
  by_cases h : chk l0 = 0
  · have H1 := hide h
    have H2 : Hid (two l0 l0 = 0) := hide (by rw [two_self]; exact h)
    clear h
    go_wp2_with fail
    refine (mix_yes a0 cap0 l0 w1.heap.size w2 hlen hrl hrs H1).mono ?_
    rintro e w3 ⟨g, rfl, hrm, hb4⟩
    have hr3 := hrl.below hb4
    go_wp2_with fail
    refine (apart_ok a0 cap0 l0 a0 cap0 l0 w3 hlen hlen hr3 hr3 H2).mono ?_
    rw [ap_self]
    rintro e w4 ⟨rfl, hb5⟩
    have hr4 := hr3.below hb5
    have hrm4 := hrm.below hb5
    go_wp2_with fail
    refine (ints (some ⟨g, 0, none⟩) l0.length l0 a0 cap0 l0 w4 hlen hlen hrm4 hr4).mono ?_
    rw [decide_eq_true rfl]
    rintro e w5 ⟨rfl, n, rfl⟩
    go_wp2
    go_ret
    exact ⟨rfl, below_drewN (Below.chain (Below.chain hb3 hb4) hb5) _⟩
  · have H1 := hide h
    have H2 : Hid (two l0 l0 ≠ 0) := hide (by rw [two_self]; exact h)
    clear h
    go_wp2_with fail
    refine (mix_not a0 cap0 l0 w1.heap.size w2 hlen hrl hrs H1).mono ?_
    rintro e w3 ⟨rfl, hb4⟩
    have hr3 := hrl.below hb4
    go_wp2_with fail
    refine (apart_no a0 cap0 l0 a0 cap0 l0 w3 hlen hlen hr3 hr3 H2).mono ?_
    rintro e w4 ⟨rfl, hb5⟩
    go_wp2
    go_ret
    exact ⟨rfl, Below.chain (Below.chain hb3 hb4) hb5⟩

set_option maxRecDepth 100000 in
theorem lifted (os : Os) (started : os.Started) (H : Type) (enc : TypeId × Value → H) :
    ReturnsInHanded {} Try.checked os 5 .any (Rows.soundStillSpec.pre6 enc Try.prog Try.f5 Rows.soundStillRow.domain false) (Rows.soundStillSpec.post enc Try.prog Try.f5 false true false false) := by
  refine returnsInHanded_of_change_sized (C := Try.checked) own started (by kernel_rfl) Try.func5
    (ChangeSpec.witness6 (enc := enc) (C := Try.checked) false ⟨#[], #[.slice none 0 0], []⟩ 8 (by kernel_rfl) (by kernel_rfl) (by kernel_rfl) (by kernel_rfl)) ?_
  intro W base args ds gs before hval0 hW hcnd hsz0 _
  have hsz : (DataW.weightsEach Try.prog (Try.f5.params.toList ++ Rows.soundStillSpec.plain.varTypes Try.prog) (ds ++ gs)).all (· ≤ reachBytes) = true := hsz0
  have hval : ∀ (j : Nat) t v, Try.f5.params[j]? = some t → args[j]? = some v → Value.okWide Try.prog W .any base t v := hval0
  have hW' := hW
  obtain ⟨p, q, hA0, hV, rfl, hfz, hnd⟩ := hW
  have hA : DataW.TrodAll enc Try.prog W 0 (fun _ => true) true Try.f5.params.toList args.toList ds p := hA0
  rw [Try.params5] at hA hval hsz
  obtain ⟨v0, vs0, d0, ds0, p0, q0, hargs, rfl, rfl, h0, r0⟩ := trodAll_cons hA
  obtain ⟨rfl, rfl, rfl⟩ := trodAll_nil r0
  obtain rfl : args = #[v0] := by cases args; simp_all
  obtain ⟨rfl, rfl⟩ := trodVars_none hV
  obtain ⟨a0, len0, cap0, rfl⟩ := okWide_slice Try.underlying26 (hval 0 26 v0 rfl rfl)
  have k0 := h0
  have lt0 : ∀ x ∈ p0, x.block < W.heap.size := by obtain ⟨m, hm⟩ := k0; exact DataW.trod_lt m _ _ _ hm
  obtain ⟨l0, hlen0, hr0, hw0, hz0⟩ := open_row h0 (fun e s hd => sized_slice hsz (j := 0) (t := 26) (e := 3) rfl (by rw [hd]; rfl) Try.underlying26)
  subst hlen0
  clear hA0 hval0 hsz0
  refine (walk a0 cap0 l0 W hr0 hw0 hz0).mono fun e W' ⟨he, bel⟩ => ?_
  subst he
  exact ⟨_, rfl, _, _, _, [], _, [], hW', trodAll_mk1 (shut_bool Try.underlying4 _), (trodAll_cons_mk (Below.trod laidOut (by kernel_rfl) (of_decide_eq_true (by kernel_rfl)) k0 bel lt0) trodAll_mk0), rfl, bel.frame _, fun h => by cases h⟩
end Go.Proofs.Ytmbicnjciddcmaa.SoundStillLaw
namespace Go.Proofs.Ytmbicnjciddcmaa
open Go.ChangeShapes Go.WideShapes Go.ChangeAt Go.RowKit

theorem soundStill_holds : Rows.SoundStillSaid :=
  OpenClaim.holds_of_wide 5 Try.f5 rfl rfl rfl rfl rfl rfl rfl ⟨rfl, rfl, rfl, rfl, rfl⟩ rfl rfl rfl rfl rfl (by kernel_rfl) Try.func5 (by kernel_rfl)
    (of_decide_eq_true (by kernel_rfl)) (by unfold Func.isWrapper; first | (rw [if_pos (by decide +kernel)]; kernel_rfl) | (rw [if_neg (by decide +kernel)]; exact ⟨rfl, rfl⟩))
    (fun os started H enc _ => SoundStillLaw.lifted os started H enc)
end Go.Proofs.Ytmbicnjciddcmaa
