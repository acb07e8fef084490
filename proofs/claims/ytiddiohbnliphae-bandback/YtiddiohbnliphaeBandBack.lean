/-
  It is proved that hornlaw1.BandBack returns true for all sizes, all numbers and all bands: cut, and joined, it is itself, and joined, and cut. No condition but the form's own reach.
-/
import Derived.Test.YtiddiohbnliphaeBandSplit
import Derived.Test.YtiddiohbnliphaeBandJoin
import Derived.Test.YtiddiohbnliphaeLists
import Derived.Test.YtiddiohbnliphaeRoom
import Derived.Test.YtiddiohbnliphaeDeepFrame
namespace Go.Proofs.Ytiddiohbnliphae.BandBackLaw
open Go.ChangeShapes Go.WideShapes Go.ChangeAt Go.RowKit
open Go.Proofs.Ytiddiohbnliphae.Tre Go.Proofs.Ytiddiohbnliphae.Bnd Go.Proofs.Ytiddiohbnliphae.Same
set_option linter.unusedVariables false

theorem row_three (w : World) (x y z : Int) (t : TypeId) : Row (w.alloc (.cells #[.int .i64 x, .int .i64 y, .int .i64 z] t)) (some ⟨w.heap.size, 0, none⟩) [x, y, z] := by
  refine Or.inr ⟨w.heap.size, 0, rfl, by simp, fun j hj => ?_⟩
  have hj' : j = 0 ∨ j = 1 ∨ j = 2 := by simp at hj; omega
  rcases hj' with rfl | rfl | rfl <;> (rw [World.cell?_alloc_at _ _ _ _ rfl]; rfl)

theorem fact (w : World) : Calls Try.prog 16 #[.slice (some ⟨w.heap.size, 0, none⟩) 3 3, .slice (some ⟨w.heap.size + 1, 0, none⟩) 2 2] ((w.alloc (.cells #[.int .i64 1, .int .i64 2, .int .i64 3] 3)).alloc (.cells #[.int .i64 1, .int .i64 2] 3))
    fun e w' => ∃ b off b' off' C', e = .returned (.tuple #[.slice (some ⟨b, off, none⟩) 2 2, .nilIface]) ∧ w'.cell? ⟨b, off + 1, none⟩ = some (.slice (some ⟨b', off', none⟩) 2 C') ∧ w'.cell? ⟨b', off', none⟩ = some (.int .i64 2) ∧ Below w.heap.size w w' := by
  have hb1 : Below w.heap.size w (w.alloc (.cells #[.int .i64 1, .int .i64 2, .int .i64 3] 3)) := (Below.refl _ _).alloc (Nat.le_refl _) _
  have hb2 : Below (w.alloc (.cells #[.int .i64 1, .int .i64 2, .int .i64 3] 3)).heap.size (w.alloc (.cells #[.int .i64 1, .int .i64 2, .int .i64 3] 3)) ((w.alloc (.cells #[.int .i64 1, .int .i64 2, .int .i64 3] 3)).alloc (.cells #[.int .i64 1, .int .i64 2] 3)) := (Below.refl _ _).alloc (Nat.le_refl _) _
  have hs := row_two (w.alloc (.cells #[.int .i64 1, .int .i64 2, .int .i64 3] 3)) 1 2 3
  have es : (w.alloc (.cells #[.int .i64 1, .int .i64 2, .int .i64 3] 3)).heap.size = w.heap.size + 1 := by simp
  rw [es] at hs
  have h := split_ok (some ⟨w.heap.size, 0, none⟩) 3 [1, 2, 3] (some ⟨w.heap.size + 1, 0, none⟩) 2 [1, 2] _ ((row_three w 1 2 3 3).below hb2) (by simp) (by simp) hs (hide (by decide +kernel)) (hide (by decide +kernel))
  refine h.mono fun e w' ⟨A, he, hR, hb'⟩ => ?_
  have ec : cuts [1, 2, 3] [1, 2] = [[1], [2, 3]] := by decide +kernel
  rw [ec] at hR
  obtain ⟨b, off, rfl, _, hc⟩ := hR.at (k := 0) (by simp)
  obtain ⟨A', C', c1, c2, c3, c4, c5⟩ := hc 1 (by simp)
  have c5' : Row w' A' [2, 3] := c5
  obtain ⟨b', off', rfl, _, hc'⟩ := c5'.at (k := 0) (by simp)
  exact ⟨b, off, b', off', C', he, c1, hc' 0 (by simp), Below.chain hb1 (Below.chain hb2 hb')⟩

set_option maxRecDepth 100000 in
set_option maxHeartbeats 16000000 in
theorem walk (a0 : Option Addr) (cap0 : Nat) (s : List Int) (a1 : Option Addr) (cap1 : Nat) (l : List Int) (a2 : Option Addr) (cap2 : Nat) (m : List (List Int)) (w : World)
    (hr0 : Row w a0 s) (hw0 : ∀ n ∈ s, (Lit.int .i64 n).wf = true) (hz0 : s.length * 8 ≤ 140737488351232)
    (hr1 : Row w a1 l) (hw1 : ∀ n ∈ l, (Lit.int .i64 n).wf = true) (hz1 : l.length * 8 ≤ 140737488351232) (hq1 : (a1 = none → cap1 = 0) ∧ l.length ≤ cap1 ∧ cap1 ≤ 9223372036854775807)
    (hr2 : Rws w a2 m) (hw2 : ∀ l ∈ m, ∀ n ∈ l, (Lit.int .i64 n).wf = true) (hz2 : m.length * 24 ≤ 140737488351232) :
    Calls Try.prog 5 #[.slice a0 s.length cap0, .slice a1 l.length cap1, .slice a2 m.length cap2] w fun e w' => e = .returned (.bool true) ∧ Below w.heap.size w w' := by
  obtain ⟨q1, q2, q3⟩ := hq1
  have z0 : s.length ≤ 9223372036854775807 := by omega
  have z1 : l.length ≤ 9223372036854775807 := by omega
  have z2 : m.length ≤ 9223372036854775807 := by omega
  have hway : Hid (bf s ≠ 0) ∨ (Hid (bf s = 0) ∧ (Hid (l.length ≠ total s) ∨ Hid (total s = l.length))) := by
    by_cases h : bf s = 0
    · by_cases h2 : total s = l.length
      · exact Or.inr ⟨h, Or.inr h2⟩
      · exact Or.inr ⟨h, Or.inl fun e => h2 e.symm⟩
    · exact Or.inl h
  have hway2 : Hid (¬ Shaped m s) ∨ Hid (Shaped m s) := by
    by_cases h : Shaped m s
    · exact Or.inr h
    · exact Or.inl h
  clear hw0 hw1 hw2 hz0 hz1 hz2 q1
  go_enter Try.func5, Try.ntmps5
  go_wp2_with fail
  refine (fact w).mono ?_
  rintro e w1 ⟨b, off, b', off', C', rfl, c1, c2, hb1⟩
  have hs1 := hr0.below hb1
  have hl1 := hr1.below hb1
  go_wp2_with fail
  clear c1 c2
  rcases hway with HF0 | ⟨HF1, HT1 | HT2⟩
  all_goals (first
    | (refine (split_no a1 cap1 l.length a0 cap0 s w1 z0 hs1 HF0).mono ?_
       rintro e w5 ⟨rfl, rfl⟩
       have hB := hb1
       clear hs1 hl1 hb1
       go_wp2_with fail)
    | (refine (split_shape a1 cap1 l.length a0 cap0 s w1 z0 z1 hs1 HF1 HT1).mono ?_
       rintro e w5 ⟨rfl, rfl⟩
       have hB := hb1
       clear hs1 hl1 hb1
       go_wp2_with fail)
    | (have HTT := HT2
       have hsz := (bf_ok (unhide HF1)).2.2.1
       have c3 := fun p W h hs => join_ok p s.length (cuts l s) a0 cap0 s W h hs HF1 (hide (shaped_cuts hsz (unhide HT2)))
       rw [cuts_length, join_cuts (unhide HT2)] at c3
       have C3 := hide c3
       clear c3 hsz
       refine (split_ok a1 cap1 l a0 cap0 s w1 hl1 q2 q3 hs1 HF1 HT2).mono ?_
       rintro e w2 ⟨A, rfl, hR, hb2⟩
       have hB2 := Below.chain hb1 hb2
       have hs2 := hs1.below hb2
       clear hs1 hl1 hb1 hb2
       go_wp2_with fail
       refine (unhide C3 A w2 hR hs2).mono ?_
       rintro e w3 ⟨v3, rfl, k3, hb3⟩
       have hB3 := Below.chain hB2 hb3
       obtain ⟨p3, q3', rfl, r3⟩ := k3.row
       have hl3 := hr1.below hB3
       clear C3 hR hs2 hB2 hb3 k3
       go_wp2_with fail
       refine (ints_same p3 q3' a1 cap1 l w3 z1 r3 hl3).mono ?_
       rintro e w5 ⟨rfl, hb5⟩
       have hB := Below.chain hB3 hb5
       clear r3 hl3 hB3 hb5
       go_wp2_with fail))
  all_goals
    have hs5 := hr0.below hB
    have hm5 := hr2.below hB
    rcases hway2 with HS1 | HS2
  all_goals (first
    | (refine (join_no a2 cap2 m.length a0 cap0 s w5 z0 hs5 HF0).mono ?_
       rintro e w6 ⟨rfl, rfl⟩
       go_wp2
       go_ret
       exact ⟨rfl, hB⟩)
    | (refine (join_shape a2 cap2 m a0 cap0 s w5 z2 z0 hm5 hs5 HF1 HS1).mono ?_
       rintro e w6 ⟨rfl, rfl⟩
       go_wp2
       go_ret
       exact ⟨rfl, hB⟩)
    | (have HSS := HS2
       have c7 := fun p q W h h1 h9 hs => split_ok p q m.flatten a0 cap0 s W h h1 h9 hs HF1 (hide (unhide HS2).total.symm)
       rw [cuts_join (unhide HS2), ← (unhide HS2).1] at c7
       obtain ⟨T, hT⟩ : ∃ T, m.flatten.length = T := ⟨_, rfl⟩
       rw [hT] at c7
       have HTT := hide hT
       have C7 := hide c7
       have C8 := hide (fun p q W h h' => lists_same p q a2 cap2 m W z2 h h')
       have j5 := join_ok a2 cap2 m a0 cap0 s w5 hm5 hs5 HF1 HS2
       rw [← (unhide HS2).1] at j5 ⊢
       clear c7 hT
       refine j5.mono ?_
       clear j5
       rintro e w6 ⟨v6, rfl, k6, hb6⟩
       have hB6 := Below.chain hB hb6
       obtain ⟨p6, q6, rfl, _, n6, m6, r6⟩ := k6.sli
       rw [unhide HTT] at n6 ⊢
       have hs6 := hs5.below hb6
       clear k6 hb6 hB hm5
       go_wp2_with fail
       refine (unhide C7 p6 q6 w6 r6 n6 m6 hs6).mono ?_
       rintro e w7 ⟨A7, rfl, hR7, hb7⟩
       have hB7 := Below.chain hB6 hb7
       have hm7 := hr2.below hB7
       go_wp2_with fail
       refine (unhide C8 A7 _ w7 hR7 hm7).mono ?_
       rintro e w8 ⟨rfl, hb8⟩
       go_wp2
       go_ret
       exact ⟨rfl, Below.chain hB7 hb8⟩))

set_option maxRecDepth 100000 in
theorem lifted (os : Os) (started : os.Started) (H : Type) (enc : TypeId × Value → H) :
    ReturnsInHanded {} Try.checked os 5 .any (Rows.bandBackSpec.pre6 enc Try.prog Try.f5 Rows.bandBackRow.domain false) (Rows.bandBackSpec.post enc Try.prog Try.f5 false true false false) := by
  refine returnsInHanded_of_change_sized (C := Try.checked) own started (by kernel_rfl) Try.func5
    (ChangeSpec.witness6 (enc := enc) (C := Try.checked) false ⟨#[], #[.slice none 0 0, .slice none 0 0, .slice none 0 0], []⟩ 8 (by kernel_rfl) (by kernel_rfl) (by kernel_rfl) (by kernel_rfl)) ?_
  intro W base args ds gs before hval0 hW hcnd hsz0 _
  have hsz : (DataW.weightsEach Try.prog (Try.f5.params.toList ++ Rows.bandBackSpec.plain.varTypes Try.prog) (ds ++ gs)).all (· ≤ reachBytes) = true := hsz0
  have hval : ∀ (j : Nat) t v, Try.f5.params[j]? = some t → args[j]? = some v → Value.okWide Try.prog W .any base t v := hval0
  have hW' := hW
  obtain ⟨p, q, hA0, hV, rfl, hfz, hnd⟩ := hW
  have hA : DataW.TrodAll enc Try.prog W 0 (fun _ => true) true Try.f5.params.toList args.toList ds p := hA0
  rw [Try.params5] at hA hval hsz
  obtain ⟨v0, vs0, d0, ds0, p0, q0, hargs, rfl, rfl, h0, r0⟩ := trodAll_cons hA
  obtain ⟨v1, vs1, d1, ds1, p1, q1, rfl, rfl, rfl, h1, r1⟩ := trodAll_cons r0
  obtain ⟨v2, vs2, d2, ds2, p2, q2, rfl, rfl, rfl, h2, r2⟩ := trodAll_cons r1
  obtain ⟨rfl, rfl, rfl⟩ := trodAll_nil r2
  obtain rfl : args = #[v0, v1, v2] := by cases args; simp_all
  obtain ⟨rfl, rfl⟩ := trodVars_none hV
  obtain ⟨a0, len0, cap0, rfl⟩ := okWide_slice Try.underlying27 (hval 0 27 v0 rfl rfl)
  have k0 := h0
  have lt0 : ∀ x ∈ p0, x.block < W.heap.size := by obtain ⟨m, hm⟩ := k0; exact DataW.trod_lt m _ _ _ hm
  obtain ⟨l0, hlen0, hr0, hw0, hz0⟩ := open_row h0 (fun e s hd => sized_slice hsz (j := 0) (t := 27) (e := 3) rfl (by rw [hd]; rfl) Try.underlying27)
  subst hlen0
  obtain ⟨a1, len1, cap1, rfl⟩ := okWide_slice Try.underlying27 (hval 1 27 v1 rfl rfl)
  have k1 := h1
  have lt1 : ∀ x ∈ p1, x.block < W.heap.size := by obtain ⟨m, hm⟩ := k1; exact DataW.trod_lt m _ _ _ hm
  obtain ⟨l1, hlen1, hr1, hw1, hz1⟩ := open_row h1 (fun e s hd => sized_slice hsz (j := 1) (t := 27) (e := 3) rfl (by rw [hd]; rfl) Try.underlying27)
  have hq1 := open_room k1
  subst hlen1
  obtain ⟨a2, len2, cap2, rfl⟩ := okWide_slice Try.underlying36 (hval 2 36 v2 rfl rfl)
  have k2 := h2
  have lt2 : ∀ x ∈ p2, x.block < W.heap.size := by obtain ⟨m, hm⟩ := k2; exact DataW.trod_lt m _ _ _ hm
  obtain ⟨l2, hlen2, hr2, hw2, hz2⟩ := open_rows h2 (fun e s hd => sized_slice hsz (j := 2) (t := 36) (e := 27) rfl (by rw [hd]; rfl) Try.underlying36)
  subst hlen2
  clear hA0 hval0 hsz0
  refine (walk a0 cap0 l0 a1 cap1 l1 a2 cap2 l2 W hr0 hw0 hz0 hr1 hw1 hz1 hq1 hr2 hw2 hz2).mono fun e W' ⟨he, bel⟩ => ?_
  subst he
  exact ⟨_, rfl, _, _, _, [], _, [], hW', trodAll_mk1 (shut_bool Try.underlying4 _), (trodAll_cons_mk (Below.trod laidOut (by kernel_rfl) (of_decide_eq_true (by kernel_rfl)) k0 bel lt0) (trodAll_cons_mk (Below.trod laidOut (by kernel_rfl) (of_decide_eq_true (by kernel_rfl)) k1 bel lt1) (trodAll_cons_mk (Below.trod laidOut (by kernel_rfl) (of_decide_eq_true (by kernel_rfl)) k2 bel lt2) trodAll_mk0))), rfl, bel.frame _, fun h => by cases h⟩
end Go.Proofs.Ytiddiohbnliphae.BandBackLaw
namespace Go.Proofs.Ytiddiohbnliphae
open Go.ChangeShapes Go.WideShapes Go.ChangeAt Go.RowKit

theorem bandBack_holds : Rows.BandBackSaid :=
  OpenClaim.holds_of_wide 5 Try.f5 rfl rfl rfl rfl rfl rfl rfl ⟨rfl, rfl, rfl, rfl, rfl⟩ rfl rfl rfl rfl rfl (by kernel_rfl) Try.func5 (by kernel_rfl)
    (of_decide_eq_true (by kernel_rfl)) (by unfold Func.isWrapper; first | (rw [if_pos (by decide +kernel)]; kernel_rfl) | (rw [if_neg (by decide +kernel)]; exact ⟨rfl, rfl⟩))
    (fun os started H enc _ => BandBackLaw.lifted os started H enc)
end Go.Proofs.Ytiddiohbnliphae
