/-
  It is proved that horntop.TopTurns returns true for all numbers, every number of levels and all sizes: of samples turned level by level, cut apart, joined, and turned back, and likewise over the edges, all come back. No condition but the form's own reach.
-/
import Derived.Test.YtjnmogmagngenaeTopOne
import Derived.Test.YtjnmogmagngenaeTreeFwd
import Derived.Test.YtjnmogmagngenaeTreeInv
import Derived.Test.YtjnmogmagngenaeLapFwd
import Derived.Test.YtjnmogmagngenaeLapInv
import Derived.Test.YtjnmogmagngenaeBandSplit
import Derived.Test.YtjnmogmagngenaeBandJoin
import Derived.Test.YtjnmogmagngenaeInts
import Derived.Test.YtjnmogmagngenaeFrame
namespace Go.Proofs.Ytjnmogmagngenae.TopTurnsLaw
open Go.ChangeShapes Go.WideShapes Go.ChangeAt Go.RowKit
open Go.Proofs.Ytjnmogmagngenae.Tre Go.Proofs.Ytjnmogmagngenae.Bnd Go.Proofs.Ytjnmogmagngenae.Same
set_option linter.unusedVariables false

set_option maxRecDepth 100000 in
set_option maxHeartbeats 16000000 in
theorem walk (a0 : Option Addr) (cap0 : Nat) (l : List Int) (n : Int) (a2 : Option Addr) (cap2 : Nat) (s : List Int) (w : World)
    (hr0 : Row w a0 l) (hw0 : ∀ n ∈ l, (Lit.int .i64 n).wf = true) (hz0 : l.length * 8 ≤ 140737488351232) (hwn : (Lit.int .i64 n).wf = true)
    (hr2 : Row w a2 s) (hw2 : ∀ n ∈ s, (Lit.int .i64 n).wf = true) (hz2 : s.length * 8 ≤ 140737488351232) :
    Calls Try.prog 7 #[.slice a0 l.length cap0, .int .i64 n, .slice a2 s.length cap2] w fun e w' => e = .returned (.bool true) ∧ Below w.heap.size w w' := by
  have z0 : l.length ≤ 9223372036854775807 := by omega
  have z2 : s.length ≤ 9223372036854775807 := by omega
  clear hw0 hw2 hz0 hz2 hwn
  go_enter Try.func7, Try.ntmps7
  go_wp2_with fail
  refine (Top.one_ok w).mono ?_
  rintro e w1 ⟨rfl, hb1⟩
  have hr1 := hr0.below hb1
  go_wp2_with fail
  by_cases hch : Tre.chk l n 1000 = 0
  · obtain ⟨t1, t2, t3, t4, t5⟩ := Tre.chk_zero hch
    obtain ⟨k, rfl⟩ : ∃ k : Nat, n = k := ⟨n.toNat, by omega⟩
    have t4' : 2 ^ k ∣ l.length := by simpa using t4
    have HC := hide hch
    have HTL := hide (tree_length k l t4')
    have HTI : Hid (Tre.chk (tree k l) k 2000 = 0) := hide (Tre.chk_of (by rw [unhide HTL]; exact t1) t2 t3 (by rw [unhide HTL]; simpa using t4') (tree_in k l t5))
    have HTB := hide (back_tree k l t4' t5)
    have HI5 := hide t5
    clear hch t4 t4' t5
    refine (Tre.fwd_ok a0 cap0 l k w1 z0 hr1 HC).mono ?_
    rintro e w2 ⟨v2, rfl, k2, hb2⟩
    have hB2 := Below.chain hb1 hb2
    obtain ⟨p2, q2, rfl, _, n2, m2, r2⟩ := k2.sli
    have hs2 := hr2.below hB2
    by_cases hbf : bf s = 0
    · have HF := hide hbf
      clear hbf
      by_cases htt : total s = l.length
      · have HT : Hid (total s = (tree k l).length) := hide (by rw [unhide HTL]; exact htt)
        have hsz := (bf_ok (unhide HF)).2.2.1
        have c2 := split_ok p2 q2 (tree k l) a2 cap2 s w2 r2 n2 m2 hs2 HF HT
        have c3 := fun p W h hs => join_ok p s.length (cuts (tree k l) s) a2 cap2 s W h hs HF (hide (shaped_cuts hsz (unhide HT)))
        rw [cuts_length, join_cuts (unhide HT)] at c3
        have c4 := fun p q W h => Tre.inv_ok p q (tree k l) l k W (by rw [unhide HTL]; exact z0) h HTI HTB
        rw [unhide HTL] at c2 c4 n2 ⊢
        have C2 := hide c2
        have C3 := hide c3
        have C4 := hide c4
        clear c2 c3 c4 hsz htt HTI HTB hb1 hb2 hr1 k2
        go_wp2_with fail
        refine (unhide C2).mono ?_
        rintro e w3 ⟨A3, rfl, hR3, hb3⟩
        have hB3 := Below.chain hB2 hb3
        have hs3 := hr2.below hB3
        clear C2 hb3 hB2 r2 hs2
        go_wp2_with fail
        refine (unhide C3 A3 w3 hR3 hs3).mono ?_
        rintro e w4 ⟨v4, rfl, k4, hb4⟩
        have hB4 := Below.chain hB3 hb4
        obtain ⟨p4, q4, rfl, r4⟩ := k4.row
        rw [unhide HTL]
        clear C3 hb4 hB3 k4 hR3 hs3
        go_wp2_with fail
        refine (unhide C4 p4 q4 w4 r4).mono ?_
        rintro e w5 ⟨v5, rfl, k5, hb5⟩
        have hB5 := Below.chain hB4 hb5
        obtain ⟨p5, q5, rfl, r5⟩ := k5.row
        have hr5 := hr0.below hB5
        clear C4 hb5 hB4 k5 r4
        go_wp2_with fail
        refine (ints_same p5 q5 a0 cap0 l w5 z0 r5 hr5).mono ?_
        rintro e w6 ⟨rfl, hb6⟩
        have hB6 := Below.chain hB5 hb6
        have hr6 := hr0.below hB6
        clear hb6 hB5 r5 hr5
        go_wp2_with fail
        by_cases hev : l.length = 2 * (l.length / 2)
        · have HLC : Hid (Lap.chk l 1000 = 0) := hide (Lap.chk_of t1 hev (unhide HI5))
          have HLT := hide (Lap.lap_length hev)
          have HLU := hide (Lap.unlap_lap hev)
          have HLI : Hid (Lap.chk (Lap.lap l) 4000 = 0) := hide (Lap.chk_of (by rw [unhide HLT]; exact t1) (by rw [unhide HLT]; exact hev) ((Lap.lap_in (by omega) (unhide HI5)).mono (by omega)))
          clear hev
          refine (Lap.fwd_ok a0 cap0 l w6 z0 hr6 HLC).mono ?_
          rintro e w7 ⟨v7, rfl, k7, hb7⟩
          have hB7 := Below.chain hB6 hb7
          obtain ⟨p7, q7, rfl, r7⟩ := k7.row
          have c7 := Lap.inv_ok p7 q7 (Lap.lap l) w7 (by rw [unhide HLT]; exact z0) (Lap.has_roomy k7) r7 HLI
          rw [unhide HLT, unhide HLU] at c7
          rw [unhide HLT]
          have C7 := hide c7
          clear c7 hB6 hr6 hb7 k7
          go_wp2_with fail
          refine (unhide C7).mono ?_
          rintro e w8 ⟨v8, rfl, k8, hb8⟩
          have hB8 := Below.chain hB7 hb8
          obtain ⟨p8, q8, rfl, r8⟩ := k8.row
          have hr8 := hr0.below hB8
          clear C7 hB7 hb8 k8 r7
          go_wp2_with fail
          refine (ints_same p8 q8 a0 cap0 l w8 z0 r8 hr8).mono ?_
          rintro e w9 ⟨rfl, hb9⟩
          go_wp2
          go_ret
          exact ⟨rfl, Below.chain hB8 hb9⟩
        · have HLC : Hid (Lap.chk l 1000 ≠ 0) := hide (fun h => hev (Lap.chk_zero h).2.1)
          have hmod : Int.tmod (l.length : Int) 2 = 1 := by
            have e : Int.tmod (l.length : Int) 2 = ((l.length % 2 : Nat) : Int) := rfl
            rw [e]; omega
          clear hev
          refine (Lap.fwd_no a0 cap0 l w6 z0 hr6 HLC).mono ?_
          rintro e w7 ⟨rfl, hb7⟩
          go_wp2
          go_ret
          exact ⟨rfl, Below.chain hB6 hb7⟩
      · have c2 := split_shape p2 q2 l.length a2 cap2 s w2 z2 z0 hs2 HF (hide fun e => htt e.symm)
        rw [unhide HTL]
        clear htt
        go_wp2_with fail
        refine c2.mono ?_
        rintro e w3 ⟨rfl, rfl⟩
        go_wp2
        go_ret
        exact ⟨rfl, hB2⟩
    · have c2 := split_no p2 q2 l.length a2 cap2 s w2 z2 hs2 hbf
      rw [unhide HTL]
      clear hbf
      go_wp2_with fail
      refine c2.mono ?_
      rintro e w3 ⟨rfl, rfl⟩
      go_wp2
      go_ret
      exact ⟨rfl, hB2⟩
  · have HC : Hid (Tre.chk l n 1000 ≠ 0) := hide hch
    clear hch
    refine (Tre.fwd_no a0 cap0 l n w1 z0 hr1 HC).mono ?_
    rintro e w2 ⟨rfl, hb2⟩
    go_wp2
    go_ret
    exact ⟨rfl, Below.chain hb1 hb2⟩

set_option maxRecDepth 100000 in
theorem lifted (os : Os) (started : os.Started) (H : Type) (enc : TypeId × Value → H) :
    ReturnsInHanded {} Try.checked os 7 .any (Rows.topTurnsSpec.pre6 enc Try.prog Try.f7 Rows.topTurnsRow.domain false) (Rows.topTurnsSpec.post enc Try.prog Try.f7 false true false false) := by
  refine returnsInHanded_of_change_sized (C := Try.checked) own started (by kernel_rfl) Try.func7
    (ChangeSpec.witness6 (enc := enc) (C := Try.checked) false ⟨#[], #[.slice none 0 0, .int .i64 0, .slice none 0 0], []⟩ 8 (by kernel_rfl) (by kernel_rfl) (by kernel_rfl) (by kernel_rfl)) ?_
  intro W base args ds gs before hval0 hW hcnd hsz0 _
  have hsz : (DataW.weightsEach Try.prog (Try.f7.params.toList ++ Rows.topTurnsSpec.plain.varTypes Try.prog) (ds ++ gs)).all (· ≤ reachBytes) = true := hsz0
  have hval : ∀ (j : Nat) t v, Try.f7.params[j]? = some t → args[j]? = some v → Value.okWide Try.prog W .any base t v := hval0
  have hW' := hW
  obtain ⟨p, q, hA0, hV, rfl, hfz, hnd⟩ := hW
  have hA : DataW.TrodAll enc Try.prog W 0 (fun _ => true) true Try.f7.params.toList args.toList ds p := hA0
  rw [Try.params7] at hA hval hsz
  obtain ⟨v0, vs0, d0, ds0, p0, q0, hargs, rfl, rfl, h0, r0⟩ := trodAll_cons hA
  obtain ⟨v1, vs1, d1, ds1, p1, q1, rfl, rfl, rfl, h1, r1⟩ := trodAll_cons r0
  obtain ⟨v2, vs2, d2, ds2, p2, q2, rfl, rfl, rfl, h2, r2⟩ := trodAll_cons r1
  obtain ⟨rfl, rfl, rfl⟩ := trodAll_nil r2
  obtain rfl : args = #[v0, v1, v2] := by cases args; simp_all
  obtain ⟨rfl, rfl⟩ := trodVars_none hV
  obtain ⟨a0, len0, cap0, rfl⟩ := okWide_slice Try.underlying27 (hval 0 27 v0 rfl rfl)
  have k0 := h0
  have lt0 : ∀ x ∈ p0, x.block < W.heap.size := by obtain ⟨m, hm⟩ := k0; exact DataW.trod_lt m _ _ _ hm
  obtain ⟨l0, hlen0, hr0, hw0, hz0⟩ := open_row h0 (fun e s hd => sized_slice hsz (j := 0) (t := 27) (e := 3) rfl (by rw [hd]; rfl) Try.underlying27)
  subst hlen0
  obtain ⟨n1, rfl, rfl, rfl, hw1⟩ := open_int Try.underlying3 (hval 1 3 v1 rfl rfl) h1
  obtain ⟨a2, len2, cap2, rfl⟩ := okWide_slice Try.underlying27 (hval 2 27 v2 rfl rfl)
  have k2 := h2
  have lt2 : ∀ x ∈ p2, x.block < W.heap.size := by obtain ⟨m, hm⟩ := k2; exact DataW.trod_lt m _ _ _ hm
  obtain ⟨l2, hlen2, hr2, hw2, hz2⟩ := open_row h2 (fun e s hd => sized_slice hsz (j := 2) (t := 27) (e := 3) rfl (by rw [hd]; rfl) Try.underlying27)
  subst hlen2
  clear hA0 hval0 hsz0
  refine (walk a0 cap0 l0 n1 a2 cap2 l2 W hr0 hw0 hz0 hw1 hr2 hw2 hz2).mono fun e W' ⟨he, bel⟩ => ?_
  subst he
  exact ⟨_, rfl, _, _, _, [], _, [], hW', trodAll_mk1 (shut_bool Try.underlying4 _), (trodAll_cons_mk (Below.trod laidOut (by kernel_rfl) (of_decide_eq_true (by kernel_rfl)) k0 bel lt0) (trodAll_cons_mk (shut_int Try.underlying3 hw1) (trodAll_cons_mk (Below.trod laidOut (by kernel_rfl) (of_decide_eq_true (by kernel_rfl)) k2 bel lt2) trodAll_mk0))), rfl, bel.frame _, fun h => by cases h⟩
end Go.Proofs.Ytjnmogmagngenae.TopTurnsLaw
namespace Go.Proofs.Ytjnmogmagngenae
open Go.ChangeShapes Go.WideShapes Go.ChangeAt Go.RowKit

theorem topTurns_holds : Rows.TopTurnsSaid :=
  OpenClaim.holds_of_wide 7 Try.f7 rfl rfl rfl rfl rfl rfl rfl ⟨rfl, rfl, rfl, rfl, rfl⟩ rfl rfl rfl rfl rfl (by kernel_rfl) Try.func7 (by kernel_rfl)
    (of_decide_eq_true (by kernel_rfl)) (by unfold Func.isWrapper; first | (rw [if_pos (by decide +kernel)]; kernel_rfl) | (rw [if_neg (by decide +kernel)]; exact ⟨rfl, rfl⟩))
    (fun os started H enc _ => TopTurnsLaw.lifted os started H enc)
end Go.Proofs.Ytjnmogmagngenae
