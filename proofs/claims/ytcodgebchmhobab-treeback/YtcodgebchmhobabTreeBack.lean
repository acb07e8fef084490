/-
  It is proved that hornlaw1.TreeBack returns true for every two lists and every number of levels: samples come back, what comes back is forward what it was, what is all alike has no differences. No condition.
-/
import Derived.Test.YtcodgebchmhobabTreeBackWalk
import Derived.Test.YtcodgebchmhobabFrame
namespace Go.Proofs.Ytcodgebchmhobab.TreeBackLaw
open Go.ChangeShapes Go.WideShapes Go.ChangeAt Go.RowKit
open Go.Proofs.Ytcodgebchmhobab.Tre Go.Proofs.Ytcodgebchmhobab.Same
set_option linter.unusedVariables false

theorem chk_neg {l : List Int} {n b : Int} (h : n < 0) : chk l n b ≠ 0 := by
  unfold chk
  split
  · omega
  · rw [if_pos (Or.inl h)]; omega

set_option maxRecDepth 100000 in
set_option maxHeartbeats 2000000 in
theorem walk_neg (a0 : Option Addr) (cap0 : Nat) (l : List Int) (n : Int) (a2 : Option Addr) (cap2 : Nat) (m : List Int) (w : World) (hn : n < 0) (hr0 : Row w a0 l) (z0 : l.length ≤ 9223372036854775807) (hr2 : Row w a2 m) (z2 : m.length ≤ 9223372036854775807) :
    Calls Try.prog 4 #[.slice a0 l.length cap0, .int .i64 n, .slice a2 m.length cap2] w fun e w' => e = .returned (.bool true) ∧ Below w.heap.size w w' := by
  have hbA : Below w.heap.size w (w.alloc (.cells #[.int .i64 1, .int .i64 2, .int .i64 3, .int .i64 6] 3)) := (Below.refl _ _).alloc (Nat.le_refl _) _
  have hrA := four_row w 3
  have HM := hide (chk_neg (l := m) (b := 2000) hn)
  have HL := hide (chk_neg (l := l) (b := 1000) hn)
  go_enter Try.func4, Try.ntmps4
  go_wp2_with fail
  refine (fwd_ok (some ⟨w.heap.size, 0, none⟩) 4 [1, 2, 3, 6] 2 _ (by decide) hrA (hide rfl)).mono ?_
  rintro e w1 ⟨v1, rfl, h1, hb1⟩
  have et : tree 2 [1, 2, 3, 6] = [2, -3, -1, -3] := by decide
  rw [et] at h1
  clear et
  obtain ⟨p1, q1, rfl, r1⟩ := h1.row
  obtain ⟨b, off, rfl, hc⟩ := row_at r1 (by decide)
  have c0 : w1.cell? ⟨b, off, none⟩ = some (.int .i64 2) := hc 0 (by decide)
  have c1 : w1.cell? ⟨b, off + 1, none⟩ = some (.int .i64 (-3)) := hc 1 (by decide)
  have c2 : w1.cell? ⟨b, off + 2, none⟩ = some (.int .i64 (-1)) := hc 2 (by decide)
  have c3 : w1.cell? ⟨b, off + 3, none⟩ = some (.int .i64 (-3)) := hc 3 (by decide)
  have hbw := Below.chain hbA hb1
  clear hc r1 h1 hbA hb1 hrA
  go_wp2_with fail
  clear c0 c1 c2 c3
  refine (inv_no a2 cap2 m n w1 z2 (hr2.below hbw) HM).mono ?_
  rintro e w5 ⟨rfl, hb5⟩
  have hB := Below.chain hbw hb5
  go_wp2_with fail
  refine (fwd_no a0 cap0 l n w5 z0 (hr0.below hB) HL).mono ?_
  rintro e w6 ⟨rfl, hb6⟩
  go_wp2
  go_ret
  exact ⟨rfl, Below.chain hB hb6⟩

theorem walk (a0 : Option Addr) (cap0 : Nat) (l : List Int) (n : Int) (a2 : Option Addr) (cap2 : Nat) (m : List Int) (w : World) (hr0 : Row w a0 l) (hw0 : ∀ n ∈ l, (Lit.int .i64 n).wf = true) (hz0 : l.length * 8 ≤ 140737488351232)
    (hwn : (Lit.int .i64 n).wf = true) (hr2 : Row w a2 m) (hw2 : ∀ n ∈ m, (Lit.int .i64 n).wf = true) (hz2 : m.length * 8 ≤ 140737488351232) :
    Calls Try.prog 4 #[.slice a0 l.length cap0, .int .i64 n, .slice a2 m.length cap2] w fun e w' => e = .returned (.bool true) ∧ Below w.heap.size w w' := by
  by_cases h : n < 0
  · exact walk_neg a0 cap0 l n a2 cap2 m w h hr0 (by omega) hr2 (by omega)
  · obtain ⟨k, rfl⟩ : ∃ k : Nat, n = k := ⟨n.toNat, by omega⟩
    exact walk_nat a0 cap0 l k a2 cap2 m w hr0 (by omega) hr2 (by omega)

set_option maxRecDepth 100000 in
theorem lifted (os : Os) (started : os.Started) (H : Type) (enc : TypeId × Value → H) :
    ReturnsInHanded {} Try.checked os 4 .any (Rows.treeBackSpec.pre6 enc Try.prog Try.f4 Rows.treeBackRow.domain false) (Rows.treeBackSpec.post enc Try.prog Try.f4 false true false false) := by
  refine returnsInHanded_of_change_sized (C := Try.checked) own started (by kernel_rfl) Try.func4
    (ChangeSpec.witness6 (enc := enc) (C := Try.checked) false ⟨#[], #[.slice none 0 0, .int .i64 0, .slice none 0 0], []⟩ 8 (by kernel_rfl) (by kernel_rfl) (by kernel_rfl) (by kernel_rfl)) ?_
  intro W base args ds gs before hval0 hW hcnd hsz0 _
  have hsz : (DataW.weightsEach Try.prog (Try.f4.params.toList ++ Rows.treeBackSpec.plain.varTypes Try.prog) (ds ++ gs)).all (· ≤ reachBytes) = true := hsz0
  have hval : ∀ (j : Nat) t v, Try.f4.params[j]? = some t → args[j]? = some v → Value.okWide Try.prog W .any base t v := hval0
  have hW' := hW
  obtain ⟨p, q, hA0, hV, rfl, hfz, hnd⟩ := hW
  have hA : DataW.TrodAll enc Try.prog W 0 (fun _ => true) true Try.f4.params.toList args.toList ds p := hA0
  rw [Try.params4] at hA hval hsz
  obtain ⟨v0, vs0, d0, ds0, p0, q0, hargs, rfl, rfl, h0, r0⟩ := trodAll_cons hA
  obtain ⟨v1, vs1, d1, ds1, p1, q1, rfl, rfl, rfl, h1, r1⟩ := trodAll_cons r0
  obtain ⟨v2, vs2, d2, ds2, p2, q2, rfl, rfl, rfl, h2, r2⟩ := trodAll_cons r1
  obtain ⟨rfl, rfl, rfl⟩ := trodAll_nil r2
  obtain rfl : args = #[v0, v1, v2] := by cases args; simp_all
  obtain ⟨rfl, rfl⟩ := trodVars_none hV
  obtain ⟨a0, len0, cap0, rfl⟩ := okWide_slice Try.underlying27 (hval 0 27 v0 rfl rfl)
  have k0 := h0
  have lt0 : ∀ x ∈ p0, x.block < W.heap.size := by obtain ⟨m, hm⟩ := k0; exact DataW.trod_lt m _ _ _ hm
  obtain ⟨l0, hlen0, hr0, hw0, hz0⟩ := open_row h0 (fun e s hd => sized_slice hsz (j := 0) (t := 27) (e := 3) rfl (by rw [hd]; rfl) Try.underlying27)
  subst hlen0
  obtain ⟨n1, rfl, rfl, rfl, hw1⟩ := open_int Try.underlying3 (hval 1 3 v1 rfl rfl) h1
  obtain ⟨a2, len2, cap2, rfl⟩ := okWide_slice Try.underlying27 (hval 2 27 v2 rfl rfl)
  have k2 := h2
  have lt2 : ∀ x ∈ p2, x.block < W.heap.size := by obtain ⟨m, hm⟩ := k2; exact DataW.trod_lt m _ _ _ hm
  obtain ⟨l2, hlen2, hr2, hw2, hz2⟩ := open_row h2 (fun e s hd => sized_slice hsz (j := 2) (t := 27) (e := 3) rfl (by rw [hd]; rfl) Try.underlying27)
  subst hlen2
  clear hA0 hval0 hsz0
  refine (walk a0 cap0 l0 n1 a2 cap2 l2 W hr0 hw0 hz0 hw1 hr2 hw2 hz2).mono fun e W' ⟨he, bel⟩ => ?_
  subst he
  exact ⟨_, rfl, _, _, _, [], _, [], hW', trodAll_mk1 (shut_bool Try.underlying4 _), (trodAll_cons_mk (Below.trod laidOut (by kernel_rfl) (of_decide_eq_true (by kernel_rfl)) k0 bel lt0) (trodAll_cons_mk (shut_int Try.underlying3 hw1) (trodAll_cons_mk (Below.trod laidOut (by kernel_rfl) (of_decide_eq_true (by kernel_rfl)) k2 bel lt2) trodAll_mk0))), rfl, bel.frame _, fun h => by cases h⟩
end Go.Proofs.Ytcodgebchmhobab.TreeBackLaw
namespace Go.Proofs.Ytcodgebchmhobab
open Go.ChangeShapes Go.WideShapes Go.ChangeAt Go.RowKit

theorem treeBack_holds : Rows.TreeBackSaid :=
  OpenClaim.holds_of_wide 4 Try.f4 rfl rfl rfl rfl rfl rfl rfl ⟨rfl, rfl, rfl, rfl, rfl⟩ rfl rfl rfl rfl rfl (by kernel_rfl) Try.func4 (by kernel_rfl)
    (of_decide_eq_true (by kernel_rfl)) (by unfold Func.isWrapper; first | (rw [if_pos (by decide +kernel)]; kernel_rfl) | (rw [if_neg (by decide +kernel)]; exact ⟨rfl, rfl⟩))
    (fun os started H enc _ => TreeBackLaw.lifted os started H enc)
end Go.Proofs.Ytcodgebchmhobab
