/-
  It is proved that hornlaw4.TreeNone returns true for every list: without a level nothing is done. No condition.
-/
import Derived.Test.YtcodgebchmhobabTreeInv
import Derived.Test.YtcodgebchmhobabInts
import Derived.Test.YtcodgebchmhobabFrame
namespace Go.Proofs.Ytcodgebchmhobab.TreeNoneLaw
open Go.ChangeShapes Go.WideShapes Go.ChangeAt Go.RowKit
open Go.Proofs.Ytcodgebchmhobab.Tre Go.Proofs.Ytcodgebchmhobab.Same
set_option linter.unusedVariables false

theorem walk (a : Option Addr) (cap : Nat) (l : List Int) (w : World) (hr : Row w a l) (hw : ∀ n ∈ l, (Lit.int .i64 n).wf = true) (hz : l.length * 8 ≤ 140737488351232) :
    Calls Try.prog 5 #[.slice a l.length cap] w fun e w' => e = .returned (.bool true) ∧ Below w.heap.size w w' := by
  have hl : l.length ≤ 9223372036854775807 := by omega
  by_cases h : chk l 0 1000 = 0
  · have H := hide h
    clear h
    go_enter Try.func5, Try.ntmps5
    go_wp2_with fail
    refine (fwd_ok a cap l 0 w hl hr H).mono ?_
    rintro e w1 ⟨v1, rfl, h1, hb1⟩
    obtain ⟨p1, q1, rfl, r1⟩ := Has.row (l := l) h1
    go_wp2_with fail
    refine (inv_nil none 0 5 w1 (by omega) (Or.inl rfl) (hide rfl)).mono ?_
    rintro e w2 ⟨rfl, hb2⟩
    have hb := Below.chain hb1 hb2
    have r2 := r1.below hb2
    have hr2 := hr.below hb
    go_wp2_with fail
    refine (ints_same p1 q1 a cap l w2 hl r2 hr2).mono ?_
    rintro e w3 ⟨rfl, hb3⟩
    go_wp2
    go_ret
    exact ⟨rfl, Below.chain hb hb3⟩
  · have H := hide h
    clear h
    go_enter Try.func5, Try.ntmps5
    go_wp2_with fail
    refine (fwd_no a cap l 0 w hl hr H).mono ?_
    rintro e w1 ⟨rfl, hb1⟩
    go_wp2_with fail
    refine (inv_nil none 0 5 w1 (by omega) (Or.inl rfl) (hide rfl)).mono ?_
    rintro e w2 ⟨rfl, hb2⟩
    go_wp2
    go_ret
    exact ⟨rfl, Below.chain hb1 hb2⟩

set_option maxRecDepth 100000 in
theorem lifted (os : Os) (started : os.Started) (H : Type) (enc : TypeId × Value → H) :
    ReturnsInHanded {} Try.checked os 5 .any (Rows.treeNoneSpec.pre6 enc Try.prog Try.f5 Rows.treeNoneRow.domain false) (Rows.treeNoneSpec.post enc Try.prog Try.f5 false true false false) := by
  refine returnsInHanded_of_change_sized (C := Try.checked) own started (by kernel_rfl) Try.func5
    (ChangeSpec.witness6 (enc := enc) (C := Try.checked) false ⟨#[], #[.slice none 0 0], []⟩ 8 (by kernel_rfl) (by kernel_rfl) (by kernel_rfl) (by kernel_rfl)) ?_
  intro W base args ds gs before hval0 hW hcnd hsz0 _
  have hsz : (DataW.weightsEach Try.prog (Try.f5.params.toList ++ Rows.treeNoneSpec.plain.varTypes Try.prog) (ds ++ gs)).all (· ≤ reachBytes) = true := hsz0
  have hval : ∀ (j : Nat) t v, Try.f5.params[j]? = some t → args[j]? = some v → Value.okWide Try.prog W .any base t v := hval0
  have hW' := hW
  obtain ⟨p, q, hA0, hV, rfl, hfz, hnd⟩ := hW
  have hA : DataW.TrodAll enc Try.prog W 0 (fun _ => true) true Try.f5.params.toList args.toList ds p := hA0
  rw [Try.params5] at hA hval hsz
  obtain ⟨v0, vs0, d0, ds0, p0, q0, hargs, rfl, rfl, h0, r0⟩ := trodAll_cons hA
  obtain ⟨rfl, rfl, rfl⟩ := trodAll_nil r0
  obtain rfl : args = #[v0] := by cases args; simp_all
  obtain ⟨rfl, rfl⟩ := trodVars_none hV
  obtain ⟨a0, len0, cap0, rfl⟩ := okWide_slice Try.underlying27 (hval 0 27 v0 rfl rfl)
  have k0 := h0
  have lt0 : ∀ x ∈ p0, x.block < W.heap.size := by obtain ⟨m, hm⟩ := k0; exact DataW.trod_lt m _ _ _ hm
  obtain ⟨l0, hlen0, hr0, hw0, hz0⟩ := open_row h0 (fun e s hd => sized_slice hsz (j := 0) (t := 27) (e := 3) rfl (by rw [hd]; rfl) Try.underlying27)
  subst hlen0
  clear hA0 hval0 hsz0
  refine (walk a0 cap0 l0 W hr0 hw0 hz0).mono fun e W' ⟨he, bel⟩ => ?_
  subst he
  exact ⟨_, rfl, _, _, _, [], _, [], hW', trodAll_mk1 (shut_bool Try.underlying4 _), (trodAll_cons_mk (Below.trod laidOut (by kernel_rfl) (of_decide_eq_true (by kernel_rfl)) k0 bel lt0) trodAll_mk0), rfl, bel.frame _, fun h => by cases h⟩
end Go.Proofs.Ytcodgebchmhobab.TreeNoneLaw
namespace Go.Proofs.Ytcodgebchmhobab
open Go.ChangeShapes Go.WideShapes Go.ChangeAt Go.RowKit

theorem treeNone_holds : Rows.TreeNoneSaid :=
  OpenClaim.holds_of_wide 5 Try.f5 rfl rfl rfl rfl rfl rfl rfl ⟨rfl, rfl, rfl, rfl, rfl⟩ rfl rfl rfl rfl rfl (by kernel_rfl) Try.func5 (by kernel_rfl)
    (of_decide_eq_true (by kernel_rfl)) (by unfold Func.isWrapper; first | (rw [if_pos (by decide +kernel)]; kernel_rfl) | (rw [if_neg (by decide +kernel)]; exact ⟨rfl, rfl⟩))
    (fun os started H enc _ => TreeNoneLaw.lifted os started H enc)
end Go.Proofs.Ytcodgebchmhobab
