/-
  It is proved that hornlaw1.LapBack returns true for every two lists and every three numbers: samples come back over the edges, what comes back is forward what it was, of what rises evenly only the last difference is not 0. No condition.
-/
import Derived.Test.YthlfckblhpdknabLapBackOut
import Derived.Test.YthlfckblhpdknabLapBackIn
import Derived.Test.YthlfckblhpdknabRoom
namespace Go.Proofs.Ythlfckblhpdknab.LapBackLaw
open Go.ChangeShapes Go.WideShapes Go.ChangeAt Go.RowKit
open Go.Proofs.Ythlfckblhpdknab.Tre Go.Proofs.Ythlfckblhpdknab.Lap Go.Proofs.Ythlfckblhpdknab.Same
set_option linter.unusedVariables false

theorem walk (a0 : Option Addr) (cap0 : Nat) (l : List Int) (a1 : Option Addr) (cap1 : Nat) (m : List Int) (f b n : Int) (w : World) (hr0 : Row w a0 l) (hw0 : ∀ n ∈ l, (Lit.int .i64 n).wf = true) (hz0 : l.length * 8 ≤ 140737488351232)
    (hr1 : Row w a1 m) (hw1 : ∀ n ∈ m, (Lit.int .i64 n).wf = true) (hz1 : m.length * 8 ≤ 140737488351232) (hq : (a1 = none → cap1 = 0) ∧ m.length ≤ cap1 ∧ cap1 ≤ 9223372036854775807) (hwf : (Lit.int .i64 f).wf = true) (hwb : (Lit.int .i64 b).wf = true) (hwn : (Lit.int .i64 n).wf = true) :
    Calls Try.prog 6 #[.slice a0 l.length cap0, .slice a1 m.length cap1, .int .i64 f, .int .i64 b, .int .i64 n] w fun e w' => e = .returned (.bool true) ∧ Below w.heap.size w w' := by
  obtain ⟨f0, f1⟩ := bounds_i64 hwf
  obtain ⟨b0, b1⟩ := bounds_i64 hwb
  obtain ⟨n0, n1⟩ := bounds_i64 hwn
  rcases outs_or f b n with h | ⟨h1, h2, h3, h4, M, rfl, h5, h6⟩
  · exact walk_out a0 cap0 l a1 cap1 m f b n w hr0 (by omega) hr1 (by omega) hq f0 f1 b0 b1 n0 n1 h
  · exact walk_in a0 cap0 l a1 cap1 m f b w hr0 (by omega) hr1 (by omega) hq M h1 h2 h3 h4 h5 h6

set_option maxRecDepth 100000 in
theorem lifted (os : Os) (started : os.Started) (H : Type) (enc : TypeId × Value → H) :
    ReturnsInHanded {} Try.checked os 6 .any (Rows.lapBackSpec.pre6 enc Try.prog Try.f6 Rows.lapBackRow.domain false) (Rows.lapBackSpec.post enc Try.prog Try.f6 false true false false) := by
  refine returnsInHanded_of_change_sized (C := Try.checked) own started (by kernel_rfl) Try.func6
    (ChangeSpec.witness6 (enc := enc) (C := Try.checked) false ⟨#[], #[.slice none 0 0, .slice none 0 0, .int .i64 0, .int .i64 0, .int .i64 0], []⟩ 8 (by kernel_rfl) (by kernel_rfl) (by kernel_rfl) (by kernel_rfl)) ?_
  intro W base args ds gs before hval0 hW hcnd hsz0 _
  have hsz : (DataW.weightsEach Try.prog (Try.f6.params.toList ++ Rows.lapBackSpec.plain.varTypes Try.prog) (ds ++ gs)).all (· ≤ reachBytes) = true := hsz0
  have hval : ∀ (j : Nat) t v, Try.f6.params[j]? = some t → args[j]? = some v → Value.okWide Try.prog W .any base t v := hval0
  have hW' := hW
  obtain ⟨p, q, hA0, hV, rfl, hfz, hnd⟩ := hW
  have hA : DataW.TrodAll enc Try.prog W 0 (fun _ => true) true Try.f6.params.toList args.toList ds p := hA0
  rw [Try.params6] at hA hval hsz
  obtain ⟨v0, vs0, d0, ds0, p0, q0, hargs, rfl, rfl, h0, r0⟩ := trodAll_cons hA
  obtain ⟨v1, vs1, d1, ds1, p1, q1, rfl, rfl, rfl, h1, r1⟩ := trodAll_cons r0
  obtain ⟨v2, vs2, d2, ds2, p2, q2, rfl, rfl, rfl, h2, r2⟩ := trodAll_cons r1
  obtain ⟨v3, vs3, d3, ds3, p3, q3, rfl, rfl, rfl, h3, r3⟩ := trodAll_cons r2
  obtain ⟨v4, vs4, d4, ds4, p4, q4, rfl, rfl, rfl, h4, r4⟩ := trodAll_cons r3
  obtain ⟨rfl, rfl, rfl⟩ := trodAll_nil r4
  obtain rfl : args = #[v0, v1, v2, v3, v4] := by cases args; simp_all
  obtain ⟨rfl, rfl⟩ := trodVars_none hV
  obtain ⟨a0, len0, cap0, rfl⟩ := okWide_slice Try.underlying27 (hval 0 27 v0 rfl rfl)
  have k0 := h0
  have lt0 : ∀ x ∈ p0, x.block < W.heap.size := by obtain ⟨m, hm⟩ := k0; exact DataW.trod_lt m _ _ _ hm
  obtain ⟨l0, hlen0, hr0, hw0, hz0⟩ := open_row h0 (fun e s hd => sized_slice hsz (j := 0) (t := 27) (e := 3) rfl (by rw [hd]; rfl) Try.underlying27)
  subst hlen0
  obtain ⟨a1, len1, cap1, rfl⟩ := okWide_slice Try.underlying27 (hval 1 27 v1 rfl rfl)
  have k1 := h1
  have lt1 : ∀ x ∈ p1, x.block < W.heap.size := by obtain ⟨m, hm⟩ := k1; exact DataW.trod_lt m _ _ _ hm
  obtain ⟨l1, hlen1, hr1, hw1, hz1⟩ := open_row h1 (fun e s hd => sized_slice hsz (j := 1) (t := 27) (e := 3) rfl (by rw [hd]; rfl) Try.underlying27)
  have hq1 := open_room k1
  subst hlen1
  obtain ⟨n2, rfl, rfl, rfl, hw2⟩ := open_int Try.underlying3 (hval 2 3 v2 rfl rfl) h2
  obtain ⟨n3, rfl, rfl, rfl, hw3⟩ := open_int Try.underlying3 (hval 3 3 v3 rfl rfl) h3
  obtain ⟨n4, rfl, rfl, rfl, hw4⟩ := open_int Try.underlying3 (hval 4 3 v4 rfl rfl) h4
  clear hA0 hval0 hsz0
  refine (walk a0 cap0 l0 a1 cap1 l1 n2 n3 n4 W hr0 hw0 hz0 hr1 hw1 hz1 hq1 hw2 hw3 hw4).mono fun e W' ⟨he, bel⟩ => ?_
  subst he
  exact ⟨_, rfl, _, _, _, [], _, [], hW', trodAll_mk1 (shut_bool Try.underlying4 _), (trodAll_cons_mk (Below.trod laidOut (by kernel_rfl) (of_decide_eq_true (by kernel_rfl)) k0 bel lt0) (trodAll_cons_mk (Below.trod laidOut (by kernel_rfl) (of_decide_eq_true (by kernel_rfl)) k1 bel lt1) (trodAll_cons_mk (shut_int Try.underlying3 hw2) (trodAll_cons_mk (shut_int Try.underlying3 hw3) (trodAll_cons_mk (shut_int Try.underlying3 hw4) trodAll_mk0))))), rfl, bel.frame _, fun h => by cases h⟩
end Go.Proofs.Ythlfckblhpdknab.LapBackLaw
namespace Go.Proofs.Ythlfckblhpdknab
open Go.ChangeShapes Go.WideShapes Go.ChangeAt Go.RowKit

theorem lapBack_holds : Rows.LapBackSaid :=
  OpenClaim.holds_of_wide 6 Try.f6 rfl rfl rfl rfl rfl rfl rfl ⟨rfl, rfl, rfl, rfl, rfl⟩ rfl rfl rfl rfl rfl (by kernel_rfl) Try.func6 (by kernel_rfl)
    (of_decide_eq_true (by kernel_rfl)) (by unfold Func.isWrapper; first | (rw [if_pos (by decide +kernel)]; kernel_rfl) | (rw [if_neg (by decide +kernel)]; exact ⟨rfl, rfl⟩))
    (fun os started H enc _ => LapBackLaw.lifted os started H enc)
end Go.Proofs.Ythlfckblhpdknab
