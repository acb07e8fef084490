/-
  It is proved that hornlaw4.BandOne returns true for every row: one band is all. No condition but the form's own reach.
-/
import Derived.Test.YtiddiohbnliphaeBandSplit
import Derived.Test.YtiddiohbnliphaeInts
import Derived.Test.YtiddiohbnliphaeRoom
namespace Go.Proofs.Ytiddiohbnliphae.BandOneLaw
open Go.ChangeShapes Go.WideShapes Go.ChangeAt Go.RowKit
open Go.Proofs.Ytiddiohbnliphae.Tre Go.Proofs.Ytiddiohbnliphae.Bnd Go.Proofs.Ytiddiohbnliphae.Same
set_option linter.unusedVariables false

theorem bf_one {L : Nat} (h1 : 1 ≤ L) (h6 : L ≤ 6) : bf [(L : Int)] = 0 := by
  have e : bad (L : Int) = false := by simp [bad]; omega
  have t : total [(L : Int)] = L := by simp [total, pre, at0]
  simp [bf, e, t]; omega
theorem bf_one_no {L : Nat} (h : L < 1 ∨ 6 < L) : bf [(L : Int)] = 1 := by
  have e : bad (L : Int) = true := by simp [bad]; omega
  simp [bf, e]
theorem bf_two {L : Nat} (h1 : 1 ≤ L) (h6 : L ≤ 6) : bf [(L : Int), 1] = 0 ∧ total [(L : Int), 1] = L + 1 := by
  have e : bad (L : Int) = false := by simp [bad]; omega
  have e1 : bad 1 = false := by decide
  have t : total [(L : Int), 1] = L + 1 := by simp [total, pre, at0]
  refine ⟨?_, t⟩
  simp [bf, e, e1, t]; omega
theorem cuts_one (l : List Int) : cuts l [(l.length : Int)] = [l] := by
  simp [cuts, cutAt, pre, at0, List.range_succ]

theorem sp (a : Option Addr) (cap : Nat) (l : List Int) (w : World) (hr : Row w a l) (hm : l.length ≤ cap) (hm9 : cap ≤ 9223372036854775807) (h1 : 1 ≤ l.length) (h6 : l.length ≤ 6) :
    Calls Try.prog 16 #[.slice a l.length cap, .slice (some ⟨w.heap.size, 0, none⟩) 1 1] (w.alloc (.cells #[.int .i64 (l.length : Int)] 3)) fun e w' => ∃ A, e = .returned (.tuple #[.slice A 1 1, .nilIface]) ∧ Rws w' A [l] ∧ Below w.heap.size w w' := by
  have hb : Below w.heap.size w (w.alloc (.cells #[.int .i64 (l.length : Int)] 3)) := (Below.refl _ _).alloc (Nat.le_refl _) _
  have h := split_ok a cap l (some ⟨w.heap.size, 0, none⟩) 1 [(l.length : Int)] _ (hr.below hb) hm hm9 (row_one w (l.length : Int) 3) (hide (bf_one h1 h6)) (hide (by simp [total, pre, at0]))
  refine h.mono fun e w' ⟨A, he, hR, hb'⟩ => ⟨A, he, by rw [cuts_one] at hR; exact hR, Below.chain hb hb'⟩
theorem sp_no (a : Option Addr) (cap L : Nat) (w : World) (h : L < 1 ∨ 6 < L) :
    Calls Try.prog 16 #[.slice a L cap, .slice (some ⟨w.heap.size, 0, none⟩) 1 1] (w.alloc (.cells #[.int .i64 (L : Int)] 3)) fun e w' => e = .returned (.tuple #[.slice none 0 0, .iface 45 (.int .i64 1)]) ∧ Below w.heap.size w w' := by
  have hb : Below w.heap.size w (w.alloc (.cells #[.int .i64 (L : Int)] 3)) := (Below.refl _ _).alloc (Nat.le_refl _) _
  have h := split_no a cap L (some ⟨w.heap.size, 0, none⟩) 1 [(L : Int)] _ (by simp) (row_one w (L : Int) 3) (hide (by rw [bf_one_no h]; decide))
  rw [bf_one_no (by assumption)] at h
  exact h.mono fun e w' ⟨he, hb'⟩ => ⟨he, by rw [hb']; exact hb⟩
theorem ck (L : Nat) (w : World) (h1 : 1 ≤ L) (h6 : L ≤ 6) :
    Calls Try.prog 19 #[.slice (some ⟨w.heap.size, 0, none⟩) 2 2] (w.alloc (.cells #[.int .i64 (L : Int), .int .i64 1] 3)) fun e w' => e = .returned (.tuple #[.int .i64 ((L + 1 : Nat) : Int), .nilIface]) ∧ Below w.heap.size w w' := by
  have hb : Below w.heap.size w (w.alloc (.cells #[.int .i64 (L : Int), .int .i64 1] 3)) := (Below.refl _ _).alloc (Nat.le_refl _) _
  have h := check_ok (some ⟨w.heap.size, 0, none⟩) 2 [(L : Int), 1] _ (by simp) (row_two w (L : Int) 1 3) (hide (bf_two h1 h6).1)
  rw [(bf_two h1 h6).2] at h
  exact h.mono fun e w' ⟨he, hb'⟩ => ⟨he, by rw [hb']; exact hb⟩

set_option maxRecDepth 100000 in
set_option maxHeartbeats 4000000 in
theorem walk (a0 : Option Addr) (cap0 : Nat) (l0 : List Int) (w : World) (hr0 : Row w a0 l0) (hw0 : ∀ n ∈ l0, (Lit.int .i64 n).wf = true) (hz0 : l0.length * 8 ≤ 140737488351232) (hq0 : (a0 = none → cap0 = 0) ∧ l0.length ≤ cap0 ∧ cap0 ≤ 9223372036854775807) :
    Calls Try.prog 6 #[.slice a0 l0.length cap0] w fun e w' => e = .returned (.bool true) ∧ Below w.heap.size w w' := by
  obtain ⟨q1, q2, q3⟩ := hq0
  have hl9 : l0.length ≤ 9223372036854775807 := by omega
  by_cases hs : l0.length < 1 ∨ 6 < l0.length
  · have hsp := sp_no a0 cap0 l0.length w hs
    obtain ⟨L, hL⟩ : ∃ L, l0.length = L := ⟨_, rfl⟩
    rw [hL] at hsp hs hl9 ⊢
    clear hL hw0 hz0 q1 q2 q3 hr0
    rcases hs with h | h
    all_goals
      go_enter Try.func6, Try.ntmps6
      go_wp2_with fail
      refine hsp.mono ?_
      rintro e w1 ⟨rfl, hb1⟩
      go_wp2
      go_ret
      exact ⟨by first | rfl | (simp; omega), hb1⟩
  · have hsp := sp a0 cap0 l0 w hr0 q2 q3 (by omega) (by omega)
    have C4 := hide (fun p q W h => ints_same p q a0 cap0 l0 W hl9 h)
    obtain ⟨L, hL⟩ : ∃ L, l0.length = L := ⟨_, rfl⟩
    have HL := hide hL
    rw [hL] at hsp hs hl9 C4 ⊢
    have h1 : 1 ≤ L := by omega
    have h6 : L ≤ 6 := by omega
    obtain ⟨L1, hL1⟩ : ∃ L1, L + 1 = L1 := ⟨_, rfl⟩
    have C3 := hide (fun W => ck L W h1 h6)
    rw [hL1] at C3
    have hw1 : IntKind.i64.wrap ((L : Int) + 1) = (L1 : Int) := by rw [← hL1]; exact IntWalk.i64_in _ (by omega)
    have hqq : ((L1 : Int) == (L1 : Int)) = true := by simp
    clear hL hw0 hz0 q1 q2 q3 hs hL1
    go_enter Try.func6, Try.ntmps6
    go_wp2_with fail
    refine hsp.mono ?_
    clear hsp
    rintro e w1 ⟨A, rfl, hR, hb1⟩
    go_wp2_with fail
    refine (unhide C3 w1).mono ?_
    rintro e w2 ⟨rfl, hb2⟩
    have hB2 := Below.chain hb1 hb2
    obtain ⟨b, off, rfl, _, hc⟩ := (hR.below hb2).at (k := 0) (by simp)
    obtain ⟨A', C', c1, c2, c3, c4, c5⟩ := hc 0 (by simp)
    have c1' : w2.cell? ⟨b, off, none⟩ = some (.slice A' L C') := by rw [← unhide HL]; exact c1
    have hr2 := hr0.below hB2
    clear hc c1 c2 c3 c4 hR hb1 hb2
    go_wp2_with fail
    refine (unhide C4 A' C' w2 c5 hr2).mono ?_
    rintro e w3 ⟨rfl, hb3⟩
    go_wp2
    go_ret
    exact ⟨rfl, Below.chain hB2 hb3⟩

set_option maxRecDepth 100000 in
theorem lifted (os : Os) (started : os.Started) (H : Type) (enc : TypeId × Value → H) :
    ReturnsInHanded {} Try.checked os 6 .any (Rows.bandOneSpec.pre6 enc Try.prog Try.f6 Rows.bandOneRow.domain false) (Rows.bandOneSpec.post enc Try.prog Try.f6 false true false false) := by
  refine returnsInHanded_of_change_sized (C := Try.checked) own started (by kernel_rfl) Try.func6
    (ChangeSpec.witness6 (enc := enc) (C := Try.checked) false ⟨#[], #[.slice none 0 0], []⟩ 8 (by kernel_rfl) (by kernel_rfl) (by kernel_rfl) (by kernel_rfl)) ?_
  intro W base args ds gs before hval0 hW hcnd hsz0 _
  have hsz : (DataW.weightsEach Try.prog (Try.f6.params.toList ++ Rows.bandOneSpec.plain.varTypes Try.prog) (ds ++ gs)).all (· ≤ reachBytes) = true := hsz0
  have hval : ∀ (j : Nat) t v, Try.f6.params[j]? = some t → args[j]? = some v → Value.okWide Try.prog W .any base t v := hval0
  have hW' := hW
  obtain ⟨p, q, hA0, hV, rfl, hfz, hnd⟩ := hW
  have hA : DataW.TrodAll enc Try.prog W 0 (fun _ => true) true Try.f6.params.toList args.toList ds p := hA0
  rw [Try.params6] at hA hval hsz
  obtain ⟨v0, vs0, d0, ds0, p0, q0, hargs, rfl, rfl, h0, r0⟩ := trodAll_cons hA
  obtain ⟨rfl, rfl, rfl⟩ := trodAll_nil r0
  obtain rfl : args = #[v0] := by cases args; simp_all
  obtain ⟨rfl, rfl⟩ := trodVars_none hV
  obtain ⟨a0, len0, cap0, rfl⟩ := okWide_slice Try.underlying27 (hval 0 27 v0 rfl rfl)
  have k0 := h0
  have lt0 : ∀ x ∈ p0, x.block < W.heap.size := by obtain ⟨m, hm⟩ := k0; exact DataW.trod_lt m _ _ _ hm
  obtain ⟨l0, hlen0, hr0, hw0, hz0⟩ := open_row h0 (fun e s hd => sized_slice hsz (j := 0) (t := 27) (e := 3) rfl (by rw [hd]; rfl) Try.underlying27)
  have hq0 := open_room k0
  subst hlen0
  clear hA0 hval0 hsz0
  refine (walk a0 cap0 l0 W hr0 hw0 hz0 hq0).mono fun e W' ⟨he, bel⟩ => ?_
  subst he
  exact ⟨_, rfl, _, _, _, [], _, [], hW', trodAll_mk1 (shut_bool Try.underlying4 _), (trodAll_cons_mk (Below.trod laidOut (by kernel_rfl) (of_decide_eq_true (by kernel_rfl)) k0 bel lt0) trodAll_mk0), rfl, bel.frame _, fun h => by cases h⟩
end Go.Proofs.Ytiddiohbnliphae.BandOneLaw
namespace Go.Proofs.Ytiddiohbnliphae
open Go.ChangeShapes Go.WideShapes Go.ChangeAt Go.RowKit

theorem bandOne_holds : Rows.BandOneSaid :=
  OpenClaim.holds_of_wide 6 Try.f6 rfl rfl rfl rfl rfl rfl rfl ⟨rfl, rfl, rfl, rfl, rfl⟩ rfl rfl rfl rfl rfl (by kernel_rfl) Try.func6 (by kernel_rfl)
    (of_decide_eq_true (by kernel_rfl)) (by unfold Func.isWrapper; first | (rw [if_pos (by decide +kernel)]; kernel_rfl) | (rw [if_neg (by decide +kernel)]; exact ⟨rfl, rfl⟩))
    (fun os started H enc _ => BandOneLaw.lifted os started H enc)
end Go.Proofs.Ytiddiohbnliphae
