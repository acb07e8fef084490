/-
  It is proved that hornlaw2.WidthTells returns true for all numbers, widths, bits and bytes and every number that are together of bulk at most 1,048,576 (the second form): numbers in so many bits, bits as numbers, as bytes, and bytes as bits are as the document says; the card's listed variable (errors.errorType) is tied to the program's text. The first form is false by size alone: the document's own answer makes up to twenty bits of each number ahead of telling that they are too many.
-/
import Derived.Test.YtpinmcgaaplkiagDoorWidthTellsWalk
import Derived.Test.YtpinmcgaaplkiagDoorRoom
import Derived.Test.YtpinmcgaaplkiagDoorBulk
import Derived.Test.YtpinmcgaaplkiagDoorTiedFrame
namespace Go.Proofs.YtpinmcgaaplkiagDoor.WidthTellsLaw
open Go.ChangeShapes Go.WideShapes Go.ChangeAt Go.RowKit
open Go.Proofs.YtpinmcgaaplkiagDoor.Aser
set_option linter.unusedVariables false

theorem walk (a0 : Option Addr) (cap0 : Nat) (l : List Int) (a1 : Option Addr) (cap1 : Nat) (ws : List Int) (a2 : Option Addr) (cap2 : Nat) (bs : List Int) (s : ByteArray) (n : Int) (w : World) (hL : Laid w)
    (hr0 : Row w a0 l) (hw0 : ∀ n ∈ l, (Lit.int .i64 n).wf = true) (hz0 : l.length * 8 ≤ 140737488351232) (hu0 : l.length ≤ 1048576)
    (hr1 : Row w a1 ws) (hw1 : ∀ n ∈ ws, (Lit.int .i64 n).wf = true) (hz1 : ws.length * 8 ≤ 140737488351232) (hu1 : ws.length ≤ 1048576)
    (hr2 : Row w a2 bs) (hw2 : ∀ n ∈ bs, (Lit.int .i64 n).wf = true) (hz2 : bs.length * 8 ≤ 140737488351232) (hq2 : (a2 = none → cap2 = 0) ∧ bs.length ≤ cap2 ∧ cap2 ≤ 9223372036854775807) (hu2 : bs.length ≤ 1048576)
    (hws : s.size ≤ maxLen) (hwn : (Lit.int .i64 n).wf = true) :
    Calls Tryd.prog 4 #[.slice a0 l.length cap0, .slice a1 ws.length cap1, .slice a2 bs.length cap2, .string s, .int .i64 n] w fun e w' => e = .returned (.bool true) ∧ Below w.heap.size w w' :=
  walk0 a0 cap0 l a1 cap1 ws a2 cap2 bs s n w hL hr0 hu0 hr1 hu1 hr2 hu2 hq2.2 (by simpa [maxLen] using hws)

set_option maxRecDepth 100000 in
theorem lifted (os : Os) (started : os.Started) (H : Type) (enc : TypeId × Value → H) (F : Stop.Interp) :
    ReturnsInHanded {} Tryd.checked os 4 .any ((Rows.OpenSpec.upto Rows.widthTellsSpec).preRow enc Tryd.prog Tryd.f4 Rows.widthTellsUptoRow.domain false Rows.widthTellsUptoRow.laid) (((Rows.OpenSpec.upto Rows.widthTellsSpec).at F).post enc Tryd.prog Tryd.f4 false true false false) := by
  have hxx : ∃ places, DataW.whole enc Tryd.prog ((World.doorLaid Tryd.prog 400 os).forCall (fun _ _ => 0) ⟨#[], #[.slice none 0 0, .slice none 0 0, .slice none 0 0, .string ⟨#[]⟩, .int .i64 0], []⟩).memory Tryd.f4.params.toList Rows.widthTellsSpec.vars false (#[.slice none 0 0, .slice none 0 0, .slice none 0 0, .string ⟨#[]⟩, .int .i64 0] : Array Value).toList 8 = some ([.nil, .nil, .nil, .lit (.string []), .lit (.int .i64 0)], [], places) := ⟨[], by kernel_rfl⟩
  obtain ⟨places, hx⟩ := hxx
  refine returnsInHanded_of_row (C := Tryd.checked) (s := Rows.OpenSpec.upto Rows.widthTellsSpec) own started (by kernel_rfl) Tryd.func4
    (witness_row_atRef (enc := enc) (C := Tryd.checked) false (World.doorLaid Tryd.prog 400 os) #[.slice none 0 0, .slice none 0 0, .slice none 0 0, .string ⟨#[]⟩, .int .i64 0] rfl (by kernel_rfl) (by kernel_rfl) (by kernel_rfl)
      (OpenSpec.preRow_of_cond 8 hx (by kernel_rfl) (fun k hk => by cases hk; kernel_rfl) (by kernel_rfl) (door_met os _))) ?_
  intro W base args ds gs before hval0 hW hcnd hcond hsz0 hL0 _ _
  have hL := handle_of_laid hL0
  have hk : Rows.uptoSmall H (ds ++ gs) = true := hcond _ rfl
  have hsz : (DataW.weightsEach Tryd.prog (Tryd.f4.params.toList ++ Rows.widthTellsSpec.plain.varTypes Tryd.prog) (ds ++ gs)).all (· ≤ reachBytes) = true := hsz0
  have hval : ∀ (j : Nat) t v, Tryd.f4.params[j]? = some t → args[j]? = some v → Value.okWide Tryd.prog W .any base t v := hval0
  have hW' := hW
  obtain ⟨p, q, hA0, hV, rfl, hfz, hnd⟩ := hW
  have hA : DataW.TrodAll enc Tryd.prog W 0 (fun _ => true) true Tryd.f4.params.toList args.toList ds p := hA0
  rw [Tryd.params4] at hA hval hsz
  obtain ⟨v0, vs0, d0, ds0, p0, q0, hargs, rfl, rfl, h0, r0⟩ := trodAll_cons hA
  obtain ⟨v1, vs1, d1, ds1, p1, q1, rfl, rfl, rfl, h1, r1⟩ := trodAll_cons r0
  obtain ⟨v2, vs2, d2, ds2, p2, q2, rfl, rfl, rfl, h2, r2⟩ := trodAll_cons r1
  obtain ⟨v3, vs3, d3, ds3, p3, q3, rfl, rfl, rfl, h3, r3⟩ := trodAll_cons r2
  obtain ⟨v4, vs4, d4, ds4, p4, q4, rfl, rfl, rfl, h4, r4⟩ := trodAll_cons r3
  obtain ⟨rfl, rfl, rfl⟩ := trodAll_nil r4
  obtain rfl : args = #[v0, v1, v2, v3, v4] := by cases args; simp_all
  obtain ⟨rfl, rfl⟩ := trodVars_none hV
  obtain ⟨a0, len0, cap0, rfl⟩ := okWide_slice Tryd.underlying23 (hval 0 23 v0 rfl rfl)
  have k0 := h0
  have lt0 : ∀ x ∈ p0, x.block < W.heap.size := by obtain ⟨m, hm⟩ := k0; exact DataW.trod_lt m _ _ _ hm
  obtain ⟨l0, hlen0, hr0, hw0, hz0⟩ := open_row h0 (fun e s hd => sized_slice hsz (j := 0) (t := 23) (e := 3) rfl (by rw [hd]; rfl) Tryd.underlying23)
  have hbk0 := open_bulk k0
  subst hlen0
  obtain ⟨a1, len1, cap1, rfl⟩ := okWide_slice Tryd.underlying23 (hval 1 23 v1 rfl rfl)
  have k1 := h1
  have lt1 : ∀ x ∈ p1, x.block < W.heap.size := by obtain ⟨m, hm⟩ := k1; exact DataW.trod_lt m _ _ _ hm
  obtain ⟨l1, hlen1, hr1, hw1, hz1⟩ := open_row h1 (fun e s hd => sized_slice hsz (j := 1) (t := 23) (e := 3) rfl (by rw [hd]; rfl) Tryd.underlying23)
  have hbk1 := open_bulk k1
  subst hlen1
  obtain ⟨a2, len2, cap2, rfl⟩ := okWide_slice Tryd.underlying23 (hval 2 23 v2 rfl rfl)
  have k2 := h2
  have lt2 : ∀ x ∈ p2, x.block < W.heap.size := by obtain ⟨m, hm⟩ := k2; exact DataW.trod_lt m _ _ _ hm
  obtain ⟨l2, hlen2, hr2, hw2, hz2⟩ := open_row h2 (fun e s hd => sized_slice hsz (j := 2) (t := 23) (e := 3) rfl (by rw [hd]; rfl) Tryd.underlying23)
  have hq2 := open_room k2
  have hbk2 := open_bulk k2
  subst hlen2
  obtain ⟨n3, rfl, rfl, rfl, hw3⟩ := Go.ChangeMaps.open_string Tryd.underlying9 (hval 3 9 v3 rfl rfl) h3
  obtain ⟨n4, rfl, rfl, rfl, hw4⟩ := open_int Tryd.underlying3 (hval 4 3 v4 rfl rfl) h4
  have hbb : Rows.uptoBulkAll _ ≤ 1048576 := of_decide_eq_true hk
  simp only [List.cons_append, List.nil_append, Rows.uptoBulkAll] at hbb
  have hu0 : l0.length ≤ 1048576 := by omega
  have hu1 : l1.length ≤ 1048576 := by omega
  have hu2 : l2.length ≤ 1048576 := by omega
  clear hA0 hval0 hsz0
  refine (walk a0 cap0 l0 a1 cap1 l1 a2 cap2 l2 n3 n4 W hL hr0 hw0 hz0 hu0 hr1 hw1 hz1 hu1 hr2 hw2 hz2 hq2 hu2 hw3 hw4).mono fun e W' ⟨he, bel⟩ => ?_
  subst he
  exact ⟨_, rfl, _, _, _, [], _, [], hW', trodAll_mk1 (shut_bool Tryd.underlying4 _), (trodAll_cons_mk (Below.trod laidOut (by kernel_rfl) (of_decide_eq_true (by kernel_rfl)) k0 bel lt0) (trodAll_cons_mk (Below.trod laidOut (by kernel_rfl) (of_decide_eq_true (by kernel_rfl)) k1 bel lt1) (trodAll_cons_mk (Below.trod laidOut (by kernel_rfl) (of_decide_eq_true (by kernel_rfl)) k2 bel lt2) (trodAll_cons_mk (Go.ChangeMaps.shut_string Tryd.underlying9 hw3) (trodAll_cons_mk (shut_int Tryd.underlying3 hw4) trodAll_mk0))))), rfl, bel.frame _, fun h => by cases h⟩
end Go.Proofs.YtpinmcgaaplkiagDoor.WidthTellsLaw
namespace Go.Proofs.YtpinmcgaaplkiagDoor
open Go.ChangeShapes Go.WideShapes Go.ChangeAt Go.RowKit

theorem widthTells_holds : Rows.WidthTellsUptoSaid :=
  OpenClaim.holds_of_cond 4 Tryd.f4 rfl rfl rfl rfl rfl rfl rfl ⟨rfl, rfl, rfl, rfl, rfl⟩ rfl rfl rfl rfl rfl (by kernel_rfl) Tryd.func4 (by kernel_rfl)
    (of_decide_eq_true (by kernel_rfl)) (by unfold Func.isWrapper; first | (rw [if_pos (by decide +kernel)]; kernel_rfl) | (rw [if_neg (by decide +kernel)]; exact ⟨rfl, rfl⟩))
    (fun os started H enc _ F => by rw [OpenClaim.pre_eq_preRow]; exact WidthTellsLaw.lifted os started H enc F)
theorem widthTells_card : Rows.WidthTellsUptoCardSaid :=
  Claim7.holds_tied_plain_at .later [] [.handle] true (true, "2c3ac6ee091973054e7ab3938ed8eeebb1b30b8eeebfd3ebe59184578d7f0d39") true
    widthTells_holds (fun _ h => by cases h) (by kernel_rfl) (fun _ h => by cases h) widthTellsUpto_row_tie rfl ⟨rfl, rfl⟩ (by kernel_rfl) rfl
    (fun f fn hf hfn => by
      obtain rfl : f = 4 := Option.some.inj ((show Tryd.prog.funcNamed "pulsehorn/hornlaw2.WidthTells" = some 4 by kernel_rfl).symm.trans hf) |>.symm
      obtain rfl : fn = Tryd.f4 := (Option.some.inj (Tryd.func4.symm.trans hfn)).symm
      exact ⟨by kernel_rfl, fun j t ht => by
        rw [Tryd.params4] at ht
        have hm : t ∈ [23, 23, 23, 9, 3] := by simpa using Array.mem_of_getElem? ht
        have hall : ([23, 23, 23, 9, 3].all fun u => !Tryd.prog.wantsStandIn u) = true := by kernel_rfl
        exact (show Tryd.prog.wantsStandIn t = false by simpa using List.all_eq_true.1 hall t hm)⟩)
    (by kernel_rfl)
end Go.Proofs.YtpinmcgaaplkiagDoor
