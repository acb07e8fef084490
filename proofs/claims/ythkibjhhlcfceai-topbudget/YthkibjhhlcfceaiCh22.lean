/-
  make of integers: zeros of this call's own.
-/
import Derived.Test.YthkibjhhlcfceaiCh04
import Derived.Test.YthkibjhhlcfceaiCh21
import Derived.Test.YthkibjhhlcfceaiCh10
import Derived.Test.YthkibjhhlcfceaiCh17
import Derived.Test.YthkibjhhlcfceaiCh18
import Derived.Test.YthkibjhhlcfceaiCh06
namespace Go.Proofs.Ythkibjhhlcfceai
open Go.RowKit
open Go.Proofs.Ythkibjhhlcfceai.Tre
set_option linter.unusedVariables false

theorem upto_zeros (n : Nat) : upto (fun _ => 0) n = List.replicate n 0 := by
  refine eq_of_at (by rw [upto_length, List.length_replicate]) fun i hi => ?_
  rw [upto_length] at hi
  rw [upto_at _ hi]
  simp [at0, hi]

theorem wpList_mk {ops : Array Oper} {rest : List Oper} {o : Oper} {a : Act} {Q : Exit → Act → World → Prop} (w : World) (hgd : o.guard = none) (s : Operand)
    (ho : o.op = .makeSlice 23 s s) (n : Nat) (hs : a.eval s = .int .i64 n) (hn : n ≤ 1000000)
    (h : ∀ w', Has w' w.heap.size (.slice (some ⟨w.heap.size, 0, none⟩) n n) (upto (fun _ => 0) n) → Below w.heap.size w w' → wpList Try.prog ops Q rest (a.put o.dst (.slice (some ⟨w.heap.size, 0, none⟩) n n)) w') :
    wpList Try.prog ops Q (o :: rest) a w := by
  obtain ⟨i0, hi, hz0, hz1, hz2⟩ := info_parts info_int
  refine wpList_make_full w hgd s s 23 ho w.heap.size 3 i0 (.int .i64 0) 1 Try.underlying23 hi hz0 hz1 _ _ _ _ n hs hs rfl rfl (by rw [hz2]; omega) (by unfold maxLen; omega) (Nat.le_refl _) ?_
  intro w2 hown hgrow
  rw [Nat.mul_one] at hown
  refine h w2 ?_ ((Below.refl _ _).grown hgrow (Nat.le_refl _) (by intro k hk; cases hk))
  unfold Has
  rw [upto_zeros, List.map_replicate, List.length_replicate, ← toList_madeCells_one]
  exact hown

end Go.Proofs.Ythkibjhhlcfceai

/-
  share.Of, share.Left: by their contracts.
-/
namespace Go.Proofs.Ythkibjhhlcfceai.Shr
open Go.RowKit
open Go.Proofs.Ythkibjhhlcfceai.Itr Go.Proofs.Ythkibjhhlcfceai.Tre Go.Proofs.Ythkibjhhlcfceai.Cnt Go.Proofs.Ythkibjhhlcfceai.Bnd
set_option linter.unusedVariables false

set_option maxRecDepth 100000 in
set_option maxHeartbeats 4000000 in
theorem of_no (a : Option Addr) (cap : Nat) (s : List Int) (b : Option Addr) (capb : Nat) (d : List Int) (B E : Int) (w : World) (hr : Row w a s) (hd : Row w b d) (zs : s.length ≤ 17592186044416) (zd : d.length ≤ 17592186044416) (hE : Hid (ofF s d B = E)) (hne : Hid (E ≠ 0)) :
    Calls Try.prog 16 #[.slice a s.length cap, .slice b d.length capb, .int .i64 B] w fun e w' => e = .returned (.tuple #[.slice none 0 0, .iface 52 (.int .i64 E)]) ∧ Below w.heap.size w w' := by
  have B1 := below_box w (.slice a s.length cap) 23
  have hk := check a cap s b capb d 8000 _ (by omega) (by omega) (hr.below B1) (hd.below B1)
  have HF := unhide hE
  rw [ofF_chk] at HF
  by_cases h1 : chkF s d 8000 = 0
  · rw [if_pos h1] at HF
    rw [h1, Ev.errV_zero] at hk
    by_cases h2 : outs 400 B = true
    · rw [if_pos h2] at HF
      subst HF
      obtain ⟨N, hN⟩ : ∃ N, s.length = N := ⟨_, rfl⟩
      obtain ⟨M, hM⟩ : ∃ M, d.length = M := ⟨_, rfl⟩
      rw [hN] at hk B1 ⊢
      rw [hM] at hk ⊢
      have HO := hide h2
      clear hN hM zs zd hr hd h1 hE hne h2
      go_enter Try.func16, Try.ntmps16
      go_wp2_with fail
      refine hk.mono ?_
      clear hk
      rintro e w1 ⟨rfl, hb1⟩
      go_wp2_with fail
      refine (outside 400 _).mono ?_
      rintro e w2 ⟨Bx, rfl, hc2, hb2⟩
      go_wp2_with fail
      refine (outside1 400 B Bx _ hc2).mono ?_
      rw [unhide HO]
      rintro e w3 ⟨rfl, rfl⟩
      go_wp2
      go_ret2
      exact ⟨rfl, Below.chain B1 (Below.chain hb1 hb2)⟩
    · rw [if_neg h2] at HF
      exact absurd HF.symm (unhide hne)
  · rw [if_neg h1] at HF
    rw [HF, Ev.errV_ne (unhide hne)] at hk
    obtain ⟨N, hN⟩ : ∃ N, s.length = N := ⟨_, rfl⟩
    obtain ⟨M, hM⟩ : ∃ M, d.length = M := ⟨_, rfl⟩
    rw [hN] at hk B1 ⊢
    rw [hM] at hk ⊢
    clear hN hM zs zd hr hd h1 HF
    go_enter Try.func16, Try.ntmps16
    go_wp2_with fail
    refine hk.mono ?_
    clear hk
    rintro e w1 ⟨rfl, hb1⟩
    go_wp2
    go_ret2
    exact ⟨rfl, Below.chain B1 hb1⟩

theorem boxR_of {W : World} {B base g N : Nat} {o : List Int} (hb : Boxed W B 23 (.slice (some ⟨g, 0, none⟩) N N)) (h : Has W base (.slice (some ⟨g, 0, none⟩) N N) o) : BoxR W B o := by
  obtain ⟨e, _⟩ := h.inRow rfl
  subst e
  exact ⟨g, 0, o.length, hb, (h.lt g rfl).2, fun i hi => by rw [Nat.zero_add]; exact h.get hi⟩
theorem boxed_aside {W : World} {B B' j : Nat} {t : TypeId} {v : Value} (h : Boxed W B t v) (hne : B ≠ B') (u : Value) : Boxed (W.setCell ⟨B', j, none⟩ u) B t v := by
  unfold Boxed
  rw [Below.heap_setCell _ _ _ _ hne]
  exact h

set_option maxRecDepth 100000 in
set_option maxHeartbeats 8000000 in
theorem of_ok (a : Option Addr) (cap : Nat) (s : List Int) (b : Option Addr) (capb : Nat) (d : List Int) (B : Int) (w : World) (hr : Row w a s) (hd : Row w b d) (hE : Hid (ofF s d B = 0)) :
    Calls Try.prog 16 #[.slice a s.length cap, .slice b d.length capb, .int .i64 B] w fun e w' => ∃ v, e = .returned (.tuple #[v, .nilIface]) ∧ Has w' w.heap.size v (share s d B) ∧ Below w.heap.size w w' := by
  have hmf : ∀ (fn : Fn) (first cap : Array Value) (w : World), (Instr.makeFunc fn first cap).run Try.prog w = .ok (.func fn first cap) w := fun _ _ _ _ => rfl
  obtain ⟨h1, h2, h3, hB0, hB4⟩ := ofF_zero.1 (unhide hE)
  obtain ⟨h0, h8, hs, _⟩ := bf_ok h1
  have hchk : chkF s d 8000 = 0 := by
    have h := unhide hE
    rw [ofF_chk] at h
    by_cases e : chkF s d 8000 = 0
    · exact e
    · rw [if_neg e] at h; exact h
  have HO : Hid (outs 400 B = false) := hide (by simp [outs]; omega)
  have B1 := below_box w (.slice a s.length cap) 23
  have hk := check a cap s b capb d 8000 _ (by omega) (by omega) (hr.below B1) (hd.below B1)
  rw [hchk, Ev.errV_zero] at hk
  have x1 := boxR_new (c := cap) h0 hr
  have y1 := Boxed.new w 23 (.slice a s.length cap)
  have hd1 := hd.below B1
  have HI0 := hide (inv_zero (d := d) hs hB0)
  have HG0 : Hid (go s d B 100 (upto (fun _ => 0) s.length) = share s d B) := hide rfl
  have HS0 : Hid (sm (upto (fun _ => 0) s.length) s.length = ((0 : Nat) : Int)) := hide (sm_zeros _ _ (Nat.le_refl _))
  have HC0 : Hid (B - (cost s (upto (fun _ => 0) s.length) : Int) = B) := hide (by rw [cost_zeros hs]; simp)
  obtain ⟨R, hR⟩ : ∃ R, share s d B = R := ⟨_, rfl⟩
  rw [hR] at HG0 ⊢
  obtain ⟨W0, hW0⟩ : ∃ W0, w.alloc (.cells #[.slice a s.length cap] 23) = W0 := ⟨_, rfl⟩
  have hsz0 : W0.heap.size = w.heap.size + 1 := by rw [← hW0]; simp
  rw [hW0] at B1 hk x1 y1 hd1
  have HDL : Hid (d.length = s.length) := hide h2
  have HLD := hide h3
  have HSZ := hide hs
  rw [h2] at hk ⊢
  obtain ⟨N, hN⟩ : ∃ N, s.length = N := ⟨_, rfl⟩
  have HN := hide hN
  rw [hN] at hk h0 h8 HI0 HG0 HS0 HC0 HDL y1 hW0 ⊢
  have HX1 := hide x1
  have HY1 := hide y1
  have cz0 := y1.cell
  have HD1 := hide hd1
  have HB1 := hide B1
  have HSZ0 := hide hsz0
  clear hN hR h1 h2 h3 hs hE hchk hr hd x1 y1 hd1 B1 hsz0
  go_enter Try.func16, Try.ntmps16
  go_wp2_with fail
  refine hk.mono ?_
  clear hk
  rintro e w1 ⟨rfl, hb1⟩
  go_wp2_with fail
  refine (outside 400 _).mono ?_
  rintro e w2 ⟨Bx, rfl, hc2, hb2⟩
  have hb02 := Below.chain hb1 hb2
  go_wp2_with fail
  refine (outside1 400 B Bx _ hc2).mono ?_
  rw [unhide HO]
  rintro e w3 ⟨rfl, rfl⟩
  have cz := (boxed_below (unhide HY1) hb02 (unhide HY1).lt).cell
  clear hc2 hb1 hb2 hW0
  have HLB := hide hb02
  clear hb02
  obtain ⟨n0, hn0⟩ : ∃ n0, W0.heap.size = n0 := ⟨_, rfl⟩
  obtain ⟨g, hg⟩ : ∃ g, w3.heap.size = g := ⟨_, rfl⟩
  have HG := hide hg
  have hgn : n0 ≤ g := by rw [← hn0, ← hg]; exact (unhide HLB).size
  rw [hn0] at HSZ0
  have HN0 := hide hn0
  clear hn0
  go_wp2_with (
    at_make
    refine wpList_mk _ rfl _ rfl N rfl (by omega) ?_
    intro w4 hv4 hb4
    obtain ⟨W5, hW5⟩ : ∃ W5, (w4.alloc (.cells #[.slice (some ⟨g, 0, none⟩) N N] 23)).alloc (.cells #[.int .i64 B] 3) = W5 := ⟨_, rfl⟩
    have HB5 : Hid (Below w3.heap.size w3 W5) := hide (by rw [← hW5]; exact (hb4.alloc hb4.size _).alloc (by simp; have := hb4.size; omega) _)
    have HV5 : Hid (Has W5 g (.slice (some ⟨g, 0, none⟩) N N) (upto (fun _ => 0) N)) := hide (by rw [← hW5, ← unhide HG]; exact (hv4.alloc _).alloc _)
    have HP5 : Hid (Boxed W5 w4.heap.size 23 (.slice (some ⟨g, 0, none⟩) N N)) := hide (by rw [← hW5]; exact (Boxed.new _ _ _).alloc _)
    have HL5 : Hid (Boxed W5 (w4.heap.size + 1) 3 (.int .i64 B)) := hide (by
      rw [← hW5]
      have h := Boxed.new (w4.alloc (.cells #[.slice (some ⟨g, 0, none⟩) N N] 23)) 3 (.int .i64 B)
      simp at h
      exact h)
    have cz5 := (boxed_below (unhide HY1) (Below.chain (unhide HLB) (unhide HB5)) (unhide HY1).lt).cell
    have HBP : Hid (g < w4.heap.size) := hide (by have h1 : w3.heap.size < w4.heap.size := (hv4.lt _ rfl).2; have h2 := unhide HG; omega)
    clear hv4 hb4 cz cz0)
  obtain ⟨Bp, hBp⟩ : ∃ Bp, w4.heap.size = Bp := ⟨_, rfl⟩
  rw [hBp] at HP5 HL5 HBP ⊢
  have HB05 : Hid (Below W0.heap.size W0 W5) := hide (Below.chain (unhide HLB) (unhide HB5))
  have hBpg : n0 ≤ Bp := by have := unhide HBP; omega
  obtain ⟨Bl, hBl⟩ : ∃ Bl, Bp + 1 = Bl := ⟨_, rfl⟩
  rw [hBl] at HL5 ⊢
  have hne1 : Bl ≠ Bp := by omega
  have hne2 : g ≠ Bl := by have := unhide HBP; omega
  have hne3 : g ≠ Bp := by have := unhide HBP; omega
  have hBln : n0 ≤ Bl := by omega
  have HLE := hide hne1
  have HNE2 := hide hne2
  have HNE3 := hide hne3
  clear hBp hBl hW5 hne1 hne2 hne3 HLB HB5 HBP cz5 hg HG HO
  go_loopw [31] (fun i wr => ∃ (t f : Nat) (O : List Int) (L : Int), t ≤ N * 8 ∧ i = .int .i64 t ∧ Has wr n0 (.slice (some ⟨g, 0, none⟩) N N) O ∧ Boxed wr Bp 23 (.slice (some ⟨g, 0, none⟩) N N) ∧ Boxed wr Bl 3 (.int .i64 L) ∧ Hid (Inv s d B O) ∧ Hid (go s d B f O = R) ∧ Hid (f + t = 100) ∧ Hid (sm O N = (t : Int)) ∧ Hid (B - (cost s O : Int) = L) ∧ Hid (Below W0.heap.size W0 wr)) (fun i _ => N * 8 - (intOf i).toNat)
  case atStart => exact ⟨0, 100, _, B, Nat.zero_le _, rfl, (unhide HV5).mono hgn, unhide HP5, unhide HL5, HI0, HG0, rfl, HS0, HC0, HB05⟩
  case round =>
    obtain ⟨t, f, O, L, ht, rfl, hv, hbp, hbl, HI, HG, HF, HSM, HCL, HB⟩ := hrel
    clear HV5 HP5 HL5 HI0 HG0 HS0 HC0 HB05
    have HOL : Hid (O.length = N) := hide ((unhide HI).len.trans (unhide HN))
    have cp := hbp.cell
    by_cases hlt : t < N * 8
    · have hlt2 : (t : Int) < (N : Int) * 8 := by omega
      have HAF : Hid (∀ i W, i < N → at0 O i ≠ 8 → Below wr.heap.size wr W → Calls Try.prog 42 #[.int .i64 i, .pointer (some ⟨w.heap.size, 0, none⟩), .pointer (some ⟨Bp, 0, none⟩), .pointer (some ⟨Bl, 0, none⟩)] W fun e w' => e = .returned (.bool (decide ((cost s (inc O i) : Int) ≤ B))) ∧ Below W.heap.size W w') := hide (fun i W hi h8' hW => by
        have hp := (unhide HI).pls i (by rw [unhide HOL]; exact hi)
        have hk := afford i w.heap.size Bp Bl s O L W (by rw [unhide HOL]; exact hi) (by rw [unhide HOL, unhide HN]) (by rw [unhide HOL]; exact h8) (unhide HSZ) hp.1 (by omega) ((unhide HX1).below (Below.chain (unhide HB) hW)) ((boxR_of hbp hv).below hW) (boxed_below hbl hW hbl.lt)
        have e1 : decide (pr (at0 s i).toNat (at0 O i).toNat ≤ L) = decide ((cost s (inc O i) : Int) ≤ B) := by
          rw [cost_inc (by rw [unhide HOL]; exact hi) (by rw [unhide HN]; exact hi) hp.1]
          refine decide_eq_decide.2 ?_
          have := unhide HCL
          omega
        rw [e1] at hk
        exact hk)
      have hnx := next b capb d (some ⟨g, 0, none⟩) N N s O B w.heap.size Bp Bl wr ((unhide HD1).below (unhide HB)) (hv.inRow rfl).2 h0 h8 HDL HOL (hide (unhide HI).pls) HLD HAF
      cases hb : bst s d O B N with
      | none =>
        rw [hb] at hnx
        have e2 := go_none (f := f) (by rw [unhide HN]; exact hb)
        rw [unhide HG] at e2
        have HRO := hide e2
        clear hb HAF e2
        go_wp2_with fail
        refine hnx.mono ?_
        clear hnx
        rintro e w6 ⟨rfl, hb6⟩
        have cp6 := (boxed_below hbp hb6 hbp.lt).cell
        have hbv : bv none = -1 := rfl
        go_wp2
        go_ret2
        exact ⟨_, rfl, by rw [unhide HRO]; exact (hv.below hb6).mono (by have := unhide HSZ0; omega), Below.chain (unhide HB1) (Below.chain (unhide HB) hb6)⟩
      | some q =>
        rw [hb] at hnx
        obtain ⟨hq, hcan⟩ := bst_lt hb
        have HI2 := hide (inv_inc (unhide HI) (by rw [unhide HN]; exact hq) hcan)
        have hqp := (unhide HI).pls q (by rw [unhide HOL]; exact hq)
        have hqs := unhide HSZ q (by rw [unhide HN]; exact hq)
        have hq7 := hcan.2.1
        have hci := cost_inc (s := s) (o := O) (i := q) (by rw [unhide HOL]; exact hq) (by rw [unhide HN]; exact hq) hqp.1
        obtain ⟨f', rfl⟩ : ∃ f', f = f' + 1 := ⟨f - 1, by have := unhide HF; omega⟩
        have HG2 : Hid (go s d B f' (inc O q) = R) := hide (by rw [← go_some (by rw [unhide HN]; exact hb)]; exact unhide HG)
        have HF2 : Hid (f' + (t + 1) = 100) := hide (by have := unhide HF; omega)
        have HSM2 : Hid (sm (inc O q) N = ((t + 1 : Nat) : Int)) := hide (by rw [sm_inc (by rw [unhide HOL]; exact Nat.le_refl _), if_pos hq, unhide HSM]; omega)
        have hc2 : (cost s (inc O q) : Int) ≤ B := hcan.2.2
        obtain ⟨S, hS⟩ : ∃ S : Nat, at0 s q = S := ⟨(at0 s q).toNat, by omega⟩
        obtain ⟨P, hP⟩ : ∃ P : Nat, at0 O q = P := ⟨(at0 O q).toNat, by omega⟩
        have eS : (at0 s q).toNat = S := by omega
        have eP : (at0 O q).toNat = P := by omega
        rw [eS, eP] at hci
        have hpr := pr_in (n := S) (k := P) (by omega) (by omega)
        have HPR := hide (fun W => price S P (by omega) (by omega) W)
        obtain ⟨Y, hY⟩ : ∃ Y, pr S P = Y := ⟨_, rfl⟩
        rw [hY] at hci HPR hpr
        have hL0 := unhide HCL
        obtain ⟨L2, hL2⟩ : ∃ L2, L - Y = L2 := ⟨_, rfl⟩
        have HCL2 : Hid (B - (cost s (inc O q) : Int) = L2) := hide (by omega)
        have wL : IntKind.i64.wrap (L - Y) = L2 := by rw [hL2]; exact IntWalk.i64_in _ (by omega)
        have wP : IntKind.i64.wrap ((P : Int) + 1) = (P : Int) + 1 := IntWalk.i64_in _ (by omega)
        have hP8 : P ≤ 8 := by omega
        have HIN : Hid (O.set q ((P : Int) + 1) = inc O q) := hide (by unfold inc; rw [hP])
        have HPP := hide hP
        have HSS := hide hS
        have hbv : bv (some q) = (q : Int) := rfl
        have dq : decide ((q : Int) < 0) = false := by simp
        rw [hbv] at hnx
        clear hb HAF hcan hqp hqs hq7 hci hc2 hS hP eS eP hpr hY hL0 hL2 hbv HG HF HSM HCL HI
        go_wp2_with fail
        refine hnx.mono ?_
        clear hnx
        rintro e w6 ⟨rfl, hb6⟩
        have hv6 := hv.below hb6
        have hbp6 := boxed_below hbp hb6 hbp.lt
        have hbl6 := boxed_below hbl hb6 hbl.lt
        have HB6 := hide (Below.chain (unhide HB) hb6)
        obtain ⟨gz, oz, cz, z1, z2, z3⟩ := (unhide HX1).below (unhide HB6)
        have z4 := z3 q (by rw [unhide HN]; exact hq)
        rw [unhide HSS] at z4
        have o4 := hv6.get (j := q) (by rw [unhide HOL]; exact hq)
        rw [unhide HPP] at o4
        rw [unhide HN] at z1
        have X1 : ∀ W : Cls w6, W.val.cell? ⟨w.heap.size, 0, none⟩ = _ := fun W => W.cell z1.lt z1.cell
        have X2 : ∀ W : Cls w6, W.val.cell? ⟨gz, oz + q, none⟩ = _ := fun W => W.cell z2 z4
        have X3 : ∀ W : Cls w6, W.val.cell? ⟨Bp, 0, none⟩ = _ := fun W => W.cell hbp6.lt hbp6.cell
        have X4 : ∀ W : Cls w6, W.val.cell? ⟨g, q, none⟩ = _ := fun W => W.cell (hv6.lt g rfl).2 o4
        have X5 : ∀ W : Cls w6, W.val.cell? ⟨Bl, 0, none⟩ = _ := fun W => W.cell hbl6.lt hbl6.cell
        have X6 : ∀ W : Cls w6, W.val.frozen? ⟨Bl, 0, none⟩ = false := fun W => (boxed_below hbl6 W.ok hbl6.lt).frozen
        clear z1 z2 z3 z4 o4 cp
        go_upto_region 12 with fail
        refine region_calm_last _ rfl (by kernel_rfl) (by kernel_rfl) (by kernel_rfl) ?_
        simp only [calm]
        repeat (go_big_quiet_step ((go_at_call 43; exact calm_call (unhide HPR _))))
        refine wpQuiet_nil ?_
        intro _ hw'
        obtain ⟨WQ, hw''⟩ := hw'
        subst hw''
        have hv7 := hv6.below WQ.ok
        have hbp7 := boxed_below hbp6 WQ.ok hbp6.lt
        have hbl7 := boxed_below hbl6 WQ.ok hbl6.lt
        have HB7 := Below.setCell (p := ⟨Bl, 0, none⟩) (Below.chain (unhide HB6) WQ.ok) (by rw [unhide HN0]; exact hBln) (.int .i64 L2)
        have hv8 : Has (WQ.val.setCell ⟨Bl, 0, none⟩ (.int .i64 L2)) n0 (.slice (some ⟨g, 0, none⟩) N N) O := hv7.kept (grownBy_setCell' _ _ _) (Or.inr (fun e => unhide HNE2 (by simpa [Value.ownBlock] using e)))
        have hbp8 := boxed_aside (j := 0) hbp7 (Ne.symm (unhide HLE)) (.int .i64 L2)
        have hbl8 := Boxed.set (.int .i64 L2) hbl7
        have x5 := X5 WQ
        have x6 := X6 WQ
        obtain ⟨w8, hw8⟩ : ∃ w8, WQ.val.setCell ⟨Bl, 0, none⟩ (.int .i64 L2) = w8 := ⟨_, rfl⟩
        rw [hw8] at HB7 hv8 hbp8 hbl8
        have cp8 := hbp8.cell
        have o8 := hv8.get (j := q) (by rw [unhide HOL]; exact hq)
        rw [unhide HPP] at o8
        have f8 := hv8.frozen q
        obtain ⟨m1, m2⟩ := hv8.put q ((P : Int) + 1)
        rw [unhide HIN] at m1
        have hbp9 := boxed_aside (j := q) hbp8 (Ne.symm (unhide HNE3)) (.int .i64 ((P : Int) + 1))
        have hbl9 := boxed_aside (j := q) hbl8 (Ne.symm (unhide HNE2)) (.int .i64 ((P : Int) + 1))
        have HB9 := hide (Below.setCell (p := ⟨g, q, none⟩) HB7 (by rw [unhide HN0]; exact hgn) (.int .i64 ((P : Int) + 1)))
        have M1 := hide m1
        have HBP9 := hide hbp9
        have HBL9 := hide hbl9
        clear X1 X2 X3 X4 X5 X6 hv7 hbp7 hbl7 HB7 hv8 hbp8 hbl8 m1 m2 hbp9 hbl9
        go_wp2
        go_roundw
        case rel => exact ⟨t + 1, f', inc O q, L2, by omega, by go_num, unhide M1, unhide HBP9, unhide HBL9, HI2, HG2, HF2, HSM2, HCL2, HB9⟩
        case measure => simp [intOf]; omega
    · obtain rfl : t = N * 8 := by omega
      have hfull := sm_full (unhide HI).pls (j := N) (by rw [unhide HOL]; exact Nat.le_refl _) (by rw [unhide HSM]; omega)
      have e2 := go_none (f := f) (by rw [unhide HN]; exact bst_full (s := s) (d := d) (B := B) hfull)
      rw [unhide HG] at e2
      have HRO := hide e2
      clear hfull e2
      go_wp2
      go_ret2
      exact ⟨_, rfl, by rw [unhide HRO]; exact hv.mono (by have := unhide HSZ0; omega), Below.chain (unhide HB1) (unhide HB)⟩

end Go.Proofs.Ythkibjhhlcfceai.Shr

/-
  frame.PulsesFor, at gains that there are: by its contracts.
-/
namespace Go.Proofs.Ythkibjhhlcfceai.Frm
open Go.RowKit
open Go.Proofs.Ythkibjhhlcfceai.Tre Go.Proofs.Ythkibjhhlcfceai.Bnd Go.Proofs.Ythkibjhhlcfceai.Pls Go.Proofs.Ythkibjhhlcfceai.Gai Go.Proofs.Ythkibjhhlcfceai.Shr Go.Proofs.Ythkibjhhlcfceai.Lap Go.Proofs.Ythkibjhhlcfceai.Mid
set_option linter.unusedVariables false

/-- What pulsesFor tells. -/
def PfSays (ps : List Prt) (s : List Int) (B : Int) (w : World) (e : Ending) (w' : World) : Prop :=
  ((¬ (0 ≤ B ∧ B ≤ 400) ∧ e = .returned (.tuple #[.slice none 0 0, .iface 52 (.int .i64 1)])) ∨ ((0 ≤ B ∧ B ≤ 400) ∧ ∃ v, e = .returned (.tuple #[v, .nilIface]) ∧ Has w' w.heap.size v (given (gns ps) s B))) ∧ Below w.heap.size w w'

set_option maxRecDepth 100000 in
set_option maxHeartbeats 4000000 in
theorem pulsesFor (a : Option Addr) (cap : Nat) (ps : List Prt) (b : Option Addr) (capb : Nat) (s : List Int) (B : Int) (w : World) (hp : Pts w a ps) (hr : Row w b s) (h1 : Hid (bf s = 0)) (hl : ps.length = s.length) (hg : Hid (∀ i, i < ps.length → gok (prt ps i).1 = true)) :
    Calls Try.prog 21 #[.slice a ps.length cap, .slice b s.length capb, .int .i64 B] w fun e w' => PfSays ps s B w e w' := by
  obtain ⟨n0, n8, hsz, n32⟩ := bf_ok (unhide h1)
  have HLD := vals_lds (gs := gns ps) (fun i hi => by rw [gns_length] at hi; rw [gns_at hi]; exact unhide hg i hi)
  have HVL : Hid ((vals (gns ps)).length = s.length) := hide (by rw [vals_length, gns_length, hl])
  have COK := hide (fun W q c h1' h2 (h : 0 ≤ B ∧ B ≤ 400) => of_ok b capb s q c (vals (gns ps)) B W h1' h2 (hide (ofF_zero.2 ⟨unhide h1, unhide HVL, HLD, h.1, h.2⟩)))
  have HOF : Hid (¬ (0 ≤ B ∧ B ≤ 400) → ofF s (vals (gns ps)) B = 1) := hide (fun h => by
    unfold ofF
    rw [if_pos (unhide h1), if_pos (unhide HVL)]
    split
    · rfl
    · rw [if_pos (by omega)])
  have CNO := hide (fun W q c h1' h2 (h : ¬ (0 ≤ B ∧ B ≤ 400)) => of_no b capb s q c (vals (gns ps)) B 1 W h1' h2 (by omega) (by rw [unhide HVL]; omega) (hide (unhide HOF h)) (hide (by omega)))
  have HUP : Hid (upto (fun i => (vl (at0 (gns ps) i).toNat : Int)) s.length = vals (gns ps)) := hide (by rw [vals_upto (gns ps), gns_length, hl])
  have HVA : Hid (∀ k, k < s.length → (vl (at0 (gns ps) k).toNat : Int) = vlN (prt ps k).1) := hide (fun k hk => by
    rw [gns_at (by rw [hl]; exact hk), vlN_ok (unhide hg k (by rw [hl]; exact hk))])
  have PNO : Hid (¬ (0 ≤ B ∧ B ≤ 400) → ∀ w', Below w.heap.size w w' → PfSays ps s B w (.returned (.tuple #[.slice none 0 0, .iface 52 (.int .i64 1)])) w') := hide (fun h w' hb => ⟨Or.inl ⟨h, rfl⟩, hb⟩)
  have POK : Hid (0 ≤ B ∧ B ≤ 400 → ∀ v w', Has w' w.heap.size v (share s (vals (gns ps)) B) → Below w.heap.size w w' → PfSays ps s B w (.returned (.tuple #[v, .nilIface])) w') := hide (fun h v w' hv hb => ⟨Or.inr ⟨h, v, rfl, hv⟩, hb⟩)
  obtain ⟨ds, hds⟩ : ∃ ds, vals (gns ps) = ds := ⟨_, rfl⟩
  rw [hds] at HVL COK CNO HUP POK
  obtain ⟨f, hf⟩ : ∃ f : Nat → Int, (fun i => (vl (at0 (gns ps) i).toNat : Int)) = f := ⟨_, rfl⟩
  have HVF : Hid (∀ k, k < s.length → f k = vlN (prt ps k).1) := hide (fun k hk => by rw [← hf]; exact unhide HVA k hk)
  rw [hf] at HUP
  obtain ⟨N, hN⟩ : ∃ N, s.length = N := ⟨_, rfl⟩
  have HPN : Hid (ps.length = N) := hide (hl.trans hN)
  rw [hN] at COK CNO HVL HUP HVF n8 n0
  rw [hl, hN]
  have HOK : Hid (∀ k, k < N → gok (prt ps k).1 = true) := hide (fun k hk => unhide hg k (by rw [unhide HPN]; exact hk))
  clear hds hf HVA HOF HLD hsz n32 hN hl h1 hg
  go_enter Try.func21, Try.ntmps21
  go_wp2_with (at_make; refine wpList_mk _ rfl _ rfl N rfl (by omega) ?_; intro w2 k2 hb2)
  rw [← mid_zero f] at k2
  go_loopw [18] (fun i wr => ∃ k : Nat, k ≤ N ∧ i = .int .i64 k ∧ Has wr w.heap.size (.slice (some ⟨w.heap.size, 0, none⟩) N N) (mid f (fun _ => 0) N k) ∧ Below w.heap.size w wr) (fun i _ => N - (intOf i).toNat)
  case atStart => exact ⟨0, Nat.zero_le _, rfl, k2, hb2⟩
  case round =>
    obtain ⟨k, hk, rfl, hv, hB⟩ := hrel
    clear k2 hb2
    by_cases hlt : k < N
    · have hlt' : k < ps.length := by rw [unhide HPN]; exact hlt
      obtain ⟨b1, off1, rfl, hb1, hc1⟩ := (hp.below hB).at hlt'
      obtain ⟨x1, A, C, x2, x3, x4, x5, x6⟩ := hc1 k hlt'
      have CV := hide (fun W => valueOk (prt ps k).1 W (hide (unhide HOK k hlt)))
      have HF := hide (unhide HVF k hlt)
      obtain ⟨G, hG⟩ : ∃ G, (prt ps k).1 = G := ⟨_, rfl⟩
      rw [hG] at x1 CV HF
      obtain ⟨V, hV⟩ : ∃ V, vlN G = V := ⟨_, rfl⟩
      rw [hV] at CV HF
      obtain ⟨L, hL⟩ : ∃ L, (prt ps k).2.length = L := ⟨_, rfl⟩
      rw [hL] at x2
      clear hc1 hG hV hL hlt' x3 x4 x5 x6
      have hv2 := hv.alloc (.cells #[.int .i64 G, .slice A L C] 31)
      have hB2 := hB.alloc hB.size (.cells #[.int .i64 G, .slice A L C] 31)
      have c2 := hv2.get (j := k) (by rw [mid_length]; exact hlt)
      rw [mid_at _ _ hlt] at c2
      have f2 := hv2.frozen k
      obtain ⟨m1, m2⟩ := hv2.put k V
      have HS := mid_set f (fun _ => 0) hlt
      rw [unhide HF] at HS
      rw [HS] at m1
      have m4 := Below.setCell (p := ⟨w.heap.size, k, none⟩) hB2 (Nat.le_refl _) (.int .i64 V)
      have M1 := hide m1
      have M4 := hide m4
      clear hv hB HS m1 m2 m4 HF hv2 hB2
      go_wp2_with fail
      refine (unhide CV _).mono ?_
      rintro e w5 ⟨rfl, rfl⟩
      clear CV
      go_wp2
      go_roundw
      case rel => exact ⟨k + 1, by omega, by go_num, unhide M1, unhide M4⟩
      case measure => simp [intOf]; omega
    · obtain rfl : k = N := by omega
      rw [mid_all, unhide HUP] at hv
      obtain ⟨p, q, ee, hrow⟩ := hv.row
      obtain ⟨ea, eb, ec⟩ := Value.slice.inj ee
      subst ea ec
      by_cases h4 : 0 ≤ B ∧ B ≤ 400
      · have c := unhide COK wr _ k (hr.below hB) hrow h4
        have HP := hide (unhide POK h4)
        rw [unhide HVL] at c
        clear COK CNO PNO POK hv ee eb
        go_wp2_with fail
        refine c.mono ?_
        clear c
        rintro e w2 ⟨v2, rfl, k2, hb2⟩
        obtain ⟨p9, n9, q9, rfl⟩ := k2.shape
        go_wp2
        go_ret2
        exact unhide HP _ _ (k2.mono hB.size) (Below.chain hB hb2)
      · have c := unhide CNO wr _ k (hr.below hB) hrow h4
        have HP := hide (unhide PNO h4)
        rw [unhide HVL] at c
        clear COK CNO PNO POK hv ee eb h4
        go_wp2_with fail
        refine c.mono ?_
        clear c
        rintro e w2 ⟨rfl, hb2⟩
        go_wp2
        go_ret2
        exact unhide HP _ (Below.chain hB hb2)

end Go.Proofs.Ythkibjhhlcfceai.Frm
