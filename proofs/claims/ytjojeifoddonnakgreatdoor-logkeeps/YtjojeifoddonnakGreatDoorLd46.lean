/-
  share.Of, share.Left: by their contracts.
-/
import Derived.Test.YtjojeifoddonnakGreatDoorLd41
import Derived.Test.YtjojeifoddonnakGreatDoorLd15
import Derived.Test.YtjojeifoddonnakGreatDoorLd08
namespace Go.Proofs.YtjojeifoddonnakGreatDoor.Shr
open Go.RowKit
open Go.Proofs.YtjojeifoddonnakGreatDoor.Itr Go.Proofs.YtjojeifoddonnakGreatDoor.Tre Go.Proofs.YtjojeifoddonnakGreatDoor.Cnt Go.Proofs.YtjojeifoddonnakGreatDoor.Bnd
set_option linter.unusedVariables false

set_option maxRecDepth 100000 in
set_option maxHeartbeats 4000000 in
theorem of_no (a : Option Addr) (cap : Nat) (s : List Int) (b : Option Addr) (capb : Nat) (d : List Int) (B E : Int) (w : World) (hr : Row w a s) (hd : Row w b d) (zs : s.length ≤ 17592186044416) (zd : d.length ≤ 17592186044416) (hE : Hid (ofF s d B = E)) (hne : Hid (E ≠ 0)) :
    Calls Tryz.prog 63 #[.slice a s.length cap, .slice b d.length capb, .int .i64 B] w fun e w' => e = .returned (.tuple #[.slice none 0 0, .iface 48 (.int .i64 E)]) ∧ Below w.heap.size w w' := by
  have B1 := below_box w (.slice a s.length cap) 22
  have hk := check a cap s b capb d 8000 _ (by omega) (by omega) (hr.below B1) (hd.below B1)
  have HF := unhide hE
  rw [ofF_chk] at HF
  by_cases h1 : chkF s d 8000 = 0
  · rw [if_pos h1] at HF
    rw [h1, Ev.errV_zero] at hk
    by_cases h2 : outs 400 B = true
    · rw [if_pos h2] at HF
      subst HF
      obtain ⟨N, hN⟩ : ∃ N, s.length = N := ⟨_, rfl⟩
      obtain ⟨M, hM⟩ : ∃ M, d.length = M := ⟨_, rfl⟩
      rw [hN] at hk B1 ⊢
      rw [hM] at hk ⊢
      have HO := hide h2
      clear hN hM zs zd hr hd h1 hE hne h2
      go_enter Tryz.func63, Tryz.ntmps63
      go_wp2_with fail
      refine hk.mono ?_
      clear hk
      rintro e w1 ⟨rfl, hb1⟩
      go_wp2_with fail
      refine (outside 400 _).mono ?_
      rintro e w2 ⟨Bx, rfl, hc2, hb2⟩
      go_wp2_with fail
      refine (outside1 400 B Bx _ hc2).mono ?_
      rw [unhide HO]
      rintro e w3 ⟨rfl, rfl⟩
      go_wp2
      go_ret2
      exact ⟨rfl, Below.chain B1 (Below.chain hb1 hb2)⟩
    · rw [if_neg h2] at HF
      exact absurd HF.symm (unhide hne)
  · rw [if_neg h1] at HF
    rw [HF, Ev.errV_ne (unhide hne)] at hk
    obtain ⟨N, hN⟩ : ∃ N, s.length = N := ⟨_, rfl⟩
    obtain ⟨M, hM⟩ : ∃ M, d.length = M := ⟨_, rfl⟩
    rw [hN] at hk B1 ⊢
    rw [hM] at hk ⊢
    clear hN hM zs zd hr hd h1 HF
    go_enter Tryz.func63, Tryz.ntmps63
    go_wp2_with fail
    refine hk.mono ?_
    clear hk
    rintro e w1 ⟨rfl, hb1⟩
    go_wp2
    go_ret2
    exact ⟨rfl, Below.chain B1 hb1⟩

theorem boxR_of {W : World} {B base g N : Nat} {o : List Int} (hb : Boxed W B 22 (.slice (some ⟨g, 0, none⟩) N N)) (h : Has W base (.slice (some ⟨g, 0, none⟩) N N) o) : BoxR W B o := by
  obtain ⟨e, _⟩ := h.inRow rfl
  subst e
  exact ⟨g, 0, o.length, hb, (h.lt g rfl).2, fun i hi => by rw [Nat.zero_add]; exact h.get hi⟩
theorem boxed_aside {W : World} {B B' j : Nat} {t : TypeId} {v : Value} (h : Boxed W B t v) (hne : B ≠ B') (u : Value) : Boxed (W.setCell ⟨B', j, none⟩ u) B t v := by
  unfold Boxed
  rw [Below.heap_setCell _ _ _ _ hne]
  exact h

set_option maxRecDepth 100000 in
set_option maxHeartbeats 8000000 in
theorem of_ok (a : Option Addr) (cap : Nat) (s : List Int) (b : Option Addr) (capb : Nat) (d : List Int) (B : Int) (w : World) (hr : Row w a s) (hd : Row w b d) (hE : Hid (ofF s d B = 0)) :
    Calls Tryz.prog 63 #[.slice a s.length cap, .slice b d.length capb, .int .i64 B] w fun e w' => ∃ v, e = .returned (.tuple #[v, .nilIface]) ∧ Has w' w.heap.size v (share s d B) ∧ Below w.heap.size w w' := by
  have hmf : ∀ (fn : Fn) (first cap : Array Value) (w : World), (Instr.makeFunc fn first cap).run Tryz.prog w = .ok (.func fn first cap) w := fun _ _ _ _ => rfl
  obtain ⟨h1, h2, h3, hB0, hB4⟩ := ofF_zero.1 (unhide hE)
  obtain ⟨h0, h8, hs, _⟩ := bf_ok h1
  have hchk : chkF s d 8000 = 0 := by
    have h := unhide hE
    rw [ofF_chk] at h
    by_cases e : chkF s d 8000 = 0
    · exact e
    · rw [if_neg e] at h; exact h
  have HO : Hid (outs 400 B = false) := hide (by simp [outs]; omega)
  have B1 := below_box w (.slice a s.length cap) 22
  have hk := check a cap s b capb d 8000 _ (by omega) (by omega) (hr.below B1) (hd.below B1)
  rw [hchk, Ev.errV_zero] at hk
  have x1 := boxR_new (c := cap) h0 hr
  have y1 := Boxed.new w 22 (.slice a s.length cap)
  have hd1 := hd.below B1
  have HI0 := hide (inv_zero (d := d) hs hB0)
  have HG0 : Hid (go s d B 100 (upto (fun _ => 0) s.length) = share s d B) := hide rfl
  have HS0 : Hid (sm (upto (fun _ => 0) s.length) s.length = ((0 : Nat) : Int)) := hide (sm_zeros _ _ (Nat.le_refl _))
  have HC0 : Hid (B - (cost s (upto (fun _ => 0) s.length) : Int) = B) := hide (by rw [cost_zeros hs]; simp)
  obtain ⟨R, hR⟩ : ∃ R, share s d B = R := ⟨_, rfl⟩
  rw [hR] at HG0 ⊢
  obtain ⟨W0, hW0⟩ : ∃ W0, w.alloc (.cells #[.slice a s.length cap] 22) = W0 := ⟨_, rfl⟩
  have hsz0 : W0.heap.size = w.heap.size + 1 := by rw [← hW0]; simp
  rw [hW0] at B1 hk x1 y1 hd1
  have HDL : Hid (d.length = s.length) := hide h2
  have HLD := hide h3
  have HSZ := hide hs
  rw [h2] at hk ⊢
  obtain ⟨N, hN⟩ : ∃ N, s.length = N := ⟨_, rfl⟩
  have HN := hide hN
  rw [hN] at hk h0 h8 HI0 HG0 HS0 HC0 HDL y1 hW0 ⊢
  have HX1 := hide x1
  have HY1 := hide y1
  have cz0 := y1.cell
  have HD1 := hide hd1
  have HB1 := hide B1
  have HSZ0 := hide hsz0
  clear hN hR h1 h2 h3 hs hE hchk hr hd x1 y1 hd1 B1 hsz0
  go_enter Tryz.func63, Tryz.ntmps63
  go_wp2_with fail
  refine hk.mono ?_
  clear hk
  rintro e w1 ⟨rfl, hb1⟩
  go_wp2_with fail
  refine (outside 400 _).mono ?_
  rintro e w2 ⟨Bx, rfl, hc2, hb2⟩
  have hb02 := Below.chain hb1 hb2
  go_wp2_with fail
  refine (outside1 400 B Bx _ hc2).mono ?_
  rw [unhide HO]
  rintro e w3 ⟨rfl, rfl⟩
  have cz := (boxed_below (unhide HY1) hb02 (unhide HY1).lt).cell
  clear hc2 hb1 hb2 hW0
  have HLB := hide hb02
  clear hb02
  obtain ⟨n0, hn0⟩ : ∃ n0, W0.heap.size = n0 := ⟨_, rfl⟩
  obtain ⟨g, hg⟩ : ∃ g, w3.heap.size = g := ⟨_, rfl⟩
  have HG := hide hg
  have hgn : n0 ≤ g := by rw [← hn0, ← hg]; exact (unhide HLB).size
  rw [hn0] at HSZ0
  have HN0 := hide hn0
  clear hn0
  go_wp2_with (
    at_make
    refine wpList_mk _ rfl _ rfl N rfl (by omega) ?_
    intro w4 hv4 hb4
    obtain ⟨W5, hW5⟩ : ∃ W5, (w4.alloc (.cells #[.slice (some ⟨g, 0, none⟩) N N] 22)).alloc (.cells #[.int .i64 B] 3) = W5 := ⟨_, rfl⟩
    have HB5 : Hid (Below w3.heap.size w3 W5) := hide (by rw [← hW5]; exact (hb4.alloc hb4.size _).alloc (by simp; have := hb4.size; omega) _)
    have HV5 : Hid (Has W5 g (.slice (some ⟨g, 0, none⟩) N N) (upto (fun _ => 0) N)) := hide (by rw [← hW5, ← unhide HG]; exact (hv4.alloc _).alloc _)
    have HP5 : Hid (Boxed W5 w4.heap.size 22 (.slice (some ⟨g, 0, none⟩) N N)) := hide (by rw [← hW5]; exact (Boxed.new _ _ _).alloc _)
    have HL5 : Hid (Boxed W5 (w4.heap.size + 1) 3 (.int .i64 B)) := hide (by
      rw [← hW5]
      have h := Boxed.new (w4.alloc (.cells #[.slice (some ⟨g, 0, none⟩) N N] 22)) 3 (.int .i64 B)
      simp at h
      exact h)
    have cz5 := (boxed_below (unhide HY1) (Below.chain (unhide HLB) (unhide HB5)) (unhide HY1).lt).cell
    have HBP : Hid (g < w4.heap.size) := hide (by have h1 : w3.heap.size < w4.heap.size := (hv4.lt _ rfl).2; have h2 := unhide HG; omega)
    clear hv4 hb4 cz cz0)
  obtain ⟨Bp, hBp⟩ : ∃ Bp, w4.heap.size = Bp := ⟨_, rfl⟩
  rw [hBp] at HP5 HL5 HBP ⊢
  have HB05 : Hid (Below W0.heap.size W0 W5) := hide (Below.chain (unhide HLB) (unhide HB5))
  have hBpg : n0 ≤ Bp := by have := unhide HBP; omega
  obtain ⟨Bl, hBl⟩ : ∃ Bl, Bp + 1 = Bl := ⟨_, rfl⟩
  rw [hBl] at HL5 ⊢
  have hne1 : Bl ≠ Bp := by omega
  have hne2 : g ≠ Bl := by have := unhide HBP; omega
  have hne3 : g ≠ Bp := by have := unhide HBP; omega
  have hBln : n0 ≤ Bl := by omega
  have HLE := hide hne1
  have HNE2 := hide hne2
  have HNE3 := hide hne3
  clear hBp hBl hW5 hne1 hne2 hne3 HLB HB5 HBP cz5 hg HG HO
  go_loopw [31] (fun i wr => ∃ (t f : Nat) (O : List Int) (L : Int), t ≤ N * 8 ∧ i = .int .i64 t ∧ Has wr n0 (.slice (some ⟨g, 0, none⟩) N N) O ∧ Boxed wr Bp 22 (.slice (some ⟨g, 0, none⟩) N N) ∧ Boxed wr Bl 3 (.int .i64 L) ∧ Hid (Inv s d B O) ∧ Hid (go s d B f O = R) ∧ Hid (f + t = 100) ∧ Hid (sm O N = (t : Int)) ∧ Hid (B - (cost s O : Int) = L) ∧ Hid (Below W0.heap.size W0 wr)) (fun i _ => N * 8 - (intOf i).toNat)
  case atStart => exact ⟨0, 100, _, B, Nat.zero_le _, rfl, (unhide HV5).mono hgn, unhide HP5, unhide HL5, HI0, HG0, rfl, HS0, HC0, HB05⟩
  case round =>
    obtain ⟨t, f, O, L, ht, rfl, hv, hbp, hbl, HI, HG, HF, HSM, HCL, HB⟩ := hrel
    clear HV5 HP5 HL5 HI0 HG0 HS0 HC0 HB05
    have HOL : Hid (O.length = N) := hide ((unhide HI).len.trans (unhide HN))
    have cp := hbp.cell
    by_cases hlt : t < N * 8
    · have hlt2 : (t : Int) < (N : Int) * 8 := by omega
      have HAF : Hid (∀ i W, i < N → at0 O i ≠ 8 → Below wr.heap.size wr W → Calls Tryz.prog 84 #[.int .i64 i, .pointer (some ⟨w.heap.size, 0, none⟩), .pointer (some ⟨Bp, 0, none⟩), .pointer (some ⟨Bl, 0, none⟩)] W fun e w' => e = .returned (.bool (decide ((cost s (inc O i) : Int) ≤ B))) ∧ Below W.heap.size W w') := hide (fun i W hi h8' hW => by
        have hp := (unhide HI).pls i (by rw [unhide HOL]; exact hi)
        have hk := afford i w.heap.size Bp Bl s O L W (by rw [unhide HOL]; exact hi) (by rw [unhide HOL, unhide HN]) (by rw [unhide HOL]; exact h8) (unhide HSZ) hp.1 (by omega) ((unhide HX1).below (Below.chain (unhide HB) hW)) ((boxR_of hbp hv).below hW) (boxed_below hbl hW hbl.lt)
        have e1 : decide (pr (at0 s i).toNat (at0 O i).toNat ≤ L) = decide ((cost s (inc O i) : Int) ≤ B) := by
          rw [cost_inc (by rw [unhide HOL]; exact hi) (by rw [unhide HN]; exact hi) hp.1]
          refine decide_eq_decide.2 ?_
          have := unhide HCL
          omega
        rw [e1] at hk
        exact hk)
      have hnx := next b capb d (some ⟨g, 0, none⟩) N N s O B w.heap.size Bp Bl wr ((unhide HD1).below (unhide HB)) (hv.inRow rfl).2 h0 h8 HDL HOL (hide (unhide HI).pls) HLD HAF
      cases hb : bst s d O B N with
      | none =>
        rw [hb] at hnx
        have e2 := go_none (f := f) (by rw [unhide HN]; exact hb)
        rw [unhide HG] at e2
        have HRO := hide e2
        clear hb HAF e2
        go_wp2_with fail
        refine hnx.mono ?_
        clear hnx
        rintro e w6 ⟨rfl, hb6⟩
        have cp6 := (boxed_below hbp hb6 hbp.lt).cell
        have hbv : bv none = -1 := rfl
        go_wp2
        go_ret2
        exact ⟨_, rfl, by rw [unhide HRO]; exact (hv.below hb6).mono (by have := unhide HSZ0; omega), Below.chain (unhide HB1) (Below.chain (unhide HB) hb6)⟩
      | some q =>
        rw [hb] at hnx
        obtain ⟨hq, hcan⟩ := bst_lt hb
        have HI2 := hide (inv_inc (unhide HI) (by rw [unhide HN]; exact hq) hcan)
        have hqp := (unhide HI).pls q (by rw [unhide HOL]; exact hq)
        have hqs := unhide HSZ q (by rw [unhide HN]; exact hq)
        have hq7 := hcan.2.1
        have hci := cost_inc (s := s) (o := O) (i := q) (by rw [unhide HOL]; exact hq) (by rw [unhide HN]; exact hq) hqp.1
        obtain ⟨f', rfl⟩ : ∃ f', f = f' + 1 := ⟨f - 1, by have := unhide HF; omega⟩
        have HG2 : Hid (go s d B f' (inc O q) = R) := hide (by rw [← go_some (by rw [unhide HN]; exact hb)]; exact unhide HG)
        have HF2 : Hid (f' + (t + 1) = 100) := hide (by have := unhide HF; omega)
        have HSM2 : Hid (sm (inc O q) N = ((t + 1 : Nat) : Int)) := hide (by rw [sm_inc (by rw [unhide HOL]; exact Nat.le_refl _), if_pos hq, unhide HSM]; omega)
        have hc2 : (cost s (inc O q) : Int) ≤ B := hcan.2.2
        obtain ⟨S, hS⟩ : ∃ S : Nat, at0 s q = S := ⟨(at0 s q).toNat, by omega⟩
        obtain ⟨P, hP⟩ : ∃ P : Nat, at0 O q = P := ⟨(at0 O q).toNat, by omega⟩
        have eS : (at0 s q).toNat = S := by omega
        have eP : (at0 O q).toNat = P := by omega
        rw [eS, eP] at hci
        have hpr := pr_in (n := S) (k := P) (by omega) (by omega)
        have HPR := hide (fun W => price S P (by omega) (by omega) W)
        obtain ⟨Y, hY⟩ : ∃ Y, pr S P = Y := ⟨_, rfl⟩
        rw [hY] at hci HPR hpr
        have hL0 := unhide HCL
        obtain ⟨L2, hL2⟩ : ∃ L2, L - Y = L2 := ⟨_, rfl⟩
        have HCL2 : Hid (B - (cost s (inc O q) : Int) = L2) := hide (by omega)
        have wL : IntKind.i64.wrap (L - Y) = L2 := by rw [hL2]; exact IntWalk.i64_in _ (by omega)
        have wP : IntKind.i64.wrap ((P : Int) + 1) = (P : Int) + 1 := IntWalk.i64_in _ (by omega)
        have hP8 : P ≤ 8 := by omega
        have HIN : Hid (O.set q ((P : Int) + 1) = inc O q) := hide (by unfold inc; rw [hP])
        have HPP := hide hP
        have HSS := hide hS
        have hbv : bv (some q) = (q : Int) := rfl
        have dq : decide ((q : Int) < 0) = false := by simp
        rw [hbv] at hnx
        clear hb HAF hcan hqp hqs hq7 hci hc2 hS hP eS eP hpr hY hL0 hL2 hbv HG HF HSM HCL HI
        go_wp2_with fail
        refine hnx.mono ?_
        clear hnx
        rintro e w6 ⟨rfl, hb6⟩
        have hv6 := hv.below hb6
        have hbp6 := boxed_below hbp hb6 hbp.lt
        have hbl6 := boxed_below hbl hb6 hbl.lt
        have HB6 := hide (Below.chain (unhide HB) hb6)
        obtain ⟨gz, oz, cz, z1, z2, z3⟩ := (unhide HX1).below (unhide HB6)
        have z4 := z3 q (by rw [unhide HN]; exact hq)
        rw [unhide HSS] at z4
        have o4 := hv6.get (j := q) (by rw [unhide HOL]; exact hq)
        rw [unhide HPP] at o4
        rw [unhide HN] at z1
        have X1 : ∀ W : Cls w6, W.val.cell? ⟨w.heap.size, 0, none⟩ = _ := fun W => W.cell z1.lt z1.cell
        have X2 : ∀ W : Cls w6, W.val.cell? ⟨gz, oz + q, none⟩ = _ := fun W => W.cell z2 z4
        have X3 : ∀ W : Cls w6, W.val.cell? ⟨Bp, 0, none⟩ = _ := fun W => W.cell hbp6.lt hbp6.cell
        have X4 : ∀ W : Cls w6, W.val.cell? ⟨g, q, none⟩ = _ := fun W => W.cell (hv6.lt g rfl).2 o4
        have X5 : ∀ W : Cls w6, W.val.cell? ⟨Bl, 0, none⟩ = _ := fun W => W.cell hbl6.lt hbl6.cell
        have X6 : ∀ W : Cls w6, W.val.frozen? ⟨Bl, 0, none⟩ = false := fun W => (boxed_below hbl6 W.ok hbl6.lt).frozen
        clear z1 z2 z3 z4 o4 cp
        go_upto_region 12 with fail
        refine region_calm_last _ rfl (by kernel_rfl) (by kernel_rfl) (by kernel_rfl) ?_
        simp only [calm]
        repeat (go_big_quiet_step ((go_at_call 85; exact calm_call (unhide HPR _))))
        refine wpQuiet_nil ?_
        intro _ hw'
        obtain ⟨WQ, hw''⟩ := hw'
        subst hw''
        have hv7 := hv6.below WQ.ok
        have hbp7 := boxed_below hbp6 WQ.ok hbp6.lt
        have hbl7 := boxed_below hbl6 WQ.ok hbl6.lt
        have HB7 := Below.setCell (p := ⟨Bl, 0, none⟩) (Below.chain (unhide HB6) WQ.ok) (by rw [unhide HN0]; exact hBln) (.int .i64 L2)
        have hv8 : Has (WQ.val.setCell ⟨Bl, 0, none⟩ (.int .i64 L2)) n0 (.slice (some ⟨g, 0, none⟩) N N) O := hv7.kept (grownBy_setCell' _ _ _) (Or.inr (fun e => unhide HNE2 (by simpa [Value.ownBlock] using e)))
        have hbp8 := boxed_aside (j := 0) hbp7 (Ne.symm (unhide HLE)) (.int .i64 L2)
        have hbl8 := Boxed.set (.int .i64 L2) hbl7
        have x5 := X5 WQ
        have x6 := X6 WQ
        obtain ⟨w8, hw8⟩ : ∃ w8, WQ.val.setCell ⟨Bl, 0, none⟩ (.int .i64 L2) = w8 := ⟨_, rfl⟩
        rw [hw8] at HB7 hv8 hbp8 hbl8
        have cp8 := hbp8.cell
        have o8 := hv8.get (j := q) (by rw [unhide HOL]; exact hq)
        rw [unhide HPP] at o8
        have f8 := hv8.frozen q
        obtain ⟨m1, m2⟩ := hv8.put q ((P : Int) + 1)
        rw [unhide HIN] at m1
        have hbp9 := boxed_aside (j := q) hbp8 (Ne.symm (unhide HNE3)) (.int .i64 ((P : Int) + 1))
        have hbl9 := boxed_aside (j := q) hbl8 (Ne.symm (unhide HNE2)) (.int .i64 ((P : Int) + 1))
        have HB9 := hide (Below.setCell (p := ⟨g, q, none⟩) HB7 (by rw [unhide HN0]; exact hgn) (.int .i64 ((P : Int) + 1)))
        have M1 := hide m1
        have HBP9 := hide hbp9
        have HBL9 := hide hbl9
        clear X1 X2 X3 X4 X5 X6 hv7 hbp7 hbl7 HB7 hv8 hbp8 hbl8 m1 m2 hbp9 hbl9
        go_wp2
        go_roundw
        case rel => exact ⟨t + 1, f', inc O q, L2, by omega, by go_num, unhide M1, unhide HBP9, unhide HBL9, HI2, HG2, HF2, HSM2, HCL2, HB9⟩
        case measure => simp [intOf]; omega
    · obtain rfl : t = N * 8 := by omega
      have hfull := sm_full (unhide HI).pls (j := N) (by rw [unhide HOL]; exact Nat.le_refl _) (by rw [unhide HSM]; omega)
      have e2 := go_none (f := f) (by rw [unhide HN]; exact bst_full (s := s) (d := d) (B := B) hfull)
      rw [unhide HG] at e2
      have HRO := hide e2
      clear hfull e2
      go_wp2
      go_ret2
      exact ⟨_, rfl, by rw [unhide HRO]; exact hv.mono (by have := unhide HSZ0; omega), Below.chain (unhide HB1) (unhide HB)⟩

end Go.Proofs.YtjojeifoddonnakGreatDoor.Shr
