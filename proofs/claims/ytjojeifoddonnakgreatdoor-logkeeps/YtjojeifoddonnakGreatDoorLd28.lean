/-
  hornref2.Pack: by its contract.
-/
import Derived.Test.YtjojeifoddonnakGreatDoorLd25
import Derived.Test.YtjojeifoddonnakGreatDoorLd12
import Derived.Test.YtjojeifoddonnakGreatDoorLd09
import Derived.Test.YtjojeifoddonnakGreatDoorLd26
import Derived.Test.YtjojeifoddonnakGreatDoorLd18
import Derived.Test.YtjojeifoddonnakGreatDoorLd27
import Derived.Test.YtjojeifoddonnakGreatDoorLd08
import Derived.Test.YtjojeifoddonnakGreatDoorLd03
import Derived.Test.YtjojeifoddonnakGreatDoorLd11
namespace Go.Proofs.YtjojeifoddonnakGreatDoor.Pck
open Go.RowKit
open Go.Proofs.YtjojeifoddonnakGreatDoor.Itr Go.Proofs.YtjojeifoddonnakGreatDoor.Tre Go.Proofs.YtjojeifoddonnakGreatDoor.Bnd Go.Proofs.YtjojeifoddonnakGreatDoor.Cnt Go.Proofs.YtjojeifoddonnakGreatDoor.Pls Go.Proofs.YtjojeifoddonnakGreatDoor.Shr Go.Proofs.YtjojeifoddonnakGreatDoor.Frm Go.Proofs.YtjojeifoddonnakGreatDoor.Wid Go.Proofs.YtjojeifoddonnakGreatDoor.Hrn
set_option linter.unusedVariables false

theorem gns_step {ps : List Prt} {j : Nat} (h : j < ps.length) : gns (ps.take (j + 1)) = gns (ps.take j) ++ [(prt ps j).1] := by
  unfold gns
  rw [List.take_succ_eq_append_getElem h, List.map_append, prt_get h]
  rfl
theorem rks_step {ps : List Prt} {j : Nat} (h : j < ps.length) : rks (ps.take (j + 1)) = rks (ps.take j) ++ [rk (prt ps j).2 (loud (prt ps j).2)] := by
  unfold rks
  rw [List.take_succ_eq_append_getElem h, List.map_append, prt_get h]
  rfl
theorem wbs_step {ps : List Prt} {j : Nat} (h : j < ps.length) : wbs (ps.take (j + 1)) = wbs (ps.take j) ++ [(Bt (loud (prt ps j).2) (prt ps j).2.length : Int)] := by
  unfold wbs
  rw [List.take_succ_eq_append_getElem h, List.map_append, prt_get h]
  rfl
/-- What is told of a frame that is packed. -/
def PackPost (ps : List Prt) (s : List Int) (B : Int) (w : World) (e : Ending) (w' : World) : Prop := ∃ E, e = .returned (.tuple #[.string (pstr ps E), .int .i64 E]) ∧ PckF ps s B E ∧ Below w.heap.size w w'

set_option maxRecDepth 100000 in
set_option maxHeartbeats 16000000 in
theorem refPack (a : Option Addr) (cap : Nat) (ps : List Prt) (b : Option Addr) (capb : Nat) (s : List Int) (B : Int) (w : World) (hp : Pts w a ps) (hs : Row w b s) (zp : ps.length ≤ 9223372036854775807) (zs : s.length ≤ 9223372036854775807) :
    Calls Tryz.prog 31 #[.slice a ps.length cap, .slice b s.length capb, .int .i64 B] w fun e w' => PackPost ps s B w e w' := by
  have c0 := refFrame a cap ps b capb s B w hp hs zp zs
  unfold FrmPost at c0
  have HNO : Hid (∀ E w', FrmF ps s B E → E ≠ 0 → Below w.heap.size w w' → PackPost ps s B w (.returned (.tuple #[.string { data := #[] }, .int .i64 E])) w') := hide (fun E w' h hne hb => ⟨E, by rw [pstr_no ps hne], Or.inl ⟨hne, h⟩, hb⟩)
  have HFZ : Hid (FrmF ps s B 0 → Right s B ps ∧ ps.length = s.length ∧ s.length ≤ 8) := hide (fun h => by
    obtain ⟨h1, _, _, h4⟩ := frm_zero h
    exact ⟨h4, h4.len, (bf_ok h1).2.1⟩)
  have HPU : Hid (FrmF ps s B 0 → PckF ps s B (putF (nums ps) (wids ps))) := hide (fun h => Or.inr ⟨h, pack_put (frm_zero h).2.2.2⟩)
  obtain ⟨PL, hPL⟩ : ∃ PL, ps.length = PL := ⟨_, rfl⟩
  have HPN := hide hPL
  obtain ⟨SL, hSL⟩ : ∃ SL, s.length = SL := ⟨_, rfl⟩
  have HSN := hide hSL
  rw [hPL] at c0 zp ⊢
  rw [hSL] at c0 zs ⊢
  clear hPL hSL
  go_enter Tryz.func31, Tryz.ntmps31
  go_wp2_with fail
  refine c0.mono ?_
  clear c0
  rintro e w1 ⟨E, rfl, HF, hb1⟩
  by_cases hE : E = 0
  · subst hE
    obtain ⟨hR, hl1, hl8⟩ := unhide HFZ HF
    have HR := hide hR
    have HPK := hide (unhide HPU HF)
    have h8 : PL ≤ 8 := by rw [← unhide HPN, hl1]; exact hl8
    have P1 := hp.below hb1
    clear HFZ HPU HNO HF hR hl1 hl8
    go_wp2
    go_loopw [9, 10, 11] (fun n v i wr => ∃ j : Nat, j ≤ PL ∧ i = .int .i64 j ∧ Has wr w1.heap.size n (gns (ps.take j)) ∧ Has wr w1.heap.size v (List.replicate j 6) ∧ Off n v ∧ Below w1.heap.size w1 wr) (fun _ _ i _ => PL - (intOf i).toNat)
    case atStart => exact ⟨0, Nat.zero_le _, rfl, Has.nil _ _, Has.nil _ _, off_nil _, Below.refl _ _⟩
    case round =>
      obtain ⟨j, hj, rfl, hn, hv, hof, hB⟩ := hrel
      by_cases hlt : j < PL
      · have hlt1 : j < ps.length := by rw [unhide HPN]; exact hlt
        obtain ⟨b1, off1, rfl, _, hc1⟩ := (P1.below hB).at hlt1
        obtain ⟨x1, _⟩ := hc1 j hlt1
        have HST := hide (gns_step hlt1)
        have HS6 : Hid (List.replicate (j + 1) (6 : Int) = List.replicate j 6 ++ [6]) := hide (by rw [List.replicate_succ'])
        obtain ⟨G, hG⟩ : ∃ G, (prt ps j).1 = G := ⟨_, rfl⟩
        rw [hG] at x1 HST
        have hln1 : Hid ((gns (ps.take j)).length + [G].length ≤ 1000000) := hide (by rw [gns_length, List.length_take, unhide HPN]; simp; omega)
        have hln2 : Hid ((List.replicate j (6 : Int)).length + [(6 : Int)].length ≤ 1000000) := hide (by rw [List.length_replicate]; simp; omega)
        have hWs := hB.size
        clear hc1 hG hlt1
        go_wp2_with (first
          | (at_builtin
             refine wpList_app _ rfl _ _ rfl w1.heap.size u9 (gns (ps.take j)) [G] _ _ rfl (hn.alloc _) rfl (row_one _ _ _) (unhide hln1) (by simp; omega) ?_
             intro s6 w6 k6 g6 at6
             obtain ⟨e1, e2⟩ := stepped_plain hn hWs k6 g6 at6
             obtain ⟨hv6, hof6⟩ := e2 _ _ hv hof.symm
             have hB6 := hB.trans e1
             have hWs6 := hB6.size
             clear hn hv hB e1 e2 g6 at6 hWs)
          | (at_builtin
             refine wpList_app _ rfl _ _ rfl w1.heap.size u10 (List.replicate j 6) [(6 : Int)] _ _ rfl (hv6.alloc _) rfl (row_one _ _ _) (unhide hln2) (by simp; omega) ?_
             intro s7 w7 k7 g7 at7
             obtain ⟨e1, e2⟩ := stepped_plain hv6 hWs6 k7 g7 at7
             obtain ⟨hk7, hof7⟩ := e2 _ _ k6 hof6.symm
             have hB7 := hB6.trans e1
             clear hv6 hB6 e1 e2 g7 at7 hWs6 k6))
        rw [← unhide HST] at hk7
        rw [← unhide HS6] at k7
        go_wp2
        go_roundw
        case rel => exact ⟨j + 1, by omega, by go_num, hk7, k7, hof7, hB7⟩
        case measure => simp [intOf]; omega
      · obtain rfl : PL = j := by omega
        have eT : ps.take PL = ps := by rw [← unhide HPN, List.take_length]
        rw [eT] at hn
        have hn0 : Has wr w1.heap.size u9 (gns ps ++ rks (ps.take 0)) := by
          have e : rks (ps.take 0) = [] := rfl
          rw [e, List.append_nil]
          exact hn
        have hv0 : Has wr w1.heap.size u10 (List.replicate PL 6 ++ wbs (ps.take 0)) := by
          have e : wbs (ps.take 0) = [] := rfl
          rw [e, List.append_nil]
          exact hv
        clear hn hv eT hj hlt
        go_wp2
        go_loopw [9, 10, 12] (fun n v i wr => ∃ j : Nat, j ≤ PL ∧ i = .int .i64 j ∧ Has wr w1.heap.size n (gns ps ++ rks (ps.take j)) ∧ Has wr w1.heap.size v (List.replicate PL 6 ++ wbs (ps.take j)) ∧ Off n v ∧ Below w1.heap.size w1 wr) (fun _ _ i _ => PL - (intOf i).toNat)
        case atStart => exact ⟨0, Nat.zero_le _, rfl, hn0, hv0, hof, hB⟩
        case round =>
          clear hn0 hv0 hof hB
          rename World => wq
          obtain ⟨j, hj, rfl, hn, hv, hof, hB⟩ := hrel
          by_cases hlt : j < PL
          · have hlt1 : j < ps.length := by rw [unhide HPN]; exact hlt
            obtain ⟨b1, off1, rfl, hb1', hc1⟩ := (P1.below hB).at hlt1
            obtain ⟨x1, A, C, x2, x3, x4, x5, x6⟩ := hc1 j hlt1
            obtain ⟨i1, i2, _, _⟩ := right_in (unhide HR) hlt1
            have HSR := hide (rks_step hlt1)
            have HSW := hide (wbs_step hlt1)
            have hi8 := (fault_ok ((unhide HR).ok j hlt1).2).2.1
            have CRK := refRank (prt ps j).2 A C wq i1 i2 x4 x5 x6
            have hrk := (rk_in _ i1 i2)
            have hV9 := V_in (loud (prt ps j).2) (prt ps j).2.length (by omega) (by omega)
            have hbt := Bt_le (k := loud (prt ps j).2) (n := (prt ps j).2.length) (by omega) (by omega)
            have CLO : Hid (∀ W, Below wq.heap.size wq W → Calls Tryz.prog 41 #[.slice A (prt ps j).2.length C] W fun e w' => e = .returned (.int .i64 (loud (prt ps j).2 : Int)) ∧ Below W.heap.size W w') := hide (fun W h => (refLoudB A C (prt ps j).2 W (by omega) (hi8.mono (by omega)) (x6.below h)).mono fun e w' ⟨he, hw⟩ => ⟨he, by rw [← hw]; exact Below.refl _ _⟩)
            have CCO : Hid (∀ W, Calls Tryz.prog 28 #[.int .i64 ((prt ps j).2.length : Int), .int .i64 (loud (prt ps j).2 : Int)] W fun e w' => e = .returned (.int .i64 (V (loud (prt ps j).2) (prt ps j).2.length)) ∧ Below W.heap.size W w') := hide (fun W => refCount _ _ i1 i2 W)
            have CBI : Hid (∀ W, Calls Tryz.prog 29 #[.int .i64 (V (loud (prt ps j).2) (prt ps j).2.length)] W fun e w' => e = .returned (.int .i64 (Bt (loud (prt ps j).2) (prt ps j).2.length : Int)) ∧ Below W.heap.size W w') := hide (fun W => (refBits _ hV9.2 W).mono fun e w' ⟨b, he, hb, hw⟩ => ⟨by rw [he, hb.one (Bt_is i2 i1)], by rw [← hw]; exact Below.refl _ _⟩)
            obtain ⟨K, hK⟩ : ∃ K, loud (prt ps j).2 = K := ⟨_, rfl⟩
            rw [hK] at CLO CCO CBI HSW HSR CRK hrk hbt
            obtain ⟨LP, hLP⟩ : ∃ LP, (prt ps j).2.length = LP := ⟨_, rfl⟩
            rw [hLP] at CLO CCO CBI HSW CRK x2 hbt
            obtain ⟨RK, hRK⟩ : ∃ RK, rk (prt ps j).2 K = RK := ⟨_, rfl⟩
            rw [hRK] at HSR CRK
            obtain ⟨BT, hBT⟩ : ∃ BT, Bt K LP = BT := ⟨_, rfl⟩
            rw [hBT] at HSW CBI hbt
            obtain ⟨VV, hVV⟩ : ∃ VV, V K LP = VV := ⟨_, rfl⟩
            rw [hVV] at CCO CBI
            have hln1 : Hid ((gns ps ++ rks (ps.take j)).length + [RK].length ≤ 1000000) := hide (by rw [List.length_append, gns_length, rks_length, List.length_take, unhide HPN]; simp; omega)
            have hln2 : Hid ((List.replicate PL (6 : Int) ++ wbs (ps.take j)).length + [(BT : Int)].length ≤ 1000000) := hide (by rw [List.length_append, List.length_replicate, wbs_length, List.length_take, unhide HPN]; simp; omega)
            have HN2 : Hid ((gns ps ++ rks (ps.take j)) ++ [RK] = gns ps ++ rks (ps.take (j + 1))) := hide (by rw [unhide HSR, List.append_assoc])
            have HV2 : Hid ((List.replicate PL (6 : Int) ++ wbs (ps.take j)) ++ [(BT : Int)] = List.replicate PL 6 ++ wbs (ps.take (j + 1))) := hide (by rw [unhide HSW, List.append_assoc])
            clear hc1 hK hLP hRK hBT hVV x1 x3 x4 x5 x6 i1 i2 hi8 hrk hV9 HSR HSW hlt1
            go_wp2_with fail
            refine CRK.mono ?_
            clear CRK
            rintro e w5 ⟨rfl, hb5⟩
            have hn5 := hn.below hb5
            have hv5 := hv.below hb5
            have hB5 := Below.chain hB hb5
            have hlt5 : b1 < w5.heap.size := Nat.lt_of_lt_of_le hb1' hb5.size
            have x5 := (hb5.cell (p := ⟨b1, off1 + j * 2 + 1, none⟩) hb1').trans x2
            have X1 : ∀ W : Cls w5, W.val.cell? ⟨b1, off1 + j * 2 + 1, none⟩ = _ := fun W => W.cell hlt5 x5
            have CLO5 : Hid (∀ W : Cls w5, Calls Tryz.prog 41 #[.slice A LP C] W.val fun e w' => e = .returned (.int .i64 (K : Int)) ∧ Below W.val.heap.size W.val w') := hide (fun W => unhide CLO W.val (Below.chain hb5 W.ok))
            have hji : (j : Int) < (PL : Int) := by omega
            clear hn hv hB x2 CLO
            go_upto_region 14 with fail
            refine region_calm (by kernel_rfl) (by kernel_rfl) ?_
            repeat (go_big_quiet_step ((first
              | (go_at_call 41; exact calm_call (unhide CLO5 _))
              | (go_at_call 28; exact calm_call (unhide CCO _))
              | (go_at_call 29; exact calm_call (unhide CBI _)))))
            refine wpQuiet_nil ?_
            intro _ hw'
            obtain ⟨WQ, hw''⟩ := hw'
            subst hw''
            have hn6 := hn5.below WQ.ok
            have hv6 := hv5.below WQ.ok
            have hB6 := Below.chain hB5 WQ.ok
            have hWs := hB6.size
            obtain ⟨w6, hw6⟩ : ∃ w6, WQ.val = w6 := ⟨_, rfl⟩
            rw [hw6] at hn6 hv6 hB6 hWs ⊢
            clear X1 CLO5 CCO CBI hn5 hv5 hB5 hb5 x5 hlt5 hw6
            go_wp2_with (first
              | (at_builtin
                 refine wpList_app _ rfl _ _ rfl w1.heap.size u9 (gns ps ++ rks (ps.take j)) [RK] _ _ rfl (hn6.alloc _) rfl (row_one _ _ _) (unhide hln1) (by simp; omega) ?_
                 intro s7 w7 k7 g7 at7
                 obtain ⟨e1, e2⟩ := stepped_plain hn6 hWs k7 g7 at7
                 obtain ⟨hv7, hof7⟩ := e2 _ _ hv6 hof.symm
                 have hB7 := hB6.trans e1
                 have hWs7 := hB7.size
                 clear hn6 hv6 hB6 e1 e2 g7 at7 hWs)
              | (at_builtin
                 refine wpList_app _ rfl _ _ rfl w1.heap.size u10 (List.replicate PL 6 ++ wbs (ps.take j)) [(BT : Int)] _ _ rfl (hv7.alloc _) rfl (row_one _ _ _) (unhide hln2) (by simp; omega) ?_
                 intro s8 w8 k8 g8 at8
                 obtain ⟨e1, e2⟩ := stepped_plain hv7 hWs7 k8 g8 at8
                 obtain ⟨hk8, hof8⟩ := e2 _ _ k7 hof7.symm
                 have hB8 := hB7.trans e1
                 clear hv7 hB7 e1 e2 g8 at8 hWs7 k7))
            rw [unhide HN2] at hk8
            rw [unhide HV2] at k8
            go_wp2
            go_roundw
            case rel => exact ⟨j + 1, by omega, by go_num, hk8, k8, hof8, hB8⟩
            case measure => simp [intOf]; omega
          · obtain rfl : PL = j := by omega
            have eT : ps.take PL = ps := by rw [← unhide HPN, List.take_length]
            have hn2 : Has wq w1.heap.size u9 (nums ps) := by
              rw [eT] at hn
              exact hn
            have hv2 : Has wq w1.heap.size u10 (wids ps) := by
              rw [eT, ← unhide HPN] at hv
              exact hv
            have hB2 := Below.chain hb1 hB
            obtain ⟨pn, qn, hun, rn⟩ := hn2.row
            obtain ⟨pv, qv, huv, rv⟩ := hv2.row
            have CPU := refPut pn qn (nums ps) pv qv (wids ps) wq rn rv (by rw [nums_length, unhide HPN]; omega) (by rw [wids_length, unhide HPN]; omega)
            unfold PutPost at CPU
            have HBI := hide (pack_bit (unhide HR))
            have HOC : Hid (oct (puts (nums ps) (wids ps)) = oct (pbits ps)) := hide rfl
            have HPZ : Hid (putF (nums ps) (wids ps) = 0 → (puts (nums ps) (wids ps)).length ≤ 400) := hide (fun h => (putF_zero.1 h).2.2)
            rw [hun, huv]
            obtain ⟨NL, hNL⟩ : ∃ NL, (nums ps).length = NL := ⟨_, rfl⟩
            obtain ⟨WL, hWL⟩ : ∃ WL, (wids ps).length = WL := ⟨_, rfl⟩
            rw [hNL, hWL] at CPU ⊢
            obtain ⟨PF, hPF⟩ : ∃ PF, putF (nums ps) (wids ps) = PF := ⟨_, rfl⟩
            rw [hPF] at CPU HPK HPZ
            have HRS : Hid (∀ w', Below w.heap.size w w' → PF ≠ 0 → PackPost ps s B w (.returned (.tuple #[.string { data := #[] }, .int .i64 PF])) w') := hide (fun w' hb hne => ⟨PF, by rw [pstr_no ps hne], unhide HPK, hb⟩)
            have HRO : Hid (∀ w', Below w.heap.size w w' → PF = 0 → PackPost ps s B w (.returned (.tuple #[.string (str (oct (pbits ps))), .int .i64 0])) w') := hide (fun w' hb hz => ⟨0, by rw [pstr_ok], by rw [← hz]; exact unhide HPK, hb⟩)
            obtain ⟨PU, hPU⟩ : ∃ PU, puts (nums ps) (wids ps) = PU := ⟨_, rfl⟩
            have HBP : Hid (Bit PU) := hide (by rw [← hPU]; exact unhide HBI)
            rw [hPU] at CPU HOC HPZ
            clear hn hv hn2 hv2 hun huv hNL hWL hPF hPU eT hB HBI HPK hj hlt
            go_wp2_with fail
            refine CPU.mono ?_
            clear CPU
            rintro e w5 ⟨h5, hb5⟩
            have hB5 := Below.chain hB2 hb5
            rcases h5 with ⟨h5, rfl⟩ | ⟨h5, v5, rfl, k5⟩
            · have hne : (PF != 0) = true := by simpa using h5
              have HP := hide (unhide HRS w5 hB5 h5)
              clear HRS HRO HPZ HBP HOC
              go_wp2
              go_ret2
              exact unhide HP
            · obtain ⟨p5, q5, rfl, r5⟩ := k5.row
              have COC := refOctets p5 q5 PU w5 r5 (unhide HPZ h5) HBP
              rw [unhide HOC] at COC
              obtain ⟨UL, hUL⟩ : ∃ UL, PU.length = UL := ⟨_, rfl⟩
              rw [hUL] at COC ⊢
              clear hUL k5 HPZ HBP HOC r5
              go_wp2_with fail
              refine COC.mono ?_
              clear COC
              rintro e w6 ⟨rfl, hb6⟩
              have HP := hide (unhide HRO w6 (Below.chain hB5 hb6) h5)
              clear HRS HRO
              go_wp2
              go_ret2
              exact unhide HP
  · have hne : (E != 0) = true := by simpa using hE
    have HP := hide (unhide HNO E w1 HF hE hb1)
    clear HNO HFZ HPU HF
    go_wp2
    go_ret2
    exact unhide HP

end Go.Proofs.YtjojeifoddonnakGreatDoor.Pck

/-
  hornref2.Unpack: by its contract.
-/
namespace Go.Proofs.YtjojeifoddonnakGreatDoor.Pck
open Go.RowKit
open Go.Proofs.YtjojeifoddonnakGreatDoor.Itr Go.Proofs.YtjojeifoddonnakGreatDoor.Tre Go.Proofs.YtjojeifoddonnakGreatDoor.Bnd Go.Proofs.YtjojeifoddonnakGreatDoor.Cnt Go.Proofs.YtjojeifoddonnakGreatDoor.Pls Go.Proofs.YtjojeifoddonnakGreatDoor.Shr Go.Proofs.YtjojeifoddonnakGreatDoor.Frm Go.Proofs.YtjojeifoddonnakGreatDoor.Wid Go.Proofs.YtjojeifoddonnakGreatDoor.Hrn
set_option linter.unusedVariables false

/-- What is told of bytes that are unpacked. -/
def UnpPost (x : ByteArray) (s : List Int) (B : Int) (w : World) (e : Ending) (w' : World) : Prop :=
  ∃ E p q ps, e = .returned (.tuple #[.slice p ps.length q, .int .i64 E]) ∧ PtsN w.heap.size w' p ps ∧ ps.length ≤ q ∧ q ≤ 9223372036854775807 ∧ UnpF (byt x) s B E ps ∧ Below w.heap.size w w'
theorem unp_no {x : ByteArray} {s : List Int} {B E : Int} {w w' : World} (h : UnpF (byt x) s B E []) (hb : Below w.heap.size w w') : UnpPost x s B w (.returned (.tuple #[.slice none 0 0, .int .i64 E])) w' := ⟨E, none, 0, [], rfl, Or.inl rfl, Nat.le_refl _, by omega, h, hb⟩
/-- Two texts, held against each other. -/
theorem text_ne {l : List Int} {x : ByteArray} (hl : Byts l) (h : str l ≠ x) : ((str l).toList == x.toList) = false := by
  rw [beq_eq_false_iff_ne]
  intro e
  have h2 := str_same x l hl
  rw [e] at h2
  have h3 : (x.toList == x.toList) = true := by simp
  rw [h3] at h2
  have h4 : byt x = l := by simpa using h2.symm
  exact h (by rw [← h4, str_byt])

set_option maxRecDepth 100000 in
set_option maxHeartbeats 32000000 in
theorem refUnpack_ok (x : ByteArray) (b : Option Addr) (capb : Nat) (s : List Int) (B : Int) (w : World) (h50 : x.size ≤ 50) (hs : Row w b s) (h1 : Hid (bf s = 0)) (hB0 : 0 ≤ B) (hB4 : B ≤ 400) :
    Calls Tryz.prog 14 #[.string x, .slice b s.length capb, .int .i64 B] w fun e w' => UnpPost x s B w e w' := by
  obtain ⟨n0, n8, hsz, n32⟩ := bf_ok (unhide h1)
  have HSZ := hide hsz
  have CBA := hide (fun W h => refBands_ok b capb s W (by omega) h h1)
  have COP := hide (fun W => refOpen x W (by omega))
  have HBA : Hid (Bit (opn (byt x))) := hide (opn_bit (byt_byts x))
  have hAN : (opn (byt x)).length = 8 * x.size := by rw [opn_length, byt_length]
  have HNO : Hid ((∀ qs, ¬ IsP (byt x) s B qs) → ∀ w', Below w.heap.size w w' → UnpPost x s B w (.returned (.tuple #[.slice none 0 0, .int .i64 2])) w') := hide (fun h w' hb => unp_no (Or.inr ⟨unhide h1, Or.inr ⟨⟨hB0, hB4⟩, Or.inl ⟨h, rfl, rfl⟩⟩⟩) hb)
  have HYE : Hid (∀ ps p q w', IsP (byt x) s B ps → PtsN w.heap.size w' p ps → ps.length ≤ q → q ≤ 9223372036854775807 → Below w.heap.size w w' → UnpPost x s B w (.returned (.tuple #[.slice p ps.length q, .int .i64 0])) w') := hide (fun ps p q w' h hp hq hq9 hb => ⟨0, p, q, ps, rfl, hp, hq, hq9, Or.inr ⟨unhide h1, Or.inr ⟨⟨hB0, hB4⟩, Or.inr ⟨h, rfl⟩⟩⟩, hb⟩)
  have HX1 : Hid (∀ i, i < s.length → (opn (byt x)).length < 6 * i + 6 → ∀ qs, ¬ IsP (byt x) s B qs) := hide (fun i hi h qs hq => by have := (hq.reads hi).2; omega)
  have HX2 : Hid (∀ i, i < s.length → gok (rg (opn (byt x)) i) = false → ∀ qs, ¬ IsP (byt x) s B qs) := hide (fun i hi h qs hq => by have := (hq.reads hi).1; rw [h] at this; cases this)
  have HX3 : Hid (∀ i, i < s.length → (opn (byt x)).length < 6 * s.length + cs s (rgv (opn (byt x)) s B) i + Bt (at0 (rgv (opn (byt x)) s B) i).toNat (at0 s i).toNat → ∀ qs, ¬ IsP (byt x) s B qs) := hide (fun i hi h qs hq => by have := (hq.ranks hi).2.2; omega)
  have HX4 : Hid (∀ i, i < s.length → V (at0 (rgv (opn (byt x)) s B) i).toNat (at0 s i).toNat ≤ rr (opn (byt x)) s (rgv (opn (byt x)) s B) i → ∀ qs, ¬ IsP (byt x) s B qs) := hide (fun i hi h qs hq => by have := (hq.ranks hi).2.1; omega)
  have HSM : Hid (∀ ps qs, ps.length = s.length → (∀ i, i < s.length → (prt ps i).1 = rg (opn (byt x)) i ∧ Rd (opn (byt x)) s (rgv (opn (byt x)) s B) i (prt ps i).2) → IsP (byt x) s B qs → ps = qs) := hide (fun ps qs h h' hq => hq.same h h')
  have HGV : Hid (given (rgs (opn (byt x)) s.length) s B = rgv (opn (byt x)) s B) := hide rfl
  have HGI := hide (given_is (gs := rgs (opn (byt x)) s.length) (B := B) hsz n8 hB0)
  have HRG : Hid (∀ i, num 0 (((opn (byt x)).drop (6 * i)).take 6) = rg (opn (byt x)) i) := hide (fun i => rfl)
  have HRR : Hid (∀ i, num 0 (((opn (byt x)).drop (6 * s.length + cs s (rgv (opn (byt x)) s B) i)).take (Bt (at0 (rgv (opn (byt x)) s B) i).toNat (at0 s i).toNat)) = rr (opn (byt x)) s (rgv (opn (byt x)) s B) i) := hide (fun i => rfl)
  obtain ⟨A, hA⟩ : ∃ A, opn (byt x) = A := ⟨_, rfl⟩
  rw [hA] at COP HBA hAN HX1 HX2 HX3 HX4 HSM HGV HGI HRG HRR
  rw [unhide HGV] at HGI
  have CPA := hide (fun p q ps W hp hs' hz => refPack p q ps b capb s B W hp hs' hz (by omega))
  unfold PackPost at CPA
  obtain ⟨N, hN⟩ : ∃ N, s.length = N := ⟨_, rfl⟩
  have HN := hide hN
  obtain ⟨SZ, hSZ⟩ : ∃ SZ, x.size = SZ := ⟨_, rfl⟩
  have hlen : ∀ W, (Builtin.len_ #[9] 3 #[.string x]).run Tryz.prog W = .ok (.int .i64 (SZ : Int)) W := fun W => by rw [run_len_string W 9 3 x Tryz.underlying9, hSZ]; rfl
  obtain ⟨TT, hTT⟩ : ∃ TT, total s = TT := ⟨_, rfl⟩
  rw [hTT] at CBA
  have CGV := hide (fun p q (ps : List Prt) W hp hr hl hg => refGiven p q ps b capb s B W hp hr (by omega) n8 hl HSZ hg hB0 hB4)
  rw [hN] at CBA CPA CGV HX1 HX2 HX3 HX4 HSM HGV HRR n0 n8 ⊢
  rw [hSZ] at hAN h50
  obtain ⟨AN, hANv⟩ : ∃ AN, A.length = AN := ⟨_, rfl⟩
  have HAN := hide hANv
  rw [hANv] at hAN HX1 HX3
  have hAN4 : AN ≤ 400 := by omega
  have d1 : decide (B < 0) = false := by simp; omega
  have d2 : decide (400 < B) = false := by simp; omega
  have d5 : decide ((50 : Int) < (SZ : Int)) = false := by simp; omega
  have HGL : Hid ((rgs A N).length = N) := hide (by unfold rgs; rw [upto_length])
  have HGA : Hid (∀ r, r < N → at0 (rgs A N) r = rg A r) := hide (fun r hr => by unfold rgs; exact upto_at _ hr)
  clear hA hN hSZ hTT hANv hAN hsz n32
  go_enter Tryz.func14, Tryz.ntmps14
  go_wp2_with fail
  refine (unhide CBA _ hs).mono ?_
  rintro e w1 ⟨rfl, hb1⟩
  clear CBA
  go_wp2_with fail
  refine (unhide COP w1).mono ?_
  clear COP
  rintro e w4 ⟨v4, rfl, k4, hb4⟩
  obtain ⟨p4, q4, rfl, r4, m4, m49⟩ := Ev.has_room k4
  rw [unhide HAN] at m4 ⊢
  have hB4 := Below.chain hb1 hb4
  clear k4 hb1 hb4
  go_wp2
  go_loopw [11, 12, 13] (fun v t i wr => ∃ j AT : Nat, j ≤ N ∧ i = .int .i64 j ∧ t = .int .i64 AT ∧ Hid (AT = 6 * j) ∧ AT ≤ 48 ∧ HasP wr w4.heap.size v (q0 (rgs A N) j) ∧ Hid (∀ r, r < j → gok (rg A r) = true) ∧ Below w4.heap.size w4 wr) (fun _ _ i _ => N - (intOf i).toNat)
  case atStart => exact ⟨0, 0, Nat.zero_le _, rfl, rfl, rfl, by omega, HasP.nil _ _, hide (fun r hr => by omega), Below.refl _ _⟩
  case round =>
    obtain ⟨j, AT, hj, rfl, rfl, HAT, hAT, hv, HG, hB⟩ := hrel
    have hBw := Below.chain hB4 hB
    by_cases hlt : j < N
    · obtain ⟨AQ, hAQ⟩ : ∃ AQ, AT + 6 = AQ := ⟨_, rfl⟩
      have wAQ : IntKind.i64.wrap ((AT : Int) + 6) = (AQ : Int) := by rw [← hAQ, Int.natCast_add]; exact IntWalk.i64_in _ (by omega)
      by_cases hex : AN < AQ
      · have dx : decide ((AN : Int) < (AQ : Int)) = true := by simp; omega
        have HP := hide (unhide HNO (unhide HX1 j hlt (by rw [← unhide HAT, hAQ]; exact hex)) wr hBw)
        clear HNO HX1 HX2 HX3 HX4 HSM HYE
        go_wp2
        go_ret2
        exact unhide HP
      · have dx : decide ((AN : Int) < (AQ : Int)) = false := by simp; omega
        obtain ⟨A6, hA6, r6⟩ := row_cut (r4.below hB) q4 (by rw [unhide HAN]; exact m4) (t := AT) (q := AQ) (by omega) (by rw [unhide HAN]; omega)
        have e6 : AQ - AT = 6 := by omega
        rw [e6] at hA6 r6
        rw [unhide HAN] at hA6
        have hl6 : ((A.drop AT).take 6).length = 6 := by rw [List.length_take, List.length_drop, unhide HAN]; omega
        have CNU := refNumber A6 (q4 - AT) ((A.drop AT).take 6) wr r6 (by rw [hl6]; omega) (hide (bit_take (bit_drop (unhide HBA) _) _))
        rw [hl6, unhide HAT, unhide HRG] at CNU
        rw [← unhide HAT] at CNU
        have HGJ := hide (unhide HGA j hlt)
        have HNG := hide (unhide HX2 j hlt)
        obtain ⟨G, hG⟩ : ∃ G, rg A j = G := ⟨_, rfl⟩
        have HGG := hide hG
        rw [hG] at CNU HGJ HNG
        have CVA := hide (fun W => refValue G W)
        have HST := hide (q0_step (gs := rgs A N) (k := j) (by rw [unhide HGL]; exact hlt))
        rw [unhide HGJ] at HST
        obtain ⟨VV, hVV⟩ : ∃ VV, vlN G = VV := ⟨_, rfl⟩
        rw [hVV] at CVA
        have hln : Hid ((q0 (rgs A N) j).length + 1 ≤ 1000000) := hide (by rw [q0_length (by rw [unhide HGL]; omega)]; omega)
        have hWs := hB.size
        clear hG hVV r6 hl6 e6
        cases hg : gok G with
        | false =>
          have HP := hide (unhide HNO (unhide HNG hg) wr hBw)
          rw [hg] at CVA
          clear HNO HX1 HX2 HX3 HX4 HSM HYE HNG hg
          go_wp2_with fail
          refine CNU.mono ?_
          clear CNU
          rintro e w5 ⟨rfl, rfl⟩
          go_wp2_with fail
          refine (unhide CVA _).mono ?_
          rintro e w6 ⟨rfl, hw6⟩
          obtain rfl := hw6
          go_wp2
          go_ret2
          exact unhide HP
        | true =>
          have HG2 : Hid (∀ r, r < j + 1 → gok (rg A r) = true) := hide (fun r hr => by
            by_cases e : r = j
            · rw [e, unhide HGG]; exact hg
            · exact unhide HG r (by omega))
          rw [hg] at CVA
          have HAT2 : Hid (AQ = 6 * (j + 1)) := hide (by rw [← hAQ, unhide HAT]; omega)
          have hAQ9 : AQ ≤ 48 := by have := unhide HAT; omega
          clear HNG hg HG hAQ
          go_wp2_with fail
          refine CNU.mono ?_
          clear CNU
          rintro e w5 ⟨rfl, hw5⟩
          obtain rfl : wr = w5 := hw5.symm
          go_wp2_with fail
          refine (unhide CVA _).mono ?_
          rintro e w6 ⟨rfl, hw6⟩
          obtain rfl : wr = w6 := hw6
          clear CVA
          go_wp2_with (at_builtin; refine wpList_appp _ rfl _ _ rfl w4.heap.size u11 (q0 (rgs A N) j) (G, .slice none 0 0) _ _ rfl (hv.alloc _) rfl rfl (by simp) (by simp) (unhide hln) (by simp; omega) ?_; intro s' w7 k7 g7 at7)
          have hB7 : Below w4.heap.size w4 w7 := hB.trans (((Below.refl _ wr).alloc hWs _).grown g7 (by simp; omega) (fun j e => (hv.lt j e).1))
          rw [← unhide HST] at k7
          clear hv hB g7 at7
          go_wp2
          go_roundw
          case rel => exact ⟨j + 1, AQ, by omega, by go_num, by first | rfl | go_num, HAT2, hAQ9, k7, HG2, hB7⟩
          case measure => simp [intOf]; omega
    · obtain rfl : N = j := by omega
      have HQL := hide (q0_length (gs := rgs A N) (k := N) (by rw [unhide HGL]; exact Nat.le_refl _))
      obtain ⟨g, c, rfl, hg1, hg2, -, -⟩ := hv.one (by rw [unhide HQL]; exact n0)
      obtain ⟨a5, c5, ee, pt5, -, -⟩ := hv.pts (ps := bare (rgs A N)) (by rw [bare_length, unhide HGL, unhide HQL]) (fun r hr => by
        rw [bare_length, unhide HGL] at hr
        rw [bare_at (by rw [unhide HGL]; exact hr)]
        exact ⟨_, q0_at hr (by rw [unhide HGL]; exact Nat.le_refl _), sli_nil _⟩)
      obtain ⟨ea, eb, ec⟩ := Value.slice.inj ee
      subst ea ec
      have CG := unhide CGV (some ⟨g, 0, none⟩) c (bare (rgs A N)) wr pt5 (hs.below hBw) (by rw [bare_length, unhide HGL]) (hide (fun i hi => by
        rw [bare_length, unhide HGL] at hi
        rw [bare_at (by rw [unhide HGL]; exact hi), unhide HGA i hi]
        exact unhide HG i hi))
      rw [bare_gns, bare_length, unhide HGL, unhide HGV] at CG
      rw [unhide HQL]
      have HA0 : Hid (∀ r, r < N → ∃ V, (q0 (rgs A N) N)[r]? = some (at0 (rgs A N) r, V)) := hide (fun r hr => ⟨_, q0_at hr (by rw [unhide HGL]; exact Nat.le_refl _)⟩)
      have HGVL : Hid ((rgv A s B).length = N) := hide (by rw [(unhide HGI).len, unhide HN])
      have HGP := hide (unhide HGI).pls
      have HCL : Hid (∀ j, j ≤ N → cs s (rgv A s B) j ≤ 15 * j) := hide (fun j hj => cs_le (unhide HSZ) (unhide HGP) (by rw [unhide HGVL, unhide HN]) (by rw [unhide HN]; exact hj))
      have HCS : Hid (∀ j, cs s (rgv A s B) (j + 1) = cs s (rgv A s B) j + Bt (at0 (rgv A s B) j).toNat (at0 s j).toNat) := hide (fun j => rfl)
      have HRDI : Hid (∀ j l, Is (at0 s j).toNat (at0 (rgv A s B) j).toNat (rr A s (rgv A s B) j) l → Rd A s (rgv A s B) j l) := hide (fun j l h => h)
      obtain ⟨gs, hgs⟩ : ∃ gs, rgs A N = gs := ⟨_, rfl⟩
      rw [hgs] at HA0 hv HQL HGL HGA
      obtain ⟨gv, hgv⟩ : ∃ gv, rgv A s B = gv := ⟨_, rfl⟩
      rw [hgv] at CG HGVL HGP HCL HCS HX3 HX4 HSM HRR HRDI
      obtain ⟨qs0, hqs⟩ : ∃ qs0, q0 gs N = qs0 := ⟨_, rfl⟩
      rw [hqs] at HA0 hv HQL
      rw [unhide HQL] at hv
      clear hgs hgv hqs ee eb pt5 HG HGI CGV HX1 HX2 HRG hj hlt
      go_wp2_with fail
      refine CG.mono ?_
      rintro e w7 ⟨v7, rfl, k7, hb7⟩
      clear CG
      obtain ⟨g7, c7, rfl, hg7, hg8, -, -⟩ := k7.one (by rw [unhide HGVL]; exact n0)
      rw [unhide HGVL] at k7 ⊢
      have hv7 := hv.below hb7
      have hB7 := hB.trans (hb7.mono hB.size)
      have h47 : w4.heap.size ≤ w7.heap.size := hB7.size
      have hgw : g < w7.heap.size := Nat.lt_of_lt_of_le hg2 hb7.size
      obtain ⟨n5, hn5⟩ : ∃ n5, wr.heap.size = n5 := ⟨_, rfl⟩
      rw [hn5] at k7 hg2 hg7
      clear hv hB hb7 hn5 hBw
      go_wp2
      go_loopw [12, 18] (fun t i wq => ∃ (j AT : Nat) (qs : List (Int × Value)), j ≤ N ∧ i = .int .i64 j ∧ t = .int .i64 AT ∧ Hid (AT = 6 * N + cs s gv j) ∧ HasP wq w4.heap.size (.slice (some ⟨g, 0, none⟩) N c) qs ∧ Hid (qs.length = N) ∧ Hid (∀ r, r < N → ∃ V, qs[r]? = some (at0 gs r, V)) ∧
          Hid (∀ r, r < j → ∃ V l, qs[r]? = some (at0 gs r, V) ∧ Has wq w7.heap.size V l ∧ Rd A s gv r l) ∧ Has wq n5 (.slice (some ⟨g7, 0, none⟩) N c7) gv ∧ Below w4.heap.size w4 wq ∧ w7.heap.size ≤ wq.heap.size) (fun _ i _ => N - (intOf i).toNat)
      case atStart => exact ⟨0, AT, qs0, Nat.zero_le _, rfl, rfl, hide (by rw [unhide HAT]; rfl), hv7, HQL, HA0, hide (fun r hr => by omega), k7, hB7, Nat.le_refl _⟩
      case round =>
        clear hv7 HQL HA0 k7 hB7 HAT hAT
        rename World => wq
        obtain ⟨j, AT, qs, hj, rfl, rfl, HAT, hS, HQ, HA, HD, hK, hB, hsq⟩ := hrel
        have hBw := Below.chain hB4 hB
        by_cases hlt : j < N
        · have hlts : j < s.length := by rw [unhide HN]; exact hlt
          have hltg : j < gv.length := by rw [unhide HGVL]; exact hlt
          obtain ⟨bs, offs, rfl, hbs, hcs⟩ := Bnd.cell_at (hs.below hBw) (by omega)
          have cx := hcs j hlts
          have ck := hK.get (j := j) hltg
          have hgk : g7 < wq.heap.size := (hK.lt g7 rfl).2
          have hsj := unhide HSZ j hlts
          have hgj := unhide HGP j hltg
          have hcl := unhide HCL j (by omega)
          obtain ⟨X, hX⟩ : ∃ X : Nat, at0 s j = X := ⟨(at0 s j).toNat, by omega⟩
          obtain ⟨K, hK'⟩ : ∃ K : Nat, at0 gv j = K := ⟨(at0 gv j).toNat, by omega⟩
          have eX : (at0 s j).toNat = X := by omega
          have eK : (at0 gv j).toNat = K := by omega
          have H3 := hide (unhide HX3 j hlt)
          have H4 := hide (unhide HX4 j hlt)
          have HRJ := hide (unhide HRR j)
          have HCJ := hide (unhide HCS j)
          have HDJ := hide (unhide HRDI j)
          rw [eX, eK] at H3 H4 HRJ HCJ HDJ
          rw [← unhide HAT] at H3 HRJ
          rw [hX] at cx hsj
          rw [hK'] at ck hgj
          have hX6 : X ≤ 6 := by omega
          have hK8 : K ≤ 8 := by omega
          have CCO : Hid (∀ W, Calls Tryz.prog 28 #[.int .i64 (X : Int), .int .i64 (K : Int)] W fun e w' => e = .returned (.int .i64 (V K X)) ∧ Below W.heap.size W w') := hide (fun W => refCount X K hX6 hK8 W)
          have hV9 := V_in K X (by omega) (by omega)
          have CBI : Hid (∀ W, Calls Tryz.prog 29 #[.int .i64 (V K X)] W fun e w' => e = .returned (.int .i64 (Bt K X : Int)) ∧ W = w') := hide (fun W => (refBits _ hV9.2 W).mono fun e w' ⟨b, he, hb, hw⟩ => ⟨by rw [he, hb.one (Bt_is hK8 hX6)], hw⟩)
          have hbt := Bt_le (k := K) (n := X) (by omega) (by omega)
          have CRW : Hid (∀ r W, 0 ≤ r → Hid (r < V K X) → _) := hide (fun (r : Int) W (h0 : 0 ≤ r) (h : Hid (r < V K X)) => refRow X K r W hX6 hK8 h0 h)
          obtain ⟨BT, hBT⟩ : ∃ BT, Bt K X = BT := ⟨_, rfl⟩
          rw [hBT] at H3 HRJ HCJ CBI hbt
          obtain ⟨VV, hVV⟩ : ∃ VV, V K X = VV := ⟨_, rfl⟩
          rw [hVV] at H4 CCO CBI CRW hV9
          have hAT9 : AT ≤ 200 := by have := unhide HAT; omega
          have X1 : ∀ W : Cls wq, W.val.cell? ⟨bs, offs + j, none⟩ = _ := fun W => W.cell hbs cx
          have X2 : ∀ W : Cls wq, W.val.cell? ⟨g7, j, none⟩ = _ := fun W => W.cell hgk ck
          obtain ⟨AQ, hAQ⟩ : ∃ AQ, AT + BT = AQ := ⟨_, rfl⟩
          have wAQ : IntKind.i64.wrap ((AT : Int) + (BT : Int)) = (AQ : Int) := by rw [← hAQ, Int.natCast_add]; exact IntWalk.i64_in _ (by omega)
          rw [hAQ] at H3
          have hji : (j : Int) < (N : Int) := by omega
          clear hcs hX hK' eX eK hBT hVV hlts hltg hcl
          go_upto_region 26 with fail
          refine region_calm (by kernel_rfl) (by kernel_rfl) ?_
          repeat (go_big_quiet_step ((go_at_call 28; exact calm_call (unhide CCO _))))
          refine wpQuiet_nil ?_
          intro _ hw'
          obtain ⟨WQ, hw''⟩ := hw'
          subst hw''
          have hS9 := hS.below WQ.ok
          have hK9 := hK.below WQ.ok
          have hB9 := hB.trans (WQ.ok.mono hB.size)
          have hD9 : Hid (∀ r, r < j → ∃ V l, qs[r]? = some (at0 gs r, V) ∧ Has WQ.val w7.heap.size V l ∧ Rd A s gv r l) := hide (fun r hr => by
            obtain ⟨V, l, h1, h2, h3⟩ := unhide HD r hr
            exact ⟨V, l, h1, h2.below WQ.ok, h3⟩)
          have hsq9 := Nat.le_trans hsq WQ.ok.size
          have cx9 := X1 WQ
          have ck9 := X2 WQ
          obtain ⟨w9, hw9⟩ : ∃ w9, WQ.val = w9 := ⟨_, rfl⟩
          rw [hw9] at hS9 hK9 hB9 hD9 hsq9 cx9 ck9 ⊢
          clear X1 X2 CCO hw9 hS hK hB HD hsq cx ck hBw hgk hbs
          have hBw := Below.chain hB4 hB9
          by_cases hex : AN < AQ
          · have dx : decide ((AN : Int) < (AQ : Int)) = true := by simp; omega
            have HP := hide (unhide HNO (unhide H3 hex) w9 hBw)
            clear HNO HX3 HX4 HSM HYE H3 H4
            go_wp2_with fail
            refine (unhide CBI _).mono ?_
            rintro e wa ⟨rfl, hwa⟩
            obtain rfl : w9 = wa := hwa
            go_wp2
            go_ret2
            exact unhide HP
          · have dx : decide ((AN : Int) < (AQ : Int)) = false := by simp; omega
            obtain ⟨A6, hA6, r6⟩ := row_cut (r4.below hB9) q4 (by rw [unhide HAN]; exact m4) (t := AT) (q := AQ) (by omega) (by rw [unhide HAN]; omega)
            have e6 : AQ - AT = BT := by omega
            rw [e6] at hA6 r6
            rw [unhide HAN] at hA6
            have hl6 : ((A.drop AT).take BT).length = BT := by rw [List.length_take, List.length_drop, unhide HAN]; omega
            have hbit := bit_take (bit_drop (unhide HBA) AT) BT
            have CNU := refNumber A6 (q4 - AT) ((A.drop AT).take BT) w9 r6 (by rw [hl6]; omega) (hide hbit)
            have hnn := (num_in hbit).1
            rw [unhide HRJ] at hnn
            rw [hl6, unhide HRJ] at CNU
            obtain ⟨RN, hRN⟩ : ∃ RN, rr A s gv j = RN := ⟨_, rfl⟩
            rw [hRN] at CNU hnn H4 HDJ
            have HAT2 : Hid (AQ = 6 * N + cs s gv (j + 1)) := hide (by rw [unhide HCJ, ← hAQ, unhide HAT]; omega)
            clear r6 hl6 hbit e6 hRN HRJ HCJ H3 hAQ
            by_cases hge : VV ≤ RN
            · have dv : decide (VV ≤ RN) = true := by simpa using hge
              have HP := hide (unhide HNO (unhide H4 hge) w9 hBw)
              clear HNO HX3 HX4 HSM HYE H4
              go_wp2_with fail
              refine (unhide CBI _).mono ?_
              rintro e wa ⟨rfl, hwa⟩
              obtain rfl : w9 = wa := hwa
              go_wp2_with fail
              refine CNU.mono ?_
              rintro e wa ⟨rfl, hwa⟩
              obtain rfl : w9 = wa := hwa.symm
              go_wp2
              go_ret2
              exact unhide HP
            · have dv : decide (VV ≤ RN) = false := by simpa using hge
              have CRO := hide (fun W => unhide CRW RN W hnn (hide (by omega)))
              obtain ⟨V0, hV0⟩ := unhide HA j hlt
              have hdr : Below w9.heap.size w9 w9.drew := ⟨rfl, rfl, rfl, Nat.le_refl _, fun _ _ => rfl⟩
              have hSd : HasP w9.drew w4.heap.size (.slice (some ⟨g, 0, none⟩) N c) qs := hS9
              have hgw9 : g < w9.heap.size := Nat.lt_of_lt_of_le hgw hsq9
              clear H4 CRW hge
              go_wp2_with fail
              refine (unhide CBI _).mono ?_
              rintro e wa ⟨rfl, hwa⟩
              obtain rfl : w9 = wa := hwa
              clear CBI
              go_wp2_with fail
              refine CNU.mono ?_
              rintro e wa ⟨rfl, hwa⟩
              obtain rfl : w9 = wa := hwa.symm
              clear CNU
              go_wp2
              go_region_with (
                go_at_call 30
                refine (unhide CRO _).mono ?_
                rintro e wb ⟨vb, lb, rfl, kb, HIb, hbb⟩
                obtain ⟨pa, na, ca, rfl⟩ := kb.shape
                have hSb := hSd.below hbb
                have fb := hSb.frozen (unhide HQ).symm (j * 2 + 1)
                obtain ⟨-, ob⟩ := hSb.get (unhide HQ).symm hV0)
              all_goals (
                have hbd := hdr.trans hbb
                have kb' : Has wb w9.heap.size (.slice pa na ca) lb := kb
                obtain ⟨m1, m2, m3⟩ := parts_put (P := fun r l => Rd A s gv r l) hS9 (unhide HQ) hlt hgw hsq9 (unhide HA) (unhide hD9) kb' (unhide HDJ lb (unhide HIb)) hbd
                have HQ2 : Hid ((qs.set j (at0 gs j, .slice pa na ca)).length = N) := hide (by rw [List.length_set]; exact unhide HQ)
                have hKb := (hK9.below hbd).kept (grownBy_setCellAt wb g (j * 2 + 1) (.slice pa na ca)) (Or.inr (by intro e; have e2 : g7 = g := Option.some.inj e; omega))
                have hBb := (hB9.trans (hbd.mono hB9.size)).setCell (p := ⟨g, j * 2 + 1, none⟩) hg1 (.slice pa na ca)
                have hsb : w7.heap.size ≤ (wb.setCell ⟨g, j * 2 + 1, none⟩ (.slice pa na ca)).heap.size := by simpa using Nat.le_trans hsq9 hbd.size
                have Q1 := hide m1
                have Q2 := hide m2
                have Q3 := hide m3
                have Q4 := hide hKb
                have Q5 := hide hBb
                have Q6 := hide hsb
                clear m1 m2 m3 hKb hBb hsb
                go_wp2
                go_roundw
                case rel => exact ⟨j + 1, AQ, _, by omega, by go_num, by first | rfl | go_num, HAT2, unhide Q1, HQ2, Q2, Q3, unhide Q4, unhide Q5, unhide Q6⟩
                case measure => simp [intOf]; omega)
        · obtain rfl : N = j := by omega
          have hnn : w4.heap.size ≤ w7.heap.size := h47
          obtain ⟨ps, y1, y2, aa, cc, ye, y3, y4, y5⟩ := parts_new hS hnn (by rw [unhide HQ, unhide HGL]) (fun r hr => unhide HD r (by rw [← unhide HGL]; exact hr))
          have HPN : Hid (ps.length = N) := hide (by rw [y1, unhide HGL])
          have HSQ : Hid (∀ qs, IsP (byt x) s B qs → ps = qs) := hide (fun qs hq => unhide HSM ps qs (unhide HPN) (fun i hi => by
            obtain ⟨z1, z2⟩ := y2 i (by rw [unhide HGL]; exact hi)
            exact ⟨by rw [z1, unhide HGA i hi], z2⟩) hq)
          have c8 := unhide CPA aa cc ps wq y3.pts (hs.below hBw) (by rw [unhide HPN]; omega)
          have HYP := hide (fun w' h h' => unhide HYE ps aa cc w' h h' y4 y5)
          obtain ⟨ea, eb, ec⟩ := Value.slice.inj ye
          rw [unhide HPN] at c8 HYP
          subst ea ec
          have P3 := hide y3
          clear HYE HSM HX3 HX4 HD HA HQ hS hK y1 y2 y3 y4 y5 ye eb CPA HRR HCS HCL HRDI
          go_wp2_with fail
          refine c8.mono ?_
          clear c8
          rintro e w8 ⟨E, rfl, HE, hb8⟩
          have hB8 := Below.chain hBw hb8
          by_cases hE : E = 0
          · subst hE
            rw [pstr_ok]
            have HBY : Hid (Byts (oct (pbits ps))) := hide (oct_in (pack_bit (frm_zero HE.zero.1).2.2.2))
            by_cases hx : str (oct (pbits ps)) = x
            · have hI : IsP (byt x) s B ps := by
                have h := HE.zero
                rw [← hx, byt_str (unhide HBY)]
                exact h
              have HP := hide (unhide HYP w8 hI (((unhide P3).below hb8).mono hB4.size) hB8)
              rw [hx]
              have hxx : (x.toList == x.toList) = true := by simp
              clear HYP HNO HSQ HE hI hx HBY
              go_wp2
              go_ret2
              exact unhide HP
            · have hxx := text_ne (unhide HBY) hx
              have HP := hide (unhide HNO (fun qs hq => hx (by
                obtain rfl := unhide HSQ qs hq
                rw [hq.2.2, str_byt])) w8 hB8)
              obtain ⟨Z, hZ⟩ : ∃ Z, str (oct (pbits ps)) = Z := ⟨_, rfl⟩
              rw [hZ] at hxx ⊢
              clear HYP HNO HSQ HE hx hZ HBY
              go_wp2
              go_ret2
              exact unhide HP
          · have hne : (E != 0) = true := by simpa using hE
            have HP := hide (unhide HNO (fun qs hq => hE (by
              obtain rfl := unhide HSQ qs hq
              exact HE.one hq.pck)) w8 hB8)
            obtain ⟨Z, hZ⟩ : ∃ Z, pstr ps E = Z := ⟨_, rfl⟩
            rw [hZ]
            clear HYP HNO HSQ HE hE hZ
            go_wp2
            go_ret2
            exact unhide HP

set_option maxRecDepth 100000 in
set_option maxHeartbeats 4000000 in
theorem refUnpack (x : ByteArray) (b : Option Addr) (capb : Nat) (s : List Int) (B : Int) (w : World) (zx : x.size ≤ 9223372036854775807) (hs : Row w b s) (zs : s.length ≤ 9223372036854775807) :
    Calls Tryz.prog 14 #[.string x, .slice b s.length capb, .int .i64 B] w fun e w' => UnpPost x s B w e w' := by
  obtain ⟨SZ, hSZ⟩ : ∃ SZ, x.size = SZ := ⟨_, rfl⟩
  have hlen : ∀ W, (Builtin.len_ #[9] 3 #[.string x]).run Tryz.prog W = .ok (.int .i64 (SZ : Int)) W := fun W => by rw [run_len_string W 9 3 x Tryz.underlying9, hSZ]; rfl
  by_cases h1 : bf s = 0
  · by_cases hB : 0 ≤ B ∧ B ≤ 400
    · by_cases h50 : x.size ≤ 50
      · exact refUnpack_ok x b capb s B w h50 hs (hide h1) hB.1 hB.2
      · have CBA := refBands_ok b capb s w zs hs (hide h1)
        have HP : Hid (∀ w', Below w.heap.size w w' → UnpPost x s B w (.returned (.tuple #[.slice none 0 0, .int .i64 2])) w') := hide (fun w' hb => unp_no (Or.inr ⟨h1, Or.inr ⟨hB, Or.inl ⟨fun qs hq => h50 (by have := hq.long; rw [byt_length] at this; exact this), rfl, rfl⟩⟩⟩) hb)
        rw [hSZ] at h50 zx
        obtain ⟨TT, hTT⟩ : ∃ TT, total s = TT := ⟨_, rfl⟩
        obtain ⟨N, hN⟩ : ∃ N, s.length = N := ⟨_, rfl⟩
        rw [hTT] at CBA
        rw [hN] at CBA ⊢
        obtain ⟨hB0, hB4⟩ := hB
        have d1 : decide (B < 0) = false := by simp; omega
        have d2 : decide (400 < B) = false := by simp; omega
        have d5 : decide ((50 : Int) < (SZ : Int)) = true := by simp; omega
        clear hTT hN h1 hSZ
        go_enter Tryz.func14, Tryz.ntmps14
        go_wp2_with fail
        refine CBA.mono ?_
        rintro e w1 ⟨rfl, hb1⟩
        go_wp2
        go_ret2
        exact unhide HP w1 hb1
    · have CBA := refBands_ok b capb s w zs hs (hide h1)
      have HP : Hid (∀ w', Below w.heap.size w w' → UnpPost x s B w (.returned (.tuple #[.slice none 0 0, .int .i64 1])) w') := hide (fun w' hb => unp_no (Or.inr ⟨h1, Or.inl ⟨hB, rfl, rfl⟩⟩) hb)
      obtain ⟨TT, hTT⟩ : ∃ TT, total s = TT := ⟨_, rfl⟩
      obtain ⟨N, hN⟩ : ∃ N, s.length = N := ⟨_, rfl⟩
      rw [hTT] at CBA
      rw [hN] at CBA ⊢
      clear hTT hN h1 hSZ
      by_cases hb0 : B < 0
      · have d1 : decide (B < 0) = true := by simpa using hb0
        go_enter Tryz.func14, Tryz.ntmps14
        go_wp2_with fail
        refine CBA.mono ?_
        rintro e w1 ⟨rfl, hb1⟩
        go_wp2
        go_ret2
        exact unhide HP w1 hb1
      · have d1 : decide (B < 0) = false := by simpa using hb0
        have d2 : decide (400 < B) = true := by simp; omega
        go_enter Tryz.func14, Tryz.ntmps14
        go_wp2_with fail
        refine CBA.mono ?_
        rintro e w1 ⟨rfl, hb1⟩
        go_wp2
        go_ret2
        exact unhide HP w1 hb1
  · have CBA := refBands_no b capb s w zs hs (hide h1)
    have HP : Hid (∀ w', Below w.heap.size w w' → UnpPost x s B w (.returned (.tuple #[.slice none 0 0, .int .i64 (bf s)])) w') := hide (fun w' hb => unp_no (Or.inl ⟨h1, rfl, rfl⟩) hb)
    obtain ⟨N, hN⟩ : ∃ N, s.length = N := ⟨_, rfl⟩
    obtain ⟨F, hF⟩ : ∃ F, bf s = F := ⟨_, rfl⟩
    rw [hN] at CBA ⊢
    rw [hF] at CBA HP h1
    have hne : (F != 0) = true := by simpa using h1
    clear hN hF h1 hSZ
    go_enter Tryz.func14, Tryz.ntmps14
    go_wp2_with fail
    refine CBA.mono ?_
    rintro e w1 ⟨rfl, hb1⟩
    go_wp2
    go_ret2
    exact unhide HP w1 hb1

end Go.Proofs.YtjojeifoddonnakGreatDoor.Pck
