/-
  It is proved that horntop.TopBudget returns true for all samples, sizes and tanks: what a frame costs that was made of as many bits as may go goes, and its pulses are just those that its gains give it. No condition but the form's own reach.
-/
import Derived.Test.YthkibjhhlcfceaiCh07
import Derived.Test.YthkibjhhlcfceaiCh25
import Derived.Test.YthkibjhhlcfceaiCh26
import Derived.Test.YthkibjhhlcfceaiCh41
import Derived.Test.YthkibjhhlcfceaiCh40
import Derived.Test.YthkibjhhlcfceaiCh22
import Derived.Test.YthkibjhhlcfceaiCh18
import Derived.Test.YthkibjhhlcfceaiCh37
namespace Go.Proofs.Ythkibjhhlcfceai.TopBudgetLaw
open Go.ChangeShapes Go.WideShapes Go.ChangeAt Go.RowKit
open Go.Proofs.Ythkibjhhlcfceai.Tre Go.Proofs.Ythkibjhhlcfceai.Bnd Go.Proofs.Ythkibjhhlcfceai.Frm Go.Proofs.Ythkibjhhlcfceai.Tnk Go.Proofs.Ythkibjhhlcfceai.Ev Go.Proofs.Ythkibjhhlcfceai.Same
set_option linter.unusedVariables false

set_option maxRecDepth 100000 in
set_option maxHeartbeats 16000000 in
theorem walk0 (a0 : Option Addr) (cap0 : Nat) (l : List Int) (a1 : Option Addr) (cap1 : Nat) (s : List Int) (S E H : Int) (w : World) (hr0 : Row w a0 l) (zl : l.length ≤ 17592186044416) (hr1 : Row w a1 s) (zs : s.length ≤ 17592186044416) :
    Calls Try.prog 4 #[.slice a0 l.length cap0, .slice a1 s.length cap1, .agg #[.int .i64 S, .int .i64 E, .int .i64 H]] w fun e w' => e = .returned (.bool true) ∧ Below w.heap.size w w' := by
  have hgd := guard_err
  have hne := neq_err
  obtain ⟨W0, hW0⟩ : ∃ W0, w.alloc (.cells #[.int .i64 S, .int .i64 E, .int .i64 H] 42) = W0 := ⟨_, rfl⟩
  have hb0 : Below w.heap.size w W0 := by rw [← hW0]; exact (Below.refl _ _).alloc (Nat.le_refl _) _
  have t0 : Tk W0 w.heap.size S E H := by rw [← hW0]; exact Tk.new w S E H
  have CMA := hide (fun W => mayG S E H W)
  obtain ⟨L, hL⟩ : ∃ L, l.length = L := ⟨_, rfl⟩
  have HL := hide hL
  obtain ⟨N, hN⟩ : ∃ N, s.length = N := ⟨_, rfl⟩
  have HN := hide hN
  by_cases hF : tankF S E H = 0
  · have hok : Ok S E H := by
      unfold tankF at hF
      split at hF
      · assumption
      · omega
    obtain ⟨m0, m1⟩ := may_in hok
    have hS := hok.2.1
    have hmn : mayN S E H = may S E H := by unfold mayN; rw [if_pos hF]
    rw [hF, hmn, errV_zero] at CMA
    have CTU := hide (fun (c : Int) (h0 : 0 ≤ c) (h1 : c ≤ may S E H) W => (turn S E H c W).mono fun e w' h => (show e = .returned (.tuple #[.agg #[.int .i64 S, .int .i64 E, .int .i64 (may S E H - c)], .nilIface]) ∧ Below W.heap.size W w' from by
      have ht : turnF S E H c = 0 := turnF_zero.2 ⟨hok, h0, by omega, h1⟩
      have h2 := h
      unfold tS tE tH at h2
      rw [if_pos ht, if_pos ht, if_pos ht, ht, errV_zero] at h2
      exact h2))
    have CEN := hide (fun W h h' => Frm.encode a0 cap0 l a1 cap1 s (may S E H) W h h' (by omega) zs)
    unfold EncSays at CEN
    obtain ⟨M, hM⟩ : ∃ M, may S E H = M := ⟨_, rfl⟩
    rw [hM] at CMA CTU CEN m0 m1
    rw [hL, hN] at CEN ⊢
    clear hL hN hF hmn hM hok
    by_cases h400 : 400 < M
    · have d4 : decide (400 < M) = true := by simpa using h400
      go_enter Try.func4, Try.ntmps4
      go_wp2_with fail
      refine (Top.one_ok _).mono ?_
      rintro e w1 ⟨rfl, hb1⟩
      have t1 := t0.below hb1 t0.lt
      have q0 := t1.c0
      have q1 := t1.c1
      have q2 := t1.c2
      go_wp2_with fail
      refine (unhide CMA _).mono ?_
      rintro e w2 ⟨rfl, hb2⟩
      go_wp2
      go_ret
      exact ⟨rfl, Below.chain hb0 (Below.chain hb1 hb2)⟩
    · have d4 : decide (400 < M) = false := by simpa using h400
      have hM4 : M ≤ 400 := by omega
      by_cases hEF : encF l s M = 0
      · have h1 := (encF_zero.1 hEF).1
        obtain ⟨n0, n8, hsz, n32⟩ := bf_ok h1
        have HRT : Hid (∀ ps, EncL l s M ps → Right s M ps) := hide (fun ps h => by
          rcases h with ⟨h, _⟩ | ⟨_, h⟩
          · exact absurd hEF h
          · exact made_right hEF h)
        have HCO : Hid (∀ ps, Right s M ps → (lds ps = given (gns ps) s M ∧ Shr.costF s (lds ps) = 0 ∧ (Shr.cost s (lds ps) : Int) ≤ M)) := hide (fun ps h => h.costs h1 m0)
        have HGV : Hid (∀ ps, Right s M ps → (Shr.ofF s (vals (gns ps)) M = 0 ∧ Shr.share s (vals (gns ps)) M = lds ps)) := hide (fun ps h => h.gives h1 m0 hM4)
        rw [hEF, errV_zero] at CEN
        rw [unhide HN] at n0 n8
        clear hEF h1 hsz n32 h400 zl zs
        go_enter Try.func4, Try.ntmps4
        go_wp2_with fail
        refine (Top.one_ok _).mono ?_
        rintro e w1 ⟨rfl, hb1⟩
        have t1 := t0.below hb1 t0.lt
        have q0 := t1.c0
        have q1 := t1.c1
        have q2 := t1.c2
        go_wp2_with fail
        refine (unhide CMA _).mono ?_
        rintro e w2 ⟨rfl, hb2⟩
        have t2 := t1.below hb2 t1.lt
        have hB2 := Below.chain hb0 (Below.chain hb1 hb2)
        clear t0 t1 hb0 hb1 hb2 q0 q1 q2 hW0 CMA
        go_wp2_with fail
        refine (unhide CEN _ (hr0.below hB2) (hr1.below hB2)).mono ?_
        rintro e w3 ⟨p3, q3, ps, rfl, P3, m3, m9, L3, hb3⟩
        have R3 := unhide HRT ps L3
        obtain ⟨c1, c2, c3⟩ := unhide HCO ps R3
        obtain ⟨v1, v2⟩ := unhide HGV ps R3
        have t3 := t2.below hb3 t2.lt
        have hB3 := Below.chain hB2 hb3
        have HPN : Hid (ps.length = N) := hide (R3.len.trans (unhide HN))
        have HOK := hide R3.ok
        rw [unhide HPN] at m3 ⊢
        have HC1 := hide c2
        have HC3 := hide c3
        have HV1 := hide v1
        have HV2 := hide v2
        clear CEN HRT HCO HGV R3 L3 c1 c2 c3 v1 v2 t2 hB2 hb3
        go_wp2
        go_loopw [11, 12, 13] (fun k v i wr => ∃ j : Nat, j ≤ N ∧ i = .int .i64 j ∧ Has wr w3.heap.size k (lds (ps.take j)) ∧ Has wr w3.heap.size v (vals (gns (ps.take j))) ∧ Off k v ∧ Below w3.heap.size w3 wr) (fun _ _ i _ => N - (intOf i).toNat)
        case atStart => exact ⟨0, Nat.zero_le _, rfl, Has.nil _ _, Has.nil _ _, off_nil _, Below.refl _ _⟩
        case round =>
          obtain ⟨j, hj, rfl, hk, hv, hof, hB⟩ := hrel
          by_cases hlt : j < N
          · have hlt1 : j < ps.length := by rw [unhide HPN]; exact hlt
            obtain ⟨b1, off1, rfl, hb1, hc1⟩ := (P3.below hB).at hlt1
            obtain ⟨x1, A, C, x2, x3, x4, x5, x6⟩ := hc1 j hlt1
            obtain ⟨o1, o2⟩ := unhide HOK j hlt1
            obtain ⟨y1, y2, y3⟩ := gok_is o1
            have CP := Pls.check_ok A C (prt ps j).2 wr x6 (hide o2)
            have HK1 := hide (lds_step hlt1)
            have HV3 := hide (vals_step hlt1)
            obtain ⟨G, hG⟩ : ∃ G : Nat, (prt ps j).1 = G := ⟨(prt ps j).1.toNat, by omega⟩
            have eG : ((prt ps j).1).toNat = G := by omega
            rw [eG] at HV3 y3
            rw [hG] at x1 y1 y2
            have CG := hide (fun W => Gai.value_ok G (by omega) (hide y3) W)
            have hvl := (Gai.vo_is y3).1
            obtain ⟨X, hX⟩ : ∃ X, Pls.loud (prt ps j).2 = X := ⟨_, rfl⟩
            obtain ⟨Y, hY⟩ : ∃ Y, Gai.vl G = Y := ⟨_, rfl⟩
            obtain ⟨LL, hLL⟩ : ∃ LL, (prt ps j).2.length = LL := ⟨_, rfl⟩
            rw [hX] at CP HK1
            rw [hY] at CG HV3 hvl
            rw [hLL] at x2 CP
            have hln1 : Hid ((lds (ps.take j)).length + [(X : Int)].length ≤ 1000000) := hide (by rw [lds_length, List.length_take, unhide HPN]; simp; omega)
            have hln2 : Hid ((vals (gns (ps.take j))).length + [(Y : Int)].length ≤ 1000000) := hide (by rw [vals_length, gns_length, List.length_take, unhide HPN]; simp; omega)
            clear hc1 hG eG hX hY hLL o1 o2 y1 y2 y3 x3 x4 x5 x6 hlt1
            go_wp2_with fail
            refine CP.mono ?_
            rintro e w4 ⟨rfl, hb4⟩
            have x1' := (hb4.cell (p := ⟨b1, off1 + j * 2, none⟩) hb1).trans x1
            have hk4 := hk.below hb4
            have hv4 := hv.below hb4
            have hB4 := Below.chain hB hb4
            clear CP hB hb4 x1 x2 hk hv
            go_wp2_with fail
            refine (unhide CG w4).mono ?_
            rintro e w5 ⟨rfl, rfl⟩
            have hWs := hB4.size
            clear CG
            go_wp2_with (first
              | (at_builtin
                 refine wpList_app _ rfl _ _ rfl w3.heap.size u11 (lds (ps.take j)) [(X : Int)] _ _ rfl (hk4.alloc _) rfl (row_one _ _ _) (unhide hln1) (by simp; omega) ?_
                 intro s6 w6 k6 g6 at6
                 obtain ⟨e1, e2⟩ := stepped_plain hk4 hWs k6 g6 at6
                 obtain ⟨hv6, hof6⟩ := e2 _ _ hv4 hof.symm
                 have hB6 := hB4.trans e1
                 have hWs6 := hB6.size
                 clear hk4 hv4 hB4 e1 e2 g6 at6 hWs)
              | (at_builtin
                 refine wpList_app _ rfl _ _ rfl w3.heap.size u12 (vals (gns (ps.take j))) [(Y : Int)] _ _ rfl (hv6.alloc _) rfl (row_one _ _ _) (unhide hln2) (by simp; omega) ?_
                 intro s7 w7 k7 g7 at7
                 obtain ⟨e1, e2⟩ := stepped_plain hv6 hWs6 k7 g7 at7
                 obtain ⟨hk7, hof7⟩ := e2 _ _ k6 hof6.symm
                 have hB7 := hB6.trans e1
                 clear hv6 hB6 e1 e2 g7 at7 hWs6 k6))
            rw [← unhide HK1] at hk7
            rw [← unhide HV3] at k7
            go_wp2
            go_roundw
            case rel => exact ⟨j + 1, by omega, by go_num, hk7, k7, hof7, hB7⟩
            case measure => simp [intOf]; omega
          · obtain rfl : j = N := by omega
            have eT : ps.take j = ps := by rw [← unhide HPN, List.take_length]
            rw [eT] at hk hv
            have hBw := Below.chain hB3 hB
            have t4 := t3.below hB t3.lt
            obtain ⟨pk, qk, rfl, rk⟩ := hk.row
            obtain ⟨pv, qv, rfl, rv⟩ := hv.row
            have CC := Shr.cost_ok a1 cap1 s pk qk (lds ps) wr (hr1.below hBw) rk HC1
            have CO := hide (fun W h h' => Shr.of_ok a1 cap1 s pv qv (vals (gns ps)) M W h h' HV1)
            rw [unhide HV2] at CO
            rw [vals_length, gns_length, unhide HPN, unhide HN] at CO
            rw [lds_length, unhide HPN, unhide HN] at CC
            rw [vals_length, gns_length, lds_length, unhide HPN]
            have CT := hide (fun W => unhide CTU _ (by omega) (unhide HC3) W)
            have CI := hide (fun p q W h h' => ints_same p q pk qk (lds ps) W (by rw [lds_length, unhide HPN]; omega) h h')
            rw [lds_length, unhide HPN] at CI
            have hc9 := unhide HC3
            have HLL : Hid ((lds ps).length = j) := hide (by rw [lds_length, unhide HPN])
            obtain ⟨LP, hLP⟩ : ∃ LP, lds ps = LP := ⟨_, rfl⟩
            rw [hLP] at CI CO CC CT rk hc9 HLL
            obtain ⟨CST, hCS⟩ : ∃ CS, Shr.cost s LP = CS := ⟨_, rfl⟩
            rw [hCS] at CC CT hc9
            have wM : IntKind.i64.wrap (M - (CST : Int)) = M - (CST : Int) := IntWalk.i64_in _ (by omega)
            have hMM : ((M - (CST : Int)) == (M - (CST : Int))) = true := by simp
            clear hLP hCS hk hv hof hB hB3 t3 CTU HC1 HC3 HV1 HV2 HOK eT
            go_wp2_with fail
            refine CC.mono ?_
            rintro e w5 ⟨rfl, hb5⟩
            have hB5 := Below.chain hBw hb5
            have t5 := t4.below hb5 t4.lt
            have rk5 := rk.below hb5
            have rv5 := rv.below hb5
            clear CC hb5 hBw t4 rk rv
            go_wp2_with fail
            refine (unhide CO w5 (hr1.below hB5) rv5).mono ?_
            rintro e w6 ⟨v6, rfl, k6, hb6⟩
            obtain ⟨p6, q6, rfl, r6⟩ := k6.row
            have hB6 := Below.chain hB5 hb6
            have t6 := t5.below hb6 t5.lt
            have rk6 := rk5.below hb6
            rw [unhide HLL] at *
            clear CO k6 hb6 hB5 t5 rk5 rv5
            have q0 := t6.c0
            have q1 := t6.c1
            have q2 := t6.c2
            go_wp2_with fail
            refine (unhide CT w6).mono ?_
            rintro e w7 ⟨rfl, hb7⟩
            have hB7 := Below.chain hB6 hb7
            have rk7 := rk6.below hb7
            have r7 := r6.below hb7
            clear CT q0 q1 q2 t6 hB6 hb7 rk6 r6
            obtain ⟨W8, hW8⟩ : ∃ W, w7.alloc (.cells #[.int .i64 S, .int .i64 E, .int .i64 (M - (CST : Int))] 42) = W := ⟨_, rfl⟩
            have hb8 : Below w7.heap.size w7 W8 := by rw [← hW8]; exact (Below.refl _ _).alloc (Nat.le_refl _) _
            have x8 : Tk W8 w7.heap.size S E (M - (CST : Int)) := by rw [← hW8]; exact Tk.new _ _ _ _
            have hB8 := Below.chain hB7 hb8
            go_wp2_with fail
            refine (unhide CI p6 q6 W8 (r7.below hb8) (rk7.below hb8)).mono ?_
            rintro e w9 ⟨rfl, hb9⟩
            have x9 := (x8.below hb9 x8.lt).c2
            have hB9 := Below.chain hB8 hb9
            clear CI hb9 hB8 hb8 hW8 x8 r7 rk7
            go_wp2
            go_ret
            exact ⟨rfl, hB9⟩
      · have dE : decide (encF l s M ≠ 0) = true := by simpa using hEF
        obtain ⟨EF, hE2⟩ : ∃ EF, encF l s M = EF := ⟨_, rfl⟩
        rw [hE2] at CEN dE
        clear hEF hE2 zl zs
        go_enter Try.func4, Try.ntmps4
        go_wp2_with fail
        refine (Top.one_ok _).mono ?_
        rintro e w1 ⟨rfl, hb1⟩
        have t1 := t0.below hb1 t0.lt
        have q0 := t1.c0
        have q1 := t1.c1
        have q2 := t1.c2
        go_wp2_with fail
        refine (unhide CMA _).mono ?_
        rintro e w2 ⟨rfl, hb2⟩
        have hB2 := Below.chain hb0 (Below.chain hb1 hb2)
        clear t0 t1 hb0 hb1 hb2 q0 q1 q2 hW0 CMA
        go_wp2_with fail
        refine (unhide CEN _ (hr0.below hB2) (hr1.below hB2)).mono ?_
        rintro e w3 ⟨p3, q3, ps, rfl, P3, m3, m9, L3, hb3⟩
        obtain ⟨PL, hPL⟩ : ∃ PL, ps.length = PL := ⟨_, rfl⟩
        rw [hPL]
        clear hPL
        go_wp2
        go_ret
        exact ⟨rfl, Below.chain hB2 hb3⟩
  · have dF : decide (tankF S E H ≠ 0) = true := by simpa using hF
    obtain ⟨F, hF2⟩ : ∃ F, tankF S E H = F := ⟨_, rfl⟩
    obtain ⟨MN, hMN⟩ : ∃ F, mayN S E H = F := ⟨_, rfl⟩
    rw [hF2, hMN] at CMA
    rw [hF2] at dF
    rw [hL, hN]
    clear hF hF2 hMN hL hN zl zs
    go_enter Try.func4, Try.ntmps4
    go_wp2_with fail
    refine (Top.one_ok _).mono ?_
    rintro e w1 ⟨rfl, hb1⟩
    have t1 := t0.below hb1 t0.lt
    have q0 := t1.c0
    have q1 := t1.c1
    have q2 := t1.c2
    go_wp2_with fail
    refine (unhide CMA _).mono ?_
    rintro e w2 ⟨rfl, hb2⟩
    go_wp2
    go_ret
    exact ⟨rfl, Below.chain hb0 (Below.chain hb1 hb2)⟩

theorem walk (a0 : Option Addr) (cap0 : Nat) (l : List Int) (a1 : Option Addr) (cap1 : Nat) (s : List Int) (x y z : Int) (w : World) (hr0 : Row w a0 l) (hw0 : ∀ n ∈ l, (Lit.int .i64 n).wf = true) (hz0 : l.length * 8 ≤ 140737488351232)
    (hr1 : Row w a1 s) (hw1 : ∀ n ∈ s, (Lit.int .i64 n).wf = true) (hz1 : s.length * 8 ≤ 140737488351232) (hx : (Lit.int .i64 x).wf = true) (hy : (Lit.int .i64 y).wf = true) (hz : (Lit.int .i64 z).wf = true) :
    Calls Try.prog 4 #[.slice a0 l.length cap0, .slice a1 s.length cap1, .agg #[.int .i64 x, .int .i64 y, .int .i64 z]] w fun e w' => e = .returned (.bool true) ∧ Below w.heap.size w w' :=
  walk0 a0 cap0 l a1 cap1 s x y z w hr0 (by omega) hr1 (by omega)

set_option maxRecDepth 100000 in
theorem lifted (os : Os) (started : os.Started) (H : Type) (enc : TypeId × Value → H) :
    ReturnsInHanded {} Try.checked os 4 .any (Rows.topBudgetSpec.pre6 enc Try.prog Try.f4 Rows.topBudgetRow.domain false) (Rows.topBudgetSpec.post enc Try.prog Try.f4 false true false false) := by
  refine returnsInHanded_of_change_sized (C := Try.checked) own started (by kernel_rfl) Try.func4
    (ChangeSpec.witness6 (enc := enc) (C := Try.checked) false ⟨#[], #[.slice none 0 0, .slice none 0 0, .agg #[.int .i64 0, .int .i64 0, .int .i64 0]], []⟩ 8 (by kernel_rfl) (by kernel_rfl) (by kernel_rfl) (by kernel_rfl)) ?_
  intro W base args ds gs before hval0 hW hcnd hsz0 _
  have hsz : (DataW.weightsEach Try.prog (Try.f4.params.toList ++ Rows.topBudgetSpec.plain.varTypes Try.prog) (ds ++ gs)).all (· ≤ reachBytes) = true := hsz0
  have hval : ∀ (j : Nat) t v, Try.f4.params[j]? = some t → args[j]? = some v → Value.okWide Try.prog W .any base t v := hval0
  have hW' := hW
  obtain ⟨p, q, hA0, hV, rfl, hfz, hnd⟩ := hW
  have hA : DataW.TrodAll enc Try.prog W 0 (fun _ => true) true Try.f4.params.toList args.toList ds p := hA0
  rw [Try.params4] at hA hval hsz
  obtain ⟨v0, vs0, d0, ds0, p0, q0, hargs, rfl, rfl, h0, r0⟩ := trodAll_cons hA
  obtain ⟨v1, vs1, d1, ds1, p1, q1, rfl, rfl, rfl, h1, r1⟩ := trodAll_cons r0
  obtain ⟨v2, vs2, d2, ds2, p2, q2, rfl, rfl, rfl, h2, r2⟩ := trodAll_cons r1
  obtain ⟨rfl, rfl, rfl⟩ := trodAll_nil r2
  obtain rfl : args = #[v0, v1, v2] := by cases args; simp_all
  obtain ⟨rfl, rfl⟩ := trodVars_none hV
  obtain ⟨a0, len0, cap0, rfl⟩ := okWide_slice Try.underlying23 (hval 0 23 v0 rfl rfl)
  have k0 := h0
  have lt0 : ∀ x ∈ p0, x.block < W.heap.size := by obtain ⟨m, hm⟩ := k0; exact DataW.trod_lt m _ _ _ hm
  obtain ⟨l0, hlen0, hr0, hw0, hz0⟩ := open_row h0 (fun e s hd => sized_slice hsz (j := 0) (t := 23) (e := 3) rfl (by rw [hd]; rfl) Try.underlying23)
  subst hlen0
  obtain ⟨a1, len1, cap1, rfl⟩ := okWide_slice Try.underlying23 (hval 1 23 v1 rfl rfl)
  have k1 := h1
  have lt1 : ∀ x ∈ p1, x.block < W.heap.size := by obtain ⟨m, hm⟩ := k1; exact DataW.trod_lt m _ _ _ hm
  obtain ⟨l1, hlen1, hr1, hw1, hz1⟩ := open_row h1 (fun e s hd => sized_slice hsz (j := 1) (t := 23) (e := 3) rfl (by rw [hd]; rfl) Try.underlying23)
  subst hlen1
  obtain ⟨x2, y2, z2, rfl, rfl, rfl, hx2, hy2, hz2⟩ := open_tank (hval 2 42 v2 rfl rfl) h2
  clear hA0 hval0 hsz0
  refine (walk a0 cap0 l0 a1 cap1 l1 x2 y2 z2 W hr0 hw0 hz0 hr1 hw1 hz1 hx2 hy2 hz2).mono fun e W' ⟨he, bel⟩ => ?_
  subst he
  exact ⟨_, rfl, _, _, _, [], _, [], hW', trodAll_mk1 (shut_bool Try.underlying4 _), (trodAll_cons_mk (Below.trod laidOut (by kernel_rfl) (of_decide_eq_true (by kernel_rfl)) k0 bel lt0) (trodAll_cons_mk (Below.trod laidOut (by kernel_rfl) (of_decide_eq_true (by kernel_rfl)) k1 bel lt1) (trodAll_cons_mk (shut_tank hx2 hy2 hz2) trodAll_mk0))), rfl, bel.frame _, fun h => by cases h⟩
end Go.Proofs.Ythkibjhhlcfceai.TopBudgetLaw
namespace Go.Proofs.Ythkibjhhlcfceai
open Go.ChangeShapes Go.WideShapes Go.ChangeAt Go.RowKit

theorem topBudget_holds : Rows.TopBudgetSaid :=
  OpenClaim.holds_of_wide 4 Try.f4 rfl rfl rfl rfl rfl rfl rfl ⟨rfl, rfl, rfl, rfl, rfl⟩ rfl rfl rfl rfl rfl (by kernel_rfl) Try.func4 (by kernel_rfl)
    (of_decide_eq_true (by kernel_rfl)) (by unfold Func.isWrapper; first | (rw [if_pos (by decide +kernel)]; kernel_rfl) | (rw [if_neg (by decide +kernel)]; exact ⟨rfl, rfl⟩))
    (fun os started H enc _ => TopBudgetLaw.lifted os started H enc)
end Go.Proofs.Ythkibjhhlcfceai
