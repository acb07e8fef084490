/-
  It is proved that horntop.TopRanks returns true for all lists of samples, all sizes and every number of bits: gains of frames, learnt, are said as bytes, and come back, in no more bytes than told. No condition but the form's own reach.
-/
import Derived.Test.YthkibjhhlcfceaiCh07
import Derived.Test.YthkibjhhlcfceaiCh25
import Derived.Test.YthkibjhhlcfceaiCh26
import Derived.Test.YthkibjhhlcfceaiCh28
import Derived.Test.YthkibjhhlcfceaiCh31
import Derived.Test.YthkibjhhlcfceaiCh32
import Derived.Test.YthkibjhhlcfceaiCh35
import Derived.Test.YthkibjhhlcfceaiCh36
import Derived.Test.YthkibjhhlcfceaiCh37
import Derived.Test.YthkibjhhlcfceaiCh38
namespace Go.Proofs.Ythkibjhhlcfceai.TopRanksLaw
open Go.ChangeShapes Go.WideShapes Go.ChangeAt Go.RowKit
open Go.Proofs.Ythkibjhhlcfceai.Tre Go.Proofs.Ythkibjhhlcfceai.Bnd Go.Proofs.Ythkibjhhlcfceai.Frm Go.Proofs.Ythkibjhhlcfceai.Ev Go.Proofs.Ythkibjhhlcfceai.Same Go.Proofs.Ythkibjhhlcfceai.Scl Go.Proofs.Ythkibjhhlcfceai.Hrn Go.Proofs.Ythkibjhhlcfceai.Lrn
set_option linter.unusedVariables false

set_option maxRecDepth 100000 in
set_option maxHeartbeats 16000000 in
theorem walk0 (a0 : Option Addr) (cap0 : Nat) (ll : List (List Int)) (a1 : Option Addr) (cap1 : Nat) (s : List Int) (B : Int) (w : World) (hr0 : Rws w a0 ll) (zl : ll.length ≤ 17592186044416) (hr1 : Row w a1 s) (zs : s.length ≤ 17592186044416) :
    Calls Try.prog 3 #[.slice a0 ll.length cap0, .slice a1 s.length cap1, .int .i64 B] w fun e w' => e = .returned (.bool true) ∧ Below w.heap.size w w' := by
  have hgd := guard_err
  have hne := neq_err
  have CEN := hide (fun (p : Option Addr) (q : Nat) (l : List Int) (hq : l.length ≤ 9223372036854775807) W h h' => Frm.encode p q l a1 cap1 s B W h h' hq zs)
  unfold EncSays at CEN
  obtain ⟨K, hK⟩ : ∃ K, ll.length = K := ⟨_, rfl⟩
  have HK := hide hK
  obtain ⟨N, hN⟩ : ∃ N, s.length = N := ⟨_, rfl⟩
  have HN := hide hN
  rw [hK] at zl ⊢
  rw [hN] at CEN ⊢
  clear hK hN zs
  go_enter Try.func3, Try.ntmps3
  go_wp2_with fail
  refine (Top.one_ok _).mono ?_
  rintro e w1 ⟨rfl, hb1⟩
  go_wp2
  go_loopw [8, 9] (fun c i wr => ∃ (j : Nat) (vs : List Value) (lls : List (List Int)), j ≤ 7 ∧ j ≤ K ∧ i = .int .i64 j ∧ HasS wr w1.heap.size c vs ∧ Els wr w1.heap.size vs lls ∧ Hid (∀ l ∈ lls, l.length ≤ 8 ∧ ∀ n ∈ l, 0 ≤ n ∧ n < 27) ∧ lls.length ≤ j ∧ Below w1.heap.size w1 wr) (fun _ i _ => 7 - (intOf i).toNat)
  case atStart => exact ⟨0, [], [], by omega, Nat.zero_le _, rfl, HasS.nil _ _, Els.nil _ _, hide (fun l hl => by simp at hl), by simp, Below.refl _ _⟩
  case round =>
    obtain ⟨j, vs, lls, hj7, hjK, rfl, hc, hE, HS, hll, hB⟩ := hrel
    by_cases hlt : j < K ∧ j < 7
    · obtain ⟨hlt, hlt7⟩ := hlt
      have hlt1 : j < ll.length := by rw [unhide HK]; exact hlt
      have hBw := Below.chain hb1 hB
      obtain ⟨b1, off1, rfl, _, hc1⟩ := (hr0.below hBw).at hlt1
      obtain ⟨A, C, x2, x3, x4, x5, x6⟩ := hc1 j hlt1
      have c3 := unhide CEN A C (rowAt ll j) (by omega) wr x6 (hr1.below hBw)
      have HMR : Hid (∀ ps, EncL (rowAt ll j) s B ps → encF (rowAt ll j) s B = 0 → Right s B ps) := hide (fun ps h he => by
        rcases h with ⟨h, _⟩ | ⟨_, h⟩
        · exact absurd he h
        · exact made_right he h)
      have HLE : Hid (∀ ps, EncL (rowAt ll j) s B ps → ps.length ≤ 8) := hide (fun ps h => h.len)
      obtain ⟨EF, hEF⟩ : ∃ EF, encF (rowAt ll j) s B = EF := ⟨_, rfl⟩
      rw [hEF] at c3 HMR
      obtain ⟨EL, hEL⟩ : ∃ EL, EncL (rowAt ll j) s B = EL := ⟨_, rfl⟩
      rw [hEL] at c3 HMR HLE
      obtain ⟨LL, hLL⟩ : ∃ LL, (rowAt ll j).length = LL := ⟨_, rfl⟩
      rw [hLL] at x2 c3
      have hj1 : (j : Int) < (K : Int) := by omega
      have hj2 : (j : Int) < 7 := by omega
      clear hc1 hEF hEL hLL x3 x4 x5 x6 hlt1
      by_cases hz : EF = 0
      · have HMR2 : Hid (∀ ps, EL ps → Right s B ps) := hide (fun ps h => unhide HMR ps h hz)
        rw [hz, Ev.errV_zero] at c3
        clear HMR hz
        go_wp2_with fail
        refine c3.mono ?_
        rintro e w3 ⟨p3, q3, ps, rfl, P3, m3, m9, L3, hb3⟩
        have R3 := unhide HMR2 ps L3
        have h8 := unhide HLE ps L3
        have HOK := hide R3.ok
        have hc3 := hc.below hb3
        have hE3 := hE.below hb3
        have hB3 := Below.chain hB hb3
        obtain ⟨M, hM⟩ : ∃ M, ps.length = M := ⟨_, rfl⟩
        have HM := hide hM
        rw [hM] at m3 h8 ⊢
        clear hM c3 HMR2 HLE L3 R3 hb3 hc hE hB hBw x2
        go_wp2
        go_loopw [12, 13] (fun r i wr => ∃ k : Nat, k ≤ M ∧ i = .int .i64 k ∧ Has wr w3.heap.size r (hvs (ps.take k)) ∧ Below w3.heap.size w3 wr) (fun _ i _ => M - (intOf i).toNat)
        case atStart => exact ⟨0, Nat.zero_le _, rfl, Has.nil _ _, Below.refl _ _⟩
        case round =>
          obtain ⟨k, hk, rfl, hrw, hB4⟩ := hrel
          by_cases hkl : k < M
          · have hkl1 : k < ps.length := by rw [unhide HM]; exact hkl
            obtain ⟨b4, off4, rfl, _, hc4⟩ := (P3.below hB4).at hkl1
            obtain ⟨y1, _⟩ := hc4 k hkl1
            obtain ⟨g0, g1, _⟩ := gok_is (unhide HOK k hkl1).1
            have HST := hide (hvs_step hkl1)
            obtain ⟨G, hG⟩ : ∃ G, (prt ps k).1 = G := ⟨_, rfl⟩
            rw [hG] at y1 g0 g1 HST
            obtain ⟨Q, hQ⟩ : ∃ Q, G / 2 = Q := ⟨_, rfl⟩
            have tG : Int.tdiv G 2 = Q := by rw [← hQ, Int.tdiv_eq_ediv_of_nonneg g0]
            have q0 : 0 ≤ Q := by omega
            have q1 : Q ≤ 26 := by omega
            rw [hQ] at HST
            have hln : Hid ((hvs (ps.take k)).length + [Q].length ≤ 1000000) := hide (by rw [hvs_length, List.length_take, unhide HM]; simp; omega)
            have hWs := hB4.size
            clear hc4 hG hQ hkl1
            go_wp2_with (at_builtin; refine wpList_app _ rfl _ _ rfl w3.heap.size u12 (hvs (ps.take k)) [Q] _ _ rfl (hrw.alloc _) rfl (row_one _ _ _) (unhide hln) (by simp; omega) ?_; intro s6 w6 k6 g6 at6; have hB6 := hB4.trans (stepped_plain hrw hWs k6 g6 at6).1)
            rw [← unhide HST] at k6
            go_wp2
            go_roundw
            case rel => exact ⟨k + 1, by omega, by go_num, k6, hB6⟩
            case measure => simp [intOf]; omega
          · obtain rfl : k = M := by omega
            have eT : ps.take k = ps := by rw [← unhide HM, List.take_length]
            rw [eT] at hrw
            have HRI := hide (hvs_in (fun i hi => (unhide HOK i hi).1))
            have HRL : Hid ((hvs ps).length ≤ 8) := hide (by rw [hvs_length, unhide HM]; exact h8)
            have hc4 := hc3.below hB4
            have hE4 := hE3.below hB4
            have hBB := hB3.trans (hB4.mono hB3.size)
            have hrb : Has wr w1.heap.size u12 (hvs ps) := hrw.mono hB3.size
            obtain ⟨pr, nr, qr, hu⟩ := hrb.shape
            rw [hu] at hrb ⊢
            have hVL : vs.length + 1 ≤ 1000000 := by rw [hE4.1]; omega
            have HVL := hide hVL
            have hWs := hBB.size
            have HS2 : Hid (∀ l ∈ lls ++ [hvs ps], l.length ≤ 8 ∧ ∀ n ∈ l, 0 ≤ n ∧ n < 27) := hide (fun l hl => by
              rcases List.mem_append.1 hl with h | h
              · exact unhide HS l h
              · obtain rfl : l = hvs ps := by simpa using h
                exact ⟨unhide HRL, unhide HRI⟩)
            have HL2 : Hid ((lls ++ [hvs ps]).length ≤ j + 1) := hide (by rw [List.length_append]; simp; omega)
            clear eT hrw hu hVL hB3 hc3 hE3 hB4 HRI HRL HS
            go_wp2_with (at_builtin; refine wpList_apps _ rfl _ _ rfl w1.heap.size u8 vs (.slice pr nr qr) wr.heap.size 0 _ rfl (hc4.alloc _) rfl rfl (by rw [World.cell?_alloc_at _ _ _ _ rfl]; rfl) (unhide HVL) (by simp; omega) ?_; intro s7 w7 k7 g7 at7; have E7 := hE4.appended hc4 hrb g7; have hB7 : Below w1.heap.size w1 w7 := hBB.trans (((Below.refl w1.heap.size wr).alloc hWs _).grown g7 (by simp; omega) (fun i e => (hc4.lt i e).1)))
            go_wp2
            go_roundw
            case rel => exact ⟨j + 1, _, _, by omega, by omega, by go_num, k7, E7, HS2, unhide HL2, hB7⟩
            case measure => simp [intOf]; omega
      · have dE : decide (EF ≠ 0) = true := by simpa using hz
        clear HMR
        go_wp2_with fail
        refine c3.mono ?_
        rintro e w3 ⟨p3, q3, ps, rfl, P3, m3, m9, L3, hb3⟩
        have hc3 := hc.below hb3
        have hE3 := hE.below hb3
        have hB3 := Below.chain hB hb3
        obtain ⟨M, hM⟩ : ∃ M, ps.length = M := ⟨_, rfl⟩
        rw [hM]
        clear hM c3 HLE L3 hb3 hc hE hB hBw x2
        go_wp2
        go_roundw
        case rel => exact ⟨j + 1, vs, lls, by omega, by omega, by go_num, hc3, hE3, HS, by omega, hB3⟩
        case measure => simp [intOf]; omega
    · have hend : (K : Int) ≤ j ∨ ((j : Int) < K ∧ (j : Int) = 7) := by omega
      obtain ⟨pc, qc, hu, rc⟩ := hE.rws hc
      have hRW : rows lls ((27 : Nat) : Int) = 0 := rows_ok (by decide) (by decide) (by omega) (fun l hl => ⟨by have := (unhide HS l hl).1; omega, (unhide HS l hl).2⟩)
      have CSH := shares_ok pc qc lls 27 wr rc (hide hRW)
      obtain ⟨HRT, HFL, _⟩ := learnt hRW
      have HSG : Hid (∀ l : List Int, (∀ x ∈ l, 0 ≤ x ∧ x < 27) → Signs (scale (cts lls 27)) l) := hide (fun l hl => said_signs hRW hl)
      obtain ⟨F, hF⟩ : ∃ F, scale (cts lls 27) = F := ⟨_, rfl⟩
      rw [hF] at CSH HRT HFL HSG
      have HRF : Hid (Scl.right F) := HRT
      have HFL' : Hid (F.length = 27) := HFL
      have hBw := Below.chain hb1 hB
      obtain ⟨T, hT⟩ : ∃ T, lls.length = T := ⟨_, rfl⟩
      have HT := hide hT
      have hT7 : T ≤ 7 := by omega
      rw [hT] at CSH
      rw [hu, hT]
      have HFT : Hid (∀ k, (lls.take k).flatten.length ≤ 56) := hide (fun k => by
        have h1 := flat_most (ll := lls.take k) (m := 8) (fun l hl => (unhide HS l (List.mem_of_mem_take hl)).1)
        rw [List.length_take] at h1
        omega)
      have HFI : Hid (∀ x ∈ lls.flatten, 0 ≤ x ∧ x < 27) := hide (fun x hx => by
        obtain ⟨l, hl, hx'⟩ := List.mem_flatten.1 hx
        exact (unhide HS l hl).2 x hx')
      clear hlt hT hu hF HRT HFL hRW hE hc HS hll hB hj7 hjK
      have hway : (¬ (j < K) ∧ decide ((j : Int) < (K : Int)) = false) ∨ ((j < K) ∧ decide ((j : Int) < (K : Int)) = true ∧ ¬ (j < 7) ∧ decide ((j : Int) < 7) = false) := by
        rcases hend with h | ⟨h, h7⟩
        · exact Or.inl ⟨by omega, by simp; omega⟩
        · exact Or.inr ⟨by omega, by simp; omega, by omega, by simp; omega⟩
      clear hend
      have hTi : (T : Int) ≤ 7 := by omega
      rcases hway with ⟨d0, d1⟩ | ⟨d0, d1, d2, d3⟩
      all_goals (
        go_wp2_with fail
        refine CSH.mono ?_
        clear CSH
        rintro e w2 ⟨v2, rfl, k2, hb2⟩
        have hB2 := Below.chain hBw hb2
        have rc2 := rc.below hb2
        obtain ⟨pf, qf, rfl, qn, qm, q9, rf⟩ := k2.sli
        rw [unhide HFL'] at qm ⊢
        clear k2 hb2 hBw rc
        go_wp2
        go_loopw [16, 17] (fun c i wr => ∃ k : Nat, k ≤ T ∧ i = .int .i64 k ∧ Has wr w2.heap.size c ((lls.take k).flatten) ∧ Below w2.heap.size w2 wr) (fun _ i _ => T - (intOf i).toNat)
        case atStart => exact ⟨0, Nat.zero_le _, rfl, Has.nil _ _, Below.refl _ _⟩
        case round =>
          obtain ⟨k, hk, rfl, hal, hB⟩ := hrel
          by_cases hkl : k < T
          · have hkl1 : k < lls.length := by rw [unhide HT]; exact hkl
            obtain ⟨b1, off1, rfl, _, hc1⟩ := (rc2.below hB).at hkl1
            obtain ⟨A, C, x2, x3, x4, x5, x6⟩ := hc1 k hkl1
            have HST := hide (flat_next hkl1)
            have hln : Hid ((lls.take k).flatten.length + (rowAt lls k).length ≤ 1000000) := hide (by
              have h1 := unhide HFT (k + 1)
              rw [unhide HST, List.length_append] at h1
              omega)
            have hWs := hB.size
            have HLL : Hid ((rowAt lls k).length = (rowAt lls k).length) := rfl
            obtain ⟨X, hX⟩ : ∃ X, rowAt lls k = X := ⟨_, rfl⟩
            rw [hX] at x2 x6 HST hln
            obtain ⟨LX, hLX⟩ : ∃ LX, X.length = LX := ⟨_, rfl⟩
            have HLX : Hid (LX = X.length) := hide hLX.symm
            rw [hLX] at x2
            clear hc1 hkl1 HLL hX hLX x3 x4 x5
            go_wp2_with (at_builtin; refine wpList_app _ rfl _ _ rfl w2.heap.size u16 ((lls.take k).flatten) X A C rfl hal (congrArg (fun n => Value.slice A n C) (unhide HLX)) x6 (unhide hln) hWs ?_; intro s6 w6 k6 g6 at6; have hB6 : Below w2.heap.size w2 w6 := hB.grown g6 hWs (fun i e => (hal.lt i e).1))
            rw [← unhide HST] at k6
            go_wp2
            go_roundw
            case rel => exact ⟨k + 1, by omega, by go_num, k6, hB6⟩
            case measure => simp [intOf]; omega
          · obtain rfl : k = T := by omega
            have eT : lls.take k = lls := by rw [← unhide HT, List.take_length]
            rw [eT] at hal
            have h56 := unhide HFT k
            rw [eT] at h56
            have HSL := hide (unhide HSG _ (unhide HFI))
            obtain ⟨AL, hAL⟩ : ∃ AL, lls.flatten = AL := ⟨_, rfl⟩
            rw [hAL] at hal h56 HSL
            have hB4 := Below.chain hB2 hB
            have rf4 := rf.below hB
            obtain ⟨pa, qa, hu, ra⟩ := hal.row
            rw [hu]
            have HF0 : Hid (RowF F AL 0) := hide (said_row (unhide HRF) (by omega) (unhide HSL))
            have CE := encode_ok pf qf F pa qa AL wr rf4 (by rw [unhide HFL']; exact qm) q9 ra HF0
            have CM := hide (fun W h h' => most_ok pf qf F pa qa AL W h (by rw [unhide HFL']; exact qm) q9 h' HF0)
            have HIR : Hid (IsRow F (code F AL) AL.length AL) := hide (isRow_code (unhide HSL))
            have HBC := hide (code_byts (unhide HRF) (unhide HSL))
            obtain ⟨z1, z2⟩ := code_len (unhide HRF) (unhide HSL) (by omega)
            have hnl := need_le F AL
            have HCL : Hid ((str (code F AL)).size ≤ 9223372036854775807) := hide (by rw [str_size]; omega)
            have HSZ : Hid ((str (code F AL)).size ≤ 4 + need F AL / 8) := hide (by rw [str_size]; omega)
            have CD := hide (fun W hW => (decode_at pf qf F (str (code F AL)) AL.length W hW (by rw [unhide HFL']; exact qm) q9 HRF (unhide HCL) (by omega)).mono fun e w' hh => Tld.row (unhide HRF) (by rw [byt_str (unhide HBC)] at hh; exact hh) (unhide HIR))
            have CI := hide (fun p q W hW hW' => ints_same p q pa qa AL W (by omega) hW hW')
            rw [unhide HFL'] at CE CM CD
            obtain ⟨NA, hNA⟩ : ∃ NA, AL.length = NA := ⟨_, rfl⟩
            have HNA := hide hNA
            rw [hNA] at CE CM CD CI h56 ⊢
            obtain ⟨cs, hcs⟩ : ∃ cs, str (code F AL) = cs := ⟨_, rfl⟩
            rw [hcs] at CE CD HSZ HCL
            obtain ⟨MO, hMO⟩ : ∃ MO, 4 + need F AL / 8 = MO := ⟨_, rfl⟩
            rw [hMO] at CM HSZ
            obtain ⟨SZ, hSZ⟩ : ∃ SZ, cs.size = SZ := ⟨_, rfl⟩
            have hlen : ∀ W, (Builtin.len_ #[9] 3 #[.string cs]).run Try.prog W = .ok (.int .i64 (SZ : Int)) W := fun W => by rw [run_len_string W 9 3 cs Try.underlying9, hSZ]; rfl
            rw [hSZ] at HSZ HCL
            have hS1 := unhide HSZ
            have hS2 := unhide HCL
            have dS : decide ((MO : Int) < (SZ : Int)) = false := by simp; omega
            clear hal hAL hu eT HIR HBC z1 z2 hnl hNA hcs hMO HSL HF0 rf rc2 hB hB2 HFT HFI HSG
            go_wp2_with fail
            refine CE.mono ?_
            clear CE
            rintro e w5 ⟨rfl, hb5⟩
            have hB5 := Below.chain hB4 hb5
            have rf5 := rf4.below hb5
            have ra5 := ra.below hb5
            clear rf4 ra hb5 hB4
            go_wp2_with fail
            refine (unhide CM w5 rf5 ra5).mono ?_
            clear CM
            rintro e w6 ⟨rfl, hb6⟩
            have hB6 := Below.chain hB5 hb6
            have rf6 := rf5.below hb6
            have ra6 := ra5.below hb6
            clear rf5 ra5 hb6 hB5
            go_wp2_with fail
            refine (unhide CD w6 rf6).mono ?_
            clear CD
            rintro e w7 ⟨v7, rfl, k7, hb7⟩
            have hB7 := Below.chain hB6 hb7
            have ra7 := ra6.below hb7
            obtain ⟨p7, q7, rfl, r7⟩ := k7.row
            rw [unhide HNA]
            clear rf6 ra6 hb7 hB6 k7
            go_wp2_with fail
            refine (unhide CI p7 q7 w7 r7 ra7).mono ?_
            clear CI
            rintro e w8 ⟨rfl, hb8⟩
            go_wp2
            go_ret
            exact ⟨rfl, Below.chain hB7 hb8⟩)

theorem walk (a0 : Option Addr) (cap0 : Nat) (ll : List (List Int)) (a1 : Option Addr) (cap1 : Nat) (s : List Int) (n : Int) (w : World) (hr0 : Rws w a0 ll) (hw0 : ∀ l ∈ ll, ∀ n ∈ l, (Lit.int .i64 n).wf = true) (hz0 : ll.length * 24 ≤ 140737488351232)
    (hr1 : Row w a1 s) (hw1 : ∀ n ∈ s, (Lit.int .i64 n).wf = true) (hz1 : s.length * 8 ≤ 140737488351232) (hwn : (Lit.int .i64 n).wf = true) :
    Calls Try.prog 3 #[.slice a0 ll.length cap0, .slice a1 s.length cap1, .int .i64 n] w fun e w' => e = .returned (.bool true) ∧ Below w.heap.size w w' :=
  walk0 a0 cap0 ll a1 cap1 s n w hr0 (by omega) hr1 (by omega)

set_option maxRecDepth 100000 in
theorem lifted (os : Os) (started : os.Started) (H : Type) (enc : TypeId × Value → H) :
    ReturnsInHanded {} Try.checked os 3 .any (Rows.topRanksSpec.pre6 enc Try.prog Try.f3 Rows.topRanksRow.domain false) (Rows.topRanksSpec.post enc Try.prog Try.f3 false true false false) := by
  refine returnsInHanded_of_change_sized (C := Try.checked) own started (by kernel_rfl) Try.func3
    (ChangeSpec.witness6 (enc := enc) (C := Try.checked) false ⟨#[], #[.slice none 0 0, .slice none 0 0, .int .i64 0], []⟩ 8 (by kernel_rfl) (by kernel_rfl) (by kernel_rfl) (by kernel_rfl)) ?_
  intro W base args ds gs before hval0 hW hcnd hsz0 _
  have hsz : (DataW.weightsEach Try.prog (Try.f3.params.toList ++ Rows.topRanksSpec.plain.varTypes Try.prog) (ds ++ gs)).all (· ≤ reachBytes) = true := hsz0
  have hval : ∀ (j : Nat) t v, Try.f3.params[j]? = some t → args[j]? = some v → Value.okWide Try.prog W .any base t v := hval0
  have hW' := hW
  obtain ⟨p, q, hA0, hV, rfl, hfz, hnd⟩ := hW
  have hA : DataW.TrodAll enc Try.prog W 0 (fun _ => true) true Try.f3.params.toList args.toList ds p := hA0
  rw [Try.params3] at hA hval hsz
  obtain ⟨v0, vs0, d0, ds0, p0, q0, hargs, rfl, rfl, h0, r0⟩ := trodAll_cons hA
  obtain ⟨v1, vs1, d1, ds1, p1, q1, rfl, rfl, rfl, h1, r1⟩ := trodAll_cons r0
  obtain ⟨v2, vs2, d2, ds2, p2, q2, rfl, rfl, rfl, h2, r2⟩ := trodAll_cons r1
  obtain ⟨rfl, rfl, rfl⟩ := trodAll_nil r2
  obtain rfl : args = #[v0, v1, v2] := by cases args; simp_all
  obtain ⟨rfl, rfl⟩ := trodVars_none hV
  obtain ⟨a0, len0, cap0, rfl⟩ := okWide_slice Try.underlying22 (hval 0 22 v0 rfl rfl)
  have k0 := h0
  have lt0 : ∀ x ∈ p0, x.block < W.heap.size := by obtain ⟨m, hm⟩ := k0; exact DataW.trod_lt m _ _ _ hm
  obtain ⟨l0, hlen0, hr0, hw0, hz0⟩ := open_rows h0 (fun e s hd => sized_slice hsz (j := 0) (t := 22) (e := 23) rfl (by rw [hd]; rfl) Try.underlying22)
  subst hlen0
  obtain ⟨a1, len1, cap1, rfl⟩ := okWide_slice Try.underlying23 (hval 1 23 v1 rfl rfl)
  have k1 := h1
  have lt1 : ∀ x ∈ p1, x.block < W.heap.size := by obtain ⟨m, hm⟩ := k1; exact DataW.trod_lt m _ _ _ hm
  obtain ⟨l1, hlen1, hr1, hw1, hz1⟩ := open_row h1 (fun e s hd => sized_slice hsz (j := 1) (t := 23) (e := 3) rfl (by rw [hd]; rfl) Try.underlying23)
  subst hlen1
  obtain ⟨n2, rfl, rfl, rfl, hw2⟩ := open_int Try.underlying3 (hval 2 3 v2 rfl rfl) h2
  clear hA0 hval0 hsz0
  refine (walk a0 cap0 l0 a1 cap1 l1 n2 W hr0 hw0 hz0 hr1 hw1 hz1 hw2).mono fun e W' ⟨he, bel⟩ => ?_
  subst he
  exact ⟨_, rfl, _, _, _, [], _, [], hW', trodAll_mk1 (shut_bool Try.underlying4 _), (trodAll_cons_mk (Below.trod laidOut (by kernel_rfl) (of_decide_eq_true (by kernel_rfl)) k0 bel lt0) (trodAll_cons_mk (Below.trod laidOut (by kernel_rfl) (of_decide_eq_true (by kernel_rfl)) k1 bel lt1) (trodAll_cons_mk (shut_int Try.underlying3 hw2) trodAll_mk0))), rfl, bel.frame _, fun h => by cases h⟩
end Go.Proofs.Ythkibjhhlcfceai.TopRanksLaw
namespace Go.Proofs.Ythkibjhhlcfceai
open Go.ChangeShapes Go.WideShapes Go.ChangeAt Go.RowKit

theorem topRanks_holds : Rows.TopRanksSaid :=
  OpenClaim.holds_of_wide 3 Try.f3 rfl rfl rfl rfl rfl rfl rfl ⟨rfl, rfl, rfl, rfl, rfl⟩ rfl rfl rfl rfl rfl (by kernel_rfl) Try.func3 (by kernel_rfl)
    (of_decide_eq_true (by kernel_rfl)) (by unfold Func.isWrapper; first | (rw [if_pos (by decide +kernel)]; kernel_rfl) | (rw [if_neg (by decide +kernel)]; exact ⟨rfl, rfl⟩))
    (fun os started H enc _ => TopRanksLaw.lifted os started H enc)
end Go.Proofs.Ythkibjhhlcfceai
