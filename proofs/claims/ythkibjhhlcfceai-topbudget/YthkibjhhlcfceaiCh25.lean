/-
  frame.Encode: by its contract.
-/
import Derived.Test.YthkibjhhlcfceaiCh10
import Derived.Test.YthkibjhhlcfceaiCh14
import Derived.Test.YthkibjhhlcfceaiCh17
import Derived.Test.YthkibjhhlcfceaiCh22
import Derived.Test.YthkibjhhlcfceaiCh24
import Derived.Test.YthkibjhhlcfceaiCh09
namespace Go.Proofs.Ythkibjhhlcfceai.Frm
open Go.RowKit
open Go.Proofs.Ythkibjhhlcfceai.Tre Go.Proofs.Ythkibjhhlcfceai.Bnd Go.Proofs.Ythkibjhhlcfceai.Pls Go.Proofs.Ythkibjhhlcfceai.Gai Go.Proofs.Ythkibjhhlcfceai.Shr Go.Proofs.Ythkibjhhlcfceai.Ev
set_option linter.unusedVariables false

theorem enc_fault {l s : List Int} {B F : Int} {w w' : World} (h : encF l s B = F) (hF : F ≠ 0) (hb : Below w.heap.size w w') : EncSays l s B w (.returned (.tuple #[.slice none 0 0, .iface 52 (.int .i64 F)])) w' :=
  ⟨none, 0, [], by rw [h, errV_ne hF]; rfl, Or.inl rfl, Nat.le_refl _, by omega, Or.inl ⟨by rw [h]; exact hF, rfl⟩, hb⟩

set_option maxRecDepth 100000 in
set_option maxHeartbeats 8000000 in
theorem encode_on (a : Option Addr) (cap : Nat) (l : List Int) (b : Option Addr) (capb : Nat) (s : List Int) (B : Int) (w : World) (hr : Row w a l) (hs : Row w b s) (hc : Hid (cutF l s = 0)) (hB0 : 0 ≤ B) (hB4 : B ≤ 400) :
    Calls Try.prog 6 #[.slice a l.length cap, .slice b s.length capb, .int .i64 B] w fun e w' => EncSays l s B w e w' := by
  obtain ⟨h1, e1, e3⟩ := cutF_zero (unhide hc)
  obtain ⟨n0, n8, hsz, n32⟩ := bf_ok h1
  obtain ⟨k1, k2, hin⟩ := Lap.chk_zero e3
  have H1 := hide h1
  have HSZ := hide hsz
  have CBA := hide (bandsOf_ok a cap l b capb s w hr hs hc)
  have HLL := hide (Lap.lap_length k2)
  have hin2 := (Lap.lap_in (b := 1000) (by omega) hin).mono (c := 4000) (by omega)
  have HCU := hide (shaped_cuts (l := Lap.lap l) hsz (by rw [unhide HLL]; exact e1.symm))
  have HCL := hide (cuts_length (Lap.lap l) s)
  have HIN : Hid (∀ i, i < s.length → In 4000 (rowAt (cuts (Lap.lap l) s) i) ∧ (rowAt (cuts (Lap.lap l) s) i).length ≤ 6) := hide (fun i hi => by
    refine ⟨?_, ?_⟩
    · rw [cuts_at _ _ hi]
      exact (hin2.drop _).take _
    · have := (unhide HCU).2 i hi
      have := hsz i hi
      omega)
  have HGL : Hid (∀ i, i < s.length → _) := hide (fun i hi => given_low (ll := cuts (Lap.lap l) s) (B := B) hsz n8 hB0 (unhide HCL) hi)
  have HE4 : Hid (∀ i, i < s.length → 8000 < loud (rowAt (cuts (Lap.lap l) s) i) → encF l s B = 4) := hide (fun i hi h => by
    unfold encF
    rw [if_pos h1, if_pos ⟨e1, by omega⟩, if_pos ⟨any_of_in hin, hB0, hB4⟩, if_pos]
    refine List.any_eq_true.2 ⟨rowAt (cuts (Lap.lap l) s) i, ?_, by simp [tooLoud, h]⟩
    rw [rowAt_get (by rw [unhide HCL]; exact hi)]
    exact List.getElem_mem _)
  have HE0 : Hid ((∀ i, i < s.length → loud (rowAt (cuts (Lap.lap l) s) i) ≤ 8000) → encF l s B = 0) := hide (fun h => encF_zero.2 ⟨h1, e1, by omega, hin, hB0, hB4, h⟩)
  have HMD : Hid (∀ ps : List Prt, ps.length = s.length → (∀ i, i < s.length → (prt ps i).1 = at0 (gls (cuts (Lap.lap l) s)) i ∧ Nea.Near (rowAt (cuts (Lap.lap l) s) i) (at0 (given (gls (cuts (Lap.lap l) s)) s B) i).toNat (prt ps i).2) → Made (cuts (Lap.lap l) s) s B ps) := hide (fun ps h1 h2 => by
    refine ⟨by rw [h1, unhide HCL], fun i hi => ?_⟩
    rw [unhide HCL] at hi
    obtain ⟨g1, g2⟩ := h2 i hi
    rw [gls_at (by rw [unhide HCL]; exact hi)] at g1
    exact ⟨g1, g2⟩)
  have HGA : Hid (∀ i, i < s.length → at0 (gls (cuts (Lap.lap l) s)) i = (gi (loud (rowAt (cuts (Lap.lap l) s) i)) : Int)) := hide (fun i hi => gls_at (by rw [unhide HCL]; exact hi))
  have HGN := hide (gls_length (cuts (Lap.lap l) s))
  rw [unhide HCL] at HGN
  have CGN := hide (fun W A C h => gainsOnly A C (cuts (Lap.lap l) s) W h (by rw [unhide HCL]; exact n8) (hide (fun i hi => unhide HIN i (by rw [unhide HCL] at hi; exact hi))))
  obtain ⟨ll, hll⟩ : ∃ ll, cuts (Lap.lap l) s = ll := ⟨_, rfl⟩
  rw [hll] at CBA HCU HCL HIN HGL HE4 HE0 HMD HGA HGN CGN
  have HOK : Hid (encF l s B = 0 → ∀ ps p q w', Pts w' p ps → ps.length ≤ q → q ≤ 9223372036854775807 → Made ll s B ps → Below w.heap.size w w' → EncSays l s B w (.returned (.tuple #[.slice p ps.length q, .nilIface])) w') := hide (fun h ps p q w' h1 h2 h3 h4 h5 => ⟨p, q, ps, by rw [h]; rfl, h1, h2, h3, Or.inr ⟨h, by rw [hll]; exact h4⟩, h5⟩)
  have HNO : Hid (encF l s B = 4 → ∀ w', Below w.heap.size w w' → EncSays l s B w (.returned (.tuple #[.slice none 0 0, .iface 52 (.int .i64 4)])) w') := hide (fun h w' hb => enc_fault h (by omega) hb)
  obtain ⟨M, hM⟩ : ∃ M, l.length = M := ⟨_, rfl⟩
  rw [hM] at CBA ⊢
  obtain ⟨N, hN⟩ : ∃ N, s.length = N := ⟨_, rfl⟩
  have HN := hide hN
  rw [hN] at CBA HCL HIN HGL HE4 HE0 HMD HGA HGN n0 n8 ⊢
  have d1 : decide (B < 0) = false := by simp; omega
  have d2 : decide (400 < B) = false := by simp; omega
  clear hll hM hN e1 e3 k1 k2 hin hin2 hsz hc n32 h1 HCU HLL
  go_enter Try.func6, Try.ntmps6
  go_wp2_with fail
  refine (unhide CBA).mono ?_
  rintro e w1 ⟨A1, rfl, r1, hb1⟩
  have CG := unhide CGN w1 A1 N r1
  rw [unhide HCL] at CG
  clear CBA CGN
  go_wp2_with fail
  refine CG.mono ?_
  clear CG
  rintro e w2 ⟨hsay, hb2⟩
  have hB2 := Below.chain hb1 hb2
  rcases hsay with ⟨⟨i, hi, hi8⟩, rfl⟩ | ⟨hlo, v2, rfl, k2⟩
  · have HP := hide (unhide HNO (unhide HE4 i (by rw [← unhide HCL]; exact hi) hi8) w2 hB2)
    clear HNO HOK HE4 HE0 HMD HGA HGL hi hi8
    go_wp2
    go_ret2
    exact unhide HP
  · rw [unhide HCL] at hlo k2
    have HE := hide (unhide HE0 hlo)
    have HLO := hide hlo
    have HQL := hide (q0_length (gs := gls ll) (k := N) (by rw [unhide HGN]; exact Nat.le_refl _))
    obtain ⟨g, c, rfl, hg1, hg2, -, -⟩ := k2.one (by rw [unhide HQL]; exact n0)
    obtain ⟨a5, c5, ee, pt5, -, -⟩ := k2.pts (ps := bare (gls ll)) (by rw [bare_length, unhide HGN, unhide HQL]) (fun r hr => by
      rw [bare_length, unhide HGN] at hr
      rw [bare_at (by rw [unhide HGN]; exact hr)]
      exact ⟨_, q0_at hr (by rw [unhide HGN]; exact Nat.le_refl _), sli_nil _⟩)
    obtain ⟨ea, eb, ec⟩ := Value.slice.inj ee
    subst ea ec
    have CGV := pulsesFor (some ⟨g, 0, none⟩) c (bare (gls ll)) b capb s B w2 pt5 (hs.below hB2) H1 (by rw [bare_length, unhide HGN, unhide HN]) (hide (fun i hi => by
      rw [bare_length, unhide HGN] at hi
      rw [bare_at (by rw [unhide HGN]; exact hi), unhide HGA i hi]
      have h := gi_near (unhide HLO i hi)
      unfold gok
      rw [Int.toNat_natCast, h.2.1]
      simp
      omega))
    rw [bare_length, unhide HGN, unhide HN] at CGV
    have HBG := hide (bare_gns (gls ll))
    rw [unhide HQL]
    have HA0 : Hid (∀ r, r < N → ∃ V, (q0 (gls ll) N)[r]? = some (at0 (gls ll) r, V)) := hide (fun r hr => ⟨_, q0_at hr (by rw [unhide HGN]; exact Nat.le_refl _)⟩)
    have HGVL : Hid ((given (gls ll) s B).length = N) := hide (by rw [(given_is (gs := gls ll) (unhide HSZ) (by rw [unhide HN]; exact n8) hB0).len, unhide HN])
    obtain ⟨gs, hgs⟩ : ∃ gs, gls ll = gs := ⟨_, rfl⟩
    rw [hgs] at CGV HA0 HGVL HGL HMD k2 HQL HGN HBG
    obtain ⟨gv, hgv⟩ : ∃ gv, given gs s B = gv := ⟨_, rfl⟩
    have HGV := hide hgv
    rw [hgv] at HGVL HGL HMD
    obtain ⟨qs0, hqs⟩ : ∃ qs0, q0 gs N = qs0 := ⟨_, rfl⟩
    rw [hqs] at HA0 k2 HQL
    rw [unhide HQL] at k2
    clear hgs hgv hqs ee eb pt5 HE0 HE4 HLO HGA HNO hlo hB2
    go_wp2_with fail
    refine CGV.mono ?_
    rintro e w3 ⟨hsay, hb3⟩
    clear CGV
    rcases hsay with ⟨hno, -⟩ | ⟨-, v3, rfl, k3⟩
    · exact absurd ⟨hB0, hB4⟩ hno
    rw [unhide HBG, unhide HGV] at k3
    have hB3 := Below.chain hb2 hb3
    have k2' := k2.below hb3
    have hgw : g < w3.heap.size := Nat.lt_of_lt_of_le hg2 hb3.size
    obtain ⟨g7, c7, rfl, hg7, hg8, -, -⟩ := k3.one (by rw [unhide HGVL]; exact n0)
    rw [unhide HGVL]
    obtain ⟨n5, hn5⟩ : ∃ n5, w2.heap.size = n5 := ⟨_, rfl⟩
    rw [hn5] at k3 hg2 hg7
    rw [unhide HGVL] at k3
    clear k2 hb3 hb2 hn5 HBG HGV
    go_wp2
    go_loopw [50] (fun i wq => ∃ (j : Nat) (qs : List (Int × Value)), j ≤ N ∧ i = .int .i64 j ∧ HasP wq w1.heap.size (.slice (some ⟨g, 0, none⟩) N c) qs ∧ Hid (qs.length = N) ∧ Hid (∀ r, r < N → ∃ V, qs[r]? = some (at0 gs r, V)) ∧
        Hid (∀ r, r < j → ∃ V l, qs[r]? = some (at0 gs r, V) ∧ Has wq w3.heap.size V l ∧ Nea.Near (rowAt ll r) (at0 gv r).toNat l) ∧ Has wq n5 (.slice (some ⟨g7, 0, none⟩) N c7) gv ∧ Below w1.heap.size w1 wq ∧ w3.heap.size ≤ wq.heap.size) (fun i _ => N - (intOf i).toNat)
    case atStart => exact ⟨0, qs0, Nat.zero_le _, rfl, k2', HQL, HA0, hide (fun r hr => by omega), k3, hB3, Nat.le_refl _⟩
    case round =>
      clear k2' HQL HA0 k3 hB3
      rename World => wq
      obtain ⟨j, qs, hj, rfl, hS, HQ, HA, HD, hK, hB, hsq⟩ := hrel
      by_cases hlt : j < N
      · have hlt' : j < ll.length := by rw [unhide HCL]; exact hlt
        obtain ⟨b1, off1, rfl, _, hc1⟩ := (r1.below hB).at hlt'
        obtain ⟨A, C, c1, c2, c3, c4, c5⟩ := hc1 j hlt'
        obtain ⟨i1, i2⟩ := unhide HIN j hlt
        obtain ⟨l1, l2, l3⟩ := unhide HGL j hlt
        have ck := hK.get (j := j) (by rw [unhide HGVL]; exact hlt)
        obtain ⟨V0, hV0⟩ := unhide HA j hlt
        obtain ⟨K, hKK⟩ : ∃ K : Nat, at0 gv j = K := ⟨(at0 gv j).toNat, by omega⟩
        have HK := hide hKK
        rw [hKK] at l2 l3 ck
        rw [Int.toNat_natCast] at l3
        obtain ⟨r, hrr⟩ : ∃ r, rowAt ll j = r := ⟨_, rfl⟩
        have HRR := hide hrr
        rw [hrr] at c1 c3 c5 i1 i2 l3
        have CNE := hide (Nea.spread_ok A C r K wq c5 i2 i1 (by omega) (hide l3))
        obtain ⟨R, hR⟩ : ∃ R, r.length = R := ⟨_, rfl⟩
        rw [hR] at c1 c3 CNE i2
        clear hc1 hrr hR hKK hlt' c2 c5 i1 l1 l3
        go_wp2_with fail
        refine (unhide CNE).mono ?_
        rintro e w9 ⟨v9, l9, rfl, k9, HN9, hbb⟩
        obtain ⟨pa, na, ca, rfl⟩ := k9.shape
        have hS9 := hS.below hbb
        have f9 := hS9.frozen (unhide HQ).symm (j * 2 + 1)
        obtain ⟨-, o9⟩ := hS9.get (unhide HQ).symm hV0
        obtain ⟨m1, m2, m3⟩ := parts_put (P := fun r l => Nea.Near (rowAt ll r) (at0 gv r).toNat l) hS (unhide HQ) hlt hgw hsq (unhide HA) (unhide HD) k9 (by show Nea.Near (rowAt ll j) (at0 gv j).toNat l9; rw [unhide HRR, unhide HK, Int.toNat_natCast]; exact unhide HN9) hbb
        have HQ2 : Hid ((qs.set j (at0 gs j, .slice pa na ca)).length = N) := hide (by rw [List.length_set]; exact unhide HQ)
        have hK9 := (hK.below hbb).kept (grownBy_setCellAt w9 g (j * 2 + 1) (.slice pa na ca)) (Or.inr (by intro e; have e2 : g7 = g := Option.some.inj e; omega))
        have hB9 := (hB.trans (hbb.mono hB.size)).setCell (p := ⟨g, j * 2 + 1, none⟩) hg1 (.slice pa na ca)
        have hs9 : w3.heap.size ≤ (w9.setCell ⟨g, j * 2 + 1, none⟩ (.slice pa na ca)).heap.size := by simpa using Nat.le_trans hsq hbb.size
        have Q1 := hide m1
        have Q2 := hide m2
        have Q3 := hide m3
        have Q4 := hide hK9
        have Q5 := hide hB9
        have Q6 := hide hs9
        clear m1 m2 m3 hK9 hB9 hs9 CNE
        go_wp2
        go_roundw
        case rel => exact ⟨j + 1, _, by omega, by go_num, unhide Q1, HQ2, Q2, Q3, unhide Q4, unhide Q5, unhide Q6⟩
        case measure => simp [intOf]; omega
      · obtain rfl : j = N := by omega
        obtain ⟨ps, y1, y2, aa, cc, ye, y3, y4, y5⟩ := parts_done hS (by rw [unhide HQ, unhide HGN]) (fun r hr => unhide HD r (by rw [← unhide HGN]; exact hr))
        have HM : Hid (Made ll s B ps) := hide (unhide HMD ps (by rw [y1, unhide HGN]) (fun i hi => y2 i (by rw [unhide HGN]; exact hi)))
        have HP := hide (unhide HOK (unhide HE) ps aa cc wq y3 y4 y5 (unhide HM) (Below.chain hb1 hB))
        rw [← ye] at HP
        clear y1 y2 y3 y4 y5 ye HM
        go_wp2
        go_ret2
        exact unhide HP

set_option maxRecDepth 100000 in
set_option maxHeartbeats 4000000 in
theorem encode (a : Option Addr) (cap : Nat) (l : List Int) (b : Option Addr) (capb : Nat) (s : List Int) (B : Int) (w : World) (hr : Row w a l) (hs : Row w b s) (zl : l.length ≤ 9223372036854775807) (zs : s.length ≤ 17592186044416) :
    Calls Try.prog 6 #[.slice a l.length cap, .slice b s.length capb, .int .i64 B] w fun e w' => EncSays l s B w e w' := by
  by_cases hc : cutF l s = 0
  · have HF : Hid (¬ (0 ≤ B ∧ B ≤ 400) → ∀ w', Below w.heap.size w w' → EncSays l s B w (.returned (.tuple #[.slice none 0 0, .iface 52 (.int .i64 1)])) w') := hide (fun h w' hb => enc_fault (by
      obtain ⟨h1, e1, e3⟩ := cutF_zero hc
      obtain ⟨n0, n8, hsz, n32⟩ := bf_ok h1
      obtain ⟨k1, k2, hin⟩ := Lap.chk_zero e3
      unfold encF
      rw [if_pos h1, if_pos ⟨e1, by omega⟩, if_neg (fun h' => h h'.2)]) (by omega) hb)
    have CBA := hide (bandsOf_ok a cap l b capb s w hr hs (hide hc))
    obtain ⟨ll, hll⟩ : ∃ ll, cuts (Lap.lap l) s = ll := ⟨_, rfl⟩
    rw [hll] at CBA
    by_cases h1 : B < 0
    · have d1 : decide (B < 0) = true := by simpa using h1
      have HP := hide (unhide HF (by omega))
      obtain ⟨M, hM⟩ : ∃ M, l.length = M := ⟨_, rfl⟩
      obtain ⟨N, hN⟩ : ∃ N, s.length = N := ⟨_, rfl⟩
      rw [hM, hN] at CBA ⊢
      clear HF hll hM hN hc zl zs
      go_enter Try.func6, Try.ntmps6
      go_wp2_with fail
      refine (unhide CBA).mono ?_
      rintro e w1 ⟨A1, rfl, r1, hb1⟩
      go_wp2
      go_ret2
      exact unhide HP _ hb1
    · by_cases h2 : 400 < B
      · have d1 : decide (B < 0) = false := by simpa using h1
        have d2 : decide (400 < B) = true := by simpa using h2
        have HP := hide (unhide HF (by omega))
        obtain ⟨M, hM⟩ : ∃ M, l.length = M := ⟨_, rfl⟩
        obtain ⟨N, hN⟩ : ∃ N, s.length = N := ⟨_, rfl⟩
        rw [hM, hN] at CBA ⊢
        clear HF hll hM hN hc zl zs
        go_enter Try.func6, Try.ntmps6
        go_wp2_with fail
        refine (unhide CBA).mono ?_
        rintro e w1 ⟨A1, rfl, r1, hb1⟩
        go_wp2
        go_ret2
        exact unhide HP _ hb1
      · exact encode_on a cap l b capb s B w hr hs (hide hc) (by omega) (by omega)
  · have CBA := hide (bandsOf_no a cap l b capb s w hr hs zl (by omega) (hide hc))
    have HP : Hid (∀ w', Below w.heap.size w w' → EncSays l s B w (.returned (.tuple #[.slice none 0 0, .iface 52 (.int .i64 (cutF l s))])) w') := hide (fun w' hb => enc_fault (cutF_enc B hc) hc hb)
    obtain ⟨F, hF⟩ : ∃ F, cutF l s = F := ⟨_, rfl⟩
    rw [hF] at CBA HP
    obtain ⟨M, hM⟩ : ∃ M, l.length = M := ⟨_, rfl⟩
    obtain ⟨N, hN⟩ : ∃ N, s.length = N := ⟨_, rfl⟩
    rw [hM, hN] at CBA ⊢
    clear hF hM hN hc zl zs
    go_enter Try.func6, Try.ntmps6
    go_wp2_with fail
    refine (unhide CBA).mono ?_
    rintro e w1 ⟨rfl, hb1⟩
    go_wp2
    go_ret2
    exact unhide HP _ hb1

end Go.Proofs.Ythkibjhhlcfceai.Frm

/-
  More numbers of chapter 16: what is made is right. No program here.
-/
namespace Go.Proofs.Ythkibjhhlcfceai.Frm
open Go.Proofs.Ythkibjhhlcfceai.Tre Go.Proofs.Ythkibjhhlcfceai.Bnd Go.Proofs.Ythkibjhhlcfceai.Pls Go.Proofs.Ythkibjhhlcfceai.Gai Go.Proofs.Ythkibjhhlcfceai.Shr
set_option linter.unusedVariables false

theorem oneF_none' {ps : List Prt} (h : ∀ i, i < ps.length → gok (prt ps i).1 = true ∧ fault (prt ps i).2 = 0) : oneF ps = 0 := by
  induction ps with
  | nil => rfl
  | cons p ps ih =>
    have h0 : gok p.1 = true ∧ fault p.2 = 0 := h 0 (by simp)
    rw [oneF, if_pos h0.1, if_pos h0.2]
    exact ih fun i hi => h (i + 1) (by simpa using hi)
theorem twoF_none' {ps : List Prt} (h : ∀ i, i < ps.length → gok (prt ps i).1 = true ∧ fault (prt ps i).2 = 0) : twoF ps = 0 := by
  induction ps with
  | nil => rfl
  | cons p ps ih =>
    have h0 : gok p.1 = true ∧ fault p.2 = 0 := h 0 (by simp)
    rw [twoF, if_pos h0.2, if_pos h0.1]
    exact ih fun i hi => h (i + 1) (by simpa using hi)
theorem gok_gi {n : Nat} (h : n ≤ 8000) : gok (gi n : Int) = true := by
  have h := gi_near h
  unfold gok
  rw [Int.toNat_natCast, h.2.1]
  simp
  omega
/-- As many numbers as the first sizes say. -/
theorem long_pre {ps : List Prt} {s : List Int} (hl : ps.length = s.length) (h : ∀ i, i < ps.length → ((prt ps i).2.length : Int) = at0 s i) : ∀ k, k ≤ ps.length → long (ps.take k) = pre s k := by
  intro k
  induction k with
  | zero => intro _; rfl
  | succ k ih =>
    intro hk
    have e : ps.take (k + 1) = ps.take k ++ [prt ps k] := by rw [List.take_succ_eq_append_getElem (by omega), prt_get (by omega)]
    have h1 : long (ps.take (k + 1)) = long (ps.take k) + (prt ps k).2.length := by
      unfold long
      rw [e, List.map_append, List.sum_append]
      simp
    rw [h1, ih (by omega), pre_succ]
    have := h k (by omega)
    omega

/-- What is made is right. -/
structure Right (s : List Int) (B : Int) (ps : List Prt) : Prop where
  len : ps.length = s.length
  fit : ∀ i, i < ps.length → ((prt ps i).2.length : Int) = at0 s i
  ok : ∀ i, i < ps.length → gok (prt ps i).1 = true ∧ fault (prt ps i).2 = 0
  gets : ∀ i, i < ps.length → (loud (prt ps i).2 : Int) = at0 (given (gns ps) s B) i
theorem made_right {l s : List Int} {B : Int} {ps : List Prt} (h : encF l s B = 0) (hm : Made (cuts (Lap.lap l) s) s B ps) : Right s B ps := by
  obtain ⟨h1, h2, h3, h4, h5, h6, h7⟩ := encF_zero.1 h
  obtain ⟨n0, n8, hsz, n32⟩ := bf_ok h1
  have hll : (Lap.lap l).length = l.length := Lap.lap_length (by omega)
  have hsh := shaped_cuts (l := Lap.lap l) hsz (by rw [hll]; exact h2.symm)
  have hlen : ps.length = s.length := by rw [hm.1, cuts_length]
  have hgv : gns ps = gls (cuts (Lap.lap l) s) := hm.gns
  have hinv : Inv s (vals (gns ps)) B (given (gns ps) s B) := (share_is (d := vals (gns ps)) hsz n8 h5).1
  have key : ∀ i, i < ps.length → (at0 (given (gns ps) s B) i).toNat = 0 ∨ 0 < loud (rowAt (cuts (Lap.lap l) s) i) := fun i hi => by
    by_cases hz : loud (rowAt (cuts (Lap.lap l) s) i) = 0
    · left
      have e : at0 (vals (gns ps)) i = 0 := by
        rw [vals_at _ (by rw [gns_length]; exact hi), hgv, gls_at (by rw [cuts_length, ← hlen]; exact hi), hz]
        rfl
      rw [hinv.low i (by rw [hinv.len, ← hlen]; exact hi) e]
      rfl
    · right; omega
  have hpl : ∀ i, i < ps.length → 0 ≤ at0 (given (gns ps) s B) i ∧ at0 (given (gns ps) s B) i ≤ 8 := fun i hi => hinv.pls i (by rw [hinv.len, ← hlen]; exact hi)
  have hnr : ∀ i, i < ps.length → Nea.Near (rowAt (cuts (Lap.lap l) s) i) (at0 (given (gns ps) s B) i).toNat (prt ps i).2 := fun i hi => by
    rw [hgv]
    exact (hm.2 i (by rw [cuts_length, ← hlen]; exact hi)).2
  have hld : ∀ i, i < ps.length → loud (prt ps i).2 = (at0 (given (gns ps) s B) i).toNat := fun i hi => (hnr i hi).loud (key i hi)
  have hfit : ∀ i, i < ps.length → ((prt ps i).2.length : Int) = at0 s i := fun i hi => by
    rw [(hnr i hi).len]
    exact hsh.2 i (by rw [← hlen]; exact hi)
  refine ⟨hlen, hfit, fun i hi => ⟨?_, ?_⟩, fun i hi => ?_⟩
  · rw [(hm.2 i (by rw [cuts_length, ← hlen]; exact hi)).1]
    exact gok_gi (h7 i (by rw [← hlen]; exact hi))
  · have e1 := hld i hi
    have e2 := hpl i hi
    have e3 := hfit i hi
    have e4 := hsz i (by rw [← hlen]; exact hi)
    exact fault_none (by omega) (loud_all (by omega)) (by omega)
  · have e1 := hld i hi
    have e2 := hpl i hi
    omega
theorem Right.frm {s : List Int} {B : Int} {ps : List Prt} (h : Right s B ps) (h1 : bf s = 0) (h5 : 0 ≤ B ∧ B ≤ 400) : FrmF ps s B 0 :=
  Or.inr ⟨h1, Or.inr ⟨h.len, Or.inr ⟨h.fit, Or.inr ⟨oneF_none' h.ok, Or.inr ⟨h5, Or.inr ⟨h.gets, rfl⟩⟩⟩⟩⟩⟩
theorem Right.long {s : List Int} {B : Int} {ps : List Prt} (h : Right s B ps) : long ps = total s := by
  have := long_pre h.len h.fit ps.length (Nat.le_refl _)
  rw [List.take_length] at this
  rw [this, h.len]
  rfl
/-- Told, it is refused only because a number is too great. -/
theorem Right.dec {s : List Int} {B : Int} {ps : List Prt} (h : Right s B ps) (h1 : bf s = 0) (h2 : total s % 2 = 0) : decF ps = if (all ps).any (out 4000) = true then 1 else 0 := by
  obtain ⟨n0, n8, hsz, n32⟩ := bf_ok h1
  unfold decF
  rw [if_neg (by rw [h.len]; omega), if_neg (by rw [h.len, h.long]; omega), if_pos (twoF_none' h.ok), if_pos (by rw [h.long]; exact h2)]

/-- Numbers that are all 0. -/
theorem loud_zero {l : List Int} (h : loud l = 0) : l = List.replicate l.length 0 := by
  induction l with
  | nil => rfl
  | cons x l ih =>
    simp only [loud] at h
    have hx : x = 0 := by omega
    have hl := ih (by omega)
    rw [hx, List.length_cons, List.replicate_succ, ← hl]
theorem loud_rep (n : Nat) : loud (List.replicate n 0) = 0 := by
  induction n with
  | zero => rfl
  | succ n ih => rw [List.replicate_succ]; simp only [loud]; rw [ih]; rfl
theorem lap_zeros {n : Nat} (h : n % 2 = 0) : Lap.lap (List.replicate n 0) = List.replicate n 0 := by
  obtain ⟨m, rfl⟩ : ∃ m, n = 2 * m := ⟨n / 2, by omega⟩
  rw [Lap.lap_flat, List.replicate_append_replicate]
  congr 1
  omega
theorem unlap_zeros {n : Nat} (h : n % 2 = 0) : Lap.unlap (List.replicate n 0) = List.replicate n 0 := by
  have h1 := Lap.unlap_lap (l := List.replicate n (0 : Int)) (by rw [List.length_replicate]; omega)
  rwa [lap_zeros h] at h1
theorem told_zero {p : Prt} (h : loud p.2 = 0) : told p = List.replicate p.2.length 0 := by
  unfold told
  rw [h]
  refine List.eq_replicate_iff.2 ⟨by simp, fun x hx => ?_⟩
  obtain ⟨y, _, rfl⟩ := List.mem_map.1 hx
  simp [tl]
theorem all_zero {ps : List Prt} (h : ∀ i, i < ps.length → loud (prt ps i).2 = 0) : all ps = List.replicate (long ps) 0 := by
  induction ps with
  | nil => rfl
  | cons p ps ih =>
    have h0 : loud p.2 = 0 := h 0 (by simp)
    have h1 := ih fun i hi => h (i + 1) (by simpa using hi)
    have e1 : all (p :: ps) = told p ++ all ps := rfl
    have e2 : long (p :: ps) = p.2.length + long ps := by simp [long]
    rw [e1, e2, told_zero h0, h1, List.replicate_append_replicate]
/-- Silence: no gain, no pulse, told as silence. -/
theorem silent_zero {s : List Int} {B : Int} (h1 : bf s = 0) (h2 : total s % 2 = 0) (h5 : 0 ≤ B) (h6 : B ≤ 400) : encF (List.replicate (total s) 0) s B = 0 := by
  refine encF_zero.2 ⟨h1, by rw [List.length_replicate], h2, fun n hn => ?_, h5, h6, fun i hi => ?_⟩
  · obtain rfl := (List.mem_replicate.1 hn).2
    omega
  · rw [lap_zeros h2, cuts_at _ _ hi]
    unfold cutAt
    rw [List.drop_replicate, List.take_replicate, loud_rep]
    omega
theorem silent_made {s : List Int} {B : Int} {ps : List Prt} (h1 : bf s = 0) (h2 : total s % 2 = 0) (h5 : 0 ≤ B) (h6 : B ≤ 400) (hm : Made (cuts (Lap.lap (List.replicate (total s) 0)) s) s B ps) :
    Right s B ps ∧ (∀ i, i < ps.length → (prt ps i).1 = 0 ∧ loud (prt ps i).2 = 0) ∧ decF ps = 0 ∧ Lap.unlap (all ps) = List.replicate (total s) 0 := by
  obtain ⟨n0, n8, hsz, n32⟩ := bf_ok h1
  have hr := made_right (silent_zero h1 h2 h5 h6) hm
  have hlen := hr.len
  have hz : ∀ i, i < s.length → loud (rowAt (cuts (Lap.lap (List.replicate (total s) 0)) s) i) = 0 := fun i hi => by
    rw [lap_zeros h2, cuts_at _ _ hi]
    unfold cutAt
    rw [List.drop_replicate, List.take_replicate, loud_rep]
  have hg : ∀ i, i < ps.length → (prt ps i).1 = 0 := fun i hi => by
    rw [(hm.2 i (by rw [cuts_length, ← hlen]; exact hi)).1, hz i (by rw [← hlen]; exact hi)]
    rfl
  have hinv : Inv s (vals (gns ps)) B (given (gns ps) s B) := (share_is (d := vals (gns ps)) hsz n8 h5).1
  have hl : ∀ i, i < ps.length → loud (prt ps i).2 = 0 := fun i hi => by
    have e := hr.gets i hi
    have e2 : at0 (vals (gns ps)) i = 0 := by
      rw [vals_at _ (by rw [gns_length]; exact hi), gns_at hi, hg i hi]
      rfl
    rw [hinv.low i (by rw [hinv.len, ← hlen]; exact hi) e2] at e
    omega
  have ha := all_zero hl
  rw [hr.long] at ha
  refine ⟨hr, fun i hi => ⟨hg i hi, hl i hi⟩, ?_, by rw [ha]; exact unlap_zeros h2⟩
  rw [hr.dec h1 h2, if_neg]
  rw [Bool.not_eq_true, ha]
  refine any_of_in fun n hn => ?_
  obtain rfl := (List.mem_replicate.1 hn).2
  omega

end Go.Proofs.Ythkibjhhlcfceai.Frm

/-
  More numbers of chapter 16: what a frame tells of each band. No program here.
-/
namespace Go.Proofs.Ythkibjhhlcfceai.Frm
open Go.Proofs.Ythkibjhhlcfceai.Tre Go.Proofs.Ythkibjhhlcfceai.Bnd Go.Proofs.Ythkibjhhlcfceai.Pls Go.Proofs.Ythkibjhhlcfceai.Gai Go.Proofs.Ythkibjhhlcfceai.Shr
set_option linter.unusedVariables false

/-- How loud told pulses are. -/
def qs (v k : Nat) : List Int → Nat
  | [] => 0
  | x :: l => x.natAbs * v / k + qs v k l
theorem qs_append (v k : Nat) (l m : List Int) : qs v k (l ++ m) = qs v k l + qs v k m := by
  induction l with
  | nil => simp [qs]
  | cons x l ih => rw [List.cons_append, qs, qs, ih]; omega
theorem qs_take {v k : Nat} {l : List Int} {j : Nat} (h : j < l.length) : qs v k (l.take (j + 1)) = qs v k (l.take j) + (at0 l j).natAbs * v / k := by
  have e : at0 l j = l[j] := by simp [at0, h]
  rw [List.take_succ_eq_append_getElem h, qs_append, e]
  simp [qs]
theorem qs_up (v k : Nat) (l : List Int) : k * qs v k l ≤ v * loud l := by
  induction l with
  | nil => simp [qs]
  | cons x l ih =>
    have h := Nat.div_mul_le_self (x.natAbs * v) k
    rw [qs, loud, Nat.mul_add, Nat.mul_add, Nat.mul_comm k, Nat.mul_comm v x.natAbs]
    omega
theorem qs_lo {v k : Nat} (hk : 0 < k) (l : List Int) : v * loud l + l.length ≤ k * qs v k l + l.length * k := by
  induction l with
  | nil => simp [qs, loud]
  | cons x l ih =>
    have h := Nat.div_add_mod (x.natAbs * v) k
    have h2 := Nat.mod_lt (x.natAbs * v) hk
    rw [qs, loud, Nat.mul_add, Nat.mul_add, List.length_cons, Nat.add_mul, Nat.mul_comm v x.natAbs]
    omega
/-- No louder than the gain, nor by its pulses softer. -/
theorem qs_bound {v : Nat} {l : List Int} (hk : 0 < loud l) : qs v (loud l) l ≤ v ∧ v + 1 ≤ qs v (loud l) l + l.length := by
  have h1 := qs_up v (loud l) l
  have h2 := qs_lo (v := v) hk l
  refine ⟨Nat.le_of_mul_le_mul_left (by rw [Nat.mul_comm (loud l) v]; exact h1) hk, ?_⟩
  have hl : 0 < l.length := by
    cases l with
    | nil => simp [loud] at hk
    | cons x l => simp
  apply Decidable.byContradiction
  intro hn
  have h3 : qs v (loud l) l + l.length ≤ v := by omega
  have h4 : loud l * (qs v (loud l) l + l.length) ≤ loud l * v := Nat.mul_le_mul_left _ h3
  rw [Nat.mul_add, Nat.mul_comm (loud l) l.length, Nat.mul_comm (loud l) v] at h4
  omega
theorem qs_none (v : Nat) (l : List Int) : qs v 0 l = 0 := by
  induction l with
  | nil => rfl
  | cons x l ih => rw [qs, ih]; simp
theorem tl_abs (v k : Nat) (x : Int) : (tl (v : Int) (k : Int) x).natAbs = x.natAbs * v / k := by
  have e : ((x.natAbs : Int) * (v : Int) / (k : Int)) = ((x.natAbs * v / k : Nat) : Int) := by rw [Int.natCast_ediv, Int.natCast_mul]
  unfold tl
  rw [e, Int.natAbs_mul, Int.natAbs_natCast]
  rcases Int.lt_trichotomy x 0 with h | h | h
  · rw [Int.sign_eq_neg_one_of_neg h]; simp
  · subst h; simp
  · rw [Int.sign_eq_one_of_pos h]; simp
/-- Where a band's numbers are told. -/
theorem all_at {s : List Int} {B : Int} {ps : List Prt} (h : Right s B ps) {i j : Nat} (hi : i < ps.length) (hj : j < (prt ps i).2.length) :
    at0 (all ps) (pre s i + j) = tl (vl (prt ps i).1.toNat) (loud (prt ps i).2) (at0 (prt ps i).2 j) := by
  have e : ps = ps.take i ++ prt ps i :: ps.drop (i + 1) := by
    conv => lhs; rw [← List.take_append_drop i ps]
    rw [List.drop_eq_getElem_cons hi, prt_get hi]
  have e2 : all ps = all (ps.take i) ++ (told (prt ps i) ++ all (ps.drop (i + 1))) := by
    conv => lhs; rw [e]
    unfold all
    rw [List.map_append, List.map_cons, List.flatten_append, List.flatten_cons]
  have e3 : (all (ps.take i)).length = pre s i := by rw [all_length]; exact long_pre h.len h.fit i (by omega)
  have e4 : at0 (prt ps i).2 j = (prt ps i).2[j] := by simp [at0, hj]
  unfold at0
  rw [e2, List.getElem?_append_right (by omega), e3, Nat.add_sub_cancel_left, List.getElem?_append_left (by rw [told_length]; exact hj)]
  unfold told
  rw [List.getElem?_map, List.getElem?_eq_getElem hj, ← e4]
  rfl
theorem all_abs {s : List Int} {B : Int} {ps : List Prt} (h : Right s B ps) {i j : Nat} (hi : i < ps.length) (hj : j < (prt ps i).2.length) :
    (at0 (all ps) (pre s i + j)).natAbs = (at0 (prt ps i).2 j).natAbs * vl (prt ps i).1.toNat / loud (prt ps i).2 := by
  rw [all_at h hi hj, tl_abs]
/-- The pulses of all bands. -/
def lds (ps : List Prt) : List Int := ps.map fun p => (loud p.2 : Int)
theorem lds_length (ps : List Prt) : (lds ps).length = ps.length := by simp [lds]
theorem lds_at {ps : List Prt} {i : Nat} (h : i < ps.length) : at0 (lds ps) i = (loud (prt ps i).2 : Int) := by
  unfold at0 lds
  rw [List.getElem?_map, List.getElem?_eq_getElem h, prt_get h]
  rfl
theorem Right.costs {s : List Int} {B : Int} {ps : List Prt} (h : Right s B ps) (h1 : bf s = 0) (h5 : 0 ≤ B) : lds ps = given (gns ps) s B ∧ costF s (lds ps) = 0 ∧ (cost s (lds ps) : Int) ≤ B := by
  obtain ⟨n0, n8, hsz, n32⟩ := bf_ok h1
  have hinv : Inv s (vals (gns ps)) B (given (gns ps) s B) := (share_is (d := vals (gns ps)) hsz n8 h5).1
  have e : lds ps = given (gns ps) s B := by
    refine eq_of_at (by rw [lds_length, hinv.len, h.len]) fun i hi => ?_
    rw [lds_length] at hi
    rw [lds_at hi, h.gets i hi]
  refine ⟨e, ?_, by rw [e]; exact hinv.cst⟩
  refine costF_zero.2 ⟨h1, by rw [lds_length, h.len], fun i hi => ?_⟩
  rw [e] at hi ⊢
  exact hinv.pls i hi
/-- The fact of two eights. -/
theorem fact_enc : encF [8, 8] [2] 10 = 0 := by decide +kernel
theorem fact_cuts : cuts (Lap.lap [8, 8]) [2] = [[8, 0]] := by decide +kernel
theorem fact_given : given (gls [[8, 0]]) [2] 10 = [8] := by decide +kernel
theorem fact_near : Nea.Near [8, 0] 8 [8, 0] := ⟨fun _ => false, by
  have e : Nea.lft [8, 0] 8 = 0 := by decide +kernel
  rw [e]
  exact Nea.pick_zero _ _, by decide +kernel⟩
theorem fact_made {ps : List Prt} (h : Made (cuts (Lap.lap [8, 8]) [2]) [2] 10 ps) : ps = [(13, [8, 0])] := by
  rw [fact_cuts] at h
  refine h.one ⟨rfl, fun i hi => ?_⟩
  obtain rfl : i = 0 := by simpa using hi
  refine ⟨by decide +kernel, ?_⟩
  rw [fact_given]
  exact fact_near

end Go.Proofs.Ythkibjhhlcfceai.Frm
