/-
  frame.Encode: by its contract.
-/
import Derived.Test.YtjojeifoddonnakGreatLc09
import Derived.Test.YtjojeifoddonnakGreatLc25
import Derived.Test.YtjojeifoddonnakGreatLc32
import Derived.Test.YtjojeifoddonnakGreatLc42
import Derived.Test.YtjojeifoddonnakGreatLc18
namespace Go.Proofs.YtjojeifoddonnakGreat.Frm
open Go.RowKit
open Go.Proofs.YtjojeifoddonnakGreat.Tre Go.Proofs.YtjojeifoddonnakGreat.Bnd Go.Proofs.YtjojeifoddonnakGreat.Pls Go.Proofs.YtjojeifoddonnakGreat.Gai Go.Proofs.YtjojeifoddonnakGreat.Shr Go.Proofs.YtjojeifoddonnakGreat.Ev
set_option linter.unusedVariables false

/-- What Encode tells: new memory. -/
def EncNew (l s : List Int) (B : Int) (w : World) (e : Ending) (w' : World) : Prop :=
  ∃ p q ps, e = .returned (.tuple #[.slice p ps.length q, errV (encF l s B)]) ∧ PtsN w.heap.size w' p ps ∧ ps.length ≤ q ∧ q ≤ 9223372036854775807 ∧ EncL l s B ps ∧ Below w.heap.size w w'
theorem enc_fault {l s : List Int} {B F : Int} {w w' : World} (h : encF l s B = F) (hF : F ≠ 0) (hb : Below w.heap.size w w') : EncNew l s B w (.returned (.tuple #[.slice none 0 0, .iface 60 (.int .i64 F)])) w' :=
  ⟨none, 0, [], by rw [h, errV_ne hF]; rfl, Or.inl rfl, Nat.le_refl _, by omega, Or.inl ⟨by rw [h]; exact hF, rfl⟩, hb⟩

set_option maxRecDepth 100000 in
set_option maxHeartbeats 8000000 in
theorem encode_on (a : Option Addr) (cap : Nat) (l : List Int) (b : Option Addr) (capb : Nat) (s : List Int) (B : Int) (w : World) (hr : Row w a l) (hs : Row w b s) (hc : Hid (cutF l s = 0)) (hB0 : 0 ≤ B) (hB4 : B ≤ 400) :
    Calls Tryz.prog 8 #[.slice a l.length cap, .slice b s.length capb, .int .i64 B] w fun e w' => EncNew l s B w e w' := by
  obtain ⟨h1, e1, e3⟩ := cutF_zero (unhide hc)
  obtain ⟨n0, n8, hsz, n32⟩ := bf_ok h1
  obtain ⟨k1, k2, hin⟩ := Lap.chk_zero e3
  have H1 := hide h1
  have HSZ := hide hsz
  have CBA := hide (bandsOf_ok a cap l b capb s w hr hs hc)
  have HLL := hide (Lap.lap_length k2)
  have hin2 := (Lap.lap_in (b := 1000) (by omega) hin).mono (c := 4000) (by omega)
  have HCU := hide (shaped_cuts (l := Lap.lap l) hsz (by rw [unhide HLL]; exact e1.symm))
  have HCL := hide (cuts_length (Lap.lap l) s)
  have HIN : Hid (∀ i, i < s.length → In 4000 (rowAt (cuts (Lap.lap l) s) i) ∧ (rowAt (cuts (Lap.lap l) s) i).length ≤ 6) := hide (fun i hi => by
    refine ⟨?_, ?_⟩
    · rw [cuts_at _ _ hi]
      exact (hin2.drop _).take _
    · have := (unhide HCU).2 i hi
      have := hsz i hi
      omega)
  have HGL : Hid (∀ i, i < s.length → _) := hide (fun i hi => given_low (ll := cuts (Lap.lap l) s) (B := B) hsz n8 hB0 (unhide HCL) hi)
  have HE4 : Hid (∀ i, i < s.length → 8000 < loud (rowAt (cuts (Lap.lap l) s) i) → encF l s B = 4) := hide (fun i hi h => by
    unfold encF
    rw [if_pos h1, if_pos ⟨e1, by omega⟩, if_pos ⟨any_of_in hin, hB0, hB4⟩, if_pos]
    refine List.any_eq_true.2 ⟨rowAt (cuts (Lap.lap l) s) i, ?_, by simp [tooLoud, h]⟩
    rw [rowAt_get (by rw [unhide HCL]; exact hi)]
    exact List.getElem_mem _)
  have HE0 : Hid ((∀ i, i < s.length → loud (rowAt (cuts (Lap.lap l) s) i) ≤ 8000) → encF l s B = 0) := hide (fun h => encF_zero.2 ⟨h1, e1, by omega, hin, hB0, hB4, h⟩)
  have HMD : Hid (∀ ps : List Prt, ps.length = s.length → (∀ i, i < s.length → (prt ps i).1 = at0 (gls (cuts (Lap.lap l) s)) i ∧ Nea.Near (rowAt (cuts (Lap.lap l) s) i) (at0 (given (gls (cuts (Lap.lap l) s)) s B) i).toNat (prt ps i).2) → Made (cuts (Lap.lap l) s) s B ps) := hide (fun ps h1 h2 => by
    refine ⟨by rw [h1, unhide HCL], fun i hi => ?_⟩
    rw [unhide HCL] at hi
    obtain ⟨g1, g2⟩ := h2 i hi
    rw [gls_at (by rw [unhide HCL]; exact hi)] at g1
    exact ⟨g1, g2⟩)
  have HGA : Hid (∀ i, i < s.length → at0 (gls (cuts (Lap.lap l) s)) i = (gi (loud (rowAt (cuts (Lap.lap l) s) i)) : Int)) := hide (fun i hi => gls_at (by rw [unhide HCL]; exact hi))
  have HGN := hide (gls_length (cuts (Lap.lap l) s))
  rw [unhide HCL] at HGN
  have CGN := hide (fun W A C h => gainsOnly A C (cuts (Lap.lap l) s) W h (by rw [unhide HCL]; exact n8) (hide (fun i hi => unhide HIN i (by rw [unhide HCL] at hi; exact hi))))
  obtain ⟨ll, hll⟩ : ∃ ll, cuts (Lap.lap l) s = ll := ⟨_, rfl⟩
  rw [hll] at CBA HCU HCL HIN HGL HE4 HE0 HMD HGA HGN CGN
  have HOK : Hid (encF l s B = 0 → ∀ ps p q w', PtsN w.heap.size w' p ps → ps.length ≤ q → q ≤ 9223372036854775807 → Made ll s B ps → Below w.heap.size w w' → EncNew l s B w (.returned (.tuple #[.slice p ps.length q, .nilIface])) w') := hide (fun h ps p q w' h1 h2 h3 h4 h5 => ⟨p, q, ps, by rw [h]; rfl, h1, h2, h3, Or.inr ⟨h, by rw [hll]; exact h4⟩, h5⟩)
  have HNO : Hid (encF l s B = 4 → ∀ w', Below w.heap.size w w' → EncNew l s B w (.returned (.tuple #[.slice none 0 0, .iface 60 (.int .i64 4)])) w') := hide (fun h w' hb => enc_fault h (by omega) hb)
  obtain ⟨M, hM⟩ : ∃ M, l.length = M := ⟨_, rfl⟩
  rw [hM] at CBA ⊢
  obtain ⟨N, hN⟩ : ∃ N, s.length = N := ⟨_, rfl⟩
  have HN := hide hN
  rw [hN] at CBA HCL HIN HGL HE4 HE0 HMD HGA HGN n0 n8 ⊢
  have d1 : decide (B < 0) = false := by simp; omega
  have d2 : decide (400 < B) = false := by simp; omega
  clear hll hM hN e1 e3 k1 k2 hin hin2 hsz hc n32 h1 HCU HLL
  go_enter Tryz.func8, Tryz.ntmps8
  go_wp2_with fail
  refine (unhide CBA).mono ?_
  rintro e w1 ⟨A1, rfl, r1, hb1⟩
  have CG := unhide CGN w1 A1 N r1
  rw [unhide HCL] at CG
  clear CBA CGN
  go_wp2_with fail
  refine CG.mono ?_
  clear CG
  rintro e w2 ⟨hsay, hb2⟩
  have hB2 := Below.chain hb1 hb2
  rcases hsay with ⟨⟨i, hi, hi8⟩, rfl⟩ | ⟨hlo, v2, rfl, k2⟩
  · have HP := hide (unhide HNO (unhide HE4 i (by rw [← unhide HCL]; exact hi) hi8) w2 hB2)
    clear HNO HOK HE4 HE0 HMD HGA HGL hi hi8
    go_wp2
    go_ret2
    exact unhide HP
  · rw [unhide HCL] at hlo k2
    have HE := hide (unhide HE0 hlo)
    have HLO := hide hlo
    have HQL := hide (q0_length (gs := gls ll) (k := N) (by rw [unhide HGN]; exact Nat.le_refl _))
    obtain ⟨g, c, rfl, hg1, hg2, -, -⟩ := k2.one (by rw [unhide HQL]; exact n0)
    obtain ⟨a5, c5, ee, pt5, -, -⟩ := k2.pts (ps := bare (gls ll)) (by rw [bare_length, unhide HGN, unhide HQL]) (fun r hr => by
      rw [bare_length, unhide HGN] at hr
      rw [bare_at (by rw [unhide HGN]; exact hr)]
      exact ⟨_, q0_at hr (by rw [unhide HGN]; exact Nat.le_refl _), sli_nil _⟩)
    obtain ⟨ea, eb, ec⟩ := Value.slice.inj ee
    subst ea ec
    have CGV := pulsesFor (some ⟨g, 0, none⟩) c (bare (gls ll)) b capb s B w2 pt5 (hs.below hB2) H1 (by rw [bare_length, unhide HGN, unhide HN]) (hide (fun i hi => by
      rw [bare_length, unhide HGN] at hi
      rw [bare_at (by rw [unhide HGN]; exact hi), unhide HGA i hi]
      have h := gi_near (unhide HLO i hi)
      unfold gok
      rw [Int.toNat_natCast, h.2.1]
      simp
      omega))
    rw [bare_length, unhide HGN, unhide HN] at CGV
    have HBG := hide (bare_gns (gls ll))
    rw [unhide HQL]
    have HA0 : Hid (∀ r, r < N → ∃ V, (q0 (gls ll) N)[r]? = some (at0 (gls ll) r, V)) := hide (fun r hr => ⟨_, q0_at hr (by rw [unhide HGN]; exact Nat.le_refl _)⟩)
    have HGVL : Hid ((given (gls ll) s B).length = N) := hide (by rw [(given_is (gs := gls ll) (unhide HSZ) (by rw [unhide HN]; exact n8) hB0).len, unhide HN])
    obtain ⟨gs, hgs⟩ : ∃ gs, gls ll = gs := ⟨_, rfl⟩
    rw [hgs] at CGV HA0 HGVL HGL HMD k2 HQL HGN HBG
    obtain ⟨gv, hgv⟩ : ∃ gv, given gs s B = gv := ⟨_, rfl⟩
    have HGV := hide hgv
    rw [hgv] at HGVL HGL HMD
    obtain ⟨qs0, hqs⟩ : ∃ qs0, q0 gs N = qs0 := ⟨_, rfl⟩
    rw [hqs] at HA0 k2 HQL
    rw [unhide HQL] at k2
    clear hgs hgv hqs ee eb pt5 HE0 HE4 HLO HGA HNO hlo hB2
    go_wp2_with fail
    refine CGV.mono ?_
    rintro e w3 ⟨hsay, hb3⟩
    clear CGV
    rcases hsay with ⟨hno, -⟩ | ⟨-, v3, rfl, k3⟩
    · exact absurd ⟨hB0, hB4⟩ hno
    rw [unhide HBG, unhide HGV] at k3
    have hB3 := Below.chain hb2 hb3
    have h13 := hB3.size
    have k2' := k2.below hb3
    have hgw : g < w3.heap.size := Nat.lt_of_lt_of_le hg2 hb3.size
    obtain ⟨g7, c7, rfl, hg7, hg8, -, -⟩ := k3.one (by rw [unhide HGVL]; exact n0)
    rw [unhide HGVL]
    obtain ⟨n5, hn5⟩ : ∃ n5, w2.heap.size = n5 := ⟨_, rfl⟩
    rw [hn5] at k3 hg2 hg7
    rw [unhide HGVL] at k3
    clear k2 hb3 hb2 hn5 HBG HGV
    go_wp2
    go_loopw [50] (fun i wq => ∃ (j : Nat) (qs : List (Int × Value)), j ≤ N ∧ i = .int .i64 j ∧ HasP wq w1.heap.size (.slice (some ⟨g, 0, none⟩) N c) qs ∧ Hid (qs.length = N) ∧ Hid (∀ r, r < N → ∃ V, qs[r]? = some (at0 gs r, V)) ∧
        Hid (∀ r, r < j → ∃ V l, qs[r]? = some (at0 gs r, V) ∧ Has wq w3.heap.size V l ∧ Nea.Near (rowAt ll r) (at0 gv r).toNat l) ∧ Has wq n5 (.slice (some ⟨g7, 0, none⟩) N c7) gv ∧ Below w1.heap.size w1 wq ∧ w3.heap.size ≤ wq.heap.size) (fun i _ => N - (intOf i).toNat)
    case atStart => exact ⟨0, qs0, Nat.zero_le _, rfl, k2', HQL, HA0, hide (fun r hr => by omega), k3, hB3, Nat.le_refl _⟩
    case round =>
      clear k2' HQL HA0 k3 hB3
      rename World => wq
      obtain ⟨j, qs, hj, rfl, hS, HQ, HA, HD, hK, hB, hsq⟩ := hrel
      by_cases hlt : j < N
      · have hlt' : j < ll.length := by rw [unhide HCL]; exact hlt
        obtain ⟨b1, off1, rfl, _, hc1⟩ := (r1.below hB).at hlt'
        obtain ⟨A, C, c1, c2, c3, c4, c5⟩ := hc1 j hlt'
        obtain ⟨i1, i2⟩ := unhide HIN j hlt
        obtain ⟨l1, l2, l3⟩ := unhide HGL j hlt
        have ck := hK.get (j := j) (by rw [unhide HGVL]; exact hlt)
        obtain ⟨V0, hV0⟩ := unhide HA j hlt
        obtain ⟨K, hKK⟩ : ∃ K : Nat, at0 gv j = K := ⟨(at0 gv j).toNat, by omega⟩
        have HK := hide hKK
        rw [hKK] at l2 l3 ck
        rw [Int.toNat_natCast] at l3
        obtain ⟨r, hrr⟩ : ∃ r, rowAt ll j = r := ⟨_, rfl⟩
        have HRR := hide hrr
        rw [hrr] at c1 c3 c5 i1 i2 l3
        have CNE := hide (Nea.spread_ok A C r K wq c5 i2 i1 (by omega) (hide l3))
        obtain ⟨R, hR⟩ : ∃ R, r.length = R := ⟨_, rfl⟩
        rw [hR] at c1 c3 CNE i2
        clear hc1 hrr hR hKK hlt' c2 c5 i1 l1 l3
        go_wp2_with fail
        refine (unhide CNE).mono ?_
        rintro e w9 ⟨v9, l9, rfl, k9, HN9, hbb⟩
        obtain ⟨pa, na, ca, rfl⟩ := k9.shape
        have hS9 := hS.below hbb
        have f9 := hS9.frozen (unhide HQ).symm (j * 2 + 1)
        obtain ⟨-, o9⟩ := hS9.get (unhide HQ).symm hV0
        obtain ⟨m1, m2, m3⟩ := parts_put (P := fun r l => Nea.Near (rowAt ll r) (at0 gv r).toNat l) hS (unhide HQ) hlt hgw hsq (unhide HA) (unhide HD) k9 (by show Nea.Near (rowAt ll j) (at0 gv j).toNat l9; rw [unhide HRR, unhide HK, Int.toNat_natCast]; exact unhide HN9) hbb
        have HQ2 : Hid ((qs.set j (at0 gs j, .slice pa na ca)).length = N) := hide (by rw [List.length_set]; exact unhide HQ)
        have hK9 := (hK.below hbb).kept (grownBy_setCellAt w9 g (j * 2 + 1) (.slice pa na ca)) (Or.inr (by intro e; have e2 : g7 = g := Option.some.inj e; omega))
        have hB9 := (hB.trans (hbb.mono hB.size)).setCell (p := ⟨g, j * 2 + 1, none⟩) hg1 (.slice pa na ca)
        have hs9 : w3.heap.size ≤ (w9.setCell ⟨g, j * 2 + 1, none⟩ (.slice pa na ca)).heap.size := by simpa using Nat.le_trans hsq hbb.size
        have Q1 := hide m1
        have Q2 := hide m2
        have Q3 := hide m3
        have Q4 := hide hK9
        have Q5 := hide hB9
        have Q6 := hide hs9
        clear m1 m2 m3 hK9 hB9 hs9 CNE
        go_wp2
        go_roundw
        case rel => exact ⟨j + 1, _, by omega, by go_num, unhide Q1, HQ2, Q2, Q3, unhide Q4, unhide Q5, unhide Q6⟩
        case measure => simp [intOf]; omega
      · obtain rfl : j = N := by omega
        obtain ⟨ps, y1, y2, aa, cc, ye, y3, y4, y5⟩ := parts_new hS h13 (by rw [unhide HQ, unhide HGN]) (fun r hr => unhide HD r (by rw [← unhide HGN]; exact hr))
        have HM : Hid (Made ll s B ps) := hide (unhide HMD ps (by rw [y1, unhide HGN]) (fun i hi => y2 i (by rw [unhide HGN]; exact hi)))
        have HP := hide (unhide HOK (unhide HE) ps aa cc wq (y3.mono hb1.size) y4 y5 (unhide HM) (Below.chain hb1 hB))
        rw [← ye] at HP
        clear y1 y2 y3 y4 y5 ye HM
        go_wp2
        go_ret2
        exact unhide HP

set_option maxRecDepth 100000 in
set_option maxHeartbeats 4000000 in
theorem encodeN (a : Option Addr) (cap : Nat) (l : List Int) (b : Option Addr) (capb : Nat) (s : List Int) (B : Int) (w : World) (hr : Row w a l) (hs : Row w b s) (zl : l.length ≤ 9223372036854775807) (zs : s.length ≤ 17592186044416) :
    Calls Tryz.prog 8 #[.slice a l.length cap, .slice b s.length capb, .int .i64 B] w fun e w' => EncNew l s B w e w' := by
  by_cases hc : cutF l s = 0
  · have HF : Hid (¬ (0 ≤ B ∧ B ≤ 400) → ∀ w', Below w.heap.size w w' → EncNew l s B w (.returned (.tuple #[.slice none 0 0, .iface 60 (.int .i64 1)])) w') := hide (fun h w' hb => enc_fault (by
      obtain ⟨h1, e1, e3⟩ := cutF_zero hc
      obtain ⟨n0, n8, hsz, n32⟩ := bf_ok h1
      obtain ⟨k1, k2, hin⟩ := Lap.chk_zero e3
      unfold encF
      rw [if_pos h1, if_pos ⟨e1, by omega⟩, if_neg (fun h' => h h'.2)]) (by omega) hb)
    have CBA := hide (bandsOf_ok a cap l b capb s w hr hs (hide hc))
    obtain ⟨ll, hll⟩ : ∃ ll, cuts (Lap.lap l) s = ll := ⟨_, rfl⟩
    rw [hll] at CBA
    by_cases h1 : B < 0
    · have d1 : decide (B < 0) = true := by simpa using h1
      have HP := hide (unhide HF (by omega))
      obtain ⟨M, hM⟩ : ∃ M, l.length = M := ⟨_, rfl⟩
      obtain ⟨N, hN⟩ : ∃ N, s.length = N := ⟨_, rfl⟩
      rw [hM, hN] at CBA ⊢
      clear HF hll hM hN hc zl zs
      go_enter Tryz.func8, Tryz.ntmps8
      go_wp2_with fail
      refine (unhide CBA).mono ?_
      rintro e w1 ⟨A1, rfl, r1, hb1⟩
      go_wp2
      go_ret2
      exact unhide HP _ hb1
    · by_cases h2 : 400 < B
      · have d1 : decide (B < 0) = false := by simpa using h1
        have d2 : decide (400 < B) = true := by simpa using h2
        have HP := hide (unhide HF (by omega))
        obtain ⟨M, hM⟩ : ∃ M, l.length = M := ⟨_, rfl⟩
        obtain ⟨N, hN⟩ : ∃ N, s.length = N := ⟨_, rfl⟩
        rw [hM, hN] at CBA ⊢
        clear HF hll hM hN hc zl zs
        go_enter Tryz.func8, Tryz.ntmps8
        go_wp2_with fail
        refine (unhide CBA).mono ?_
        rintro e w1 ⟨A1, rfl, r1, hb1⟩
        go_wp2
        go_ret2
        exact unhide HP _ hb1
      · exact encode_on a cap l b capb s B w hr hs (hide hc) (by omega) (by omega)
  · have CBA := hide (bandsOf_no a cap l b capb s w hr hs zl (by omega) (hide hc))
    have HP : Hid (∀ w', Below w.heap.size w w' → EncNew l s B w (.returned (.tuple #[.slice none 0 0, .iface 60 (.int .i64 (cutF l s))])) w') := hide (fun w' hb => enc_fault (cutF_enc B hc) hc hb)
    obtain ⟨F, hF⟩ : ∃ F, cutF l s = F := ⟨_, rfl⟩
    rw [hF] at CBA HP
    obtain ⟨M, hM⟩ : ∃ M, l.length = M := ⟨_, rfl⟩
    obtain ⟨N, hN⟩ : ∃ N, s.length = N := ⟨_, rfl⟩
    rw [hM, hN] at CBA ⊢
    clear hF hM hN hc zl zs
    go_enter Tryz.func8, Tryz.ntmps8
    go_wp2_with fail
    refine (unhide CBA).mono ?_
    rintro e w1 ⟨rfl, hb1⟩
    go_wp2
    go_ret2
    exact unhide HP _ hb1

/-- .. and so as it lies somewhere. -/
theorem encode (a : Option Addr) (cap : Nat) (l : List Int) (b : Option Addr) (capb : Nat) (s : List Int) (B : Int) (w : World) (hr : Row w a l) (hs : Row w b s) (zl : l.length ≤ 9223372036854775807) (zs : s.length ≤ 17592186044416) :
    Calls Tryz.prog 8 #[.slice a l.length cap, .slice b s.length capb, .int .i64 B] w fun e w' => EncSays l s B w e w' :=
  (encodeN a cap l b capb s B w hr hs zl zs).mono fun e w' ⟨p, q, ps, h1, h2, h3, h4, h5, h6⟩ => ⟨p, q, ps, h1, h2.pts, h3, h4, h5, h6⟩

end Go.Proofs.YtjojeifoddonnakGreat.Frm
