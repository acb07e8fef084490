/-
  hornref2.Encode: by its contract.
-/
import Derived.Test.YthkibjhhlcfceaiGreatDoorCh33
import Derived.Test.YthkibjhhlcfceaiGreatDoorCh13
import Derived.Test.YthkibjhhlcfceaiGreatDoorCh35
import Derived.Test.YthkibjhhlcfceaiGreatDoorCh37
import Derived.Test.YthkibjhhlcfceaiGreatDoorCh34
import Derived.Test.YthkibjhhlcfceaiGreatDoorCh05
namespace Go.Proofs.YthkibjhhlcfceaiGreatDoor.Frm
open Go.RowKit
open Go.Proofs.YthkibjhhlcfceaiGreatDoor.Tre Go.Proofs.YthkibjhhlcfceaiGreatDoor.Bnd Go.Proofs.YthkibjhhlcfceaiGreatDoor.Pls Go.Proofs.YthkibjhhlcfceaiGreatDoor.Gai Go.Proofs.YthkibjhhlcfceaiGreatDoor.Shr
set_option linter.unusedVariables false

/-- What Encode answers. -/
def EncPost (l s : List Int) (B : Int) (w : World) (e : Ending) (w' : World) : Prop :=
  ((encF l s B ≠ 0 ∧ e = .returned (.tuple #[.slice none 0 0, .int .i64 (encF l s B)])) ∨ (encF l s B = 0 ∧ ∃ p q ps, e = .returned (.tuple #[.slice p ps.length q, .int .i64 0]) ∧ Pts w' p ps ∧ ps.length ≤ q ∧ q ≤ 9223372036854775807 ∧ Made (cuts (Lap.lap l) s) s B ps)) ∧ Below w.heap.size w w'
theorem enc_no {l s : List Int} {B F : Int} {w w' : World} (h : encF l s B = F) (hF : F ≠ 0) (hb : Below w.heap.size w w') : EncPost l s B w (.returned (.tuple #[.slice none 0 0, .int .i64 F])) w' := ⟨Or.inl ⟨by rw [h]; exact hF, by rw [h]⟩, hb⟩

set_option maxRecDepth 100000 in
set_option maxHeartbeats 8000000 in
theorem refEncode_ok (a : Option Addr) (cap : Nat) (l : List Int) (b : Option Addr) (capb : Nat) (s : List Int) (B : Int) (w : World) (hr : Row w a l) (hs : Row w b s) (h1 : Hid (bf s = 0)) (h2 : Hid (l.length = total s ∧ total s % 2 = 0)) (h3 : Hid (l.any (out 1000) = false)) (hB0 : 0 ≤ B) (hB4 : B ≤ 400) :
    Calls Tryz.prog 5 #[.slice a l.length cap, .slice b s.length capb, .int .i64 B] w fun e w' => EncPost l s B w e w' := by
  obtain ⟨n0, n8, hsz, n32⟩ := bf_ok (unhide h1)
  have HSZ := hide hsz
  obtain ⟨e1, e2⟩ := unhide h2
  have heven := hide (total_even e1 e2)
  have hin := in_of_any (unhide h3)
  have hlen : l.length ≤ 32 := by omega
  have CBA := hide (fun W h => refBands_ok b capb s W (by omega) h h1)
  have CAL := hide (fun W h => refAll 1000 a cap l W (by omega) (by omega) (by omega) h)
  rw [unhide h3, Bool.not_false] at CAL
  have CLA := hide (fun W h => Lap.refLap a cap l W hlen heven hin h)
  have HLL := hide (Lap.lap_length (unhide heven))
  have hin2 := (Lap.lap_in (b := 1000) (by omega) hin).mono (c := 4000) (by omega)
  have CCU := hide (fun W q c hq hm hm9 h => refCut q c (Lap.lap l) b capb s W hq hm hm9 h h1 (hide (by rw [unhide HLL]; exact e1.symm)))
  have HCU := hide (shaped_cuts (l := Lap.lap l) hsz (by rw [unhide HLL]; exact e1.symm))
  have HCL := hide (cuts_length (Lap.lap l) s)
  have HIN : Hid (∀ i, i < s.length → In 4000 (rowAt (cuts (Lap.lap l) s) i) ∧ (rowAt (cuts (Lap.lap l) s) i).length ≤ 6) := hide (fun i hi => by
    refine ⟨?_, ?_⟩
    · rw [cuts_at _ _ hi]
      exact (hin2.drop _).take _
    · have := (unhide HCU).2 i hi
      have := hsz i hi
      omega)
  have HGL : Hid (∀ i, i < s.length → _) := hide (fun i hi => given_low (ll := cuts (Lap.lap l) s) (B := B) hsz n8 hB0 (unhide HCL) hi)
  have HE4 : Hid (∀ i, i < s.length → 8000 < loud (rowAt (cuts (Lap.lap l) s) i) → encF l s B = 4) := hide (fun i hi h => by
    unfold encF
    rw [if_pos (unhide h1), if_pos (unhide h2), if_pos ⟨unhide h3, hB0, hB4⟩, if_pos]
    refine List.any_eq_true.2 ⟨rowAt (cuts (Lap.lap l) s) i, ?_, by simp [tooLoud, h]⟩
    rw [rowAt_get (by rw [unhide HCL]; exact hi)]
    exact List.getElem_mem _)
  have HE0 : Hid ((∀ i, i < s.length → loud (rowAt (cuts (Lap.lap l) s) i) ≤ 8000) → encF l s B = 0) := hide (fun h => encF_zero.2 ⟨unhide h1, e1, e2, hin, hB0, hB4, h⟩)
  have HMD : Hid (∀ ps : List Prt, ps.length = s.length → (∀ i, i < s.length → (prt ps i).1 = at0 (gls (cuts (Lap.lap l) s)) i ∧ Nea.Near (rowAt (cuts (Lap.lap l) s) i) (at0 (given (gls (cuts (Lap.lap l) s)) s B) i).toNat (prt ps i).2) → Made (cuts (Lap.lap l) s) s B ps) := hide (fun ps h1 h2 => by
    refine ⟨by rw [h1, unhide HCL], fun i hi => ?_⟩
    rw [unhide HCL] at hi
    obtain ⟨g1, g2⟩ := h2 i hi
    rw [gls_at (by rw [unhide HCL]; exact hi)] at g1
    exact ⟨g1, g2⟩)
  have HGA : Hid (∀ i, i < s.length → at0 (gls (cuts (Lap.lap l) s)) i = (gi (loud (rowAt (cuts (Lap.lap l) s) i)) : Int)) := hide (fun i hi => gls_at (by rw [unhide HCL]; exact hi))
  have HGN := hide (gls_length (cuts (Lap.lap l) s))
  rw [unhide HCL] at HGN
  have htm : Int.tmod ((total s : Nat) : Int) 2 = 0 := by rw [Int.tmod_eq_emod_of_nonneg (by omega)]; omega
  obtain ⟨ll, hll⟩ : ∃ ll, cuts (Lap.lap l) s = ll := ⟨_, rfl⟩
  rw [hll] at CCU HCU HCL HIN HGL HE4 HE0 HMD HGA HGN
  have HPO : Hid (∀ e w', EncPost l s B w e w' → EncPost l s B w e w') := hide (fun _ _ h => h)
  have HOK : Hid (encF l s B = 0 → ∀ ps p q w', Pts w' p ps → ps.length ≤ q → q ≤ 9223372036854775807 → Made ll s B ps → Below w.heap.size w w' → EncPost l s B w (.returned (.tuple #[.slice p ps.length q, .int .i64 0])) w') := hide (fun h ps p q w' h1 h2 h3 h4 h5 => ⟨Or.inr ⟨h, p, q, ps, rfl, h1, h2, h3, by rw [hll]; exact h4⟩, h5⟩)
  have HNO : Hid (∀ F w', encF l s B = F → F ≠ 0 → Below w.heap.size w w' → EncPost l s B w (.returned (.tuple #[.slice none 0 0, .int .i64 F])) w') := hide (fun F w' h1 h2 h3 => enc_no h1 h2 h3)
  obtain ⟨TT, hTT⟩ : ∃ TT, total s = TT := ⟨_, rfl⟩
  rw [hTT] at CBA htm
  have hlT : l.length = TT := by rw [e1, hTT]
  rw [hlT] at CAL CLA
  obtain ⟨N, hN⟩ : ∃ N, s.length = N := ⟨_, rfl⟩
  have HN := hide hN
  rw [hN] at CBA CCU HCL HIN HGL HE4 HE0 HMD HGA HGN n0 n8
  rw [hlT, hN]
  have hTe : ((TT : Int) == (TT : Int)) = true := by simp
  have d1 : decide (B < 0) = false := by simp; omega
  have d2 : decide (400 < B) = false := by simp; omega
  clear hll hTT hN hlT e1 e2 hin hin2 hsz h2 h3 n32 hlen heven
  go_enter Tryz.func5, Tryz.ntmps5
  go_wp2_with fail
  refine (unhide CBA _ hs).mono ?_
  rintro e w1 ⟨rfl, hb1⟩
  clear CBA
  have hr1 := hr.below hb1
  have hs1 := hs.below hb1
  go_wp2_with fail
  refine (unhide CAL _ hr1).mono ?_
  rintro e w2 ⟨rfl, hw2⟩
  obtain rfl : w1 = w2 := hw2.symm
  clear CAL hw2
  go_wp2_with fail
  refine (unhide CLA _ hr1).mono ?_
  rintro e w3 ⟨v3, rfl, k3, hb3⟩
  have hB3 := Below.chain hb1 hb3
  obtain ⟨p3, c3, rfl, r3, m3, m9⟩ := Ev.has_room k3
  have hs3 := hs.below hB3
  clear CLA k3 hb3 hr1 hs1 hb1
  go_wp2_with fail
  refine (unhide CCU _ _ _ r3 m3 m9 hs3).mono ?_
  rintro e w4 ⟨A4, C4, rfl, rw4, hb4⟩
  have hB4' := Below.chain hB3 hb4
  have hsW := hB4'.size
  clear CCU r3 m3 m9 hs3 hB3 hb4 HCU HLL h1
  have HQ0 : Hid (q0 (gls ll) 0 = []) := hide rfl
  go_wp2
  go_loopw [12, 13] (fun v i wr => ∃ k : Nat, k ≤ N ∧ i = .int .i64 k ∧ HasP wr w4.heap.size v (q0 (gls ll) k) ∧ Hid (∀ r, r < k → loud (rowAt ll r) ≤ 8000) ∧ Below w4.heap.size w4 wr) (fun _ i _ => N - (intOf i).toNat)
  case atStart => exact ⟨0, Nat.zero_le _, rfl, by rw [unhide HQ0]; exact HasP.nil _ _, hide (fun r hr => by omega), Below.refl _ _⟩
  case round =>
    obtain ⟨k, hk, rfl, hv, HLO, hB⟩ := hrel
    have hBw := Below.chain hB4' hB
    clear HQ0
    by_cases hlt : k < N
    · have hlt' : k < ll.length := by rw [unhide HCL]; exact hlt
      obtain ⟨b1, off1, rfl, _, hc1⟩ := (rw4.below hB).at hlt'
      obtain ⟨A, C, c1, c2, c3, c4, c5⟩ := hc1 k hlt'
      obtain ⟨i1, i2⟩ := unhide HIN k hlt
      have HE4k := hide (unhide HE4 k hlt)
      have HGk := hide (unhide HGA k hlt)
      have HST := hide (q0_step (gs := gls ll) (k := k) (by rw [unhide HGN]; exact hlt))
      rw [unhide HGk] at HST
      obtain ⟨r, hrr⟩ : ∃ r, rowAt ll k = r := ⟨_, rfl⟩
      have HRR := hide hrr
      rw [hrr] at c1 c3 c5 i1 i2 HE4k HGk HST
      have CLO := refLoudB A C r wr (by omega) i1 c5
      obtain ⟨L, hL⟩ : ∃ L, loud r = L := ⟨_, rfl⟩
      rw [hL] at CLO HE4k HGk HST
      have HL := hide hL
      obtain ⟨R, hR⟩ : ∃ R, r.length = R := ⟨_, rfl⟩
      rw [hR] at c1 c3 CLO i2
      have hln : Hid ((q0 (gls ll) k).length + 1 ≤ 1000000) := hide (by rw [q0_length (by rw [unhide HGN]; omega)]; omega)
      have hWs := hB.size
      clear hc1 hrr hL hR hlt' c2 c5 i1
      by_cases h8 : 8000 < L
      · have d8 : decide (8000 < (L : Int)) = true := by simp; omega
        have HP := hide (unhide HNO 4 wr (unhide HE4k h8) (by omega) hBw)
        clear HE4k HST HLO
        go_wp2_with fail
        refine CLO.mono ?_
        rintro e w5 ⟨rfl, hw5⟩
        obtain rfl : wr = w5 := hw5
        go_wp2
        go_ret2
        exact unhide HP
      · have d8 : decide (8000 < (L : Int)) = false := by simp; omega
        have d8' : decide (8000 < L) = false := by simp; omega
        have CGA := refGain L (by omega) wr
        have hgi := (gi_near (n := L) (by omega)).1
        have HLO2 : Hid (∀ r, r < k + 1 → loud (rowAt ll r) ≤ 8000) := hide (fun x hx => by
          by_cases e : x = k
          · rw [e, unhide HRR, unhide HL]; omega
          · exact unhide HLO x (by omega))
        obtain ⟨G, hG⟩ : ∃ G, gi L = G := ⟨_, rfl⟩
        rw [hG] at CGA HST hgi
        clear HE4k HLO hG HGk
        go_wp2_with fail
        refine CLO.mono ?_
        rintro e w5 ⟨rfl, hw5⟩
        obtain rfl : wr = w5 := hw5
        clear CLO
        go_wp2_with fail
        refine CGA.mono ?_
        rintro e w5 ⟨rfl, hw5⟩
        obtain rfl : wr = w5 := hw5
        clear CGA
        go_wp2_with (at_builtin; refine wpList_appp _ rfl _ _ rfl w4.heap.size u12 (q0 (gls ll) k) ((G : Int), .slice none 0 0) _ _ rfl (hv.alloc _) rfl rfl (by simp) (by simp) (unhide hln) (by simp; omega) ?_; intro s' w6 k6 g6 at6)
        have hB6 : Below w4.heap.size w4 w6 := hB.trans (((Below.refl _ wr).alloc hWs _).grown g6 (by simp; omega) (fun j e => (hv.lt j e).1))
        rw [← unhide HST] at k6
        clear hv hB g6 at6
        go_wp2
        go_roundw
        case rel => exact ⟨k + 1, by omega, by go_num, k6, HLO2, hB6⟩
        case measure => simp [intOf]; omega
    · obtain rfl : k = N := by omega
      have HE := hide (unhide HE0 (unhide HLO))
      have HQL := hide (q0_length (gs := gls ll) (k := k) (by rw [unhide HGN]; exact Nat.le_refl _))
      obtain ⟨g, c, rfl, hg1, hg2, -, -⟩ := hv.one (by rw [unhide HQL]; exact n0)
      obtain ⟨a5, c5, ee, pt5, -, -⟩ := hv.pts (ps := bare (gls ll)) (by rw [bare_length, unhide HGN, unhide HQL]) (fun r hr => by
        rw [bare_length, unhide HGN] at hr
        rw [bare_at (by rw [unhide HGN]; exact hr)]
        exact ⟨_, q0_at hr (by rw [unhide HGN]; exact Nat.le_refl _), sli_nil _⟩)
      obtain ⟨ea, eb, ec⟩ := Value.slice.inj ee
      subst ea ec
      have CGV := refGiven (some ⟨g, 0, none⟩) c (bare (gls ll)) b capb s B wr pt5 (hs.below hBw) (by rw [unhide HN]; omega) (by rw [unhide HN]; exact n8) (by rw [bare_length, unhide HGN, unhide HN]) HSZ (hide (fun i hi => by
        rw [bare_length, unhide HGN] at hi
        rw [bare_at (by rw [unhide HGN]; exact hi), unhide HGA i hi]
        have h := gi_near (unhide HLO i hi)
        unfold gok
        rw [Int.toNat_natCast, h.2.1]
        simp
        omega)) hB0 hB4
      rw [bare_gns, bare_length, unhide HGN, unhide HN] at CGV
      rw [unhide HQL]
      have HA0 : Hid (∀ r, r < k → ∃ V, (q0 (gls ll) k)[r]? = some (at0 (gls ll) r, V)) := hide (fun r hr => ⟨_, q0_at hr (by rw [unhide HGN]; exact Nat.le_refl _)⟩)
      have HGVL : Hid ((given (gls ll) s B).length = k) := hide (by rw [(given_is (gs := gls ll) (unhide HSZ) (by rw [unhide HN]; exact n8) hB0).len, unhide HN])
      obtain ⟨gs, hgs⟩ : ∃ gs, gls ll = gs := ⟨_, rfl⟩
      rw [hgs] at CGV HA0 HGVL HGL HMD hv HQL HGN
      obtain ⟨gv, hgv⟩ : ∃ gv, given gs s B = gv := ⟨_, rfl⟩
      rw [hgv] at CGV HGVL HGL HMD
      obtain ⟨qs0, hqs⟩ : ∃ qs0, q0 gs k = qs0 := ⟨_, rfl⟩
      rw [hqs] at HA0 hv HQL
      rw [unhide HQL] at hv
      clear hgs hgv hqs ee eb pt5 HE0 HE4 HLO HGA hBw HNO HPO
      go_wp2_with fail
      refine CGV.mono ?_
      rintro e w7 ⟨v7, rfl, k7, hb7⟩
      clear CGV
      obtain ⟨g7, c7, rfl, hg7, hg8, -, -⟩ := k7.one (by rw [unhide HGVL]; exact n0)
      rw [unhide HGVL] at k7 ⊢
      have hv7 := hv.below hb7
      have hB7 := hB.trans (hb7.mono hB.size)
      have hgw : g < w7.heap.size := Nat.lt_of_lt_of_le hg2 hb7.size
      obtain ⟨n5, hn5⟩ : ∃ n5, wr.heap.size = n5 := ⟨_, rfl⟩
      rw [hn5] at k7 hg2 hg7
      clear hv hB hb7 hn5
      go_wp2
      go_loopw [16] (fun i wq => ∃ (j : Nat) (qs : List (Int × Value)), j ≤ k ∧ i = .int .i64 j ∧ HasP wq w4.heap.size (.slice (some ⟨g, 0, none⟩) k c) qs ∧ Hid (qs.length = k) ∧ Hid (∀ r, r < k → ∃ V, qs[r]? = some (at0 gs r, V)) ∧
          Hid (∀ r, r < j → ∃ V l, qs[r]? = some (at0 gs r, V) ∧ Has wq w7.heap.size V l ∧ Nea.Near (rowAt ll r) (at0 gv r).toNat l) ∧ Has wq n5 (.slice (some ⟨g7, 0, none⟩) k c7) gv ∧ Below w4.heap.size w4 wq ∧ w7.heap.size ≤ wq.heap.size) (fun i _ => k - (intOf i).toNat)
      case atStart => exact ⟨0, qs0, Nat.zero_le _, rfl, hv7, HQL, HA0, hide (fun r hr => by omega), k7, hB7, Nat.le_refl _⟩
      case round =>
        clear hv7 HQL HA0 k7 hB7
        rename World => wq
        obtain ⟨j, qs, hj, rfl, hS, HQ, HA, HD, hK, hB, hsq⟩ := hrel
        by_cases hlt : j < k
        · have hlt' : j < ll.length := by rw [unhide HCL]; exact hlt
          obtain ⟨b1, off1, rfl, _, hc1⟩ := (rw4.below hB).at hlt'
          obtain ⟨A, C, c1, c2, c3, c4, c5⟩ := hc1 j hlt'
          obtain ⟨i1, i2⟩ := unhide HIN j hlt
          obtain ⟨l1, l2, l3⟩ := unhide HGL j hlt
          have ck := hK.get (j := j) (by rw [unhide HGVL]; exact hlt)
          obtain ⟨V0, hV0⟩ := unhide HA j hlt
          obtain ⟨-, co⟩ := hS.get (unhide HQ).symm hV0
          have fo := hS.frozen (unhide HQ).symm (j * 2 + 1)
          obtain ⟨K, hKK⟩ : ∃ K : Nat, at0 gv j = K := ⟨(at0 gv j).toNat, by omega⟩
          have HK := hide hKK
          rw [hKK] at l2 l3 ck
          rw [Int.toNat_natCast] at l3
          obtain ⟨r, hrr⟩ : ∃ r, rowAt ll j = r := ⟨_, rfl⟩
          have HRR := hide hrr
          rw [hrr] at c1 c3 c5 i1 i2 l3
          have CNE := hide (fun W h => Nea.ref_okB A C r K W i2 i1 (by omega) (hide l3) h)
          have c5d : Row wq.drew A r := c5
          obtain ⟨R, hR⟩ : ∃ R, r.length = R := ⟨_, rfl⟩
          rw [hR] at c1 c3 CNE i2
          have hdr : Below wq.heap.size wq wq.drew := ⟨rfl, rfl, rfl, Nat.le_refl _, fun _ _ => rfl⟩
          have hSd : HasP wq.drew w4.heap.size (.slice (some ⟨g, 0, none⟩) k c) qs := hS
          clear hc1 hrr hR hKK hlt' c2 c5 i1 l1
          go_wp2
          go_region_with (
            go_at_call 26
            refine (unhide CNE _ c5d).mono ?_
            rintro e w9 ⟨v9, l9, rfl, k9, HN9, hb9⟩
            obtain ⟨pa, na, ca, rfl⟩ := k9.shape
            have hS9 := hSd.below hb9
            have f9 := hS9.frozen (unhide HQ).symm (j * 2 + 1)
            obtain ⟨-, o9⟩ := hS9.get (unhide HQ).symm hV0)
          all_goals (
            have hbb := hdr.trans hb9
            have k9' : Has w9 wq.heap.size (.slice pa na ca) l9 := k9
            obtain ⟨m1, m2, m3⟩ := parts_put (P := fun r l => Nea.Near (rowAt ll r) (at0 gv r).toNat l) hS (unhide HQ) hlt hgw hsq (unhide HA) (unhide HD) k9' (by show Nea.Near (rowAt ll j) (at0 gv j).toNat l9; rw [unhide HRR, unhide HK, Int.toNat_natCast]; exact unhide HN9) hbb
            have HQ2 : Hid ((qs.set j (at0 gs j, .slice pa na ca)).length = k) := hide (by rw [List.length_set]; exact unhide HQ)
            have hK9 := (hK.below hbb).kept (grownBy_setCellAt w9 g (j * 2 + 1) (.slice pa na ca)) (Or.inr (by intro e; have e2 : g7 = g := Option.some.inj e; omega))
            have hB9 := (hB.trans (hbb.mono hB.size)).setCell (p := ⟨g, j * 2 + 1, none⟩) hg1 (.slice pa na ca)
            have hs9 : w7.heap.size ≤ (w9.setCell ⟨g, j * 2 + 1, none⟩ (.slice pa na ca)).heap.size := by simpa using Nat.le_trans hsq hbb.size
            have Q1 := hide m1
            have Q2 := hide m2
            have Q3 := hide m3
            have Q4 := hide hK9
            have Q5 := hide hB9
            have Q6 := hide hs9
            clear m1 m2 m3 hK9 hB9 hs9
            go_wp2
            go_roundw
            case rel => exact ⟨j + 1, _, by omega, by go_num, unhide Q1, HQ2, Q2, Q3, unhide Q4, unhide Q5, unhide Q6⟩
            case measure => simp [intOf]; omega)
        · obtain rfl : j = k := by omega
          obtain ⟨ps, y1, y2, aa, cc, ye, y3, y4, y5⟩ := parts_done hS (by rw [unhide HQ, unhide HGN]) (fun r hr => unhide HD r (by rw [← unhide HGN]; exact hr))
          have HM : Hid (Made ll s B ps) := hide (unhide HMD ps (by rw [y1, unhide HGN]) (fun i hi => y2 i (by rw [unhide HGN]; exact hi)))
          have HP := hide (unhide HOK (unhide HE) ps aa cc wq y3 y4 y5 (unhide HM) (Below.chain hB4' hB))
          rw [← ye] at HP
          clear y1 y2 y3 y4 y5 ye HM
          go_wp2
          go_ret2
          exact unhide HP

set_option maxRecDepth 100000 in
set_option maxHeartbeats 8000000 in
theorem refEncode (a : Option Addr) (cap : Nat) (l : List Int) (b : Option Addr) (capb : Nat) (s : List Int) (B : Int) (w : World) (hr : Row w a l) (hs : Row w b s) (zl : l.length ≤ 9223372036854775807) (zs : s.length ≤ 9223372036854775807) :
    Calls Tryz.prog 5 #[.slice a l.length cap, .slice b s.length capb, .int .i64 B] w fun e w' => EncPost l s B w e w' := by
  by_cases h1 : bf s = 0
  · obtain ⟨n0, n8, hsz, n32⟩ := bf_ok h1
    have CBA := hide (fun W h => refBands_ok b capb s W zs h (hide h1))
    by_cases h2 : l.length = total s
    · by_cases h3 : total s % 2 = 0
      · cases h4 : l.any (out 1000) with
        | true =>
          have HF : Hid (∀ w', Below w.heap.size w w' → EncPost l s B w (.returned (.tuple #[.slice none 0 0, .int .i64 1])) w') := hide (fun w' hb => enc_no (by unfold encF; rw [if_pos h1, if_pos ⟨h2, h3⟩, if_neg (fun h => by rw [h4] at h; cases h.1)]) (by omega) hb)
          have CAL := hide (fun W h => refAll 1000 a cap l W (by omega) (by omega) (by omega) h)
          rw [h4, Bool.not_true] at CAL
          have htm : Int.tmod ((total s : Nat) : Int) 2 = 0 := by rw [Int.tmod_eq_emod_of_nonneg (by omega)]; omega
          obtain ⟨TT, hTT⟩ : ∃ TT, total s = TT := ⟨_, rfl⟩
          obtain ⟨N, hN⟩ : ∃ N, s.length = N := ⟨_, rfl⟩
          rw [hTT] at h2 htm CBA
          rw [h2] at CAL ⊢
          rw [hN] at CBA ⊢
          have hTe : ((TT : Int) == (TT : Int)) = true := by simp
          clear hTT hN h1 h2 h3 h4 hsz n32 zl zs n0 n8
          go_enter Tryz.func5, Tryz.ntmps5
          go_wp2_with fail
          refine (unhide CBA _ hs).mono ?_
          rintro e w1 ⟨rfl, hb1⟩
          go_wp2_with fail
          refine (unhide CAL _ (hr.below hb1)).mono ?_
          rintro e w2 ⟨rfl, hw2⟩
          obtain rfl : w1 = w2 := hw2.symm
          go_wp2
          go_ret2
          exact unhide HF _ hb1
        | false =>
          by_cases h5 : 0 ≤ B ∧ B ≤ 400
          · exact refEncode_ok a cap l b capb s B w hr hs (hide h1) (hide ⟨h2, h3⟩) (hide h4) h5.1 h5.2
          · have HF : Hid (∀ w', Below w.heap.size w w' → EncPost l s B w (.returned (.tuple #[.slice none 0 0, .int .i64 1])) w') := hide (fun w' hb => enc_no (by unfold encF; rw [if_pos h1, if_pos ⟨h2, h3⟩, if_neg (fun h => h5 h.2)]) (by omega) hb)
            have CAL := hide (fun W h => refAll 1000 a cap l W (by omega) (by omega) (by omega) h)
            rw [h4, Bool.not_false] at CAL
            have htm : Int.tmod ((total s : Nat) : Int) 2 = 0 := by rw [Int.tmod_eq_emod_of_nonneg (by omega)]; omega
            obtain ⟨TT, hTT⟩ : ∃ TT, total s = TT := ⟨_, rfl⟩
            obtain ⟨N, hN⟩ : ∃ N, s.length = N := ⟨_, rfl⟩
            rw [hTT] at h2 htm CBA
            rw [h2] at CAL ⊢
            rw [hN] at CBA ⊢
            have hTe : ((TT : Int) == (TT : Int)) = true := by simp
            have HW : Hid ((decide (B < 0) = true) ∨ (decide (B < 0) = false ∧ decide (400 < B) = true)) := hide (by
              by_cases hb : B < 0
              · left; simpa using hb
              · right; exact ⟨by simpa using hb, by simp; omega⟩)
            clear hTT hN h1 h2 h3 h4 hsz n32 zl zs n0 n8 h5
            rcases unhide HW with d1 | ⟨d1, d2⟩
            · clear HW
              go_enter Tryz.func5, Tryz.ntmps5
              go_wp2_with fail
              refine (unhide CBA _ hs).mono ?_
              rintro e w1 ⟨rfl, hb1⟩
              go_wp2_with fail
              refine (unhide CAL _ (hr.below hb1)).mono ?_
              rintro e w2 ⟨rfl, hw2⟩
              obtain rfl : w1 = w2 := hw2.symm
              go_wp2
              go_ret2
              exact unhide HF _ hb1
            · clear HW
              go_enter Tryz.func5, Tryz.ntmps5
              go_wp2_with fail
              refine (unhide CBA _ hs).mono ?_
              rintro e w1 ⟨rfl, hb1⟩
              go_wp2_with fail
              refine (unhide CAL _ (hr.below hb1)).mono ?_
              rintro e w2 ⟨rfl, hw2⟩
              obtain rfl : w1 = w2 := hw2.symm
              go_wp2
              go_ret2
              exact unhide HF _ hb1
      · have HF : Hid (∀ w', Below w.heap.size w w' → EncPost l s B w (.returned (.tuple #[.slice none 0 0, .int .i64 3])) w') := hide (fun w' hb => enc_no (by unfold encF; rw [if_pos h1, if_neg (fun h => h3 h.2)]) (by omega) hb)
        have htm : Int.tmod ((total s : Nat) : Int) 2 = 1 := by rw [Int.tmod_eq_emod_of_nonneg (by omega)]; omega
        obtain ⟨TT, hTT⟩ : ∃ TT, total s = TT := ⟨_, rfl⟩
        obtain ⟨N, hN⟩ : ∃ N, s.length = N := ⟨_, rfl⟩
        rw [hTT] at h2 htm CBA
        rw [h2]
        rw [hN] at CBA ⊢
        have hTe : ((TT : Int) == (TT : Int)) = true := by simp
        clear hTT hN h1 h2 h3 hsz n32 zl zs n0 n8
        go_enter Tryz.func5, Tryz.ntmps5
        go_wp2_with fail
        refine (unhide CBA _ hs).mono ?_
        rintro e w1 ⟨rfl, hb1⟩
        go_wp2
        go_ret2
        exact unhide HF _ hb1
    · have HF : Hid (∀ w', Below w.heap.size w w' → EncPost l s B w (.returned (.tuple #[.slice none 0 0, .int .i64 3])) w') := hide (fun w' hb => enc_no (by unfold encF; rw [if_pos h1, if_neg (fun h => h2 h.1)]) (by omega) hb)
      obtain ⟨TT, hTT⟩ : ∃ TT, total s = TT := ⟨_, rfl⟩
      obtain ⟨N, hN⟩ : ∃ N, s.length = N := ⟨_, rfl⟩
      obtain ⟨M, hM⟩ : ∃ M, l.length = M := ⟨_, rfl⟩
      rw [hTT] at h2 CBA
      rw [hM] at h2 ⊢
      rw [hN] at CBA ⊢
      have n1 : ((M : Int) == (TT : Int)) = false := by rw [beq_eq_false_iff_ne]; omega
      have n2 : ((M : Int) != (TT : Int)) = true := by simp; omega
      have n3 : (M == TT) = false := by rw [beq_eq_false_iff_ne]; omega
      clear hTT hN hM h1 h2 hsz n32 zl zs n0 n8
      go_enter Tryz.func5, Tryz.ntmps5
      go_wp2_with fail
      refine (unhide CBA _ hs).mono ?_
      rintro e w1 ⟨rfl, hb1⟩
      go_wp2
      go_ret2
      exact unhide HF _ hb1
  · have CBA := hide (fun W h => refBands_no b capb s W zs h (hide h1))
    have HF : Hid (∀ w', Below w.heap.size w w' → EncPost l s B w (.returned (.tuple #[.slice none 0 0, .int .i64 (bf s)])) w') := hide (fun w' hb => enc_no (by unfold encF; rw [if_neg h1]) h1 hb)
    obtain ⟨F, hF⟩ : ∃ F, bf s = F := ⟨_, rfl⟩
    obtain ⟨N, hN⟩ : ∃ N, s.length = N := ⟨_, rfl⟩
    obtain ⟨M, hM⟩ : ∃ M, l.length = M := ⟨_, rfl⟩
    rw [hF] at CBA HF h1
    rw [hN] at CBA ⊢
    rw [hM]
    have n1 : (F == 0) = false := by rw [beq_eq_false_iff_ne]; exact h1
    have n2 : (F != 0) = true := by simpa using h1
    clear hF hN hM h1 zl zs
    go_enter Tryz.func5, Tryz.ntmps5
    go_wp2_with fail
    refine (unhide CBA _ hs).mono ?_
    rintro e w1 ⟨rfl, hb1⟩
    go_wp2
    go_ret2
    exact unhide HF _ hb1

end Go.Proofs.YthkibjhhlcfceaiGreatDoor.Frm
