/-
  hornref2.Encode: by its contract.
-/
import Derived.Test.YtjnmogmagngenaiGreatDoorCh29
import Derived.Test.YtjnmogmagngenaiGreatDoorCh11
import Derived.Test.YtjnmogmagngenaiGreatDoorCh30
import Derived.Test.YtjnmogmagngenaiGreatDoorCh31
import Derived.Test.YtjnmogmagngenaiGreatDoorCh05
import Derived.Test.YtjnmogmagngenaiGreatDoorCh23
import Derived.Test.YtjnmogmagngenaiGreatDoorCh07
import Derived.Test.YtjnmogmagngenaiGreatDoorCh08
namespace Go.Proofs.YtjnmogmagngenaiGreatDoor.Frm
open Go.RowKit
open Go.Proofs.YtjnmogmagngenaiGreatDoor.Tre Go.Proofs.YtjnmogmagngenaiGreatDoor.Bnd Go.Proofs.YtjnmogmagngenaiGreatDoor.Pls Go.Proofs.YtjnmogmagngenaiGreatDoor.Gai Go.Proofs.YtjnmogmagngenaiGreatDoor.Shr
set_option linter.unusedVariables false

/-- What Encode answers. -/
def EncPost (l s : List Int) (B : Int) (w : World) (e : Ending) (w' : World) : Prop :=
  ((encF l s B ≠ 0 ∧ e = .returned (.tuple #[.slice none 0 0, .int .i64 (encF l s B)])) ∨ (encF l s B = 0 ∧ ∃ p q ps, e = .returned (.tuple #[.slice p ps.length q, .int .i64 0]) ∧ Pts w' p ps ∧ ps.length ≤ q ∧ q ≤ 9223372036854775807 ∧ Made (cuts (Lap.lap l) s) s B ps)) ∧ Below w.heap.size w w'
theorem enc_no {l s : List Int} {B F : Int} {w w' : World} (h : encF l s B = F) (hF : F ≠ 0) (hb : Below w.heap.size w w') : EncPost l s B w (.returned (.tuple #[.slice none 0 0, .int .i64 F])) w' := ⟨Or.inl ⟨by rw [h]; exact hF, by rw [h]⟩, hb⟩

set_option maxRecDepth 100000 in
set_option maxHeartbeats 8000000 in
theorem refEncode_ok (a : Option Addr) (cap : Nat) (l : List Int) (b : Option Addr) (capb : Nat) (s : List Int) (B : Int) (w : World) (hr : Row w a l) (hs : Row w b s) (h1 : Hid (bf s = 0)) (h2 : Hid (l.length = total s ∧ total s % 2 = 0)) (h3 : Hid (l.any (out 1000) = false)) (hB0 : 0 ≤ B) (hB4 : B ≤ 400) :
    Calls Tryz.prog 4 #[.slice a l.length cap, .slice b s.length capb, .int .i64 B] w fun e w' => EncPost l s B w e w' := by
  obtain ⟨n0, n8, hsz, n32⟩ := bf_ok (unhide h1)
  have HSZ := hide hsz
  obtain ⟨e1, e2⟩ := unhide h2
  have heven := hide (total_even e1 e2)
  have hin := in_of_any (unhide h3)
  have hlen : l.length ≤ 32 := by omega
  have CBA := hide (fun W h => refBands_ok b capb s W (by omega) h h1)
  have CAL := hide (fun W h => refAll 1000 a cap l W (by omega) (by omega) (by omega) h)
  rw [unhide h3, Bool.not_false] at CAL
  have CLA := hide (fun W h => Lap.refLap a cap l W hlen heven hin h)
  have HLL := hide (Lap.lap_length (unhide heven))
  have hin2 := (Lap.lap_in (b := 1000) (by omega) hin).mono (c := 4000) (by omega)
  have CCU := hide (fun W q c hq hm hm9 h => refCut q c (Lap.lap l) b capb s W hq hm hm9 h h1 (hide (by rw [unhide HLL]; exact e1.symm)))
  have HCU := hide (shaped_cuts (l := Lap.lap l) hsz (by rw [unhide HLL]; exact e1.symm))
  have HCL := hide (cuts_length (Lap.lap l) s)
  have HIN : Hid (∀ i, i < s.length → In 4000 (rowAt (cuts (Lap.lap l) s) i) ∧ (rowAt (cuts (Lap.lap l) s) i).length ≤ 6) := hide (fun i hi => by
    refine ⟨?_, ?_⟩
    · rw [cuts_at _ _ hi]
      exact (hin2.drop _).take _
    · have := (unhide HCU).2 i hi
      have := hsz i hi
      omega)
  have HGL : Hid (∀ i, i < s.length → _) := hide (fun i hi => given_low (ll := cuts (Lap.lap l) s) (B := B) hsz n8 hB0 (unhide HCL) hi)
  have HE4 : Hid (∀ i, i < s.length → 8000 < loud (rowAt (cuts (Lap.lap l) s) i) → encF l s B = 4) := hide (fun i hi h => by
    unfold encF
    rw [if_pos (unhide h1), if_pos (unhide h2), if_pos ⟨unhide h3, hB0, hB4⟩, if_pos]
    refine List.any_eq_true.2 ⟨rowAt (cuts (Lap.lap l) s) i, ?_, by simp [tooLoud, h]⟩
    rw [rowAt_get (by rw [unhide HCL]; exact hi)]
    exact List.getElem_mem _)
  have HE0 : Hid ((∀ i, i < s.length → loud (rowAt (cuts (Lap.lap l) s) i) ≤ 8000) → encF l s B = 0) := hide (fun h => encF_zero.2 ⟨unhide h1, e1, e2, hin, hB0, hB4, h⟩)
  have HMD : Hid (∀ ps : List Prt, ps.length = s.length → (∀ i, i < s.length → (prt ps i).1 = at0 (gls (cuts (Lap.lap l) s)) i ∧ Nea.Near (rowAt (cuts (Lap.lap l) s) i) (at0 (given (gls (cuts (Lap.lap l) s)) s B) i).toNat (prt ps i).2) → Made (cuts (Lap.lap l) s) s B ps) := hide (fun ps h1 h2 => by
    refine ⟨by rw [h1, unhide HCL], fun i hi => ?_⟩
    rw [unhide HCL] at hi
    obtain ⟨g1, g2⟩ := h2 i hi
    rw [gls_at (by rw [unhide HCL]; exact hi)] at g1
    exact ⟨g1, g2⟩)
  have HGA : Hid (∀ i, i < s.length → at0 (gls (cuts (Lap.lap l) s)) i = (gi (loud (rowAt (cuts (Lap.lap l) s) i)) : Int)) := hide (fun i hi => gls_at (by rw [unhide HCL]; exact hi))
  have HGN := hide (gls_length (cuts (Lap.lap l) s))
  rw [unhide HCL] at HGN
  have htm : Int.tmod ((total s : Nat) : Int) 2 = 0 := by rw [Int.tmod_eq_emod_of_nonneg (by omega)]; omega
  obtain ⟨ll, hll⟩ : ∃ ll, cuts (Lap.lap l) s = ll := ⟨_, rfl⟩
  rw [hll] at CCU HCU HCL HIN HGL HE4 HE0 HMD HGA HGN
  have HPO : Hid (∀ e w', EncPost l s B w e w' → EncPost l s B w e w') := hide (fun _ _ h => h)
  have HOK : Hid (encF l s B = 0 → ∀ ps p q w', Pts w' p ps → ps.length ≤ q → q ≤ 9223372036854775807 → Made ll s B ps → Below w.heap.size w w' → EncPost l s B w (.returned (.tuple #[.slice p ps.length q, .int .i64 0])) w') := hide (fun h ps p q w' h1 h2 h3 h4 h5 => ⟨Or.inr ⟨h, p, q, ps, rfl, h1, h2, h3, by rw [hll]; exact h4⟩, h5⟩)
  have HNO : Hid (∀ F w', encF l s B = F → F ≠ 0 → Below w.heap.size w w' → EncPost l s B w (.returned (.tuple #[.slice none 0 0, .int .i64 F])) w') := hide (fun F w' h1 h2 h3 => enc_no h1 h2 h3)
  obtain ⟨TT, hTT⟩ : ∃ TT, total s = TT := ⟨_, rfl⟩
  rw [hTT] at CBA htm
  have hlT : l.length = TT := by rw [e1, hTT]
  rw [hlT] at CAL CLA
  obtain ⟨N, hN⟩ : ∃ N, s.length = N := ⟨_, rfl⟩
  have HN := hide hN
  rw [hN] at CBA CCU HCL HIN HGL HE4 HE0 HMD HGA HGN n0 n8
  rw [hlT, hN]
  have hTe : ((TT : Int) == (TT : Int)) = true := by simp
  have d1 : decide (B < 0) = false := by simp; omega
  have d2 : decide (400 < B) = false := by simp; omega
  clear hll hTT hN hlT e1 e2 hin hin2 hsz h2 h3 n32 hlen heven
  go_enter Tryz.func4, Tryz.ntmps4
  go_wp2_with fail
  refine (unhide CBA _ hs).mono ?_
  rintro e w1 ⟨rfl, hb1⟩
  clear CBA
  have hr1 := hr.below hb1
  have hs1 := hs.below hb1
  go_wp2_with fail
  refine (unhide CAL _ hr1).mono ?_
  rintro e w2 ⟨rfl, hw2⟩
  obtain rfl : w1 = w2 := hw2.symm
  clear CAL hw2
  go_wp2_with fail
  refine (unhide CLA _ hr1).mono ?_
  rintro e w3 ⟨v3, rfl, k3, hb3⟩
  have hB3 := Below.chain hb1 hb3
  obtain ⟨p3, c3, rfl, r3, m3, m9⟩ := Ev.has_room k3
  have hs3 := hs.below hB3
  clear CLA k3 hb3 hr1 hs1 hb1
  go_wp2_with fail
  refine (unhide CCU _ _ _ r3 m3 m9 hs3).mono ?_
  rintro e w4 ⟨A4, C4, rfl, rw4, hb4⟩
  have hB4' := Below.chain hB3 hb4
  have hsW := hB4'.size
  clear CCU r3 m3 m9 hs3 hB3 hb4 HCU HLL h1
  have HQ0 : Hid (q0 (gls ll) 0 = []) := hide rfl
  go_wp2
  go_loopw [12, 13] (fun v i wr => ∃ k : Nat, k ≤ N ∧ i = .int .i64 k ∧ HasP wr w4.heap.size v (q0 (gls ll) k) ∧ Hid (∀ r, r < k → loud (rowAt ll r) ≤ 8000) ∧ Below w4.heap.size w4 wr) (fun _ i _ => N - (intOf i).toNat)
  case atStart => exact ⟨0, Nat.zero_le _, rfl, by rw [unhide HQ0]; exact HasP.nil _ _, hide (fun r hr => by omega), Below.refl _ _⟩
  case round =>
    obtain ⟨k, hk, rfl, hv, HLO, hB⟩ := hrel
    have hBw := Below.chain hB4' hB
    clear HQ0
    by_cases hlt : k < N
    · have hlt' : k < ll.length := by rw [unhide HCL]; exact hlt
      obtain ⟨b1, off1, rfl, _, hc1⟩ := (rw4.below hB).at hlt'
      obtain ⟨A, C, c1, c2, c3, c4, c5⟩ := hc1 k hlt'
      obtain ⟨i1, i2⟩ := unhide HIN k hlt
      have HE4k := hide (unhide HE4 k hlt)
      have HGk := hide (unhide HGA k hlt)
      have HST := hide (q0_step (gs := gls ll) (k := k) (by rw [unhide HGN]; exact hlt))
      rw [unhide HGk] at HST
      obtain ⟨r, hrr⟩ : ∃ r, rowAt ll k = r := ⟨_, rfl⟩
      have HRR := hide hrr
      rw [hrr] at c1 c3 c5 i1 i2 HE4k HGk HST
      have CLO := refLoudB A C r wr (by omega) i1 c5
      obtain ⟨L, hL⟩ : ∃ L, loud r = L := ⟨_, rfl⟩
      rw [hL] at CLO HE4k HGk HST
      have HL := hide hL
      obtain ⟨R, hR⟩ : ∃ R, r.length = R := ⟨_, rfl⟩
      rw [hR] at c1 c3 CLO i2
      have hln : Hid ((q0 (gls ll) k).length + 1 ≤ 1000000) := hide (by rw [q0_length (by rw [unhide HGN]; omega)]; omega)
      have hWs := hB.size
      clear hc1 hrr hL hR hlt' c2 c5 i1
      by_cases h8 : 8000 < L
      · have d8 : decide (8000 < (L : Int)) = true := by simp; omega
        have HP := hide (unhide HNO 4 wr (unhide HE4k h8) (by omega) hBw)
        clear HE4k HST HLO
        go_wp2_with fail
        refine CLO.mono ?_
        rintro e w5 ⟨rfl, hw5⟩
        obtain rfl : wr = w5 := hw5
        go_wp2
        go_ret2
        exact unhide HP
      · have d8 : decide (8000 < (L : Int)) = false := by simp; omega
        have d8' : decide (8000 < L) = false := by simp; omega
        have CGA := refGain L (by omega) wr
        have hgi := (gi_near (n := L) (by omega)).1
        have HLO2 : Hid (∀ r, r < k + 1 → loud (rowAt ll r) ≤ 8000) := hide (fun x hx => by
          by_cases e : x = k
          · rw [e, unhide HRR, unhide HL]; omega
          · exact unhide HLO x (by omega))
        obtain ⟨G, hG⟩ : ∃ G, gi L = G := ⟨_, rfl⟩
        rw [hG] at CGA HST hgi
        clear HE4k HLO hG HGk
        go_wp2_with fail
        refine CLO.mono ?_
        rintro e w5 ⟨rfl, hw5⟩
        obtain rfl : wr = w5 := hw5
        clear CLO
        go_wp2_with fail
        refine CGA.mono ?_
        rintro e w5 ⟨rfl, hw5⟩
        obtain rfl : wr = w5 := hw5
        clear CGA
        go_wp2_with (at_builtin; refine wpList_appp _ rfl _ _ rfl w4.heap.size u12 (q0 (gls ll) k) ((G : Int), .slice none 0 0) _ _ rfl (hv.alloc _) rfl rfl (by simp) (by simp) (unhide hln) (by simp; omega) ?_; intro s' w6 k6 g6 at6)
        have hB6 : Below w4.heap.size w4 w6 := hB.trans (((Below.refl _ wr).alloc hWs _).grown g6 (by simp; omega) (fun j e => (hv.lt j e).1))
        rw [← unhide HST] at k6
        clear hv hB g6 at6
        go_wp2
        go_roundw
        case rel => exact ⟨k + 1, by omega, by go_num, k6, HLO2, hB6⟩
        case measure => simp [intOf]; omega
    · obtain rfl : k = N := by omega
      have HE := hide (unhide HE0 (unhide HLO))
      have HQL := hide (q0_length (gs := gls ll) (k := k) (by rw [unhide HGN]; exact Nat.le_refl _))
      obtain ⟨g, c, rfl, hg1, hg2, -, -⟩ := hv.one (by rw [unhide HQL]; exact n0)
      obtain ⟨a5, c5, ee, pt5, -, -⟩ := hv.pts (ps := bare (gls ll)) (by rw [bare_length, unhide HGN, unhide HQL]) (fun r hr => by
        rw [bare_length, unhide HGN] at hr
        rw [bare_at (by rw [unhide HGN]; exact hr)]
        exact ⟨_, q0_at hr (by rw [unhide HGN]; exact Nat.le_refl _), sli_nil _⟩)
      obtain ⟨ea, eb, ec⟩ := Value.slice.inj ee
      subst ea ec
      have CGV := refGiven (some ⟨g, 0, none⟩) c (bare (gls ll)) b capb s B wr pt5 (hs.below hBw) (by rw [unhide HN]; omega) (by rw [unhide HN]; exact n8) (by rw [bare_length, unhide HGN, unhide HN]) HSZ (hide (fun i hi => by
        rw [bare_length, unhide HGN] at hi
        rw [bare_at (by rw [unhide HGN]; exact hi), unhide HGA i hi]
        have h := gi_near (unhide HLO i hi)
        unfold gok
        rw [Int.toNat_natCast, h.2.1]
        simp
        omega)) hB0 hB4
      rw [bare_gns, bare_length, unhide HGN, unhide HN] at CGV
      rw [unhide HQL]
      have HA0 : Hid (∀ r, r < k → ∃ V, (q0 (gls ll) k)[r]? = some (at0 (gls ll) r, V)) := hide (fun r hr => ⟨_, q0_at hr (by rw [unhide HGN]; exact Nat.le_refl _)⟩)
      have HGVL : Hid ((given (gls ll) s B).length = k) := hide (by rw [(given_is (gs := gls ll) (unhide HSZ) (by rw [unhide HN]; exact n8) hB0).len, unhide HN])
      obtain ⟨gs, hgs⟩ : ∃ gs, gls ll = gs := ⟨_, rfl⟩
      rw [hgs] at CGV HA0 HGVL HGL HMD hv HQL HGN
      obtain ⟨gv, hgv⟩ : ∃ gv, given gs s B = gv := ⟨_, rfl⟩
      rw [hgv] at CGV HGVL HGL HMD
      obtain ⟨qs0, hqs⟩ : ∃ qs0, q0 gs k = qs0 := ⟨_, rfl⟩
      rw [hqs] at HA0 hv HQL
      rw [unhide HQL] at hv
      clear hgs hgv hqs ee eb pt5 HE0 HE4 HLO HGA hBw HNO HPO
      go_wp2_with fail
      refine CGV.mono ?_
      rintro e w7 ⟨v7, rfl, k7, hb7⟩
      clear CGV
      obtain ⟨g7, c7, rfl, hg7, hg8, -, -⟩ := k7.one (by rw [unhide HGVL]; exact n0)
      rw [unhide HGVL] at k7 ⊢
      have hv7 := hv.below hb7
      have hB7 := hB.trans (hb7.mono hB.size)
      have hgw : g < w7.heap.size := Nat.lt_of_lt_of_le hg2 hb7.size
      obtain ⟨n5, hn5⟩ : ∃ n5, wr.heap.size = n5 := ⟨_, rfl⟩
      rw [hn5] at k7 hg2 hg7
      clear hv hB hb7 hn5
      go_wp2
      go_loopw [16] (fun i wq => ∃ (j : Nat) (qs : List (Int × Value)), j ≤ k ∧ i = .int .i64 j ∧ HasP wq w4.heap.size (.slice (some ⟨g, 0, none⟩) k c) qs ∧ Hid (qs.length = k) ∧ Hid (∀ r, r < k → ∃ V, qs[r]? = some (at0 gs r, V)) ∧
          Hid (∀ r, r < j → ∃ V l, qs[r]? = some (at0 gs r, V) ∧ Has wq w7.heap.size V l ∧ Nea.Near (rowAt ll r) (at0 gv r).toNat l) ∧ Has wq n5 (.slice (some ⟨g7, 0, none⟩) k c7) gv ∧ Below w4.heap.size w4 wq ∧ w7.heap.size ≤ wq.heap.size) (fun i _ => k - (intOf i).toNat)
      case atStart => exact ⟨0, qs0, Nat.zero_le _, rfl, hv7, HQL, HA0, hide (fun r hr => by omega), k7, hB7, Nat.le_refl _⟩
      case round =>
        clear hv7 HQL HA0 k7 hB7
        rename World => wq
        obtain ⟨j, qs, hj, rfl, hS, HQ, HA, HD, hK, hB, hsq⟩ := hrel
        by_cases hlt : j < k
        · have hlt' : j < ll.length := by rw [unhide HCL]; exact hlt
          obtain ⟨b1, off1, rfl, _, hc1⟩ := (rw4.below hB).at hlt'
          obtain ⟨A, C, c1, c2, c3, c4, c5⟩ := hc1 j hlt'
          obtain ⟨i1, i2⟩ := unhide HIN j hlt
          obtain ⟨l1, l2, l3⟩ := unhide HGL j hlt
          have ck := hK.get (j := j) (by rw [unhide HGVL]; exact hlt)
          obtain ⟨V0, hV0⟩ := unhide HA j hlt
          obtain ⟨-, co⟩ := hS.get (unhide HQ).symm hV0
          have fo := hS.frozen (unhide HQ).symm (j * 2 + 1)
          obtain ⟨K, hKK⟩ : ∃ K : Nat, at0 gv j = K := ⟨(at0 gv j).toNat, by omega⟩
          have HK := hide hKK
          rw [hKK] at l2 l3 ck
          rw [Int.toNat_natCast] at l3
          obtain ⟨r, hrr⟩ : ∃ r, rowAt ll j = r := ⟨_, rfl⟩
          have HRR := hide hrr
          rw [hrr] at c1 c3 c5 i1 i2 l3
          have CNE := hide (fun W h => Nea.ref_okB A C r K W i2 i1 (by omega) (hide l3) h)
          have c5d : Row wq.drew A r := c5
          obtain ⟨R, hR⟩ : ∃ R, r.length = R := ⟨_, rfl⟩
          rw [hR] at c1 c3 CNE i2
          have hdr : Below wq.heap.size wq wq.drew := ⟨rfl, rfl, rfl, Nat.le_refl _, fun _ _ => rfl⟩
          have hSd : HasP wq.drew w4.heap.size (.slice (some ⟨g, 0, none⟩) k c) qs := hS
          clear hc1 hrr hR hKK hlt' c2 c5 i1 l1
          go_wp2
          go_region_with (
            go_at_call 20
            refine (unhide CNE _ c5d).mono ?_
            rintro e w9 ⟨v9, l9, rfl, k9, HN9, hb9⟩
            obtain ⟨pa, na, ca, rfl⟩ := k9.shape
            have hS9 := hSd.below hb9
            have f9 := hS9.frozen (unhide HQ).symm (j * 2 + 1)
            obtain ⟨-, o9⟩ := hS9.get (unhide HQ).symm hV0)
          all_goals (
            have hbb := hdr.trans hb9
            have k9' : Has w9 wq.heap.size (.slice pa na ca) l9 := k9
            obtain ⟨m1, m2, m3⟩ := parts_put (P := fun r l => Nea.Near (rowAt ll r) (at0 gv r).toNat l) hS (unhide HQ) hlt hgw hsq (unhide HA) (unhide HD) k9' (by show Nea.Near (rowAt ll j) (at0 gv j).toNat l9; rw [unhide HRR, unhide HK, Int.toNat_natCast]; exact unhide HN9) hbb
            have HQ2 : Hid ((qs.set j (at0 gs j, .slice pa na ca)).length = k) := hide (by rw [List.length_set]; exact unhide HQ)
            have hK9 := (hK.below hbb).kept (grownBy_setCellAt w9 g (j * 2 + 1) (.slice pa na ca)) (Or.inr (by intro e; have e2 : g7 = g := Option.some.inj e; omega))
            have hB9 := (hB.trans (hbb.mono hB.size)).setCell (p := ⟨g, j * 2 + 1, none⟩) hg1 (.slice pa na ca)
            have hs9 : w7.heap.size ≤ (w9.setCell ⟨g, j * 2 + 1, none⟩ (.slice pa na ca)).heap.size := by simpa using Nat.le_trans hsq hbb.size
            have Q1 := hide m1
            have Q2 := hide m2
            have Q3 := hide m3
            have Q4 := hide hK9
            have Q5 := hide hB9
            have Q6 := hide hs9
            clear m1 m2 m3 hK9 hB9 hs9
            go_wp2
            go_roundw
            case rel => exact ⟨j + 1, _, by omega, by go_num, unhide Q1, HQ2, Q2, Q3, unhide Q4, unhide Q5, unhide Q6⟩
            case measure => simp [intOf]; omega)
        · obtain rfl : j = k := by omega
          obtain ⟨ps, y1, y2, aa, cc, ye, y3, y4, y5⟩ := parts_done hS (by rw [unhide HQ, unhide HGN]) (fun r hr => unhide HD r (by rw [← unhide HGN]; exact hr))
          have HM : Hid (Made ll s B ps) := hide (unhide HMD ps (by rw [y1, unhide HGN]) (fun i hi => y2 i (by rw [unhide HGN]; exact hi)))
          have HP := hide (unhide HOK (unhide HE) ps aa cc wq y3 y4 y5 (unhide HM) (Below.chain hB4' hB))
          rw [← ye] at HP
          clear y1 y2 y3 y4 y5 ye HM
          go_wp2
          go_ret2
          exact unhide HP

set_option maxRecDepth 100000 in
set_option maxHeartbeats 8000000 in
theorem refEncode (a : Option Addr) (cap : Nat) (l : List Int) (b : Option Addr) (capb : Nat) (s : List Int) (B : Int) (w : World) (hr : Row w a l) (hs : Row w b s) (zl : l.length ≤ 9223372036854775807) (zs : s.length ≤ 9223372036854775807) :
    Calls Tryz.prog 4 #[.slice a l.length cap, .slice b s.length capb, .int .i64 B] w fun e w' => EncPost l s B w e w' := by
  by_cases h1 : bf s = 0
  · obtain ⟨n0, n8, hsz, n32⟩ := bf_ok h1
    have CBA := hide (fun W h => refBands_ok b capb s W zs h (hide h1))
    by_cases h2 : l.length = total s
    · by_cases h3 : total s % 2 = 0
      · cases h4 : l.any (out 1000) with
        | true =>
          have HF : Hid (∀ w', Below w.heap.size w w' → EncPost l s B w (.returned (.tuple #[.slice none 0 0, .int .i64 1])) w') := hide (fun w' hb => enc_no (by unfold encF; rw [if_pos h1, if_pos ⟨h2, h3⟩, if_neg (fun h => by rw [h4] at h; cases h.1)]) (by omega) hb)
          have CAL := hide (fun W h => refAll 1000 a cap l W (by omega) (by omega) (by omega) h)
          rw [h4, Bool.not_true] at CAL
          have htm : Int.tmod ((total s : Nat) : Int) 2 = 0 := by rw [Int.tmod_eq_emod_of_nonneg (by omega)]; omega
          obtain ⟨TT, hTT⟩ : ∃ TT, total s = TT := ⟨_, rfl⟩
          obtain ⟨N, hN⟩ : ∃ N, s.length = N := ⟨_, rfl⟩
          rw [hTT] at h2 htm CBA
          rw [h2] at CAL ⊢
          rw [hN] at CBA ⊢
          have hTe : ((TT : Int) == (TT : Int)) = true := by simp
          clear hTT hN h1 h2 h3 h4 hsz n32 zl zs n0 n8
          go_enter Tryz.func4, Tryz.ntmps4
          go_wp2_with fail
          refine (unhide CBA _ hs).mono ?_
          rintro e w1 ⟨rfl, hb1⟩
          go_wp2_with fail
          refine (unhide CAL _ (hr.below hb1)).mono ?_
          rintro e w2 ⟨rfl, hw2⟩
          obtain rfl : w1 = w2 := hw2.symm
          go_wp2
          go_ret2
          exact unhide HF _ hb1
        | false =>
          by_cases h5 : 0 ≤ B ∧ B ≤ 400
          · exact refEncode_ok a cap l b capb s B w hr hs (hide h1) (hide ⟨h2, h3⟩) (hide h4) h5.1 h5.2
          · have HF : Hid (∀ w', Below w.heap.size w w' → EncPost l s B w (.returned (.tuple #[.slice none 0 0, .int .i64 1])) w') := hide (fun w' hb => enc_no (by unfold encF; rw [if_pos h1, if_pos ⟨h2, h3⟩, if_neg (fun h => h5 h.2)]) (by omega) hb)
            have CAL := hide (fun W h => refAll 1000 a cap l W (by omega) (by omega) (by omega) h)
            rw [h4, Bool.not_false] at CAL
            have htm : Int.tmod ((total s : Nat) : Int) 2 = 0 := by rw [Int.tmod_eq_emod_of_nonneg (by omega)]; omega
            obtain ⟨TT, hTT⟩ : ∃ TT, total s = TT := ⟨_, rfl⟩
            obtain ⟨N, hN⟩ : ∃ N, s.length = N := ⟨_, rfl⟩
            rw [hTT] at h2 htm CBA
            rw [h2] at CAL ⊢
            rw [hN] at CBA ⊢
            have hTe : ((TT : Int) == (TT : Int)) = true := by simp
            have HW : Hid ((decide (B < 0) = true) ∨ (decide (B < 0) = false ∧ decide (400 < B) = true)) := hide (by
              by_cases hb : B < 0
              · left; simpa using hb
              · right; exact ⟨by simpa using hb, by simp; omega⟩)
            clear hTT hN h1 h2 h3 h4 hsz n32 zl zs n0 n8 h5
            rcases unhide HW with d1 | ⟨d1, d2⟩
            · clear HW
              go_enter Tryz.func4, Tryz.ntmps4
              go_wp2_with fail
              refine (unhide CBA _ hs).mono ?_
              rintro e w1 ⟨rfl, hb1⟩
              go_wp2_with fail
              refine (unhide CAL _ (hr.below hb1)).mono ?_
              rintro e w2 ⟨rfl, hw2⟩
              obtain rfl : w1 = w2 := hw2.symm
              go_wp2
              go_ret2
              exact unhide HF _ hb1
            · clear HW
              go_enter Tryz.func4, Tryz.ntmps4
              go_wp2_with fail
              refine (unhide CBA _ hs).mono ?_
              rintro e w1 ⟨rfl, hb1⟩
              go_wp2_with fail
              refine (unhide CAL _ (hr.below hb1)).mono ?_
              rintro e w2 ⟨rfl, hw2⟩
              obtain rfl : w1 = w2 := hw2.symm
              go_wp2
              go_ret2
              exact unhide HF _ hb1
      · have HF : Hid (∀ w', Below w.heap.size w w' → EncPost l s B w (.returned (.tuple #[.slice none 0 0, .int .i64 3])) w') := hide (fun w' hb => enc_no (by unfold encF; rw [if_pos h1, if_neg (fun h => h3 h.2)]) (by omega) hb)
        have htm : Int.tmod ((total s : Nat) : Int) 2 = 1 := by rw [Int.tmod_eq_emod_of_nonneg (by omega)]; omega
        obtain ⟨TT, hTT⟩ : ∃ TT, total s = TT := ⟨_, rfl⟩
        obtain ⟨N, hN⟩ : ∃ N, s.length = N := ⟨_, rfl⟩
        rw [hTT] at h2 htm CBA
        rw [h2]
        rw [hN] at CBA ⊢
        have hTe : ((TT : Int) == (TT : Int)) = true := by simp
        clear hTT hN h1 h2 h3 hsz n32 zl zs n0 n8
        go_enter Tryz.func4, Tryz.ntmps4
        go_wp2_with fail
        refine (unhide CBA _ hs).mono ?_
        rintro e w1 ⟨rfl, hb1⟩
        go_wp2
        go_ret2
        exact unhide HF _ hb1
    · have HF : Hid (∀ w', Below w.heap.size w w' → EncPost l s B w (.returned (.tuple #[.slice none 0 0, .int .i64 3])) w') := hide (fun w' hb => enc_no (by unfold encF; rw [if_pos h1, if_neg (fun h => h2 h.1)]) (by omega) hb)
      obtain ⟨TT, hTT⟩ : ∃ TT, total s = TT := ⟨_, rfl⟩
      obtain ⟨N, hN⟩ : ∃ N, s.length = N := ⟨_, rfl⟩
      obtain ⟨M, hM⟩ : ∃ M, l.length = M := ⟨_, rfl⟩
      rw [hTT] at h2 CBA
      rw [hM] at h2 ⊢
      rw [hN] at CBA ⊢
      have n1 : ((M : Int) == (TT : Int)) = false := by rw [beq_eq_false_iff_ne]; omega
      have n2 : ((M : Int) != (TT : Int)) = true := by simp; omega
      have n3 : (M == TT) = false := by rw [beq_eq_false_iff_ne]; omega
      clear hTT hN hM h1 h2 hsz n32 zl zs n0 n8
      go_enter Tryz.func4, Tryz.ntmps4
      go_wp2_with fail
      refine (unhide CBA _ hs).mono ?_
      rintro e w1 ⟨rfl, hb1⟩
      go_wp2
      go_ret2
      exact unhide HF _ hb1
  · have CBA := hide (fun W h => refBands_no b capb s W zs h (hide h1))
    have HF : Hid (∀ w', Below w.heap.size w w' → EncPost l s B w (.returned (.tuple #[.slice none 0 0, .int .i64 (bf s)])) w') := hide (fun w' hb => enc_no (by unfold encF; rw [if_neg h1]) h1 hb)
    obtain ⟨F, hF⟩ : ∃ F, bf s = F := ⟨_, rfl⟩
    obtain ⟨N, hN⟩ : ∃ N, s.length = N := ⟨_, rfl⟩
    obtain ⟨M, hM⟩ : ∃ M, l.length = M := ⟨_, rfl⟩
    rw [hF] at CBA HF h1
    rw [hN] at CBA ⊢
    rw [hM]
    have n1 : (F == 0) = false := by rw [beq_eq_false_iff_ne]; exact h1
    have n2 : (F != 0) = true := by simpa using h1
    clear hF hN hM h1 zl zs
    go_enter Tryz.func4, Tryz.ntmps4
    go_wp2_with fail
    refine (unhide CBA _ hs).mono ?_
    rintro e w1 ⟨rfl, hb1⟩
    go_wp2
    go_ret2
    exact unhide HF _ hb1

end Go.Proofs.YtjnmogmagngenaiGreatDoor.Frm

/-
  hornref2.Frame: by its contract.
-/
namespace Go.Proofs.YtjnmogmagngenaiGreatDoor.Frm
open Go.RowKit
open Go.Proofs.YtjnmogmagngenaiGreatDoor.Tre Go.Proofs.YtjnmogmagngenaiGreatDoor.Bnd Go.Proofs.YtjnmogmagngenaiGreatDoor.Pls Go.Proofs.YtjnmogmagngenaiGreatDoor.Gai Go.Proofs.YtjnmogmagngenaiGreatDoor.Shr
set_option linter.unusedVariables false

/-- What Frame answers. -/
def FrmPost (ps : List Prt) (s : List Int) (B : Int) (w : World) (e : Ending) (w' : World) : Prop := ∃ E, e = .returned (.int .i64 E) ∧ FrmF ps s B E ∧ Below w.heap.size w w'

set_option maxRecDepth 100000 in
set_option maxHeartbeats 8000000 in
theorem refFrame_ok (a : Option Addr) (cap : Nat) (ps : List Prt) (b : Option Addr) (capb : Nat) (s : List Int) (B : Int) (w : World) (hp : Pts w a ps) (hs : Row w b s) (h1 : Hid (bf s = 0)) (h2 : Hid (ps.length = s.length)) :
    Calls Tryz.prog 8 #[.slice a ps.length cap, .slice b s.length capb, .int .i64 B] w fun e w' => FrmPost ps s B w e w' := by
  obtain ⟨n0, n8, hsz, n32⟩ := bf_ok (unhide h1)
  have HSZ := hide hsz
  have CBA := hide (fun W h => refBands_ok b capb s W (by omega) h h1)
  have HP3 : Hid (¬ Fits ps s → ∀ w', Below w.heap.size w w' → FrmPost ps s B w (.returned (.int .i64 3)) w') := hide (fun h w' hb => ⟨3, rfl, frm_fit (unhide h1) (unhide h2) h, hb⟩)
  have HP1 : Hid (Fits ps s → oneF ps ≠ 0 → ∀ F, oneF ps = F → ∀ w', Below w.heap.size w w' → FrmPost ps s B w (.returned (.int .i64 F)) w') := hide (fun h h' F hF w' hb => ⟨F, rfl, by rw [← hF]; exact frm_one (unhide h1) (unhide h2) h h', hb⟩)
  have HPB : Hid (Fits ps s → oneF ps = 0 → ¬ (0 ≤ B ∧ B ≤ 400) → ∀ w', Below w.heap.size w w' → FrmPost ps s B w (.returned (.int .i64 1)) w') := hide (fun h h' h5 w' hb => ⟨1, rfl, frm_bits (unhide h1) (unhide h2) h h' h5, hb⟩)
  have HPG : Hid (Fits ps s → oneF ps = 0 → (0 ≤ B ∧ B ≤ 400) → ¬ Gets ps (given (gns ps) s B) → ∀ w', Below w.heap.size w w' → FrmPost ps s B w (.returned (.int .i64 3)) w') := hide (fun h h' h5 h6 w' hb => ⟨3, rfl, frm_gets (unhide h1) (unhide h2) h h' h5 h6, hb⟩)
  have HP0 : Hid (Fits ps s → oneF ps = 0 → (0 ≤ B ∧ B ≤ 400) → Gets ps (given (gns ps) s B) → ∀ w', Below w.heap.size w w' → FrmPost ps s B w (.returned (.int .i64 0)) w') := hide (fun h h' h5 h6 w' hb => ⟨0, rfl, frm_ok (unhide h1) (unhide h2) h h' h5 h6, hb⟩)
  have CGV := hide (fun W hg h5 hp hr => refGiven a cap ps b capb s B W hp hr (by omega) n8 (unhide h2) HSZ hg (And.left h5) (And.right h5))
  have HGL : Hid (0 ≤ B → (given (gns ps) s B).length = s.length) := hide (fun hB => by unfold given; exact (share_is (d := vals (gns ps)) hsz n8 hB).1.len)
  have HD0 : Hid (oneF (ps.drop 0) = oneF ps) := hide (by rw [List.drop_zero])
  obtain ⟨TT, hTT⟩ : ∃ TT, total s = TT := ⟨_, rfl⟩
  rw [hTT] at CBA
  obtain ⟨N, hN⟩ : ∃ N, s.length = N := ⟨_, rfl⟩
  have HN := hide hN
  have HPN : Hid (ps.length = N) := hide ((unhide h2).trans hN)
  rw [hN] at CBA CGV HGL n8 n0
  rw [unhide HPN] at CGV
  rw [unhide h2, hN]
  have hNN : ((N : Int) == (N : Int)) = true := by simp
  clear hTT hN hsz n32 h1 h2 HSZ
  go_enter Tryz.func8, Tryz.ntmps8
  go_wp2_with fail
  refine (unhide CBA _ hs).mono ?_
  rintro e w1 ⟨rfl, hb1⟩
  clear CBA
  go_wp2
  go_loopw [9] (fun i wr => ∃ k : Nat, k ≤ N ∧ i = .int .i64 k ∧ Hid (∀ r, r < k → ((prt ps r).2.length : Int) = at0 s r) ∧ Below w.heap.size w wr) (fun i _ => N - (intOf i).toNat)
  case atStart => exact ⟨0, Nat.zero_le _, rfl, hide (fun r hr => by omega), hb1⟩
  case round =>
    obtain ⟨k, hk, rfl, HF, hB⟩ := hrel
    clear hb1
    by_cases hlt : k < N
    · have hlt1 : k < ps.length := by rw [unhide HPN]; exact hlt
      have hlt2 : k < s.length := by rw [unhide HN]; exact hlt
      obtain ⟨b1, off1, rfl, _, hc1⟩ := (hp.below hB).at hlt1
      obtain ⟨-, A, C, x2, x3, x4, x5, x6⟩ := hc1 k hlt1
      obtain ⟨b2, off2, rfl, _, hc2⟩ := cell_at (hs.below hB) (by omega)
      have c2 := hc2 k hlt2
      obtain ⟨L, hL⟩ : ∃ L, (prt ps k).2.length = L := ⟨_, rfl⟩
      obtain ⟨X, hX⟩ : ∃ X, at0 s k = X := ⟨_, rfl⟩
      rw [hL] at x2
      rw [hX] at c2
      have HLX : Hid ((prt ps k).2.length = L ∧ at0 s k = X) := hide ⟨hL, hX⟩
      clear hc1 hc2 hL hX hlt2 x3 x4 x5 x6
      by_cases he : (L : Int) = X
      · have HF2 : Hid (∀ r, r < k + 1 → ((prt ps r).2.length : Int) = at0 s r) := hide (fun r hr => by
          by_cases e : r = k
          · rw [e, (unhide HLX).1, (unhide HLX).2]; exact he
          · exact unhide HF r (by omega))
        have n1 : ((L : Int) == X) = true := by rw [he]; simp
        have n2 : ((L : Int) != X) = false := by rw [he]; simp
        clear HF he HLX
        go_wp2
        go_quiet (fail)
        go_wp2
        go_roundw
        case rel => exact ⟨k + 1, by omega, by go_num, HF2, hB.trans ⟨rfl, rfl, rfl, Nat.le_refl _, fun _ _ => rfl⟩⟩
        case measure => simp [intOf]; omega
      · have HNF : Hid (¬ Fits ps s) := hide (fun h => he (by rw [← (unhide HLX).1, ← (unhide HLX).2]; exact h k hlt1))
        have n1 : ((L : Int) == X) = false := by rw [beq_eq_false_iff_ne]; exact he
        have n2 : ((L : Int) != X) = true := by simpa using he
        have HP := hide (unhide HP3 (unhide HNF))
        clear HF he HLX HNF HP3 HP1 HPB HPG HP0
        go_wp2
        go_quiet (fail)
        go_wp2
        go_ret
        exact unhide HP _ (hB.trans ⟨rfl, rfl, rfl, Nat.le_refl _, fun _ _ => rfl⟩)
    · obtain rfl : k = N := by omega
      have HFT : Hid (Fits ps s) := hide (fun r hr => unhide HF r (by rw [← unhide HPN]; exact hr))
      have HP1' := hide (unhide HP1 (unhide HFT))
      have HPB' := hide (unhide HPB (unhide HFT))
      have HPG' := hide (unhide HPG (unhide HFT))
      have HP0' := hide (unhide HP0 (unhide HFT))
      clear HF HFT HP3 HP1 HPB HPG HP0
      go_wp2
      go_loopw [10] (fun i wq => ∃ j : Nat, j ≤ k ∧ i = .int .i64 j ∧ Hid (oneF (ps.drop j) = oneF ps) ∧ wr = wq) (fun i _ => k - (intOf i).toNat)
      case atStart => exact ⟨0, Nat.zero_le _, rfl, HD0, rfl⟩
      case round =>
        obtain ⟨j, hj, rfl, HO, rfl⟩ := hrel
        clear HD0
        by_cases hlt : j < k
        · have hlt1 : j < ps.length := by rw [unhide HPN]; exact hlt
          obtain ⟨b1, off1, rfl, _, hc1⟩ := (hp.below hB).at hlt1
          obtain ⟨x1, A, C, x2, x3, x4, x5, x6⟩ := hc1 j hlt1
          have HST : Hid (oneF ps = if gok (prt ps j).1 = true then (if fault (prt ps j).2 = 0 then oneF (ps.drop (j + 1)) else fault (prt ps j).2) else 1) := hide (by rw [← unhide HO, drop_prt hlt1, oneF])
          have CV := refValue (prt ps j).1 wr
          obtain ⟨G, hG⟩ : ∃ G, (prt ps j).1 = G := ⟨_, rfl⟩
          obtain ⟨pl, hpl⟩ : ∃ pl, (prt ps j).2 = pl := ⟨_, rfl⟩
          rw [hG] at x1 HST CV
          rw [hpl] at x2 x4 x6 HST
          obtain ⟨L, hL⟩ : ∃ L, pl.length = L := ⟨_, rfl⟩
          obtain ⟨V, hV⟩ : ∃ V, vlN G = V := ⟨_, rfl⟩
          rw [hV] at CV
          clear hc1 hlt1 hG hpl hV HO x3
          cases hg : gok G with
          | false =>
            have HP := hide (unhide HP1' (by rw [unhide HST, if_neg (by rw [hg]; simp)]; omega) 1 (by rw [unhide HST, if_neg (by rw [hg]; simp)]) wr hB)
            rw [hg] at CV
            rw [hL] at x2
            clear HST hL HP1' HPB' HPG' HP0' hg x6
            go_wp2_with fail
            refine CV.mono ?_
            rintro e w3 ⟨rfl, hw3⟩
            obtain rfl : wr = w3 := hw3
            go_wp2
            go_ret
            exact unhide HP
          | true =>
            have HST2 : Hid (oneF ps = if fault pl = 0 then oneF (ps.drop (j + 1)) else fault pl) := hide (by rw [unhide HST, if_pos hg])
            rw [hg] at CV
            clear HST hg
            by_cases hf : fault pl = 0
            · have HO2 : Hid (oneF (ps.drop (j + 1)) = oneF ps) := hide (by rw [unhide HST2, if_pos hf])
              have CP := refPulses_ok A C pl wr x6 (hide hf)
              obtain ⟨Z, hZ⟩ : ∃ Z, loud pl = Z := ⟨_, rfl⟩
              rw [hZ] at CP
              rw [hL] at x2 CP
              clear HST2 hf hZ hL x6 x4
              go_wp2_with fail
              refine CV.mono ?_
              rintro e w3 ⟨rfl, hw3⟩
              obtain rfl : wr = w3 := hw3
              clear CV
              go_wp2_with fail
              refine CP.mono ?_
              rintro e w3 ⟨rfl, hw3⟩
              obtain rfl : wr = w3 := hw3
              clear CP
              go_wp2
              go_roundw
              case rel => exact ⟨j + 1, by omega, by go_num, HO2, by first | trivial | rfl⟩
              case measure => simp [intOf]; omega
            · have HOF : Hid (oneF ps = fault pl) := hide (by rw [unhide HST2, if_neg hf])
              have CP := refPulses_no A C pl wr (by omega) x6 (hide hf)
              have HP := hide (unhide HP1' (by rw [unhide HOF]; exact hf) _ (unhide HOF) wr hB)
              obtain ⟨F, hF⟩ : ∃ F, fault pl = F := ⟨_, rfl⟩
              rw [hF] at CP HP hf
              have n1 : (F == 0) = false := by rw [beq_eq_false_iff_ne]; exact hf
              have n2 : (F != 0) = true := by simpa using hf
              rw [hL] at x2 CP
              clear HST2 HOF hf hF hL x6 x4 HP1' HPB' HPG' HP0'
              go_wp2_with fail
              refine CV.mono ?_
              rintro e w3 ⟨rfl, hw3⟩
              obtain rfl : wr = w3 := hw3
              clear CV
              go_wp2_with fail
              refine CP.mono ?_
              rintro e w3 ⟨rfl, hw3⟩
              obtain rfl : wr = w3 := hw3
              clear CP
              go_wp2
              go_ret
              exact unhide HP
        · obtain rfl : j = k := by omega
          have HO0 : Hid (oneF ps = 0) := hide (by rw [← unhide HO, ← unhide HPN, List.drop_length]; rfl)
          have HPB2 := hide (unhide HPB' (unhide HO0))
          have HPG2 := hide (unhide HPG' (unhide HO0))
          have HP02 := hide (unhide HP0' (unhide HO0))
          have HOZ := hide (oneF_zero (unhide HO0))
          clear HO HO0 HP1' HPB' HPG' HP0'
          by_cases hb1 : B < 0
          · have d1 : decide (B < 0) = true := by simpa using hb1
            have HP := hide (unhide HPB2 (by omega) wr hB)
            clear HPB2 HPG2 HP02
            go_wp2
            go_ret
            exact unhide HP
          · have d1 : decide (B < 0) = false := by simpa using hb1
            by_cases hb2 : 400 < B
            · have d2 : decide (400 < B) = true := by simpa using hb2
              have HP := hide (unhide HPB2 (by omega) wr hB)
              clear HPB2 HPG2 HP02
              go_wp2
              go_ret
              exact unhide HP
            · have d2 : decide (400 < B) = false := by simpa using hb2
              have h5 : 0 ≤ B ∧ B ≤ 400 := by omega
              have HPG3 := hide (unhide HPG2 h5)
              have HP03 := hide (unhide HP02 h5)
              have CG := unhide CGV wr (hide (fun i hi => (unhide HOZ i (by rw [unhide HPN]; exact hi)).1)) h5 (hp.below hB) (hs.below hB)
              have HGL2 := hide (unhide HGL (by omega))
              obtain ⟨gv, hgv⟩ : ∃ gv, given (gns ps) s B = gv := ⟨_, rfl⟩
              rw [hgv] at CG HPG3 HP03 HGL2
              clear hgv HPB2 HPG2 HP02 CGV HGL h5
              go_wp2_with fail
              refine CG.mono ?_
              rintro e w4 ⟨v4, rfl, k4, hb4⟩
              clear CG
              have hB4 := Below.chain hB hb4
              obtain ⟨g4, c4, rfl, hg4, hg5, -, -⟩ := k4.one (by rw [unhide HGL2]; exact n0)
              rw [unhide HGL2] at k4 ⊢
              clear hB hb4
              go_wp2
              go_loopw [14] (fun i wq => ∃ m : Nat, m ≤ j ∧ i = .int .i64 m ∧ Hid (∀ r, r < m → (loud (prt ps r).2 : Int) = at0 gv r) ∧ Has wq wr.heap.size (.slice (some ⟨g4, 0, none⟩) j c4) gv ∧ Below w.heap.size w wq) (fun i _ => j - (intOf i).toNat)
              case atStart => exact ⟨0, Nat.zero_le _, rfl, hide (fun r hr => by omega), k4, hB4⟩
              case round =>
                clear k4 hB4
                rename World => wq
                obtain ⟨m, hm, rfl, HG, k4, hB4⟩ := hrel
                by_cases hlt : m < j
                · have hlt1 : m < ps.length := by rw [unhide HPN]; exact hlt
                  obtain ⟨b1, off1, rfl, _, hc1⟩ := (hp.below hB4).at hlt1
                  obtain ⟨-, A, C, x2, x3, x4, x5, x6⟩ := hc1 m hlt1
                  have hok := (unhide HOZ m hlt1).2
                  obtain ⟨f1, f2, f3⟩ := fault_ok hok
                  have ck := k4.get (j := m) (by rw [unhide HGL2]; exact hlt)
                  have CL : Hid (∀ x, Calls Tryz.prog 17 #[.slice A (prt ps m).2.length C] (wq.drewN x) fun e w' => e = .returned (.int .i64 (loud (prt ps m).2 : Int)) ∧ ∃ n, w' = wq.drewN n) := hide (fun x => (refLoud A C (prt ps m).2 (wq.drewN x) (by omega) (f2.mono (by omega)) (x6.below (⟨rfl, rfl, rfl, Nat.le_refl _, fun _ _ => rfl⟩ : Below wq.heap.size wq (wq.drewN x)))).mono fun e w' ⟨he, hw⟩ => ⟨he, x, hw.symm⟩)
                  obtain ⟨Z, hZ⟩ : ∃ Z, loud (prt ps m).2 = Z := ⟨_, rfl⟩
                  have HZ := hide hZ
                  obtain ⟨K, hK⟩ : ∃ K, at0 gv m = K := ⟨_, rfl⟩
                  have HK := hide hK
                  rw [hZ] at CL
                  rw [hK] at ck
                  obtain ⟨L, hL⟩ : ∃ L, (prt ps m).2.length = L := ⟨_, rfl⟩
                  rw [hL] at x2 CL
                  clear hc1 hZ hK hL hok f1 f2 f3 x3 x4 x5 x6
                  by_cases he : (Z : Int) = K
                  · have HG2 : Hid (∀ r, r < m + 1 → (loud (prt ps r).2 : Int) = at0 gv r) := hide (fun r hr => by
                      by_cases e : r = m
                      · rw [e, unhide HZ, unhide HK]; exact he
                      · exact unhide HG r (by omega))
                    have n1 : ((Z : Int) == K) = true := by rw [he]; simp
                    have n2 : ((Z : Int) != K) = false := by rw [he]; simp
                    clear HG he HZ HK
                    go_wp2
                    go_quiet ((go_at_call 17; exact unhide CL _))
                    go_wp2
                    go_roundw
                    case rel => exact ⟨m + 1, by omega, by go_num, HG2, k4, hB4.trans ⟨rfl, rfl, rfl, Nat.le_refl _, fun _ _ => rfl⟩⟩
                    case measure => simp [intOf]; omega
                  · have HNG : Hid (¬ Gets ps gv) := hide (fun h => he (by rw [← unhide HZ, ← unhide HK]; exact h m hlt1))
                    have n1 : ((Z : Int) == K) = false := by rw [beq_eq_false_iff_ne]; exact he
                    have n2 : ((Z : Int) != K) = true := by simpa using he
                    have HP := hide (unhide HPG3 (unhide HNG))
                    clear HG he HZ HK HNG HPG3 HP03
                    go_wp2
                    go_quiet ((go_at_call 17; exact unhide CL _))
                    go_wp2
                    go_ret
                    exact unhide HP _ (hB4.trans ⟨rfl, rfl, rfl, Nat.le_refl _, fun _ _ => rfl⟩)
                · obtain rfl : m = j := by omega
                  have HP := hide (unhide HP03 (fun r hr => unhide HG r (by rw [← unhide HPN]; exact hr)) wq hB4)
                  clear HG HPG3 HP03
                  go_wp2
                  go_ret
                  exact unhide HP

set_option maxRecDepth 100000 in
set_option maxHeartbeats 4000000 in
theorem refFrame (a : Option Addr) (cap : Nat) (ps : List Prt) (b : Option Addr) (capb : Nat) (s : List Int) (B : Int) (w : World) (hp : Pts w a ps) (hs : Row w b s) (zp : ps.length ≤ 9223372036854775807) (zs : s.length ≤ 9223372036854775807) :
    Calls Tryz.prog 8 #[.slice a ps.length cap, .slice b s.length capb, .int .i64 B] w fun e w' => FrmPost ps s B w e w' := by
  by_cases h1 : bf s = 0
  · by_cases h2 : ps.length = s.length
    · exact refFrame_ok a cap ps b capb s B w hp hs (hide h1) (hide h2)
    · have CBA := hide (fun W h => refBands_ok b capb s W zs h (hide h1))
      have HP : Hid (∀ w', Below w.heap.size w w' → FrmPost ps s B w (.returned (.int .i64 3)) w') := hide (fun w' hb => ⟨3, rfl, frm_len h1 h2, hb⟩)
      obtain ⟨TT, hTT⟩ : ∃ TT, total s = TT := ⟨_, rfl⟩
      obtain ⟨N, hN⟩ : ∃ N, s.length = N := ⟨_, rfl⟩
      obtain ⟨M, hM⟩ : ∃ M, ps.length = M := ⟨_, rfl⟩
      rw [hTT] at CBA
      rw [hM, hN] at h2
      rw [hN] at CBA ⊢
      rw [hM]
      have n1 : ((M : Int) == (N : Int)) = false := by rw [beq_eq_false_iff_ne]; omega
      have n2 : ((M : Int) != (N : Int)) = true := by simp; omega
      have n3 : (M == N) = false := by rw [beq_eq_false_iff_ne]; omega
      clear hTT hN hM h1 h2 zp zs
      go_enter Tryz.func8, Tryz.ntmps8
      go_wp2_with fail
      refine (unhide CBA _ hs).mono ?_
      rintro e w1 ⟨rfl, hb1⟩
      go_wp2
      go_ret
      exact unhide HP _ hb1
  · have CBA := hide (fun W h => refBands_no b capb s W zs h (hide h1))
    have HP : Hid (∀ w', Below w.heap.size w w' → FrmPost ps s B w (.returned (.int .i64 (bf s))) w') := hide (fun w' hb => ⟨_, rfl, frm_bf h1, hb⟩)
    obtain ⟨F, hF⟩ : ∃ F, bf s = F := ⟨_, rfl⟩
    obtain ⟨N, hN⟩ : ∃ N, s.length = N := ⟨_, rfl⟩
    obtain ⟨M, hM⟩ : ∃ M, ps.length = M := ⟨_, rfl⟩
    rw [hF] at CBA HP h1
    rw [hN] at CBA ⊢
    rw [hM]
    have n1 : (F == 0) = false := by rw [beq_eq_false_iff_ne]; exact h1
    have n2 : (F != 0) = true := by simpa using h1
    clear hF hN hM h1 zp zs
    go_enter Tryz.func8, Tryz.ntmps8
    go_wp2_with fail
    refine (unhide CBA _ hs).mono ?_
    rintro e w1 ⟨rfl, hb1⟩
    go_wp2
    go_ret
    exact unhide HP _ hb1

end Go.Proofs.YtjnmogmagngenaiGreatDoor.Frm

/-
  hornref1.Unlap: by its contract.
-/
namespace Go.Proofs.YtjnmogmagngenaiGreatDoor.Lap
open Go.RowKit
open Go.Proofs.YtjnmogmagngenaiGreatDoor.Tre
set_option linter.unusedVariables false

theorem at_fr {l : List Int} {n j : Nat} (hn : n = l.length / 2) (h : j < n) : at0 (fr l) j = at0 l j := by subst hn; unfold fr at0; rw [List.getElem?_take, if_pos h]
theorem at_bk {l : List Int} {n : Nat} (hn : n = l.length / 2) (j : Nat) : at0 (bk l) j = at0 l (n + j) := by subst hn; unfold bk at0; rw [List.getElem?_drop]
theorem evs_step {l : List Int} {n j T : Nat} (hn : n = l.length / 2) (h : j < n) (hT : T = n + (j - 1)) : upto (evF (fr l) (bk l)) (j + 1) = upto (evF (fr l) (bk l)) j ++ [at0 l j - (at0 l T + at0 l (n + j) + 2) / 4] := by
  rw [upto_succ]
  unfold evF lf
  rw [at_fr hn h, at_bk hn, at_bk hn, hT]
theorem unlap_step {l : List Int} {n j T : Nat} (hn : n = l.length / 2) (h : j < n) (hT : T = if j + 1 < n then j + 1 else j) : flat (at0 (evs l)) (at0 (ods l)) (j + 1) = flat (at0 (evs l)) (at0 (ods l)) j ++ [at0 (evs l) j, at0 l (n + j) + (at0 (evs l) j + at0 (evs l) T) / 2] := by
  rw [flat_succ]
  have e : min (j + 1) ((evs l).length - 1) = T := by
    rw [evs_length, ← hn, hT]
    by_cases h3 : j + 1 < n
    · rw [if_pos h3, Nat.min_eq_left (by omega)]
    · rw [if_neg h3, Nat.min_eq_right (by omega)]; omega
  have e2 : at0 (ods l) j = odF (evs l) (bk l) j := by unfold ods; rw [← hn]; exact upto_at _ h
  rw [e2]
  unfold odF gs
  rw [at_bk hn, e]

theorem row_two' {w : World} {x y : Int} {t : TypeId} {n : Nat} (h : w.heap.size = n) : Row (w.alloc (.cells #[.int .i64 x, .int .i64 y] t)) (some ⟨n, 0, none⟩) [x, y] := by
  subst h; exact row_two w x y t

set_option maxRecDepth 100000 in
set_option maxHeartbeats 8000000 in
theorem refUnlap (a : Option Addr) (cap : Nat) (l : List Int) (w : World) (hl : l.length ≤ 32) (he : Hid (l.length = 2 * (l.length / 2))) (hi : In 4000 l) (hr : Row w a l) :
    Calls Tryz.prog 35 #[.slice a l.length cap] w fun e w' => ∃ v, e = .returned v ∧ Has w' w.heap.size v (unlap l) ∧ Below w.heap.size w w' := by
  obtain ⟨n, hn⟩ : ∃ n, n = l.length / 2 := ⟨_, rfl⟩
  have hdv : Int.tdiv (l.length : Int) 2 = (n : Int) := by rw [hn]; rfl
  have hn9 : n ≤ 16 := by omega
  have hN2 : 2 * n ≤ l.length := by omega
  have hN3 : l.length ≤ 2 * n := by have := unhide he; omega
  have HN := hide hn
  have hi2 : In (2 * 2000) l := hi
  have hin := evs_in (by omega) hi2
  have HLE : Hid ((evs l).length = n) := hide (by rw [evs_length]; exact hn.symm)
  obtain ⟨L, hL⟩ : ∃ L, l.length = L := ⟨_, rfl⟩
  rw [hL] at hdv hN2 hN3 hl ⊢
  have HL := hide hL
  clear hn hL
  go_enter Tryz.func35, Tryz.ntmps35
  go_wp2
  go_loopw [4, 6] (fun d i wr => ∃ j : Nat, j ≤ n ∧ i = .int .i64 j ∧ Has wr w.heap.size d (upto (evF (fr l) (bk l)) j) ∧ Below w.heap.size w wr) (fun _ i _ => n - (intOf i).toNat)
  case atStart => exact ⟨0, Nat.zero_le _, rfl, Has.nil _ _, Below.refl _ _⟩
  case round =>
    obtain ⟨j, hj, rfl, h1, hB⟩ := hrel
    by_cases hlt : j < n
    · obtain ⟨b, off, rfl, hc⟩ := row_cell (hr.below hB) (by rw [unhide HL]; omega)
      rw [unhide HL] at hc
      obtain ⟨T, hT⟩ : ∃ T, T = n + (j - 1) := ⟨_, rfl⟩
      have HS := hide (evs_step (unhide HN) hlt hT)
      obtain ⟨O, hO⟩ : ∃ O, O = n + j := ⟨_, rfl⟩
      rw [← hO] at HS
      have hjl : j < L := by omega
      have hOl : O < L := by omega
      have hTl : T < L := by omega
      have c1 := hc j hjl
      have c2 := hc O hOl
      have c3 := hc T hTl
      obtain ⟨x0, x1⟩ := hi.at (by omega) j
      obtain ⟨y0, y1⟩ := hi.at (by omega) O
      obtain ⟨z0, z1⟩ := hi.at (by omega) T
      obtain ⟨X, hX⟩ : ∃ X, at0 l j = X := ⟨_, rfl⟩
      obtain ⟨Y, hY⟩ : ∃ Y, at0 l O = Y := ⟨_, rfl⟩
      obtain ⟨Z, hZ⟩ : ∃ Z, at0 l T = Z := ⟨_, rfl⟩
      rw [hX] at c1 x0 x1 HS
      rw [hY] at c2 y0 y1 HS
      rw [hZ] at c3 z0 z1 HS
      clear hX hY hZ hc
      have hO2 : IntKind.i64.wrap ((n : Int) + (j : Int)) = (O : Int) := by rw [IntWalk.i64_in _ (by omega)]; omega
      have hln : Hid ((upto (evF (fr l) (bk l)) j).length + 1 ≤ 1000000) := hide (by rw [upto_length]; omega)
      by_cases h3 : 0 < j
      all_goals (first
        | (obtain ⟨P, hP⟩ : ∃ P, P = j - 1 := ⟨_, rfl⟩
           have hP2 : (j : Int) - 1 = (P : Int) := by omega
           have hT3 : IntKind.i64.wrap ((n : Int) + (P : Int)) = (T : Int) := by rw [IntWalk.i64_in _ (by omega)]; omega
           clear hT hP hO
           go_wp2
           go_quiet ((go_at_call 39; exact Calls.quiet_of_same (down4 (Z + Y + 2) _ (by omega) (by omega)))))
        | (obtain rfl : O = T := by omega
           obtain rfl : Y = Z := by rw [c2] at c3; cases c3; rfl
           clear hT hO
           go_wp2
           go_quiet ((go_at_call 39; exact Calls.quiet_of_same (down4 (Y + Y + 2) _ (by omega) (by omega))))))
      all_goals
        have h1V : Has (wr.drewN nq) w.heap.size u4 (upto (evF (fr l) (bk l)) j) := h1
        have c1V : (wr.drewN nq).cell? ⟨b, off + j, none⟩ = some (.int .i64 X) := c1
        have hBV : Below w.heap.size w (wr.drewN nq) := hB.trans ⟨rfl, rfl, rfl, Nat.le_refl _, fun _ _ => rfl⟩
        obtain ⟨V, hV⟩ : ∃ V, wr.drewN nq = V := ⟨_, rfl⟩
        rw [hV] at h1V c1V hBV ⊢
        clear hV h1 c1 c2 c3 hB
        have hVs := hBV.size
        go_wp2_with (at_builtin; refine wpList_app _ rfl _ _ rfl w.heap.size u4 (upto (evF (fr l) (bk l)) j) _ _ _ rfl (h1V.alloc _) rfl (row_one _ _ _) (unhide hln) (by simp; omega) ?_; intro s' w1 k1 g1 at1)
        obtain ⟨d1, d2⟩ := stepped_plain h1V hVs k1 g1 at1
        go_wp2
        go_roundw
        case rel => exact ⟨j + 1, by omega, by go_num, by rw [unhide HS]; exact k1, hBV.trans d1⟩
        case measure => simp [intOf]; omega
    · obtain rfl : n = j := by omega
      have h1' : Has wr w.heap.size u4 (evs l) := by unfold evs; rw [← unhide HN]; exact h1
      clear h1
      obtain ⟨p2, q2, rfl, -⟩ := h1'.row
      rw [unhide HLE] at h1' ⊢
      go_wp2
      go_loopw [5, 9] (fun s i wr => ∃ j : Nat, j ≤ n ∧ i = .int .i64 j ∧ Has wr w.heap.size s (flat (at0 (evs l)) (at0 (ods l)) j) ∧ Has wr w.heap.size (.slice p2 n q2) (evs l) ∧ Off (.slice p2 n q2) s ∧ Below w.heap.size w wr) (fun _ i _ => n - (intOf i).toNat)
      case atStart => exact ⟨0, Nat.zero_le _, rfl, Has.nil _ _, h1', off_nil _, hB⟩
      case round =>
        obtain ⟨j, hj, rfl, h1, h2, h3, hB2⟩ := hrel
        clear h1' hB
        by_cases hlt : j < n
        · obtain ⟨b, off, rfl, hc⟩ := row_cell (hr.below hB2) (by rw [unhide HL]; omega)
          rw [unhide HL] at hc
          obtain ⟨g, c, e1, hg1, hg2, hg3, hg4⟩ := h2.one (by rw [unhide HLE]; omega)
          rw [unhide HLE] at e1
          obtain ⟨rfl, -, rfl⟩ := Value.slice.inj e1
          obtain ⟨T, hT⟩ : ∃ T, T = if j + 1 < n then j + 1 else j := ⟨_, rfl⟩
          have HS := hide (unlap_step (unhide HN) hlt hT)
          obtain ⟨O, hO⟩ : ∃ O, O = n + j := ⟨_, rfl⟩
          rw [← hO] at HS
          have hOl : O < L := by omega
          have hTn : T < n := by rw [hT]; split <;> omega
          have c1 := hc O hOl
          have c2 := h2.get (j := j) (by rw [unhide HLE]; exact hlt)
          have c3 := h2.get (j := T) (by rw [unhide HLE]; exact hTn)
          obtain ⟨x0, x1⟩ := hi.at (by omega) O
          obtain ⟨y0, y1⟩ := hin.at (by omega) j
          obtain ⟨z0, z1⟩ := hin.at (by omega) T
          obtain ⟨X, hX⟩ : ∃ X, at0 l O = X := ⟨_, rfl⟩
          obtain ⟨Y, hY⟩ : ∃ Y, at0 (evs l) j = Y := ⟨_, rfl⟩
          obtain ⟨Z, hZ⟩ : ∃ Z, at0 (evs l) T = Z := ⟨_, rfl⟩
          rw [hX] at c1 x0 x1 HS
          rw [hY] at c2 y0 y1 HS
          rw [hZ] at c3 z0 z1 HS
          clear hX hY hZ hc
          have hO2 : IntKind.i64.wrap ((n : Int) + (j : Int)) = (O : Int) := by rw [IntWalk.i64_in _ (by omega)]; omega
          have hln : Hid ((flat (at0 (evs l)) (at0 (ods l)) j).length + 2 ≤ 1000000) := hide (by rw [flat_length]; omega)
          have hmx : Tryz.prog.follows .mixedOrders = true := by kernel_rfl
          clear hO
          by_cases h4 : j + 1 < n
          all_goals (first
            | (rw [if_pos h4] at hT
               have hT2 : (j : Int) + 1 = (T : Int) := by omega
               clear hT
               go_wp2
               go_quiet ((go_at_call 39; exact Calls.quiet_of_same (down2 (Y + Z) _ (by omega) (by omega))))
               have hwr : IntKind.i64.wrap (X + (Y + Z) / 2) = X + (Y + Z) / 2 := IntWalk.i64_in _ (by omega))
            | (rw [if_neg h4] at hT
               obtain rfl := hT
               obtain rfl : Y = Z := by rw [c2] at c3; cases c3; rfl
               go_wp2
               go_quiet ((go_at_call 39; exact Calls.quiet_of_same (down2 (Y + Y) _ (by omega) (by omega))))
               have hwr : IntKind.i64.wrap (X + (Y + Y) / 2) = X + (Y + Y) / 2 := IntWalk.i64_in _ (by omega)))
          all_goals
            have h1V : Has (wr.drewN nq) w.heap.size u5 (flat (at0 (evs l)) (at0 (ods l)) _) := h1
            have h2V : Has (wr.drewN nq) w.heap.size (.slice (some ⟨g, 0, none⟩) n q2) (evs l) := h2
            have c1V : (wr.drewN nq).cell? ⟨b, off + O, none⟩ = some (.int .i64 X) := c1
            have c2V : (wr.drewN nq).cell? ⟨g, _, none⟩ = some (.int .i64 Y) := c2
            have hBV : Below w.heap.size w (wr.drewN nq) := hB2.trans ⟨rfl, rfl, rfl, Nat.le_refl _, fun _ _ => rfl⟩
            obtain ⟨V, hV⟩ : ∃ V, wr.drewN nq = V := ⟨_, rfl⟩
            rw [hV] at h1V h2V c1V c2V hBV ⊢
            clear hV h1 h2 c1 c2 c3 hB2
            have hVs := hBV.size
            go_wp2
            go_region_law (refine step_app _ rfl _ _ rfl w.heap.size u5 (flat (at0 (evs l)) (at0 (ods l)) _) _ _ _ rfl (Has.alloc (w := V.drew) h1V _) rfl (row_two' (w := V.drew) rfl) (unhide hln) (by simp; omega) ?_; intro s' w1 k1 g1 at1)
          all_goals
            obtain ⟨d1, d2⟩ := stepped_plain (W := V.drew) h1V hVs k1 g1 at1
            obtain ⟨h2', h3'⟩ := d2 _ _ h2V h3
            go_wp2
            go_roundw
            case rel => exact ⟨_, hlt, by go_num, by rw [unhide HS]; exact k1, h2', h3', hBV.trans ⟨d1.os, d1.tape, d1.output, d1.size, d1.block⟩⟩
            case measure => simp [intOf]; omega
        · obtain rfl : n = j := by omega
          go_wp2
          go_ret
          refine ⟨_, rfl, ?_, hB2⟩
          unfold unlap
          rw [← unhide HN]
          exact h1

end Go.Proofs.YtjnmogmagngenaiGreatDoor.Lap
