/-
  pack.read: by its contract.
-/
import Derived.Test.YtjojeifoddonnakDoorLb39
import Derived.Test.YtjojeifoddonnakDoorLb44
import Derived.Test.YtjojeifoddonnakDoorLb30
import Derived.Test.YtjojeifoddonnakDoorLb09
namespace Go.Proofs.YtjojeifoddonnakDoor.Pck
open Go.RowKit
open Go.Proofs.YtjojeifoddonnakDoor.Tre Go.Proofs.YtjojeifoddonnakDoor.Bnd Go.Proofs.YtjojeifoddonnakDoor.Cnt Go.Proofs.YtjojeifoddonnakDoor.Pls Go.Proofs.YtjojeifoddonnakDoor.Shr Go.Proofs.YtjojeifoddonnakDoor.Frm Go.Proofs.YtjojeifoddonnakDoor.Wid Go.Proofs.YtjojeifoddonnakDoor.Hrn
set_option linter.unusedVariables false

/-- What read tells. -/
def ReadSays (x : ByteArray) (s : List Int) (B : Int) (w : World) (e : Ending) (w' : World) : Prop :=
  (((∀ qs, ¬ IsP (byt x) s B qs) ∧ ∃ E, e = .returned (.tuple #[.slice none 0 0, .iface 41 (.int .i64 E)])) ∨ (∃ p q ps, e = .returned (.tuple #[.slice p ps.length q, .nilIface]) ∧ PtsN w.heap.size w' p ps ∧ ps.length ≤ q ∧ q ≤ 9223372036854775807 ∧ IsP (byt x) s B ps)) ∧ Below w.heap.size w w'

set_option maxRecDepth 100000 in
set_option maxHeartbeats 32000000 in
theorem readFrame (x : ByteArray) (b : Option Addr) (capb : Nat) (s : List Int) (B : Int) (w : World) (zx : x.size ≤ 9223372036854775807) (hs : Row w b s) (h1 : Hid (bf s = 0)) (hB0 : 0 ≤ B) (hB4 : B ≤ 400) :
    Calls Tryd.prog 18 #[.string x, .slice b s.length capb, .int .i64 B] w fun e w' => ReadSays x s B w e w' := by
  obtain ⟨n0, n8, hsz, n32⟩ := bf_ok (unhide h1)
  have HSZ := hide hsz
  have HNO : Hid ((∀ qs, ¬ IsP (byt x) s B qs) → ∀ E w', Below w.heap.size w w' → ReadSays x s B w (.returned (.tuple #[.slice none 0 0, .iface 41 (.int .i64 E)])) w') := hide (fun h E w' hb => ⟨Or.inl ⟨h, E, rfl⟩, hb⟩)
  have HYE : Hid (∀ ps p q w', IsP (byt x) s B ps → PtsN w.heap.size w' p ps → ps.length ≤ q → q ≤ 9223372036854775807 → Below w.heap.size w w' → ReadSays x s B w (.returned (.tuple #[.slice p ps.length q, .nilIface])) w') := hide (fun ps p q w' h hp hq hq9 hb => ⟨Or.inr ⟨p, q, ps, rfl, hp, hq, hq9, h⟩, hb⟩)
  have HX1 : Hid (x.size < (6 * s.length + 7) / 8 → ∀ qs, ¬ IsP (byt x) s B qs) := hide (fun h qs hq => by have := hq.least; rw [byt_length] at this; omega)
  have HX2 : Hid ((∃ i, i < s.length ∧ gok (rg (opn (byt x)) i) = false) → ∀ qs, ¬ IsP (byt x) s B qs) := hide (fun ⟨i, hi, h⟩ qs hq => by have := (hq.reads hi).1; rw [h] at this; cases this)
  have HX3 : Hid (btF (byt x) ((6 * s.length + cost s (rgv (opn (byt x)) s B) : Nat) : Int) ≠ 0 → ∀ qs, ¬ IsP (byt x) s B qs) := hide (fun h qs hq => h hq.bits)
  have HX4 : Hid (∀ i, i < s.length → V (at0 (rgv (opn (byt x)) s B) i).toNat (at0 s i).toNat ≤ rr (opn (byt x)) s (rgv (opn (byt x)) s B) i → ∀ qs, ¬ IsP (byt x) s B qs) := hide (fun i hi h qs hq => by have := (hq.ranks hi).2.1; omega)
  have HIS : Hid ((∀ i, i < s.length → gok (rg (opn (byt x)) i) = true) → btF (byt x) ((6 * s.length + cost s (rgv (opn (byt x)) s B) : Nat) : Int) = 0 → ∀ ps : List Prt, ps.length = s.length → (∀ i, i < s.length → (prt ps i).1 = rg (opn (byt x)) i ∧ Rd (opn (byt x)) s (rgv (opn (byt x)) s B) i (prt ps i).2) → IsP (byt x) s B ps) := hide (fun hg ht ps hl hp => read_is (byt_byts x) (unhide h1) hB0 hB4 hg ht hl hp)
  have HGV : Hid (given (rgs (opn (byt x)) s.length) s B = rgv (opn (byt x)) s B) := hide rfl
  have HGI := hide (given_is (gs := rgs (opn (byt x)) s.length) (B := B) hsz n8 hB0)
  rw [unhide HGV] at HGI
  have HRN : Hid (∀ i, 0 ≤ rr (opn (byt x)) s (rgv (opn (byt x)) s B) i) := hide (fun i => (num_in (bit_take (bit_drop (opn_bit (byt_byts x)) _) _)).1)
  have HRDI : Hid (∀ j l, Is (at0 s j).toNat (at0 (rgv (opn (byt x)) s B) j).toNat (rr (opn (byt x)) s (rgv (opn (byt x)) s B) j) l → Rd (opn (byt x)) s (rgv (opn (byt x)) s B) j l) := hide (fun j l h => h)
  have CRG := hide (readGains x s.length w zx n0 n8)
  have CRR := hide (fun W a cap h => readRanks x a cap s (rgv (opn (byt x)) s B) W zx h n8 HSZ (hide (unhide HGI).pls) (unhide HGI).len)
  unfold GrSays at CRG
  unfold RkSays at CRR
  obtain ⟨A, hA⟩ : ∃ A, opn (byt x) = A := ⟨_, rfl⟩
  rw [hA] at CRG CRR HX2 HX3 HX4 HIS HGV HGI HRN HRDI
  have HGL : Hid ((rgs A s.length).length = s.length) := hide (by unfold rgs; rw [upto_length])
  have HGA : Hid (∀ r, r < s.length → at0 (rgs A s.length) r = rg A r) := hide (fun r hr => by unfold rgs; exact upto_at _ hr)
  have HGVL : Hid ((rgv A s B).length = s.length) := hide (unhide HGI).len
  have HGP : Hid (∀ i, i < s.length → 0 ≤ at0 (rgv A s B) i ∧ at0 (rgv A s B) i ≤ 8) := hide (fun i hi => (unhide HGI).pls i (by rw [unhide HGVL]; exact hi))
  have HUA : Hid (∀ r, r < s.length → at0 (upto (rr A s (rgv A s B)) s.length) r = rr A s (rgv A s B) r) := hide (fun r hr => upto_at _ hr)
  have HUL : Hid ((upto (rr A s (rgv A s B)) s.length).length = s.length) := hide (upto_length _ _)
  have CRW := hide (fun W a cap h h2 => rankWidths b capb s a cap (rgv A s B) W h h2 (unhide HGVL) n8 HSZ HGP)
  have CPN := hide (fun W (g c : Nat) h hg => pulsesFor_no (some ⟨g, 0, none⟩) c (bare (rgs A s.length)) b s.length capb B W h (by rw [bare_length, unhide HGL]; exact n8) hg)
  have CPF := hide (fun W (g c : Nat) h h' hg => pulsesFor (some ⟨g, 0, none⟩) c (bare (rgs A s.length)) b capb s B W h h' h1 (by rw [bare_length, unhide HGL]) hg)
  unfold PfSays at CPF
  rw [bare_gns, unhide HGV] at CPF
  rw [bare_length, unhide HGL] at CPN CPF
  rw [unhide HGVL] at CRW
  have HRWL := hide (rws_length s (rgv A s B))
  obtain ⟨gs, hgs⟩ : ∃ gs, rgs A s.length = gs := ⟨_, rfl⟩
  rw [hgs] at CRG CPN CPF HGL HGA
  obtain ⟨gv, hgv⟩ : ∃ gv, rgv A s B = gv := ⟨_, rfl⟩
  rw [hgv] at CRR CRW CPF HX3 HX4 HIS HRN HRDI HGVL HGP HUA HUL HRWL
  obtain ⟨us, hus⟩ : ∃ us, upto (rr A s gv) s.length = us := ⟨_, rfl⟩
  rw [hus] at CRR HUA HUL
  obtain ⟨rs, hrs⟩ : ∃ rs, rws s gv = rs := ⟨_, rfl⟩
  rw [hrs] at CRR CRW HRWL
  obtain ⟨N, hN⟩ : ∃ N, s.length = N := ⟨_, rfl⟩
  have HN := hide hN
  rw [hN] at CRG CRR CRW CPN CPF HX1 HX2 HX3 HX4 HIS HGL HGA HGVL HGP HUA HUL HRWL n0 n8 ⊢
  clear hgs hgv hus hrs hN hA hsz n32 HGV HGI
  go_enter Tryd.func18, Tryd.ntmps18
  go_wp2_with fail
  refine (unhide CRG).mono ?_
  rintro e w1 ⟨hsay, hb1⟩
  clear CRG
  rcases hsay with ⟨hlt, rfl⟩ | ⟨-, v1, rfl, k1⟩
  · have HP := hide (unhide HNO (unhide HX1 hlt) 2 w1 hb1)
    clear HNO HYE HX1 HX2 HX3 HX4 HIS
    go_wp2
    go_ret2
    exact unhide HP
  have HQL := hide (q0_length (gs := gs) (k := N) (by rw [unhide HGL]; exact Nat.le_refl _))
  obtain ⟨g, c, rfl, hg1, hg2, -, -⟩ := k1.one (by rw [unhide HQL]; exact n0)
  obtain ⟨a5, c5, ee, pt5, -, -⟩ := k1.pts (ps := bare gs) (by rw [bare_length, unhide HGL, unhide HQL]) (fun r hr => by
    rw [bare_length, unhide HGL] at hr
    rw [bare_at (by rw [unhide HGL]; exact hr)]
    exact ⟨_, q0_at hr (by rw [unhide HGL]; exact Nat.le_refl _), sli_nil _⟩)
  obtain ⟨ea, eb, ec⟩ := Value.slice.inj ee
  subst ea ec
  rw [unhide HQL]
  by_cases hok : ∀ i, i < N → gok (rg A i) = true
  · have CP := unhide CPF w1 g c pt5 (hs.below hb1) (hide (fun i hi => by
      rw [bare_at (by rw [unhide HGL]; exact hi), unhide HGA i hi]
      exact hok i hi))
    have HIS2 := hide (unhide HIS hok)
    have HA0 : Hid (∀ r, r < N → ∃ V, (q0 gs N)[r]? = some (at0 gs r, V)) := hide (fun r hr => ⟨_, q0_at hr (by rw [unhide HGL]; exact Nat.le_refl _)⟩)
    obtain ⟨qs0, hqs⟩ : ∃ qs0, q0 gs N = qs0 := ⟨_, rfl⟩
    rw [hqs] at HA0 k1 HQL
    rw [unhide HQL] at k1
    clear hqs ee eb pt5 HX1 HX2 CPN CPF hok HIS
    go_wp2_with fail
    refine CP.mono ?_
    clear CP
    rintro e w2 ⟨hsay, hb2⟩
    rcases hsay with ⟨hno, -⟩ | ⟨-, v2, rfl, k2⟩
    · exact absurd ⟨hB0, hB4⟩ hno
    have hB2 := Below.chain hb1 hb2
    obtain ⟨g7, c7, rfl, hg7, hg8, -, -⟩ := k2.one (by rw [unhide HGVL]; exact n0)
    obtain ⟨p2, q2, e2, r2⟩ := k2.row
    obtain ⟨ea, eb, ec⟩ := Value.slice.inj e2
    subst ea ec
    have CW := unhide CRW w2 _ c7 (hs.below hB2) r2
    rw [unhide HGVL] at k2 ⊢
    have k1' := k1.below hb2
    clear CRW k1 hb2 e2 eb r2
    go_wp2_with fail
    refine CW.mono ?_
    clear CW
    rintro e w3 ⟨v3, rfl, k3, hb3⟩
    have hB3 := Below.chain hB2 hb3
    obtain ⟨p3, q3, rfl, r3⟩ := k3.row
    rw [unhide HRWL]
    have CR := unhide CRR w3 p3 q3 r3
    have k1'' := k1'.below hb3
    have k2' := k2.below hb3
    clear CRR k1' k2 hb3 hB2
    go_wp2_with fail
    refine CR.mono ?_
    clear CR
    rintro e w4 ⟨hsay, hb4⟩
    have hB4' := Below.chain hB3 hb4
    rcases hsay with ⟨hbt, E, rfl⟩ | ⟨hbt, v4, rfl, k4⟩
    · have HP := hide (unhide HNO (unhide HX3 hbt) E w4 hB4')
      clear HNO HYE HX3 HX4 HIS2
      go_wp2
      go_ret2
      exact unhide HP
    have HIS3 := hide (unhide HIS2 hbt)
    obtain ⟨g8, c8, rfl, hg9, hg10, -, -⟩ := k4.one (by rw [unhide HUL]; exact n0)
    rw [unhide HUL] at k4 ⊢
    have kp := k1''.below hb4
    have kg := k2'.below hb4
    have hgg7 : g < g7 := Nat.lt_of_lt_of_le hg2 hg7
    have hgg8 : g < g8 := by have := (k2'.lt g7 rfl).2; omega
    have hgw : g < w4.heap.size := by omega
    obtain ⟨n5, hn5⟩ : ∃ n5, w1.heap.size = n5 := ⟨_, rfl⟩
    obtain ⟨n6, hn6⟩ : ∃ n6, w3.heap.size = n6 := ⟨_, rfl⟩
    rw [hn5] at kg
    rw [hn6] at k4
    clear k1'' k2' k3 r3 hb4 hB3 HX3 HIS2 hbt hn5 hn6 hg2 hg7 hg8 hg9 hg10 hb1
    go_wp2
    go_loopw [55] (fun i wq => ∃ (j : Nat) (qs : List (Int × Value)), j ≤ N ∧ i = .int .i64 j ∧ HasP wq w.heap.size (.slice (some ⟨g, 0, none⟩) N c) qs ∧ Hid (qs.length = N) ∧ Hid (∀ r, r < N → ∃ V, qs[r]? = some (at0 gs r, V)) ∧
        Hid (∀ r, r < j → ∃ V l, qs[r]? = some (at0 gs r, V) ∧ Has wq w4.heap.size V l ∧ Rd A s gv r l) ∧ Has wq n5 (.slice (some ⟨g7, 0, none⟩) N c7) gv ∧ Has wq n6 (.slice (some ⟨g8, 0, none⟩) N c8) us ∧ Below w.heap.size w wq ∧ w4.heap.size ≤ wq.heap.size) (fun i _ => N - (intOf i).toNat)
    case atStart => exact ⟨0, qs0, Nat.zero_le _, rfl, kp, HQL, HA0, hide (fun r hr => by omega), kg, k4, hB4', Nat.le_refl _⟩
    case round =>
      clear kp HQL HA0 kg k4 hB4'
      rename World => wq
      obtain ⟨j, qs, hj, rfl, hS, HQ, HA, HD, hK, hU, hB, hsq⟩ := hrel
      by_cases hlt : j < N
      · have hlts : j < s.length := by rw [unhide HN]; exact hlt
        obtain ⟨bs, offs, rfl, hbs, hcs⟩ := Bnd.cell_at (hs.below hB) (by omega)
        have cx := hcs j hlts
        have ck := hK.get (j := j) (by rw [unhide HGVL]; exact hlt)
        have cu := hU.get (j := j) (by rw [unhide HUL]; exact hlt)
        rw [unhide HUA j hlt] at cu
        have hsj := unhide HSZ j hlts
        have hgj := unhide HGP j hlt
        have hrn := unhide HRN j
        have H4 := hide (unhide HX4 j hlt)
        have HDJ := hide (unhide HRDI j)
        obtain ⟨X, hX⟩ : ∃ X : Nat, at0 s j = X := ⟨(at0 s j).toNat, by omega⟩
        obtain ⟨K, hK'⟩ : ∃ K : Nat, at0 gv j = K := ⟨(at0 gv j).toNat, by omega⟩
        rw [hX] at cx hsj
        rw [hK'] at ck hgj
        rw [hX, hK', Int.toNat_natCast, Int.toNat_natCast] at H4 HDJ
        obtain ⟨RN, hRN⟩ : ∃ RN, rr A s gv j = RN := ⟨_, rfl⟩
        rw [hRN] at cu hrn H4 HDJ
        obtain ⟨V0, hV0⟩ := unhide HA j hlt
        have hdr : Below wq.heap.size wq wq.drew := ⟨rfl, rfl, rfl, Nat.le_refl _, fun _ _ => rfl⟩
        have hSd : HasP wq.drew w.heap.size (.slice (some ⟨g, 0, none⟩) N c) qs := hS
        have hX6 : X ≤ 6 := by omega
        have hK8 : K ≤ 8 := by omega
        clear hcs hX hK' hRN hlts hsj hgj
        by_cases hge : V K X ≤ RN
        · have CRO := hide (fun W => row_out X K RN hX6 hK8 (Or.inr ⟨hrn, hide hge⟩) W)
          have HP : Hid (∀ E w', Below w.heap.size w w' → _) := hide (unhide HNO (unhide H4 hge))
          clear HNO HYE HX4 HIS3 H4 hge HD HDJ
          go_wp2
          go_region_with (
            go_at_call 26
            refine (unhide CRO _).mono ?_
            rintro e wb ⟨rfl, hbb⟩
            have hSb := hSd.below hbb
            have fb := hSb.frozen (unhide HQ).symm (j * 2 + 1)
            obtain ⟨-, ob⟩ := hSb.get (unhide HQ).symm hV0)
          all_goals (
            have hbd := hdr.trans hbb
            have hBb := (hB.trans (hbd.mono hB.size)).setCell (p := ⟨g, j * 2 + 1, none⟩) hg1 (.slice none 0 0)
            have Q5 := hide hBb
            clear hBb
            go_wp2
            go_ret2
            exact unhide HP _ _ (unhide Q5))
        · have CRO := hide (fun W => row_ok X K RN hX6 hK8 hrn (hide (by omega)) W)
          clear H4 hge HNO HX4
          go_wp2
          go_region_with (
            go_at_call 26
            refine (unhide CRO _).mono ?_
            rintro e wb ⟨vb, lb, rfl, kb, HIb, hbb⟩
            obtain ⟨pa, na, ca, rfl⟩ := kb.shape
            have hSb := hSd.below hbb
            have fb := hSb.frozen (unhide HQ).symm (j * 2 + 1)
            obtain ⟨-, ob⟩ := hSb.get (unhide HQ).symm hV0)
          all_goals (
            have hbd := hdr.trans hbb
            have kb' : Has wb wq.heap.size (.slice pa na ca) lb := kb
            obtain ⟨m1, m2, m3⟩ := parts_put (P := fun r l => Rd A s gv r l) hS (unhide HQ) hlt hgw hsq (unhide HA) (unhide HD) kb' (unhide HDJ lb (unhide HIb)) hbd
            have HQ2 : Hid ((qs.set j (at0 gs j, .slice pa na ca)).length = N) := hide (by rw [List.length_set]; exact unhide HQ)
            have hKb := (hK.below hbd).kept (grownBy_setCellAt wb g (j * 2 + 1) (.slice pa na ca)) (Or.inr (by intro e; have e2 : g7 = g := Option.some.inj e; omega))
            have hUb := (hU.below hbd).kept (grownBy_setCellAt wb g (j * 2 + 1) (.slice pa na ca)) (Or.inr (by intro e; have e2 : g8 = g := Option.some.inj e; omega))
            have hBb := (hB.trans (hbd.mono hB.size)).setCell (p := ⟨g, j * 2 + 1, none⟩) hg1 (.slice pa na ca)
            have hsb : w4.heap.size ≤ (wb.setCell ⟨g, j * 2 + 1, none⟩ (.slice pa na ca)).heap.size := by simpa using Nat.le_trans hsq hbd.size
            have Q1 := hide m1
            have Q2 := hide m2
            have Q3 := hide m3
            have Q4 := hide hKb
            have Q7 := hide hUb
            have Q5 := hide hBb
            have Q6 := hide hsb
            clear m1 m2 m3 hKb hUb hBb hsb
            go_wp2
            go_roundw
            case rel => exact ⟨j + 1, _, by omega, by go_num, unhide Q1, HQ2, Q2, Q3, unhide Q4, unhide Q7, unhide Q5, unhide Q6⟩
            case measure => simp [intOf]; omega)
      · obtain rfl : N = j := by omega
        obtain ⟨ps, y1, y2, aa, cc, ye, y3, y4, y5⟩ := parts_new hS (by have := hB.size; omega) (by rw [unhide HQ, unhide HGL]) (fun r hr => unhide HD r (by rw [← unhide HGL]; exact hr))
        have HPN : Hid (ps.length = N) := hide (by rw [y1, unhide HGL])
        have HI : Hid (IsP (byt x) s B ps) := hide (unhide HIS3 ps (unhide HPN) (fun i hi => by
          obtain ⟨z1, z2⟩ := y2 i (by rw [unhide HGL]; exact hi)
          exact ⟨by rw [z1, unhide HGA i hi], z2⟩))
        have HP := hide (unhide HYE ps aa cc wq (unhide HI) y3 y4 y5 hB)
        rw [← ye] at HP
        clear y1 y2 y3 y4 y5 ye HI HYE HNO HX4 HIS3 HD HA HQ hS hK hU
        go_wp2
        go_ret2
        exact unhide HP
  · have CP := unhide CPN w1 g c pt5 (hide (by
      obtain ⟨i, hi⟩ := Classical.not_forall.1 hok
      obtain ⟨hi1, hi2⟩ := Classical.not_imp.1 hi
      exact ⟨i, hi1, by rw [bare_at (by rw [unhide HGL]; exact hi1), unhide HGA i hi1]; exact Bool.eq_false_iff.2 hi2⟩))
    have HP := hide (unhide HNO (unhide HX2 (by
      obtain ⟨i, hi⟩ := Classical.not_forall.1 hok
      obtain ⟨hi1, hi2⟩ := Classical.not_imp.1 hi
      exact ⟨i, hi1, Bool.eq_false_iff.2 hi2⟩)))
    clear HNO HYE HX1 HX2 HX3 HX4 HIS CPN CPF hok k1 pt5 ee eb
    go_wp2_with fail
    refine CP.mono ?_
    clear CP
    rintro e w2 ⟨rfl, hb2⟩
    go_wp2
    go_ret2
    exact unhide HP _ _ (Below.chain hb1 hb2)

end Go.Proofs.YtjojeifoddonnakDoor.Pck

/-
  pack.check, Unpack: by their contracts.
-/
namespace Go.Proofs.YtjojeifoddonnakDoor.Pck
open Go.RowKit
open Go.Proofs.YtjojeifoddonnakDoor.Tre Go.Proofs.YtjojeifoddonnakDoor.Bnd Go.Proofs.YtjojeifoddonnakDoor.Ev Go.Proofs.YtjojeifoddonnakDoor.Frm Go.Proofs.YtjojeifoddonnakDoor.Hrn
set_option linter.unusedVariables false

/-- The fault of sizes and bits. -/
def chkF (s : List Int) (B : Int) : Int := if bf s = 0 then (if 0 ≤ B ∧ B ≤ 400 then 0 else 1) else bf s
theorem chkF_long {s : List Int} {B : Int} (h : chkF s B ≠ 0) : longF s B = chkF s B ∧ longN s B = 0 := by
  have e : longF s B = chkF s B := by
    unfold chkF at h
    unfold longF chkF
    split
    · rename_i h1
      rw [if_pos h1] at h
      split
      · rename_i h2
        rw [if_pos h2] at h
        exact absurd rfl h
      · rfl
    · rfl
  refine ⟨e, ?_⟩
  unfold longN
  rw [e, if_neg h]
theorem chkF_zero {s : List Int} {B : Int} (h : chkF s B = 0) : bf s = 0 ∧ 0 ≤ B ∧ B ≤ 400 := by
  unfold chkF at h
  split at h
  · rename_i h1
    split at h
    · rename_i h2
      exact ⟨h1, h2.1, h2.2⟩
    · omega
  · rename_i h1; exact absurd h h1
theorem chkF_unp {b s : List Int} {B : Int} (h : chkF s B ≠ 0) : UnpF b s B (chkF s B) [] := by
  by_cases h1 : bf s = 0
  · have h2 : ¬ (0 ≤ B ∧ B ≤ 400) := fun h2 => h (by unfold chkF; rw [if_pos h1, if_pos h2])
    exact Or.inr ⟨h1, Or.inl ⟨h2, by unfold chkF; rw [if_pos h1, if_neg h2], rfl⟩⟩
  · exact Or.inl ⟨h1, by unfold chkF; rw [if_neg h1], rfl⟩

set_option maxHeartbeats 4000000 in
theorem checks (b : Option Addr) (capb : Nat) (s : List Int) (B : Int) (w : World) (hs : Row w b s) (zs : s.length ≤ 9223372036854775807) :
    Calls Tryd.prog 17 #[.slice b s.length capb, .int .i64 B] w fun e w' => e = .returned (errV (chkF s B)) ∧ w' = w := by
  by_cases h1 : bf s = 0
  · have CB := hide (Bnd.check_ok b capb s w zs hs (hide h1))
    have e1 : chkF s B = if 0 ≤ B ∧ B ≤ 400 then 0 else 1 := by unfold chkF; rw [if_pos h1]
    rw [e1]
    obtain ⟨TT, hTT⟩ : ∃ TT, total s = TT := ⟨_, rfl⟩
    obtain ⟨N, hN⟩ : ∃ N, s.length = N := ⟨_, rfl⟩
    rw [hTT, hN] at CB
    rw [hN]
    clear hTT hN h1 e1 zs
    by_cases hB : 0 ≤ B ∧ B ≤ 400
    · rw [if_pos hB, errV_zero]
      have d1 : decide (B < 0) = false := by simp; omega
      have d2 : decide (400 < B) = false := by simp; omega
      go_enter Tryd.func17, Tryd.ntmps17
      go_wp2_with fail
      refine (unhide CB).mono ?_
      rintro e w1 ⟨rfl, hw1⟩
      obtain rfl : w = w1 := hw1.symm
      go_wp2
      go_ret
      exact ⟨rfl, rfl⟩
    · rw [if_neg hB, errV_ne (by omega)]
      by_cases hb0 : B < 0
      · have d1 : decide (B < 0) = true := by simpa using hb0
        go_enter Tryd.func17, Tryd.ntmps17
        go_wp2_with fail
        refine (unhide CB).mono ?_
        rintro e w1 ⟨rfl, hw1⟩
        obtain rfl : w = w1 := hw1.symm
        go_wp2
        go_ret
        exact ⟨rfl, rfl⟩
      · have d1 : decide (B < 0) = false := by simpa using hb0
        have d2 : decide (400 < B) = true := by simp; omega
        go_enter Tryd.func17, Tryd.ntmps17
        go_wp2_with fail
        refine (unhide CB).mono ?_
        rintro e w1 ⟨rfl, hw1⟩
        obtain rfl : w = w1 := hw1.symm
        go_wp2
        go_ret
        exact ⟨rfl, rfl⟩
  · have CB := hide (Bnd.check_no b capb s w zs hs (hide h1))
    have e1 : chkF s B = bf s := by unfold chkF; rw [if_neg h1]
    rw [e1, errV_ne h1]
    obtain ⟨F, hF⟩ : ∃ F, bf s = F := ⟨_, rfl⟩
    obtain ⟨N, hN⟩ : ∃ N, s.length = N := ⟨_, rfl⟩
    rw [hF, hN] at CB
    rw [hF, hN]
    clear hF hN h1 e1 zs
    go_enter Tryd.func17, Tryd.ntmps17
    go_wp2_with fail
    refine (unhide CB).mono ?_
    rintro e w1 ⟨rfl, hw1⟩
    obtain rfl : w = w1 := hw1.symm
    go_wp2
    go_ret
    exact ⟨rfl, rfl⟩

set_option maxRecDepth 100000 in
set_option maxHeartbeats 4000000 in
theorem unpack (x : ByteArray) (b : Option Addr) (capb : Nat) (s : List Int) (B : Int) (w : World) (zx : x.size ≤ 9223372036854775807) (hs : Row w b s) (zs : s.length ≤ 17592186044416) :
    Calls Tryd.prog 11 #[.string x, .slice b s.length capb, .int .i64 B] w fun e w' => UnpSays x s B w e w' := by
  have CCK := hide (checks b capb s B w hs (by omega))
  by_cases h : chkF s B = 0
  · obtain ⟨h1, hB0, hB4⟩ := chkF_zero h
    rw [h, errV_zero] at CCK
    have CRD := hide (readFrame x b capb s B w zx hs (hide h1) hB0 hB4)
    unfold ReadSays at CRD
    have HNO : Hid ((∀ qs, ¬ IsP (byt x) s B qs) → ∀ w', Below w.heap.size w w' → UnpSays x s B w (.returned (.tuple #[.slice none 0 0, .iface 41 (.int .i64 2)])) w') := hide (fun h w' hb => ⟨2, none, 0, [], by rw [errV_ne (by omega)]; rfl, Or.inl rfl, Nat.le_refl _, by omega, Or.inr ⟨h1, Or.inr ⟨⟨hB0, hB4⟩, Or.inl ⟨h, rfl, rfl⟩⟩⟩, hb⟩)
    have HOK : Hid (∀ p q ps w', PtsN w.heap.size w' p ps → ps.length ≤ q → q ≤ 9223372036854775807 → IsP (byt x) s B ps → Below w.heap.size w w' → UnpSays x s B w (.returned (.tuple #[.slice p ps.length q, .nilIface])) w') := hide (fun p q ps w' h2 h3 h4 h5 hb => ⟨0, p, q, ps, rfl, h2, h3, h4, Or.inr ⟨h1, Or.inr ⟨⟨hB0, hB4⟩, Or.inr ⟨h5, rfl⟩⟩⟩, hb⟩)
    obtain ⟨N, hN⟩ : ∃ N, s.length = N := ⟨_, rfl⟩
    rw [hN] at CCK CRD ⊢
    clear hN h h1 zs
    go_enter Tryd.func11, Tryd.ntmps11
    go_wp2_with fail
    refine (unhide CCK).mono ?_
    rintro e w1 ⟨rfl, hw1⟩
    obtain rfl : w = w1 := hw1.symm
    clear CCK
    go_wp2_with fail
    refine (unhide CRD).mono ?_
    rintro e w1 ⟨hsay, hb1⟩
    clear CRD
    rcases hsay with ⟨hno, E, rfl⟩ | ⟨p, q, ps, rfl, k1, k2, k3, k4⟩
    · have HP := hide (unhide HNO hno w1 hb1)
      clear HNO HOK
      go_wp2
      go_ret2
      exact unhide HP
    · have HP := hide (unhide HOK p q ps w1 k1 k2 k3 k4 hb1)
      obtain ⟨M, hM⟩ : ∃ M, ps.length = M := ⟨_, rfl⟩
      rw [hM] at HP ⊢
      clear HNO HOK k1 k2 k3 k4 hM
      go_wp2
      go_ret2
      exact unhide HP
  · have HP : Hid (UnpSays x s B w (.returned (.tuple #[.slice none 0 0, .iface 41 (.int .i64 (chkF s B))])) w) := hide ⟨chkF s B, none, 0, [], by rw [errV_ne h]; rfl, Or.inl rfl, Nat.le_refl _, by omega, chkF_unp h, Below.refl _ _⟩
    rw [errV_ne h] at CCK
    obtain ⟨F, hF⟩ : ∃ F, chkF s B = F := ⟨_, rfl⟩
    obtain ⟨N, hN⟩ : ∃ N, s.length = N := ⟨_, rfl⟩
    rw [hF] at HP
    rw [hF, hN] at CCK
    rw [hN]
    clear hN hF h zs
    go_enter Tryd.func11, Tryd.ntmps11
    go_wp2_with fail
    refine (unhide CCK).mono ?_
    rintro e w1 ⟨rfl, hw1⟩
    obtain rfl : w = w1 := hw1.symm
    clear CCK
    go_wp2
    go_ret2
    exact unhide HP

end Go.Proofs.YtjojeifoddonnakDoor.Pck
