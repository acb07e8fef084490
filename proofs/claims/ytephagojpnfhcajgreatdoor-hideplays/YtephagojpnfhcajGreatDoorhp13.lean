/-
  hornref1.Value at any gain, hornref2.Given: by their contracts.
-/
import Derived.Test.YtephagojpnfhcajGreatDoorhp06
import Derived.Test.YtephagojpnfhcajGreatDoorhp02
import Derived.Test.YtephagojpnfhcajGreatDoorhp12
import Derived.Test.YtephagojpnfhcajGreatDoorhp04
import Derived.Test.YtephagojpnfhcajGreatDoorhp05
import Derived.Test.YtephagojpnfhcajGreatDoorhp01
namespace Go.Proofs.YtephagojpnfhcajGreatDoor.Frm
open Go.RowKit
open Go.Proofs.YtephagojpnfhcajGreatDoor.Tre Go.Proofs.YtephagojpnfhcajGreatDoor.Bnd Go.Proofs.YtephagojpnfhcajGreatDoor.Pls Go.Proofs.YtephagojpnfhcajGreatDoor.Gai Go.Proofs.YtephagojpnfhcajGreatDoor.Shr
set_option linter.unusedVariables false

theorem refValue (g : Int) (w : World) :
    Calls Tryz.prog 48 #[.int .i64 g] w fun e w' => e = .returned (.tuple #[.int .i64 (vlN g), .bool (gok g)]) ∧ w = w' := by
  by_cases h : g < 0 ∨ (0 ≤ g ∧ 53 < g)
  · have e : gok g = false := by
      unfold gok
      rcases h with h | ⟨_, h⟩
      · have : decide (0 ≤ g) = false := by simp; omega
        rw [this]; rfl
      · have : decide (g ≤ 53) = false := by simp; omega
        rw [this]; simp
    unfold vlN
    rw [e]
    exact refValue_far g w h
  · obtain ⟨m, rfl⟩ : ∃ m : Nat, g = m := ⟨g.toNat, by omega⟩
    have h1 : decide (0 ≤ (m : Int)) = true := by simp
    have h2 : decide ((m : Int) ≤ 53) = true := by simp; omega
    have e : gok (m : Int) = vo m := by unfold gok; rw [h1, h2, Int.toNat_natCast]; rfl
    unfold vlN
    rw [e, Int.toNat_natCast]
    rcases Nat.eq_zero_or_pos m with h0 | h0
    · subst h0
      have e0 : vo 0 = true := by decide
      have e1 : vl 0 = 0 := rfl
      rw [e0, if_pos rfl, e1]
      exact refValue_zero w
    · refine (refValue_some m h0 (by omega) w).mono ?_
      rintro e w' ⟨ha, hw⟩
      rcases ha with ⟨h3, rfl⟩ | ⟨h3, rfl⟩
      · rw [unhide h3, if_pos rfl]; exact ⟨rfl, hw⟩
      · rw [unhide h3, if_neg (by simp)]; exact ⟨rfl, hw⟩
set_option maxRecDepth 100000 in
set_option maxHeartbeats 4000000 in
theorem refGiven (a : Option Addr) (cap : Nat) (ps : List Prt) (b : Option Addr) (capb : Nat) (s : List Int) (B : Int) (w : World) (hp : Pts w a ps) (hr : Row w b s) (h0 : 1 ≤ s.length) (h8 : s.length ≤ 8) (hl : ps.length = s.length) (hs : Hid (Sizes s)) (hg : Hid (∀ i, i < ps.length → gok (prt ps i).1 = true)) (hB0 : 0 ≤ B) (hB4 : B ≤ 400) :
    Calls Tryz.prog 88 #[.slice a ps.length cap, .slice b s.length capb, .int .i64 B] w fun e w' => ∃ v, e = .returned v ∧ Has w' w.heap.size v (given (gns ps) s B) ∧ Below w.heap.size w w' := by
  have HLD : Hid (Lds (vals (gns ps))) := hide (vals_lds (fun i hi => by rw [gns_length] at hi; rw [gns_at hi]; exact unhide hg i hi))
  have HVL : Hid ((vals (gns ps)).length = s.length) := hide (by rw [vals_length, gns_length, hl])
  have HGV : Hid (share s (vals (gns ps)) B = given (gns ps) s B) := hide rfl
  have HTK : Hid (∀ k, k < ps.length → (vals (gns ps)).take (k + 1) = (vals (gns ps)).take k ++ [vlN (prt ps k).1]) := hide (fun k hk => by
    rw [vals_take (by rw [gns_length]; exact hk), gns_at hk, vlN_ok (unhide hg k hk)])
  have HV0 : Hid ((vals (gns ps)).take 0 = []) := hide rfl
  have HVA : Hid ((vals (gns ps)).take s.length = vals (gns ps)) := hide (by rw [← unhide HVL, List.take_length])
  obtain ⟨ds, hds⟩ : ∃ ds, vals (gns ps) = ds := ⟨_, rfl⟩
  rw [hds] at HLD HVL HGV HTK HV0 HVA
  obtain ⟨gv, hgv⟩ : ∃ gv, given (gns ps) s B = gv := ⟨_, rfl⟩
  rw [hgv] at HGV ⊢
  have CSH := hide (fun W q c h1 h2 => refShare b capb s q c ds B W h1 h2 h0 h8 (unhide HVL) hs HLD hB0 hB4)
  rw [unhide HGV] at CSH
  obtain ⟨N, hN⟩ : ∃ N, s.length = N := ⟨_, rfl⟩
  have HPN : Hid (ps.length = N) := hide (hl.trans hN)
  rw [hN] at CSH HVL HVA h8
  rw [hl, hN]
  clear hds hgv hN hl HGV HLD h0
  go_enter Tryz.func88, Tryz.ntmps88
  go_wp2
  go_loopw [7, 8] (fun v i wr => ∃ k : Nat, k ≤ N ∧ i = .int .i64 k ∧ Has wr w.heap.size v (ds.take k) ∧ Below w.heap.size w wr) (fun _ i _ => N - (intOf i).toNat)
  case atStart => exact ⟨0, Nat.zero_le _, rfl, by rw [unhide HV0]; exact Has.nil _ _, Below.refl _ _⟩
  case round =>
    obtain ⟨k, hk, rfl, hv, hB⟩ := hrel
    clear HV0
    by_cases hlt : k < N
    · have hlt' : k < ps.length := by rw [unhide HPN]; exact hlt
      obtain ⟨b1, off1, rfl, _, hc1⟩ := (hp.below hB).at hlt'
      have c1 := (hc1 k hlt').1
      have HT := hide (unhide HTK k hlt')
      have hq := hide (fun W => refValue (prt ps k).1 W)
      obtain ⟨G, hG⟩ : ∃ G, (prt ps k).1 = G := ⟨_, rfl⟩
      rw [hG] at c1 HT hq
      obtain ⟨v0, v9⟩ := vlN_in G
      obtain ⟨V, hV⟩ : ∃ V, vlN G = V := ⟨_, rfl⟩
      rw [hV] at HT hq v0 v9
      have hln : Hid ((ds.take k).length + 1 ≤ 1000000) := hide (by rw [List.length_take]; omega)
      have hWs := hB.size
      clear hc1 hG hV hlt'
      go_wp2_with fail
      refine (unhide hq _).mono ?_
      rintro e w2 ⟨rfl, hw2⟩
      obtain rfl : wr = w2 := hw2
      clear hq
      go_wp2_with (at_builtin; refine wpList_app _ rfl _ _ rfl w.heap.size u7 (ds.take k) [V] _ _ rfl (hv.alloc _) rfl (row_one _ _ _) (unhide hln) (by simp; omega) ?_; intro s' w6 k6 g6 at6)
      obtain ⟨d1, d2⟩ := stepped_plain hv hWs k6 g6 at6
      have hB6 := hB.trans d1
      rw [← unhide HT] at k6
      clear hv hB d1 d2 g6 at6
      go_wp2
      go_roundw
      case rel => exact ⟨k + 1, by omega, by go_num, k6, hB6⟩
      case measure => simp [intOf]; omega
    · obtain rfl : k = N := by omega
      rw [unhide HVA] at hv
      obtain ⟨p, q, rfl, hrow⟩ := hv.row
      rw [unhide HVL]
      have c := unhide CSH wr p q (hr.below hB) hrow
      clear CSH hv
      go_wp2_with fail
      refine c.mono ?_
      clear c
      rintro e w2 ⟨v2, rfl, k2, hb2⟩
      obtain ⟨p9, n9, q9, rfl⟩ := k2.shape
      go_wp2
      go_ret
      exact ⟨_, rfl, k2.mono hB.size, Below.chain hB hb2⟩

end Go.Proofs.YtephagojpnfhcajGreatDoor.Frm

/-
  hornref2.Frame: by its contract.
-/
namespace Go.Proofs.YtephagojpnfhcajGreatDoor.Frm
open Go.RowKit
open Go.Proofs.YtephagojpnfhcajGreatDoor.Tre Go.Proofs.YtephagojpnfhcajGreatDoor.Bnd Go.Proofs.YtephagojpnfhcajGreatDoor.Pls Go.Proofs.YtephagojpnfhcajGreatDoor.Gai Go.Proofs.YtephagojpnfhcajGreatDoor.Shr
set_option linter.unusedVariables false

/-- What Frame answers. -/
def FrmPost (ps : List Prt) (s : List Int) (B : Int) (w : World) (e : Ending) (w' : World) : Prop := ∃ E, e = .returned (.int .i64 E) ∧ FrmF ps s B E ∧ Below w.heap.size w w'

set_option maxRecDepth 100000 in
set_option maxHeartbeats 8000000 in
theorem refFrame_ok (a : Option Addr) (cap : Nat) (ps : List Prt) (b : Option Addr) (capb : Nat) (s : List Int) (B : Int) (w : World) (hp : Pts w a ps) (hs : Row w b s) (h1 : Hid (bf s = 0)) (h2 : Hid (ps.length = s.length)) :
    Calls Tryz.prog 129 #[.slice a ps.length cap, .slice b s.length capb, .int .i64 B] w fun e w' => FrmPost ps s B w e w' := by
  obtain ⟨n0, n8, hsz, n32⟩ := bf_ok (unhide h1)
  have HSZ := hide hsz
  have CBA := hide (fun W h => refBands_ok b capb s W (by omega) h h1)
  have HP3 : Hid (¬ Fits ps s → ∀ w', Below w.heap.size w w' → FrmPost ps s B w (.returned (.int .i64 3)) w') := hide (fun h w' hb => ⟨3, rfl, frm_fit (unhide h1) (unhide h2) h, hb⟩)
  have HP1 : Hid (Fits ps s → oneF ps ≠ 0 → ∀ F, oneF ps = F → ∀ w', Below w.heap.size w w' → FrmPost ps s B w (.returned (.int .i64 F)) w') := hide (fun h h' F hF w' hb => ⟨F, rfl, by rw [← hF]; exact frm_one (unhide h1) (unhide h2) h h', hb⟩)
  have HPB : Hid (Fits ps s → oneF ps = 0 → ¬ (0 ≤ B ∧ B ≤ 400) → ∀ w', Below w.heap.size w w' → FrmPost ps s B w (.returned (.int .i64 1)) w') := hide (fun h h' h5 w' hb => ⟨1, rfl, frm_bits (unhide h1) (unhide h2) h h' h5, hb⟩)
  have HPG : Hid (Fits ps s → oneF ps = 0 → (0 ≤ B ∧ B ≤ 400) → ¬ Gets ps (given (gns ps) s B) → ∀ w', Below w.heap.size w w' → FrmPost ps s B w (.returned (.int .i64 3)) w') := hide (fun h h' h5 h6 w' hb => ⟨3, rfl, frm_gets (unhide h1) (unhide h2) h h' h5 h6, hb⟩)
  have HP0 : Hid (Fits ps s → oneF ps = 0 → (0 ≤ B ∧ B ≤ 400) → Gets ps (given (gns ps) s B) → ∀ w', Below w.heap.size w w' → FrmPost ps s B w (.returned (.int .i64 0)) w') := hide (fun h h' h5 h6 w' hb => ⟨0, rfl, frm_ok (unhide h1) (unhide h2) h h' h5 h6, hb⟩)
  have CGV := hide (fun W hg h5 hp hr => refGiven a cap ps b capb s B W hp hr (by omega) n8 (unhide h2) HSZ hg (And.left h5) (And.right h5))
  have HGL : Hid (0 ≤ B → (given (gns ps) s B).length = s.length) := hide (fun hB => by unfold given; exact (share_is (d := vals (gns ps)) hsz n8 hB).1.len)
  have HD0 : Hid (oneF (ps.drop 0) = oneF ps) := hide (by rw [List.drop_zero])
  obtain ⟨TT, hTT⟩ : ∃ TT, total s = TT := ⟨_, rfl⟩
  rw [hTT] at CBA
  obtain ⟨N, hN⟩ : ∃ N, s.length = N := ⟨_, rfl⟩
  have HN := hide hN
  have HPN : Hid (ps.length = N) := hide ((unhide h2).trans hN)
  rw [hN] at CBA CGV HGL n8 n0
  rw [unhide HPN] at CGV
  rw [unhide h2, hN]
  have hNN : ((N : Int) == (N : Int)) = true := by simp
  clear hTT hN hsz n32 h1 h2 HSZ
  go_enter Tryz.func129, Tryz.ntmps129
  go_wp2_with fail
  refine (unhide CBA _ hs).mono ?_
  rintro e w1 ⟨rfl, hb1⟩
  clear CBA
  go_wp2
  go_loopw [9] (fun i wr => ∃ k : Nat, k ≤ N ∧ i = .int .i64 k ∧ Hid (∀ r, r < k → ((prt ps r).2.length : Int) = at0 s r) ∧ Below w.heap.size w wr) (fun i _ => N - (intOf i).toNat)
  case atStart => exact ⟨0, Nat.zero_le _, rfl, hide (fun r hr => by omega), hb1⟩
  case round =>
    obtain ⟨k, hk, rfl, HF, hB⟩ := hrel
    clear hb1
    by_cases hlt : k < N
    · have hlt1 : k < ps.length := by rw [unhide HPN]; exact hlt
      have hlt2 : k < s.length := by rw [unhide HN]; exact hlt
      obtain ⟨b1, off1, rfl, _, hc1⟩ := (hp.below hB).at hlt1
      obtain ⟨-, A, C, x2, x3, x4, x5, x6⟩ := hc1 k hlt1
      obtain ⟨b2, off2, rfl, _, hc2⟩ := cell_at (hs.below hB) (by omega)
      have c2 := hc2 k hlt2
      obtain ⟨L, hL⟩ : ∃ L, (prt ps k).2.length = L := ⟨_, rfl⟩
      obtain ⟨X, hX⟩ : ∃ X, at0 s k = X := ⟨_, rfl⟩
      rw [hL] at x2
      rw [hX] at c2
      have HLX : Hid ((prt ps k).2.length = L ∧ at0 s k = X) := hide ⟨hL, hX⟩
      clear hc1 hc2 hL hX hlt2 x3 x4 x5 x6
      by_cases he : (L : Int) = X
      · have HF2 : Hid (∀ r, r < k + 1 → ((prt ps r).2.length : Int) = at0 s r) := hide (fun r hr => by
          by_cases e : r = k
          · rw [e, (unhide HLX).1, (unhide HLX).2]; exact he
          · exact unhide HF r (by omega))
        have n1 : ((L : Int) == X) = true := by rw [he]; simp
        have n2 : ((L : Int) != X) = false := by rw [he]; simp
        clear HF he HLX
        go_wp2
        go_quiet (fail)
        go_wp2
        go_roundw
        case rel => exact ⟨k + 1, by omega, by go_num, HF2, hB.trans ⟨rfl, rfl, rfl, Nat.le_refl _, fun _ _ => rfl⟩⟩
        case measure => simp [intOf]; omega
      · have HNF : Hid (¬ Fits ps s) := hide (fun h => he (by rw [← (unhide HLX).1, ← (unhide HLX).2]; exact h k hlt1))
        have n1 : ((L : Int) == X) = false := by rw [beq_eq_false_iff_ne]; exact he
        have n2 : ((L : Int) != X) = true := by simpa using he
        have HP := hide (unhide HP3 (unhide HNF))
        clear HF he HLX HNF HP3 HP1 HPB HPG HP0
        go_wp2
        go_quiet (fail)
        go_wp2
        go_ret
        exact unhide HP _ (hB.trans ⟨rfl, rfl, rfl, Nat.le_refl _, fun _ _ => rfl⟩)
    · obtain rfl : k = N := by omega
      have HFT : Hid (Fits ps s) := hide (fun r hr => unhide HF r (by rw [← unhide HPN]; exact hr))
      have HP1' := hide (unhide HP1 (unhide HFT))
      have HPB' := hide (unhide HPB (unhide HFT))
      have HPG' := hide (unhide HPG (unhide HFT))
      have HP0' := hide (unhide HP0 (unhide HFT))
      clear HF HFT HP3 HP1 HPB HPG HP0
      go_wp2
      go_loopw [10] (fun i wq => ∃ j : Nat, j ≤ k ∧ i = .int .i64 j ∧ Hid (oneF (ps.drop j) = oneF ps) ∧ wr = wq) (fun i _ => k - (intOf i).toNat)
      case atStart => exact ⟨0, Nat.zero_le _, rfl, HD0, rfl⟩
      case round =>
        obtain ⟨j, hj, rfl, HO, rfl⟩ := hrel
        clear HD0
        by_cases hlt : j < k
        · have hlt1 : j < ps.length := by rw [unhide HPN]; exact hlt
          obtain ⟨b1, off1, rfl, _, hc1⟩ := (hp.below hB).at hlt1
          obtain ⟨x1, A, C, x2, x3, x4, x5, x6⟩ := hc1 j hlt1
          have HST : Hid (oneF ps = if gok (prt ps j).1 = true then (if fault (prt ps j).2 = 0 then oneF (ps.drop (j + 1)) else fault (prt ps j).2) else 1) := hide (by rw [← unhide HO, drop_prt hlt1, oneF])
          have CV := refValue (prt ps j).1 wr
          obtain ⟨G, hG⟩ : ∃ G, (prt ps j).1 = G := ⟨_, rfl⟩
          obtain ⟨pl, hpl⟩ : ∃ pl, (prt ps j).2 = pl := ⟨_, rfl⟩
          rw [hG] at x1 HST CV
          rw [hpl] at x2 x4 x6 HST
          obtain ⟨L, hL⟩ : ∃ L, pl.length = L := ⟨_, rfl⟩
          obtain ⟨V, hV⟩ : ∃ V, vlN G = V := ⟨_, rfl⟩
          rw [hV] at CV
          clear hc1 hlt1 hG hpl hV HO x3
          cases hg : gok G with
          | false =>
            have HP := hide (unhide HP1' (by rw [unhide HST, if_neg (by rw [hg]; simp)]; omega) 1 (by rw [unhide HST, if_neg (by rw [hg]; simp)]) wr hB)
            rw [hg] at CV
            rw [hL] at x2
            clear HST hL HP1' HPB' HPG' HP0' hg x6
            go_wp2_with fail
            refine CV.mono ?_
            rintro e w3 ⟨rfl, hw3⟩
            obtain rfl : wr = w3 := hw3
            go_wp2
            go_ret
            exact unhide HP
          | true =>
            have HST2 : Hid (oneF ps = if fault pl = 0 then oneF (ps.drop (j + 1)) else fault pl) := hide (by rw [unhide HST, if_pos hg])
            rw [hg] at CV
            clear HST hg
            by_cases hf : fault pl = 0
            · have HO2 : Hid (oneF (ps.drop (j + 1)) = oneF ps) := hide (by rw [unhide HST2, if_pos hf])
              have CP := refPulses_ok A C pl wr x6 (hide hf)
              obtain ⟨Z, hZ⟩ : ∃ Z, loud pl = Z := ⟨_, rfl⟩
              rw [hZ] at CP
              rw [hL] at x2 CP
              clear HST2 hf hZ hL x6 x4
              go_wp2_with fail
              refine CV.mono ?_
              rintro e w3 ⟨rfl, hw3⟩
              obtain rfl : wr = w3 := hw3
              clear CV
              go_wp2_with fail
              refine CP.mono ?_
              rintro e w3 ⟨rfl, hw3⟩
              obtain rfl : wr = w3 := hw3
              clear CP
              go_wp2
              go_roundw
              case rel => exact ⟨j + 1, by omega, by go_num, HO2, by first | trivial | rfl⟩
              case measure => simp [intOf]; omega
            · have HOF : Hid (oneF ps = fault pl) := hide (by rw [unhide HST2, if_neg hf])
              have CP := refPulses_no A C pl wr (by omega) x6 (hide hf)
              have HP := hide (unhide HP1' (by rw [unhide HOF]; exact hf) _ (unhide HOF) wr hB)
              obtain ⟨F, hF⟩ : ∃ F, fault pl = F := ⟨_, rfl⟩
              rw [hF] at CP HP hf
              have n1 : (F == 0) = false := by rw [beq_eq_false_iff_ne]; exact hf
              have n2 : (F != 0) = true := by simpa using hf
              rw [hL] at x2 CP
              clear HST2 HOF hf hF hL x6 x4 HP1' HPB' HPG' HP0'
              go_wp2_with fail
              refine CV.mono ?_
              rintro e w3 ⟨rfl, hw3⟩
              obtain rfl : wr = w3 := hw3
              clear CV
              go_wp2_with fail
              refine CP.mono ?_
              rintro e w3 ⟨rfl, hw3⟩
              obtain rfl : wr = w3 := hw3
              clear CP
              go_wp2
              go_ret
              exact unhide HP
        · obtain rfl : j = k := by omega
          have HO0 : Hid (oneF ps = 0) := hide (by rw [← unhide HO, ← unhide HPN, List.drop_length]; rfl)
          have HPB2 := hide (unhide HPB' (unhide HO0))
          have HPG2 := hide (unhide HPG' (unhide HO0))
          have HP02 := hide (unhide HP0' (unhide HO0))
          have HOZ := hide (oneF_zero (unhide HO0))
          clear HO HO0 HP1' HPB' HPG' HP0'
          by_cases hb1 : B < 0
          · have d1 : decide (B < 0) = true := by simpa using hb1
            have HP := hide (unhide HPB2 (by omega) wr hB)
            clear HPB2 HPG2 HP02
            go_wp2
            go_ret
            exact unhide HP
          · have d1 : decide (B < 0) = false := by simpa using hb1
            by_cases hb2 : 400 < B
            · have d2 : decide (400 < B) = true := by simpa using hb2
              have HP := hide (unhide HPB2 (by omega) wr hB)
              clear HPB2 HPG2 HP02
              go_wp2
              go_ret
              exact unhide HP
            · have d2 : decide (400 < B) = false := by simpa using hb2
              have h5 : 0 ≤ B ∧ B ≤ 400 := by omega
              have HPG3 := hide (unhide HPG2 h5)
              have HP03 := hide (unhide HP02 h5)
              have CG := unhide CGV wr (hide (fun i hi => (unhide HOZ i (by rw [unhide HPN]; exact hi)).1)) h5 (hp.below hB) (hs.below hB)
              have HGL2 := hide (unhide HGL (by omega))
              obtain ⟨gv, hgv⟩ : ∃ gv, given (gns ps) s B = gv := ⟨_, rfl⟩
              rw [hgv] at CG HPG3 HP03 HGL2
              clear hgv HPB2 HPG2 HP02 CGV HGL h5
              go_wp2_with fail
              refine CG.mono ?_
              rintro e w4 ⟨v4, rfl, k4, hb4⟩
              clear CG
              have hB4 := Below.chain hB hb4
              obtain ⟨g4, c4, rfl, hg4, hg5, -, -⟩ := k4.one (by rw [unhide HGL2]; exact n0)
              rw [unhide HGL2] at k4 ⊢
              clear hB hb4
              go_wp2
              go_loopw [14] (fun i wq => ∃ m : Nat, m ≤ j ∧ i = .int .i64 m ∧ Hid (∀ r, r < m → (loud (prt ps r).2 : Int) = at0 gv r) ∧ Has wq wr.heap.size (.slice (some ⟨g4, 0, none⟩) j c4) gv ∧ Below w.heap.size w wq) (fun i _ => j - (intOf i).toNat)
              case atStart => exact ⟨0, Nat.zero_le _, rfl, hide (fun r hr => by omega), k4, hB4⟩
              case round =>
                clear k4 hB4
                rename World => wq
                obtain ⟨m, hm, rfl, HG, k4, hB4⟩ := hrel
                by_cases hlt : m < j
                · have hlt1 : m < ps.length := by rw [unhide HPN]; exact hlt
                  obtain ⟨b1, off1, rfl, _, hc1⟩ := (hp.below hB4).at hlt1
                  obtain ⟨-, A, C, x2, x3, x4, x5, x6⟩ := hc1 m hlt1
                  have hok := (unhide HOZ m hlt1).2
                  obtain ⟨f1, f2, f3⟩ := fault_ok hok
                  have ck := k4.get (j := m) (by rw [unhide HGL2]; exact hlt)
                  have CL : Hid (∀ x, Calls Tryz.prog 126 #[.slice A (prt ps m).2.length C] (wq.drewN x) fun e w' => e = .returned (.int .i64 (loud (prt ps m).2 : Int)) ∧ ∃ n, w' = wq.drewN n) := hide (fun x => (refLoud A C (prt ps m).2 (wq.drewN x) (by omega) (f2.mono (by omega)) (x6.below (⟨rfl, rfl, rfl, Nat.le_refl _, fun _ _ => rfl⟩ : Below wq.heap.size wq (wq.drewN x)))).mono fun e w' ⟨he, hw⟩ => ⟨he, x, hw.symm⟩)
                  obtain ⟨Z, hZ⟩ : ∃ Z, loud (prt ps m).2 = Z := ⟨_, rfl⟩
                  have HZ := hide hZ
                  obtain ⟨K, hK⟩ : ∃ K, at0 gv m = K := ⟨_, rfl⟩
                  have HK := hide hK
                  rw [hZ] at CL
                  rw [hK] at ck
                  obtain ⟨L, hL⟩ : ∃ L, (prt ps m).2.length = L := ⟨_, rfl⟩
                  rw [hL] at x2 CL
                  clear hc1 hZ hK hL hok f1 f2 f3 x3 x4 x5 x6
                  by_cases he : (Z : Int) = K
                  · have HG2 : Hid (∀ r, r < m + 1 → (loud (prt ps r).2 : Int) = at0 gv r) := hide (fun r hr => by
                      by_cases e : r = m
                      · rw [e, unhide HZ, unhide HK]; exact he
                      · exact unhide HG r (by omega))
                    have n1 : ((Z : Int) == K) = true := by rw [he]; simp
                    have n2 : ((Z : Int) != K) = false := by rw [he]; simp
                    clear HG he HZ HK
                    go_wp2
                    go_quiet ((go_at_call 126; exact unhide CL _))
                    go_wp2
                    go_roundw
                    case rel => exact ⟨m + 1, by omega, by go_num, HG2, k4, hB4.trans ⟨rfl, rfl, rfl, Nat.le_refl _, fun _ _ => rfl⟩⟩
                    case measure => simp [intOf]; omega
                  · have HNG : Hid (¬ Gets ps gv) := hide (fun h => he (by rw [← unhide HZ, ← unhide HK]; exact h m hlt1))
                    have n1 : ((Z : Int) == K) = false := by rw [beq_eq_false_iff_ne]; exact he
                    have n2 : ((Z : Int) != K) = true := by simpa using he
                    have HP := hide (unhide HPG3 (unhide HNG))
                    clear HG he HZ HK HNG HPG3 HP03
                    go_wp2
                    go_quiet ((go_at_call 126; exact unhide CL _))
                    go_wp2
                    go_ret
                    exact unhide HP _ (hB4.trans ⟨rfl, rfl, rfl, Nat.le_refl _, fun _ _ => rfl⟩)
                · obtain rfl : m = j := by omega
                  have HP := hide (unhide HP03 (fun r hr => unhide HG r (by rw [← unhide HPN]; exact hr)) wq hB4)
                  clear HG HPG3 HP03
                  go_wp2
                  go_ret
                  exact unhide HP

set_option maxRecDepth 100000 in
set_option maxHeartbeats 4000000 in
theorem refFrame (a : Option Addr) (cap : Nat) (ps : List Prt) (b : Option Addr) (capb : Nat) (s : List Int) (B : Int) (w : World) (hp : Pts w a ps) (hs : Row w b s) (zp : ps.length ≤ 9223372036854775807) (zs : s.length ≤ 9223372036854775807) :
    Calls Tryz.prog 129 #[.slice a ps.length cap, .slice b s.length capb, .int .i64 B] w fun e w' => FrmPost ps s B w e w' := by
  by_cases h1 : bf s = 0
  · by_cases h2 : ps.length = s.length
    · exact refFrame_ok a cap ps b capb s B w hp hs (hide h1) (hide h2)
    · have CBA := hide (fun W h => refBands_ok b capb s W zs h (hide h1))
      have HP : Hid (∀ w', Below w.heap.size w w' → FrmPost ps s B w (.returned (.int .i64 3)) w') := hide (fun w' hb => ⟨3, rfl, frm_len h1 h2, hb⟩)
      obtain ⟨TT, hTT⟩ : ∃ TT, total s = TT := ⟨_, rfl⟩
      obtain ⟨N, hN⟩ : ∃ N, s.length = N := ⟨_, rfl⟩
      obtain ⟨M, hM⟩ : ∃ M, ps.length = M := ⟨_, rfl⟩
      rw [hTT] at CBA
      rw [hM, hN] at h2
      rw [hN] at CBA ⊢
      rw [hM]
      have n1 : ((M : Int) == (N : Int)) = false := by rw [beq_eq_false_iff_ne]; omega
      have n2 : ((M : Int) != (N : Int)) = true := by simp; omega
      have n3 : (M == N) = false := by rw [beq_eq_false_iff_ne]; omega
      clear hTT hN hM h1 h2 zp zs
      go_enter Tryz.func129, Tryz.ntmps129
      go_wp2_with fail
      refine (unhide CBA _ hs).mono ?_
      rintro e w1 ⟨rfl, hb1⟩
      go_wp2
      go_ret
      exact unhide HP _ hb1
  · have CBA := hide (fun W h => refBands_no b capb s W zs h (hide h1))
    have HP : Hid (∀ w', Below w.heap.size w w' → FrmPost ps s B w (.returned (.int .i64 (bf s))) w') := hide (fun w' hb => ⟨_, rfl, frm_bf h1, hb⟩)
    obtain ⟨F, hF⟩ : ∃ F, bf s = F := ⟨_, rfl⟩
    obtain ⟨N, hN⟩ : ∃ N, s.length = N := ⟨_, rfl⟩
    obtain ⟨M, hM⟩ : ∃ M, ps.length = M := ⟨_, rfl⟩
    rw [hF] at CBA HP h1
    rw [hN] at CBA ⊢
    rw [hM]
    have n1 : (F == 0) = false := by rw [beq_eq_false_iff_ne]; exact h1
    have n2 : (F != 0) = true := by simpa using h1
    clear hF hN hM h1 zp zs
    go_enter Tryz.func129, Tryz.ntmps129
    go_wp2_with fail
    refine (unhide CBA _ hs).mono ?_
    rintro e w1 ⟨rfl, hb1⟩
    go_wp2
    go_ret
    exact unhide HP _ hb1

end Go.Proofs.YtephagojpnfhcajGreatDoor.Frm

/-
  hornref2.Decode: by its contract.
-/
namespace Go.Proofs.YtephagojpnfhcajGreatDoor.Frm
open Go.RowKit
open Go.Proofs.YtephagojpnfhcajGreatDoor.Tre Go.Proofs.YtephagojpnfhcajGreatDoor.Bnd Go.Proofs.YtephagojpnfhcajGreatDoor.Pls Go.Proofs.YtephagojpnfhcajGreatDoor.Gai Go.Proofs.YtephagojpnfhcajGreatDoor.Shr
set_option linter.unusedVariables false

/-- What Decode answers. -/
def DecPost (ps : List Prt) (w : World) (e : Ending) (w' : World) : Prop :=
  ((decF ps ≠ 0 ∧ e = .returned (.tuple #[.slice none 0 0, .int .i64 (decF ps)])) ∨ (decF ps = 0 ∧ ∃ v, e = .returned (.tuple #[v, .int .i64 0]) ∧ Has w' w.heap.size v (Lap.unlap (all ps)))) ∧ Below w.heap.size w w'
theorem dec_no {ps : List Prt} {F : Int} {w w' : World} (h : decF ps = F) (hF : F ≠ 0) (hb : Below w.heap.size w w') : DecPost ps w (.returned (.tuple #[.slice none 0 0, .int .i64 F])) w' := ⟨Or.inl ⟨by rw [h]; exact hF, by rw [h]⟩, hb⟩

set_option maxRecDepth 100000 in
set_option maxHeartbeats 8000000 in
theorem refDecode_few (a : Option Addr) (cap : Nat) (ps : List Prt) (w : World) (hp : Pts w a ps) (zp : ps.length ≤ 1000000000000000000) (zl : Hid (long ps ≤ 1000000000000000000)) :
    Calls Tryz.prog 49 #[.slice a ps.length cap] w fun e w' => DecPost ps w e w' := by
  by_cases h0 : ps.length = 0
  · have HP : Hid (DecPost ps w (.returned (.tuple #[.slice none 0 0, .int .i64 5])) w) := hide (dec_no (by unfold decF; rw [if_pos h0]) (by omega) (Below.refl _ _))
    rw [h0]
    clear h0 zp zl
    go_enter Tryz.func49, Tryz.ntmps49
    go_wp2
    go_ret2
    exact unhide HP
  · have HL0 : Hid (long (ps.take 0) = 0) := hide rfl
    have HLA : Hid (long (ps.take ps.length) = long ps) := hide (by rw [List.take_length])
    have HLM : Hid (∀ k, k ≤ ps.length → long (ps.take k) ≤ long (ps.take ps.length)) := hide (fun k hk => long_mono ps hk)
    have HP4 : Hid (8 < ps.length ∨ 32 < long ps → ∀ w', Below w.heap.size w w' → DecPost ps w (.returned (.tuple #[.slice none 0 0, .int .i64 4])) w') := hide (fun h w' hb => dec_no (by unfold decF; rw [if_neg h0, if_pos h]) (by omega) hb)
    have HP2 : Hid (¬ (8 < ps.length ∨ 32 < long ps) → twoF ps ≠ 0 → ∀ F, twoF ps = F → ∀ w', Below w.heap.size w w' → DecPost ps w (.returned (.tuple #[.slice none 0 0, .int .i64 F])) w') := hide (fun h h' F hF w' hb => dec_no (by unfold decF; rw [if_neg h0, if_neg h, if_neg h', hF]) (by rw [← hF]; exact h') hb)
    have HP3 : Hid (¬ (8 < ps.length ∨ 32 < long ps) → twoF ps = 0 → long ps % 2 ≠ 0 → ∀ w', Below w.heap.size w w' → DecPost ps w (.returned (.tuple #[.slice none 0 0, .int .i64 3])) w') := hide (fun h h' h3 w' hb => dec_no (by unfold decF; rw [if_neg h0, if_neg h, if_pos h', if_neg h3]) (by omega) hb)
    have HP1 : Hid (¬ (8 < ps.length ∨ 32 < long ps) → twoF ps = 0 → long ps % 2 = 0 → (all ps).any (out 4000) = true → ∀ w', Below w.heap.size w w' → DecPost ps w (.returned (.tuple #[.slice none 0 0, .int .i64 1])) w') := hide (fun h h' h3 h4 w' hb => dec_no (by unfold decF; rw [if_neg h0, if_neg h, if_pos h', if_pos h3, if_pos h4]) (by omega) hb)
    have HPO : Hid (¬ (8 < ps.length ∨ 32 < long ps) → twoF ps = 0 → long ps % 2 = 0 → (all ps).any (out 4000) = false → ∀ v w', Has w' w.heap.size v (Lap.unlap (all ps)) → Below w.heap.size w w' → DecPost ps w (.returned (.tuple #[v, .int .i64 0])) w') := hide (fun h h' h3 h4 v w' hv hb => ⟨Or.inr ⟨by unfold decF; rw [if_neg h0, if_neg h, if_pos h', if_pos h3, if_neg (by rw [h4]; simp)], v, rfl, hv⟩, hb⟩)
    have HAA : Hid (all (ps.take ps.length) = all ps) := hide (by rw [List.take_length])
    have HAL := hide (all_length ps)
    have HD0 : Hid (twoF (ps.drop 0) = twoF ps) := hide (by rw [List.drop_zero])
    have HA0 : Hid (all (ps.take 0) = []) := hide rfl
    obtain ⟨M, hM⟩ : ∃ M, long ps = M := ⟨_, rfl⟩
    rw [hM] at zl HLA HP4 HP2 HP3 HP1 HPO HAL
    obtain ⟨N, hN⟩ : ∃ N, ps.length = N := ⟨_, rfl⟩
    have HN := hide hN
    rw [hN] at h0 zp HLA HLM HP4 HP2 HP3 HP1 HPO HAA ⊢
    rw [unhide HLA] at HLM
    have n0 : ((N : Int) == 0) = false := by simp; omega
    clear hM hN
    go_enter Tryz.func49, Tryz.ntmps49
    go_wp2
    go_loopw [4, 5] (fun n i wr => ∃ (k T : Nat), k ≤ N ∧ i = .int .i64 k ∧ n = .int .i64 T ∧ Hid (long (ps.take k) = T) ∧ w = wr) (fun _ i _ => N - (intOf i).toNat)
    case atStart => exact ⟨0, 0, Nat.zero_le _, rfl, rfl, HL0, rfl⟩
    case round =>
      obtain ⟨k, T, hk, rfl, rfl, HT, rfl⟩ := hrel
      clear HL0
      by_cases hlt : k < N
      · have hlt1 : k < ps.length := by rw [unhide HN]; exact hlt
        obtain ⟨b1, off1, rfl, _, hc1⟩ := hp.at hlt1
        obtain ⟨-, A, C, x2, x3, x4, x5, x6⟩ := hc1 k hlt1
        have HT2 := hide (long_step hlt1)
        have hle := unhide HLM (k + 1) hlt
        rw [unhide HT2, unhide HT] at hle
        rw [unhide HT] at HT2
        have hM9 := unhide zl
        obtain ⟨L, hL⟩ : ∃ L, (prt ps k).2.length = L := ⟨_, rfl⟩
        rw [hL] at x2 HT2 hle
        have w1 : IntKind.i64.wrap ((T : Int) + (L : Int)) = ((T + L : Nat) : Int) := by rw [IntWalk.i64_in _ (by omega)]; omega
        obtain ⟨T2, hT2⟩ : ∃ T2, T + L = T2 := ⟨_, rfl⟩
        rw [hT2] at w1 HT2
        clear hc1 hL hlt1 hle hM9 hT2 HT x3 x4 x5 x6
        go_wp2
        go_roundw
        case rel => exact ⟨k + 1, T2, by omega, by go_num, by first | rfl | go_num, HT2, by first | trivial | rfl⟩
        case measure => simp [intOf]; omega
      · obtain rfl : k = N := by omega
        obtain rfl : T = M := (unhide HT).symm.trans (unhide HLA)
        clear HT HLA HLM
        by_cases h8 : 8 < k
        · have d8 : decide (8 < (k : Int)) = true := by simp; omega
          have HP := hide (unhide HP4 (Or.inl h8) w (Below.refl _ _))
          clear HP4 HP2 HP3 HP1 HPO
          go_wp2
          go_ret2
          exact unhide HP
        · have d8 : decide (8 < (k : Int)) = false := by simp; omega
          by_cases h32 : 32 < T
          · have d32 : decide (32 < (T : Int)) = true := by simp; omega
            have HP := hide (unhide HP4 (Or.inr h32) w (Below.refl _ _))
            clear HP4 HP2 HP3 HP1 HPO
            go_wp2
            go_ret2
            exact unhide HP
          · have d32 : decide (32 < (T : Int)) = false := by simp; omega
            have hno : ¬ (8 < k ∨ 32 < T) := by omega
            have HP2' := hide (unhide HP2 hno)
            have HP3' := hide (unhide HP3 hno)
            have HP1' := hide (unhide HP1 hno)
            have HPO' := hide (unhide HPO hno)
            have HLL : Hid (∀ j, j ≤ k → (all (ps.take j)).length ≤ T) := hide (fun j hj => by
              rw [all_length, ← unhide HAL, all_length]
              have := long_mono ps (k := j) (m := ps.length) (by rw [unhide HN]; exact hj)
              rw [List.take_length] at this
              exact this)
            clear hno HP4 HP2 HP3 HP1 HPO
            go_wp2
            go_loopw [6, 7] (fun v i wr => ∃ m : Nat, m ≤ k ∧ i = .int .i64 m ∧ Hid (twoF (ps.drop m) = twoF ps) ∧ Has wr w.heap.size v (all (ps.take m)) ∧ Below w.heap.size w wr) (fun _ i _ => k - (intOf i).toNat)
            case atStart => exact ⟨0, Nat.zero_le _, rfl, HD0, by rw [unhide HA0]; exact Has.nil _ _, Below.refl _ _⟩
            case round =>
              obtain ⟨m, hm, rfl, HD, hv, hB⟩ := hrel
              clear HD0 HA0
              by_cases hlt : m < k
              · have hlt1 : m < ps.length := by rw [unhide HN]; exact hlt
                obtain ⟨b1, off1, rfl, hb1, hc1⟩ := (hp.below hB).at hlt1
                obtain ⟨x1, A, C, x2, x3, x4, x5, x6⟩ := hc1 m hlt1
                have HST : Hid (twoF ps = if fault (prt ps m).2 = 0 then (if gok (prt ps m).1 = true then twoF (ps.drop (m + 1)) else 1) else fault (prt ps m).2) := hide (by rw [← unhide HD, drop_prt hlt1, twoF])
                have HAS := hide (all_step hlt1)
                have HTS := hide (fun j h => told_step (p := prt ps m) (j := j) h)
                have HTL := hide (told_length (prt ps m))
                have CV := hide (fun W => refValue (prt ps m).1 W)
                have HLm := hide (unhide HLL (m + 1) hlt)
                obtain ⟨G, hG⟩ : ∃ G, (prt ps m).1 = G := ⟨_, rfl⟩
                obtain ⟨pl, hpl⟩ : ∃ pl, (prt ps m).2 = pl := ⟨_, rfl⟩
                have HPL := hide hpl
                rw [hG] at x1 HST CV HTS
                rw [hpl] at x2 x4 x6 HST HTS HTL
                clear hc1 hG hpl HD x3
                by_cases hf : fault pl = 0
                · have CP := hide (fun W h => refPulses_ok A C pl W h (hide hf))
                  obtain ⟨f1, f2, f3⟩ := fault_ok hf
                  have HST2 : Hid (twoF ps = if gok G = true then twoF (ps.drop (m + 1)) else 1) := hide (by rw [unhide HST, if_pos hf])
                  obtain ⟨L, hL⟩ : ∃ L, pl.length = L := ⟨_, rfl⟩
                  have HL := hide hL
                  obtain ⟨Z, hZ⟩ : ∃ Z, loud pl = Z := ⟨_, rfl⟩
                  have HZ := hide hZ
                  rw [hL] at x2 x4 CP HTS HTL
                  rw [hZ] at CP HTS f3
                  have CPw := unhide CP wr x6
                  clear hf hL hZ HST CP
                  cases hg : gok G with
                  | false =>
                    have HP := hide (unhide HP2' (by rw [unhide HST2, hg]; simp) 1 (by rw [unhide HST2, hg]; simp) wr hB)
                    rw [hg] at CV
                    have CVw := unhide CV wr
                    obtain ⟨V, hV⟩ : ∃ V, vlN G = V := ⟨_, rfl⟩
                    rw [hV] at CVw
                    clear CV hg HST2 HP2' HP3' HP1' HPO' hV
                    go_wp2_with fail
                    refine CPw.mono ?_
                    rintro e w3 ⟨rfl, hw3⟩
                    obtain rfl : wr = w3 := hw3
                    go_wp2_with fail
                    refine CVw.mono ?_
                    rintro e w3 ⟨rfl, hw3⟩
                    obtain rfl : wr = w3 := hw3
                    go_wp2
                    go_ret2
                    exact unhide HP
                  | true =>
                    have HD2 : Hid (twoF (ps.drop (m + 1)) = twoF ps) := hide (by rw [unhide HST2, if_pos hg])
                    rw [hg] at CV
                    have CVw := unhide CV wr
                    have hvl := vlN_ok hg
                    obtain ⟨v0, v9⟩ := vlN_in G
                    rw [← hvl] at HTS
                    obtain ⟨V, hV⟩ : ∃ V, vlN G = V := ⟨_, rfl⟩
                    rw [hV] at CVw HTS v0 v9
                    have HT0 : Hid (all (ps.take m) ++ (told (prt ps m)).take 0 = all (ps.take m)) := hide (by simp)
                    have HTE : Hid (all (ps.take m) ++ (told (prt ps m)).take L = all (ps.take (m + 1))) := hide (by rw [unhide HAS, ← unhide HTL, List.take_length])
                    have HLJ : Hid (∀ j, j ≤ L → (all (ps.take m) ++ (told (prt ps m)).take j).length ≤ T) := hide (fun j hj => by
                      have h1 := unhide HLm
                      rw [← unhide HTE, List.length_append, List.length_take] at h1
                      rw [List.length_append, List.length_take]
                      omega)
                    obtain ⟨tp, htp⟩ : ∃ tp, told (prt ps m) = tp := ⟨_, rfl⟩
                    rw [htp] at HTS HT0 HTE HLJ
                    obtain ⟨ap, hap⟩ : ∃ ap, all (ps.take m) = ap := ⟨_, rfl⟩
                    rw [hap] at hv HT0 HTE HLJ
                    clear CV hg HST2 hvl hV htp hap HAS HTL HLm
                    go_wp2_with fail
                    refine CPw.mono ?_
                    rintro e w3 ⟨rfl, hw3⟩
                    obtain rfl : wr = w3 := hw3
                    clear CPw
                    go_wp2_with fail
                    refine CVw.mono ?_
                    rintro e w3 ⟨rfl, hw3⟩
                    obtain rfl : wr = w3 := hw3
                    clear CVw
                    rw [← unhide HT0] at hv
                    go_wp2
                    go_loopw [6, 12] (fun v i wq => ∃ j : Nat, j ≤ L ∧ i = .int .i64 j ∧ Has wq w.heap.size v (ap ++ tp.take j) ∧ Below w.heap.size w wq) (fun _ i _ => L - (intOf i).toNat)
                    case atStart => exact ⟨0, Nat.zero_le _, rfl, hv, hB⟩
                    case round =>
                      clear hv hB x1 x2 x4 x5 x6
                      rename World => wq
                      obtain ⟨j, hj, rfl, hv, hB⟩ := hrel
                      obtain ⟨b2, off2, eb, hb2, hc2⟩ := (hp.below hB).at hlt1
                      cases eb
                      obtain ⟨-, A2, C2, x2, -, x4, x5, x6⟩ := hc2 m hlt1
                      rw [unhide HPL] at x2 x4 x6
                      rw [unhide HL] at x2 x4
                      by_cases hjL : j < L
                      · have hjl : j < pl.length := by rw [unhide HL]; exact hjL
                        obtain ⟨b3, off3, rfl, _, hc3⟩ := cell_at x6 (by omega)
                        have c3 := hc3 j hjl
                        have hX8 := f2.at (by omega) j
                        have hXZ := loud_at hjl
                        have HTJ := hide (unhide HTS j hjL)
                        have hln : Hid ((ap ++ tp.take j).length + 1 ≤ 1000000) := hide (by have := unhide HLJ j (by omega); omega)
                        have hWs := hB.size
                        obtain ⟨X, hX⟩ : ∃ X, at0 pl j = X := ⟨_, rfl⟩
                        rw [hX] at c3 hX8 hXZ HTJ
                        rw [unhide HZ] at hXZ
                        have HAP : Hid (∀ y, tl V (Z : Int) X = y → (ap ++ tp.take j) ++ [y] = ap ++ tp.take (j + 1)) := hide (fun y hy => by rw [unhide HTJ, hy, List.append_assoc])
                        have CFw := hide (fun W => refFar X W (by omega) (by omega))
                        clear hX hc2 hc3 hjl HTJ HTS
                        rcases Nat.eq_zero_or_pos Z with hz | hz
                        · obtain rfl : X = 0 := by omega
                          have dz : decide (0 < (Z : Int)) = false := by simp; omega
                          have dz' : decide (0 < Z) = false := by simp; omega
                          have HAP2 := hide (unhide HAP 0 (by rw [hz]; exact tl_zero _ _))
                          clear HAP CFw hz hXZ
                          go_wp2_with (at_builtin; refine wpList_app _ rfl _ _ rfl w.heap.size u6 (ap ++ tp.take j) [0] _ _ rfl (hv.alloc _) rfl (row_one _ _ _) (unhide hln) (by simp; omega) ?_; intro s' w6 k6 g6 at6)
                          obtain ⟨d1, d2⟩ := stepped_plain hv hWs k6 g6 at6
                          have hB6 := hB.trans d1
                          rw [unhide HAP2] at k6
                          clear hv hB d1 d2 g6 at6
                          go_wp2
                          go_roundw
                          case rel => exact ⟨j + 1, by omega, by go_num, k6, hB6⟩
                          case measure => simp [intOf]; omega
                        · have dz : decide (0 < (Z : Int)) = true := by simp; omega
                          have dz' : decide (0 < Z) = true := by simp; omega
                          have nz : ((Z : Int) == 0) = false := by simp; omega
                          obtain ⟨D, hD⟩ : ∃ D, X.natAbs = D := ⟨_, rfl⟩
                          rw [hD] at CFw hXZ
                          have hD8 : D ≤ 8 := by omega
                          have hP0 : 0 ≤ (D : Int) * V := Int.mul_nonneg (by omega) v0
                          have hP9 : (D : Int) * V ≤ 8 * 8000 := Int.mul_le_mul (by omega) v9 v0 (by omega)
                          obtain ⟨P, hP⟩ : ∃ P, (D : Int) * V = P := ⟨_, rfl⟩
                          have w1 : IntKind.i64.wrap ((D : Int) * V) = P := by rw [hP]; exact IntWalk.i64_in _ (by omega)
                          rw [hP] at hP0 hP9
                          have t1 : Int.tdiv P (Z : Int) = P / (Z : Int) := Int.tdiv_eq_ediv_of_nonneg hP0
                          have y0 : 0 ≤ P / (Z : Int) := Int.ediv_nonneg hP0 (by omega)
                          have y9 : P / (Z : Int) ≤ P := Int.ediv_le_self _ hP0
                          obtain ⟨Y, hY⟩ : ∃ Y, P / (Z : Int) = Y := ⟨_, rfl⟩
                          rw [hY] at t1 y0 y9
                          have CFq := unhide CFw wq
                          by_cases hneg : X < 0
                          · have dn : decide (X < 0) = true := by simpa using hneg
                            have HAP2 := hide (unhide HAP (-Y) (by rw [tl_neg hneg, hD, hP, hY]))
                            have w2 : IntKind.i64.wrap (-Y) = -Y := IntWalk.i64_in _ (by omega)
                            obtain ⟨Y2, hY2⟩ : ∃ Y2, -Y = Y2 := ⟨_, rfl⟩
                            rw [hY2] at HAP2
                            have w2' : IntKind.i64.wrap (-Y) = Y2 := by rw [← hY2]; exact w2
                            clear HAP CFw hD hP hY w2 hY2 hneg
                            go_wp2_with fail
                            refine CFq.mono ?_
                            rintro e w5 ⟨rfl, hw5⟩
                            obtain rfl : wq = w5 := hw5
                            clear CFq
                            go_wp2_with (at_builtin; refine wpList_app _ rfl _ _ rfl w.heap.size u6 (ap ++ tp.take j) [Y2] _ _ rfl (hv.alloc _) rfl (row_one _ _ _) (unhide hln) (by simp; omega) ?_; intro s' w6 k6 g6 at6)
                            obtain ⟨d1, d2⟩ := stepped_plain hv hWs k6 g6 at6
                            have hB6 := hB.trans d1
                            rw [unhide HAP2] at k6
                            clear hv hB d1 d2 g6 at6
                            go_wp2
                            go_roundw
                            case rel => exact ⟨j + 1, by omega, by go_num, k6, hB6⟩
                            case measure => simp [intOf]; omega
                          · have dn : decide (X < 0) = false := by simpa using hneg
                            have HAP2 := hide (unhide HAP Y (by rw [tl_pos (by omega), hD, hP, hY]))
                            clear HAP CFw hD hP hY
                            go_wp2_with fail
                            refine CFq.mono ?_
                            rintro e w5 ⟨rfl, hw5⟩
                            obtain rfl : wq = w5 := hw5
                            clear CFq
                            go_wp2_with (at_builtin; refine wpList_app _ rfl _ _ rfl w.heap.size u6 (ap ++ tp.take j) [Y] _ _ rfl (hv.alloc _) rfl (row_one _ _ _) (unhide hln) (by simp; omega) ?_; intro s' w6 k6 g6 at6)
                            obtain ⟨d1, d2⟩ := stepped_plain hv hWs k6 g6 at6
                            have hB6 := hB.trans d1
                            rw [unhide HAP2] at k6
                            clear hv hB d1 d2 g6 at6
                            go_wp2
                            go_roundw
                            case rel => exact ⟨j + 1, by omega, by go_num, k6, hB6⟩
                            case measure => simp [intOf]; omega
                      · obtain rfl : j = L := by omega
                        rw [unhide HTE] at hv
                        clear hc2 HTS
                        go_wp2
                        go_roundw
                        case rel => exact ⟨m + 1, by omega, by go_num, HD2, hv, hB⟩
                        case measure => simp [intOf]; omega
                · have HOF : Hid (twoF ps = fault pl) := hide (by rw [unhide HST, if_neg hf])
                  have CP := refPulses_no A C pl wr (by omega) x6 (hide hf)
                  have HP := hide (unhide HP2' (by rw [unhide HOF]; exact hf) _ (unhide HOF) wr hB)
                  obtain ⟨F, hF⟩ : ∃ F, fault pl = F := ⟨_, rfl⟩
                  rw [hF] at CP HP hf
                  have n1 : (F == 0) = false := by rw [beq_eq_false_iff_ne]; exact hf
                  have n2 : (F != 0) = true := by simpa using hf
                  obtain ⟨L, hL⟩ : ∃ L, pl.length = L := ⟨_, rfl⟩
                  rw [hL] at x2 CP
                  clear HST HOF hf hF hL x6 x4 HP2' HP3' HP1' HPO' HTS HAS HTL HLm CV
                  go_wp2_with fail
                  refine CP.mono ?_
                  rintro e w3 ⟨rfl, hw3⟩
                  obtain rfl : wr = w3 := hw3
                  clear CP
                  go_wp2
                  go_ret2
                  exact unhide HP
              · obtain rfl : m = k := by omega
                have HT0 : Hid (twoF ps = 0) := hide (by rw [← unhide HD, ← unhide HN, List.drop_length]; rfl)
                have HP3 := hide (unhide HP3' (unhide HT0))
                have HP1 := hide (unhide HP1' (unhide HT0))
                have HPO := hide (unhide HPO' (unhide HT0))
                rw [unhide HAA] at hv
                obtain ⟨aa, haa⟩ : ∃ aa, all ps = aa := ⟨_, rfl⟩
                rw [haa] at hv HP1 HPO HAL
                clear HD HT0 HP2' HP3' HP1' HPO' HLL haa HAA
                by_cases h2 : T % 2 = 0
                · have tm : Int.tmod (T : Int) 2 = 0 := by rw [Int.tmod_eq_emod_of_nonneg (by omega)]; omega
                  obtain ⟨p6, q6, rfl, hrow⟩ := hv.row
                  have CA := refAll 4000 p6 q6 aa wr (by omega) (by omega) (by rw [unhide HAL]; omega) hrow
                  cases h4 : aa.any (out 4000) with
                  | true =>
                    have HP := hide (unhide HP1 h2 h4 wr hB)
                    rw [h4, Bool.not_true, unhide HAL] at CA
                    rw [unhide HAL]
                    clear HP3 HP1 HPO h4 hv
                    go_wp2_with fail
                    refine CA.mono ?_
                    rintro e w5 ⟨rfl, hw5⟩
                    obtain rfl : wr = w5 := hw5.symm
                    go_wp2
                    go_ret2
                    exact unhide HP
                  | false =>
                    have CU := Lap.refUnlap p6 q6 aa wr (by rw [unhide HAL]; omega) (hide (by rw [unhide HAL]; omega)) (in_of_any h4) hrow
                    have HP := hide (unhide HPO h2 h4)
                    rw [h4, Bool.not_false, unhide HAL] at CA
                    rw [unhide HAL] at CU ⊢
                    clear HP3 HP1 HPO h4 hv
                    go_wp2_with fail
                    refine CA.mono ?_
                    rintro e w5 ⟨rfl, hw5⟩
                    obtain rfl : wr = w5 := hw5.symm
                    clear CA
                    go_wp2_with fail
                    refine CU.mono ?_
                    rintro e w6 ⟨v6, rfl, k6, hb6⟩
                    obtain ⟨p9, n9, q9, rfl⟩ := k6.shape
                    go_wp2
                    go_ret2
                    exact unhide HP _ _ (k6.mono hB.size) (Below.chain hB hb6)
                · have tm : Int.tmod (T : Int) 2 = 1 := by rw [Int.tmod_eq_emod_of_nonneg (by omega)]; omega
                  have HP := hide (unhide HP3 h2 wr hB)
                  clear HP3 HP1 HPO
                  go_wp2
                  go_ret2
                  exact unhide HP

theorem long_le {ps : List Prt} {c : Nat} (h : ∀ i, i < ps.length → (prt ps i).2.length ≤ c) : long ps ≤ ps.length * c := by
  have key : ∀ k, k ≤ ps.length → long (ps.take k) ≤ k * c := by
    intro k
    induction k with
    | zero => intro _; simp [long]
    | succ k ih =>
      intro hk
      have h1 := ih (by omega)
      have h2 := h k (by omega)
      rw [long_step (by omega), Nat.add_mul]
      omega
  have := key ps.length (Nat.le_refl _)
  rwa [List.take_length] at this

set_option maxRecDepth 100000 in
set_option maxHeartbeats 4000000 in
theorem refDecode (a : Option Addr) (cap : Nat) (ps : List Prt) (w : World) (hp : Pts w a ps) (zp : ps.length ≤ 1000000000000000000) (zl : Hid (∀ i, i < ps.length → (prt ps i).2.length ≤ 17592186044416)) :
    Calls Tryz.prog 49 #[.slice a ps.length cap] w fun e w' => DecPost ps w e w' := by
  by_cases h8 : 8 < ps.length
  · have HP : Hid (DecPost ps w (.returned (.tuple #[.slice none 0 0, .int .i64 4])) w) := hide (dec_no (by unfold decF; rw [if_neg (by omega), if_pos (Or.inl h8)]) (by omega) (Below.refl _ _))
    obtain ⟨N, hN⟩ : ∃ N, ps.length = N := ⟨_, rfl⟩
    have HN := hide hN
    rw [hN] at h8 zp ⊢
    have n0 : ((N : Int) == 0) = false := by simp; omega
    have d8 : decide (8 < (N : Int)) = true := by simp; omega
    clear hN zl
    go_enter Tryz.func49, Tryz.ntmps49
    go_wp2
    go_loopw [4, 5] (fun n i wr => ∃ (k : Nat) (T : Int), k ≤ N ∧ i = .int .i64 k ∧ n = .int .i64 T ∧ w = wr) (fun _ i _ => N - (intOf i).toNat)
    case atStart => exact ⟨0, 0, Nat.zero_le _, rfl, rfl, rfl⟩
    case round =>
      obtain ⟨k, T, hk, rfl, rfl, rfl⟩ := hrel
      by_cases hlt : k < N
      · have hlt1 : k < ps.length := by rw [unhide HN]; exact hlt
        obtain ⟨b1, off1, rfl, _, hc1⟩ := hp.at hlt1
        obtain ⟨-, A, C, x2, x3, x4, x5, x6⟩ := hc1 k hlt1
        obtain ⟨L, hL⟩ : ∃ L, (prt ps k).2.length = L := ⟨_, rfl⟩
        rw [hL] at x2
        obtain ⟨T2, hT2⟩ : ∃ T2, IntKind.i64.wrap (T + (L : Int)) = T2 := ⟨_, rfl⟩
        clear hc1 hL hlt1 x3 x4 x5 x6
        go_wp2
        go_roundw
        case rel => exact ⟨k + 1, T2, by omega, by go_num, by first | rfl | go_num, by first | trivial | rfl⟩
        case measure => simp [intOf]; omega
      · obtain rfl : k = N := by omega
        go_wp2
        go_ret2
        exact unhide HP
  · refine refDecode_few a cap ps w hp zp (hide ?_)
    have h1 := long_le (unhide zl)
    have h2 : ps.length * 17592186044416 ≤ 8 * 17592186044416 := Nat.mul_le_mul_right _ (by omega)
    omega

end Go.Proofs.YtephagojpnfhcajGreatDoor.Frm
