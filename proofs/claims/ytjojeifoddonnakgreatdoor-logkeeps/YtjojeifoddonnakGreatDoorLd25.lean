/-
  hornref1.Value at any gain, hornref2.Given: by their contracts.
-/
import Derived.Test.YtjojeifoddonnakGreatDoorLd11
import Derived.Test.YtjojeifoddonnakGreatDoorLd03
import Derived.Test.YtjojeifoddonnakGreatDoorLd13
import Derived.Test.YtjojeifoddonnakGreatDoorLd08
namespace Go.Proofs.YtjojeifoddonnakGreatDoor.Frm
open Go.RowKit
open Go.Proofs.YtjojeifoddonnakGreatDoor.Tre Go.Proofs.YtjojeifoddonnakGreatDoor.Bnd Go.Proofs.YtjojeifoddonnakGreatDoor.Pls Go.Proofs.YtjojeifoddonnakGreatDoor.Gai Go.Proofs.YtjojeifoddonnakGreatDoor.Shr
set_option linter.unusedVariables false

theorem refValue (g : Int) (w : World) :
    Calls Tryz.prog 26 #[.int .i64 g] w fun e w' => e = .returned (.tuple #[.int .i64 (vlN g), .bool (gok g)]) ∧ w = w' := by
  by_cases h : g < 0 ∨ (0 ≤ g ∧ 53 < g)
  · have e : gok g = false := by
      unfold gok
      rcases h with h | ⟨_, h⟩
      · have : decide (0 ≤ g) = false := by simp; omega
        rw [this]; rfl
      · have : decide (g ≤ 53) = false := by simp; omega
        rw [this]; simp
    unfold vlN
    rw [e]
    exact refValue_far g w h
  · obtain ⟨m, rfl⟩ : ∃ m : Nat, g = m := ⟨g.toNat, by omega⟩
    have h1 : decide (0 ≤ (m : Int)) = true := by simp
    have h2 : decide ((m : Int) ≤ 53) = true := by simp; omega
    have e : gok (m : Int) = vo m := by unfold gok; rw [h1, h2, Int.toNat_natCast]; rfl
    unfold vlN
    rw [e, Int.toNat_natCast]
    rcases Nat.eq_zero_or_pos m with h0 | h0
    · subst h0
      have e0 : vo 0 = true := by decide
      have e1 : vl 0 = 0 := rfl
      rw [e0, if_pos rfl, e1]
      exact refValue_zero w
    · refine (refValue_some m h0 (by omega) w).mono ?_
      rintro e w' ⟨ha, hw⟩
      rcases ha with ⟨h3, rfl⟩ | ⟨h3, rfl⟩
      · rw [unhide h3, if_pos rfl]; exact ⟨rfl, hw⟩
      · rw [unhide h3, if_neg (by simp)]; exact ⟨rfl, hw⟩
set_option maxRecDepth 100000 in
set_option maxHeartbeats 4000000 in
theorem refGiven (a : Option Addr) (cap : Nat) (ps : List Prt) (b : Option Addr) (capb : Nat) (s : List Int) (B : Int) (w : World) (hp : Pts w a ps) (hr : Row w b s) (h0 : 1 ≤ s.length) (h8 : s.length ≤ 8) (hl : ps.length = s.length) (hs : Hid (Sizes s)) (hg : Hid (∀ i, i < ps.length → gok (prt ps i).1 = true)) (hB0 : 0 ≤ B) (hB4 : B ≤ 400) :
    Calls Tryz.prog 27 #[.slice a ps.length cap, .slice b s.length capb, .int .i64 B] w fun e w' => ∃ v, e = .returned v ∧ Has w' w.heap.size v (given (gns ps) s B) ∧ Below w.heap.size w w' := by
  have HLD : Hid (Lds (vals (gns ps))) := hide (vals_lds (fun i hi => by rw [gns_length] at hi; rw [gns_at hi]; exact unhide hg i hi))
  have HVL : Hid ((vals (gns ps)).length = s.length) := hide (by rw [vals_length, gns_length, hl])
  have HGV : Hid (share s (vals (gns ps)) B = given (gns ps) s B) := hide rfl
  have HTK : Hid (∀ k, k < ps.length → (vals (gns ps)).take (k + 1) = (vals (gns ps)).take k ++ [vlN (prt ps k).1]) := hide (fun k hk => by
    rw [vals_take (by rw [gns_length]; exact hk), gns_at hk, vlN_ok (unhide hg k hk)])
  have HV0 : Hid ((vals (gns ps)).take 0 = []) := hide rfl
  have HVA : Hid ((vals (gns ps)).take s.length = vals (gns ps)) := hide (by rw [← unhide HVL, List.take_length])
  obtain ⟨ds, hds⟩ : ∃ ds, vals (gns ps) = ds := ⟨_, rfl⟩
  rw [hds] at HLD HVL HGV HTK HV0 HVA
  obtain ⟨gv, hgv⟩ : ∃ gv, given (gns ps) s B = gv := ⟨_, rfl⟩
  rw [hgv] at HGV ⊢
  have CSH := hide (fun W q c h1 h2 => refShare b capb s q c ds B W h1 h2 h0 h8 (unhide HVL) hs HLD hB0 hB4)
  rw [unhide HGV] at CSH
  obtain ⟨N, hN⟩ : ∃ N, s.length = N := ⟨_, rfl⟩
  have HPN : Hid (ps.length = N) := hide (hl.trans hN)
  rw [hN] at CSH HVL HVA h8
  rw [hl, hN]
  clear hds hgv hN hl HGV HLD h0
  go_enter Tryz.func27, Tryz.ntmps27
  go_wp2
  go_loopw [7, 8] (fun v i wr => ∃ k : Nat, k ≤ N ∧ i = .int .i64 k ∧ Has wr w.heap.size v (ds.take k) ∧ Below w.heap.size w wr) (fun _ i _ => N - (intOf i).toNat)
  case atStart => exact ⟨0, Nat.zero_le _, rfl, by rw [unhide HV0]; exact Has.nil _ _, Below.refl _ _⟩
  case round =>
    obtain ⟨k, hk, rfl, hv, hB⟩ := hrel
    clear HV0
    by_cases hlt : k < N
    · have hlt' : k < ps.length := by rw [unhide HPN]; exact hlt
      obtain ⟨b1, off1, rfl, _, hc1⟩ := (hp.below hB).at hlt'
      have c1 := (hc1 k hlt').1
      have HT := hide (unhide HTK k hlt')
      have hq := hide (fun W => refValue (prt ps k).1 W)
      obtain ⟨G, hG⟩ : ∃ G, (prt ps k).1 = G := ⟨_, rfl⟩
      rw [hG] at c1 HT hq
      obtain ⟨v0, v9⟩ := vlN_in G
      obtain ⟨V, hV⟩ : ∃ V, vlN G = V := ⟨_, rfl⟩
      rw [hV] at HT hq v0 v9
      have hln : Hid ((ds.take k).length + 1 ≤ 1000000) := hide (by rw [List.length_take]; omega)
      have hWs := hB.size
      clear hc1 hG hV hlt'
      go_wp2_with fail
      refine (unhide hq _).mono ?_
      rintro e w2 ⟨rfl, hw2⟩
      obtain rfl : wr = w2 := hw2
      clear hq
      go_wp2_with (at_builtin; refine wpList_app _ rfl _ _ rfl w.heap.size u7 (ds.take k) [V] _ _ rfl (hv.alloc _) rfl (row_one _ _ _) (unhide hln) (by simp; omega) ?_; intro s' w6 k6 g6 at6)
      obtain ⟨d1, d2⟩ := stepped_plain hv hWs k6 g6 at6
      have hB6 := hB.trans d1
      rw [← unhide HT] at k6
      clear hv hB d1 d2 g6 at6
      go_wp2
      go_roundw
      case rel => exact ⟨k + 1, by omega, by go_num, k6, hB6⟩
      case measure => simp [intOf]; omega
    · obtain rfl : k = N := by omega
      rw [unhide HVA] at hv
      obtain ⟨p, q, rfl, hrow⟩ := hv.row
      rw [unhide HVL]
      have c := unhide CSH wr p q (hr.below hB) hrow
      clear CSH hv
      go_wp2_with fail
      refine c.mono ?_
      clear c
      rintro e w2 ⟨v2, rfl, k2, hb2⟩
      obtain ⟨p9, n9, q9, rfl⟩ := k2.shape
      go_wp2
      go_ret
      exact ⟨_, rfl, k2.mono hB.size, Below.chain hB hb2⟩

end Go.Proofs.YtjojeifoddonnakGreatDoor.Frm

/-
  hornref2.Frame: by its contract.
-/
namespace Go.Proofs.YtjojeifoddonnakGreatDoor.Frm
open Go.RowKit
open Go.Proofs.YtjojeifoddonnakGreatDoor.Tre Go.Proofs.YtjojeifoddonnakGreatDoor.Bnd Go.Proofs.YtjojeifoddonnakGreatDoor.Pls Go.Proofs.YtjojeifoddonnakGreatDoor.Gai Go.Proofs.YtjojeifoddonnakGreatDoor.Shr
set_option linter.unusedVariables false

/-- What Frame answers. -/
def FrmPost (ps : List Prt) (s : List Int) (B : Int) (w : World) (e : Ending) (w' : World) : Prop := ∃ E, e = .returned (.int .i64 E) ∧ FrmF ps s B E ∧ Below w.heap.size w w'

set_option maxRecDepth 100000 in
set_option maxHeartbeats 8000000 in
theorem refFrame_ok (a : Option Addr) (cap : Nat) (ps : List Prt) (b : Option Addr) (capb : Nat) (s : List Int) (B : Int) (w : World) (hp : Pts w a ps) (hs : Row w b s) (h1 : Hid (bf s = 0)) (h2 : Hid (ps.length = s.length)) :
    Calls Tryz.prog 39 #[.slice a ps.length cap, .slice b s.length capb, .int .i64 B] w fun e w' => FrmPost ps s B w e w' := by
  obtain ⟨n0, n8, hsz, n32⟩ := bf_ok (unhide h1)
  have HSZ := hide hsz
  have CBA := hide (fun W h => refBands_ok b capb s W (by omega) h h1)
  have HP3 : Hid (¬ Fits ps s → ∀ w', Below w.heap.size w w' → FrmPost ps s B w (.returned (.int .i64 3)) w') := hide (fun h w' hb => ⟨3, rfl, frm_fit (unhide h1) (unhide h2) h, hb⟩)
  have HP1 : Hid (Fits ps s → oneF ps ≠ 0 → ∀ F, oneF ps = F → ∀ w', Below w.heap.size w w' → FrmPost ps s B w (.returned (.int .i64 F)) w') := hide (fun h h' F hF w' hb => ⟨F, rfl, by rw [← hF]; exact frm_one (unhide h1) (unhide h2) h h', hb⟩)
  have HPB : Hid (Fits ps s → oneF ps = 0 → ¬ (0 ≤ B ∧ B ≤ 400) → ∀ w', Below w.heap.size w w' → FrmPost ps s B w (.returned (.int .i64 1)) w') := hide (fun h h' h5 w' hb => ⟨1, rfl, frm_bits (unhide h1) (unhide h2) h h' h5, hb⟩)
  have HPG : Hid (Fits ps s → oneF ps = 0 → (0 ≤ B ∧ B ≤ 400) → ¬ Gets ps (given (gns ps) s B) → ∀ w', Below w.heap.size w w' → FrmPost ps s B w (.returned (.int .i64 3)) w') := hide (fun h h' h5 h6 w' hb => ⟨3, rfl, frm_gets (unhide h1) (unhide h2) h h' h5 h6, hb⟩)
  have HP0 : Hid (Fits ps s → oneF ps = 0 → (0 ≤ B ∧ B ≤ 400) → Gets ps (given (gns ps) s B) → ∀ w', Below w.heap.size w w' → FrmPost ps s B w (.returned (.int .i64 0)) w') := hide (fun h h' h5 h6 w' hb => ⟨0, rfl, frm_ok (unhide h1) (unhide h2) h h' h5 h6, hb⟩)
  have CGV := hide (fun W hg h5 hp hr => refGiven a cap ps b capb s B W hp hr (by omega) n8 (unhide h2) HSZ hg (And.left h5) (And.right h5))
  have HGL : Hid (0 ≤ B → (given (gns ps) s B).length = s.length) := hide (fun hB => by unfold given; exact (share_is (d := vals (gns ps)) hsz n8 hB).1.len)
  have HD0 : Hid (oneF (ps.drop 0) = oneF ps) := hide (by rw [List.drop_zero])
  obtain ⟨TT, hTT⟩ : ∃ TT, total s = TT := ⟨_, rfl⟩
  rw [hTT] at CBA
  obtain ⟨N, hN⟩ : ∃ N, s.length = N := ⟨_, rfl⟩
  have HN := hide hN
  have HPN : Hid (ps.length = N) := hide ((unhide h2).trans hN)
  rw [hN] at CBA CGV HGL n8 n0
  rw [unhide HPN] at CGV
  rw [unhide h2, hN]
  have hNN : ((N : Int) == (N : Int)) = true := by simp
  clear hTT hN hsz n32 h1 h2 HSZ
  go_enter Tryz.func39, Tryz.ntmps39
  go_wp2_with fail
  refine (unhide CBA _ hs).mono ?_
  rintro e w1 ⟨rfl, hb1⟩
  clear CBA
  go_wp2
  go_loopw [9] (fun i wr => ∃ k : Nat, k ≤ N ∧ i = .int .i64 k ∧ Hid (∀ r, r < k → ((prt ps r).2.length : Int) = at0 s r) ∧ Below w.heap.size w wr) (fun i _ => N - (intOf i).toNat)
  case atStart => exact ⟨0, Nat.zero_le _, rfl, hide (fun r hr => by omega), hb1⟩
  case round =>
    obtain ⟨k, hk, rfl, HF, hB⟩ := hrel
    clear hb1
    by_cases hlt : k < N
    · have hlt1 : k < ps.length := by rw [unhide HPN]; exact hlt
      have hlt2 : k < s.length := by rw [unhide HN]; exact hlt
      obtain ⟨b1, off1, rfl, _, hc1⟩ := (hp.below hB).at hlt1
      obtain ⟨-, A, C, x2, x3, x4, x5, x6⟩ := hc1 k hlt1
      obtain ⟨b2, off2, rfl, _, hc2⟩ := cell_at (hs.below hB) (by omega)
      have c2 := hc2 k hlt2
      obtain ⟨L, hL⟩ : ∃ L, (prt ps k).2.length = L := ⟨_, rfl⟩
      obtain ⟨X, hX⟩ : ∃ X, at0 s k = X := ⟨_, rfl⟩
      rw [hL] at x2
      rw [hX] at c2
      have HLX : Hid ((prt ps k).2.length = L ∧ at0 s k = X) := hide ⟨hL, hX⟩
      clear hc1 hc2 hL hX hlt2 x3 x4 x5 x6
      by_cases he : (L : Int) = X
      · have HF2 : Hid (∀ r, r < k + 1 → ((prt ps r).2.length : Int) = at0 s r) := hide (fun r hr => by
          by_cases e : r = k
          · rw [e, (unhide HLX).1, (unhide HLX).2]; exact he
          · exact unhide HF r (by omega))
        have n1 : ((L : Int) == X) = true := by rw [he]; simp
        have n2 : ((L : Int) != X) = false := by rw [he]; simp
        clear HF he HLX
        go_wp2
        go_quiet (fail)
        go_wp2
        go_roundw
        case rel => exact ⟨k + 1, by omega, by go_num, HF2, hB.trans ⟨rfl, rfl, rfl, Nat.le_refl _, fun _ _ => rfl⟩⟩
        case measure => simp [intOf]; omega
      · have HNF : Hid (¬ Fits ps s) := hide (fun h => he (by rw [← (unhide HLX).1, ← (unhide HLX).2]; exact h k hlt1))
        have n1 : ((L : Int) == X) = false := by rw [beq_eq_false_iff_ne]; exact he
        have n2 : ((L : Int) != X) = true := by simpa using he
        have HP := hide (unhide HP3 (unhide HNF))
        clear HF he HLX HNF HP3 HP1 HPB HPG HP0
        go_wp2
        go_quiet (fail)
        go_wp2
        go_ret
        exact unhide HP _ (hB.trans ⟨rfl, rfl, rfl, Nat.le_refl _, fun _ _ => rfl⟩)
    · obtain rfl : k = N := by omega
      have HFT : Hid (Fits ps s) := hide (fun r hr => unhide HF r (by rw [← unhide HPN]; exact hr))
      have HP1' := hide (unhide HP1 (unhide HFT))
      have HPB' := hide (unhide HPB (unhide HFT))
      have HPG' := hide (unhide HPG (unhide HFT))
      have HP0' := hide (unhide HP0 (unhide HFT))
      clear HF HFT HP3 HP1 HPB HPG HP0
      go_wp2
      go_loopw [10] (fun i wq => ∃ j : Nat, j ≤ k ∧ i = .int .i64 j ∧ Hid (oneF (ps.drop j) = oneF ps) ∧ wr = wq) (fun i _ => k - (intOf i).toNat)
      case atStart => exact ⟨0, Nat.zero_le _, rfl, HD0, rfl⟩
      case round =>
        obtain ⟨j, hj, rfl, HO, rfl⟩ := hrel
        clear HD0
        by_cases hlt : j < k
        · have hlt1 : j < ps.length := by rw [unhide HPN]; exact hlt
          obtain ⟨b1, off1, rfl, _, hc1⟩ := (hp.below hB).at hlt1
          obtain ⟨x1, A, C, x2, x3, x4, x5, x6⟩ := hc1 j hlt1
          have HST : Hid (oneF ps = if gok (prt ps j).1 = true then (if fault (prt ps j).2 = 0 then oneF (ps.drop (j + 1)) else fault (prt ps j).2) else 1) := hide (by rw [← unhide HO, drop_prt hlt1, oneF])
          have CV := refValue (prt ps j).1 wr
          obtain ⟨G, hG⟩ : ∃ G, (prt ps j).1 = G := ⟨_, rfl⟩
          obtain ⟨pl, hpl⟩ : ∃ pl, (prt ps j).2 = pl := ⟨_, rfl⟩
          rw [hG] at x1 HST CV
          rw [hpl] at x2 x4 x6 HST
          obtain ⟨L, hL⟩ : ∃ L, pl.length = L := ⟨_, rfl⟩
          obtain ⟨V, hV⟩ : ∃ V, vlN G = V := ⟨_, rfl⟩
          rw [hV] at CV
          clear hc1 hlt1 hG hpl hV HO x3
          cases hg : gok G with
          | false =>
            have HP := hide (unhide HP1' (by rw [unhide HST, if_neg (by rw [hg]; simp)]; omega) 1 (by rw [unhide HST, if_neg (by rw [hg]; simp)]) wr hB)
            rw [hg] at CV
            rw [hL] at x2
            clear HST hL HP1' HPB' HPG' HP0' hg x6
            go_wp2_with fail
            refine CV.mono ?_
            rintro e w3 ⟨rfl, hw3⟩
            obtain rfl : wr = w3 := hw3
            go_wp2
            go_ret
            exact unhide HP
          | true =>
            have HST2 : Hid (oneF ps = if fault pl = 0 then oneF (ps.drop (j + 1)) else fault pl) := hide (by rw [unhide HST, if_pos hg])
            rw [hg] at CV
            clear HST hg
            by_cases hf : fault pl = 0
            · have HO2 : Hid (oneF (ps.drop (j + 1)) = oneF ps) := hide (by rw [unhide HST2, if_pos hf])
              have CP := refPulses_ok A C pl wr x6 (hide hf)
              obtain ⟨Z, hZ⟩ : ∃ Z, loud pl = Z := ⟨_, rfl⟩
              rw [hZ] at CP
              rw [hL] at x2 CP
              clear HST2 hf hZ hL x6 x4
              go_wp2_with fail
              refine CV.mono ?_
              rintro e w3 ⟨rfl, hw3⟩
              obtain rfl : wr = w3 := hw3
              clear CV
              go_wp2_with fail
              refine CP.mono ?_
              rintro e w3 ⟨rfl, hw3⟩
              obtain rfl : wr = w3 := hw3
              clear CP
              go_wp2
              go_roundw
              case rel => exact ⟨j + 1, by omega, by go_num, HO2, by first | trivial | rfl⟩
              case measure => simp [intOf]; omega
            · have HOF : Hid (oneF ps = fault pl) := hide (by rw [unhide HST2, if_neg hf])
              have CP := refPulses_no A C pl wr (by omega) x6 (hide hf)
              have HP := hide (unhide HP1' (by rw [unhide HOF]; exact hf) _ (unhide HOF) wr hB)
              obtain ⟨F, hF⟩ : ∃ F, fault pl = F := ⟨_, rfl⟩
              rw [hF] at CP HP hf
              have n1 : (F == 0) = false := by rw [beq_eq_false_iff_ne]; exact hf
              have n2 : (F != 0) = true := by simpa using hf
              rw [hL] at x2 CP
              clear HST2 HOF hf hF hL x6 x4 HP1' HPB' HPG' HP0'
              go_wp2_with fail
              refine CV.mono ?_
              rintro e w3 ⟨rfl, hw3⟩
              obtain rfl : wr = w3 := hw3
              clear CV
              go_wp2_with fail
              refine CP.mono ?_
              rintro e w3 ⟨rfl, hw3⟩
              obtain rfl : wr = w3 := hw3
              clear CP
              go_wp2
              go_ret
              exact unhide HP
        · obtain rfl : j = k := by omega
          have HO0 : Hid (oneF ps = 0) := hide (by rw [← unhide HO, ← unhide HPN, List.drop_length]; rfl)
          have HPB2 := hide (unhide HPB' (unhide HO0))
          have HPG2 := hide (unhide HPG' (unhide HO0))
          have HP02 := hide (unhide HP0' (unhide HO0))
          have HOZ := hide (oneF_zero (unhide HO0))
          clear HO HO0 HP1' HPB' HPG' HP0'
          by_cases hb1 : B < 0
          · have d1 : decide (B < 0) = true := by simpa using hb1
            have HP := hide (unhide HPB2 (by omega) wr hB)
            clear HPB2 HPG2 HP02
            go_wp2
            go_ret
            exact unhide HP
          · have d1 : decide (B < 0) = false := by simpa using hb1
            by_cases hb2 : 400 < B
            · have d2 : decide (400 < B) = true := by simpa using hb2
              have HP := hide (unhide HPB2 (by omega) wr hB)
              clear HPB2 HPG2 HP02
              go_wp2
              go_ret
              exact unhide HP
            · have d2 : decide (400 < B) = false := by simpa using hb2
              have h5 : 0 ≤ B ∧ B ≤ 400 := by omega
              have HPG3 := hide (unhide HPG2 h5)
              have HP03 := hide (unhide HP02 h5)
              have CG := unhide CGV wr (hide (fun i hi => (unhide HOZ i (by rw [unhide HPN]; exact hi)).1)) h5 (hp.below hB) (hs.below hB)
              have HGL2 := hide (unhide HGL (by omega))
              obtain ⟨gv, hgv⟩ : ∃ gv, given (gns ps) s B = gv := ⟨_, rfl⟩
              rw [hgv] at CG HPG3 HP03 HGL2
              clear hgv HPB2 HPG2 HP02 CGV HGL h5
              go_wp2_with fail
              refine CG.mono ?_
              rintro e w4 ⟨v4, rfl, k4, hb4⟩
              clear CG
              have hB4 := Below.chain hB hb4
              obtain ⟨g4, c4, rfl, hg4, hg5, -, -⟩ := k4.one (by rw [unhide HGL2]; exact n0)
              rw [unhide HGL2] at k4 ⊢
              clear hB hb4
              go_wp2
              go_loopw [14] (fun i wq => ∃ m : Nat, m ≤ j ∧ i = .int .i64 m ∧ Hid (∀ r, r < m → (loud (prt ps r).2 : Int) = at0 gv r) ∧ Has wq wr.heap.size (.slice (some ⟨g4, 0, none⟩) j c4) gv ∧ Below w.heap.size w wq) (fun i _ => j - (intOf i).toNat)
              case atStart => exact ⟨0, Nat.zero_le _, rfl, hide (fun r hr => by omega), k4, hB4⟩
              case round =>
                clear k4 hB4
                rename World => wq
                obtain ⟨m, hm, rfl, HG, k4, hB4⟩ := hrel
                by_cases hlt : m < j
                · have hlt1 : m < ps.length := by rw [unhide HPN]; exact hlt
                  obtain ⟨b1, off1, rfl, _, hc1⟩ := (hp.below hB4).at hlt1
                  obtain ⟨-, A, C, x2, x3, x4, x5, x6⟩ := hc1 m hlt1
                  have hok := (unhide HOZ m hlt1).2
                  obtain ⟨f1, f2, f3⟩ := fault_ok hok
                  have ck := k4.get (j := m) (by rw [unhide HGL2]; exact hlt)
                  have CL : Hid (∀ x, Calls Tryz.prog 41 #[.slice A (prt ps m).2.length C] (wq.drewN x) fun e w' => e = .returned (.int .i64 (loud (prt ps m).2 : Int)) ∧ ∃ n, w' = wq.drewN n) := hide (fun x => (refLoud A C (prt ps m).2 (wq.drewN x) (by omega) (f2.mono (by omega)) (x6.below (⟨rfl, rfl, rfl, Nat.le_refl _, fun _ _ => rfl⟩ : Below wq.heap.size wq (wq.drewN x)))).mono fun e w' ⟨he, hw⟩ => ⟨he, x, hw.symm⟩)
                  obtain ⟨Z, hZ⟩ : ∃ Z, loud (prt ps m).2 = Z := ⟨_, rfl⟩
                  have HZ := hide hZ
                  obtain ⟨K, hK⟩ : ∃ K, at0 gv m = K := ⟨_, rfl⟩
                  have HK := hide hK
                  rw [hZ] at CL
                  rw [hK] at ck
                  obtain ⟨L, hL⟩ : ∃ L, (prt ps m).2.length = L := ⟨_, rfl⟩
                  rw [hL] at x2 CL
                  clear hc1 hZ hK hL hok f1 f2 f3 x3 x4 x5 x6
                  by_cases he : (Z : Int) = K
                  · have HG2 : Hid (∀ r, r < m + 1 → (loud (prt ps r).2 : Int) = at0 gv r) := hide (fun r hr => by
                      by_cases e : r = m
                      · rw [e, unhide HZ, unhide HK]; exact he
                      · exact unhide HG r (by omega))
                    have n1 : ((Z : Int) == K) = true := by rw [he]; simp
                    have n2 : ((Z : Int) != K) = false := by rw [he]; simp
                    clear HG he HZ HK
                    go_wp2
                    go_quiet ((go_at_call 41; exact unhide CL _))
                    go_wp2
                    go_roundw
                    case rel => exact ⟨m + 1, by omega, by go_num, HG2, k4, hB4.trans ⟨rfl, rfl, rfl, Nat.le_refl _, fun _ _ => rfl⟩⟩
                    case measure => simp [intOf]; omega
                  · have HNG : Hid (¬ Gets ps gv) := hide (fun h => he (by rw [← unhide HZ, ← unhide HK]; exact h m hlt1))
                    have n1 : ((Z : Int) == K) = false := by rw [beq_eq_false_iff_ne]; exact he
                    have n2 : ((Z : Int) != K) = true := by simpa using he
                    have HP := hide (unhide HPG3 (unhide HNG))
                    clear HG he HZ HK HNG HPG3 HP03
                    go_wp2
                    go_quiet ((go_at_call 41; exact unhide CL _))
                    go_wp2
                    go_ret
                    exact unhide HP _ (hB4.trans ⟨rfl, rfl, rfl, Nat.le_refl _, fun _ _ => rfl⟩)
                · obtain rfl : m = j := by omega
                  have HP := hide (unhide HP03 (fun r hr => unhide HG r (by rw [← unhide HPN]; exact hr)) wq hB4)
                  clear HG HPG3 HP03
                  go_wp2
                  go_ret
                  exact unhide HP

set_option maxRecDepth 100000 in
set_option maxHeartbeats 4000000 in
theorem refFrame (a : Option Addr) (cap : Nat) (ps : List Prt) (b : Option Addr) (capb : Nat) (s : List Int) (B : Int) (w : World) (hp : Pts w a ps) (hs : Row w b s) (zp : ps.length ≤ 9223372036854775807) (zs : s.length ≤ 9223372036854775807) :
    Calls Tryz.prog 39 #[.slice a ps.length cap, .slice b s.length capb, .int .i64 B] w fun e w' => FrmPost ps s B w e w' := by
  by_cases h1 : bf s = 0
  · by_cases h2 : ps.length = s.length
    · exact refFrame_ok a cap ps b capb s B w hp hs (hide h1) (hide h2)
    · have CBA := hide (fun W h => refBands_ok b capb s W zs h (hide h1))
      have HP : Hid (∀ w', Below w.heap.size w w' → FrmPost ps s B w (.returned (.int .i64 3)) w') := hide (fun w' hb => ⟨3, rfl, frm_len h1 h2, hb⟩)
      obtain ⟨TT, hTT⟩ : ∃ TT, total s = TT := ⟨_, rfl⟩
      obtain ⟨N, hN⟩ : ∃ N, s.length = N := ⟨_, rfl⟩
      obtain ⟨M, hM⟩ : ∃ M, ps.length = M := ⟨_, rfl⟩
      rw [hTT] at CBA
      rw [hM, hN] at h2
      rw [hN] at CBA ⊢
      rw [hM]
      have n1 : ((M : Int) == (N : Int)) = false := by rw [beq_eq_false_iff_ne]; omega
      have n2 : ((M : Int) != (N : Int)) = true := by simp; omega
      have n3 : (M == N) = false := by rw [beq_eq_false_iff_ne]; omega
      clear hTT hN hM h1 h2 zp zs
      go_enter Tryz.func39, Tryz.ntmps39
      go_wp2_with fail
      refine (unhide CBA _ hs).mono ?_
      rintro e w1 ⟨rfl, hb1⟩
      go_wp2
      go_ret
      exact unhide HP _ hb1
  · have CBA := hide (fun W h => refBands_no b capb s W zs h (hide h1))
    have HP : Hid (∀ w', Below w.heap.size w w' → FrmPost ps s B w (.returned (.int .i64 (bf s))) w') := hide (fun w' hb => ⟨_, rfl, frm_bf h1, hb⟩)
    obtain ⟨F, hF⟩ : ∃ F, bf s = F := ⟨_, rfl⟩
    obtain ⟨N, hN⟩ : ∃ N, s.length = N := ⟨_, rfl⟩
    obtain ⟨M, hM⟩ : ∃ M, ps.length = M := ⟨_, rfl⟩
    rw [hF] at CBA HP h1
    rw [hN] at CBA ⊢
    rw [hM]
    have n1 : (F == 0) = false := by rw [beq_eq_false_iff_ne]; exact h1
    have n2 : (F != 0) = true := by simpa using h1
    clear hF hN hM h1 zp zs
    go_enter Tryz.func39, Tryz.ntmps39
    go_wp2_with fail
    refine (unhide CBA _ hs).mono ?_
    rintro e w1 ⟨rfl, hb1⟩
    go_wp2
    go_ret
    exact unhide HP _ hb1

end Go.Proofs.YtjojeifoddonnakGreatDoor.Frm
