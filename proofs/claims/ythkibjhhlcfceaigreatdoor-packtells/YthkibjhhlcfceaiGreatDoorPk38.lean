/-
  hornref2.Frame: by its contract.
-/
import Derived.Test.YthkibjhhlcfceaiGreatDoorPk36
import Derived.Test.YthkibjhhlcfceaiGreatDoorPk17
import Derived.Test.YthkibjhhlcfceaiGreatDoorPk37
import Derived.Test.YthkibjhhlcfceaiGreatDoorPk16
import Derived.Test.YthkibjhhlcfceaiGreatDoorPk35
import Derived.Test.YthkibjhhlcfceaiGreatDoorPk01
import Derived.Test.YthkibjhhlcfceaiGreatDoorPk03
import Derived.Deep.QuietTactic
import Derived.BigQuiet
namespace Go.Proofs.YthkibjhhlcfceaiGreatDoor.Frm
open Go.RowKit
open Go.Proofs.YthkibjhhlcfceaiGreatDoor.Tre Go.Proofs.YthkibjhhlcfceaiGreatDoor.Bnd Go.Proofs.YthkibjhhlcfceaiGreatDoor.Pls Go.Proofs.YthkibjhhlcfceaiGreatDoor.Gai Go.Proofs.YthkibjhhlcfceaiGreatDoor.Shr
set_option linter.unusedVariables false

/-- What Frame answers. -/
def FrmPost (ps : List Prt) (s : List Int) (B : Int) (w : World) (e : Ending) (w' : World) : Prop := ∃ E, e = .returned (.int .i64 E) ∧ FrmF ps s B E ∧ Below w.heap.size w w'

set_option maxRecDepth 100000 in
set_option maxHeartbeats 8000000 in
theorem refFrame_ok (a : Option Addr) (cap : Nat) (ps : List Prt) (b : Option Addr) (capb : Nat) (s : List Int) (B : Int) (w : World) (hp : Pts w a ps) (hs : Row w b s) (h1 : Hid (bf s = 0)) (h2 : Hid (ps.length = s.length)) :
    Calls Tryz.prog 9 #[.slice a ps.length cap, .slice b s.length capb, .int .i64 B] w fun e w' => FrmPost ps s B w e w' := by
  obtain ⟨n0, n8, hsz, n32⟩ := bf_ok (unhide h1)
  have HSZ := hide hsz
  have CBA := hide (fun W h => refBands_ok b capb s W (by omega) h h1)
  have HP3 : Hid (¬ Fits ps s → ∀ w', Below w.heap.size w w' → FrmPost ps s B w (.returned (.int .i64 3)) w') := hide (fun h w' hb => ⟨3, rfl, frm_fit (unhide h1) (unhide h2) h, hb⟩)
  have HP1 : Hid (Fits ps s → oneF ps ≠ 0 → ∀ F, oneF ps = F → ∀ w', Below w.heap.size w w' → FrmPost ps s B w (.returned (.int .i64 F)) w') := hide (fun h h' F hF w' hb => ⟨F, rfl, by rw [← hF]; exact frm_one (unhide h1) (unhide h2) h h', hb⟩)
  have HPB : Hid (Fits ps s → oneF ps = 0 → ¬ (0 ≤ B ∧ B ≤ 400) → ∀ w', Below w.heap.size w w' → FrmPost ps s B w (.returned (.int .i64 1)) w') := hide (fun h h' h5 w' hb => ⟨1, rfl, frm_bits (unhide h1) (unhide h2) h h' h5, hb⟩)
  have HPG : Hid (Fits ps s → oneF ps = 0 → (0 ≤ B ∧ B ≤ 400) → ¬ Gets ps (given (gns ps) s B) → ∀ w', Below w.heap.size w w' → FrmPost ps s B w (.returned (.int .i64 3)) w') := hide (fun h h' h5 h6 w' hb => ⟨3, rfl, frm_gets (unhide h1) (unhide h2) h h' h5 h6, hb⟩)
  have HP0 : Hid (Fits ps s → oneF ps = 0 → (0 ≤ B ∧ B ≤ 400) → Gets ps (given (gns ps) s B) → ∀ w', Below w.heap.size w w' → FrmPost ps s B w (.returned (.int .i64 0)) w') := hide (fun h h' h5 h6 w' hb => ⟨0, rfl, frm_ok (unhide h1) (unhide h2) h h' h5 h6, hb⟩)
  have CGV := hide (fun W hg h5 hp hr => refGiven a cap ps b capb s B W hp hr (by omega) n8 (unhide h2) HSZ hg (And.left h5) (And.right h5))
  have HGL : Hid (0 ≤ B → (given (gns ps) s B).length = s.length) := hide (fun hB => by unfold given; exact (share_is (d := vals (gns ps)) hsz n8 hB).1.len)
  have HD0 : Hid (oneF (ps.drop 0) = oneF ps) := hide (by rw [List.drop_zero])
  obtain ⟨TT, hTT⟩ : ∃ TT, total s = TT := ⟨_, rfl⟩
  rw [hTT] at CBA
  obtain ⟨N, hN⟩ : ∃ N, s.length = N := ⟨_, rfl⟩
  have HN := hide hN
  have HPN : Hid (ps.length = N) := hide ((unhide h2).trans hN)
  rw [hN] at CBA CGV HGL n8 n0
  rw [unhide HPN] at CGV
  rw [unhide h2, hN]
  have hNN : ((N : Int) == (N : Int)) = true := by simp
  clear hTT hN hsz n32 h1 h2 HSZ
  go_enter Tryz.func9, Tryz.ntmps9
  go_wp2_with fail
  refine (unhide CBA _ hs).mono ?_
  rintro e w1 ⟨rfl, hb1⟩
  clear CBA
  go_wp2
  go_loopw [9] (fun i wr => ∃ k : Nat, k ≤ N ∧ i = .int .i64 k ∧ Hid (∀ r, r < k → ((prt ps r).2.length : Int) = at0 s r) ∧ Below w.heap.size w wr) (fun i _ => N - (intOf i).toNat)
  case atStart => exact ⟨0, Nat.zero_le _, rfl, hide (fun r hr => by omega), hb1⟩
  case round =>
    obtain ⟨k, hk, rfl, HF, hB⟩ := hrel
    clear hb1
    by_cases hlt : k < N
    · have hlt1 : k < ps.length := by rw [unhide HPN]; exact hlt
      have hlt2 : k < s.length := by rw [unhide HN]; exact hlt
      obtain ⟨b1, off1, rfl, _, hc1⟩ := (hp.below hB).at hlt1
      obtain ⟨-, A, C, x2, x3, x4, x5, x6⟩ := hc1 k hlt1
      obtain ⟨b2, off2, rfl, _, hc2⟩ := cell_at (hs.below hB) (by omega)
      have c2 := hc2 k hlt2
      obtain ⟨L, hL⟩ : ∃ L, (prt ps k).2.length = L := ⟨_, rfl⟩
      obtain ⟨X, hX⟩ : ∃ X, at0 s k = X := ⟨_, rfl⟩
      rw [hL] at x2
      rw [hX] at c2
      have HLX : Hid ((prt ps k).2.length = L ∧ at0 s k = X) := hide ⟨hL, hX⟩
      clear hc1 hc2 hL hX hlt2 x3 x4 x5 x6
      by_cases he : (L : Int) = X
      · have HF2 : Hid (∀ r, r < k + 1 → ((prt ps r).2.length : Int) = at0 s r) := hide (fun r hr => by
          by_cases e : r = k
          · rw [e, (unhide HLX).1, (unhide HLX).2]; exact he
          · exact unhide HF r (by omega))
        have n1 : ((L : Int) == X) = true := by rw [he]; simp
        have n2 : ((L : Int) != X) = false := by rw [he]; simp
        clear HF he HLX
        go_wp2
        go_quiet (fail)
        go_wp2
        go_roundw
        case rel => exact ⟨k + 1, by omega, by go_num, HF2, hB.trans ⟨rfl, rfl, rfl, Nat.le_refl _, fun _ _ => rfl⟩⟩
        case measure => simp [intOf]; omega
      · have HNF : Hid (¬ Fits ps s) := hide (fun h => he (by rw [← (unhide HLX).1, ← (unhide HLX).2]; exact h k hlt1))
        have n1 : ((L : Int) == X) = false := by rw [beq_eq_false_iff_ne]; exact he
        have n2 : ((L : Int) != X) = true := by simpa using he
        have HP := hide (unhide HP3 (unhide HNF))
        clear HF he HLX HNF HP3 HP1 HPB HPG HP0
        go_wp2
        go_quiet (fail)
        go_wp2
        go_ret
        exact unhide HP _ (hB.trans ⟨rfl, rfl, rfl, Nat.le_refl _, fun _ _ => rfl⟩)
    · obtain rfl : k = N := by omega
      have HFT : Hid (Fits ps s) := hide (fun r hr => unhide HF r (by rw [← unhide HPN]; exact hr))
      have HP1' := hide (unhide HP1 (unhide HFT))
      have HPB' := hide (unhide HPB (unhide HFT))
      have HPG' := hide (unhide HPG (unhide HFT))
      have HP0' := hide (unhide HP0 (unhide HFT))
      clear HF HFT HP3 HP1 HPB HPG HP0
      go_wp2
      go_loopw [10] (fun i wq => ∃ j : Nat, j ≤ k ∧ i = .int .i64 j ∧ Hid (oneF (ps.drop j) = oneF ps) ∧ wr = wq) (fun i _ => k - (intOf i).toNat)
      case atStart => exact ⟨0, Nat.zero_le _, rfl, HD0, rfl⟩
      case round =>
        obtain ⟨j, hj, rfl, HO, rfl⟩ := hrel
        clear HD0
        by_cases hlt : j < k
        · have hlt1 : j < ps.length := by rw [unhide HPN]; exact hlt
          obtain ⟨b1, off1, rfl, _, hc1⟩ := (hp.below hB).at hlt1
          obtain ⟨x1, A, C, x2, x3, x4, x5, x6⟩ := hc1 j hlt1
          have HST : Hid (oneF ps = if gok (prt ps j).1 = true then (if fault (prt ps j).2 = 0 then oneF (ps.drop (j + 1)) else fault (prt ps j).2) else 1) := hide (by rw [← unhide HO, drop_prt hlt1, oneF])
          have CV := refValue (prt ps j).1 wr
          obtain ⟨G, hG⟩ : ∃ G, (prt ps j).1 = G := ⟨_, rfl⟩
          obtain ⟨pl, hpl⟩ : ∃ pl, (prt ps j).2 = pl := ⟨_, rfl⟩
          rw [hG] at x1 HST CV
          rw [hpl] at x2 x4 x6 HST
          obtain ⟨L, hL⟩ : ∃ L, pl.length = L := ⟨_, rfl⟩
          obtain ⟨V, hV⟩ : ∃ V, vlN G = V := ⟨_, rfl⟩
          rw [hV] at CV
          clear hc1 hlt1 hG hpl hV HO x3
          cases hg : gok G with
          | false =>
            have HP := hide (unhide HP1' (by rw [unhide HST, if_neg (by rw [hg]; simp)]; omega) 1 (by rw [unhide HST, if_neg (by rw [hg]; simp)]) wr hB)
            rw [hg] at CV
            rw [hL] at x2
            clear HST hL HP1' HPB' HPG' HP0' hg x6
            go_wp2_with fail
            refine CV.mono ?_
            rintro e w3 ⟨rfl, hw3⟩
            obtain rfl : wr = w3 := hw3
            go_wp2
            go_ret
            exact unhide HP
          | true =>
            have HST2 : Hid (oneF ps = if fault pl = 0 then oneF (ps.drop (j + 1)) else fault pl) := hide (by rw [unhide HST, if_pos hg])
            rw [hg] at CV
            clear HST hg
            by_cases hf : fault pl = 0
            · have HO2 : Hid (oneF (ps.drop (j + 1)) = oneF ps) := hide (by rw [unhide HST2, if_pos hf])
              have CP := refPulses_ok A C pl wr x6 (hide hf)
              obtain ⟨Z, hZ⟩ : ∃ Z, loud pl = Z := ⟨_, rfl⟩
              rw [hZ] at CP
              rw [hL] at x2 CP
              clear HST2 hf hZ hL x6 x4
              go_wp2_with fail
              refine CV.mono ?_
              rintro e w3 ⟨rfl, hw3⟩
              obtain rfl : wr = w3 := hw3
              clear CV
              go_wp2_with fail
              refine CP.mono ?_
              rintro e w3 ⟨rfl, hw3⟩
              obtain rfl : wr = w3 := hw3
              clear CP
              go_wp2
              go_roundw
              case rel => exact ⟨j + 1, by omega, by go_num, HO2, by first | trivial | rfl⟩
              case measure => simp [intOf]; omega
            · have HOF : Hid (oneF ps = fault pl) := hide (by rw [unhide HST2, if_neg hf])
              have CP := refPulses_no A C pl wr (by omega) x6 (hide hf)
              have HP := hide (unhide HP1' (by rw [unhide HOF]; exact hf) _ (unhide HOF) wr hB)
              obtain ⟨F, hF⟩ : ∃ F, fault pl = F := ⟨_, rfl⟩
              rw [hF] at CP HP hf
              have n1 : (F == 0) = false := by rw [beq_eq_false_iff_ne]; exact hf
              have n2 : (F != 0) = true := by simpa using hf
              rw [hL] at x2 CP
              clear HST2 HOF hf hF hL x6 x4 HP1' HPB' HPG' HP0'
              go_wp2_with fail
              refine CV.mono ?_
              rintro e w3 ⟨rfl, hw3⟩
              obtain rfl : wr = w3 := hw3
              clear CV
              go_wp2_with fail
              refine CP.mono ?_
              rintro e w3 ⟨rfl, hw3⟩
              obtain rfl : wr = w3 := hw3
              clear CP
              go_wp2
              go_ret
              exact unhide HP
        · obtain rfl : j = k := by omega
          have HO0 : Hid (oneF ps = 0) := hide (by rw [← unhide HO, ← unhide HPN, List.drop_length]; rfl)
          have HPB2 := hide (unhide HPB' (unhide HO0))
          have HPG2 := hide (unhide HPG' (unhide HO0))
          have HP02 := hide (unhide HP0' (unhide HO0))
          have HOZ := hide (oneF_zero (unhide HO0))
          clear HO HO0 HP1' HPB' HPG' HP0'
          by_cases hb1 : B < 0
          · have d1 : decide (B < 0) = true := by simpa using hb1
            have HP := hide (unhide HPB2 (by omega) wr hB)
            clear HPB2 HPG2 HP02
            go_wp2
            go_ret
            exact unhide HP
          · have d1 : decide (B < 0) = false := by simpa using hb1
            by_cases hb2 : 400 < B
            · have d2 : decide (400 < B) = true := by simpa using hb2
              have HP := hide (unhide HPB2 (by omega) wr hB)
              clear HPB2 HPG2 HP02
              go_wp2
              go_ret
              exact unhide HP
            · have d2 : decide (400 < B) = false := by simpa using hb2
              have h5 : 0 ≤ B ∧ B ≤ 400 := by omega
              have HPG3 := hide (unhide HPG2 h5)
              have HP03 := hide (unhide HP02 h5)
              have CG := unhide CGV wr (hide (fun i hi => (unhide HOZ i (by rw [unhide HPN]; exact hi)).1)) h5 (hp.below hB) (hs.below hB)
              have HGL2 := hide (unhide HGL (by omega))
              obtain ⟨gv, hgv⟩ : ∃ gv, given (gns ps) s B = gv := ⟨_, rfl⟩
              rw [hgv] at CG HPG3 HP03 HGL2
              clear hgv HPB2 HPG2 HP02 CGV HGL h5
              go_wp2_with fail
              refine CG.mono ?_
              rintro e w4 ⟨v4, rfl, k4, hb4⟩
              clear CG
              have hB4 := Below.chain hB hb4
              obtain ⟨g4, c4, rfl, hg4, hg5, -, -⟩ := k4.one (by rw [unhide HGL2]; exact n0)
              rw [unhide HGL2] at k4 ⊢
              clear hB hb4
              go_wp2
              go_loopw [14] (fun i wq => ∃ m : Nat, m ≤ j ∧ i = .int .i64 m ∧ Hid (∀ r, r < m → (loud (prt ps r).2 : Int) = at0 gv r) ∧ Has wq wr.heap.size (.slice (some ⟨g4, 0, none⟩) j c4) gv ∧ Below w.heap.size w wq) (fun i _ => j - (intOf i).toNat)
              case atStart => exact ⟨0, Nat.zero_le _, rfl, hide (fun r hr => by omega), k4, hB4⟩
              case round =>
                clear k4 hB4
                rename World => wq
                obtain ⟨m, hm, rfl, HG, k4, hB4⟩ := hrel
                by_cases hlt : m < j
                · have hlt1 : m < ps.length := by rw [unhide HPN]; exact hlt
                  obtain ⟨b1, off1, rfl, _, hc1⟩ := (hp.below hB4).at hlt1
                  obtain ⟨-, A, C, x2, x3, x4, x5, x6⟩ := hc1 m hlt1
                  have hok := (unhide HOZ m hlt1).2
                  obtain ⟨f1, f2, f3⟩ := fault_ok hok
                  have ck := k4.get (j := m) (by rw [unhide HGL2]; exact hlt)
                  have CL : Hid (∀ x, Calls Tryz.prog 23 #[.slice A (prt ps m).2.length C] (wq.drewN x) fun e w' => e = .returned (.int .i64 (loud (prt ps m).2 : Int)) ∧ ∃ n, w' = wq.drewN n) := hide (fun x => (refLoud A C (prt ps m).2 (wq.drewN x) (by omega) (f2.mono (by omega)) (x6.below (⟨rfl, rfl, rfl, Nat.le_refl _, fun _ _ => rfl⟩ : Below wq.heap.size wq (wq.drewN x)))).mono fun e w' ⟨he, hw⟩ => ⟨he, x, hw.symm⟩)
                  obtain ⟨Z, hZ⟩ : ∃ Z, loud (prt ps m).2 = Z := ⟨_, rfl⟩
                  have HZ := hide hZ
                  obtain ⟨K, hK⟩ : ∃ K, at0 gv m = K := ⟨_, rfl⟩
                  have HK := hide hK
                  rw [hZ] at CL
                  rw [hK] at ck
                  obtain ⟨L, hL⟩ : ∃ L, (prt ps m).2.length = L := ⟨_, rfl⟩
                  rw [hL] at x2 CL
                  clear hc1 hZ hK hL hok f1 f2 f3 x3 x4 x5 x6
                  by_cases he : (Z : Int) = K
                  · have HG2 : Hid (∀ r, r < m + 1 → (loud (prt ps r).2 : Int) = at0 gv r) := hide (fun r hr => by
                      by_cases e : r = m
                      · rw [e, unhide HZ, unhide HK]; exact he
                      · exact unhide HG r (by omega))
                    have n1 : ((Z : Int) == K) = true := by rw [he]; simp
                    have n2 : ((Z : Int) != K) = false := by rw [he]; simp
                    clear HG he HZ HK
                    go_wp2
                    go_quiet ((go_at_call 23; exact unhide CL _))
                    go_wp2
                    go_roundw
                    case rel => exact ⟨m + 1, by omega, by go_num, HG2, k4, hB4.trans ⟨rfl, rfl, rfl, Nat.le_refl _, fun _ _ => rfl⟩⟩
                    case measure => simp [intOf]; omega
                  · have HNG : Hid (¬ Gets ps gv) := hide (fun h => he (by rw [← unhide HZ, ← unhide HK]; exact h m hlt1))
                    have n1 : ((Z : Int) == K) = false := by rw [beq_eq_false_iff_ne]; exact he
                    have n2 : ((Z : Int) != K) = true := by simpa using he
                    have HP := hide (unhide HPG3 (unhide HNG))
                    clear HG he HZ HK HNG HPG3 HP03
                    go_wp2
                    go_quiet ((go_at_call 23; exact unhide CL _))
                    go_wp2
                    go_ret
                    exact unhide HP _ (hB4.trans ⟨rfl, rfl, rfl, Nat.le_refl _, fun _ _ => rfl⟩)
                · obtain rfl : m = j := by omega
                  have HP := hide (unhide HP03 (fun r hr => unhide HG r (by rw [← unhide HPN]; exact hr)) wq hB4)
                  clear HG HPG3 HP03
                  go_wp2
                  go_ret
                  exact unhide HP

set_option maxRecDepth 100000 in
set_option maxHeartbeats 4000000 in
theorem refFrame (a : Option Addr) (cap : Nat) (ps : List Prt) (b : Option Addr) (capb : Nat) (s : List Int) (B : Int) (w : World) (hp : Pts w a ps) (hs : Row w b s) (zp : ps.length ≤ 9223372036854775807) (zs : s.length ≤ 9223372036854775807) :
    Calls Tryz.prog 9 #[.slice a ps.length cap, .slice b s.length capb, .int .i64 B] w fun e w' => FrmPost ps s B w e w' := by
  by_cases h1 : bf s = 0
  · by_cases h2 : ps.length = s.length
    · exact refFrame_ok a cap ps b capb s B w hp hs (hide h1) (hide h2)
    · have CBA := hide (fun W h => refBands_ok b capb s W zs h (hide h1))
      have HP : Hid (∀ w', Below w.heap.size w w' → FrmPost ps s B w (.returned (.int .i64 3)) w') := hide (fun w' hb => ⟨3, rfl, frm_len h1 h2, hb⟩)
      obtain ⟨TT, hTT⟩ : ∃ TT, total s = TT := ⟨_, rfl⟩
      obtain ⟨N, hN⟩ : ∃ N, s.length = N := ⟨_, rfl⟩
      obtain ⟨M, hM⟩ : ∃ M, ps.length = M := ⟨_, rfl⟩
      rw [hTT] at CBA
      rw [hM, hN] at h2
      rw [hN] at CBA ⊢
      rw [hM]
      have n1 : ((M : Int) == (N : Int)) = false := by rw [beq_eq_false_iff_ne]; omega
      have n2 : ((M : Int) != (N : Int)) = true := by simp; omega
      have n3 : (M == N) = false := by rw [beq_eq_false_iff_ne]; omega
      clear hTT hN hM h1 h2 zp zs
      go_enter Tryz.func9, Tryz.ntmps9
      go_wp2_with fail
      refine (unhide CBA _ hs).mono ?_
      rintro e w1 ⟨rfl, hb1⟩
      go_wp2
      go_ret
      exact unhide HP _ hb1
  · have CBA := hide (fun W h => refBands_no b capb s W zs h (hide h1))
    have HP : Hid (∀ w', Below w.heap.size w w' → FrmPost ps s B w (.returned (.int .i64 (bf s))) w') := hide (fun w' hb => ⟨_, rfl, frm_bf h1, hb⟩)
    obtain ⟨F, hF⟩ : ∃ F, bf s = F := ⟨_, rfl⟩
    obtain ⟨N, hN⟩ : ∃ N, s.length = N := ⟨_, rfl⟩
    obtain ⟨M, hM⟩ : ∃ M, ps.length = M := ⟨_, rfl⟩
    rw [hF] at CBA HP h1
    rw [hN] at CBA ⊢
    rw [hM]
    have n1 : (F == 0) = false := by rw [beq_eq_false_iff_ne]; exact h1
    have n2 : (F != 0) = true := by simpa using h1
    clear hF hN hM h1 zp zs
    go_enter Tryz.func9, Tryz.ntmps9
    go_wp2_with fail
    refine (unhide CBA _ hs).mono ?_
    rintro e w1 ⟨rfl, hb1⟩
    go_wp2
    go_ret
    exact unhide HP _ hb1

end Go.Proofs.YthkibjhhlcfceaiGreatDoor.Frm

/-
  hornref1's Rank and Row: by their contracts.
-/
namespace Go.Proofs.YthkibjhhlcfceaiGreatDoor.Pls
open Go.RowKit
open Go.Proofs.YthkibjhhlcfceaiGreatDoor.Tre Go.Proofs.YthkibjhhlcfceaiGreatDoor.Cnt Go.Proofs.YthkibjhhlcfceaiGreatDoor.Mid
set_option linter.unusedVariables false

set_option maxRecDepth 100000 in
set_option maxHeartbeats 8000000 in
theorem refRank (l : List Int) : ∀ (a : Option Addr) (cap : Nat) (w : World), l.length ≤ 6 → loud l ≤ 8 → l.length ≤ cap → cap ≤ 9223372036854775807 → Row w a l →
    Calls Tryz.prog 45 #[.slice a l.length cap] w fun e w' => e = .returned (.int .i64 (rk l (loud l))) ∧ Below w.heap.size w w' := by
  induction l with
  | nil =>
    intro a cap w _ _ _ _ _
    go_enter Tryz.func45, Tryz.ntmps45
    go_wp2
    go_ret
    exact ⟨rfl, Below.refl _ _⟩
  | cons x r ih =>
    intro a cap w hl hk hcap hc9 hr
    have hlo := hide (refLoud a cap (x :: r) w (by omega) (loud_all (by omega)) hr)
    obtain ⟨b, off, rfl, hb, hc⟩ := row_cell hr (by simp)
    have hcx : w.cell? ⟨b, off, none⟩ = some (.int .i64 x) := hc 0 (by simp)
    have HX : Hid (∀ w' : World, Below w.heap.size w w' → w'.cell? ⟨b, off, none⟩ = some (.int .i64 x)) := hide (fun w' hB' => (hB'.cell (p := ⟨b, off, none⟩) hb).trans hcx)
    have hd : Row w (some ⟨b, off + 1, none⟩) r := hr.drop 1
    have hloud : loud (x :: r) = x.natAbs + loud r := rfl
    have hin := rk_in (x :: r) hl hk
    have hV := (V_in (loud (x :: r)) (x :: r).length (by omega) (by omega)).2
    have hin2 := rk_in r (by simp at hl; omega) (by omega)
    have HR : Hid (rk (x :: r) (loud (x :: r)) = ahead r.length (loud (x :: r)) (x + (loud (x :: r) : Int)).toNat + rk r (loud r)) := hide (by
      simp only [rk]
      rw [show loud (x :: r) - x.natAbs = loud r by omega])
    obtain ⟨K, hK⟩ : ∃ K, loud (x :: r) = K := ⟨_, rfl⟩
    obtain ⟨M, hM⟩ : ∃ M, (x :: r).length = M := ⟨_, rfl⟩
    obtain ⟨m, hm⟩ : ∃ m, r.length = m := ⟨_, rfl⟩
    have hMm : M = m + 1 := by rw [← hM, ← hm]; rfl
    rw [hK] at hlo hloud hk hin hV HR ⊢
    rw [hM] at hlo hl hcap hin hV ⊢
    rw [hm] at HR
    have hih := fun a' cap' w' h1 h2 h3 => ih a' cap' w' (by omega) (by omega) h1 h2 h3
    rw [hm] at hih
    have HI := hide hih
    obtain ⟨P, hP⟩ : ∃ P, rk r (loud r) = P := ⟨_, rfl⟩
    rw [hP] at HI hin2 HR
    obtain ⟨S, hS⟩ : ∃ S, (x + (K : Int)).toNat = S := ⟨_, rfl⟩
    rw [hS] at HR
    have hxS : x = (S : Int) - (K : Int) := by omega
    have hS2 : S ≤ 2 * K := by omega
    have hM1 : (M : Int) - 1 = (m : Int) := by omega
    have hM1' : M - 1 = m := by omega
    have hm5 : m ≤ 5 := by omega
    have hP9 : 0 ≤ P ∧ P ≤ 20256 := by have := unhide HR; have := ahead_in (m := m) (L := K) (s := S) (by omega) (by omega) (by omega); omega
    obtain ⟨P0, P9⟩ := hP9
    have hM0 : ((M : Int) == 0) = false := by simp; omega
    have h1M : (1 : Int) ≤ M := by omega
    have hx0 : -(K : Int) ≤ x := by omega
    have hx1 : x ≤ (K : Int) := by omega
    have HM1 := hide hM1'
    have hcap1 : 1 ≤ cap := by omega
    have hcm : m ≤ cap - 1 := by omega
    have hr1 : Hid (cap = 1 → r = []) := hide (fun e => List.eq_nil_of_length_eq_zero (by omega))
    have HXS := hide hxS
    clear hK hM hm hP hS hih ih hin hin2 hV hloud hc hcx hr hMm hxS hM1'
    go_enter Tryz.func45, Tryz.ntmps45
    go_wp2_with fail
    refine (unhide hlo).mono ?_
    clear hlo
    rintro e w1 ⟨rfl, rfl⟩
    go_wp2
    go_loopw [4, 5] (fun v4 v5 wr => ∃ (s : Nat) (A X : Int), s ≤ S ∧ v5 = .int .i64 X ∧ X = (s : Int) - (K : Int) ∧ v4 = .int .i64 A ∧ Hid (A = ahead m K s) ∧ Below w.heap.size w wr) (fun _ v _ => ((S : Int) - (K : Int) - intOf v).toNat)
    case atStart => exact ⟨0, 0, -(K : Int), Nat.zero_le _, by go_num, by omega, rfl, rfl, Below.refl _ _⟩
    case round =>
      obtain ⟨s, A, X, hs, rfl, hX, rfl, HA, hB⟩ := hrel
      have hai := ahead_in (m := m) (L := K) (s := s) (by omega) (by omega) (by omega)
      rw [← unhide HA] at hai
      obtain ⟨A0, A9⟩ := hai
      have hcx := unhide HX wr hB
      have hxS := unhide HXS
      by_cases hlt : s < S
      · have hXx : X < x := by omega
        have hx2 : X + 1 = ((s + 1 : Nat) : Int) - (K : Int) := by omega
        obtain ⟨r0, r1⟩ := rows_in (m := m) (L := K) (s := s) (by omega) (by omega)
        have hfar := hide (refFar X wr (by omega) (by omega))
        have HQ : Hid (rows m K s = V (K - X.natAbs) m) := hide (by rw [hX]; rfl)
        have HS : Hid (A + rows m K s = ahead m K (s + 1)) := hide (by rw [ahead_succ, unhide HA])
        obtain ⟨D, hD⟩ : ∃ D, X.natAbs = D := ⟨_, rfl⟩
        rw [hD] at hfar HQ
        obtain ⟨J, hJ⟩ : ∃ J, K - D = J := ⟨_, rfl⟩
        rw [hJ] at HQ
        have hsub : (K : Int) - (D : Int) = (J : Int) := by omega
        have hJ8 : J ≤ 8 := by omega
        have hcnt := hide (refCount m J (by omega) hJ8 wr)
        rw [← unhide HQ] at hcnt
        obtain ⟨Q, hQ⟩ : ∃ Q, rows m K s = Q := ⟨_, rfl⟩
        rw [hQ] at hcnt HS r0 r1
        have hX0 : -8 ≤ X := by omega
        have hX8 : X ≤ 8 := by omega
        have HX2 := hide hx2
        clear hQ HQ hD hJ HA hx2
        have HXe := hide hX
        clear hX hxS
        go_wp2_with fail
        refine (unhide hfar).mono ?_
        rintro e w2 ⟨rfl, rfl⟩
        go_wp2_with fail
        refine (unhide hcnt).mono ?_
        rintro e w3 ⟨rfl, hb3⟩
        go_wp2
        go_roundw
        case rel => exact ⟨s + 1, A + Q, X + 1, by omega, by go_num, unhide HX2, by go_num, HS, hB.trans (hb3.mono hB.size)⟩
        case measure => have := unhide HXe; have := unhide HXS; simp [intOf]; omega
      · obtain rfl : s = S := by omega
        have hXx : X = x := by omega
        subst hXx
        have hrd := hd.below hB
        have HE : Hid (A + P = rk (X :: r) K) := hide (by rw [unhide HR, unhide HA])
        have hend : ∀ (a' : Option Addr) (cap' : Nat), m ≤ cap' → cap' ≤ 9223372036854775807 → Row wr a' r → Calls Tryz.prog 45 #[.slice a' m cap'] wr fun e w' => e = .returned (.int .i64 P) ∧ Below wr.heap.size wr w' := fun a' cap' h1 h2 h3 => unhide HI a' cap' wr h1 h2 h3
        have HN := hide hend
        have HXe := hide hX
        clear hend HI HR HA hX hxS
        by_cases hc1 : cap = 1
        · subst hc1
          obtain rfl := unhide hr1 rfl
          obtain rfl : m = 0 := by omega
          go_wp2_with fail
          refine (unhide HN _ 0 (Nat.le_refl _) (by omega) (Or.inl rfl)).mono ?_
          rintro e w4 ⟨rfl, hb4⟩
          go_wp2
          go_ret
          exact ⟨ret_int (unhide HE), hB.trans (hb4.mono hB.size)⟩
        · go_wp2_with fail
          rw [unhide HM1]
          refine (unhide HN _ (cap - 1) hcm (by omega) hrd).mono ?_
          rintro e w4 ⟨rfl, hb4⟩
          go_wp2
          go_ret
          exact ⟨ret_int (unhide HE), hB.trans (hb4.mono hB.size)⟩

set_option maxRecDepth 100000 in
set_option maxHeartbeats 8000000 in
theorem refRow (n : Nat) : ∀ (k : Nat) (r : Int) (w : World), n ≤ 6 → k ≤ 8 → 0 ≤ r → Hid (r < V k n) →
    Calls Tryz.prog 58 #[.int .i64 n, .int .i64 k, .int .i64 r] w fun e w' => ∃ v l, e = .returned v ∧ Has w' w.heap.size v l ∧ Hid (Is n k r l) ∧ Below w.heap.size w w' := by
  induction n with
  | zero =>
    intro k r w hn hk h0 h1
    have HI : Hid (Is 0 k r []) := hide ((wants_all 0 k r).done rfl hk h0 (unhide h1))
    go_enter Tryz.func58, Tryz.ntmps58
    go_wp2
    go_ret
    exact ⟨_, [], rfl, Has.nil _ _, HI, Below.refl _ _⟩
  | succ n ih =>
    intro k r w hn hk h0 h1
    have hr9 : r ≤ 20256 := by have h2 := unhide h1; have h3 := (V_in k (n + 1) (by omega) (by omega)).2; omega
    have HI := hide ih
    obtain ⟨N, hN⟩ : ∃ N : Int, N = ((n + 1 : Nat) : Int) := ⟨_, rfl⟩
    rw [← hN]
    have hN1 : N - 1 = (n : Int) := by omega
    have hN2 : (N == 0) = false := by simp; omega
    have hN0 : 0 ≤ N := by omega
    have hN9 : N ≤ 6 := by omega
    have hn5 : n ≤ 5 := by omega
    clear hN ih hn
    have hfar0 := hide (refFar (-(k : Int)) w (by omega) (by omega))
    rw [show (-(k : Int)).natAbs = k by omega] at hfar0
    have hkk : (k : Int) - (k : Int) = 0 := by omega
    have hcnt0 := hide (refCount n 0 (by omega) (by omega) w)
    rw [← show rows n k 0 = V 0 n by rw [rows_first, V_zero]] at hcnt0
    obtain ⟨Q0, hQ0⟩ : ∃ Q, rows n k 0 = Q := ⟨_, rfl⟩
    rw [hQ0] at hcnt0
    have HQ0 := hide hQ0.symm
    clear hQ0
    go_enter Tryz.func58, Tryz.ntmps58
    go_wp2_with fail
    refine (unhide hfar0).mono ?_
    rintro e w1 ⟨rfl, rfl⟩
    go_wp2_with fail
    refine (unhide hcnt0).mono ?_
    rintro e w1 ⟨rfl, hb1⟩
    clear hfar0 hcnt0
    go_wp2
    go_loopw [2, 7, 8] (fun v2 v7 v8 wr => ∃ (s : Nat) (A X Q : Int), s ≤ 2 * k ∧ v7 = .int .i64 X ∧ Hid (X = (s : Int) - (k : Int)) ∧ v2 = .int .i64 A ∧ Hid (A = r - ahead n k s) ∧ 0 ≤ A ∧ v8 = .int .i64 Q ∧ Hid (Q = rows n k s) ∧ Below w.heap.size w wr) (fun _ v _ _ => ((k : Int) - intOf v).toNat)
    case atStart => exact ⟨0, r, -(k : Int), Q0, Nat.zero_le _, by go_num, hide (by omega), rfl, hide (by rw [ahead_zero]; omega), h0, rfl, HQ0, hb1⟩
    case round =>
      obtain ⟨s, A, X, Q, hs, rfl, HX, rfl, HA, hA0, rfl, HQ, hB⟩ := hrel
      clear hb1 HQ0
      have hA9 : A ≤ 20256 := by have h2 := (ahead_in (m := n) (L := k) (s := s) (by omega) (by omega) (by omega)).1; have h3 := unhide HA; omega
      have hq := rows_in (m := n) (L := k) (s := s) (by omega) (by omega)
      rw [← unhide HQ] at hq
      obtain ⟨q0, q9⟩ := hq
      have hX0 : -(k : Int) ≤ X := by have := unhide HX; omega
      have hX1 : X ≤ (k : Int) := by have := unhide HX; omega
      have hfarX := hide (fun W => refFar X W (by omega) (by omega))
      obtain ⟨D, hD⟩ : ∃ D, X.natAbs = D := ⟨_, rfl⟩
      obtain ⟨J, hJ⟩ : ∃ J, k - D = J := ⟨_, rfl⟩
      by_cases hge : Q ≤ A
      · have hs2 : s < 2 * k := by
          rcases Nat.lt_or_ge s (2 * k) with h | h
          · exact h
          · obtain rfl : s = 2 * k := by omega
            have h2 := ahead_all (m := n) (L := k) (by omega) (by omega)
            rw [ahead_succ] at h2
            have h3 := unhide h1
            have h4 := unhide HA
            have h5 := unhide HQ
            omega
        have hX2 : X + 1 ≤ (k : Int) := by have := unhide HX; omega
        have hfar := hide (refFar (X + 1) wr (by omega) (by omega))
        have HX2 : Hid (X + 1 = ((s + 1 : Nat) : Int) - (k : Int)) := hide (by have := unhide HX; omega)
        have HA2 : Hid (A - Q = r - ahead n k (s + 1)) := hide (by rw [ahead_succ, unhide HA, unhide HQ]; omega)
        have HQ2 : Hid (rows n k (s + 1) = V (k - (X + 1).natAbs) n) := hide (by rw [unhide HX2]; rfl)
        obtain ⟨D', hD'⟩ : ∃ D', (X + 1).natAbs = D' := ⟨_, rfl⟩
        rw [hD'] at hfar HQ2
        obtain ⟨J', hJ'⟩ : ∃ J', k - D' = J' := ⟨_, rfl⟩
        rw [hJ'] at HQ2
        have hsub : (k : Int) - (D' : Int) = (J' : Int) := by omega
        have hJ8 : J' ≤ 8 := by omega
        have hcnt := hide (refCount n J' (by omega) hJ8 wr)
        rw [← unhide HQ2] at hcnt
        obtain ⟨Q', hQ'⟩ : ∃ Q', rows n k (s + 1) = Q' := ⟨_, rfl⟩
        rw [hQ'] at hcnt
        have HQ' := hide hQ'.symm
        clear hQ' HQ2 hD' hJ' hD hJ hfarX HA HQ
        go_wp2_with fail
        refine (unhide hfar).mono ?_
        rintro e w2 ⟨rfl, rfl⟩
        go_wp2_with fail
        refine (unhide hcnt).mono ?_
        rintro e w3 ⟨rfl, hb3⟩
        go_wp2
        go_roundw
        case rel => exact ⟨s + 1, A - Q, X + 1, Q', by omega, by go_num, HX2, by go_num, HA2, by omega, rfl, HQ', hB.trans (hb3.mono hB.size)⟩
        case measure => simp [intOf]; omega
      · have hsub : (k : Int) - (D : Int) = (J : Int) := by omega
        have hJ8 : J ≤ 8 := by omega
        have HV : Hid (A < V J n) := hide (by
          have h2 : rows n k s = V (k - X.natAbs) n := by rw [unhide HX]; rfl
          rw [hD, hJ, ← unhide HQ] at h2
          omega)
        have hrec := hide (fun W => unhide HI J A W (by omega) hJ8 hA0 HV)
        have HC : Hid (∀ m, Is n J A m → Is (n + 1) k r (X :: m)) := hide (fun m hm => by
          have e := unhide HX
          rw [e]
          refine is_cons hs ?_
          rw [← e, ← unhide HA, hD, hJ]
          exact hm)
        rw [hD] at hfarX
        clear hD hJ HI HX HA HQ
        have hBs := hB.size
        go_wp2_with (first
          | (at_builtin; refine wpList_app _ rfl _ _ rfl w.heap.size _ [] [X] _ _ rfl (Has.nil _ _) rfl (row_one _ _ _) (by simp) (by simp; omega) ?_; intro v3 w3 k3 g3 at3)
          | fail)
        obtain ⟨d1, d2⟩ := stepped_plain (Has.nil wr w.heap.size) hBs k3 g3 at3
        have hB3 := hB.trans d1
        rw [List.nil_append] at k3
        clear d1 d2 g3 at3 hB hBs
        refine (unhide hfarX w3).mono ?_
        rintro e w4 ⟨rfl, rfl⟩
        go_wp2_with fail
        refine (unhide hrec w3).mono ?_
        rintro e w5 ⟨v5, l5, rfl, h5, H5, hb5⟩
        have hB5 := hB3.trans (hb5.mono hB3.size)
        have k5 := k3.below hb5
        obtain ⟨p5, q5, rfl, r5⟩ := h5.row
        have hl5 : Hid ([X].length + l5.length ≤ 1000000) := hide (by rw [(unhide H5).1]; simp; omega)
        have hBs5 := hB5.size
        go_wp2_with (at_builtin; refine wpList_app _ rfl _ _ rfl w.heap.size v3 [X] l5 p5 q5 rfl k5 rfl r5 (unhide hl5) hBs5 ?_; intro v6 w6 k6 g6 at6)
        go_ret
        exact ⟨_, _, rfl, k6, hide (unhide HC _ (unhide H5)), hB5.grown g6 hBs5 (fun r e => (k5.lt r e).1)⟩

end Go.Proofs.YthkibjhhlcfceaiGreatDoor.Pls

/-
  hornref2.Number: by its contract.
-/
namespace Go.Proofs.YthkibjhhlcfceaiGreatDoor.Wid
open Go.RowKit
open Go.Proofs.YthkibjhhlcfceaiGreatDoor.Tre Go.Proofs.YthkibjhhlcfceaiGreatDoor.Scl Go.Proofs.YthkibjhhlcfceaiGreatDoor.Bnd
set_option linter.unusedVariables false

theorem any_drop {p : Int → Bool} {l : List Int} {k : Nat} (h : k < l.length) : (l.drop k).any p = (p (at0 l k) || (l.drop (k + 1)).any p) := by
  rw [List.drop_eq_getElem_cons h, List.any_cons]
  have e : at0 l k = l[k] := by simp [at0, h]
  rw [e]

theorem num_take {l : List Int} {k : Nat} (h : k < l.length) : num 0 (l.take (k + 1)) = 2 * num 0 (l.take k) + at0 l k := by
  have e : at0 l k = l[k] := by simp [at0, h]
  rw [List.take_succ_eq_append_getElem h, num_append, e]
  rfl
theorem num_small {l : List Int} (h : Bit l) (h20 : l.length ≤ 20) (k : Nat) : 0 ≤ num 0 (l.take k) ∧ num 0 (l.take k) ≤ 1048576 := by
  have h1 := num_in (bit_take h k)
  have h2 : (2 : Int) ^ (l.take k).length ≤ 2 ^ 20 := by
    have hle : (l.take k).length ≤ 20 := by rw [List.length_take]; omega
    exact_mod_cast Nat.pow_le_pow_right (by omega : 0 < 2) hle
  exact ⟨h1.1, by omega⟩

set_option maxRecDepth 100000 in
set_option maxHeartbeats 4000000 in
theorem refNumber (a : Option Addr) (cap : Nat) (l : List Int) (w : World) (hr : Row w a l) (h20 : l.length ≤ 20) (hb : Hid (Bit l)) :
    Calls Tryz.prog 57 #[.slice a l.length cap] w fun e w' => e = .returned (.int .i64 (num 0 l)) ∧ w' = w := by
  have HS := hide (num_small (unhide hb) h20)
  obtain ⟨N, hN⟩ : ∃ N, l.length = N := ⟨_, rfl⟩
  have HN := hide hN
  have HA : Hid (num 0 (l.take N) = num 0 l) := hide (by rw [← hN, List.take_length])
  obtain ⟨R, hR⟩ : ∃ R, num 0 l = R := ⟨_, rfl⟩
  rw [hR] at HA
  rw [hN] at h20
  rw [hN, hR]
  clear hN hR
  go_enter Tryz.func57, Tryz.ntmps57
  go_wp2
  go_loopw [3, 4] (fun n i wr => ∃ (k : Nat) (X : Int), k ≤ N ∧ i = .int .i64 k ∧ n = .int .i64 X ∧ Hid (num 0 (l.take k) = X) ∧ w = wr) (fun _ i _ => N - (intOf i).toNat)
  case atStart => exact ⟨0, 0, Nat.zero_le _, rfl, rfl, rfl, rfl⟩
  case round =>
    obtain ⟨k, X, hk, rfl, rfl, HX, rfl⟩ := hrel
    by_cases hkl : k < N
    · have hkl' : k < l.length := by rw [unhide HN]; exact hkl
      obtain ⟨b2, off2, rfl, _, hc2⟩ := Scl.cell_at hr (by omega)
      have e1 := hc2 k hkl'
      have hs := unhide HS k
      have hbt := bit_at (unhide hb) k
      have HX2 : Hid (num 0 (l.take (k + 1)) = 2 * X + at0 l k) := hide (by rw [num_take hkl', unhide HX])
      rw [unhide HX] at hs
      obtain ⟨B, hB⟩ : ∃ B, at0 l k = B := ⟨_, rfl⟩
      rw [hB] at e1 hbt HX2
      have w1 : IntKind.i64.wrap (2 * X) = 2 * X := IntWalk.i64_in _ (by omega)
      have w2 : IntKind.i64.wrap (2 * X + B) = 2 * X + B := IntWalk.i64_in _ (by omega)
      clear hB hc2 hkl' HX hbt hs
      go_wp2
      go_roundw
      case rel => exact ⟨k + 1, 2 * X + B, by omega, by go_num, by first | rfl | go_num, HX2, by first | trivial | rfl⟩
      case measure => simp [intOf]; omega
    · obtain rfl : k = N := by omega
      obtain rfl : X = R := (unhide HX).symm.trans (unhide HA)
      go_wp2
      go_ret
      exact ⟨rfl, rfl⟩

end Go.Proofs.YthkibjhhlcfceaiGreatDoor.Wid
