/-
  hornref2.Line, where its word is the seventh.
-/
import Derived.Test.YtkkhgdkgbhdfaakGreatDoorRa39
namespace Go.Proofs.YtkkhgdkgbhdfaakGreatDoor.Ses
open Go.RowKit
open Go.Proofs.YtkkhgdkgbhdfaakGreatDoor.Tre Go.Proofs.YtkkhgdkgbhdfaakGreatDoor.Hrn Go.Proofs.YtkkhgdkgbhdfaakGreatDoor.Txt Go.Proofs.YtkkhgdkgbhdfaakGreatDoor.Tnk Go.Proofs.YtkkhgdkgbhdfaakGreatDoor.Scl
set_option linter.unusedVariables false

set_option maxRecDepth 100000 in
set_option maxHeartbeats 100000000 in
theorem refLineK7 (S E H : Int) (l : List Int) (w : World) (hS : Hid (S = 100)) (hE : Hid (E = 20)) (hH : Hid (Ok 100 20 H)) (hb : Hid (Byts l)) (hl : l.length ≤ 3000) (hkd : Hid (kind (hd l) = 7)) :
    Calls Tryz.prog 21 #[.agg #[.int .i64 S, .int .i64 E, .int .i64 H], .string (str l)] w fun e w' => LinePost H l w e w' := by
  have HPO : Hid (∀ o H' w', Line H l o H' → Below w.heap.size w w' → LinePost H l w (.returned (.tuple #[.string (str o), .agg #[.int .i64 S, .int .i64 E, .int .i64 H']])) w') := hide (fun o H' w' h1 h2 => ⟨o, H', by rw [unhide hS, unhide hE], h1, h2⟩)
  have HBAD : Hid (∀ w', (∀ n, ¬ Reads l n) → Below w.heap.size w w' → LinePost H l w (.returned (.tuple #[.string { data := #[98, 97, 100] }, .agg #[.int .i64 S, .int .i64 E, .int .i64 H]])) w') := hide (fun w' h1 h2 => by rw [bad_is]; exact unhide HPO bad H w' (Or.inl ⟨h1, rfl, rfl⟩) h2)
  have CCU := hide (fun W => refCut 32 l W hb (by omega))
  obtain ⟨W0, hW0⟩ : ∃ W0, ((w.alloc (.cells #[.int .i64 S, .int .i64 E, .int .i64 H] 44)).alloc (.cells #[.int .i64 0, .int .i64 0, .int .i64 0] 44)) = W0 := ⟨_, rfl⟩
  have hb0 : Below w.heap.size w W0 := by rw [← hW0]; exact ((Below.refl _ _).alloc (Nat.le_refl _) _).alloc (by simp) _
  have t0 : Tk W0 w.heap.size S E H := by rw [← hW0]; exact (Tk.new w S E H).alloc _
  have r0 : Tk W0 (w.heap.size + 1) 0 0 0 := by rw [← hW0]; simpa using Tk.new (w.alloc (.cells #[.int .i64 S, .int .i64 E, .int .i64 H] 44)) 0 0 0
  go_enter Tryz.func21, Tryz.ntmps21
  go_wp2_with fail
  refine (unhide CCU _).mono ?_
  rintro e w1 ⟨v1, rfl, k1, hb1⟩
  have t1 := t0.below hb1 t0.lt
  have r1 := r0.below hb1 r0.lt
  have hB1 := Below.chain hb0 hb1
  clear t0 r0 hb0 hb1 CCU hW0
  obtain ⟨a1, cap1, rfl, R1, m1, m19⟩ := k1.shape
  have HWB := hide (fun (j : Nat) (h : j < (cut 32 l).length) => word_byts (unhide hb) h)
  have HWL := hide (fun (j : Nat) (h : j < (cut 32 l).length) => word_long h)
  have HTW := hide (tlw_length l)
  have hcl := cut_length 32 l
  have hne0 : 0 < (cut 32 l).length := by have := tlw_length l; omega
  obtain ⟨b1, off1, rfl, hlt1, hc1⟩ := R1.at (by rw [List.length_map]; exact hne0)
  rw [List.length_map] at hc1 m1 ⊢
  have HC1 : Hid (∀ j, j < (cut 32 l).length → w1.cell? ⟨b1, off1 + j, none⟩ = some (.string (str ((cut 32 l).getD j [])))) := hide (fun j hj => by rw [hc1 j hj, map_getD _ hj])
  have c0 : w1.cell? ⟨b1, off1, none⟩ = some (.string (str (hd l))) := by
    have := unhide HC1 0 hne0
    rw [cut_head] at this
    exact this
  have hbh : Byts (hd l) := by
    have := unhide HWB 0 hne0
    rw [cut_head] at this
    exact this
  have q1 := is_kCount hbh
  have q2 := is_kRank hbh
  have q3 := is_kRow hbh
  have q4 := is_kNear hbh
  have q5 := is_kGain hbh
  have q6 := is_kTurn hbh
  have q7 := is_kMay hbh
  obtain ⟨X, hX⟩ : ∃ X, str (hd l) = X := ⟨_, rfl⟩
  rw [hX] at c0 q1 q2 q3 q4 q5 q6 q7
  obtain ⟨K, hK⟩ : ∃ K, kind (hd l) = K := ⟨_, rfl⟩
  have HKD : Hid (K = 7) := hide (by rw [← hK]; exact unhide hkd)
  have HK := hide hK
  have hK7 : K ≤ 7 := by rw [← hK]; exact kind_in _
  rw [hK] at q1 q2 q3 q4 q5 q6 q7
  have HTN := hide (fun j => cut_word l j)
  obtain ⟨M, hM⟩ : ∃ M, (cut 32 l).length = M := ⟨_, rfl⟩
  rw [hM] at HWB HWL HTW HC1 hne0 hcl m1 ⊢
  clear hX hK hM hc1 R1 k1 hbh
  go_upto_block 0 with fail
  go_cut [7, 8, 9] (fun s7 s8 s9 wx => s7 = .int .i64 (mnI K) ∧ s8 = .bool (more K) ∧ s9 = .int .i64 (below K) ∧ w1 = wx)
  case first =>
    as_aux_lemma =>
    have hk : K = 0 ∨ K = 1 ∨ K = 2 ∨ K = 3 ∨ K = 4 ∨ K = 5 ∨ K = 6 ∨ K = 7 := by omega
    clear HPO HBAD HC1 HWB HWL HTW HTN HK
    obtain ⟨T1, hT1⟩ : ∃ T, decide (K = 1) = T := ⟨_, rfl⟩
    obtain ⟨T2, hT2⟩ : ∃ T, decide (K = 2) = T := ⟨_, rfl⟩
    obtain ⟨T3, hT3⟩ : ∃ T, decide (K = 3) = T := ⟨_, rfl⟩
    obtain ⟨T4, hT4⟩ : ∃ T, decide (K = 4) = T := ⟨_, rfl⟩
    obtain ⟨T5, hT5⟩ : ∃ T, decide (K = 5) = T := ⟨_, rfl⟩
    obtain ⟨T6, hT6⟩ : ∃ T, decide (K = 6) = T := ⟨_, rfl⟩
    obtain ⟨T7, hT7⟩ : ∃ T, decide (K = 7) = T := ⟨_, rfl⟩
    rw [hT1] at q1
    rw [hT2] at q2
    rw [hT3] at q3
    rw [hT4] at q4
    rw [hT5] at q5
    rw [hT6] at q6
    rw [hT7] at q7
    rcases hk with rfl | rfl | rfl | rfl | rfl | rfl | rfl | rfl
    all_goals (
      first | (have e : T1 = false := hT1.symm; subst e) | (have e : T1 = true := hT1.symm; subst e)
      first | (have e : T2 = false := hT2.symm; subst e) | (have e : T2 = true := hT2.symm; subst e)
      first | (have e : T3 = false := hT3.symm; subst e) | (have e : T3 = true := hT3.symm; subst e)
      first | (have e : T4 = false := hT4.symm; subst e) | (have e : T4 = true := hT4.symm; subst e)
      first | (have e : T5 = false := hT5.symm; subst e) | (have e : T5 = true := hT5.symm; subst e)
      first | (have e : T6 = false := hT6.symm; subst e) | (have e : T6 = true := hT6.symm; subst e)
      first | (have e : T7 = false := hT7.symm; subst e) | (have e : T7 = true := hT7.symm; subst e)
      clear hT1 hT2 hT3 hT4 hT5 hT6 hT7
      go_wp2
      go_meet
      exact ⟨rfl, rfl, rfl, by first | trivial | rfl⟩)
  case rest =>
  obtain ⟨rfl, rfl, rfl, rfl⟩ := hcut
  have HQ1 := hide q1
  have HQ2 := hide q2
  have HQ3 := hide q3
  have HQ4 := hide q4
  have HQ5 := hide q5
  have HQ6 := hide q6
  have HQ7 := hide q7
  have HC0 := hide c0
  clear q1 q2 q3 q4 q5 q6 q7 c0
  have HRB : Hid (nms (below K) 0 (tlw l) = none → ∀ n, ¬ Reads l n) := hide (fun h => reads_bad (by rw [unhide HK]; exact h))
  have HR0 := hide (rd_zero (below K) l)
  have HRN : Hid (∀ j n, Rd (below K) l j n → j < (tlw l).length → wd (decide (below K ≤ j)) ((tlw l).getD j []) = none → _) := hide (fun j n h1 h2 h3 => rd_none h1 h2 h3)
  have HRS : Hid (∀ j n k, Rd (below K) l j n → j < (tlw l).length → wd (decide (below K ≤ j)) ((tlw l).getD j []) = some k → _) := hide (fun j n k h1 h2 h3 => rd_next h1 h2 h3)
  have HRE : Hid (∀ n, Rd (below K) l (tlw l).length n → _) := hide (fun n h => rd_end h)
  have HBL : Hid (below K ≤ 99) := hide (by
    have hk : K = 0 ∨ K = 1 ∨ K = 2 ∨ K = 3 ∨ K = 4 ∨ K = 5 ∨ K = 6 ∨ K = 7 := by omega
    rcases hk with rfl | rfl | rfl | rfl | rfl | rfl | rfl | rfl <;> decide)
  obtain ⟨BL, hBL⟩ : ∃ BL, below K = BL := ⟨_, rfl⟩
  rw [hBL] at HRB HR0 HRN HRS HRE HBL ⊢
  have HBLe := hide hBL
  obtain ⟨MN, hMN⟩ : ∃ MN, mnI K = MN := ⟨_, rfl⟩
  have HMN := hide hMN
  obtain ⟨MR, hMR⟩ : ∃ MR, more K = MR := ⟨_, rfl⟩
  have HMR := hide hMR
  rw [hMN, hMR]
  obtain ⟨TL, hTL⟩ : ∃ TL, (tlw l).length = TL := ⟨_, rfl⟩
  rw [hTL] at HRN HRS HRE HTW
  obtain rfl : M = TL + 1 := (unhide HTW).symm
  clear hBL hMN hMR hTL HTW
  have hs1 := r1.lt
  go_upto_block 1 with fail
  go_cut [10] (fun nv wx => ∃ n : List Int, Has wx w1.heap.size nv n ∧ Hid (n.length = TL) ∧ Hid (nms BL 0 (tlw l) = some n) ∧ Below w1.heap.size w1 wx)
  case first =>
    as_aux_lemma =>
    have hbl9 := unhide HBL
    go_wp2_with fail
    go_loopw [10, 11] (fun nv iv wr => ∃ (j : Nat) (n : List Int), j ≤ TL ∧ iv = .int .i64 ((j + 1 : Nat) : Int) ∧ Has wr w1.heap.size nv n ∧ Hid (n.length = j) ∧ Hid (Rd BL l j n) ∧ Below w1.heap.size w1 wr) (fun _ iv _ => TL + 1 - (intOf iv).toNat)
    case atStart => exact ⟨0, [], Nat.zero_le _, rfl, Has.nil _ _, hide rfl, HR0, Below.refl _ _⟩
    case round =>
      obtain ⟨j, n, hj, rfl, hv, HNL, HRD, hB⟩ := hrel
      clear HR0
      have hBs := hB.size
      obtain ⟨J, hJ⟩ : ∃ J : Nat, j + 1 = J := ⟨_, rfl⟩
      by_cases hlt : j < TL
      · have hcw := unhide HC1 (j + 1) (by omega)
        have hcw2 : wr.cell? ⟨b1, off1 + (j + 1), none⟩ = _ := (hB.cell (p := ⟨b1, off1 + (j + 1), none⟩) hlt1).trans hcw
        have hxb := unhide HWB (j + 1) (by omega)
        have hxl := unhide HWL (j + 1) (by omega)
        rw [unhide HTN] at hcw2 hxb hxl
        have HN1 := hide (unhide HRN j n (unhide HRD) hlt)
        have HS1 := hide (fun k => unhide HRS j n k (unhide HRD) hlt)
        have hJ1 : (J : Int) - 1 = (j : Int) := by omega
        have wJ : IntKind.i64.wrap ((J : Int) - 1) = (j : Int) := by rw [hJ1]; exact IntWalk.i64_in _ (by omega)
        have hltJ : decide ((J : Int) < ((TL + 1 : Nat) : Int)) = true := by simp; omega
        have hltJ' : J < TL + 1 := by omega
        rw [hJ] at hcw2 ⊢
        obtain ⟨x, hx⟩ : ∃ x, (tlw l).getD j [] = x := ⟨_, rfl⟩
        rw [hx] at hcw2 hxb hxl HN1 HS1
        have hsx := str_size x
        have HXB := hide hxb
        have CN1 := hide (fun W => refNumber x W (hide hxb) (by omega))
        have CN2 := hide (fun W => refNumber (x.drop 1) W (hide (byts_rest hxb 1)) (by simp; omega))
        unfold NumPost at CN1 CN2
        have HCH : Hid (0 < x.length → ∀ W : World, (Instr.index 9 (.string (str x)) (.int .i64 0)).run Tryz.prog W = .ok (.int .u8 (at0 x 0)) W) := hide (fun h W => run_ch hxb (i := 0) h W)
        have HFR : Hid (1 ≤ x.length → ∀ W : World, (Instr.slice 9 (.string (str x)) (some (.int .i64 1)) none none).run Tryz.prog W = .ok (.string (str (x.drop 1))) W) := hide (fun h W => run_from (k := 1) h W)
        have HWD : Hid (∀ N : Bool, wd N x = if N = true ∧ 1 < x.length ∧ at0 x 0 = 45 then (match num (x.drop 1) with | none => none | some k => if k = 0 then none else some (-(k : Int))) else (match num x with | none => none | some k => some (k : Int))) := hide (fun N => rfl)
        have tr := t1.below hB t1.lt
        have rr := r1.below hB r1.lt
        have a0 := tr.c0
        have a1 := tr.c1
        have a2 := tr.c2
        have y0 := rr.c0
        have y1 := rr.c1
        have y2 := rr.c2
        have f0 := rr.fz 0
        have f1 := rr.fz 1
        have f2 := rr.fz 2
        have HBB := hide (Below.chain hB1 hB)
        have HNB : Hid (nms BL 0 (tlw l) = none → LinePost H l w (.returned (.tuple #[.string { data := #[98, 97, 100] }, .agg #[.int .i64 S, .int .i64 E, .int .i64 H]])) (((wr.setCell ⟨w.heap.size + 1, 0, none⟩ (.int .i64 S)).setCell ⟨w.heap.size + 1, 1, none⟩ (.int .i64 E)).setCell ⟨w.heap.size + 1, 2, none⟩ (.int .i64 H)).drew) := hide (fun h => unhide HBAD _ (unhide HRB h) ((below_put (unhide HBB) (by omega) _ _ _).trans ⟨rfl, rfl, rfl, Nat.le_refl _, fun _ _ => rfl⟩))
        have HPT : Hid (Tk (((wr.setCell ⟨w.heap.size + 1, 0, none⟩ (.int .i64 S)).setCell ⟨w.heap.size + 1, 1, none⟩ (.int .i64 E)).setCell ⟨w.heap.size + 1, 2, none⟩ (.int .i64 H)).drew (w.heap.size + 1) S E H) := hide (rr.put S E H)
        have hln2 : ∀ z : Int, Hid (n.length + [z].length ≤ 1000000) := fun z => hide (by rw [unhide HNL]; simp; omega)
        have HWN : Hid (¬ (decide (BL ≤ j) = true ∧ 1 < x.length ∧ at0 x 0 = 45) → (num x = none → nms BL 0 (tlw l) = none) ∧ ∀ k : Nat, num x = some k → Rd BL l (j + 1) (n ++ [(k : Int)])) := hide (fun h => by
          have e := unhide HWD (decide (BL ≤ j))
          rw [if_neg h] at e
          exact ⟨fun h2 => unhide HN1 (by rw [e, h2]), fun k h2 => unhide HS1 k (by rw [e, h2])⟩)
        have HWM : Hid ((decide (BL ≤ j) = true ∧ 1 < x.length ∧ at0 x 0 = 45) → (num (x.drop 1) = none → nms BL 0 (tlw l) = none) ∧ (num (x.drop 1) = some 0 → nms BL 0 (tlw l) = none) ∧ ∀ k : Nat, k ≠ 0 → num (x.drop 1) = some k → Rd BL l (j + 1) (n ++ [-(k : Int)])) := hide (fun h => by
          have e := unhide HWD (decide (BL ≤ j))
          rw [if_pos h] at e
          exact ⟨fun h2 => unhide HN1 (by rw [e, h2]), fun h2 => unhide HN1 (by rw [e, h2]; rfl), fun k hk h2 => unhide HS1 _ (by rw [e, h2]; simp [hk])⟩)
        obtain ⟨XL, hXL⟩ : ∃ XL, x.length = XL := ⟨_, rfl⟩
        rw [hXL] at hsx hxl HCH HFR HWN HWM
        obtain ⟨b0, hb0⟩ : ∃ b0, at0 x 0 = b0 := ⟨_, rfl⟩
        rw [hb0] at HCH HWN HWM
        obtain ⟨y, hy⟩ : ∃ y, x.drop 1 = y := ⟨_, rfl⟩
        rw [hy] at CN2 HFR HWM
        clear HN1 HS1 HWD hx hxb hXL hb0 hy HRB HBAD HRN HRS HRE tr
        by_cases hw : decide (BL ≤ j) = true ∧ 1 < XL ∧ b0 = 45
        · obtain ⟨g1, g2, g3⟩ := hw
          obtain ⟨HM1, HM2, HM3⟩ := unhide HWM ⟨g1, g2, g3⟩
          have HM1 := hide HM1
          have HM2 := hide HM2
          have HM3 := hide HM3
          have d1 : decide ((1 : Int) < (XL : Int)) = true := by simp; omega
          have hch := unhide HCH (by omega) wr
          have hfr := unhide HFR (by omega) wr
          have g4 : BL ≤ j := by simpa using g1
          have d2 : decide ((BL : Int) ≤ (j : Int)) = true := by simp; omega
          subst g3
          clear HWN HWM HCH HFR CN1 g1
          go_wp2_with fail
          refine (unhide CN2 _).mono ?_
          rintro e w5 ⟨h5, hw5⟩
          obtain rfl : wr = w5 := hw5
          rcases h5 with ⟨z1, rfl⟩ | ⟨k, z1, z9, rfl⟩
          · have HRR := hide (unhide HNB (unhide HM1 z1))
            clear HNB HM1 HM2 HM3 z1
            go_wp2
            go_region
            all_goals (
              go_wp2
              try simp only [Exit.inBlock, Exit.then]
              refine bodyPost_ret (results_line rfl _ _ _ _ _ _ rfl (unhide HPT)) rfl ?_
              exact unhide HRR)
          · by_cases hk0 : k = 0
            · subst hk0
              have HRR := hide (unhide HNB (unhide HM2 z1))
              clear HNB HM1 HM2 HM3 z1
              go_wp2
              go_region
              all_goals (
                go_wp2
                try simp only [Exit.inBlock, Exit.then]
                refine bodyPost_ret (results_line rfl _ _ _ _ _ _ rfl (unhide HPT)) rfl ?_
                exact unhide HRR)
            · have dk : ((k : Int) == 0) = false := by rw [beq_eq_false_iff_ne]; omega
              have HRR := hide (unhide HM3 k hk0 z1)
              obtain ⟨kk, hkk⟩ : ∃ kk : Int, -(k : Int) = kk := ⟨_, rfl⟩
              have wk : IntKind.i64.wrap (-(k : Int)) = kk := by rw [hkk]; exact IntWalk.i64_in _ (by omega)
              rw [hkk] at HRR
              clear HNB HM1 HM2 HM3 z1 hkk hk0
              go_wp2_with (at_builtin; refine wpList_app _ rfl _ _ rfl w1.heap.size u10 n [kk] _ _ rfl (hv.alloc _) rfl (row_one _ _ _) (unhide (hln2 _)) (by simp; omega) ?_; intro s' w7 k7 g7 at7)
              have hB7 : Below w1.heap.size w1 w7 := hB.trans (((Below.refl _ wr).alloc hBs _).grown g7 (by simp; omega) (fun j e => (hv.lt j e).1))
              go_roundw
              case rel => exact ⟨j + 1, n ++ [kk], by omega, by first | go_num | (simp; omega), k7, hide (by rw [List.length_append, unhide HNL]; rfl), HRR, hB7⟩
              case measure => simp [intOf]; omega
        · obtain ⟨HM1, HM2⟩ := unhide HWN hw
          have HM1 := hide HM1
          have HM2 := hide HM2
          have hw3 : decide ((1 : Int) < (XL : Int)) = false ∨ (decide ((1 : Int) < (XL : Int)) = true ∧ (b0 == 45) = false) ∨ (decide ((1 : Int) < (XL : Int)) = true ∧ b0 = 45 ∧ decide ((BL : Int) ≤ (j : Int)) = false ∧ ¬ BL ≤ j) := by
            by_cases e1 : 1 < XL
            · by_cases e2 : b0 = 45
              · right; right
                have e3 : ¬ BL ≤ j := fun h => hw ⟨by simpa using h, e1, e2⟩
                exact ⟨by simp; omega, e2, by simp; omega, e3⟩
              · right; left
                exact ⟨by simp; omega, by rw [beq_eq_false_iff_ne]; exact e2⟩
            · left
              simp
              omega
          have hch : Hid (1 < XL → _) := hide (fun h => unhide HCH (by omega) wr)
          clear HWN HWM HCH HFR CN2 hw
          rcases hw3 with d1 | ⟨d1, d2⟩ | ⟨d1, rfl, d2, d3⟩
          all_goals (
            have hch2 : decide ((1 : Int) < (XL : Int)) = true → _ := fun h => unhide hch (by simp at h; omega)
            rw [d1] at hch2
            clear hch
            first
              | (have hch3 := hch2 rfl)
              | skip
            clear hch2
            go_wp2_with fail
            refine (unhide CN1 _).mono ?_
            rintro e w5 ⟨h5, hw5⟩
            obtain rfl : wr = w5 := hw5
            rcases h5 with ⟨z1, rfl⟩ | ⟨k, z1, z9, rfl⟩
            · have HRR := hide (unhide HNB (unhide HM1 z1))
              clear HNB HM1 HM2 z1
              go_wp2
              go_region
              all_goals (
                go_wp2
                try simp only [Exit.inBlock, Exit.then]
                refine bodyPost_ret (results_line rfl _ _ _ _ _ _ rfl (unhide HPT)) rfl ?_
                exact unhide HRR)
            · have HRR := hide (unhide HM2 k z1)
              clear HNB HM1 HM2 z1
              go_wp2_with (at_builtin; refine wpList_app _ rfl _ _ rfl w1.heap.size u10 n [(k : Int)] _ _ rfl (hv.alloc _) rfl (row_one _ _ _) (unhide (hln2 _)) (by simp; omega) ?_; intro s' w7 k7 g7 at7)
              have hB7 : Below w1.heap.size w1 w7 := hB.trans (((Below.refl _ wr).alloc hBs _).grown g7 (by simp; omega) (fun j e => (hv.lt j e).1))
              go_roundw
              case rel => exact ⟨j + 1, n ++ [(k : Int)], by omega, by first | go_num | (simp; omega), k7, hide (by rw [List.length_append, unhide HNL]; rfl), HRR, hB7⟩
              case measure => simp [intOf]; omega)
      · obtain rfl : j = TL := by omega
        have HRR := hide (unhide HRE n (unhide HRD))
        have hltJ : decide (((j + 1 : Nat) : Int) < ((j + 1 : Nat) : Int)) = false := by simp
        clear HRB HBAD HRN HRS HRE HRD hJ
        go_wp2
        go_meet
        exact ⟨n, hv, HNL, HRR, hB⟩
  case rest =>
  obtain ⟨n, kn, HNL, HNM, hB2⟩ := hcut
  clear HC1 HWB HWL HTN HRB HR0 HRN HRS HRE HBL
  have tr := t1.below hB2 t1.lt
  have rr := r1.below hB2 r1.lt
  have a0 := tr.c0
  have a1 := tr.c1
  have a2 := tr.c2
  have y0 := rr.c0
  have y1 := rr.c1
  have y2 := rr.c2
  have f0 := rr.fz 0
  have f1 := rr.fz 1
  have f2 := rr.fz 2
  have HBB := hide (Below.chain hB1 hB2)
  have HRI := hide (nms_in (unhide HNM))
  have HNO : Hid (MN < 0 ∨ (TL : Int) < MN ∨ (MN < (TL : Int) ∧ MR = false) → ∀ m, ¬ Reads l m) := hide (fun h => reads_no (n := n) (by rw [unhide HK, unhide HBLe]; exact unhide HNM) (by rw [unhide HK, unhide HMN, unhide HMR, unhide HNL]; exact h))
  have HRO : Hid (¬ MN < 0 → ¬ (TL : Int) < MN → (MN < (TL : Int) → MR = true) → Reads l n) := hide (fun h1 h2 h3 => reads_ok (by rw [unhide HK, unhide HBLe]; exact unhide HNM) (by rw [unhide HK, unhide HMN]; exact h1) (by rw [unhide HK, unhide HMN, unhide HNL]; exact h2) (by rw [unhide HK, unhide HMN, unhide HMR, unhide HNL]; exact h3))
  have HPT : Hid (Tk (((wc.setCell ⟨w.heap.size + 1, 0, none⟩ (.int .i64 S)).setCell ⟨w.heap.size + 1, 1, none⟩ (.int .i64 E)).setCell ⟨w.heap.size + 1, 2, none⟩ (.int .i64 H)).drew (w.heap.size + 1) S E H) := hide (rr.put S E H)
  have HNB : Hid ((∀ m, ¬ Reads l m) → LinePost H l w (.returned (.tuple #[.string { data := #[98, 97, 100] }, .agg #[.int .i64 S, .int .i64 E, .int .i64 H]])) (((wc.setCell ⟨w.heap.size + 1, 0, none⟩ (.int .i64 S)).setCell ⟨w.heap.size + 1, 1, none⟩ (.int .i64 E)).setCell ⟨w.heap.size + 1, 2, none⟩ (.int .i64 H)).drew) := hide (fun h => unhide HBAD _ h ((below_put (unhide HBB) (by omega) _ _ _).trans ⟨rfl, rfl, rfl, Nat.le_refl _, fun _ _ => rfl⟩))
  obtain ⟨an, capn, hnv, Rn, mn1, mn2⟩ := room_of kn
  rw [unhide HNL] at hnv mn1
  subst hnv
  by_cases hbad : MN < 0 ∨ (TL : Int) < MN ∨ (MN < (TL : Int) ∧ MR = false)
  · as_aux_lemma =>
    have HRR := hide (unhide HNB (unhide HNO hbad))
    have hw3 : decide (MN < 0) = true ∨ (decide (MN < 0) = false ∧ decide ((TL : Int) < MN) = true) ∨ (decide (MN < 0) = false ∧ decide ((TL : Int) < MN) = false ∧ decide (MN < (TL : Int)) = true ∧ MR = false) := by
      by_cases e1 : MN < 0
      · exact Or.inl (by simpa using e1)
      · by_cases e2 : (TL : Int) < MN
        · exact Or.inr (Or.inl ⟨by simpa using e1, by simpa using e2⟩)
        · rcases hbad with h | h | ⟨h1, h2⟩
          · exact absurd h e1
          · exact absurd h e2
          · exact Or.inr (Or.inr ⟨by simpa using e1, by simpa using e2, by simpa using h1, h2⟩)
    clear HNB HNO HRO hbad HBAD HPO HRI
    rcases hw3 with d1 | ⟨d1, d2⟩ | ⟨d1, d2, d3, rfl⟩
    all_goals (
      go_wp2
      go_region
      all_goals (
        go_wp2
        try simp only [Exit.inBlock, Exit.then]
        refine bodyPost_ret (results_line rfl _ _ _ _ _ _ rfl (unhide HPT)) rfl ?_
        exact unhide HRR))
  · have g1 : ¬ MN < 0 := fun h => hbad (Or.inl h)
    have g2 : ¬ (TL : Int) < MN := fun h => hbad (Or.inr (Or.inl h))
    have g3 : MN < (TL : Int) → MR = true := fun h => by
      cases e : MR with
      | true => rfl
      | false => exact absurd (Or.inr (Or.inr ⟨h, e⟩)) hbad
    have HRD := hide (unhide HRO g1 g2 g3)
    have d1 : decide (MN < 0) = false := by simpa using g1
    have d2 : decide ((TL : Int) < MN) = false := by simpa using g2
    have hK0 : K ≠ 0 := by rw [← unhide HK]; exact (unhide HRD).1
    have HLN : Hid (∀ o H', Ans K n H o H' → Line H l o H') := hide (fun o H' h => Or.inr ⟨n, unhide HRD, by rw [unhide HK]; exact h⟩)
    have c0 := (hB2.cell (p := ⟨b1, off1, none⟩) hlt1).trans (unhide HC0)
    clear HNB HNO HRO hbad HBAD
    have d3 : decide (MN < (TL : Int)) = false ∨ (decide (MN < (TL : Int)) = true ∧ MR = true) := by
      by_cases h : MN < (TL : Int)
      · exact Or.inr ⟨by simpa using h, g3 h⟩
      · exact Or.inl (by simpa using h)
    go_upto_region 37 with fail
    go_cut [108] (fun s wx => s = .bool false ∧ wc = wx)
    case first =>
      as_aux_lemma =>
      rcases d3 with d3 | ⟨d3, rfl⟩
      all_goals (
        go_wp2
        go_meet
        exact ⟨by first | rfl | trivial, by first | trivial | rfl⟩)
    case rest =>
    obtain ⟨rfl, rfl⟩ := hcut
    clear d1 d2 d3 g1 g2 g3
    have CNM : Hid (∀ (e : Int) (W : World), 0 ≤ e → e ≤ 8 → Below wc.heap.size wc W → Calls Tryz.prog 45 #[.int .i64 e] W fun r w' => r = .returned (.string (str (name e))) ∧ Below wc.heap.size wc w') := hide (fun e W h0 h8 hW => (refName e W h0 h8).mono fun r w' ⟨h1, h2⟩ => ⟨h1, Below.chain hW h2⟩)
    have CTD : Hid (∀ (a : Option Addr) (cap : Nat) (m : List Int) (W : World), Row W a m → m.length ≤ 1000 → (∀ j, j < m.length → -1000000 ≤ at0 m j ∧ at0 m j ≤ 1000000) → Calls Tryz.prog 46 #[.slice a m.length cap, .int .i64 0] W fun r w' => r = .returned (.string (str (tell m))) ∧ W = w') := hide (fun a cap m W h1 h2 h3 => refTold a cap m W h1 h2 (hide h3))
    have hszr := rr.lt
    have HTR : Hid (∀ W, Below wc.heap.size wc W → Tk W w.heap.size S E H ∧ Tk W (w.heap.size + 1) 0 0 0) := hide (fun W h => ⟨tr.below h tr.lt, rr.below h rr.lt⟩)
    have HFIN : Hid (∀ o W, Ans K n H o H → Below w.heap.size w W → LinePost H l w (.returned (.tuple #[.string (str o), .agg #[.int .i64 S, .int .i64 E, .int .i64 H]])) W) := hide (fun o W h1 h2 => unhide HPO o H _ (unhide HLN o H h1) h2)
    have hkk : K = 7 := unhide HKD
    clear HKD
    have q1 := unhide HQ1
    have q2 := unhide HQ2
    have q3 := unhide HQ3
    have q4 := unhide HQ4
    have q5 := unhide HQ5
    have q6 := unhide HQ6
    have q7 := unhide HQ7
    obtain ⟨T1, hT1⟩ : ∃ T, decide (K = 1) = T := ⟨_, rfl⟩
    obtain ⟨T2, hT2⟩ : ∃ T, decide (K = 2) = T := ⟨_, rfl⟩
    obtain ⟨T3, hT3⟩ : ∃ T, decide (K = 3) = T := ⟨_, rfl⟩
    obtain ⟨T4, hT4⟩ : ∃ T, decide (K = 4) = T := ⟨_, rfl⟩
    obtain ⟨T5, hT5⟩ : ∃ T, decide (K = 5) = T := ⟨_, rfl⟩
    obtain ⟨T6, hT6⟩ : ∃ T, decide (K = 6) = T := ⟨_, rfl⟩
    obtain ⟨T7, hT7⟩ : ∃ T, decide (K = 7) = T := ⟨_, rfl⟩
    rw [hT1] at q1
    rw [hT2] at q2
    rw [hT3] at q3
    rw [hT4] at q4
    rw [hT5] at q5
    rw [hT6] at q6
    rw [hT7] at q7
    have HLL := hide (unhide HRD).2.2
    rw [unhide HK, unhide HNL] at HLL
    clear HQ1 HQ2 HQ3 HQ4 HQ5 HQ6 HQ7 HC0 HMN HMR HNM
    have HBB2 := HBB
    clear HBB
    have hbc : ∀ W : World, Below wc.heap.size wc W → Below wc.heap.size wc W := fun _ h => h
    subst hkk
    all_goals (
      first | (have e : T1 = false := hT1.symm; subst e) | (have e : T1 = true := hT1.symm; subst e)
      first | (have e : T2 = false := hT2.symm; subst e) | (have e : T2 = true := hT2.symm; subst e)
      first | (have e : T3 = false := hT3.symm; subst e) | (have e : T3 = true := hT3.symm; subst e)
      first | (have e : T4 = false := hT4.symm; subst e) | (have e : T4 = true := hT4.symm; subst e)
      first | (have e : T5 = false := hT5.symm; subst e) | (have e : T5 = true := hT5.symm; subst e)
      first | (have e : T6 = false := hT6.symm; subst e) | (have e : T6 = true := hT6.symm; subst e)
      first | (have e : T7 = false := hT7.symm; subst e) | (have e : T7 = true := hT7.symm; subst e)
      clear hT1 hT2 hT3 hT4 hT5 hT6 hT7)
    · --K7
      as_aux_lemma =>
      have HA : Hid (∀ o, Ans 7 n H o H ↔ o = tell [may 100 20 H]) := hide (fun o => ⟨fun h => h.2, fun h => ⟨rfl, h⟩⟩)
      have hbx : Below wc.heap.size wc wc := Below.refl _ _
      have HF2 := hide (fun W h => unhide HFIN _ W ((unhide HA _).2 rfl) h)
      have CMY : Hid (∀ W, Below wc.heap.size wc W → _) := hide (fun W hW => (refMay S E H W (by rw [unhide hS, unhide hE]; exact hH)).mono fun r w' (h : _ ∧ _) => (⟨h.1, Below.chain hW h.2⟩ : r = .returned (.int .i64 (may S E H)) ∧ Below wc.heap.size wc w'))
      have hvi := may_in (unhide hH)
      have hme : may S E H = may 100 20 H := by rw [unhide hS, unhide hE]
      rw [hme] at CMY
      obtain ⟨VV, hVV⟩ : ∃ VV, may 100 20 H = VV := ⟨_, rfl⟩
      rw [hVV] at CMY hvi HF2
      obtain ⟨tx, htx⟩ : ∃ tx, str (tell [VV]) = tx := ⟨_, rfl⟩
      rw [htx] at HF2
      have CT1 : Hid (∀ (ad : Addr) (cap : Nat) (W : World), Row W (some ad) [VV] → Calls Tryz.prog 46 #[.slice (some ad) 1 cap, .int .i64 0] W fun r w' => r = .returned (.string tx) ∧ W = w') := hide (fun ad cap W h => by
        rw [← htx]
        exact unhide CTD (some ad) cap [VV] W h (by simp) (fun j hj => by
          obtain rfl : j = 0 := by simpa using hj
          exact ⟨by simp [at0] <;> omega, by simp [at0] <;> omega⟩))
      clear HA HFIN HRI HLL kn Rn CTD CNM hVV htx hme
      go_wp2
      go_region_with (first
        | (go_at_call 54
           refine (unhide CMY _ ?_).mono ?_
           · exact hbx.trans ⟨rfl, rfl, rfl, Nat.le_refl _, fun _ _ => rfl⟩
           rintro e w5 ⟨rfl, hb5⟩
           obtain ⟨t5, r5⟩ := unhide HTR w5 hb5
           have v0 := t5.c0
           have v1 := t5.c1
           have v2 := t5.c2
           have v3 := r5.c0
           have v4 := r5.c1
           have v5 := r5.c2
           have v6 := r5.fz 0
           have v7 := r5.fz 1
           have v8 := r5.fz 2
           have o0 : ∀ o, (w5.alloc o).cell? ⟨w.heap.size, 0, none⟩ = _ := fun o => (t5.alloc o).c0
           have o1 : ∀ o, (w5.alloc o).cell? ⟨w.heap.size, 1, none⟩ = _ := fun o => (t5.alloc o).c1
           have o2 : ∀ o, (w5.alloc o).cell? ⟨w.heap.size, 2, none⟩ = _ := fun o => (t5.alloc o).c2
           have o3 : ∀ o, (w5.alloc o).cell? ⟨w.heap.size + 1, 0, none⟩ = _ := fun o => (r5.alloc o).c0
           have o4 : ∀ o, (w5.alloc o).cell? ⟨w.heap.size + 1, 1, none⟩ = _ := fun o => (r5.alloc o).c1
           have o5 : ∀ o, (w5.alloc o).cell? ⟨w.heap.size + 1, 2, none⟩ = _ := fun o => (r5.alloc o).c2
           have o6 : ∀ o, (w5.alloc o).frozen? ⟨w.heap.size + 1, 0, none⟩ = _ := fun o => (r5.alloc o).fz 0
           have o7 : ∀ o, (w5.alloc o).frozen? ⟨w.heap.size + 1, 1, none⟩ = _ := fun o => (r5.alloc o).fz 1
           have o8 : ∀ o, (w5.alloc o).frozen? ⟨w.heap.size + 1, 2, none⟩ = _ := fun o => (r5.alloc o).fz 2)
        | (go_at_call 46
           refine (unhide CT1 _ _ _ ?_).mono ?_
           · exact row_one _ _ _
           rintro e w6 ⟨rfl, hw6⟩
           subst hw6))
      all_goals (
        go_wp2
        try simp only [Exit.inBlock, Exit.then]
        refine bodyPost_ret (results_line rfl _ _ _ _ _ _ rfl ((r5.alloc _).put S E H)) rfl ?_
        exact unhide HF2 _ (below_put ((Below.chain (unhide HBB2) hb5).alloc (by have := t5.lt; omega) _) (Nat.le_succ _) _ _ _))

end Go.Proofs.YtkkhgdkgbhdfaakGreatDoor.Ses
