/-
  The walk of hornlaw2.ShareTells.
-/
import Derived.Test.YtlklnjaihbjfiahDoorShareSay
import Derived.Test.YtlklnjaihbjfiahDoorRefShare
import Derived.Test.YtlklnjaihbjfiahDoorRefBand
import Derived.Test.YtlklnjaihbjfiahDoorErrTold
import Derived.Test.YtlklnjaihbjfiahDoorInts
import Derived.Deep.CutBlock
import Derived.Deep.DeepCutAuto
namespace Go.Proofs.YtlklnjaihbjfiahDoor.ShareTellsLaw
open Go.RowKit
open Go.Proofs.YtlklnjaihbjfiahDoor.Tre Go.Proofs.YtlklnjaihbjfiahDoor.Bnd Go.Proofs.YtlklnjaihbjfiahDoor.Shr Go.Proofs.YtlklnjaihbjfiahDoor.Ev Go.Proofs.YtlklnjaihbjfiahDoor.Same Go.Proofs.YtlklnjaihbjfiahDoor.Aser
set_option linter.unusedVariables false

/-- What is wrong with sizes, and as many. -/
def le (s p : List Int) : Int := if bf s = 0 then (if p.length = s.length then 0 else 3) else bf s
/-- .. and one by one. -/
def ae (q : Int → Bool) (s p : List Int) : Int := if le s p = 0 then (if p.any q = true then 1 else 0) else le s p
theorem costF_ae (s p : List Int) : costF s p = ae noP s p := by
  unfold costF ae le
  by_cases h : bf s = 0
  · rw [if_pos h, if_pos h]
    by_cases h2 : p.length = s.length
    · rw [if_pos h2, if_pos h2, if_pos rfl]
    · rw [if_neg h2, if_neg h2, if_neg (by omega)]
  · rw [if_neg h, if_neg h, if_neg h]
theorem ofF_ae (s d : List Int) (B : Int) : ofF s d B = if ae lou s d = 0 ∧ (B < 0 ∨ 400 < B) then 1 else ae lou s d := by
  unfold ofF ae le
  by_cases h : bf s = 0
  · rw [if_pos h, if_pos h]
    by_cases h2 : d.length = s.length
    · rw [if_pos h2, if_pos h2, if_pos rfl]
      by_cases h3 : d.any lou = true
      · rw [if_pos h3, if_pos h3, if_neg (by omega)]
      · rw [if_neg h3, if_neg h3]
        by_cases h4 : B < 0 ∨ 400 < B
        · rw [if_pos h4, if_pos ⟨rfl, h4⟩]
        · rw [if_neg h4, if_neg (fun k => h4 k.2)]
    · simp [h2]
  · simp [h]
theorem ae_no {q : Int → Bool} {s p : List Int} (h : le s p ≠ 0) : ae q s p = le s p := by unfold ae; rw [if_neg h]
theorem ae_at {q : Int → Bool} {s p : List Int} (h : le s p = 0) {j : Nat} (hj : j < p.length) (hq : q (at0 p j) = true) : ae q s p = 1 := by
  unfold ae
  rw [if_pos h, if_pos]
  have e : at0 p j = p[j] := by simp [at0, hj]
  exact List.any_eq_true.2 ⟨p[j], List.getElem_mem hj, by rw [← e]; exact hq⟩
theorem ae_all {q : Int → Bool} {s p : List Int} (h : le s p = 0) (hq : ∀ i, i < p.length → q (at0 p i) = false) : ae q s p = 0 := by
  unfold ae
  rw [if_pos h, if_neg]
  rw [Bool.not_eq_true, List.any_eq_false]
  intro x hx
  obtain ⟨i, hi, rfl⟩ := List.getElem_of_mem hx
  have e : at0 p i = p[i] := by simp [at0, hi]
  have := hq i hi
  rw [e] at this
  simpa using this

set_option maxRecDepth 100000 in
set_option maxHeartbeats 32000000 in
theorem walk (a0 : Option Addr) (cap0 : Nat) (s : List Int) (a1 : Option Addr) (cap1 : Nat) (p : List Int) (a2 : Option Addr) (cap2 : Nat) (d : List Int) (B : Int) (w : World) (hL : Laid w)
    (hr0 : Row w a0 s) (hw0 : ∀ n ∈ s, (Lit.int .i64 n).wf = true) (hz0 : s.length * 8 ≤ 140737488351232)
    (hr1 : Row w a1 p) (hw1 : ∀ n ∈ p, (Lit.int .i64 n).wf = true) (hz1 : p.length * 8 ≤ 140737488351232)
    (hr2 : Row w a2 d) (hw2 : ∀ n ∈ d, (Lit.int .i64 n).wf = true) (hz2 : d.length * 8 ≤ 140737488351232) (hwB : (Lit.int .i64 B).wf = true) :
    Calls Tryd.prog 3 #[.slice a0 s.length cap0, .slice a1 p.length cap1, .slice a2 d.length cap2, .int .i64 B] w fun e w' => e = .returned (.bool true) ∧ Below w.heap.size w w' := by
  have z0 : s.length ≤ 17592186044416 := by omega
  have z1 : p.length ≤ 17592186044416 := by omega
  have z2 : d.length ≤ 17592186044416 := by omega
  clear hw0 hw1 hw2 hwB hz0 hz1 hz2
  have CBA := refBands a0 cap0 s w (by omega) hr0
  unfold told at CBA
  have CSC := hide (fun W h h' => say_cost a0 cap0 s a1 cap1 p W h h' z0 z1)
  have CSO := hide (fun W h h' => say_of a0 cap0 s a2 cap2 d B W h h' z0 z2)
  have CSL := hide (fun W h h' => say_left a0 cap0 s a2 cap2 d B W h h' z0 z2)
  have CRC : Hid (costF s p = 0 → ∀ W, Row W a0 s → Row W a1 p → Calls Tryd.prog 5 #[.slice a0 s.length cap0, .slice a1 p.length cap1] W fun e w' => e = .returned (.int .i64 (costN s p)) ∧ Below W.heap.size W w') := hide (fun h W h1 h2 => by
    obtain ⟨e1, e2, e3⟩ := costF_zero.1 h
    obtain ⟨b1, b2, b3, b4⟩ := bf_ok e1
    have c := refCost a0 cap0 s a1 cap1 p W h1 h2 b2 e2 (hide b3) (hide e3)
    unfold costN
    rw [if_pos h, e2]
    exact c)
  have CRS : Hid (ofF s d B = 0 → ∀ W, Row W a0 s → Row W a2 d → Calls Tryd.prog 8 #[.slice a0 s.length cap0, .slice a2 d.length cap2, .int .i64 B] W fun e w' => ∃ q c, e = .returned (.slice q (ofL s d B).length c) ∧ Row w' q (ofL s d B) ∧ Below W.heap.size W w') := hide (fun h W h1 h2 => by
    obtain ⟨e1, e2, e3, e4, e5⟩ := ofF_zero.1 h
    obtain ⟨b1, b2, b3, b4⟩ := bf_ok e1
    have c := refShare a0 cap0 s a2 cap2 d B W h1 h2 b1 b2 e2 (hide b3) (hide e3) e4 e5
    rw [e2]
    refine c.mono ?_
    rintro e w' ⟨v, rfl, hv, hb⟩
    obtain ⟨q, cc, rfl, hrow⟩ := hv.row
    unfold ofL
    rw [if_pos h]
    exact ⟨q, cc, rfl, hrow, hb⟩)
  have CRC2 : Hid (ofF s d B = 0 → ∀ W q c, Row W a0 s → Row W q (ofL s d B) → Calls Tryd.prog 5 #[.slice a0 s.length cap0, .slice q (ofL s d B).length c] W fun e w' => e = .returned (.int .i64 (B - leftN s d B)) ∧ Below W.heap.size W w') := hide (fun h W q c h1 h2 => by
    obtain ⟨e1, e2, e3, e4, e5⟩ := ofF_zero.1 h
    obtain ⟨b1, b2, b3, b4⟩ := bf_ok e1
    obtain ⟨hI, hN⟩ := share_is (d := d) b3 b2 e4
    have e : ofL s d B = share s d B := by unfold ofL; rw [if_pos h]
    rw [e] at h2 ⊢
    have cc := refCost a0 cap0 s q c (share s d B) W h1 h2 b2 hI.len (hide b3) (hide hI.pls)
    have e6 : B - leftN s d B = (cost s (share s d B) : Int) := by unfold leftN; rw [if_pos h]; omega
    rw [hI.len, e6]
    exact cc)
  have HLN : Hid (ofF s d B = 0 → 0 ≤ leftN s d B ∧ leftN s d B ≤ B ∧ B ≤ 400) := hide (fun h => by
    obtain ⟨e1, e2, e3, e4, e5⟩ := ofF_zero.1 h
    obtain ⟨b1, b2, b3, b4⟩ := bf_ok e1
    obtain ⟨hI, hN⟩ := share_is (d := d) b3 b2 e4
    have := hI.cst
    unfold leftN
    rw [if_pos h]
    omega)
  have hOL : (ofL s d B).length ≤ 17592186044416 := by
    unfold ofL
    split
    · rename_i h
      obtain ⟨e1, e2, e3, e4, e5⟩ := ofF_zero.1 h
      obtain ⟨b1, b2, b3, b4⟩ := bf_ok e1
      rw [(share_is (d := d) b3 b2 e4).1.len]; omega
    · simp
  have CI := hide (fun q c q' c' W h h' => ints_same q c q' c' (ofL s d B) W (by omega) h h')
  have HON : Hid (ofF s d B ≠ 0 → ofL s d B = [] ∧ leftN s d B = 0) := hide (fun h => by unfold ofL leftN; rw [if_neg h, if_neg h]; exact ⟨rfl, rfl⟩)
  have HCN : Hid (costF s p ≠ 0 → costN s p = 0) := hide (fun h => by unfold costN; rw [if_neg h])
  have HCA := hide (costF_ae s p)
  have HOA := hide (ofF_ae s d B)
  have HL1 : Hid (le s p = if bf s = 0 then (if p.length = s.length then 0 else 3) else bf s) := hide rfl
  have HL2 : Hid (le s d = if bf s = 0 then (if d.length = s.length then 0 else 3) else bf s) := hide rfl
  obtain ⟨F, hF⟩ : ∃ F, bf s = F := ⟨_, rfl⟩
  obtain ⟨EC, hEC⟩ : ∃ E, costF s p = E := ⟨_, rfl⟩
  obtain ⟨EO, hEO⟩ : ∃ E, ofF s d B = E := ⟨_, rfl⟩
  obtain ⟨CN, hCN⟩ : ∃ E, costN s p = E := ⟨_, rfl⟩
  obtain ⟨OL, hOLv⟩ : ∃ E, ofL s d B = E := ⟨_, rfl⟩
  obtain ⟨LN, hLN⟩ : ∃ E, leftN s d B = E := ⟨_, rfl⟩
  rw [hF] at CBA HL1 HL2
  rw [hEC] at CSC CRC HCN HCA
  rw [hEO] at CSO CSL CRS CRC2 HLN HON HOA
  rw [hCN] at CSC CRC HCN
  rw [hOLv] at CSO CRS CRC2 HON CI hOL
  rw [hLN] at CSL CRC2 HLN HON
  obtain ⟨K, hK⟩ : ∃ K, OL.length = K := ⟨_, rfl⟩
  have HK := hide hK
  rw [hK] at CSO CRS CRC2 CI hOL
  obtain ⟨TT, hTT⟩ : ∃ TT : Int, (if F = 0 then (total s : Int) else 0) = TT := ⟨_, rfl⟩
  rw [hTT] at CBA
  obtain ⟨N, hN⟩ : ∃ N, s.length = N := ⟨_, rfl⟩
  obtain ⟨M1, hM1⟩ : ∃ M, p.length = M := ⟨_, rfl⟩
  obtain ⟨M2, hM2⟩ : ∃ M, d.length = M := ⟨_, rfl⟩
  have HM1 := hide hM1
  have HM2 := hide hM2
  rw [hN] at CBA CSC CSO CSL CRC CRS CRC2 HL1 HL2 z0
  rw [hM1] at CSC CRC HL1 z1
  rw [hM2] at CSO CSL CRS HL2 z2
  rw [hN, hM1, hM2]
  clear hF hEC hEO hCN hOLv hLN hK hTT hN hM1 hM2
  go_enter Tryd.func3, Tryd.ntmps3
  go_wp2_with fail
  refine CBA.mono ?_
  clear CBA
  rintro e w1 ⟨rfl, hw1⟩
  obtain rfl : w = w1 := hw1.symm
  clear hw1
  go_upto_region 3 with fail
  go_cut [37] (fun c wx => c = .bool (decide (F = 0 ∧ M1 ≠ N)) ∧ w = wx)
  case first =>
    as_aux_lemma =>
    by_cases hF : F = 0
    · have dF : (F == 0) = true := by rw [hF]; rfl
      by_cases hM : M1 = N
      · have dM : ((M1 : Int) != (N : Int)) = false := by rw [hM]; simp
        have HT : Hid (decide (F = 0 ∧ M1 ≠ N) = false) := hide (by simp [hM])
        clear hF hM
        go_wp2
        go_meet
        exact ⟨by rw [unhide HT], by first | trivial | rfl⟩
      · have dM : ((M1 : Int) != (N : Int)) = true := by rw [bne_iff_ne]; omega
        have HT : Hid (decide (F = 0 ∧ M1 ≠ N) = true) := hide (by simp [hM, hF])
        clear hF hM
        go_wp2
        go_meet
        exact ⟨by rw [unhide HT], by first | trivial | rfl⟩
    · have dF : (F == 0) = false := by rw [beq_eq_false_iff_ne]; exact hF
      have HT : Hid (decide (F = 0 ∧ M1 ≠ N) = false) := hide (by simp [hF])
      clear hF
      go_wp2
      go_meet
      exact ⟨by rw [unhide HT], by first | trivial | rfl⟩
  case rest =>
  obtain ⟨rfl, rfl⟩ := hcut
  obtain ⟨G1, hG1⟩ : ∃ G, le s p = G := ⟨_, rfl⟩
  have HG1 := hide hG1
  have HT3 : Hid (decide (F = 0 ∧ M1 ≠ N) = true → G1 = 3) := hide (fun h => by
    have h := of_decide_eq_true h
    rw [← hG1, unhide HL1, if_pos h.1, if_neg h.2])
  have HT1 : Hid (decide (F = 0 ∧ M1 ≠ N) = false → F = G1) := hide (fun h => by
    have h := of_decide_eq_false h
    rw [← hG1, unhide HL1]
    by_cases hF : F = 0
    · rw [if_pos hF, if_pos (Decidable.byContradiction fun hM => h ⟨hF, hM⟩)]; exact hF
    · rw [if_neg hF])
  obtain ⟨T, hT⟩ : ∃ T, decide (F = 0 ∧ M1 ≠ N) = T := ⟨_, rfl⟩
  rw [hT] at HT3 HT1 ⊢
  clear hT hG1 HL1
  go_upto_if 37 with fail
  go_cut [11, 37] (fun s11 c wx => s11 = .int .i64 G1 ∧ w = wx)
  case first =>
    as_aux_lemma =>
    cases T with
    | true =>
      have HE := hide (unhide HT3 rfl)
      clear HT3 HT1
      go_wp2
      go_meet
      exact ⟨by rw [unhide HE], by first | trivial | rfl⟩
    | false =>
      have HE := hide (unhide HT1 rfl)
      clear HT3 HT1
      go_wp2
      go_meet
      exact ⟨by rw [unhide HE], by first | trivial | rfl⟩
  case rest =>
  obtain ⟨rfl, rfl⟩ := hcut
  clear HT3 HT1
  obtain ⟨G12, hG12⟩ : ∃ G, ae noP s p = G := ⟨_, rfl⟩
  have HG12 := hide hG12
  have hGE : EC = G12 := by rw [unhide HCA]; exact hG12
  clear hG12 HCA
  go_upto_block 0 with fail
  go_cut [11] (fun se wx => se = .int .i64 (G12) ∧ w = wx)
  case first =>
    as_aux_lemma =>
    have h0 : Hid ((Hid (G1 = 0) ∧ Hid (∀ i, i < 0 → noP (at0 p i) = false)) ∨ (Hid (G1 ≠ 0) ∧ (G1 == 0) = false ∧ Hid (G1 = G12))) := hide (by
      by_cases h : G1 = 0
      · exact Or.inl ⟨h, hide (fun i hi => by omega)⟩
      · exact Or.inr ⟨h, by rw [beq_eq_false_iff_ne]; exact h, hide (by rw [← unhide HG12, ae_no (by rw [unhide HG1]; exact h), unhide HG1])⟩)
    go_wp2_with fail
    go_loopw [11, 12] (fun e i wr => ∃ (j : Nat) (E1 : Int), j ≤ M1 ∧ i = .int .i64 j ∧ e = .int .i64 E1 ∧ Hid ((Hid (G1 = 0 ∧ E1 = 0) ∧ Hid (∀ i, i < j → noP (at0 p i) = false)) ∨ (Hid (E1 ≠ 0) ∧ (E1 == 0) = false ∧ Hid (E1 = G12))) ∧ w = wr) (fun _ i _ => M1 - (intOf i).toNat)
    case atStart => exact ⟨0, G1, Nat.zero_le _, rfl, rfl, hide (by
      rcases unhide h0 with ⟨h1, h2⟩ | h
      · exact Or.inl ⟨⟨h1, h1⟩, h2⟩
      · exact Or.inr h), rfl⟩
    case round =>
      obtain ⟨j, E1, hj, rfl, rfl, HW, rfl⟩ := hrel
      clear h0
      rcases unhide HW with ⟨HZ, HR⟩ | ⟨HE, hE, HEW⟩
      · obtain ⟨hG0, rfl⟩ := unhide HZ
        have HG0 := hide hG0
        clear HZ HW hG0
        by_cases hlt : j < M1
        · have hlt' : j < p.length := by rw [unhide HM1]; exact hlt
          obtain ⟨b1, off1, rfl, _, hc1⟩ := cell_shr hr1 (by omega)
          have c1 := hc1 j hlt'
          have HBD : Hid (noP (at0 p j) = true → (1 : Int) = G12) := hide (fun h => by rw [← unhide HG12]; exact (ae_at (by rw [unhide HG1]; exact unhide HG0) hlt' h).symm)
          obtain ⟨X, hX⟩ : ∃ X, at0 p j = X := ⟨_, rfl⟩
          have HX := hide hX
          rw [hX] at c1 HBD
          clear hX hc1 hlt'
          by_cases hx1 : X < 0
          · have dx : decide (X < 0) = true := by simpa using hx1
            have HWW := hide (unhide HBD (by simp [noP, hx1]))
            clear HBD HR
            go_wp2
            go_roundw
            case rel => exact ⟨j + 1, 1, by omega, by go_num, by first | rfl | go_num, hide (Or.inr ⟨hide (by omega), by first | trivial | rfl, HWW⟩), by first | trivial | rfl⟩
            case measure => simp [intOf]; omega
          · have dx : decide (X < 0) = false := by simpa using hx1
            by_cases hx2 : 8 < X
            · have dy : decide (8 < X) = true := by simpa using hx2
              have HWW := hide (unhide HBD (by simp [noP, hx2]))
              clear HBD HR
              go_wp2
              go_roundw
              case rel => exact ⟨j + 1, 1, by omega, by go_num, by first | rfl | go_num, hide (Or.inr ⟨hide (by omega), by first | trivial | rfl, HWW⟩), by first | trivial | rfl⟩
              case measure => simp [intOf]; omega
            · have dy : decide (8 < X) = false := by simpa using hx2
              have HR2 : Hid (∀ i, i < j + 1 → noP (at0 p i) = false) := hide (fun i hi => by
                by_cases e : i = j
                · rw [e, unhide HX]; simp [noP]; omega
                · exact unhide HR i (by omega))
              clear HBD HR
              go_wp2
              go_roundw
              case rel => exact ⟨j + 1, 0, by omega, by go_num, by first | rfl | go_num, hide (Or.inl ⟨hide ⟨unhide HG0, rfl⟩, HR2⟩), by first | trivial | rfl⟩
              case measure => simp [intOf]; omega
        · obtain rfl : j = M1 := by omega
          have HWW : Hid ((0 : Int) = G12) := hide (by rw [← unhide HG12]; exact (ae_all (by rw [unhide HG1]; exact unhide HG0) (fun i hi => unhide HR i (by rw [← unhide HM1]; exact hi))).symm)
          clear HR
          go_wp2
          go_meet
          exact ⟨by rw [← unhide HWW], by first | trivial | rfl⟩
      · clear HW
        by_cases hlt : j < M1
        · go_wp2
          go_meet
          exact ⟨by rw [unhide HEW], by first | trivial | rfl⟩
        · obtain rfl : j = M1 := by omega
          go_wp2
          go_meet
          exact ⟨by rw [unhide HEW], by first | trivial | rfl⟩
  case rest =>
  obtain ⟨rfl, rfl⟩ := hcut
  obtain rfl : EC = G12 := hGE
  clear HG12 HG1
  go_upto_if 61 with fail
  go_cut [13, 61] (fun s13 c wx => s13 = .int .i64 CN ∧ Below w.heap.size w wx)
  case first =>
    as_aux_lemma =>
    by_cases hE : EC = 0
    · have dE : (EC == 0) = true := by rw [hE]; rfl
      have c := unhide CRC hE w hr0 hr1
      clear hE CRC HCN
      go_wp2_with fail
      refine c.mono ?_
      clear c
      rintro e w2 ⟨rfl, hb2⟩
      go_wp2
      go_meet
      exact ⟨rfl, hb2⟩
    · have dE : (EC == 0) = false := by rw [beq_eq_false_iff_ne]; exact hE
      have HE := hide (unhide HCN hE)
      clear hE CRC HCN
      go_wp2
      go_meet
      exact ⟨by rw [unhide HE]; rfl, Below.refl _ _⟩
  case rest =>
  obtain ⟨rfl, hB2⟩ := hcut
  clear CRC HCN
  have hCC : ((CN : Int) == (CN : Int)) = true := by simp
  go_wp2_with fail
  refine (unhide CSC wc (hr0.below hB2) (hr1.below hB2)).mono ?_
  rintro e w3 ⟨rfl, hb3⟩
  have hB3 := Below.chain hB2 hb3
  clear hB2 hb3 CSC
  go_wp2_with fail
  refine (error_any _ w3 (hL.below hB3)).mono ?_
  rintro e w5 ⟨rfl, hb5⟩
  have hB5 := Below.chain hB3 hb5
  clear hB3 hb5
  go_upto_region 15 with fail
  go_cut [87] (fun c wx => c = .bool (decide (F = 0 ∧ M2 ≠ N)) ∧ w5 = wx)
  case first =>
    as_aux_lemma =>
    by_cases hF : F = 0
    · have dF : (F == 0) = true := by rw [hF]; rfl
      by_cases hM : M2 = N
      · have dM : ((M2 : Int) != (N : Int)) = false := by rw [hM]; simp
        have HT : Hid (decide (F = 0 ∧ M2 ≠ N) = false) := hide (by simp [hM])
        clear hF hM
        go_wp2
        go_meet
        exact ⟨by rw [unhide HT], by first | trivial | rfl⟩
      · have dM : ((M2 : Int) != (N : Int)) = true := by rw [bne_iff_ne]; omega
        have HT : Hid (decide (F = 0 ∧ M2 ≠ N) = true) := hide (by simp [hM, hF])
        clear hF hM
        go_wp2
        go_meet
        exact ⟨by rw [unhide HT], by first | trivial | rfl⟩
    · have dF : (F == 0) = false := by rw [beq_eq_false_iff_ne]; exact hF
      have HT : Hid (decide (F = 0 ∧ M2 ≠ N) = false) := hide (by simp [hF])
      clear hF
      go_wp2
      go_meet
      exact ⟨by rw [unhide HT], by first | trivial | rfl⟩
  case rest =>
  obtain ⟨rfl, rfl⟩ := hcut
  obtain ⟨G3, hG3⟩ : ∃ G, le s d = G := ⟨_, rfl⟩
  have HG3 := hide hG3
  have HT3 : Hid (decide (F = 0 ∧ M2 ≠ N) = true → G3 = 3) := hide (fun h => by
    have h := of_decide_eq_true h
    rw [← hG3, unhide HL2, if_pos h.1, if_neg h.2])
  have HT1 : Hid (decide (F = 0 ∧ M2 ≠ N) = false → F = G3) := hide (fun h => by
    have h := of_decide_eq_false h
    rw [← hG3, unhide HL2]
    by_cases hF : F = 0
    · rw [if_pos hF, if_pos (Decidable.byContradiction fun hM => h ⟨hF, hM⟩)]; exact hF
    · rw [if_neg hF])
  obtain ⟨T, hT⟩ : ∃ T, decide (F = 0 ∧ M2 ≠ N) = T := ⟨_, rfl⟩
  rw [hT] at HT3 HT1 ⊢
  clear hT hG3 HL2
  go_upto_if 87 with fail
  go_cut [10, 87] (fun s10 c wx => s10 = .int .i64 G3 ∧ w5 = wx)
  case first =>
    as_aux_lemma =>
    cases T with
    | true =>
      have HE := hide (unhide HT3 rfl)
      clear HT3 HT1
      go_wp2
      go_meet
      exact ⟨by rw [unhide HE], by first | trivial | rfl⟩
    | false =>
      have HE := hide (unhide HT1 rfl)
      clear HT3 HT1
      go_wp2
      go_meet
      exact ⟨by rw [unhide HE], by first | trivial | rfl⟩
  case rest =>
  obtain ⟨rfl, rfl⟩ := hcut
  clear HT3 HT1
  have rd2 := hr2.below hB5
  obtain ⟨G32, hG32⟩ : ∃ G, ae lou s d = G := ⟨_, rfl⟩
  have HG32 := hide hG32
  rw [hG32] at HOA
  clear hG32
  go_upto_block 2 with fail
  go_cut [10] (fun se wx => se = .int .i64 (G32) ∧ w5 = wx)
  case first =>
    as_aux_lemma =>
    have h0 : Hid ((Hid (G3 = 0) ∧ Hid (∀ i, i < 0 → lou (at0 d i) = false)) ∨ (Hid (G3 ≠ 0) ∧ (G3 == 0) = false ∧ Hid (G3 = G32))) := hide (by
      by_cases h : G3 = 0
      · exact Or.inl ⟨h, hide (fun i hi => by omega)⟩
      · exact Or.inr ⟨h, by rw [beq_eq_false_iff_ne]; exact h, hide (by rw [← unhide HG32, ae_no (by rw [unhide HG3]; exact h), unhide HG3])⟩)
    go_wp2_with fail
    go_loopw [10, 17] (fun e i wr => ∃ (j : Nat) (E1 : Int), j ≤ M2 ∧ i = .int .i64 j ∧ e = .int .i64 E1 ∧ Hid ((Hid (G3 = 0 ∧ E1 = 0) ∧ Hid (∀ i, i < j → lou (at0 d i) = false)) ∨ (Hid (E1 ≠ 0) ∧ (E1 == 0) = false ∧ Hid (E1 = G32))) ∧ w5 = wr) (fun _ i _ => M2 - (intOf i).toNat)
    case atStart => exact ⟨0, G3, Nat.zero_le _, rfl, rfl, hide (by
      rcases unhide h0 with ⟨h1, h2⟩ | h
      · exact Or.inl ⟨⟨h1, h1⟩, h2⟩
      · exact Or.inr h), rfl⟩
    case round =>
      obtain ⟨j, E1, hj, rfl, rfl, HW, rfl⟩ := hrel
      clear h0
      rcases unhide HW with ⟨HZ, HR⟩ | ⟨HE, hE, HEW⟩
      · obtain ⟨hG0, rfl⟩ := unhide HZ
        have HG0 := hide hG0
        clear HZ HW hG0
        by_cases hlt : j < M2
        · have hlt' : j < d.length := by rw [unhide HM2]; exact hlt
          obtain ⟨b1, off1, rfl, _, hc1⟩ := cell_shr rd2 (by omega)
          have c1 := hc1 j hlt'
          have HBD : Hid (lou (at0 d j) = true → (1 : Int) = G32) := hide (fun h => by rw [← unhide HG32]; exact (ae_at (by rw [unhide HG3]; exact unhide HG0) hlt' h).symm)
          obtain ⟨X, hX⟩ : ∃ X, at0 d j = X := ⟨_, rfl⟩
          have HX := hide hX
          rw [hX] at c1 HBD
          clear hX hc1 hlt'
          by_cases hx1 : X < 0
          · have dx : decide (X < 0) = true := by simpa using hx1
            have HWW := hide (unhide HBD (by simp [lou, hx1]))
            clear HBD HR
            go_wp2
            go_roundw
            case rel => exact ⟨j + 1, 1, by omega, by go_num, by first | rfl | go_num, hide (Or.inr ⟨hide (by omega), by first | trivial | rfl, HWW⟩), by first | trivial | rfl⟩
            case measure => simp [intOf]; omega
          · have dx : decide (X < 0) = false := by simpa using hx1
            by_cases hx2 : 8000 < X
            · have dy : decide (8000 < X) = true := by simpa using hx2
              have HWW := hide (unhide HBD (by simp [lou, hx2]))
              clear HBD HR
              go_wp2
              go_roundw
              case rel => exact ⟨j + 1, 1, by omega, by go_num, by first | rfl | go_num, hide (Or.inr ⟨hide (by omega), by first | trivial | rfl, HWW⟩), by first | trivial | rfl⟩
              case measure => simp [intOf]; omega
            · have dy : decide (8000 < X) = false := by simpa using hx2
              have HR2 : Hid (∀ i, i < j + 1 → lou (at0 d i) = false) := hide (fun i hi => by
                by_cases e : i = j
                · rw [e, unhide HX]; simp [lou]; omega
                · exact unhide HR i (by omega))
              clear HBD HR
              go_wp2
              go_roundw
              case rel => exact ⟨j + 1, 0, by omega, by go_num, by first | rfl | go_num, hide (Or.inl ⟨hide ⟨unhide HG0, rfl⟩, HR2⟩), by first | trivial | rfl⟩
              case measure => simp [intOf]; omega
        · obtain rfl : j = M2 := by omega
          have HWW : Hid ((0 : Int) = G32) := hide (by rw [← unhide HG32]; exact (ae_all (by rw [unhide HG3]; exact unhide HG0) (fun i hi => unhide HR i (by rw [← unhide HM2]; exact hi))).symm)
          clear HR
          go_wp2
          go_meet
          exact ⟨by rw [← unhide HWW], by first | trivial | rfl⟩
      · clear HW
        by_cases hlt : j < M2
        · go_wp2
          go_meet
          exact ⟨by rw [unhide HEW], by first | trivial | rfl⟩
        · obtain rfl : j = M2 := by omega
          go_wp2
          go_meet
          exact ⟨by rw [unhide HEW], by first | trivial | rfl⟩
  case rest =>
  obtain ⟨rfl, rfl⟩ := hcut
  clear HG32 HG3 rd2
  go_upto_region 22 with fail
  go_cut [119] (fun c wx => c = .bool (decide (G32 = 0 ∧ (B < 0 ∨ 400 < B))) ∧ w5 = wx)
  case first =>
    as_aux_lemma =>
    by_cases hG : G32 = 0
    · have dG : (G32 == 0) = true := by rw [hG]; rfl
      by_cases h1 : B < 0
      · have d1 : decide (B < 0) = true := by simpa using h1
        have HT : Hid (decide (G32 = 0 ∧ (B < 0 ∨ 400 < B)) = true) := hide (by simp [hG, h1])
        clear hG
        go_wp2
        go_meet
        exact ⟨by rw [unhide HT], by first | trivial | rfl⟩
      · have d1 : decide (B < 0) = false := by simpa using h1
        by_cases h2 : 400 < B
        · have d2 : decide (400 < B) = true := by simpa using h2
          have HT : Hid (decide (G32 = 0 ∧ (B < 0 ∨ 400 < B)) = true) := hide (by simp [hG, h2])
          clear hG
          go_wp2
          go_meet
          exact ⟨by rw [unhide HT], by first | trivial | rfl⟩
        · have d2 : decide (400 < B) = false := by simpa using h2
          have HT : Hid (decide (G32 = 0 ∧ (B < 0 ∨ 400 < B)) = false) := hide (by rw [decide_eq_false_iff_not]; omega)
          clear hG
          go_wp2
          go_meet
          exact ⟨by rw [unhide HT], by first | trivial | rfl⟩
    · have dG : (G32 == 0) = false := by rw [beq_eq_false_iff_ne]; exact hG
      have HT : Hid (decide (G32 = 0 ∧ (B < 0 ∨ 400 < B)) = false) := hide (by rw [decide_eq_false_iff_not]; exact fun k => hG k.1)
      clear hG
      go_wp2
      go_meet
      exact ⟨by rw [unhide HT], by first | trivial | rfl⟩
  case rest =>
  obtain ⟨rfl, rfl⟩ := hcut
  have HT3 : Hid (decide (G32 = 0 ∧ (B < 0 ∨ 400 < B)) = true → EO = 1) := hide (fun h => by
    rw [unhide HOA, if_pos (of_decide_eq_true h)])
  have HT1 : Hid (decide (G32 = 0 ∧ (B < 0 ∨ 400 < B)) = false → G32 = EO) := hide (fun h => by
    rw [unhide HOA, if_neg (of_decide_eq_false h)])
  obtain ⟨T, hT⟩ : ∃ T, decide (G32 = 0 ∧ (B < 0 ∨ 400 < B)) = T := ⟨_, rfl⟩
  rw [hT] at HT3 HT1 ⊢
  clear hT HOA
  go_upto_if 119 with fail
  go_cut [10, 119] (fun s10 c wx => s10 = .int .i64 EO ∧ w5 = wx)
  case first =>
    as_aux_lemma =>
    cases T with
    | true =>
      have HE := hide (unhide HT3 rfl)
      clear HT3 HT1
      go_wp2
      go_meet
      exact ⟨by rw [unhide HE], by first | trivial | rfl⟩
    | false =>
      have HE := hide (unhide HT1 rfl)
      clear HT3 HT1
      go_wp2
      go_meet
      exact ⟨by rw [unhide HE], by first | trivial | rfl⟩
  case rest =>
  obtain ⟨rfl, rfl⟩ := hcut
  clear HT3 HT1
  go_upto_if 121 with fail
  go_cut [18, 19, 121] (fun s18 s19 c wx => ∃ q c, s18 = .slice q K c ∧ s19 = .int .i64 LN ∧ Row wx q OL ∧ Below w.heap.size w wx)
  case first =>
    as_aux_lemma =>
    by_cases hE : EO = 0
    · have dE : (EO == 0) = true := by rw [hE]; rfl
      have c := unhide CRS hE w5 (hr0.below hB5) (hr2.below hB5)
      have c2 := hide (unhide CRC2 hE)
      obtain ⟨l1, l2, l3⟩ := unhide HLN hE
      have wL : IntKind.i64.wrap (B - (B - LN)) = LN := by rw [show B - (B - LN) = LN by omega]; exact IntWalk.i64_in _ (by omega)
      clear hE CRS CRC2 HLN HON
      go_wp2_with fail
      refine c.mono ?_
      clear c
      rintro e w6 ⟨q6, c6, rfl, r6, hb6⟩
      have hB6 := Below.chain hB5 hb6
      have c3 := unhide c2 w6 q6 c6 (hr0.below hB6) r6
      obtain ⟨Y, hY⟩ : ∃ Y, B - LN = Y := ⟨_, rfl⟩
      rw [hY] at c3 wL
      clear c2 hb6 hY
      go_wp2_with fail
      refine c3.mono ?_
      clear c3
      rintro e w7 ⟨rfl, hb7⟩
      have r7 := r6.below hb7
      go_wp2
      go_meet
      exact ⟨q6, c6, rfl, by first | rfl | trivial, r7, Below.chain hB6 hb7⟩
    · have dE : (EO == 0) = false := by rw [beq_eq_false_iff_ne]; exact hE
      obtain ⟨h1, h2⟩ := unhide HON hE
      have HO := hide h1
      have HL := hide h2
      have HK0 : Hid (K = 0) := hide (by rw [← unhide HK, h1]; rfl)
      clear hE h1 h2 CRS CRC2 HLN HON
      go_wp2
      go_meet
      exact ⟨none, 0, by rw [unhide HK0], by rw [unhide HL], Or.inl (unhide HO), hB5⟩
  case rest =>
  obtain ⟨q8, c8, rfl, rfl, r8, hB8⟩ := hcut
  clear CRS CRC2 HLN HON hB5
  have hLL : (LN == LN) = true := by simp
  go_wp2_with fail
  refine (unhide CSO wc (hr0.below hB8) (hr2.below hB8)).mono ?_
  rintro e w9 ⟨q9, c9, rfl, r9, hb9⟩
  have hB9 := Below.chain hB8 hb9
  have r8' := r8.below hb9
  clear r8 hB8 hb9 CSO
  go_wp2_with fail
  refine (error_any _ w9 (hL.below hB9)).mono ?_
  rintro e w10 ⟨rfl, hb10⟩
  have hB10 := Below.chain hB9 hb10
  have r8 := r8'.below hb10
  have r9' := r9.below hb10
  clear r8' r9 hB9 hb10
  go_wp2_with fail
  refine (unhide CI q9 c9 q8 c8 w10 r9' r8).mono ?_
  rintro e w11 ⟨rfl, hb11⟩
  have hB11 := Below.chain hB10 hb11
  clear r8 r9' hB10 hb11
  go_wp2_with fail
  refine (unhide CSL w11 (hr0.below hB11) (hr2.below hB11)).mono ?_
  rintro e w12 ⟨rfl, hb12⟩
  have hB12 := Below.chain hB11 hb12
  go_wp2_with fail
  refine (error_any _ w12 (hL.below hB12)).mono ?_
  rintro e w13 ⟨rfl, hb13⟩
  go_wp2
  go_ret
  exact ⟨rfl, Below.chain hB12 hb13⟩

end Go.Proofs.YtlklnjaihbjfiahDoor.ShareTellsLaw
