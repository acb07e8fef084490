/-
  (*run.desk).answer, where the line's word is the fourth.
-/
import Derived.Test.YtkkhgdkgbhdfaakGreatDoorRa32
import Derived.Test.YtkkhgdkgbhdfaakGreatDoorRa10
import Derived.Test.YtkkhgdkgbhdfaakGreatDoorRa06
namespace Go.Proofs.YtkkhgdkgbhdfaakGreatDoor.Lb
open Go.RowKit
open Go.Proofs.YtkkhgdkgbhdfaakGreatDoor.Tre Go.Proofs.YtkkhgdkgbhdfaakGreatDoor.Hrn Go.Proofs.YtkkhgdkgbhdfaakGreatDoor.Txt Go.Proofs.YtkkhgdkgbhdfaakGreatDoor.Ses Go.Proofs.YtkkhgdkgbhdfaakGreatDoor.Tnk Go.Proofs.YtkkhgdkgbhdfaakGreatDoor.Ev
set_option linter.unusedVariables false

set_option maxRecDepth 100000 in
set_option maxHeartbeats 16000000 in
theorem ansK4 {l : List Int} (hb : Byts l) (hl : l.length ≤ 3000) (D M : Nat) (H : Int) (w : World) (hL : Lib20 w) (hg : 9 ≤ w.heap.size) (hgD : 9 ≤ D) (hD : Desk w D M H) (hO : Ok 100 20 H) (hk : kind (hd l) = 4) :
    Calls Tryz.prog 42 #[.pointer (some ⟨D, 0, none⟩), .string (str l)] w fun e w' => AnsSays D M H l w e w' := by
  have HPO : Hid (∀ o H' w', Line H l o H' → Desk w' D M H' → But D w w' → AnsSays D M H l w (.returned (.string (str o))) w') := hide (fun o H' w' h1 h2 h3 => ⟨o, H', rfl, h1, h2, h3⟩)
  have HOK : Hid (∀ n, Reads l n → ∀ o H' w', Ans 4 n H o H' → Desk w' D M H' → But D w w' → AnsSays D M H l w (.returned (.string (str o))) w') := hide (fun n hn o H' w' h1 h2 h3 => ⟨o, H', rfl, Or.inr ⟨n, hn, by rw [hk]; exact h1⟩, h2, h3⟩)
  have HRI : Hid (∀ n, Reads l n → (many 4 ≤ n.length ∧ (more 4 = false → n.length = many 4) ∧ n.length ≤ 3000) ∧ ∀ j, j < n.length → -9999 ≤ at0 n j ∧ at0 n j ≤ 9999 ∧ (j < below 4 → 0 ≤ at0 n j)) := hide (fun n hn => by
    have h1 := reads_length hn
    have h2 := reads_in hn
    rw [hk] at h1 h2
    exact ⟨⟨h1.1, h1.2.1, by omega⟩, h2⟩)
  have cR := read20 hb hl D M H w hL hg hD
  have hbh : Byts (hd l) := by
    have := word_byts hb (j := 0) (List.length_pos_iff.2 (cut_ne 32 l))
    rw [cut_head] at this
    exact this
  have q1 : ((str (hd l)).toList == ([99, 111, 117, 110, 116] : List UInt8)) = false := by rw [is_kCount hbh, hk]; rfl
  have q2 : ((str (hd l)).toList == ([114, 97, 110, 107] : List UInt8)) = false := by rw [is_kRank hbh, hk]; rfl
  have q3 : ((str (hd l)).toList == ([114, 111, 119] : List UInt8)) = false := by rw [is_kRow hbh, hk]; rfl
  have q4 : ((str (hd l)).toList == ([110, 101, 97, 114] : List UInt8)) = true := by rw [is_kNear hbh, hk]; rfl
  have q5 : ((str (hd l)).toList == ([103, 97, 105, 110] : List UInt8)) = false := by rw [is_kGain hbh, hk]; rfl
  have q6 : ((str (hd l)).toList == ([116, 117, 114, 110] : List UInt8)) = false := by rw [is_kTurn hbh, hk]; rfl
  have q7 : ((str (hd l)).toList == ([109, 97, 121] : List UInt8)) = false := by rw [is_kMay hbh, hk]; rfl
  clear hbh hk
  go_enter Tryz.func42, Tryz.ntmps42
  go_wp2_with fail
  refine cR.mono ?_
  rintro e w1 ⟨hsay, hb1⟩
  have hD1 := hD.below hb1
  have hL1 := hL.on hb1 hg
  have hg1 : 9 ≤ w1.heap.size := Nat.le_trans hg hb1.size
  have hB1 : But D w w1 := But.of_below hb1
  have HD1 := hide hD1
  have HL1 := hide hL1
  clear cR hD hL hg hb1 hD1 hL1
  rcases hsay with ⟨n, v, hR, rfl, hv⟩ | ⟨hR, rfl⟩
  · have HFIN : Hid (∀ o H' w', Ans 4 n H o H' → Desk w' D M H' → But D w1 w' → AnsSays D M H l w (.returned (.string (str o))) w') := hide (fun o H' w' h1 h2 h3 => unhide HOK n hR o H' w' h1 h2 (hB1.trans h3))
    obtain ⟨⟨y1, y2, y3⟩, y4⟩ := unhide HRI n hR
    have y1' : 2 ≤ n.length := y1
    have HY4 := hide y4
    skip
    clear HOK HRI hR y1 y2 y4 HPO
    obtain ⟨X, hX⟩ : ∃ X, str (hd l) = X := ⟨_, rfl⟩
    rw [hX] at q1 q2 q3 q4 q5 q6 q7 ⊢
    clear hX
    obtain ⟨g, c, rfl, hgb, hgl, hc1, hc2⟩ := hv.one (by omega)
    have c0 := hv.get (j := 0) (by omega)
    have i0 := unhide HY4 0 (by omega)
    have z0 := i0.2.2 (by decide)
    have hrow : Row w1 (some ⟨g, 0, none⟩) n := (hv.inRow rfl).2
    obtain ⟨A, hA0, hrA⟩ := row_rest hrow c hc1 (t := 1) (by omega)
    have hA : ∀ W, (Instr.slice 22 (.slice (some ⟨g, 0, none⟩) n.length c) (some (.int .i64 1)) none none).run Tryz.prog W = .ok (.slice A (n.length - 1) (c - 1)) W := fun W => hA0 W
    clear hA0
    obtain ⟨k, hk⟩ : ∃ k : Nat, at0 n 0 = k := ⟨(at0 n 0).toNat, by omega⟩
    have hvl : (n.drop 1).length = n.length - 1 := by simp
    have HNF : Hid (nearF n = if 6 < (n.drop 1).length then 4 else if (n.drop 1).any (out 1000) = true then 1 else if 8 < (k : Int) then 1 else if 0 < (k : Int) ∧ Pls.loud (n.drop 1) = 0 then 5 else 0) := hide (by
      unfold nearF
      rw [hk, hvl]
      have : (7 < n.length) = (6 < n.length - 1) := by simp; omega
      simp only [this])
    rw [hk] at c0 i0 z0
    have X0 : ∀ W : Itr.Cls w1, W.val.cell? ⟨g, 0, none⟩ = _ := fun W => W.cell hgl c0
    have HA1 : Hid (∀ E, nearF n = E → E ≠ 0 → Ans 4 n H (name E) H) := hide (fun E h h2 => ⟨rfl, Or.inl ⟨by rw [h]; exact h2, by rw [h]⟩⟩)
    have HA2 : Hid (∀ m, nearF n = 0 → Nea.Near (n.drop 1) k m → Ans 4 n H (tell m) H) := hide (fun m h h2 => ⟨rfl, Or.inr ⟨h, m, by rw [hk]; simpa using h2, rfl⟩⟩)
    clear hv HY4 hrow hk
    obtain ⟨V, hV⟩ : ∃ V, n.drop 1 = V := ⟨_, rfl⟩
    rw [hV] at hrA hvl HNF HA2
    obtain ⟨N, hN⟩ : ∃ N, n.length = N := ⟨_, rfl⟩
    rw [hN] at hA hvl y3 y1' ⊢
    clear hV hN
    by_cases h0 : Nea.vf V = 0
    · obtain ⟨h6, hin0⟩ := Nea.vf_ok h0
      have hany : ¬ V.any (out 1000) = true := by
        intro h
        unfold Nea.vf at h0
        rw [if_neg (by omega), if_pos h] at h0
        omega
      by_cases h8 : k ≤ 8
      · by_cases hz : 0 < k ∧ Pls.loud V = 0
        · have HO := hide (fun w' => unhide HFIN (name 5) H w' (unhide HA1 5 (by rw [unhide HNF, if_neg (by omega), if_neg hany, if_neg (by omega), if_pos (by omega)]) (by omega)))
          have CO := hide (fun (W : World) (hW : Row W A V) => Nea.of_none A (c - 1) V k W hW (hide h0) hz.1 h8 (hide hz.2))
          have CO : Hid (∀ W : Itr.Cls w1, _) := hide (fun W : Itr.Cls w1 => unhide CO W.val (hrA.below W.ok))
          rw [hvl] at CO
          clear HFIN HA1 HA2 HNF h0 hin0 hany hz hrA
          go_wp2
          refine Itr.region_calm (by kernel_rfl) (by kernel_rfl) ?_
          repeat (go_big_quiet_step ((go_at_call 73; exact Itr.calm_call (unhide CO _))))
          refine wpQuiet_nil ?_
          intro _ hw'
          obtain ⟨WQ, hw2⟩ := hw'
          subst hw2
          have hb2 := WQ.ok
          obtain ⟨w2, hW2⟩ : ∃ w2, WQ.val = w2 := ⟨_, rfl⟩
          rw [hW2] at hb2 ⊢
          clear hW2
          have cT := told_err (5) (by omega) (by omega) (.slice none 0 0) (w2) ((unhide HL1).on hb2 hg1) (Nat.le_trans hg1 (hb2).size)
          clear HL1
          go_wp2_with fail
          refine cT.mono ?_
          rintro e w3 ⟨rfl, hb3⟩
          have hb3' := Below.chain hb2 hb3
          go_wp2
          go_ret
          exact unhide HO _ ((unhide HD1).below hb3') (But.of_below hb3')
        · have HO := hide (fun (m : List Int) (hm : Nea.Near V k m) w' => unhide HFIN (tell m) H w' (unhide HA2 m (by rw [unhide HNF, if_neg (by omega), if_neg hany, if_neg (by omega), if_neg (by omega)]) hm))
          have CO : Hid (∀ W, Below w1.heap.size w1 W → _) := hide (fun W (hW : Below w1.heap.size w1 W) => Nea.of_ok A (c - 1) V k W (hrA.below hW) (hide h0) h8 (hide (by omega)))
          rw [hvl] at CO
          have HLM : Hid (∀ m, Nea.Near V k m → m.length ≤ 6 ∧ Pls.loud m = k) := hide (fun m hm => ⟨by rw [hm.len]; exact h6, hm.loud (by omega)⟩)
          clear HFIN HA1 HA2 HNF h0 hin0 hany hz hrA X0
          go_wp2
          go_region_with (
            go_at_call 73
            refine (unhide CO _ ?_).mono ?_
            · exact ⟨rfl, rfl, rfl, Nat.le_refl _, fun _ _ => rfl⟩
            rintro e w2 ⟨u, m, rfl, hu, HI, hb2⟩)
          all_goals (
            have hb2' : Below w1.heap.size w1 w2 := (show Below w1.heap.size w1 w1.drew from ⟨rfl, rfl, rfl, Nat.le_refl _, fun _ _ => rfl⟩).trans hb2
            obtain ⟨hlm, hll⟩ := unhide HLM m (unhide HI)
            have hin := Pls.loud_all (b := 8) (l := m) (by omega)
            have hi1 : Hid (∀ j, j < m.length → -9223372036854775808 ≤ at0 m j ∧ at0 m j ≤ 9223372036854775807) := hide (fun j hj => by have := hin.at (by omega) j; omega)
            obtain ⟨ad, cap, rfl, hr⟩ := hu.row
            have cT := told_ok ad cap m w2 hr (by omega) hi1 ((unhide HL1).on hb2' hg1) (Nat.le_trans hg1 hb2'.size)
            clear hin hu hr
            go_wp2_with fail
            refine cT.mono ?_
            rintro e w3 ⟨rfl, hb3⟩
            have hb3' := Below.chain hb2' hb3
            go_wp2
            go_ret
            exact unhide HO m (unhide HI) _ ((unhide HD1).below hb3') (But.of_below hb3'))
      · have HO := hide (fun w' => unhide HFIN (name 1) H w' (unhide HA1 1 (by rw [unhide HNF, if_neg (by omega), if_neg hany, if_pos (by omega)]) (by omega)))
        have CO : Hid (∀ W : Itr.Cls w1, _) := hide (fun W : Itr.Cls w1 => Nea.of_range A (c - 1) V k W.val (hrA.below W.ok) (hide h0) (Or.inr ⟨by omega, by omega⟩))
        rw [hvl] at CO
        clear HFIN HA1 HA2 HNF h0 hin0 hany hrA
        go_wp2
        refine Itr.region_calm (by kernel_rfl) (by kernel_rfl) ?_
        repeat (go_big_quiet_step ((go_at_call 73; exact Itr.calm_call (unhide CO _))))
        refine wpQuiet_nil ?_
        intro _ hw'
        obtain ⟨WQ, hw2⟩ := hw'
        subst hw2
        have hb2 := WQ.ok
        obtain ⟨w2, hW2⟩ : ∃ w2, WQ.val = w2 := ⟨_, rfl⟩
        rw [hW2] at hb2 ⊢
        clear hW2
        have cT := told_err (1) (by omega) (by omega) (.slice none 0 0) (w2) ((unhide HL1).on hb2 hg1) (Nat.le_trans hg1 (hb2).size)
        clear HL1
        go_wp2_with fail
        refine cT.mono ?_
        rintro e w3 ⟨rfl, hb3⟩
        have hb3' := Below.chain hb2 hb3
        go_wp2
        go_ret
        exact unhide HO _ ((unhide HD1).below hb3') (But.of_below hb3')
    · have hE : nearF n = Nea.vf V := by
        rw [unhide HNF]
        unfold Nea.vf at h0 ⊢
        by_cases h1 : 6 < V.length
        · rw [if_pos h1, if_pos h1]
        · rw [if_neg h1] at h0
          rw [if_neg h1, if_neg h1]
          by_cases h2 : V.any (out 1000) = true
          · rw [if_pos h2, if_pos h2]
          · rw [if_neg h2] at h0
            exact absurd rfl h0
      have hE9 : 0 ≤ Nea.vf V ∧ Nea.vf V ≤ 8 := by
        unfold Nea.vf
        repeat' split
        all_goals omega
      have HO := hide (fun w' => unhide HFIN (name (Nea.vf V)) H w' (unhide HA1 _ hE h0))
      have CO : Hid (∀ W : Itr.Cls w1, _) := hide (fun W : Itr.Cls w1 => Nea.of_no A (c - 1) V k W.val (by omega) (hrA.below W.ok) (hide h0))
      rw [hvl] at CO
      obtain ⟨E, hE2⟩ : ∃ E, Nea.vf V = E := ⟨_, rfl⟩
      rw [hE2] at HO CO hE9
      clear HFIN HA1 HA2 HNF h0 hE hE2 hrA
      go_wp2
      refine Itr.region_calm (by kernel_rfl) (by kernel_rfl) ?_
      repeat (go_big_quiet_step ((go_at_call 73; exact Itr.calm_call (unhide CO _))))
      refine wpQuiet_nil ?_
      intro _ hw'
      obtain ⟨WQ, hw2⟩ := hw'
      subst hw2
      have hb2 := WQ.ok
      obtain ⟨w2, hW2⟩ : ∃ w2, WQ.val = w2 := ⟨_, rfl⟩
      rw [hW2] at hb2 ⊢
      clear hW2
      have cT := told_err (E) (by omega) (by omega) (.slice none 0 0) (w2) ((unhide HL1).on hb2 hg1) (Nat.le_trans hg1 (hb2).size)
      clear HL1
      go_wp2_with fail
      refine cT.mono ?_
      rintro e w3 ⟨rfl, hb3⟩
      have hb3' := Below.chain hb2 hb3
      go_wp2
      go_ret
      exact unhide HO _ ((unhide HD1).below hb3') (But.of_below hb3')
  · have HR := hide hR
    have cT := told_bad (.slice none 0 0) w1 (unhide HL1)
    clear hR HOK HRI q1 q2 q3 q4 q5 q6 q7
    unfold badV at cT ⊢
    go_wp2_with fail
    refine cT.mono ?_
    rintro e w2 ⟨rfl, hb2⟩
    go_wp2
    go_ret
    exact unhide HPO bad H _ (Or.inl ⟨unhide HR, rfl, rfl⟩) ((unhide HD1).below hb2) (hB1.trans (But.of_below hb2))

end Go.Proofs.YtkkhgdkgbhdfaakGreatDoor.Lb
