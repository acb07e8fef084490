/-
  (*run.desk).answer, where the line's word is the third.
-/
import Derived.Test.YtkkhgdkgbhdfaakGreatDoorRa32
import Derived.Test.YtkkhgdkgbhdfaakGreatDoorRa24
import Derived.Deep.CutBlock
import Derived.Deep.DeepCutAuto
namespace Go.Proofs.YtkkhgdkgbhdfaakGreatDoor.Lb
open Go.RowKit
open Go.Proofs.YtkkhgdkgbhdfaakGreatDoor.Tre Go.Proofs.YtkkhgdkgbhdfaakGreatDoor.Hrn Go.Proofs.YtkkhgdkgbhdfaakGreatDoor.Txt Go.Proofs.YtkkhgdkgbhdfaakGreatDoor.Ses Go.Proofs.YtkkhgdkgbhdfaakGreatDoor.Tnk Go.Proofs.YtkkhgdkgbhdfaakGreatDoor.Ev
set_option linter.unusedVariables false

set_option maxRecDepth 100000 in
set_option maxHeartbeats 16000000 in
theorem ansK3 {l : List Int} (hb : Byts l) (hl : l.length ≤ 3000) (D M : Nat) (H : Int) (w : World) (hL : Lib20 w) (hg : 9 ≤ w.heap.size) (hgD : 9 ≤ D) (hD : Desk w D M H) (hO : Ok 100 20 H) (hk : kind (hd l) = 3) :
    Calls Tryz.prog 42 #[.pointer (some ⟨D, 0, none⟩), .string (str l)] w fun e w' => AnsSays D M H l w e w' := by
  have HPO : Hid (∀ o H' w', Line H l o H' → Desk w' D M H' → But D w w' → AnsSays D M H l w (.returned (.string (str o))) w') := hide (fun o H' w' h1 h2 h3 => ⟨o, H', rfl, h1, h2, h3⟩)
  have HOK : Hid (∀ n, Reads l n → ∀ o H' w', Ans 3 n H o H' → Desk w' D M H' → But D w w' → AnsSays D M H l w (.returned (.string (str o))) w') := hide (fun n hn o H' w' h1 h2 h3 => ⟨o, H', rfl, Or.inr ⟨n, hn, by rw [hk]; exact h1⟩, h2, h3⟩)
  have HRI : Hid (∀ n, Reads l n → (many 3 ≤ n.length ∧ (more 3 = false → n.length = many 3) ∧ n.length ≤ 3000) ∧ ∀ j, j < n.length → -9999 ≤ at0 n j ∧ at0 n j ≤ 9999 ∧ (j < below 3 → 0 ≤ at0 n j)) := hide (fun n hn => by
    have h1 := reads_length hn
    have h2 := reads_in hn
    rw [hk] at h1 h2
    exact ⟨⟨h1.1, h1.2.1, by omega⟩, h2⟩)
  have cR := read20 hb hl D M H w hL hg hD
  have hbh : Byts (hd l) := by
    have := word_byts hb (j := 0) (List.length_pos_iff.2 (cut_ne 32 l))
    rw [cut_head] at this
    exact this
  have q1 : ((str (hd l)).toList == ([99, 111, 117, 110, 116] : List UInt8)) = false := by rw [is_kCount hbh, hk]; rfl
  have q2 : ((str (hd l)).toList == ([114, 97, 110, 107] : List UInt8)) = false := by rw [is_kRank hbh, hk]; rfl
  have q3 : ((str (hd l)).toList == ([114, 111, 119] : List UInt8)) = true := by rw [is_kRow hbh, hk]; rfl
  have q4 : ((str (hd l)).toList == ([110, 101, 97, 114] : List UInt8)) = false := by rw [is_kNear hbh, hk]; rfl
  have q5 : ((str (hd l)).toList == ([103, 97, 105, 110] : List UInt8)) = false := by rw [is_kGain hbh, hk]; rfl
  have q6 : ((str (hd l)).toList == ([116, 117, 114, 110] : List UInt8)) = false := by rw [is_kTurn hbh, hk]; rfl
  have q7 : ((str (hd l)).toList == ([109, 97, 121] : List UInt8)) = false := by rw [is_kMay hbh, hk]; rfl
  clear hbh hk
  go_enter Tryz.func42, Tryz.ntmps42
  go_wp2_with fail
  refine cR.mono ?_
  rintro e w1 ⟨hsay, hb1⟩
  have hD1 := hD.below hb1
  have hL1 := hL.on hb1 hg
  have hg1 : 9 ≤ w1.heap.size := Nat.le_trans hg hb1.size
  have hB1 : But D w w1 := But.of_below hb1
  have HD1 := hide hD1
  have HL1 := hide hL1
  clear cR hD hL hg hb1 hD1 hL1
  rcases hsay with ⟨n, v, hR, rfl, hv⟩ | ⟨hR, rfl⟩
  · have HFIN : Hid (∀ o H' w', Ans 3 n H o H' → Desk w' D M H' → But D w1 w' → AnsSays D M H l w (.returned (.string (str o))) w') := hide (fun o H' w' h1 h2 h3 => unhide HOK n hR o H' w' h1 h2 (hB1.trans h3))
    obtain ⟨⟨y1, y2, y3⟩, y4⟩ := unhide HRI n hR
    have y1' : 3 ≤ n.length := y1
    have HY4 := hide y4
    have y2' : n.length = 3 := y2 rfl
    clear HOK HRI hR y1 y2 y4 HPO
    obtain ⟨X, hX⟩ : ∃ X, str (hd l) = X := ⟨_, rfl⟩
    rw [hX] at q1 q2 q3 q4 q5 q6 q7 ⊢
    clear hX
    obtain ⟨g, c, rfl, hgb, hgl, hc1, hc2⟩ := hv.one (by omega)
    have c0 := hv.get (j := 0) (by omega)
    have i0 := unhide HY4 0 (by omega)
    have c1 := hv.get (j := 1) (by omega)
    have i1 := unhide HY4 1 (by omega)
    have c2 := hv.get (j := 2) (by omega)
    have i2 := unhide HY4 2 (by omega)
    have z0 := i0.2.2 (by decide)
    have z1 := i1.2.2 (by decide)
    have z2 := i2.2.2 (by decide)
    obtain ⟨a, ha⟩ : ∃ a : Nat, at0 n 0 = a := ⟨(at0 n 0).toNat, by omega⟩
    obtain ⟨b, hbb⟩ : ∃ b : Nat, at0 n 1 = b := ⟨(at0 n 1).toNat, by omega⟩
    obtain ⟨r, hrr⟩ : ∃ r, at0 n 2 = r := ⟨_, rfl⟩
    have HA1 : Hid ((6 < (a : Int) ∨ 8 < (b : Int) ∨ Cnt.V b a ≤ r) → Ans 3 n H (name 1) H) := hide (fun h => ⟨rfl, Or.inl ⟨by rw [ha, hbb, hrr]; simpa using h, rfl⟩⟩)
    have HA2 : Hid (∀ m, (a : Int) ≤ 6 → (b : Int) ≤ 8 → r < Cnt.V b a → Pls.Is a b r m → Ans 3 n H (tell m) H) := hide (fun m h1 h2 h3 h4 => ⟨rfl, Or.inr ⟨by rw [ha]; exact h1, by rw [hbb]; exact h2, by rw [ha, hbb, hrr]; simpa using h3, m, by rw [ha, hbb, hrr]; simpa using h4, rfl⟩⟩)
    rw [ha] at c0 i0
    rw [hbb] at c1 i1
    rw [hrr] at c2 i2 z2
    have X0 : ∀ W : Itr.Cls w1, W.val.cell? ⟨g, 0, none⟩ = _ := fun W => W.cell hgl c0
    have X1 : ∀ W : Itr.Cls w1, W.val.cell? ⟨g, 1, none⟩ = _ := fun W => W.cell hgl c1
    have X2 : ∀ W : Itr.Cls w1, W.val.cell? ⟨g, 2, none⟩ = _ := fun W => W.cell hgl c2
    clear ha hbb hrr z0 z1 hv HY4
    by_cases hok : a ≤ 6 ∧ b ≤ 8 ∧ r < Cnt.V b a
    · obtain ⟨h1, h2, h3⟩ := hok
      have HO := hide (fun (m : List Int) (hm : Pls.Is a b r m) w' => unhide HFIN (tell m) H w' (unhide HA2 m (by omega) (by omega) h3 hm))
      have CO : Hid (∀ W, Below w1.heap.size w1 W → _) := hide (fun W (hW : Below w1.heap.size w1 W) => Pls.row_ok a b r h1 h2 z2 (hide h3) W)
      clear HFIN HA1 HA2 h3 X0 X1 X2
      rw [y2']
      go_upto_region 14 with fail
      go_cut [12, 13] (fun s12 s13 wx => ∃ (u : Value) (m : List Int), s12 = u ∧ s13 = .nilIface ∧ Has wx w1.heap.size u m ∧ Hid (Pls.Is a b r m) ∧ Below w1.heap.size w1 wx)
      case first =>
        as_aux_lemma =>
        clear HO HD1 HL1 q1 q2 q3 q4 q5 q6 q7
        go_region_with (
          go_at_call 72
          refine (unhide CO _ ?_).mono ?_
          · exact ⟨rfl, rfl, rfl, Nat.le_refl _, fun _ _ => rfl⟩
          rintro e w2 ⟨u, m, rfl, hu, HI, hb2⟩)
        all_goals (
          have hb2' : Below w1.heap.size w1 w2 := (show Below w1.heap.size w1 w1.drew from ⟨rfl, rfl, rfl, Nat.le_refl _, fun _ _ => rfl⟩).trans hb2
          go_wp2
          go_meet
          exact ⟨u, m, rfl, rfl, hu, HI, hb2'⟩)
      case rest =>
        obtain ⟨u, m, rfl, rfl, hu, HI, hb2'⟩ := hcut
        have hm := unhide HI
        have hlm := hm.1
        have hin := Pls.loud_all (b := 8) (l := m) (by have := hm.2.1; omega)
        have hi1 : Hid (∀ j, j < m.length → -9223372036854775808 ≤ at0 m j ∧ at0 m j ≤ 9223372036854775807) := hide (fun j hj => by have := hin.at (by omega) j; omega)
        obtain ⟨ad, cap, rfl, hr⟩ := hu.row
        have cT := told_ok ad cap m wc hr (by omega) hi1 ((unhide HL1).on hb2' hg1) (Nat.le_trans hg1 hb2'.size)
        clear hm hlm hin hu hr
        go_wp2_with fail
        refine cT.mono ?_
        rintro e w3 ⟨rfl, hb3⟩
        have hb3' := Below.chain hb2' hb3
        go_wp2
        go_ret
        exact unhide HO m (unhide HI) _ ((unhide HD1).below hb3') (But.of_below hb3')
    · have HO := hide (fun w' => unhide HFIN (name 1) H w' (unhide HA1 (by omega)))
      have CO : Hid (∀ (W : World), Calls Tryz.prog 72 #[.int .i64 a, .int .i64 b, .int .i64 r] W fun e w' => e = .returned (.tuple #[.slice none 0 0, .iface 58 (.int .i64 1)]) ∧ Below W.heap.size W w') := hide (fun (W : World) => by
        by_cases h : a ≤ 6
        · by_cases h' : b ≤ 8
          · exact Pls.row_out a b r h h' (Or.inr ⟨z2, hide (by omega)⟩) W
          · exact Pls.row_no (a : Int) (b : Int) r W (Or.inr ⟨hide (Cnt.wide_no (by omega) (by omega)), hide (by simp [Cnt.wide]; omega)⟩)
        · exact Pls.row_no (a : Int) (b : Int) r W (Or.inl (hide (by simp [Cnt.wide]; omega))))
      clear HA1 HA2 HFIN hok
      go_wp2
      refine Itr.region_calm (by kernel_rfl) (by kernel_rfl) ?_
      repeat (go_big_quiet_step ((go_at_call 72; exact Itr.calm_call (unhide CO _))))
      refine wpQuiet_nil ?_
      intro _ hw'
      obtain ⟨WQ, hw2⟩ := hw'
      subst hw2
      have hb2 := WQ.ok
      obtain ⟨w2, hW2⟩ : ∃ w2, WQ.val = w2 := ⟨_, rfl⟩
      rw [hW2] at hb2 ⊢
      clear hW2
      have cT := told_err (1) (by omega) (by omega) (.slice none 0 0) (w2) ((unhide HL1).on hb2 hg1) (Nat.le_trans hg1 (hb2).size)
      clear HL1
      go_wp2_with fail
      refine cT.mono ?_
      rintro e w3 ⟨rfl, hb3⟩
      have hb3' := Below.chain hb2 hb3
      go_wp2
      go_ret
      exact unhide HO _ ((unhide HD1).below hb3') (But.of_below hb3')
  · have HR := hide hR
    have cT := told_bad (.slice none 0 0) w1 (unhide HL1)
    clear hR HOK HRI q1 q2 q3 q4 q5 q6 q7
    unfold badV at cT ⊢
    go_wp2_with fail
    refine cT.mono ?_
    rintro e w2 ⟨rfl, hb2⟩
    go_wp2
    go_ret
    exact unhide HPO bad H _ (Or.inl ⟨unhide HR, rfl, rfl⟩) ((unhide HD1).below hb2) (hB1.trans (But.of_below hb2))

end Go.Proofs.YtkkhgdkgbhdfaakGreatDoor.Lb
