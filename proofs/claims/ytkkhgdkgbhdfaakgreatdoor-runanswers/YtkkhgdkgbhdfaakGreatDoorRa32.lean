/-
  (*run.desk).answer: what stands ahead of its contract.
-/
import Derived.Test.YtkkhgdkgbhdfaakGreatDoorRa27
import Derived.Test.YtkkhgdkgbhdfaakGreatDoorRa25
import Derived.Test.YtkkhgdkgbhdfaakGreatDoorRa29
import Derived.Deep.RegionWith
import Derived.Test.YtkkhgdkgbhdfaakGreatDoorRa24
namespace Go.Proofs.YtkkhgdkgbhdfaakGreatDoor.Lb
open Go.RowKit
open Go.Proofs.YtkkhgdkgbhdfaakGreatDoor.Tre Go.Proofs.YtkkhgdkgbhdfaakGreatDoor.Hrn Go.Proofs.YtkkhgdkgbhdfaakGreatDoor.Txt Go.Proofs.YtkkhgdkgbhdfaakGreatDoor.Ses Go.Proofs.YtkkhgdkgbhdfaakGreatDoor.Tnk Go.Proofs.YtkkhgdkgbhdfaakGreatDoor.Ev
set_option linter.unusedVariables false

/-- What the desk answers to a line, and how it is then. -/
def AnsSays (D M : Nat) (H : Int) (l : List Int) (w : World) (e : Ending) (w' : World) : Prop :=
  ∃ o H', e = .returned (.string (str o)) ∧ Line H l o H' ∧ Desk w' D M H' ∧ But D w w'

end Go.Proofs.YtkkhgdkgbhdfaakGreatDoor.Lb

/-
  (*run.desk).answer, where the line's word is the first.
-/
namespace Go.Proofs.YtkkhgdkgbhdfaakGreatDoor.Lb
open Go.RowKit
open Go.Proofs.YtkkhgdkgbhdfaakGreatDoor.Tre Go.Proofs.YtkkhgdkgbhdfaakGreatDoor.Hrn Go.Proofs.YtkkhgdkgbhdfaakGreatDoor.Txt Go.Proofs.YtkkhgdkgbhdfaakGreatDoor.Ses Go.Proofs.YtkkhgdkgbhdfaakGreatDoor.Tnk Go.Proofs.YtkkhgdkgbhdfaakGreatDoor.Ev
set_option linter.unusedVariables false

set_option maxRecDepth 100000 in
set_option maxHeartbeats 16000000 in
theorem ansK1 {l : List Int} (hb : Byts l) (hl : l.length ≤ 3000) (D M : Nat) (H : Int) (w : World) (hL : Lib20 w) (hg : 9 ≤ w.heap.size) (hgD : 9 ≤ D) (hD : Desk w D M H) (hO : Ok 100 20 H) (hk : kind (hd l) = 1) :
    Calls Tryz.prog 42 #[.pointer (some ⟨D, 0, none⟩), .string (str l)] w fun e w' => AnsSays D M H l w e w' := by
  have HPO : Hid (∀ o H' w', Line H l o H' → Desk w' D M H' → But D w w' → AnsSays D M H l w (.returned (.string (str o))) w') := hide (fun o H' w' h1 h2 h3 => ⟨o, H', rfl, h1, h2, h3⟩)
  have HOK : Hid (∀ n, Reads l n → ∀ o H' w', Ans 1 n H o H' → Desk w' D M H' → But D w w' → AnsSays D M H l w (.returned (.string (str o))) w') := hide (fun n hn o H' w' h1 h2 h3 => ⟨o, H', rfl, Or.inr ⟨n, hn, by rw [hk]; exact h1⟩, h2, h3⟩)
  have HRI : Hid (∀ n, Reads l n → (many 1 ≤ n.length ∧ (more 1 = false → n.length = many 1) ∧ n.length ≤ 3000) ∧ ∀ j, j < n.length → -9999 ≤ at0 n j ∧ at0 n j ≤ 9999 ∧ (j < below 1 → 0 ≤ at0 n j)) := hide (fun n hn => by
    have h1 := reads_length hn
    have h2 := reads_in hn
    rw [hk] at h1 h2
    exact ⟨⟨h1.1, h1.2.1, by omega⟩, h2⟩)
  have cR := read20 hb hl D M H w hL hg hD
  have hbh : Byts (hd l) := by
    have := word_byts hb (j := 0) (List.length_pos_iff.2 (cut_ne 32 l))
    rw [cut_head] at this
    exact this
  have q1 : ((str (hd l)).toList == ([99, 111, 117, 110, 116] : List UInt8)) = true := by rw [is_kCount hbh, hk]; rfl
  have q2 : ((str (hd l)).toList == ([114, 97, 110, 107] : List UInt8)) = false := by rw [is_kRank hbh, hk]; rfl
  have q3 : ((str (hd l)).toList == ([114, 111, 119] : List UInt8)) = false := by rw [is_kRow hbh, hk]; rfl
  have q4 : ((str (hd l)).toList == ([110, 101, 97, 114] : List UInt8)) = false := by rw [is_kNear hbh, hk]; rfl
  have q5 : ((str (hd l)).toList == ([103, 97, 105, 110] : List UInt8)) = false := by rw [is_kGain hbh, hk]; rfl
  have q6 : ((str (hd l)).toList == ([116, 117, 114, 110] : List UInt8)) = false := by rw [is_kTurn hbh, hk]; rfl
  have q7 : ((str (hd l)).toList == ([109, 97, 121] : List UInt8)) = false := by rw [is_kMay hbh, hk]; rfl
  clear hbh hk
  go_enter Tryz.func42, Tryz.ntmps42
  go_wp2_with fail
  refine cR.mono ?_
  rintro e w1 ⟨hsay, hb1⟩
  have hD1 := hD.below hb1
  have hL1 := hL.on hb1 hg
  have hg1 : 9 ≤ w1.heap.size := Nat.le_trans hg hb1.size
  have hB1 : But D w w1 := But.of_below hb1
  have HD1 := hide hD1
  have HL1 := hide hL1
  clear cR hD hL hg hb1 hD1 hL1
  rcases hsay with ⟨n, v, hR, rfl, hv⟩ | ⟨hR, rfl⟩
  · have HFIN : Hid (∀ o H' w', Ans 1 n H o H' → Desk w' D M H' → But D w1 w' → AnsSays D M H l w (.returned (.string (str o))) w') := hide (fun o H' w' h1 h2 h3 => unhide HOK n hR o H' w' h1 h2 (hB1.trans h3))
    obtain ⟨⟨y1, y2, y3⟩, y4⟩ := unhide HRI n hR
    have y1' : 2 ≤ n.length := y1
    have HY4 := hide y4
    have y2' : n.length = 2 := y2 rfl
    clear HOK HRI hR y1 y2 y4 HPO
    obtain ⟨X, hX⟩ : ∃ X, str (hd l) = X := ⟨_, rfl⟩
    rw [hX] at q1 q2 q3 q4 q5 q6 q7 ⊢
    clear hX
    obtain ⟨g, c, rfl, hgb, hgl, hc1, hc2⟩ := hv.one (by omega)
    have c0 := hv.get (j := 0) (by omega)
    have i0 := unhide HY4 0 (by omega)
    have c1 := hv.get (j := 1) (by omega)
    have i1 := unhide HY4 1 (by omega)
    have z0 := i0.2.2 (by decide)
    have z1 := i1.2.2 (by decide)
    obtain ⟨a, ha⟩ : ∃ a : Nat, at0 n 0 = a := ⟨(at0 n 0).toNat, by omega⟩
    obtain ⟨b, hbb⟩ : ∃ b : Nat, at0 n 1 = b := ⟨(at0 n 1).toNat, by omega⟩
    have HA : Hid (∀ o, o = (if 6 < (a : Int) ∨ 8 < (b : Int) then name 1 else tell [(Cnt.V b a : Int)]) → Ans 1 n H o H) := hide (fun o h => ⟨rfl, by rw [h, ha, hbb]; simp⟩)
    rw [ha] at c0 i0
    rw [hbb] at c1 i1
    have X0 : ∀ W : Itr.Cls w1, W.val.cell? ⟨g, 0, none⟩ = _ := fun W => W.cell hgl c0
    have X1 : ∀ W : Itr.Cls w1, W.val.cell? ⟨g, 1, none⟩ = _ := fun W => W.cell hgl c1
    by_cases hin : a ≤ 6 ∧ b ≤ 8
    · have hV := Cnt.V_in b a (by omega) (by omega)
      have HO := hide (fun w' => unhide HFIN (tell [(Cnt.V b a : Int)]) H w' (unhide HA _ (by rw [if_neg (by omega)])))
      have CO := hide (fun (W : World) => Cnt.of_ok a b hin.1 hin.2 W)
      obtain ⟨V, hV2⟩ : ∃ V, Cnt.V b a = V := ⟨_, rfl⟩
      rw [hV2] at HO CO hV
      have hi1 : Hid (∀ j, j < [(V : Int)].length → -9223372036854775808 ≤ at0 [(V : Int)] j ∧ at0 [(V : Int)] j ≤ 9223372036854775807) := hide (fun j hj => by
        obtain rfl : j = 0 := by simpa using hj
        simp [at0]
        omega)
      clear HA HFIN hin hV2 hv HY4 z0 z1 ha hbb
      go_wp2
      refine Itr.region_calm (by kernel_rfl) (by kernel_rfl) ?_
      repeat (go_big_quiet_step ((go_at_call 70; exact Itr.calm_call (unhide CO _))))
      refine wpQuiet_nil ?_
      intro _ hw'
      obtain ⟨WQ, hw2⟩ := hw'
      subst hw2
      have hb2 := WQ.ok
      obtain ⟨w2, hW2⟩ : ∃ w2, WQ.val = w2 := ⟨_, rfl⟩
      rw [hW2] at hb2 ⊢
      clear hW2
      have hba : Below w1.heap.size w1 (w2.alloc (.cells #[.int .i64 V] 3)) := hb2.alloc hb2.size _
      have cT := told_ok (some ⟨w2.heap.size, 0, none⟩) 1 [(V : Int)] (w2.alloc (.cells #[.int .i64 V] 3)) (row_one _ _ _) (by simp) hi1 ((unhide HL1).on hba hg1) (Nat.le_trans hg1 hba.size)
      go_wp2_with fail
      refine cT.mono ?_
      rintro e w3 ⟨rfl, hb3⟩
      have hb3' := Below.chain hba hb3
      go_wp2
      go_ret
      exact unhide HO _ ((unhide HD1).below hb3') (But.of_below hb3')
    · have HO := hide (fun w' => unhide HFIN (name 1) H w' (unhide HA _ (by rw [if_pos (by omega)])))
      have CO : Hid (∀ (W : World), _) := hide (fun (W : World) => Cnt.of_no (a : Int) (b : Int) W (by
        by_cases h : a ≤ 6
        · exact Or.inr ⟨hide (Cnt.wide_no (by omega) (by omega)), hide (by simp [Cnt.wide]; omega)⟩
        · exact Or.inl (hide (by simp [Cnt.wide]; omega))))
      clear HA HFIN hin hv HY4 z0 z1 ha hbb
      go_wp2
      refine Itr.region_calm (by kernel_rfl) (by kernel_rfl) ?_
      repeat (go_big_quiet_step ((go_at_call 70; exact Itr.calm_call (unhide CO _))))
      refine wpQuiet_nil ?_
      intro _ hw'
      obtain ⟨WQ, hw2⟩ := hw'
      subst hw2
      have hb2 := WQ.ok
      obtain ⟨w2, hW2⟩ : ∃ w2, WQ.val = w2 := ⟨_, rfl⟩
      rw [hW2] at hb2 ⊢
      clear hW2
      have hba : Below w1.heap.size w1 (w2.alloc (.cells #[.int .i64 0] 3)) := hb2.alloc hb2.size _
      have cT := told_err 1 (by omega) (by omega) (.slice (some ⟨w2.heap.size, 0, none⟩) 1 1) (w2.alloc (.cells #[.int .i64 0] 3)) ((unhide HL1).on hba hg1) (Nat.le_trans hg1 hba.size)
      go_wp2_with fail
      refine cT.mono ?_
      rintro e w3 ⟨rfl, hb3⟩
      have hb3' := Below.chain hba hb3
      go_wp2
      go_ret
      exact unhide HO _ ((unhide HD1).below hb3') (But.of_below hb3')
  · have HR := hide hR
    have cT := told_bad (.slice none 0 0) w1 (unhide HL1)
    clear hR HOK HRI q1 q2 q3 q4 q5 q6 q7
    unfold badV at cT ⊢
    go_wp2_with fail
    refine cT.mono ?_
    rintro e w2 ⟨rfl, hb2⟩
    go_wp2
    go_ret
    exact unhide HPO bad H _ (Or.inl ⟨unhide HR, rfl, rfl⟩) ((unhide HD1).below hb2) (hB1.trans (But.of_below hb2))

end Go.Proofs.YtkkhgdkgbhdfaakGreatDoor.Lb

/-
  (*run.desk).answer, where the line's word is the second.
-/
namespace Go.Proofs.YtkkhgdkgbhdfaakGreatDoor.Lb
open Go.RowKit
open Go.Proofs.YtkkhgdkgbhdfaakGreatDoor.Tre Go.Proofs.YtkkhgdkgbhdfaakGreatDoor.Hrn Go.Proofs.YtkkhgdkgbhdfaakGreatDoor.Txt Go.Proofs.YtkkhgdkgbhdfaakGreatDoor.Ses Go.Proofs.YtkkhgdkgbhdfaakGreatDoor.Tnk Go.Proofs.YtkkhgdkgbhdfaakGreatDoor.Ev
set_option linter.unusedVariables false

set_option maxRecDepth 100000 in
set_option maxHeartbeats 16000000 in
theorem ansK2 {l : List Int} (hb : Byts l) (hl : l.length ≤ 3000) (D M : Nat) (H : Int) (w : World) (hL : Lib20 w) (hg : 9 ≤ w.heap.size) (hgD : 9 ≤ D) (hD : Desk w D M H) (hO : Ok 100 20 H) (hk : kind (hd l) = 2) :
    Calls Tryz.prog 42 #[.pointer (some ⟨D, 0, none⟩), .string (str l)] w fun e w' => AnsSays D M H l w e w' := by
  have HPO : Hid (∀ o H' w', Line H l o H' → Desk w' D M H' → But D w w' → AnsSays D M H l w (.returned (.string (str o))) w') := hide (fun o H' w' h1 h2 h3 => ⟨o, H', rfl, h1, h2, h3⟩)
  have HOK : Hid (∀ n, Reads l n → ∀ o H' w', Ans 2 n H o H' → Desk w' D M H' → But D w w' → AnsSays D M H l w (.returned (.string (str o))) w') := hide (fun n hn o H' w' h1 h2 h3 => ⟨o, H', rfl, Or.inr ⟨n, hn, by rw [hk]; exact h1⟩, h2, h3⟩)
  have HRI : Hid (∀ n, Reads l n → (many 2 ≤ n.length ∧ (more 2 = false → n.length = many 2) ∧ n.length ≤ 3000) ∧ ∀ j, j < n.length → -9999 ≤ at0 n j ∧ at0 n j ≤ 9999 ∧ (j < below 2 → 0 ≤ at0 n j)) := hide (fun n hn => by
    have h1 := reads_length hn
    have h2 := reads_in hn
    rw [hk] at h1 h2
    exact ⟨⟨h1.1, h1.2.1, by omega⟩, h2⟩)
  have cR := read20 hb hl D M H w hL hg hD
  have hbh : Byts (hd l) := by
    have := word_byts hb (j := 0) (List.length_pos_iff.2 (cut_ne 32 l))
    rw [cut_head] at this
    exact this
  have q1 : ((str (hd l)).toList == ([99, 111, 117, 110, 116] : List UInt8)) = false := by rw [is_kCount hbh, hk]; rfl
  have q2 : ((str (hd l)).toList == ([114, 97, 110, 107] : List UInt8)) = true := by rw [is_kRank hbh, hk]; rfl
  have q3 : ((str (hd l)).toList == ([114, 111, 119] : List UInt8)) = false := by rw [is_kRow hbh, hk]; rfl
  have q4 : ((str (hd l)).toList == ([110, 101, 97, 114] : List UInt8)) = false := by rw [is_kNear hbh, hk]; rfl
  have q5 : ((str (hd l)).toList == ([103, 97, 105, 110] : List UInt8)) = false := by rw [is_kGain hbh, hk]; rfl
  have q6 : ((str (hd l)).toList == ([116, 117, 114, 110] : List UInt8)) = false := by rw [is_kTurn hbh, hk]; rfl
  have q7 : ((str (hd l)).toList == ([109, 97, 121] : List UInt8)) = false := by rw [is_kMay hbh, hk]; rfl
  clear hbh hk
  go_enter Tryz.func42, Tryz.ntmps42
  go_wp2_with fail
  refine cR.mono ?_
  rintro e w1 ⟨hsay, hb1⟩
  have hD1 := hD.below hb1
  have hL1 := hL.on hb1 hg
  have hg1 : 9 ≤ w1.heap.size := Nat.le_trans hg hb1.size
  have hB1 : But D w w1 := But.of_below hb1
  have HD1 := hide hD1
  have HL1 := hide hL1
  clear cR hD hL hg hb1 hD1 hL1
  rcases hsay with ⟨n, v, hR, rfl, hv⟩ | ⟨hR, rfl⟩
  · have HFIN : Hid (∀ o H' w', Ans 2 n H o H' → Desk w' D M H' → But D w1 w' → AnsSays D M H l w (.returned (.string (str o))) w') := hide (fun o H' w' h1 h2 h3 => unhide HOK n hR o H' w' h1 h2 (hB1.trans h3))
    obtain ⟨⟨y1, y2, y3⟩, y4⟩ := unhide HRI n hR
    have y1' : 1 ≤ n.length := y1
    have HY4 := hide y4
    skip
    clear HOK HRI hR y1 y2 y4 HPO
    obtain ⟨X, hX⟩ : ∃ X, str (hd l) = X := ⟨_, rfl⟩
    rw [hX] at q1 q2 q3 q4 q5 q6 q7 ⊢
    clear hX
    obtain ⟨a, cap, rfl, hr⟩ := hv.row
    by_cases h0 : Pls.fault n = 0
    · obtain ⟨h1, h2, h3⟩ := Pls.fault_ok h0
      have h4 := Pls.rk_in n h1 h3
      have h5 := (Cnt.V_in (Pls.loud n) n.length (by omega) (by omega)).2
      have HO := hide (fun w' => unhide HFIN (tell [Pls.rk n (Pls.loud n)]) H w' ⟨rfl, by rw [if_pos h0]⟩)
      have CO := Pls.rank_ok a cap n w1 hr (hide h0)
      obtain ⟨R, hR⟩ : ∃ R, Pls.rk n (Pls.loud n) = R := ⟨_, rfl⟩
      rw [hR] at HO CO h4
      have hi1 : Hid (∀ j, j < [(R : Int)].length → -9223372036854775808 ≤ at0 [(R : Int)] j ∧ at0 [(R : Int)] j ≤ 9223372036854775807) := hide (fun j hj => by
        obtain rfl : j = 0 := by simpa using hj
        simp only [at0, List.getElem?_cons_zero, Option.getD_some]
        omega)
      clear HFIN hR hv HY4 h0 h1 h2 h3
      go_wp2_with fail
      refine CO.mono ?_
      rintro e w2 ⟨rfl, hb2⟩
      have hba : Below w1.heap.size w1 (w2.alloc (.cells #[.int .i64 R] 3)) := hb2.alloc hb2.size _
      have cT := told_ok (some ⟨w2.heap.size, 0, none⟩) 1 [R] (w2.alloc (.cells #[.int .i64 R] 3)) (row_one _ _ _) (by simp) hi1 ((unhide HL1).on hba hg1) (Nat.le_trans hg1 hba.size)
      go_wp2_with fail
      refine cT.mono ?_
      rintro e w3 ⟨rfl, hb3⟩
      have hb3' := Below.chain hba hb3
      go_wp2
      go_ret
      exact unhide HO _ ((unhide HD1).below hb3') (But.of_below hb3')
    · have HO := hide (fun w' => unhide HFIN (name (Pls.fault n)) H w' ⟨rfl, by rw [if_neg h0]⟩)
      have CO := Pls.rank_no a cap n w1 (by omega) hr (hide h0)
      have hE : 0 ≤ Pls.fault n ∧ Pls.fault n ≤ 8 := by
        unfold Pls.fault
        repeat' split
        all_goals omega
      obtain ⟨E, hE2⟩ : ∃ E, Pls.fault n = E := ⟨_, rfl⟩
      rw [hE2] at HO CO hE
      clear HFIN hE2 hv HY4 h0
      go_wp2_with fail
      refine CO.mono ?_
      rintro e w2 ⟨rfl, hb2⟩
      have hba : Below w1.heap.size w1 (w2.alloc (.cells #[.int .i64 0] 3)) := hb2.alloc hb2.size _
      have cT := told_err (E) (by omega) (by omega) (.slice (some ⟨w2.heap.size, 0, none⟩) 1 1) (w2.alloc (.cells #[.int .i64 0] 3)) ((unhide HL1).on hba hg1) (Nat.le_trans hg1 (hba).size)
      clear HL1
      go_wp2_with fail
      refine cT.mono ?_
      rintro e w3 ⟨rfl, hb3⟩
      have hb3' := Below.chain hba hb3
      go_wp2
      go_ret
      exact unhide HO _ ((unhide HD1).below hb3') (But.of_below hb3')
  · have HR := hide hR
    have cT := told_bad (.slice none 0 0) w1 (unhide HL1)
    clear hR HOK HRI q1 q2 q3 q4 q5 q6 q7
    unfold badV at cT ⊢
    go_wp2_with fail
    refine cT.mono ?_
    rintro e w2 ⟨rfl, hb2⟩
    go_wp2
    go_ret
    exact unhide HPO bad H _ (Or.inl ⟨unhide HR, rfl, rfl⟩) ((unhide HD1).below hb2) (hB1.trans (But.of_below hb2))

end Go.Proofs.YtkkhgdkgbhdfaakGreatDoor.Lb

/-
  (*run.desk).answer, where the line's word is the fifth.
-/
namespace Go.Proofs.YtkkhgdkgbhdfaakGreatDoor.Lb
open Go.RowKit
open Go.Proofs.YtkkhgdkgbhdfaakGreatDoor.Tre Go.Proofs.YtkkhgdkgbhdfaakGreatDoor.Hrn Go.Proofs.YtkkhgdkgbhdfaakGreatDoor.Txt Go.Proofs.YtkkhgdkgbhdfaakGreatDoor.Ses Go.Proofs.YtkkhgdkgbhdfaakGreatDoor.Tnk Go.Proofs.YtkkhgdkgbhdfaakGreatDoor.Ev
set_option linter.unusedVariables false

set_option maxRecDepth 100000 in
set_option maxHeartbeats 16000000 in
theorem ansK5 {l : List Int} (hb : Byts l) (hl : l.length ≤ 3000) (D M : Nat) (H : Int) (w : World) (hL : Lib20 w) (hg : 9 ≤ w.heap.size) (hgD : 9 ≤ D) (hD : Desk w D M H) (hO : Ok 100 20 H) (hk : kind (hd l) = 5) :
    Calls Tryz.prog 42 #[.pointer (some ⟨D, 0, none⟩), .string (str l)] w fun e w' => AnsSays D M H l w e w' := by
  have HPO : Hid (∀ o H' w', Line H l o H' → Desk w' D M H' → But D w w' → AnsSays D M H l w (.returned (.string (str o))) w') := hide (fun o H' w' h1 h2 h3 => ⟨o, H', rfl, h1, h2, h3⟩)
  have HOK : Hid (∀ n, Reads l n → ∀ o H' w', Ans 5 n H o H' → Desk w' D M H' → But D w w' → AnsSays D M H l w (.returned (.string (str o))) w') := hide (fun n hn o H' w' h1 h2 h3 => ⟨o, H', rfl, Or.inr ⟨n, hn, by rw [hk]; exact h1⟩, h2, h3⟩)
  have HRI : Hid (∀ n, Reads l n → (many 5 ≤ n.length ∧ (more 5 = false → n.length = many 5) ∧ n.length ≤ 3000) ∧ ∀ j, j < n.length → -9999 ≤ at0 n j ∧ at0 n j ≤ 9999 ∧ (j < below 5 → 0 ≤ at0 n j)) := hide (fun n hn => by
    have h1 := reads_length hn
    have h2 := reads_in hn
    rw [hk] at h1 h2
    exact ⟨⟨h1.1, h1.2.1, by omega⟩, h2⟩)
  have cR := read20 hb hl D M H w hL hg hD
  have hbh : Byts (hd l) := by
    have := word_byts hb (j := 0) (List.length_pos_iff.2 (cut_ne 32 l))
    rw [cut_head] at this
    exact this
  have q1 : ((str (hd l)).toList == ([99, 111, 117, 110, 116] : List UInt8)) = false := by rw [is_kCount hbh, hk]; rfl
  have q2 : ((str (hd l)).toList == ([114, 97, 110, 107] : List UInt8)) = false := by rw [is_kRank hbh, hk]; rfl
  have q3 : ((str (hd l)).toList == ([114, 111, 119] : List UInt8)) = false := by rw [is_kRow hbh, hk]; rfl
  have q4 : ((str (hd l)).toList == ([110, 101, 97, 114] : List UInt8)) = false := by rw [is_kNear hbh, hk]; rfl
  have q5 : ((str (hd l)).toList == ([103, 97, 105, 110] : List UInt8)) = true := by rw [is_kGain hbh, hk]; rfl
  have q6 : ((str (hd l)).toList == ([116, 117, 114, 110] : List UInt8)) = false := by rw [is_kTurn hbh, hk]; rfl
  have q7 : ((str (hd l)).toList == ([109, 97, 121] : List UInt8)) = false := by rw [is_kMay hbh, hk]; rfl
  clear hbh hk
  go_enter Tryz.func42, Tryz.ntmps42
  go_wp2_with fail
  refine cR.mono ?_
  rintro e w1 ⟨hsay, hb1⟩
  have hD1 := hD.below hb1
  have hL1 := hL.on hb1 hg
  have hg1 : 9 ≤ w1.heap.size := Nat.le_trans hg hb1.size
  have hB1 : But D w w1 := But.of_below hb1
  have HD1 := hide hD1
  have HL1 := hide hL1
  clear cR hD hL hg hb1 hD1 hL1
  rcases hsay with ⟨n, v, hR, rfl, hv⟩ | ⟨hR, rfl⟩
  · have HFIN : Hid (∀ o H' w', Ans 5 n H o H' → Desk w' D M H' → But D w1 w' → AnsSays D M H l w (.returned (.string (str o))) w') := hide (fun o H' w' h1 h2 h3 => unhide HOK n hR o H' w' h1 h2 (hB1.trans h3))
    obtain ⟨⟨y1, y2, y3⟩, y4⟩ := unhide HRI n hR
    have y1' : 1 ≤ n.length := y1
    have HY4 := hide y4
    have y2' : n.length = 1 := y2 rfl
    clear HOK HRI hR y1 y2 y4 HPO
    obtain ⟨X, hX⟩ : ∃ X, str (hd l) = X := ⟨_, rfl⟩
    rw [hX] at q1 q2 q3 q4 q5 q6 q7 ⊢
    clear hX
    obtain ⟨g, c, rfl, hgb, hgl, hc1, hc2⟩ := hv.one (by omega)
    have c0 := hv.get (j := 0) (by omega)
    have i0 := unhide HY4 0 (by omega)
    have z0 := i0.2.2 (by decide)
    obtain ⟨a, ha⟩ : ∃ a : Nat, at0 n 0 = a := ⟨(at0 n 0).toNat, by omega⟩
    have HA : Hid (∀ o, o = (if 8000 < (a : Int) then name 1 else tell [(Gai.gi a : Int), (Gai.vl (Gai.gi a) : Int)]) → Ans 5 n H o H) := hide (fun o h => ⟨rfl, by rw [h, ha]; simp⟩)
    rw [ha] at c0 i0
    clear ha z0 hv HY4
    by_cases h8 : a ≤ 8000
    · obtain ⟨g1, g2, _, _⟩ := Gai.gi_near h8
      have g3 := (Gai.vo_is g2).1
      have HO := hide (fun w' => unhide HFIN (tell [(Gai.gi a : Int), (Gai.vl (Gai.gi a) : Int)]) H w' (unhide HA _ (by rw [if_neg (by omega)])))
      have CO := loud_ok a w1 h8
      obtain ⟨G, hG⟩ : ∃ G, Gai.gi a = G := ⟨_, rfl⟩
      rw [hG] at HO CO g1 g3
      obtain ⟨V, hV⟩ : ∃ V, Gai.vl G = V := ⟨_, rfl⟩
      rw [hV] at HO CO g3
      have hi1 : Hid (∀ j, j < [(G : Int), (V : Int)].length → -9223372036854775808 ≤ at0 [(G : Int), (V : Int)] j ∧ at0 [(G : Int), (V : Int)] j ≤ 9223372036854775807) := hide (fun j hj => by
        have hj' : j = 0 ∨ j = 1 := by simp at hj; omega
        rcases hj' with rfl | rfl
        · simp [at0]; omega
        · simp [at0]; omega)
      clear HFIN HA g2 hG hV
      go_wp2_with fail
      refine CO.mono ?_
      rintro e w2 ⟨rfl, hw2⟩
      obtain rfl : w1 = w2 := hw2.symm
      have hba : Below w1.heap.size w1 (w1.alloc (.cells #[.int .i64 G, .int .i64 V] 3)) := (Below.refl _ _).alloc (Nat.le_refl _) _
      have cT := told_ok (some ⟨w1.heap.size, 0, none⟩) 2 [(G : Int), (V : Int)] (w1.alloc (.cells #[.int .i64 G, .int .i64 V] 3)) (row_two _ _ _ _) (by simp) hi1 ((unhide HL1).on hba hg1) (Nat.le_trans hg1 hba.size)
      go_wp2_with fail
      refine cT.mono ?_
      rintro e w3 ⟨rfl, hb3⟩
      have hb3' := Below.chain hba hb3
      go_wp2
      go_ret
      exact unhide HO _ ((unhide HD1).below hb3') (But.of_below hb3')
    · have HO := hide (fun w' => unhide HFIN (name 1) H w' (unhide HA _ (by rw [if_pos (by omega)])))
      have CO := loud_no (a : Int) w1 (by omega) (by omega)
      clear HFIN HA
      go_wp2_with fail
      refine CO.mono ?_
      rintro e w2 ⟨rfl, hw2⟩
      obtain rfl : w1 = w2 := hw2.symm
      have hba : Below w1.heap.size w1 (w1.alloc (.cells #[.int .i64 0, .int .i64 0] 3)) := (Below.refl _ _).alloc (Nat.le_refl _) _
      have cT := told_err (1) (by omega) (by omega) (.slice (some ⟨w1.heap.size, 0, none⟩) 2 2) (w1.alloc (.cells #[.int .i64 0, .int .i64 0] 3)) ((unhide HL1).on hba hg1) (Nat.le_trans hg1 (hba).size)
      clear HL1
      go_wp2_with fail
      refine cT.mono ?_
      rintro e w3 ⟨rfl, hb3⟩
      have hb3' := Below.chain hba hb3
      go_wp2
      go_ret
      exact unhide HO _ ((unhide HD1).below hb3') (But.of_below hb3')
  · have HR := hide hR
    have cT := told_bad (.slice none 0 0) w1 (unhide HL1)
    clear hR HOK HRI q1 q2 q3 q4 q5 q6 q7
    unfold badV at cT ⊢
    go_wp2_with fail
    refine cT.mono ?_
    rintro e w2 ⟨rfl, hb2⟩
    go_wp2
    go_ret
    exact unhide HPO bad H _ (Or.inl ⟨unhide HR, rfl, rfl⟩) ((unhide HD1).below hb2) (hB1.trans (But.of_below hb2))

end Go.Proofs.YtkkhgdkgbhdfaakGreatDoor.Lb

/-
  (*run.desk).answer, where the line's word is the sixth.
-/
namespace Go.Proofs.YtkkhgdkgbhdfaakGreatDoor.Lb
open Go.RowKit
open Go.Proofs.YtkkhgdkgbhdfaakGreatDoor.Tre Go.Proofs.YtkkhgdkgbhdfaakGreatDoor.Hrn Go.Proofs.YtkkhgdkgbhdfaakGreatDoor.Txt Go.Proofs.YtkkhgdkgbhdfaakGreatDoor.Ses Go.Proofs.YtkkhgdkgbhdfaakGreatDoor.Tnk Go.Proofs.YtkkhgdkgbhdfaakGreatDoor.Ev
set_option linter.unusedVariables false

set_option maxRecDepth 100000 in
set_option maxHeartbeats 16000000 in
theorem ansK6 {l : List Int} (hb : Byts l) (hl : l.length ≤ 3000) (D M : Nat) (H : Int) (w : World) (hL : Lib20 w) (hg : 9 ≤ w.heap.size) (hgD : 9 ≤ D) (hD : Desk w D M H) (hO : Ok 100 20 H) (hk : kind (hd l) = 6) :
    Calls Tryz.prog 42 #[.pointer (some ⟨D, 0, none⟩), .string (str l)] w fun e w' => AnsSays D M H l w e w' := by
  have HPO : Hid (∀ o H' w', Line H l o H' → Desk w' D M H' → But D w w' → AnsSays D M H l w (.returned (.string (str o))) w') := hide (fun o H' w' h1 h2 h3 => ⟨o, H', rfl, h1, h2, h3⟩)
  have HOK : Hid (∀ n, Reads l n → ∀ o H' w', Ans 6 n H o H' → Desk w' D M H' → But D w w' → AnsSays D M H l w (.returned (.string (str o))) w') := hide (fun n hn o H' w' h1 h2 h3 => ⟨o, H', rfl, Or.inr ⟨n, hn, by rw [hk]; exact h1⟩, h2, h3⟩)
  have HRI : Hid (∀ n, Reads l n → (many 6 ≤ n.length ∧ (more 6 = false → n.length = many 6) ∧ n.length ≤ 3000) ∧ ∀ j, j < n.length → -9999 ≤ at0 n j ∧ at0 n j ≤ 9999 ∧ (j < below 6 → 0 ≤ at0 n j)) := hide (fun n hn => by
    have h1 := reads_length hn
    have h2 := reads_in hn
    rw [hk] at h1 h2
    exact ⟨⟨h1.1, h1.2.1, by omega⟩, h2⟩)
  have cR := read20 hb hl D M H w hL hg hD
  have hbh : Byts (hd l) := by
    have := word_byts hb (j := 0) (List.length_pos_iff.2 (cut_ne 32 l))
    rw [cut_head] at this
    exact this
  have q1 : ((str (hd l)).toList == ([99, 111, 117, 110, 116] : List UInt8)) = false := by rw [is_kCount hbh, hk]; rfl
  have q2 : ((str (hd l)).toList == ([114, 97, 110, 107] : List UInt8)) = false := by rw [is_kRank hbh, hk]; rfl
  have q3 : ((str (hd l)).toList == ([114, 111, 119] : List UInt8)) = false := by rw [is_kRow hbh, hk]; rfl
  have q4 : ((str (hd l)).toList == ([110, 101, 97, 114] : List UInt8)) = false := by rw [is_kNear hbh, hk]; rfl
  have q5 : ((str (hd l)).toList == ([103, 97, 105, 110] : List UInt8)) = false := by rw [is_kGain hbh, hk]; rfl
  have q6 : ((str (hd l)).toList == ([116, 117, 114, 110] : List UInt8)) = true := by rw [is_kTurn hbh, hk]; rfl
  have q7 : ((str (hd l)).toList == ([109, 97, 121] : List UInt8)) = false := by rw [is_kMay hbh, hk]; rfl
  clear hbh hk
  go_enter Tryz.func42, Tryz.ntmps42
  go_wp2_with fail
  refine cR.mono ?_
  rintro e w1 ⟨hsay, hb1⟩
  have hD1 := hD.below hb1
  have hL1 := hL.on hb1 hg
  have hg1 : 9 ≤ w1.heap.size := Nat.le_trans hg hb1.size
  have hB1 : But D w w1 := But.of_below hb1
  have HD1 := hide hD1
  have HL1 := hide hL1
  clear cR hD hL hg hb1 hD1 hL1
  rcases hsay with ⟨n, v, hR, rfl, hv⟩ | ⟨hR, rfl⟩
  · have HFIN : Hid (∀ o H' w', Ans 6 n H o H' → Desk w' D M H' → But D w1 w' → AnsSays D M H l w (.returned (.string (str o))) w') := hide (fun o H' w' h1 h2 h3 => unhide HOK n hR o H' w' h1 h2 (hB1.trans h3))
    obtain ⟨⟨y1, y2, y3⟩, y4⟩ := unhide HRI n hR
    have y1' : 1 ≤ n.length := y1
    have HY4 := hide y4
    have y2' : n.length = 1 := y2 rfl
    clear HOK HRI hR y1 y2 y4 HPO
    obtain ⟨X, hX⟩ : ∃ X, str (hd l) = X := ⟨_, rfl⟩
    rw [hX] at q1 q2 q3 q4 q5 q6 q7 ⊢
    clear hX
    obtain ⟨g, c, rfl, hgb, hgl, hc1, hc2⟩ := hv.one (by omega)
    have c0 := hv.get (j := 0) (by omega)
    have i0 := unhide HY4 0 (by omega)
    obtain ⟨b, hbb⟩ : ∃ b, at0 n 0 = b := ⟨_, rfl⟩
    have CO := turn20 D M H b w1 (unhide HD1)
    have HA1 : Hid (turnF 100 20 H b ≠ 0 → Ans 6 n H (name (turnF 100 20 H b)) H) := hide (fun h => Or.inl ⟨by rw [hbb]; exact h, rfl, by rw [hbb]⟩)
    have HA2 : Hid (turnF 100 20 H b = 0 → Ans 6 n H (tell [may 100 20 H - b]) (may 100 20 H - b)) := hide (fun h => Or.inr ⟨by rw [hbb]; exact h, by rw [hbb], rfl⟩)
    rw [hbb] at c0 i0
    unfold DeskTurn at CO
    clear hbb hv HY4
    by_cases h0 : turnF 100 20 H b = 0
    · have hk := turn_ok h0
      have HO := hide (fun w' => unhide HFIN (tell [may 100 20 H - b]) (may 100 20 H - b) w' (unhide HA2 h0))
      rw [h0, errV_zero] at CO
      simp only [if_true] at CO
      obtain ⟨R, hR⟩ : ∃ R, may 100 20 H - b = R := ⟨_, rfl⟩
      rw [hR] at HO CO hk
      have hk5 := hk.2.2.2.2
      have hi1 : Hid (∀ j, j < [(R : Int)].length → -9223372036854775808 ≤ at0 [(R : Int)] j ∧ at0 [(R : Int)] j ≤ 9223372036854775807) := hide (fun j hj => by
        obtain rfl : j = 0 := by simpa using hj
        simp only [at0, List.getElem?_cons_zero, Option.getD_some]
        omega)
      clear HFIN HA1 HA2 h0 hR hk
      go_wp2_with fail
      refine CO.mono ?_
      rintro e w2 ⟨rfl, hD2, hB2⟩
      have d2 := hD2.c2
      have hba : Below w2.heap.size w2 (w2.alloc (.cells #[.int .i64 R] 3)) := (Below.refl _ _).alloc (Nat.le_refl _) _
      have hL2 : Lib20 (w2.alloc (.cells #[.int .i64 R] 3)) := ((unhide HL1).on (hB2.below hgD hg1) (Nat.le_refl _)).on hba (Nat.le_trans hg1 hB2.size)
      have cT := told_ok (some ⟨w2.heap.size, 0, none⟩) 1 [R] (w2.alloc (.cells #[.int .i64 R] 3)) (row_one _ _ _) (by simp) hi1 hL2 (Nat.le_trans (Nat.le_trans hg1 hB2.size) hba.size)
      have HD2 := hide hD2
      clear HD1 hL2 hD2
      go_wp2_with fail
      refine cT.mono ?_
      rintro e w3 ⟨rfl, hb3⟩
      have hb3' := Below.chain hba hb3
      go_wp2
      go_ret
      exact unhide HO _ ((unhide HD2).below hb3') (hB2.trans (But.of_below hb3'))
    · have HO := hide (fun w' => unhide HFIN (name (turnF 100 20 H b)) H w' (unhide HA1 h0))
      rw [errV_ne h0, if_neg h0] at CO
      have hE : 0 ≤ turnF 100 20 H b ∧ turnF 100 20 H b ≤ 8 := by
        unfold turnF
        repeat' split
        all_goals omega
      obtain ⟨E, hE2⟩ : ∃ E, turnF 100 20 H b = E := ⟨_, rfl⟩
      rw [hE2] at HO CO hE
      clear HFIN HA1 HA2 h0 hE2
      go_wp2_with fail
      refine CO.mono ?_
      rintro e w2 ⟨rfl, hD2, hB2⟩
      have d2 := hD2.c2
      have hba : Below w2.heap.size w2 (w2.alloc (.cells #[.int .i64 H] 3)) := (Below.refl _ _).alloc (Nat.le_refl _) _
      have hL2 : Lib20 (w2.alloc (.cells #[.int .i64 H] 3)) := ((unhide HL1).on (hB2.below hgD hg1) (Nat.le_refl _)).on hba (Nat.le_trans hg1 hB2.size)
      have cT := told_err E hE.1 hE.2 (.slice (some ⟨w2.heap.size, 0, none⟩) 1 1) (w2.alloc (.cells #[.int .i64 H] 3)) hL2 (Nat.le_trans (Nat.le_trans hg1 hB2.size) hba.size)
      have HD2 := hide hD2
      clear HD1 hL2 hD2
      go_wp2_with fail
      refine cT.mono ?_
      rintro e w3 ⟨rfl, hb3⟩
      have hb3' := Below.chain hba hb3
      go_wp2
      go_ret
      exact unhide HO _ ((unhide HD2).below hb3') (hB2.trans (But.of_below hb3'))
  · have HR := hide hR
    have cT := told_bad (.slice none 0 0) w1 (unhide HL1)
    clear hR HOK HRI q1 q2 q3 q4 q5 q6 q7
    unfold badV at cT ⊢
    go_wp2_with fail
    refine cT.mono ?_
    rintro e w2 ⟨rfl, hb2⟩
    go_wp2
    go_ret
    exact unhide HPO bad H _ (Or.inl ⟨unhide HR, rfl, rfl⟩) ((unhide HD1).below hb2) (hB1.trans (But.of_below hb2))

end Go.Proofs.YtkkhgdkgbhdfaakGreatDoor.Lb

/-
  (*run.desk).answer, where the line's word is the seventh.
-/
namespace Go.Proofs.YtkkhgdkgbhdfaakGreatDoor.Lb
open Go.RowKit
open Go.Proofs.YtkkhgdkgbhdfaakGreatDoor.Tre Go.Proofs.YtkkhgdkgbhdfaakGreatDoor.Hrn Go.Proofs.YtkkhgdkgbhdfaakGreatDoor.Txt Go.Proofs.YtkkhgdkgbhdfaakGreatDoor.Ses Go.Proofs.YtkkhgdkgbhdfaakGreatDoor.Tnk Go.Proofs.YtkkhgdkgbhdfaakGreatDoor.Ev
set_option linter.unusedVariables false

set_option maxRecDepth 100000 in
set_option maxHeartbeats 16000000 in
theorem ansK7 {l : List Int} (hb : Byts l) (hl : l.length ≤ 3000) (D M : Nat) (H : Int) (w : World) (hL : Lib20 w) (hg : 9 ≤ w.heap.size) (hgD : 9 ≤ D) (hD : Desk w D M H) (hO : Ok 100 20 H) (hk : kind (hd l) = 7) :
    Calls Tryz.prog 42 #[.pointer (some ⟨D, 0, none⟩), .string (str l)] w fun e w' => AnsSays D M H l w e w' := by
  have HPO : Hid (∀ o H' w', Line H l o H' → Desk w' D M H' → But D w w' → AnsSays D M H l w (.returned (.string (str o))) w') := hide (fun o H' w' h1 h2 h3 => ⟨o, H', rfl, h1, h2, h3⟩)
  have HOK : Hid (∀ n, Reads l n → ∀ o H' w', Ans 7 n H o H' → Desk w' D M H' → But D w w' → AnsSays D M H l w (.returned (.string (str o))) w') := hide (fun n hn o H' w' h1 h2 h3 => ⟨o, H', rfl, Or.inr ⟨n, hn, by rw [hk]; exact h1⟩, h2, h3⟩)
  have HRI : Hid (∀ n, Reads l n → (many 7 ≤ n.length ∧ (more 7 = false → n.length = many 7) ∧ n.length ≤ 3000) ∧ ∀ j, j < n.length → -9999 ≤ at0 n j ∧ at0 n j ≤ 9999 ∧ (j < below 7 → 0 ≤ at0 n j)) := hide (fun n hn => by
    have h1 := reads_length hn
    have h2 := reads_in hn
    rw [hk] at h1 h2
    exact ⟨⟨h1.1, h1.2.1, by omega⟩, h2⟩)
  have cR := read20 hb hl D M H w hL hg hD
  have hbh : Byts (hd l) := by
    have := word_byts hb (j := 0) (List.length_pos_iff.2 (cut_ne 32 l))
    rw [cut_head] at this
    exact this
  have q1 : ((str (hd l)).toList == ([99, 111, 117, 110, 116] : List UInt8)) = false := by rw [is_kCount hbh, hk]; rfl
  have q2 : ((str (hd l)).toList == ([114, 97, 110, 107] : List UInt8)) = false := by rw [is_kRank hbh, hk]; rfl
  have q3 : ((str (hd l)).toList == ([114, 111, 119] : List UInt8)) = false := by rw [is_kRow hbh, hk]; rfl
  have q4 : ((str (hd l)).toList == ([110, 101, 97, 114] : List UInt8)) = false := by rw [is_kNear hbh, hk]; rfl
  have q5 : ((str (hd l)).toList == ([103, 97, 105, 110] : List UInt8)) = false := by rw [is_kGain hbh, hk]; rfl
  have q6 : ((str (hd l)).toList == ([116, 117, 114, 110] : List UInt8)) = false := by rw [is_kTurn hbh, hk]; rfl
  have q7 : ((str (hd l)).toList == ([109, 97, 121] : List UInt8)) = true := by rw [is_kMay hbh, hk]; rfl
  clear hbh hk
  go_enter Tryz.func42, Tryz.ntmps42
  go_wp2_with fail
  refine cR.mono ?_
  rintro e w1 ⟨hsay, hb1⟩
  have hD1 := hD.below hb1
  have hL1 := hL.on hb1 hg
  have hg1 : 9 ≤ w1.heap.size := Nat.le_trans hg hb1.size
  have hB1 : But D w w1 := But.of_below hb1
  have HD1 := hide hD1
  have HL1 := hide hL1
  clear cR hD hL hg hb1 hD1 hL1
  rcases hsay with ⟨n, v, hR, rfl, hv⟩ | ⟨hR, rfl⟩
  · have HFIN : Hid (∀ o H' w', Ans 7 n H o H' → Desk w' D M H' → But D w1 w' → AnsSays D M H l w (.returned (.string (str o))) w') := hide (fun o H' w' h1 h2 h3 => unhide HOK n hR o H' w' h1 h2 (hB1.trans h3))
    obtain ⟨⟨y1, y2, y3⟩, y4⟩ := unhide HRI n hR
    have y1' : 0 ≤ n.length := y1
    have HY4 := hide y4
    have y2' : n.length = 0 := y2 rfl
    clear HOK HRI hR y1 y2 y4 HPO
    obtain ⟨X, hX⟩ : ∃ X, str (hd l) = X := ⟨_, rfl⟩
    rw [hX] at q1 q2 q3 q4 q5 q6 q7 ⊢
    clear hX
    have e0 : tankF 100 20 H = 0 := tankF_zero.2 hO
    have e1 : mayN 100 20 H = may 100 20 H := by unfold mayN; rw [if_pos e0]
    have hm := may_in hO
    have HO := hide (fun w' => unhide HFIN (tell [may 100 20 H]) H w' ⟨rfl, rfl⟩)
    have CO := mayG 100 20 H w1
    rw [e0, errV_zero, e1] at CO
    have d0 := (unhide HD1).c0
    have d1 := (unhide HD1).c1
    have d2 := (unhide HD1).c2
    obtain ⟨R, hR⟩ : ∃ R, may 100 20 H = R := ⟨_, rfl⟩
    rw [hR] at HO CO hm
    have hi1 : Hid (∀ j, j < [(R : Int)].length → -9223372036854775808 ≤ at0 [(R : Int)] j ∧ at0 [(R : Int)] j ≤ 9223372036854775807) := hide (fun j hj => by
      obtain rfl : j = 0 := by simpa using hj
      simp only [at0, List.getElem?_cons_zero, Option.getD_some]
      omega)
    clear HFIN e0 e1 hR hv HY4
    go_wp2_with fail
    refine CO.mono ?_
    rintro e w2 ⟨rfl, hb2⟩
    have hba : Below w1.heap.size w1 (w2.alloc (.cells #[.int .i64 R] 3)) := hb2.alloc hb2.size _
    have cT := told_ok (some ⟨w2.heap.size, 0, none⟩) 1 [R] (w2.alloc (.cells #[.int .i64 R] 3)) (row_one _ _ _) (by simp) hi1 ((unhide HL1).on hba hg1) (Nat.le_trans hg1 hba.size)
    clear d0 d1 d2
    go_wp2_with fail
    refine cT.mono ?_
    rintro e w3 ⟨rfl, hb3⟩
    have hb3' := Below.chain hba hb3
    go_wp2
    go_ret
    exact unhide HO _ ((unhide HD1).below hb3') (But.of_below hb3')
  · have HR := hide hR
    have cT := told_bad (.slice none 0 0) w1 (unhide HL1)
    clear hR HOK HRI q1 q2 q3 q4 q5 q6 q7
    unfold badV at cT ⊢
    go_wp2_with fail
    refine cT.mono ?_
    rintro e w2 ⟨rfl, hb2⟩
    go_wp2
    go_ret
    exact unhide HPO bad H _ (Or.inl ⟨unhide HR, rfl, rfl⟩) ((unhide HD1).below hb2) (hB1.trans (But.of_below hb2))

end Go.Proofs.YtkkhgdkgbhdfaakGreatDoor.Lb
