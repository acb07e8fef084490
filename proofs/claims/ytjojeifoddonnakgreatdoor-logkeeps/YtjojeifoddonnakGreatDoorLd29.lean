/-
  LogKeeps, over any log that answers as it is asked.
-/
import Derived.Test.YtjojeifoddonnakGreatDoorLd22
import Derived.Test.YtjojeifoddonnakGreatDoorLd23
import Derived.Test.YtjojeifoddonnakGreatDoorLd08
import Derived.Test.YtjojeifoddonnakGreatDoorLd11
import Derived.Test.YtjojeifoddonnakGreatDoorLd28
import Derived.Deep.CutBlock
import Derived.Deep.DeepCutAuto
import Derived.Deep.RegionWith
import Derived.Deep.RegionHeld3
namespace Go.Proofs.YtjojeifoddonnakGreatDoor.Lg19
open Go.RowKit
open Go.Proofs.YtjojeifoddonnakGreatDoor.Tre Go.Proofs.YtjojeifoddonnakGreatDoor.Frm Go.Proofs.YtjojeifoddonnakGreatDoor.Pck Go.Proofs.YtjojeifoddonnakGreatDoor.Hrn Go.Proofs.YtjojeifoddonnakGreatDoor.Ev Go.Proofs.YtjojeifoddonnakGreatDoor.Aser
set_option linter.unusedVariables false

set_option maxRecDepth 100000 in
set_option maxHeartbeats 32000000 in
theorem keeps_walk (H : Holds) (C : LogC H) (a0 : Option Addr) (cap0 : Nat) (s : List Int) (B : Int) (a2 : Option Addr) (cap2 : Nat) (l : List ByteArray) (a3 : Option Addr) (cap3 : Nat) (sy : List Int) (a4 : Option Addr) (cap4 : Nat) (fa : List Int) (a5 : Option Addr) (cap5 : Nat) (ke : List Int) (w : World) (hL : Laid w)
    (hs : Row w a0 s) (hl : RowT w a2 l) (hsy : Row w a3 sy) (hfa : Row w a4 fa) (hke : Row w a5 ke) (zs : s.length ≤ 17592186044416) (zl : l.length ≤ 17592186044416) (zsy : sy.length ≤ 17592186044416) (zfa : fa.length ≤ 17592186044416) (zke : ke.length ≤ 17592186044416)
    (zx : Hid (∀ i, i < l.length → (l.getD i ⟨#[]⟩).size ≤ 9223372036854775807)) (HFA : Hid (∀ i, i < fa.length → at0 fa i ≤ 9223372036854775807)) :
    Calls Tryz.prog 3 #[.slice a0 s.length cap0, .int .i64 B, .slice a2 l.length cap2, .slice a3 sy.length cap3, .slice a4 fa.length cap4, .slice a5 ke.length cap5] w fun e w' => e = .returned (.bool true) ∧ Below w.heap.size w w' := by
  have hrA := row_one w 2 3
  have hbA : Below w.heap.size w (w.alloc (.cells #[.int .i64 2] 3)) := (Below.refl _ _).alloc (Nat.le_refl _) _
  have CN := hide (C.new (some ⟨w.heap.size, 0, none⟩) 1 [2] 0 _ hrA (by decide))
  have HN0 : Hid (Hid18.newF [2] 0 = 0) := hide fact_new.1
  have hWs : w.heap.size ≤ (w.alloc (.cells #[.int .i64 2] 3)).heap.size := hbA.size
  have CPZ : Hid (∀ Q W b L, H [2] 0 Q W b L → Calls Tryz.prog 5 #[.pointer (some ⟨b, 0, none⟩), .string ⟨#[0]⟩] W fun e W' => ∃ E L', e = .returned (errV E) ∧ PutF [2] 0 L ⟨#[0]⟩ E L' ∧ Left H [2] 0 Q W b L' W') := hide (fun Q W b L h => C.put ⟨#[0]⟩ h (by decide))
  have CPF : Hid (∀ Q W b L, H [2] 0 Q W b L → Calls Tryz.prog 5 #[.pointer (some ⟨b, 0, none⟩), .string ⟨#[4]⟩] W fun e W' => ∃ E L', e = .returned (errV E) ∧ PutF [2] 0 L ⟨#[4]⟩ E L' ∧ Left H [2] 0 Q W b L' W') := hide (fun Q W b L h => C.put ⟨#[4]⟩ h (by decide))
  have CNP := hide (fun W h => Hid18.refNew a0 cap0 s B W h (by omega))
  have CNW := hide (fun W h => C.new a0 cap0 s B W h zs)
  have ER : Hid (∀ E m W, Below w.heap.size w W → Calls Tryz.prog 12 #[errV E, .int .i64 m] W fun e w' => e = .returned (.bool (E == m)) ∧ Below W.heap.size W w') := hide (fun E m W hb => error_all E m W (hL.below hb))
  have CUN := hide (fun x W h h' => refUnpack x a0 cap0 s B W h h' (by omega))
  unfold UnpPost at CUN
  obtain ⟨NS, hNS⟩ : ∃ NS, s.length = NS := ⟨_, rfl⟩
  obtain ⟨NL, hNL⟩ : ∃ NL, l.length = NL := ⟨_, rfl⟩
  obtain ⟨NY, hNY⟩ : ∃ NY, sy.length = NY := ⟨_, rfl⟩
  obtain ⟨NF, hNF⟩ : ∃ NF, fa.length = NF := ⟨_, rfl⟩
  obtain ⟨NK, hNK⟩ : ∃ NK, ke.length = NK := ⟨_, rfl⟩
  have HNL := hide hNL
  have HNY := hide hNY
  have HNF := hide hNF
  have HNK := hide hNK
  rw [hNS] at CNP CNW CUN
  rw [hNL] at zl zx
  rw [hNY] at zsy
  rw [hNF] at zfa
  rw [hNK] at zke
  rw [hNS, hNL, hNY, hNF, hNK]
  clear hNS hNL hNY hNF hNK zs
  go_enter Tryz.func3, Tryz.ntmps3
  go_wp2_with fail
  refine (unhide CN).mono ?_
  rintro e w1 ⟨hsay, hb1⟩
  rcases hsay with ⟨hne, -⟩ | ⟨-, b1, Q1, rfl, hH1, hq1⟩
  · exact absurd (unhide HN0) hne
  have hB1 := Below.chain hbA hb1
  have hq1' : ∀ k, Q1 k → w.heap.size ≤ k := fun k hk => Nat.le_trans hWs (hq1 k hk)
  have CP1 := hide (unhide CPZ Q1 w1 b1 none0 hH1)
  clear CN hb1 hbA hrA hq1 hWs HN0 hH1
  go_wp2_with fail
  refine (unhide CP1).mono ?_
  rintro e w2 ⟨E1, L1, rfl, P1, hl1⟩
  obtain ⟨Q2, hH2, hq2, hB2⟩ := hl1.on hq1' hB1 hB1.size
  have CS := hide (C.sync hH2)
  clear CP1 hl1 hq1' hB1 hH2
  go_wp2_with fail
  refine (unhide CS).mono ?_
  rintro e w3 ⟨E2, L2, rfl, P2, hl2⟩
  obtain ⟨Q3, hH3, hq3, hB3⟩ := hl2.on hq2 hB2 hB2.size
  have CP2 := hide (unhide CPF Q3 w3 b1 L2 hH3)
  clear CS hl2 hq2 hB2 hH3
  go_wp2_with fail
  refine (unhide CP2).mono ?_
  rintro e w4 ⟨E3, L3, rfl, P3, hl3⟩
  obtain ⟨Q4, hH4, hq4, hB4⟩ := hl3.on hq3 hB3 hB3.size
  obtain ⟨rfl, rfl, rfl, hF3, hb3⟩ := fact_crash P1 P2 P3
  have CC := hide (C.crash 0 hH4)
  clear CP2 hl3 hq3 hB3 hH4 P1 P2 P3
  rw [errV_zero]
  go_wp2_with fail
  refine (unhide CC).mono ?_
  rintro e w5 ⟨rfl, hl5⟩
  obtain ⟨Q5, hH5, hq5, hB5⟩ := hl5.on hq4 hB4 hB4.size
  obtain ⟨L5, hL5⟩ : ∃ L5, crash L3 0 = L5 := ⟨_, rfl⟩
  rw [hL5] at hH5 hF3 hb3
  have CA := hide (C.all hH5)
  rw [hF3] at CA
  have KH : Hid (∀ W', Below w5.heap.size w5 W' → H [2] 0 Q5 W' b1 L5) := hide (fun W' hb => C.below hH5 hb)
  clear CC hl5 hq4 hB4 hH5 hL5 hF3
  go_wp2_with fail
  refine (unhide CA).mono ?_
  rintro e w6 ⟨a6, c6, rfl, r6, -, -, hb6⟩
  have hH6 := unhide KH w6 hb6
  have hB6 := Below.chain hB5 hb6
  obtain ⟨g, off, rfl, hgw, hc⟩ := r6.at (k := 0) (by simp)
  have c0 : w6.cell? ⟨g, off, none⟩ = some (.string ⟨#[0]⟩) := hc 0 (by simp)
  have CBy := hide (C.bytes hH6)
  have CSa : Hid (∀ W', Below w6.heap.size w6 W' → Calls Tryz.prog 10 #[.pointer (some ⟨b1, 0, none⟩)] W' fun e w' => e = .returned (.int .i64 L5.s) ∧ Below W'.heap.size W' w') := hide (fun W' hb => C.safe (C.below hH6 hb))
  rw [hb3] at CBy
  obtain ⟨V5, hV5⟩ : ∃ V5, L5.s = V5 := ⟨_, rfl⟩
  rw [hV5] at CBy CSa
  have dV : (V5 == V5) = true := by simp
  have dV2 : (V5 != V5) = false := by simp
  clear CA KH hb6 hB5 hH6 hc hV5 hb3 r6
  go_wp2_with fail
  refine (unhide CBy).mono ?_
  rintro e w7 ⟨rfl, hb7⟩
  have CS2 := hide (unhide CSa w7 hb7)
  clear CBy CSa
  go_wp2_with fail
  refine (unhide CS2).mono ?_
  rintro e w8 ⟨rfl, hb8⟩
  have hB8 := Below.chain (Below.chain hB6 hb7) hb8
  have CN2 := hide (unhide CNP w8 (hs.below hB8))
  clear CS2 hB6 hb7 hb8 hgw c0 dV dV2 CPZ CPF CNP
  go_wp2_with fail
  refine (unhide CN2).mono ?_
  rintro e w9 ⟨rfl, hb9⟩
  have hB9 := Below.chain hB8 hb9
  have CN3 := hide (unhide CNW w9 (hs.below hB9))
  clear CN2 hB8 hb9 CNW
  go_wp2_with fail
  refine (unhide CN3).mono ?_
  rintro e w10 ⟨hsay, hb10⟩
  have hB10 := Below.chain hB9 hb10
  have CE := hide (unhide ER (Hid18.newF s B) (Hid18.newF s B) w10 hB10)
  obtain ⟨NW, hNW⟩ : ∃ NW, Hid18.newF s B = NW := ⟨_, rfl⟩
  rw [hNW] at hsay CE ⊢
  have dN : (NW == NW) = true := by simp
  rw [dN] at CE
  clear CN3 hNW
  rcases hsay with ⟨hne, rfl⟩ | ⟨h0, b, Q0, rfl, hH0, hq0⟩
  · have dN0 : (NW != 0) = true := by simpa using hne
    go_wp2_with fail
    refine (unhide CE).mono ?_
    rintro e w11 ⟨rfl, hb11⟩
    go_wp2
    go_ret
    exact ⟨rfl, Below.chain hB10 hb11⟩
  · subst h0
    rw [errV_zero] at CE
    have KH : Hid (∀ W', Below w10.heap.size w10 W' → H s B Q0 W' b none0) := hide (fun W' hb => C.below hH0 hb)
    have HQ0 : Hid (∀ k, Q0 k → w.heap.size ≤ k) := hide (fun k hk => Nat.le_trans hB9.size (hq0 k hk))
    have HQ1 : Hid (∀ k, Q0 k → k < w10.heap.size) := hide (C.old hH0)
    go_wp2_with fail
    refine (unhide CE).mono ?_
    rintro e w11 ⟨rfl, hb11⟩
    have hB11 := Below.chain hB10 hb11
    have hH11 := unhide KH w11 hb11
    have hbm : Below w11.heap.size w11 (w11.alloc (.cells #[.int .i64 0] 3)) := (Below.refl _ _).alloc (Nat.le_refl _) _
    have K0 : Hid (Kept H s B w b Q0 (w11.alloc (.cells #[.int .i64 0] 3)) (.slice none 0 0) (.slice (some ⟨w11.heap.size, 0, none⟩) 1 1) none0.F none0.M none0) := hide (by
      refine ⟨C.below hH11 hbm, unhide HQ0, HasT.nil _ _, ?_, Or.inl rfl, fun k e => (by cases e), fun k e hk => ?_, Below.chain hB11 hbm⟩
      · refine ⟨rfl, Or.inr ⟨w11.heap.size, 1, #[.int .i64 0], rfl, hB11.size, heap_alloc_new _ _, by decide, by decide, rfl, rfl⟩⟩
      · have e2 : w11.heap.size = k := Option.some.inj e
        have h1 := unhide HQ1 k hk
        have h2 := hb11.size
        omega)
    clear CE KH HQ0 HQ1 hH0 hq0 hH11 hbm hB10 hB9 hb10 hb11
    go_wp2
    go_loopw [23, 24, 25, 26] (fun vd vm at_ r wr => ∃ (R AT : Nat) (Q : Nat → Prop) (L : St), R ≤ 4 ∧ r = .int .i64 R ∧ at_ = .int .i64 AT ∧ AT ≤ NL ∧ Kept H s B w b Q wr vd vm L.F L.M L) (fun _ _ _ r _ => 4 - (intOf r).toNat)
    case atStart => exact ⟨0, 0, Q0, none0, by omega, rfl, rfl, Nat.zero_le _, unhide K0⟩
    case round =>
      obtain ⟨R, AT, Q, L, hR4, rfl, rfl, hAT, K⟩ := hrel
      clear K0 hB11
      by_cases hR : R ≤ NF ∧ R < 4
      · obtain ⟨hRF, hR3⟩ := hR
        have d1 : decide ((R : Int) ≤ (NF : Int)) = true := decide_eq_true (by omega)
        have d1' : decide (R ≤ NF) = true := decide_eq_true hRF
        have d2 : decide ((R : Int) < 4) = true := decide_eq_true (by omega)
        have d2' : decide (R < 4) = true := decide_eq_true hR3
        go_upto_if 117 with fail
        go_cut [117] from 104 to 288 (fun c wx => ∃ (Q' : Nat → Prop) (L' : St), Kept H s B w b Q' wx u23 u24 L'.F L'.M L')
        case first =>
          as_aux_lemma =>
          by_cases hlt : R < NF
          · have e1 : decide ((R : Int) < (NF : Int)) = true := decide_eq_true (by omega)
            have e1' : decide (R < NF) = true := decide_eq_true hlt
            obtain ⟨bf, of, rfl, _, hcf⟩ := Bnd.cell_at (hfa.below K.below) (by rw [unhide HNF]; omega)
            have cf := hcf R (by rw [unhide HNF]; exact hlt)
            obtain ⟨X, hX⟩ : ∃ X, at0 fa R = X := ⟨_, rfl⟩
            rw [hX] at cf
            have CF := hide (C.fail X K.log (by rw [← hX]; exact unhide HFA R (by rw [unhide HNF]; exact hlt)))
            clear hcf hX
            go_wp2_with fail
            refine (unhide CF).mono ?_
            rintro e w2 ⟨L2, rfl, hF2, hl2⟩
            obtain ⟨Q2, K2⟩ := K.left hl2
            obtain ⟨f1, f2⟩ := fail_same hF2
            rw [← f1, ← f2] at K2
            clear CF hF2 hl2 f1 f2
            go_wp2
            go_meet
            exact ⟨Q2, L2, K2⟩
          · have e1 : decide ((R : Int) < (NF : Int)) = false := decide_eq_false (by omega)
            have e1' : decide (R < NF) = false := decide_eq_false hlt
            go_wp2
            go_meet
            exact ⟨Q, L, K⟩
        case rest =>
        obtain ⟨Q2, L2, K2⟩ := hcut
        clear K
        go_wp2
        go_loopw [23, 24, 25, 27] (fun vd vm at_ k wq => ∃ (K AT : Nat) (Q : Nat → Prop) (L : St), K ≤ 12 ∧ k = .int .i64 K ∧ at_ = .int .i64 AT ∧ AT ≤ NL ∧ Kept H s B w b Q wq vd vm L.F L.M L) (fun _ _ _ k _ => 12 - (intOf k).toNat)
        case atStart => exact ⟨0, AT, Q2, L2, by omega, rfl, rfl, hAT, K2⟩
        case round =>
          clear K2 Q2 L2 hAT
          rename World => wq
          obtain ⟨K, AT, Q, L, hK12, rfl, rfl, hAT, KK⟩ := hrel
          go_upto_region 25 with fail
          go_cut [131] from 124 to 214 (fun c wx => c = .bool (decide (K < 12 ∧ AT < NL)) ∧ wq = wx)
          case first =>
            as_aux_lemma =>
            by_cases h1 : K < 12
            · have e1 : decide ((K : Int) < 12) = true := decide_eq_true (by omega)
              have e1' : decide (K < 12) = true := decide_eq_true h1
              by_cases h2 : AT < NL
              · have e2 : decide ((AT : Int) < (NL : Int)) = true := decide_eq_true (by omega)
                have e2' : decide (AT < NL) = true := decide_eq_true h2
                have HT : Hid (decide (K < 12 ∧ AT < NL) = true) := hide (decide_eq_true ⟨h1, h2⟩)
                go_wp2
                go_meet
                exact ⟨by rw [unhide HT], by first | trivial | rfl⟩
              · have e2 : decide ((AT : Int) < (NL : Int)) = false := decide_eq_false (by omega)
                have e2' : decide (AT < NL) = false := decide_eq_false h2
                have HT : Hid (decide (K < 12 ∧ AT < NL) = false) := hide (decide_eq_false (fun h => h2 h.2))
                go_wp2
                go_meet
                exact ⟨by rw [unhide HT], by first | trivial | rfl⟩
            · have e1 : decide ((K : Int) < 12) = false := decide_eq_false (by omega)
              have e1' : decide (K < 12) = false := decide_eq_false h1
              have HT : Hid (decide (K < 12 ∧ AT < NL) = false) := hide (decide_eq_false (fun h => h1 h.1))
              go_wp2
              go_meet
              exact ⟨by rw [unhide HT], by first | trivial | rfl⟩
          case rest =>
          obtain ⟨rfl, rfl⟩ := hcut
          by_cases hT : K < 12 ∧ AT < NL
          · rw [decide_eq_true hT]
            as_aux_lemma =>
            obtain ⟨hK, hAL⟩ := hT
            have hAL' : AT < l.length := by rw [unhide HNL]; exact hAL
            go_upto_region 27 with fail
            go_cut [156] from 124 to 214 (fun c wx => c = .bool false ∧ ∃ (Q' : Nat → Prop) (L' : St), Kept H s B w b Q' wx u23 u24 L'.F L'.M L')
            case first =>
              as_aux_lemma =>
              by_cases h1 : AT < NY
              · have e1 : decide ((AT : Int) < (NY : Int)) = true := decide_eq_true (by omega)
                have e1' : decide (AT < NY) = true := decide_eq_true h1
                obtain ⟨bf, of, rfl, _, hcf⟩ := Bnd.cell_at (hsy.below KK.below) (by rw [unhide HNY]; omega)
                have cf := hcf AT (by rw [unhide HNY]; exact h1)
                obtain ⟨X, hX⟩ : ∃ X, at0 sy AT = X := ⟨_, rfl⟩
                rw [hX] at cf
                clear hcf hX
                by_cases h2 : X = 1
                · subst h2
                  have CS := hide (C.sync KK.log)
                  go_wp2_with fail
                  refine (unhide CS).mono ?_
                  rintro e w2 ⟨E, L2, rfl, hP, hl2⟩
                  obtain ⟨Q2, K2⟩ := KK.left hl2
                  obtain ⟨f1, f2⟩ := sync_same hP
                  rw [← f1, ← f2] at K2
                  by_cases hE : E = 0
                  · have hsb := sync_safe hP hE
                    subst hE
                    rw [errV_zero]
                    have CSa := hide (C.safe K2.log)
                    have CBy : Hid (∀ W', Below w2.heap.size w2 W' → Calls Tryz.prog 9 #[.pointer (some ⟨b, 0, none⟩)] W' fun e w' => e = .returned (.int .i64 L2.b) ∧ Below W'.heap.size W' w') := hide (fun W' hb => C.bytes (C.below K2.log hb))
                    rw [hsb] at CSa
                    have KH : Hid (∀ W', Below w2.heap.size w2 W' → Kept H s B w b Q2 W' u23 u24 L2.F L2.M L2) := hide (fun W' hb => K2.on C hb)
                    obtain ⟨V, hV⟩ : ∃ V, L2.b = V := ⟨_, rfl⟩
                    rw [hV] at CSa CBy
                    have dV : (V != V) = false := by simp
                    have dV2 : (V == V) = true := by simp
                    clear hV hsb hP hl2 f1 f2 CS K2 KK
                    go_wp2_with fail
                    refine (unhide CSa).mono ?_
                    rintro e w3 ⟨rfl, hb3⟩
                    have CB2 := hide (unhide CBy w3 hb3)
                    clear CSa CBy
                    go_wp2_with fail
                    refine (unhide CB2).mono ?_
                    rintro e w4 ⟨rfl, hb4⟩
                    have K4 := hide (unhide KH w4 (Below.chain hb3 hb4))
                    clear CB2 KH
                    go_wp2
                    go_meet
                    exact ⟨by first | trivial | rfl, Q2, L2, unhide K4⟩
                  · rw [errV_ne hE]
                    clear hP hl2 f1 f2 CS KK hE
                    go_wp2
                    go_meet
                    exact ⟨by first | trivial | rfl, Q2, L2, K2⟩
                · have e2 : (X == 1) = false := by rw [beq_eq_false_iff_ne]; exact h2
                  clear h2
                  go_wp2
                  go_meet
                  exact ⟨by first | trivial | rfl, Q, L, KK⟩
              · have e1 : decide ((AT : Int) < (NY : Int)) = false := decide_eq_false (by omega)
                have e1' : decide (AT < NY) = false := decide_eq_false h1
                go_wp2
                go_meet
                exact ⟨by first | trivial | rfl, Q, L, KK⟩
            case rest =>
            obtain ⟨rfl, Q2, L2, K2⟩ := hcut
            clear KK
            obtain ⟨bt, ot, rfl, hbt, hct⟩ := (hl.below K2.below).at hAL'
            have ct := hct AT hAL'
            have hzx := unhide zx AT hAL
            obtain ⟨x, hx⟩ : ∃ x, l.getD AT ⟨#[]⟩ = x := ⟨_, rfl⟩
            have HX := hide hx
            rw [hx] at ct hzx
            have CU := hide (unhide CUN x wc hzx (hs.below K2.below))
            clear hct hx
            go_wp2_with fail
            refine (unhide CU).mono ?_
            rintro e w3 ⟨E0, p3, q3, ps3, rfl, -, -, -, HU3, hb3⟩
            have K3 := K2.on C hb3
            have ct3 := (hb3.cell (p := ⟨bt, ot + AT, none⟩) hbt).trans ct
            have hbt3 := Nat.lt_of_lt_of_le hbt hb3.size
            have HU := hide HU3
            obtain ⟨pd, cd, rfl, rd, -, -⟩ := K3.frames.shape
            obtain ⟨NP, hNP⟩ : ∃ NP, ps3.length = NP := ⟨_, rfl⟩
            obtain ⟨NFr, hNFr⟩ : ∃ NFr, L2.F.length = NFr := ⟨_, rfl⟩
            have HFr := hide hNFr
            have hfew := (C.ok K3.log).few
            rw [hNP]
            rw [hNFr] at hfew K3 ⊢
            clear CU K2 HU3 hb3 ct hbt hNP hNFr rd
            go_upto_if 169 with fail
            go_cut [29] from 124 to 214 (fun v wx => v = .int .i64 (if 20 ≤ NFr then 4 else E0) ∧ w3 = wx)
            case first =>
              as_aux_lemma =>
              by_cases h20 : 20 ≤ NFr
              · have e1 : decide ((20 : Int) ≤ (NFr : Int)) = true := decide_eq_true (by omega)
                have e1' : decide (20 ≤ NFr) = true := decide_eq_true h20
                have HT : Hid ((if 20 ≤ NFr then (4 : Int) else E0) = 4) := hide (if_pos h20)
                go_wp2
                go_meet
                exact ⟨by rw [unhide HT], by first | trivial | rfl⟩
              · have e1 : decide ((20 : Int) ≤ (NFr : Int)) = false := decide_eq_false (by omega)
                have e1' : decide (20 ≤ NFr) = false := decide_eq_false h20
                have HT : Hid ((if 20 ≤ NFr then (4 : Int) else E0) = E0) := hide (if_neg h20)
                go_wp2
                go_meet
                exact ⟨by rw [unhide HT], by first | trivial | rfl⟩
            case rest =>
            obtain ⟨rfl, rfl⟩ := hcut
            obtain ⟨E9, hE9⟩ : ∃ E9, (if 20 ≤ NFr then (4 : Int) else E0) = E9 := ⟨_, rfl⟩
            have HE9 := hide hE9
            rw [hE9]
            have hby := (C.ok K3.log).bytes
            have CBy := hide (C.bytes K3.log)
            have KH3 : Hid (∀ W', Below w3.heap.size w3 W' → Kept H s B w b Q2 W' (.slice pd NFr cd) u24 L2.F L2.M L2) := hide (fun W' hb => K3.on C hb)
            obtain ⟨Y, hY⟩ : ∃ Y : Nat, L2.b = Y := ⟨L2.b.toNat, by omega⟩
            have HY := hide hY
            rw [hY] at CBy hby
            obtain ⟨hy0, hy2, -, -⟩ := hby
            clear hE9 hY K3
            go_wp2_with fail
            refine (unhide CBy).mono ?_
            rintro e w4 ⟨rfl, hb4⟩
            have K4 := unhide KH3 w4 hb4
            have ct4 := (hb4.cell (p := ⟨bt, ot + AT, none⟩) hbt3).trans ct3
            have hbt4 := Nat.lt_of_lt_of_le hbt3 hb4.size
            have CPu := hide (C.put x K4.log hzx)
            clear CBy KH3 hb4 ct3 hbt3
            go_wp2_with fail
            refine (unhide CPu).mono ?_
            rintro e w5 ⟨E, L5, rfl, hP, hl5⟩
            obtain ⟨Q5, K5⟩ := K4.left hl5
            have hB5 := K5.below
            have C6 := hide (unhide ER E 6 w5 hB5)
            have hw45 : w4.heap.size ≤ w5.heap.size := by
              obtain ⟨_, _, _, h⟩ := hl5
              exact h.size
            have HP := hide hP
            have KH5 : Hid (∀ W', Below w5.heap.size w5 W' → Kept H s B w b Q5 W' (.slice pd NFr cd) u24 L2.F L2.M L5) := hide (fun W' hb => K5.on C hb)
            have ctW : Hid (∀ W', Below w.heap.size w W' → W'.cell? ⟨bt, ot + AT, none⟩ = some (.string x)) := hide (fun W' hb => by
              obtain ⟨b', o', e', _, hc'⟩ := (hl.below hb).at hAL'
              cases e'
              have := hc' AT hAL'
              rw [unhide HX] at this
              exact this)
            clear CPu hP hl5 K4 ct4 hbt4 hw45 K5
            go_wp2_with fail
            refine (unhide C6).mono ?_
            rintro e w6 ⟨rfl, hb6⟩
            have hB6 := Below.chain hB5 hb6
            have C7 := hide (unhide ER E E9 w6 hB6)
            clear C6
            go_wp2_with fail
            refine (unhide C7).mono ?_
            rintro e w7 ⟨rfl, hb7⟩
            have hb57 := Below.chain hb6 hb7
            have K7 := unhide KH5 w7 hb57
            have hB7 := K7.below
            clear C7 KH5 hB5 hB6 hb6 hb7 hb57
            by_cases hE : E = 0
            · subst hE
              obtain ⟨z1, ⟨ps, z2⟩, r, f', r1, r2, hL5⟩ := put_zero (unhide HP) rfl
              have hE9 : E9 = 0 := by
                rw [← unhide HE9, if_neg (by rw [← unhide HFr]; omega)]
                exact ((unhide HU).one z2).1
              subst hE9
              obtain ⟨rn, hrn⟩ : ∃ rn : Nat, r = rn := ⟨r.toNat, by omega⟩
              subst hrn
              have hb5 : L5.b = ((Y + rn : Nat) : Int) := by rw [hL5]; show L2.b + (rn : Int) = _; rw [unhide HY]; omega
              have hF5 : L5.F = L2.F ++ [x] := by rw [hL5]
              have hM5 : L5.M = L2.M ++ [((Y + rn : Nat) : Int)] := by rw [hL5]; show L2.M ++ [L2.b + (rn : Int)] = _; rw [unhide HY, Int.natCast_add]
              have HF5 := hide hF5
              have HM5 := hide hM5
              obtain ⟨YR, hYR⟩ : ∃ YR, Y + rn = YR := ⟨_, rfl⟩
              rw [hYR] at hb5 HM5
              have CB1 : Hid (∀ W', H s B Q5 W' b L5 → Calls Tryz.prog 9 #[.pointer (some ⟨b, 0, none⟩)] W' fun e w' => e = .returned (.int .i64 (YR : Int)) ∧ Below W'.heap.size W' w') := hide (fun W' h => by rw [← hb5]; exact C.bytes h)
              have wY : IntKind.i64.wrap ((Y : Int) + 2) = ((Y + 2 : Nat) : Int) := by rw [IntWalk.i64_in _ (by omega)]; omega
              obtain ⟨Y2, hY2⟩ : ∃ Y2, Y + 2 = Y2 := ⟨_, rfl⟩
              rw [hY2] at wY
              have dY : decide ((YR : Int) < (Y2 : Int)) = false := decide_eq_false (by omega)
              have dY' : decide (YR < Y2) = false := decide_eq_false (by omega)
              have q1 : ((0 : Int) == 6) = false := by decide
              have q2 : ((0 : Int) == 0) = true := by decide
              have hln1 : Hid (L2.F.length + 1 ≤ 1000000) := hide (by omega)
              have hln2 : Hid (L2.M.length + 1 ≤ 1000000) := hide (by
                have h1 := (C.ok K7.log).len
                have h2 := (C.ok K7.log).few
                rw [hM5, List.length_append] at h1
                have h3 : [((Y + rn : Nat) : Int)].length = 1 := rfl
                omega)
              rw [errV_zero]
              have CB7 := hide (unhide CB1 w7 K7.log)
              clear hb5 hF5 hM5 hL5 z1 z2 hYR hY2 r1 r2 HP HU HE9 HFr HY
              go_wp2_with fail
              refine (unhide CB7).mono ?_
              rintro e w8 ⟨rfl, hb8⟩
              have K8 := K7.on C hb8
              have ct8 := unhide ctW w8 K8.below
              have hs8 := K8.below.size
              have hbx : Below w8.heap.size w8 (w8.alloc (.cells #[.string x] 9)) := (Below.refl _ _).alloc (Nat.le_refl _) _
              have K8a := K8.on C hbx
              clear CB7 hb8 K7 hB7
              go_wp2_with (at_builtin; refine wpList_appt _ rfl _ _ rfl w.heap.size (.slice pd NFr cd) L2.F x _ _ _ rfl K8a.frames rfl (cell_str _ _ _) (unhide hln1) K8a.below.size ?_; intro v9 w9 k9 g9 at9)
              have K9 := K8a.appT C k9 g9 at9
              have CB9 := hide (unhide CB1 w9 K9.log)
              clear K8 K8a hbx k9 g9 at9 ct8 hs8
              go_wp2_with fail
              refine (unhide CB9).mono ?_
              rintro e w10 ⟨rfl, hb10⟩
              have K10 := K9.on C hb10
              have hby : Below w10.heap.size w10 (w10.alloc (.cells #[.int .i64 (YR : Int)] 3)) := (Below.refl _ _).alloc (Nat.le_refl _) _
              have K10a := K10.on C hby
              clear CB9 K9 hb10
              go_wp2_with (at_builtin; refine wpList_app _ rfl _ _ rfl w.heap.size u24 L2.M [(YR : Int)] _ _ rfl K10a.marks rfl (row_one _ _ _) (unhide hln2) K10a.below.size ?_; intro v11 w11 k11 g11 at11)
              have K11 := K10a.appM C k11 g11 at11
              rw [← unhide HF5, ← unhide HM5] at K11
              obtain ⟨pd9, cd9, rfl, rd9, -, -⟩ := K11.frames.shape
              have CA := hide (C.all K11.log)
              have hf20 := (C.ok K11.log).few
              have CST : Hid (∀ a c W, RowT W a L5.F → RowT W pd9 L5.F → Calls Tryz.prog 15 #[.slice a L5.F.length c, .slice pd9 L5.F.length cd9] W fun e w' => e = .returned (.bool true) ∧ Below W.heap.size W w') := hide (fun a c W h h' => strs_same a c pd9 cd9 L5.F W (by omega) h h')
              have KH : Hid (∀ W', Below w11.heap.size w11 W' → Kept H s B w b Q5 W' (.slice pd9 L5.F.length cd9) v11 L5.F L5.M L5) := hide (fun W' hb => K11.on C hb)
              obtain ⟨p11, n11, q11, rfl⟩ := K11.marks.shape
              clear K10 K10a hby k11 g11 at11 K11
              obtain ⟨NF5, hNF5⟩ : ∃ NF5, L5.F.length = NF5 := ⟨_, rfl⟩
              rw [hNF5] at CA CST KH hf20 ⊢
              go_wp2_with fail
              refine (unhide CA).mono ?_
              rintro e w12 ⟨a12, c12, rfl, r12, -, -, hb12⟩
              have CS2 := hide (unhide CST a12 c12 w12 r12 (rd9.below hb12))
              clear CA CST
              go_wp2_with fail
              refine (unhide CS2).mono ?_
              rintro e w13 ⟨rfl, hb13⟩
              have K13 := hide (unhide KH w13 (Below.chain hb12 hb13))
              clear CS2 KH r12 hb12 hb13 rd9
              go_wp2
              go_roundw
              case rel => exact ⟨K + 1, AT + 1, Q5, L5, by omega, by go_num, by go_num, by omega, unhide K13⟩
              case measure => simp [intOf]; omega
            · obtain ⟨f1, f2, f3⟩ := put_some (unhide HP) hE (unhide HU)
              rw [← f1, ← f2] at K7
              have HF3 : Hid (E = 6 ∨ E = E9) := hide (by
                rcases f3 with h | h
                · exact Or.inl h
                · right
                  rw [h, ← unhide HE9, unhide HFr])
              have hNF5 : L5.F.length = NFr := by rw [f1]; exact unhide HFr
              have CA := hide (C.all K7.log)
              have rd7 : RowT w7 pd L5.F := by
                obtain ⟨a, c, e, r, _, _⟩ := K7.frames.shape
                obtain ⟨ea, _, _⟩ := Value.slice.inj e
                rw [ea]
                exact r
              have CST : Hid (∀ a c W, RowT W a L5.F → RowT W pd L5.F → Calls Tryz.prog 15 #[.slice a L5.F.length c, .slice pd L5.F.length cd] W fun e w' => e = .returned (.bool true) ∧ Below W.heap.size W w') := hide (fun a c W h h' => strs_same a c pd cd L5.F W (by omega) h h')
              have KH : Hid (∀ W', Below w7.heap.size w7 W' → Kept H s B w b Q5 W' (.slice pd NFr cd) u24 L5.F L5.M L5) := hide (fun W' hb => K7.on C hb)
              rw [hNF5] at CA CST
              rw [errV_ne hE]
              clear HP HU HE9 HFr HY f1 f2 f3 K7 hB7 hNF5 hE
              by_cases h6 : E = 6
              · subst h6
                have q1 : ((6 : Int) == 6) = true := by decide
                clear HF3
                go_wp2_with fail
                refine (unhide CA).mono ?_
                rintro e w12 ⟨a12, c12, rfl, r12, -, -, hb12⟩
                have CS2 := hide (unhide CST a12 c12 w12 r12 (rd7.below hb12))
                clear CA CST
                go_wp2_with fail
                refine (unhide CS2).mono ?_
                rintro e w13 ⟨rfl, hb13⟩
                have K13 := hide (unhide KH w13 (Below.chain hb12 hb13))
                clear CS2 KH r12 hb12 hb13 rd7
                go_wp2
                go_roundw
                case rel => exact ⟨K + 1, AT + 1, Q5, L5, by omega, by go_num, by go_num, by omega, unhide K13⟩
                case measure => simp [intOf]; omega
              · obtain rfl : E = E9 := by
                  rcases unhide HF3 with h | h
                  · exact absurd h h6
                  · exact h
                have q1 : (E == 6) = false := by rw [beq_eq_false_iff_ne]; exact h6
                have q2 : (E == E) = true := by simp
                clear HF3 h6
                go_wp2_with fail
                refine (unhide CA).mono ?_
                rintro e w12 ⟨a12, c12, rfl, r12, -, -, hb12⟩
                have CS2 := hide (unhide CST a12 c12 w12 r12 (rd7.below hb12))
                clear CA CST
                go_wp2_with fail
                refine (unhide CS2).mono ?_
                rintro e w13 ⟨rfl, hb13⟩
                have K13 := hide (unhide KH w13 (Below.chain hb12 hb13))
                clear CS2 KH r12 hb12 hb13 rd7
                go_wp2
                go_roundw
                case rel => exact ⟨K + 1, AT + 1, Q5, L5, by omega, by go_num, by go_num, by omega, unhide K13⟩
                case measure => simp [intOf]; omega
          · rw [decide_eq_false hT]
            as_aux_lemma =>
            clear hT hK12
            go_upto_if 218 with fail
            go_cut [33] from 104 to 288 (fun v wx => (∃ KP : Int, v = .int .i64 KP) ∧ wq = wx)
            case first =>
              as_aux_lemma =>
              by_cases hlt : R < NK
              · have e1 : decide ((R : Int) < (NK : Int)) = true := decide_eq_true (by omega)
                have e1' : decide (R < NK) = true := decide_eq_true hlt
                obtain ⟨bf, of, rfl, _, hcf⟩ := Bnd.cell_at (hke.below KK.below) (by rw [unhide HNK]; omega)
                have cf := hcf R (by rw [unhide HNK]; exact hlt)
                obtain ⟨X, hX⟩ : ∃ X, at0 ke R = X := ⟨_, rfl⟩
                rw [hX] at cf
                clear hcf hX
                go_wp2
                go_meet
                exact ⟨⟨X, by first | trivial | rfl⟩, by first | trivial | rfl⟩
              · have e1 : decide ((R : Int) < (NK : Int)) = false := decide_eq_false (by omega)
                have e1' : decide (R < NK) = false := decide_eq_false hlt
                go_wp2
                go_meet
                exact ⟨⟨0, by first | trivial | rfl⟩, by first | trivial | rfl⟩
            case rest =>
            obtain ⟨⟨KP, rfl⟩, rfl⟩ := hcut
            have hOk := C.ok KK.log
            have hby := hOk.bytes
            have CBy := hide (C.bytes KK.log)
            obtain ⟨w20, hw20⟩ : ∃ w20, wq = w20 := ⟨_, rfl⟩
            rw [hw20] at KK CBy ⊢
            clear hw20
            have KH : Hid (∀ W', Below w20.heap.size w20 W' → Kept H s B w b Q W' u23 u24 L.F L.M L) := hide (fun W' hb => KK.on C hb)
            go_wp2_with fail
            refine (unhide CBy).mono ?_
            rintro e w21 ⟨rfl, hb21⟩
            have K21 := unhide KH w21 hb21
            have CSa := hide (C.safe K21.log)
            clear CBy KH KK hb21
            go_wp2_with fail
            refine (unhide CSa).mono ?_
            rintro e w22 ⟨rfl, hb22⟩
            have K22 := K21.on C hb22
            have CC := hide (C.crash KP K22.log)
            clear CSa K21 hb22
            go_wp2_with fail
            refine (unhide CC).mono ?_
            rintro e w23 ⟨rfl, hl23⟩
            obtain ⟨Q3, K3⟩ := K22.left hl23
            have HHI : Hid (high L KP = if 0 < KP then (if KP < L.b - L.s then L.s + KP else L.b) else L.s) := hide rfl
            have HLF : Hid (left L KP = lst L.M (high L KP) L.M.length) := hide rfl
            have hLl := left_le hOk KP
            have hln := hOk.len
            have HM0 : Hid (at0 L.M 0 ≤ high L KP) := hide (by
              rw [unhide HHI, hOk.zero]
              split
              · split <;> omega
              · omega)
            have hfew := hOk.few
            obtain ⟨BB, hBB⟩ : ∃ BB : Nat, L.b = BB := ⟨L.b.toNat, by omega⟩
            obtain ⟨SS, hSS⟩ : ∃ SS : Nat, L.s = SS := ⟨L.s.toNat, by omega⟩
            rw [hBB, hSS] at HHI hby
            rw [hBB, hSS]
            obtain ⟨hb0, hb2, hs0, hsb⟩ := hby
            obtain ⟨L3, hL3⟩ : ∃ L3, crash L KP = L3 := ⟨_, rfl⟩
            have HL3 := hide hL3
            rw [hL3] at K3
            obtain ⟨DD, hDD⟩ : ∃ DD : Nat, BB - SS = DD := ⟨_, rfl⟩
            have wD : IntKind.i64.wrap ((BB : Int) - (SS : Int)) = (DD : Int) := by rw [IntWalk.i64_in _ (by omega)]; omega
            have HDD : Hid ((BB : Int) - (SS : Int) = (DD : Int)) := hide (by omega)
            clear CC hl23 K22 hOk hBB hSS hL3 hDD
            go_upto_region 53 with fail
            go_cut [239] from 104 to 288 (fun c wx => c = .bool (decide (0 < KP ∧ KP < (DD : Int))) ∧ w23 = wx)
            case first =>
              as_aux_lemma =>
              by_cases h1 : 0 < KP
              · have e1 : decide (0 < KP) = true := decide_eq_true h1
                by_cases h2 : KP < (DD : Int)
                · have e2 : decide (KP < (DD : Int)) = true := decide_eq_true h2
                  have HT : Hid (decide (0 < KP ∧ KP < (DD : Int)) = true) := hide (decide_eq_true ⟨h1, h2⟩)
                  clear h1 h2
                  go_wp2
                  go_meet
                  exact ⟨by rw [unhide HT], by first | trivial | rfl⟩
                · have e2 : decide (KP < (DD : Int)) = false := decide_eq_false h2
                  have HT : Hid (decide (0 < KP ∧ KP < (DD : Int)) = false) := hide (decide_eq_false (fun h => h2 h.2))
                  clear h1 h2
                  go_wp2
                  go_meet
                  exact ⟨by rw [unhide HT], by first | trivial | rfl⟩
              · have e1 : decide (0 < KP) = false := decide_eq_false h1
                have HT : Hid (decide (0 < KP ∧ KP < (DD : Int)) = false) := hide (decide_eq_false (fun h => h1 h.1))
                clear h1
                go_wp2
                go_meet
                exact ⟨by rw [unhide HT], by first | trivial | rfl⟩
            case rest =>
            obtain ⟨rfl, rfl⟩ := hcut
            obtain ⟨TT, hTT⟩ : ∃ TT, decide (0 < KP ∧ KP < (DD : Int)) = TT := ⟨_, rfl⟩
            have HTT := hide hTT
            rw [hTT]
            clear hTT
            go_upto_if 239 with fail
            go_cut [36] from 104 to 288 (fun v wx => v = .int .i64 (high L KP) ∧ w23 = wx)
            case first =>
              as_aux_lemma =>
              cases TT with
              | true =>
                obtain ⟨h1, h2⟩ := of_decide_eq_true (unhide HTT)
                have HV : Hid (high L KP = (SS : Int) + KP) := hide (by rw [unhide HHI, if_pos h1, unhide HDD, if_pos h2])
                have wS : IntKind.i64.wrap ((SS : Int) + KP) = (SS : Int) + KP := IntWalk.i64_in _ (by have := unhide HDD; omega)
                clear h1 h2 HTT
                go_wp2
                go_meet
                exact ⟨by rw [unhide HV], by first | trivial | rfl⟩
              | false =>
                have hn := of_decide_eq_false (unhide HTT)
                by_cases h1 : 0 < KP
                · have e1 : decide (0 < KP) = true := decide_eq_true h1
                  have HV : Hid (high L KP = (BB : Int)) := hide (by rw [unhide HHI, if_pos h1, unhide HDD, if_neg (fun h => hn ⟨h1, h⟩)])
                  clear h1 hn HTT
                  go_wp2
                  go_meet
                  exact ⟨by rw [unhide HV], by first | trivial | rfl⟩
                · have e1 : decide (0 < KP) = false := decide_eq_false h1
                  have HV : Hid (high L KP = (SS : Int)) := hide (by rw [unhide HHI, if_neg h1])
                  clear h1 hn HTT
                  go_wp2
                  go_meet
                  exact ⟨by rw [unhide HV], by first | trivial | rfl⟩
            case rest =>
            obtain ⟨rfl, rfl⟩ := hcut
            obtain ⟨HI, hHI⟩ : ∃ HI, high L KP = HI := ⟨_, rfl⟩
            rw [hHI] at HLF HM0 ⊢
            obtain ⟨NM, hNM⟩ : ∃ NM, L.M.length = NM := ⟨_, rfl⟩
            have HNM := hide hNM
            rw [hNM] at HLF hln
            obtain ⟨gm, cm, rfl, hgm1, hgm2, hcm, -⟩ := K3.marks.one (by rw [hNM]; omega)
            rw [hNM] at hcm K3 ⊢
            have hgm : ∀ i, i < NM → w23.cell? ⟨gm, i, none⟩ = some (.int .i64 (at0 L.M i)) := fun i hi => K3.marks.get (by rw [hNM]; exact hi)
            have HGM := hide hgm
            have hlnM : L.F.length + 1 ≤ NM := by omega
            have hNM21 : NM ≤ 21 := by omega
            clear hHI hNM hgm HHI HTT wD HDD hln
            go_wp2
            go_loopw [37, 38] (fun lf i wx => ∃ I : Nat, I ≤ NM ∧ i = .int .i64 I ∧ lf = .int .i64 (lst L.M HI I : Nat) ∧ w23 = wx) (fun _ i _ => NM - (intOf i).toNat)
            case atStart => exact ⟨0, Nat.zero_le _, rfl, rfl, rfl⟩
            case round =>
              obtain ⟨I, hI, rfl, rfl, hwx⟩ := hrel
              obtain rfl := hwx
              by_cases hlt : I < NM
              · have cI := unhide HGM I hlt
                have e0 : decide ((I : Int) < (NM : Int)) = true := decide_eq_true (by omega)
                by_cases hle : at0 L.M I ≤ HI
                · have e1 : decide (at0 L.M I ≤ HI) = true := decide_eq_true hle
                  have HS : Hid (lst L.M HI (I + 1) = I) := hide (by rw [lst, if_pos hle])
                  obtain ⟨X, hX⟩ : ∃ X, at0 L.M I = X := ⟨_, rfl⟩
                  rw [hX] at cI e1
                  clear hle hX
                  go_wp2
                  go_roundw
                  case rel => exact ⟨I + 1, by omega, by go_num, by rw [unhide HS], by first | trivial | rfl⟩
                  case measure => simp [intOf]; omega
                · have e1 : decide (at0 L.M I ≤ HI) = false := decide_eq_false hle
                  have HS : Hid (lst L.M HI (I + 1) = lst L.M HI I) := hide (by rw [lst, if_neg hle])
                  obtain ⟨X, hX⟩ : ∃ X, at0 L.M I = X := ⟨_, rfl⟩
                  rw [hX] at cI e1
                  clear hle hX
                  go_wp2
                  go_roundw
                  case rel => exact ⟨I + 1, by omega, by go_num, by rw [unhide HS], by first | trivial | rfl⟩
                  case measure => simp [intOf]; omega
              · obtain rfl : NM = I := by omega
                rw [← unhide HLF]
                have HF3 : Hid (L3.F = L.F.take (left L KP) ∧ L3.M = L.M.take (left L KP + 1) ∧ L3.b = at0 L.M (left L KP) ∧ L3.s = at0 L.M (left L KP)) := hide (by rw [← unhide HL3]; exact ⟨rfl, rfl, rfl, rfl⟩)
                obtain ⟨LF, hLF⟩ : ∃ LF, left L KP = LF := ⟨_, rfl⟩
                rw [hLF] at hLl HF3 ⊢
                obtain ⟨vd', hfd, kd', ed'⟩ := firstT K3.frames hLl
                have km' := cutM K3.marks (k := LF + 1) (by rw [unhide HNM]; omega)
                have K4 := K3.cut kd' ed' km' rfl
                obtain ⟨f1, f2, f3, f4⟩ := unhide HF3
                rw [← f1, ← f2] at K4
                have hV : at0 L3.M LF = at0 L.M LF := by rw [f2]; exact at0_take (by omega)
                have hM3 : L3.M.length = LF + 1 := by rw [f2, List.length_take, unhide HNM]; omega
                have hF3 : L3.F.length ≤ 20 := (C.ok K4.log).few
                obtain ⟨pd0, cd0, rfl, -, -, -⟩ := K3.frames.shape
                obtain ⟨V, hVV⟩ : ∃ V, at0 L.M LF = V := ⟨_, rfl⟩
                rw [hVV] at f3 f4 hV
                have hdr : Below w23.heap.size w23 w23.drew := ⟨rfl, rfl, rfl, Nat.le_refl _, fun _ _ => rfl⟩
                have KD := K4.on C hdr
                obtain ⟨pd, cd, rfl, -, -, -⟩ := K4.frames.shape
                have hLcm : LF + 1 ≤ cm := by omega
                have wL : IntKind.i64.wrap ((LF : Int) + 1) = ((LF + 1 : Nat) : Int) := by rw [IntWalk.i64_in _ (by omega)]; omega
                have CA := hide (C.all KD.log)
                have CST : Hid (∀ a c W, RowT W a L3.F → RowT W pd L3.F → Calls Tryz.prog 15 #[.slice a L3.F.length c, .slice pd L3.F.length cd] W fun e w' => e = .returned (.bool true) ∧ Below W.heap.size W w') := hide (fun a c W h h' => strs_same a c pd cd L3.F W (by omega) h h')
                have CBy : Hid (∀ W, H s B Q3 W b L3 → Calls Tryz.prog 9 #[.pointer (some ⟨b, 0, none⟩)] W fun e w' => e = .returned (.int .i64 V) ∧ Below W.heap.size W w') := hide (fun W h => by rw [← f3]; exact C.bytes h)
                have CSa : Hid (∀ W, H s B Q3 W b L3 → Calls Tryz.prog 10 #[.pointer (some ⟨b, 0, none⟩)] W fun e w' => e = .returned (.int .i64 V) ∧ Below W.heap.size W w') := hide (fun W h => by rw [← f4]; exact C.safe h)
                have HCM : Hid (∀ {W vd}, Kept H s B w b Q3 W vd (.slice (some ⟨gm, 0, none⟩) (LF + 1) cm) L3.F L3.M L3 → W.cell? ⟨gm, LF, none⟩ = some (.int .i64 V)) := hide (fun k => by
                  have := k.marks.get (j := LF) (by rw [hM3]; omega)
                  rw [hV] at this
                  exact this)
                have HRT : Hid (∀ {W vm}, Kept H s B w b Q3 W (.slice pd L3.F.length cd) vm L3.F L3.M L3 → RowT W pd L3.F) := hide (fun k => by
                  obtain ⟨a, c, e, r, _, _⟩ := k.frames.shape
                  obtain ⟨ea, _, _⟩ := Value.slice.inj e
                  rw [ea]
                  exact r)
                have cmD := unhide HCM KD
                have dV : (V != V) = false := by simp
                have dV2 : (V == V) = true := by simp
                obtain ⟨LM1, hLM1⟩ : ∃ LM1, LF + 1 = LM1 := ⟨_, rfl⟩
                have hLM : LF < LM1 := by omega
                rw [hLM1] at wL hLcm KD HCM
                obtain ⟨NF3, hNF3⟩ : ∃ NF3, L3.F.length = NF3 := ⟨_, rfl⟩
                rw [hNF3] at CA CST HRT KD hfd
                obtain ⟨NF0, hNF0⟩ : ∃ NF0, L.F.length = NF0 := ⟨_, rfl⟩
                rw [hNF0] at hfd ⊢
                clear hF3 hM3 hV hVV f1 f2 f3 f4 HF3 hLF K3 K4 kd' km' ed' hdr HLF HL3 HM0 HGM hLM1 hNF3 hNF0 hlt hI
                go_upto_region 65 with fail
                go_cut [288] from 104 to 288 (fun c wx => c = .bool false ∧ Kept H s B w b Q3 wx (.slice pd NF3 cd) (.slice (some ⟨gm, 0, none⟩) LM1 cm) L3.F L3.M L3)
                case first =>
                  as_aux_lemma =>
                  have cm24 : w23.drew.cell? ⟨gm, LF, none⟩ = some (.int .i64 V) := cmD
                  go_region_held3 (fun W' => W'.cell? ⟨gm, LF, none⟩ = some (.int .i64 V)) (first | exact cm27 | exact cm26 | exact cm25 | exact cm24 | exact cmD) (first
                    | (go_at_call 8; refine (unhide CA).mono ?_; rintro e w24 ⟨a24, c24, rfl, r24, -, -, hb24⟩; have K24 := KD.on C hb24; have cm24 := unhide HCM K24; have rd24 := unhide HRT K24)
                    | (go_at_call 15; refine (unhide CST _ _ _ r24 rd24).mono ?_; rintro e w25 ⟨rfl, hb25⟩; have K25 := K24.on C hb25; have cm25 := unhide HCM K25)
                    | (go_at_call 9; refine (unhide CBy _ K25.log).mono ?_; rintro e w26 ⟨rfl, hb26⟩; have K26 := K25.on C hb26; have cm26 := unhide HCM K26)
                    | (go_at_call 10; refine (unhide CSa _ K26.log).mono ?_; rintro e w27 ⟨rfl, hb27⟩; have K27 := K26.on C hb27; have cm27 := unhide HCM K27))
                  all_goals (
                    go_wp2
                    go_meet
                    exact ⟨by first | trivial | rfl, K27⟩)
                case rest =>
                obtain ⟨rfl, K9⟩ := hcut
                clear CA CST CBy CSa HCM HRT KD cmD
                go_wp2
                go_roundw
                case rel => exact ⟨R + 1, AT, Q3, L3, by omega, by go_num, by first | rfl | go_num, hAT, K9⟩
                case measure => simp [intOf]; omega
      · by_cases h1 : R ≤ NF
        · have d1 : decide ((R : Int) ≤ (NF : Int)) = true := decide_eq_true (by omega)
          have d1' : decide (R ≤ NF) = true := decide_eq_true h1
          have d2 : decide ((R : Int) < 4) = false := decide_eq_false (by omega)
          have d2' : decide (R < 4) = false := decide_eq_false (by omega)
          go_wp2
          go_ret
          exact ⟨rfl, K.below⟩
        · have d1 : decide ((R : Int) ≤ (NF : Int)) = false := decide_eq_false (by omega)
          have d1' : decide (R ≤ NF) = false := decide_eq_false h1
          go_wp2
          go_ret
          exact ⟨rfl, K.below⟩

end Go.Proofs.YtjojeifoddonnakGreatDoor.Lg19
