/-
  The walk of hornlaw2.WidthTells.
-/
import Derived.Test.YtpinmcgaaplkiagDoorWidthSays
import Derived.Test.YtpinmcgaaplkiagDoorRefOctets
import Derived.Test.YtpinmcgaaplkiagDoorRefOpen
import Derived.Test.YtpinmcgaaplkiagDoorRowCut
import Derived.Test.YtpinmcgaaplkiagDoorInts
import Derived.Deep.CutBlock
import Derived.Deep.DeepCutAuto
namespace Go.Proofs.YtpinmcgaaplkiagDoor.WidthTellsLaw
open Go.RowKit
open Go.Proofs.YtpinmcgaaplkiagDoor.Tre Go.Proofs.YtpinmcgaaplkiagDoor.Scl Go.Proofs.YtpinmcgaaplkiagDoor.Bnd Go.Proofs.YtpinmcgaaplkiagDoor.Hrn Go.Proofs.YtpinmcgaaplkiagDoor.Wid Go.Proofs.YtpinmcgaaplkiagDoor.Ev Go.Proofs.YtpinmcgaaplkiagDoor.Same Go.Proofs.YtpinmcgaaplkiagDoor.Aser
set_option linter.unusedVariables false

/-- What is wrong behind the widths. -/
def wF (F : Int) (ws : List Int) : Int := if F = 0 then (if ws.any now = true then 1 else 0) else F
theorem wF_no {F : Int} (ws : List Int) (h : F ≠ 0) : wF F ws = F := by unfold wF; rw [if_neg h]
theorem wF_at {ws : List Int} {j : Nat} (h : j < ws.length) (hb : at0 ws j < 0 ∨ 20 < at0 ws j) : wF 0 ws = 1 := by
  unfold wF
  rw [if_pos rfl, if_pos]
  apply List.any_eq_true.2
  have e : at0 ws j = ws[j] := by simp [at0, h]
  refine ⟨ws[j], List.getElem_mem h, ?_⟩
  rw [← e]
  simp [now]
  exact hb
theorem wF_all {ws : List Int} (h : Wds ws) : wF 0 ws = 0 := by
  unfold wF
  rw [if_pos rfl, if_neg (by rw [now_any.2 h]; simp)]
theorem getF_A {bs ws : List Int} (h : bsF bs ≠ 0) : getF bs ws = bsF bs := by unfold getF; rw [if_neg h]
theorem getF_B {bs ws : List Int} (h : bsF bs = 0) (h1 : wF 0 ws ≠ 0) : getF bs ws = wF 0 ws := by
  unfold wF at h1 ⊢
  unfold getF
  rw [if_pos rfl] at h1
  rw [if_pos h, if_pos rfl]
  split
  · rfl
  · rename_i h2
    rw [if_neg h2] at h1
    exact absurd rfl h1
theorem wF_zero {ws : List Int} (h : wF 0 ws = 0) : Wds ws := by
  unfold wF at h
  rw [if_pos rfl] at h
  split at h
  · omega
  · rename_i h2
    exact now_any.1 (Bool.eq_false_iff.2 h2)
theorem getF_C {bs ws : List Int} (h : bsF bs = 0) (h1 : wF 0 ws = 0) : getF bs ws = if total ws = bs.length then 0 else 3 := by
  unfold getF
  rw [if_pos h, if_neg (by rw [now_any.2 (wF_zero h1)]; simp)]
theorem btF_len {b : List Int} {m : Nat} (h : m ≤ 400) (hl : b.length ≠ (m + 7) / 8) : btF b m = 3 := by
  unfold btF
  rw [if_neg (by omega), if_pos (by omega)]
theorem btF_out {b : List Int} {n : Int} (h : n < 0 ∨ 400 < n) : btF b n = 1 := by unfold btF; rw [if_pos h]
theorem btF_one {b : List Int} {m j : Nat} (h : m ≤ 400) (hl : b.length = (m + 7) / 8) (h1 : m ≤ j) (h2 : j < 8 * b.length) (h3 : at0 (opn b) j = 1) : btF b m = 2 := by
  have e : at0 (opn b) j = opnF b j := by unfold opn; exact upto_at _ h2
  have h4 : btF b m ≠ 0 := fun h0 => (btF_zero.1 h0).2.2 j h1 h2 (by rw [← e]; exact h3)
  unfold btF at h4 ⊢
  rw [if_neg (by omega), if_neg (by omega)] at h4 ⊢
  split
  · rfl
  · rename_i h5
    rw [if_neg h5] at h4
    exact absurd rfl h4
theorem btF_none {b : List Int} {m : Nat} (h : m ≤ 400) (hl : b.length = (m + 7) / 8) (h1 : ∀ j, m ≤ j → j < 8 * b.length → at0 (opn b) j ≠ 1) : btF b m = 0 :=
  btF_zero.2 ⟨h, hl, fun j h2 h3 => by
    have e : at0 (opn b) j = opnF b j := by unfold opn; exact upto_at _ h3
    rw [← e]; exact h1 j h2 h3⟩
theorem pre_le20 {ws : List Int} (h : Wds ws) {j : Nat} (hj : j ≤ ws.length) : pre ws j ≤ 20 * j := by
  induction j with
  | zero => exact Nat.le_refl _
  | succ j ih =>
    have := ih (by omega)
    have := h j (by omega)
    rw [pre_succ]
    omega

set_option maxRecDepth 100000 in
set_option maxHeartbeats 32000000 in
theorem walk0 (a0 : Option Addr) (cap0 : Nat) (l : List Int) (a1 : Option Addr) (cap1 : Nat) (ws : List Int) (a2 : Option Addr) (cap2 : Nat) (bs : List Int) (s : ByteArray) (n : Int) (w : World) (hL : Laid w)
    (hr0 : Row w a0 l) (u0 : l.length ≤ 1048576) (hr1 : Row w a1 ws) (u1 : ws.length ≤ 1048576) (hr2 : Row w a2 bs) (u2 : bs.length ≤ 1048576) (hq2 : bs.length ≤ cap2 ∧ cap2 ≤ 9223372036854775807) (us : s.size ≤ 9223372036854775807) :
    Calls Tryd.prog 4 #[.slice a0 l.length cap0, .slice a1 ws.length cap1, .slice a2 bs.length cap2, .string s, .int .i64 n] w fun e w' => e = .returned (.bool true) ∧ Below w.heap.size w w' := by
  obtain ⟨q2, q9⟩ := hq2
  have CRP := hide (fun W h h' => ref_put a0 cap0 l a1 cap1 ws W h h' u0 (by omega))
  have CSP := hide (fun W h h' => say_put a0 cap0 l a1 cap1 ws W h h' (by omega) (by omega))
  have CBO := hide (fun W h => refBits a2 cap2 bs (bsF bs) W h (by omega) (hide rfl))
  have CSG := hide (fun W h h' => say_get a2 cap2 bs a1 cap1 ws W h h' q2 q9 (by omega) (by omega))
  have CRO : Hid (∀ W, Row W a2 bs → bsF bs = 0 → _) := hide (fun W h hF => refOctets a2 cap2 bs W h (bsF_zero.1 hF).1 (hide (bsF_zero.1 hF).2))
  have CSO := hide (fun W h => say_octets a2 cap2 bs W h q2 (by omega))
  have CSB := hide (fun W => say_bits s n W us)
  have hz0 : (putL l ws).length ≤ 400 := by
    unfold putL
    split
    · rename_i h; exact (putF_zero.1 h).2.2
    · simp
  have hz1 : (getL bs ws).length ≤ 1048576 := by
    unfold getL
    split
    · rw [gets_length]; exact u1
    · simp
  have hz3 : (btL (byt s) n).length ≤ 400 := by
    unfold btL
    split
    · rename_i h
      have h1 : ¬ (n < 0 ∨ 400 < n) := fun hc => by unfold btF at h; rw [if_pos hc] at h; omega
      rw [List.length_take]
      omega
    · simp
  have CI0 := hide (fun p q p' q' W h h' => ints_same p q p' q' (putL l ws) W (by omega) h h')
  have CI1 := hide (fun p q p' q' W h h' => ints_same p q p' q' (getL bs ws) W (by omega) h h')
  have CI3 := hide (fun p q p' q' W h h' => ints_same p q p' q' (btL (byt s) n) W (by omega) h h')
  obtain ⟨PL, hPL⟩ : ∃ PL, putL l ws = PL := ⟨_, rfl⟩
  obtain ⟨E0, hE0⟩ : ∃ E0, putF l ws = E0 := ⟨_, rfl⟩
  rw [hPL] at CRP CSP CI0 hz0
  rw [hE0] at CRP CSP
  obtain ⟨K0, hK0⟩ : ∃ K0, PL.length = K0 := ⟨_, rfl⟩
  rw [hK0] at CRP CSP CI0
  obtain ⟨N0, hN0⟩ : ∃ N, l.length = N := ⟨_, rfl⟩
  obtain ⟨N1, hN1⟩ : ∃ N, ws.length = N := ⟨_, rfl⟩
  obtain ⟨N2, hN2⟩ : ∃ N, bs.length = N := ⟨_, rfl⟩
  have HN1 := hide hN1
  have HN2 := hide hN2
  rw [hN0] at CRP CSP
  rw [hN1] at CRP CSP CSG u1
  rw [hN2] at CBO CSG CRO CSO u2 q2
  rw [hN0, hN1, hN2]
  clear hN0 hN1 hN2 hPL hE0 hK0 hz0 u0
  go_enter Tryd.func4, Tryd.ntmps4
  go_wp2_with fail
  refine (unhide CRP w hr0 hr1).mono ?_
  rintro e w1 ⟨p1, t1, rfl, r1, hB1⟩
  go_wp2_with fail
  refine (unhide CSP w1 (hr0.below hB1) (hr1.below hB1)).mono ?_
  rintro e w2 ⟨p2, t2, rfl, r2, -, -, hb2⟩
  have hB2 := Below.chain hB1 hb2
  have r1' := r1.below hb2
  clear r1 hB1 hb2 CRP CSP
  go_wp2_with fail
  refine (error_any E0 w2 (hL.below hB2)).mono ?_
  rintro e w3 ⟨rfl, hb3⟩
  have hB3 := Below.chain hB2 hb3
  have r1 := r1'.below hb3
  have r2' := r2.below hb3
  clear r1' r2 hB2 hb3
  go_wp2_with fail
  refine (unhide CI0 p2 t2 p1 t1 w3 r2' r1).mono ?_
  rintro e w4 ⟨rfl, hb4⟩
  have hB4 := Below.chain hB3 hb4
  clear r1 r2' hB3 hb4 CI0 hr0
  go_wp2_with fail
  refine (unhide CBO w4 (hr2.below hB4)).mono ?_
  rintro e w5 ⟨rfl, hw5⟩
  obtain rfl : w4 = w5 := hw5.symm
  clear hw5 CBO
  have HFF : Hid (bsF bs = bsF bs) := hide rfl
  obtain ⟨F, hF⟩ : ∃ F, bsF bs = F := ⟨_, rfl⟩
  have HF := hide hF
  rw [hF] at CSO CRO HFF ⊢
  clear hF HFF
  go_upto_block 0 with fail
  go_cut [12, 17] (fun s12 s17 wx => ∃ E1 S : Int, s12 = .int .i64 E1 ∧ s17 = .int .i64 S ∧ Hid (E1 = wF F ws) ∧ Hid (E1 = 0 → S = total ws) ∧ w4 = wx)
  case first =>
    have h0 : (Hid (F = 0) ∧ Hid (Wds (ws.take 0)) ∧ Hid ((0 : Int) = pre ws 0)) ∨ (Hid (F ≠ 0) ∧ (F == 0) = false ∧ Hid (F = wF F ws)) := by
      by_cases h : F = 0
      · exact Or.inl ⟨h, hide (fun i hi => by simp at hi), hide rfl⟩
      · exact Or.inr ⟨h, by rw [beq_eq_false_iff_ne]; exact h, hide (wF_no ws h).symm⟩
    have H0 := hide h0
    clear h0
    have rw1 := hr1.below hB4
    go_wp2_with fail
    go_loopw [12, 17, 18] (fun e t i wr => ∃ (j : Nat) (E1 S : Int), j ≤ N1 ∧ i = .int .i64 j ∧ e = .int .i64 E1 ∧ t = .int .i64 S ∧ Hid ((Hid (F = 0 ∧ E1 = 0) ∧ Hid (∀ i, i < j → 0 ≤ at0 ws i ∧ at0 ws i ≤ 20) ∧ Hid (S = pre ws j ∧ pre ws j ≤ 20 * j)) ∨ (Hid (E1 ≠ 0) ∧ (E1 == 0) = false ∧ Hid (E1 = wF F ws))) ∧ w4 = wr) (fun _ _ i _ => N1 - (intOf i).toNat)
    case atStart => exact ⟨0, F, 0, Nat.zero_le _, rfl, rfl, rfl, hide (by
      rcases unhide H0 with ⟨h1, h2, h3⟩ | h
      · exact Or.inl ⟨⟨h1, h1⟩, hide (fun i hi => by omega), hide ⟨rfl, Nat.le_refl _⟩⟩
      · exact Or.inr h), rfl⟩
    case round =>
      obtain ⟨j, E1, S, hj, rfl, rfl, rfl, HW, rfl⟩ := hrel
      clear H0
      rcases unhide HW with ⟨HZ, HR, HS⟩ | ⟨HE, hE, HEW⟩
      · obtain ⟨hF0, rfl⟩ := unhide HZ
        have HF0 := hide hF0
        clear HZ HW hF0
        by_cases hlt : j < N1
        · have hlt' : j < ws.length := by rw [unhide HN1]; exact hlt
          obtain ⟨b1, off1, rfl, _, hc1⟩ := cell_at rw1 (by omega)
          have c1 := hc1 j hlt'
          have HBD : Hid ((at0 ws j < 0 ∨ 20 < at0 ws j) → (1 : Int) = wF F ws) := hide (fun h => by rw [unhide HF0]; exact (wF_at hlt' h).symm)
          have HPS : Hid (pre ws (j + 1) = pre ws j + (at0 ws j).toNat) := hide (pre_succ ws j)
          have hSj : S ≤ 20 * j ∧ 0 ≤ S := by have := unhide HS; omega
          obtain ⟨X, hX⟩ : ∃ X, at0 ws j = X := ⟨_, rfl⟩
          have HX := hide hX
          rw [hX] at c1 HBD HPS
          obtain ⟨V, hV⟩ : ∃ V, IntKind.i64.wrap (S + X) = V := ⟨_, rfl⟩
          clear hX hc1 hlt'
          by_cases hx1 : X < 0
          · have dx : decide (X < 0) = true := by simpa using hx1
            have HWW : Hid ((1 : Int) = wF F ws) := hide (unhide HBD (Or.inl hx1))
            clear HBD HS HPS HR
            go_wp2
            go_roundw
            case rel => exact ⟨j + 1, 1, V, by omega, by go_num, by first | rfl | go_num, by first | rfl | go_num, hide (Or.inr ⟨hide (by omega), by first | trivial | rfl, HWW⟩), by first | trivial | rfl⟩
            case measure => simp [intOf]; omega
          · have dx : decide (X < 0) = false := by simpa using hx1
            by_cases hx2 : 20 < X
            · have dy : decide (20 < X) = true := by simpa using hx2
              have HWW : Hid ((1 : Int) = wF F ws) := hide (unhide HBD (Or.inr hx2))
              clear HBD HS HPS HR
              go_wp2
              go_roundw
              case rel => exact ⟨j + 1, 1, V, by omega, by go_num, by first | rfl | go_num, by first | rfl | go_num, hide (Or.inr ⟨hide (by omega), by first | trivial | rfl, HWW⟩), by first | trivial | rfl⟩
              case measure => simp [intOf]; omega
            · have dy : decide (20 < X) = false := by simpa using hx2
              have eV : V = S + X := by rw [← hV]; exact IntWalk.i64_in _ (by omega)
              have HS2 : Hid (V = pre ws (j + 1) ∧ pre ws (j + 1) ≤ 20 * (j + 1)) := hide (by have := unhide HS; have := unhide HPS; omega)
              have HR2 : Hid (∀ i, i < j + 1 → 0 ≤ at0 ws i ∧ at0 ws i ≤ 20) := hide (fun i hi => by
                by_cases e : i = j
                · rw [e, unhide HX]; omega
                · exact unhide HR i (by omega))
              clear HBD HS HPS HR eV
              go_wp2
              go_roundw
              case rel => exact ⟨j + 1, 0, V, by omega, by go_num, by first | rfl | go_num, by first | rfl | go_num, hide (Or.inl ⟨hide ⟨unhide HF0, rfl⟩, HR2, HS2⟩), by first | trivial | rfl⟩
              case measure => simp [intOf]; omega
        · obtain rfl : j = N1 := by omega
          have HWW : Hid ((0 : Int) = wF F ws) := hide (by rw [unhide HF0]; exact (wF_all (fun i hi => unhide HR i (by rw [← unhide HN1]; exact hi))).symm)
          have HSS : Hid (S = total ws) := hide (by have h := (unhide HS).1; unfold total; rw [unhide HN1]; exact h)
          clear HS HR
          go_wp2
          go_meet
          exact ⟨0, S, by first | rfl | trivial, by first | rfl | trivial, HWW, hide (fun _ => unhide HSS), by first | trivial | rfl⟩
      · have HSS : Hid (E1 = 0 → S = total ws) := hide (fun h => absurd h (unhide HE))
        clear HW
        by_cases hlt : j < N1
        · go_wp2
          go_meet
          exact ⟨E1, S, by first | rfl | trivial, by first | rfl | trivial, HEW, HSS, by first | trivial | rfl⟩
        · obtain rfl : j = N1 := by omega
          go_wp2
          go_meet
          exact ⟨E1, S, by first | rfl | trivial, by first | rfl | trivial, HEW, HSS, by first | trivial | rfl⟩
  case rest =>
    obtain ⟨E1, S, rfl, rfl, HE1, HS1, rfl⟩ := hcut
    obtain ⟨G, hG⟩ : ∃ G, getF bs ws = G := ⟨_, rfl⟩
    obtain ⟨GL, hGL⟩ : ∃ GL, getL bs ws = GL := ⟨_, rfl⟩
    obtain ⟨OL, hOL⟩ : ∃ OL, octL bs = OL := ⟨_, rfl⟩
    have HGA : Hid (E1 ≠ 0 → G = E1) := hide (fun h => by
      have h1 := unhide HE1
      by_cases hF0 : F = 0
      · rw [hF0] at h1
        have hg := getF_B (bs := bs) (by rw [unhide HF]; exact hF0) (by rw [← h1]; exact h)
        rw [← hG, hg, ← h1]
      · rw [wF_no ws hF0] at h1
        rw [← hG, getF_A (by rw [unhide HF]; exact hF0), unhide HF, ← h1])
    have HF0 : Hid (E1 = 0 → F = 0 ∧ Wds ws) := hide (fun h => by
      have h1 := unhide HE1
      by_cases hF0 : F = 0
      · rw [hF0, h] at h1
        exact ⟨hF0, wF_zero h1.symm⟩
      · rw [wF_no ws hF0, h] at h1
        exact absurd h1.symm hF0)
    have HGC : Hid (E1 = 0 → S ≠ (N2 : Int) → G = 3) := hide (fun h h2 => by
      obtain ⟨f0, fw⟩ := unhide HF0 h
      have h1 := unhide HE1
      rw [f0, h] at h1
      have hS := unhide HS1 h
      rw [← hG, getF_C (by rw [unhide HF]; exact f0) h1.symm, if_neg (by rw [unhide HN2]; omega)])
    have HGD : Hid (E1 = 0 → S = (N2 : Int) → G = 0) := hide (fun h h2 => by
      obtain ⟨f0, fw⟩ := unhide HF0 h
      have h1 := unhide HE1
      rw [f0, h] at h1
      have hS := unhide HS1 h
      rw [← hG, getF_C (by rw [unhide HF]; exact f0) h1.symm, if_pos (by rw [unhide HN2]; omega)])
    have HGZ : Hid (G = 0 → GL = gets bs ws ∧ Wds ws ∧ total ws = bs.length ∧ Bit bs) := hide (fun h => by
      rw [h] at hG
      obtain ⟨⟨h1, h2⟩, h3, h4⟩ := getF_zero.1 hG
      exact ⟨by rw [← hGL]; unfold getL; rw [if_pos hG], h3, h4, h2⟩)
    have HGN : Hid (G ≠ 0 → GL = []) := hide (fun h => by rw [← hGL]; unfold getL; rw [if_neg (by rw [hG]; exact h)])
    have HOZ : Hid (F = 0 → oct bs = OL) := hide (fun h => by rw [← hOL]; unfold octL; rw [if_pos (by rw [unhide HF]; exact h)])
    have HON : Hid (F ≠ 0 → OL = []) := hide (fun h => by rw [← hOL]; unfold octL; rw [if_neg (by rw [unhide HF]; exact h)])
    rw [hG, hGL] at CSG
    rw [hGL] at CI1 hz1
    rw [hOL] at CSO
    clear hG hGL hOL HE1 HS1 HF0
    obtain ⟨K1, hK1⟩ : ∃ K1, GL.length = K1 := ⟨_, rfl⟩
    have HK1 := hide hK1
    rw [hK1] at CSG CI1 hz1
    clear hK1
    have rw1 := hr1.below hB4
    have rw2 := hr2.below hB4
    go_upto_region 13 with fail
    go_cut [87] (fun c wx => c = .bool (decide (E1 = 0 ∧ S ≠ (N2 : Int))) ∧ w4 = wx)
    case first =>
      by_cases hE : E1 = 0
      · have dE : (E1 == 0) = true := by rw [hE]; rfl
        by_cases hS : S = (N2 : Int)
        · have dS : (S != (N2 : Int)) = false := by rw [hS]; simp
          have HT : Hid (decide (E1 = 0 ∧ S ≠ (N2 : Int)) = false) := hide (by simp [hS])
          clear hE hS
          go_wp2
          go_meet
          exact ⟨by rw [unhide HT], by first | trivial | rfl⟩
        · have dS : (S != (N2 : Int)) = true := by rw [bne_iff_ne]; exact hS
          have HT : Hid (decide (E1 = 0 ∧ S ≠ (N2 : Int)) = true) := hide (by simp [hS, hE])
          clear hE hS
          go_wp2
          go_meet
          exact ⟨by rw [unhide HT], by first | trivial | rfl⟩
      · have dE : (E1 == 0) = false := by rw [beq_eq_false_iff_ne]; exact hE
        have HT : Hid (decide (E1 = 0 ∧ S ≠ (N2 : Int)) = false) := hide (by simp [hE])
        clear hE
        go_wp2
        go_meet
        exact ⟨by rw [unhide HT], by first | trivial | rfl⟩
    case rest =>
    obtain ⟨rfl, rfl⟩ := hcut
    have HG3 : Hid (decide (E1 = 0 ∧ S ≠ (N2 : Int)) = true → G = 3) := hide (fun h => by
      have h := of_decide_eq_true h
      exact unhide HGC h.1 h.2)
    have HG1 : Hid (decide (E1 = 0 ∧ S ≠ (N2 : Int)) = false → E1 = G) := hide (fun h => by
      have h := of_decide_eq_false h
      by_cases hE : E1 = 0
      · by_cases hS : S = (N2 : Int)
        · rw [hE, unhide HGD hE hS]
        · exact absurd ⟨hE, hS⟩ h
      · exact (unhide HGA hE).symm)
    obtain ⟨T, hT⟩ : ∃ T, decide (E1 = 0 ∧ S ≠ (N2 : Int)) = T := ⟨_, rfl⟩
    rw [hT] at HG3 HG1 ⊢
    clear hT HGA HGC HGD
    go_upto_if 87 with fail
    go_cut [12, 87] (fun s12 c wx => s12 = .int .i64 G ∧ w4 = wx)
    case first =>
      cases T with
      | true =>
        have HE := hide (unhide HG3 rfl)
        clear HG3 HG1
        go_wp2
        go_meet
        exact ⟨by rw [unhide HE], by first | trivial | rfl⟩
      | false =>
        have HE := hide (unhide HG1 rfl)
        clear HG3 HG1
        go_wp2
        go_meet
        exact ⟨by rw [unhide HE], by first | trivial | rfl⟩
    case rest =>
    obtain ⟨rfl, rfl⟩ := hcut
    clear HG3 HG1
    go_upto_block 2 with fail
    go_cut [11] (fun s11 wx => ∃ p q, s11 = .slice p K1 q ∧ Row wx p GL ∧ Below w.heap.size w wx)
    case first =>
      by_cases hG : G = 0
      · have dG : (G == 0) = true := by rw [hG]; rfl
        obtain ⟨hD, hHT⟩ := unhide HGZ hG
        have HD := hide hD
        have HT := hide hHT
        clear hD hHT hG HGZ HGN
        obtain ⟨hWd, hTot, hBt⟩ := unhide HT
        have HWd := hide hWd
        have HTot := hide hTot
        have HBt : Hid (Bit bs) := hide hBt
        clear hWd hTot hBt HT
        have HKN : Hid (K1 = N1) := hide (by rw [← unhide HK1, unhide HD, gets_length, unhide HN1])
        have HGU : Hid (GL = upto (fun i => num 0 (cutAt bs ws i)) N1) := hide (by rw [unhide HD]; unfold gets; rw [unhide HN1])
        go_wp2_with fail
        go_loopw [11, 19, 20] (fun v t i wr => ∃ j P : Nat, j ≤ N1 ∧ i = .int .i64 j ∧ t = .int .i64 P ∧ Hid (P = pre ws j) ∧ P ≤ N2 ∧ Has wr w4.heap.size v (upto (fun i => num 0 (cutAt bs ws i)) j) ∧ Below w4.heap.size w4 wr) (fun _ _ i _ => N1 - (intOf i).toNat)
        case atStart => exact ⟨0, 0, Nat.zero_le _, rfl, rfl, rfl, Nat.zero_le _, Has.nil _ _, Below.refl _ _⟩
        case round =>
          obtain ⟨j, P, hj, rfl, rfl, HP, hPN, hv, hB⟩ := hrel
          by_cases hlt : j < N1
          · have hjs : j < ws.length := by rw [unhide HN1]; exact hlt
            obtain ⟨b1, off1, rfl, hb1, hc1⟩ := cell_at rw1 (by omega)
            have HC0 := hide (hc1 j hjs)
            have h1 := unhide HWd j hjs
            have hp := pre_total ws (j := j + 1) hjs
            rw [pre_succ, unhide HTot, ← unhide HP, unhide HN2] at hp
            have HQ : Hid (pre ws (j + 1) = P + (at0 ws j).toNat) := hide (by rw [pre_succ, unhide HP])
            have HC1 : Hid ((cutAt bs ws j).length = (at0 ws j).toNat) := hide (cutAt_length (unhide HTot) hjs)
            have HCU : Hid (cutAt bs ws j = (bs.drop P).take (at0 ws j).toNat) := hide (by unfold cutAt; rw [unhide HP])
            have HCB : Hid (Bit (cutAt bs ws j)) := hide (bit_take (bit_drop (unhide HBt) _) _)
            obtain ⟨X, hX⟩ : ∃ X : Nat, at0 ws j = X := ⟨(at0 ws j).toNat, by omega⟩
            rw [hX] at h1
            have hXX : (at0 ws j).toNat = X := by omega
            rw [hXX] at hp HC1 HQ HCU
            rw [hX] at HC0
            obtain ⟨Q, hQ⟩ : ∃ Q, P + X = Q := ⟨_, rfl⟩
            have hwq : IntKind.i64.wrap ((P : Int) + (X : Int)) = (Q : Int) := by rw [← hQ]; exact IntWalk.i64_in _ (by omega)
            rw [hQ] at hp HQ
            obtain ⟨A, hcut, hrow⟩ := row_cut (rw2.below hB) cap2 (by rw [unhide HN2]; exact q2) (t := P) (q := Q) (by omega) (by rw [unhide HN2]; exact hp)
            have eQ : Q - P = X := by omega
            rw [eQ, unhide HN2] at hcut
            rw [eQ, ← unhide HCU] at hrow
            have hnm := refNumber A (cap2 - P) (cutAt bs ws j) wr hrow (by rw [unhide HC1]; omega) HCB
            rw [unhide HC1] at hnm
            have HUP : Hid (upto (fun i => num 0 (cutAt bs ws i)) (j + 1) = upto (fun i => num 0 (cutAt bs ws i)) j ++ [num 0 (cutAt bs ws j)]) := hide (upto_succ _ _)
            obtain ⟨Y, hY⟩ : ∃ Y, num 0 (cutAt bs ws j) = Y := ⟨_, rfl⟩
            rw [hY] at hnm HUP
            have hln : Hid ((upto (fun i => num 0 (cutAt bs ws i)) j).length + 1 ≤ 17592186044416) := hide (by rw [upto_length]; omega)
            have hWs := hB.size
            have c1 := (hB.cell (p := ⟨b1, off1 + j, none⟩) hb1).trans (unhide HC0)
            clear hc1 hX hXX hjs h1 HC1 HCU HCB hrow hY hQ eQ
            go_wp2_with fail
            refine hnm.mono ?_
            clear hnm
            rintro e w8 ⟨rfl, hw8⟩
            obtain rfl : wr = w8 := hw8.symm
            clear hw8
            go_wp2_with (at_builtin; refine wpList_appL _ rfl _ _ rfl w4.heap.size u11 _ [Y] _ _ rfl (hv.alloc _) rfl (row_one _ _ _) (unhide hln) (by simp; omega) ?_; intro s' w6 k6 g6 at6; obtain ⟨d1, d2⟩ := stepped_plain hv hWs k6 g6 at6; have hB6 := hB.trans d1; have c2 := (hB6.cell (p := ⟨b1, off1 + j, none⟩) hb1).trans (unhide HC0); clear c1)
            rw [← unhide HUP] at k6
            go_roundw
            case rel => exact ⟨j + 1, Q, by omega, by go_num, by go_num, hide (unhide HQ).symm, hp, k6, hB6⟩
            case measure => simp [intOf]; omega
          · obtain rfl : j = N1 := by omega
            rw [← unhide HGU] at hv
            obtain ⟨p8, q8, rfl, r8⟩ := hv.row
            rw [unhide HK1]
            go_wp2
            go_meet
            exact ⟨p8, q8, rfl, r8, Below.chain hB4 hB⟩
      · have dG : (G == 0) = false := by rw [beq_eq_false_iff_ne]; exact hG
        have HE := hide (unhide HGN hG)
        have HK0 : Hid (K1 = 0) := hide (by rw [← unhide HK1, unhide HE]; rfl)
        clear hG HGZ HGN
        go_wp2_with fail
        go_loopw [11, 19, 20] (fun v t i wr => v = .slice none 0 0 ∧ t = .int .i64 0 ∧ i = .int .i64 0 ∧ w4 = wr) (fun _ _ _ _ => 0)
        case atStart => exact ⟨rfl, rfl, rfl, rfl⟩
        case round =>
          obtain ⟨rfl, rfl, rfl, rfl⟩ := hrel
          by_cases hz : 0 < N1
          · have dz : decide (0 < N1) = true := by simpa using hz
            have dz' : decide ((0 : Int) < (N1 : Int)) = true := by simp; omega
            go_wp2
            go_meet
            exact ⟨none, 0, by rw [unhide HK0], Or.inl (unhide HE), hB4⟩
          · have dz : decide (0 < N1) = false := by simpa using hz
            have dz' : decide ((0 : Int) < (N1 : Int)) = false := by simp; omega
            go_wp2
            go_meet
            exact ⟨none, 0, by rw [unhide HK0], Or.inl (unhide HE), hB4⟩
    case rest =>
    obtain ⟨p3, t3, rfl, r3, hB5⟩ := hcut
    clear rw1 rw2 hB4 HGZ HGN
    go_wp2_with fail
    refine (unhide CSG wc (hr2.below hB5) (hr1.below hB5)).mono ?_
    rintro e w6 ⟨p6, t6, rfl, r6, -, -, hb6⟩
    have hB6 := Below.chain hB5 hb6
    have r3' := r3.below hb6
    clear r3 hB5 hb6 CSG
    go_wp2_with fail
    refine (error_any _ w6 (hL.below hB6)).mono ?_
    rintro e w7 ⟨rfl, hb7⟩
    have hB7 := Below.chain hB6 hb7
    have r3 := r3'.below hb7
    have r6' := r6.below hb7
    clear r3' r6 hB6 hb7
    go_wp2_with fail
    refine (unhide CI1 p6 t6 p3 t3 w7 r6' r3).mono ?_
    rintro e w8 ⟨rfl, hb8⟩
    have hB8 := Below.chain hB7 hb8
    clear r3 r6' hB7 hb8 CI1
    go_upto_if 133 with fail
    go_cut [23, 133] (fun s23 c wx => s23 = .string (str OL) ∧ Below w.heap.size w wx)
    case first =>
      by_cases hF0 : F = 0
      · have dF : (F == 0) = true := by rw [hF0]; rfl
        have CRO3 := unhide CRO w8 (hr2.below hB8) hF0
        rw [unhide HOZ hF0] at CRO3
        clear hF0 CRO HOZ HON
        go_wp2_with fail
        refine CRO3.mono ?_
        clear CRO3
        rintro e w9 ⟨rfl, hb9⟩
        go_wp2
        go_meet
        exact ⟨rfl, Below.chain hB8 hb9⟩
      · have dF : (F == 0) = false := by rw [beq_eq_false_iff_ne]; exact hF0
        have HE := hide (unhide HON hF0)
        clear hF0 CRO HOZ HON
        go_wp2
        go_meet
        exact ⟨by rw [unhide HE]; rfl, hB8⟩
    case rest =>
    obtain ⟨rfl, hB9⟩ := hcut
    clear hB8 CRO HOZ HON
    go_wp2_with fail
    refine (unhide CSO wc (hr2.below hB9)).mono ?_
    rintro e w10 ⟨rfl, hb10⟩
    have hB10 := Below.chain hB9 hb10
    have hss := str_eq OL
    clear hB9 hb10 CSO
    go_wp2_with fail
    refine (error_any _ w10 (hL.below hB10)).mono ?_
    rintro e w11 ⟨rfl, hb11⟩
    have hB11 := Below.chain hB10 hb11
    clear hB10 hb11 hr1 hr2
    go_upto_region 32 with fail
    go_cut [154] (fun c wx => c = .bool (decide (n < 0 ∨ 400 < n)) ∧ w11 = wx)
    case first =>
      by_cases h1 : n < 0
      · have d1 : decide (n < 0) = true := by simpa using h1
        have HT : Hid (decide (n < 0 ∨ 400 < n) = true) := hide (by simp [h1])
        go_wp2
        go_meet
        exact ⟨by rw [unhide HT], by first | trivial | rfl⟩
      · have d1 : decide (n < 0) = false := by simpa using h1
        by_cases h2 : 400 < n
        · have d2 : decide (400 < n) = true := by simpa using h2
          have HT : Hid (decide (n < 0 ∨ 400 < n) = true) := hide (by simp [h2])
          go_wp2
          go_meet
          exact ⟨by rw [unhide HT], by first | trivial | rfl⟩
        · have d2 : decide (400 < n) = false := by simpa using h2
          have HT : Hid (decide (n < 0 ∨ 400 < n) = false) := hide (by simp; omega)
          go_wp2
          go_meet
          exact ⟨by rw [unhide HT], by first | trivial | rfl⟩
    case rest =>
      obtain ⟨rfl, rfl⟩ := hcut
      obtain ⟨T, hT⟩ : ∃ T, decide (n < 0 ∨ 400 < n) = T := ⟨_, rfl⟩
      rw [hT]
      have HT4 := hide hT
      clear hT
      obtain ⟨BE, hBE⟩ : ∃ BE, btF (byt s) n = BE := ⟨_, rfl⟩
      obtain ⟨BL, hBL⟩ : ∃ BL, btL (byt s) n = BL := ⟨_, rfl⟩
      obtain ⟨K3, hK3⟩ : ∃ K3, BL.length = K3 := ⟨_, rfl⟩
      have HBE := hide hBE
      have HBL := hide hBL
      have HK3 := hide hK3
      rw [hBE, hBL, hK3] at CSB
      rw [hBL, hK3] at CI3
      clear hBE hBL hK3
      cases T with
      | true =>
        have hn4 := of_decide_eq_true (unhide HT4)
        have HB1 : Hid (BE = 1) := hide (by rw [← unhide HBE]; exact btF_out hn4)
        have HB0 : Hid (BL = []) := hide (by rw [← unhide HBL]; unfold btL; rw [if_neg (by rw [unhide HBE, unhide HB1]; omega)])
        obtain rfl : BE = 1 := unhide HB1
        obtain rfl : K3 = 0 := by rw [← unhide HK3, unhide HB0]; rfl
        have r12 : Row w11 none BL := Or.inl (unhide HB0)
        clear hn4 HT4 HB1 HB0 HBE
        go_wp2_with fail
        refine (unhide CSB w11).mono ?_
        rintro e w13 ⟨p13, t13, rfl, r13, -, -, hb13⟩
        have hB13 := Below.chain hB11 hb13
        have r12' := r12.below hb13
        clear r12 hB11 hb13
        go_wp2_with fail
        refine (error_any _ w13 (hL.below hB13)).mono ?_
        rintro e w14 ⟨rfl, hb14⟩
        have hB14 := Below.chain hB13 hb14
        have r12 := r12'.below hb14
        have r13' := r13.below hb14
        clear r12' r13 hB13 hb14
        go_wp2_with fail
        refine (unhide CI3 p13 t13 none 0 w14 r13' r12).mono ?_
        rintro e w15 ⟨rfl, hb15⟩
        go_wp2
        go_ret
        exact ⟨rfl, Below.chain hB14 hb15⟩
      | false =>
        have hn4 := of_decide_eq_false (unhide HT4)
        obtain ⟨m, rfl⟩ : ∃ m : Nat, n = m := ⟨n.toNat, by omega⟩
        have hm4 : m ≤ 400 := by omega
        have HZ := hide (byt_length s)
        obtain ⟨Z, hZ⟩ : ∃ Z, s.size = Z := ⟨_, rfl⟩
        have hsz : ∀ W, (Builtin.len_ #[9] 3 #[.string s]).run Tryd.prog W = .ok (.int .i64 (Z : Int)) W := fun W => by rw [run_len_string W 9 3 s Tryd.underlying9, hZ]; rfl
        rw [hZ] at us HZ
        have t1 : Int.tdiv ((m : Int) + 7) 8 = (((m + 7) / 8 : Nat) : Int) := by
          rw [Int.tdiv_eq_ediv_of_nonneg (by omega)]
          omega
        have w7' : IntKind.i64.wrap ((m : Int) + 7) = (m : Int) + 7 := IntWalk.i64_in _ (by omega)
        obtain ⟨Q, hQ⟩ : ∃ Q, (m + 7) / 8 = Q := ⟨_, rfl⟩
        have HQ := hide hQ
        rw [hQ] at t1
        have hQ9 : Q ≤ 50 := by omega
        clear hn4 HT4 hQ
        by_cases hZQ : Z = Q
        · have dZ : ((Z : Int) != (Q : Int)) = false := by rw [hZQ]; simp
          have COP := refOpen s w11 (by rw [hZ, hZQ]; omega)
          have HOP := hide (opn_length (byt s))
          rw [unhide HZ] at HOP
          have HBN : Hid ((∀ j, m ≤ j → j < 8 * Z → at0 (opn (byt s)) j ≠ 1) → BE = 0 ∧ BL = (opn (byt s)).take m) := hide (fun h => by
            have h0 : btF (byt s) m = 0 := btF_none hm4 (by rw [unhide HZ, unhide HQ]; exact hZQ) (by rw [unhide HZ]; exact h)
            refine ⟨by rw [← unhide HBE]; exact h0, ?_⟩
            rw [← unhide HBL]
            unfold btL
            rw [if_pos h0, Int.toNat_natCast])
          have HB2 : Hid (∀ j, m ≤ j → j < 8 * Z → at0 (opn (byt s)) j = 1 → BE = 2 ∧ BL = []) := hide (fun j h1 h2 h3 => by
            have h0 : btF (byt s) m = 2 := btF_one hm4 (by rw [unhide HZ, unhide HQ]; exact hZQ) h1 (by rw [unhide HZ]; exact h2) h3
            refine ⟨by rw [← unhide HBE]; exact h0, ?_⟩
            rw [← unhide HBL]
            unfold btL
            rw [if_neg (by omega)])
          obtain ⟨od, hod⟩ : ∃ od, opn (byt s) = od := ⟨_, rfl⟩
          rw [hod] at COP HOP HBN HB2
          have hmL : m ≤ 8 * Z := by have := unhide HQ; omega
          obtain ⟨L, hLL⟩ : ∃ L, 8 * Z = L := ⟨_, rfl⟩
          rw [hLL] at HOP HBN HB2 hmL
          have hL9 : L ≤ 400 := by omega
          clear hod hLL hZQ hZ HZ HQ
          go_wp2_with fail
          refine COP.mono ?_
          clear COP
          rintro e w12 ⟨v12, rfl, k12, hb12⟩
          have hB12 := Below.chain hB11 hb12
          obtain ⟨p12, q12, rfl, r12⟩ := k12.row
          have hcp : L ≤ q12 := by
            by_cases h0 : 0 < od.length
            · obtain ⟨g, c, e1, e2, e3, e4, e5⟩ := k12.one h0
              obtain ⟨x1, x2, x3⟩ := Value.slice.inj e1
              rw [← unhide HOP, x3]; exact e4
            · rw [← unhide HOP]; omega
          obtain ⟨A, hcut4, rA⟩ := row_first r12 q12 (by rw [unhide HOP]; exact hcp) (q := m) (by rw [unhide HOP]; exact hmL)
          rw [unhide HOP] at hcut4 ⊢
          clear hB11 hb12 k12
          go_upto_block 4 with fail
          go_cut [11, 12] (fun s11 s12 wx => ∃ p q, s11 = .slice p K3 q ∧ s12 = .int .i64 BE ∧ Row w12 p BL ∧ w12 = wx)
          case first =>
            have HN0 : Hid (∀ j, m ≤ j → j < m → at0 od j ≠ 1) := hide (fun j h1 h2 => by omega)
            go_wp2_with fail
            go_loopw [11, 12, 27] (fun v e i wr => ∃ k : Nat, m ≤ k ∧ k ≤ L ∧ i = .int .i64 k ∧ ((Hid (∀ j, m ≤ j → j < k → at0 od j ≠ 1) ∧ v = .slice A m q12 ∧ e = .int .i64 0) ∨ (Hid (BE = 2 ∧ BL = []) ∧ v = .slice none 0 0 ∧ e = .int .i64 2)) ∧ w12 = wr) (fun _ _ i _ => L - (intOf i).toNat)
            case atStart => exact ⟨m, Nat.le_refl _, hmL, rfl, Or.inl ⟨HN0, rfl, rfl⟩, rfl⟩
            case round =>
              obtain ⟨k, hk1, hk2, rfl, hor, rfl⟩ := hrel
              clear HN0
              by_cases hlt : k < L
              · obtain ⟨b1, off1, rfl, _, hc1⟩ := cell_at r12 (by rw [unhide HOP]; omega)
                have c1 := hc1 k (by rw [unhide HOP]; exact hlt)
                have HBK : Hid (at0 od k = 1 → BE = 2 ∧ BL = []) := hide (fun h => unhide HB2 k hk1 hlt h)
                have HNK : Hid (at0 od k ≠ 1 → (∀ j, m ≤ j → j < k → at0 od j ≠ 1) → ∀ j, m ≤ j → j < k + 1 → at0 od j ≠ 1) := hide (fun h h2 j h3 h4 => by
                  by_cases e : j = k
                  · rw [e]; exact h
                  · exact h2 j h3 (by omega))
                obtain ⟨X, hX⟩ : ∃ X, at0 od k = X := ⟨_, rfl⟩
                rw [hX] at c1 HBK HNK
                clear hX hc1
                by_cases hx : X = 1
                · have dx : (X == 1) = true := by rw [hx]; rfl
                  have HW := hide (unhide HBK hx)
                  clear hx HBK HNK
                  rcases hor with ⟨HN, rfl, rfl⟩ | ⟨HW2, rfl, rfl⟩
                  all_goals (
                    go_wp2
                    go_roundw
                    case rel => exact ⟨k + 1, by omega, by omega, by go_num, Or.inr ⟨HW, by first | trivial | rfl, by first | trivial | rfl⟩, by first | trivial | rfl⟩
                    case measure => simp [intOf]; omega)
                · have dx : (X == 1) = false := by rw [beq_eq_false_iff_ne]; exact hx
                  rcases hor with ⟨HN, rfl, rfl⟩ | ⟨HW2, rfl, rfl⟩
                  · have HN2 := hide (unhide HNK hx (unhide HN))
                    clear hx HBK HNK HN
                    go_wp2
                    go_roundw
                    case rel => exact ⟨k + 1, by omega, by omega, by go_num, Or.inl ⟨HN2, by first | trivial | rfl, by first | trivial | rfl⟩, by first | trivial | rfl⟩
                    case measure => simp [intOf]; omega
                  · clear hx HBK HNK
                    go_wp2
                    go_roundw
                    case rel => exact ⟨k + 1, by omega, by omega, by go_num, Or.inr ⟨HW2, by first | trivial | rfl, by first | trivial | rfl⟩, by first | trivial | rfl⟩
                    case measure => simp [intOf]; omega
              · obtain rfl : k = L := by omega
                rcases hor with ⟨HN, rfl, rfl⟩ | ⟨HW2, rfl, rfl⟩
                · have HZ := hide (unhide HBN (unhide HN))
                  have HKM : Hid (m = K3) := hide (by rw [← unhide HK3, (unhide HZ).2, List.length_take, unhide HOP]; omega)
                  clear HN HBN HB2
                  go_wp2
                  go_meet
                  exact ⟨A, q12, by rw [← unhide HKM], by rw [(unhide HZ).1], by rw [(unhide HZ).2]; exact rA, by first | trivial | rfl⟩
                · have HKM : Hid (K3 = 0) := hide (by rw [← unhide HK3, (unhide HW2).2]; rfl)
                  clear HBN HB2
                  go_wp2
                  go_meet
                  exact ⟨none, 0, by rw [unhide HKM], by rw [(unhide HW2).1], Or.inl (unhide HW2).2, by first | trivial | rfl⟩
          case rest =>
            obtain ⟨p16, t16, rfl, rfl, r16, rfl⟩ := hcut
            clear HBN HB2 rA hcut4 r12
            go_wp2_with fail
            refine (unhide CSB w12).mono ?_
            rintro e w13 ⟨p13, t13, rfl, r13, -, -, hb13⟩
            have hB13 := Below.chain hB12 hb13
            have r16' := r16.below hb13
            clear r16 hB12 hb13
            go_wp2_with fail
            refine (error_any _ w13 (hL.below hB13)).mono ?_
            rintro e w14 ⟨rfl, hb14⟩
            have hB14 := Below.chain hB13 hb14
            have r16 := r16'.below hb14
            have r13' := r13.below hb14
            clear r16' r13 hB13 hb14
            go_wp2_with fail
            refine (unhide CI3 p13 t13 p16 t16 w14 r13' r16).mono ?_
            rintro e w15 ⟨rfl, hb15⟩
            go_wp2
            go_ret
            exact ⟨rfl, Below.chain hB14 hb15⟩
        · have dZ : ((Z : Int) != (Q : Int)) = true := by rw [bne_iff_ne]; omega
          have HB1 : Hid (BE = 3) := hide (by rw [← unhide HBE]; exact btF_len hm4 (by rw [unhide HZ, unhide HQ]; exact hZQ))
          have HB0 : Hid (BL = []) := hide (by rw [← unhide HBL]; unfold btL; rw [if_neg (by rw [unhide HBE, unhide HB1]; omega)])
          obtain rfl : BE = 3 := unhide HB1
          obtain rfl : K3 = 0 := by rw [← unhide HK3, unhide HB0]; rfl
          have r12 : Row w11 none BL := Or.inl (unhide HB0)
          clear HB1 HB0 HBE hZQ HQ HZ
          go_wp2_with fail
          refine (unhide CSB w11).mono ?_
          rintro e w13 ⟨p13, t13, rfl, r13, -, -, hb13⟩
          have hB13 := Below.chain hB11 hb13
          have r12' := r12.below hb13
          clear r12 hB11 hb13
          go_wp2_with fail
          refine (error_any _ w13 (hL.below hB13)).mono ?_
          rintro e w14 ⟨rfl, hb14⟩
          have hB14 := Below.chain hB13 hb14
          have r12 := r12'.below hb14
          have r13' := r13.below hb14
          clear r12' r13 hB13 hb14
          go_wp2_with fail
          refine (unhide CI3 p13 t13 none 0 w14 r13' r12).mono ?_
          rintro e w15 ⟨rfl, hb15⟩
          go_wp2
          go_ret
          exact ⟨rfl, Below.chain hB14 hb15⟩

end Go.Proofs.YtpinmcgaaplkiagDoor.WidthTellsLaw
