/-
  hornref2.Cost, of sizes and pulses that are right: by its contract.
-/
import Derived.Test.YthkibjhhlcfceaiGreatDoorPk07
import Derived.Test.YthkibjhhlcfceaiGreatDoorPk35
import Derived.Test.YthkibjhhlcfceaiGreatDoorPk23
import Derived.Deep.QuietTactic
import Derived.BigQuiet
import Derived.Deep.CutBlock
import Derived.Test.YthkibjhhlcfceaiGreatDoorPk11
import Derived.Test.YthkibjhhlcfceaiGreatDoorPk18
namespace Go.Proofs.YthkibjhhlcfceaiGreatDoor.Shr
open Go.RowKit
open Go.Proofs.YthkibjhhlcfceaiGreatDoor.Tre Go.Proofs.YthkibjhhlcfceaiGreatDoor.Cnt Go.Proofs.YthkibjhhlcfceaiGreatDoor.Bnd
set_option linter.unusedVariables false

theorem cell_shr {w : World} {a : Option Addr} {l : List Int} (h : Row w a l) (h0 : 0 < l.length) : ∃ b off, a = some ⟨b, off, none⟩ ∧ b < w.heap.size ∧ ∀ j, j < l.length → w.cell? ⟨b, off + j, none⟩ = some (.int .i64 (at0 l j)) := by
  obtain ⟨b, off, e, hb, hc⟩ := h.at h0
  exact ⟨b, off, e, hb, fun j hj => (hc j hj).trans (by rw [List.getD_eq_getElem?_getD]; rfl)⟩

set_option maxRecDepth 100000 in
set_option maxHeartbeats 4000000 in
theorem refCost (a : Option Addr) (cap : Nat) (s : List Int) (b : Option Addr) (capb : Nat) (p : List Int) (w : World) (hr : Row w a s) (hp : Row w b p) (h8 : s.length ≤ 8) (hl : p.length = s.length) (hs : Hid (Sizes s)) (hpl : Hid (Pls p)) :
    Calls Tryz.prog 96 #[.slice a s.length cap, .slice b s.length capb] w fun e w' => e = .returned (.int .i64 (cost s p)) ∧ Below w.heap.size w w' := by
  have HL := hide hl
  have HLE : Hid (∀ j, j ≤ s.length → cs s p j ≤ 15 * j) := hide (fun j hj => cs_le (unhide hs) (unhide hpl) hl hj)
  have HC : Hid (cost s p = cs s p s.length) := hide rfl
  obtain ⟨C, hC⟩ : ∃ C, cost s p = C := ⟨_, rfl⟩
  rw [hC] at HC ⊢
  obtain ⟨N, hN⟩ : ∃ N, s.length = N := ⟨_, rfl⟩
  have HN := hide hN
  rw [hN] at h8 HC HLE ⊢
  clear hN hC hl
  go_enter Tryz.func96, Tryz.ntmps96
  go_wp2
  go_loopw [5, 6] (fun n i wr => ∃ j U : Nat, j ≤ N ∧ i = .int .i64 j ∧ n = .int .i64 U ∧ Hid (U = cs s p j) ∧ Below w.heap.size w wr) (fun _ i _ => N - (intOf i).toNat)
  case atStart => exact ⟨0, 0, Nat.zero_le _, rfl, rfl, rfl, Below.refl _ _⟩
  case round =>
    obtain ⟨j, U, hj, rfl, rfl, HU, hB⟩ := hrel
    by_cases hlt : j < N
    · have hj1 : j < s.length := by rw [unhide HN]; exact hlt
      have hj2 : j < p.length := by rw [unhide HL, unhide HN]; exact hlt
      obtain ⟨b1, off1, rfl, _, hc1⟩ := cell_shr (hr.below hB) (by omega)
      obtain ⟨b2, off2, rfl, _, hc2⟩ := cell_shr (hp.below hB) (by omega)
      have c1 := hc1 j hj1
      have c2 := hc2 j hj2
      have g1 := unhide hs j hj1
      have g2 := unhide hpl j hj2
      have HST : Hid (cs s p (j + 1) = U + Bt (at0 p j).toNat (at0 s j).toNat) := hide (by rw [cs, unhide HU])
      have hle := unhide HLE (j + 1) (by omega)
      rw [unhide HST] at hle
      obtain ⟨X, hX⟩ : ∃ X : Nat, at0 s j = X := ⟨(at0 s j).toNat, by omega⟩
      obtain ⟨Y, hY⟩ : ∃ Y : Nat, at0 p j = Y := ⟨(at0 p j).toNat, by omega⟩
      rw [hX] at c1 g1
      rw [hY] at c2 g2
      have eX : (at0 s j).toNat = X := by omega
      have eY : (at0 p j).toNat = Y := by omega
      rw [eX, eY] at HST hle
      have HBI := hide (Bt_is (k := Y) (n := X) (by omega) (by omega))
      have hV := (V_in Y X (by omega) (by omega)).2
      obtain ⟨T, hT⟩ : ∃ T, Bt Y X = T := ⟨_, rfl⟩
      rw [hT] at HST hle HBI
      have HRC : Hid (∀ W, Calls Tryz.prog 47 #[.int .i64 (X : Int), .int .i64 (Y : Int)] W fun e w' => e = .returned (.int .i64 (V Y X)) ∧ Below W.heap.size W w') := hide (fun W => refCount X Y (by omega) (by omega) W)
      have HRB : Hid (∀ W, Calls Tryz.prog 46 #[.int .i64 (V Y X)] W fun e w' => e = .returned (.int .i64 (T : Int)) ∧ w' = W) := hide (fun W => (refBits (V Y X) hV W).mono fun e w' ⟨b, he, hb, hw⟩ => ⟨by rw [he, hb.one (unhide HBI)], hw.symm⟩)
      obtain ⟨Z, hZ⟩ : ∃ Z, V Y X = Z := ⟨_, rfl⟩
      rw [hZ] at HRC HRB
      have wU : IntKind.i64.wrap ((U : Int) + (T : Int)) = ((U + T : Nat) : Int) := by
        have : (U : Int) + (T : Int) = ((U + T : Nat) : Int) := rfl
        rw [this]; exact IntWalk.i64_in _ (by omega)
      obtain ⟨U1, hU1⟩ : ∃ U1, U + T = U1 := ⟨_, rfl⟩
      rw [hU1] at wU HST hle
      have HU1 := hide (unhide HST).symm
      clear hX hY eX eY hT hZ hV hc1 hc2 hj1 hj2 HBI HST HU hU1
      have HBq : Hid (∀ q, Below w.heap.size w (wr.drewN q)) := hide (fun q => hB.trans ⟨rfl, rfl, rfl, Nat.le_refl _, fun _ _ => rfl⟩)
      go_wp2
      go_region_with (first
        | (go_at_call 47; refine (unhide HRC _).mono ?_; rintro e w' ⟨rfl, hb'⟩)
        | (go_at_call 46; refine (unhide HRB _).mono ?_; rintro e w' ⟨rfl, rfl⟩))
      all_goals (
        have hB2 := Below.chain (unhide HBq _) hb'
        clear hB hb' c1 c2
        go_wp2
        go_roundw
        case rel => exact ⟨j + 1, U1, by omega, by go_num, by first | rfl | go_num, HU1, hB2⟩
        case measure => simp [intOf]; omega)
    · obtain rfl : j = N := by omega
      obtain rfl : U = C := by rw [unhide HU, unhide HC]
      go_wp2
      go_ret
      exact ⟨rfl, hB⟩

end Go.Proofs.YthkibjhhlcfceaiGreatDoor.Shr

/-
  hornref2.Share, of what is right: by its contract.
-/
namespace Go.Proofs.YthkibjhhlcfceaiGreatDoor.Shr
open Go.RowKit
open Go.Proofs.YthkibjhhlcfceaiGreatDoor.Tre Go.Proofs.YthkibjhhlcfceaiGreatDoor.Cnt Go.Proofs.YthkibjhhlcfceaiGreatDoor.Bnd
set_option linter.unusedVariables false

/-- What a slice of this call's own holds, as its cells say. -/
def lst (w : World) (g n : Nat) : List Int := upto (fun j => intOf ((w.cell? ⟨g, j, none⟩).getD undef)) n
theorem lst_is {w : World} {base g n c : Nat} {l : List Int} (h : Has w base (.slice (some ⟨g, 0, none⟩) n c) l) : lst w g n = l := by
  obtain ⟨e, _⟩ := h.inRow rfl
  subst e
  refine eq_of_at (upto_length _ _) fun i hi => ?_
  unfold lst at hi ⊢
  rw [upto_length] at hi
  rw [upto_at _ hi, h.get hi]
  rfl
set_option maxRecDepth 100000 in
set_option maxHeartbeats 16000000 in
theorem refShare (a : Option Addr) (cap : Nat) (s : List Int) (b : Option Addr) (capb : Nat) (d : List Int) (B : Int) (w : World) (hr : Row w a s) (hd : Row w b d) (h0 : 1 ≤ s.length) (h8 : s.length ≤ 8) (hl : d.length = s.length) (hs : Hid (Sizes s)) (hld : Hid (Lds d)) (hB0 : 0 ≤ B) (hB4 : B ≤ 400) :
    Calls Tryz.prog 63 #[.slice a s.length cap, .slice b s.length capb, .int .i64 B] w fun e w' => ∃ v, e = .returned v ∧ Has w' w.heap.size v (share s d B) ∧ Below w.heap.size w w' := by
  have HI0 := hide (inv_zero (d := d) (unhide hs) hB0)
  have HG0 : Hid (go s d B 100 (upto (fun _ => 0) s.length) = share s d B) := hide rfl
  have HS0 : Hid (64 < sm (upto (fun _ => 0) s.length) s.length + ((100 : Nat) : Int)) := hide (by rw [sm_zeros _ _ (Nat.le_refl _)]; omega)
  have HL := hide hl
  have CC := hide (fun (P : List Int) (g : Nat) W (h1 : Row W a s) (h2 : Row W (some ⟨g, 0, none⟩) P) h3 h4 => refCost a cap s (some ⟨g, 0, none⟩) s.length P W h1 h2 h8 h3 hs h4)
  obtain ⟨R, hR⟩ : ∃ R, share s d B = R := ⟨_, rfl⟩
  rw [hR] at HG0 ⊢
  obtain ⟨N, hN⟩ : ∃ N, s.length = N := ⟨_, rfl⟩
  have HN := hide hN
  rw [hN] at h0 h8 HI0 HG0 HS0 CC ⊢
  clear hN hR hl
  go_enter Tryz.func63, Tryz.ntmps63
  go_wp2_with (at_make; refine wpList_mk _ rfl _ rfl N rfl (by omega) ?_; intro w2 hv2 hb2)
  obtain ⟨g, hg⟩ : ∃ g, w.heap.size = g := ⟨_, rfl⟩
  rw [hg] at hv2 ⊢
  have hg0 : w.heap.size ≤ g := by omega
  have hmv : Has w2 w.heap.size (.slice (some ⟨g, 0, none⟩) N N) (upto (fun _ => 0) N) := by rw [hg]; exact hv2
  rw [← hg]
  clear hv2
  rw [hg]
  have HGG := hide hg
  clear hg
  go_wp2
  go_loopw [8] (fun _ wr => ∃ (O : List Int) (f : Nat), Has wr w.heap.size (.slice (some ⟨g, 0, none⟩) N N) O ∧ Hid (Inv s d B O) ∧ Hid (go s d B f O = R) ∧ Hid (64 < sm O N + (f : Int)) ∧ Below w.heap.size w wr) (fun _ wr => (64 - sm (lst wr g N) N).toNat)
  case atStart => exact ⟨_, 100, hmv, HI0, HG0, HS0, hb2⟩
  case round =>
    obtain ⟨O, f, hv, HI, HG, HF, hB⟩ := hrel
    clear hmv HI0 HG0 HS0 hb2
    have HOL : Hid (O.length = N) := hide ((unhide HI).len.trans (unhide HN))
    have HLS := hide (lst_is hv)
    have HB0 : Hid (bst s d O B 0 = none) := hide rfl
    have HPL : Hid (Pls O) := hide (unhide HI).pls
    have HCR : Hid (∀ W, Below w.heap.size w W → Row W a s) := hide (fun W h => hr.below h)
    have HCD : Hid (∀ j, j < N → ∀ W, Below w.heap.size w W → ∃ b1 off1, b = some ⟨b1, off1, none⟩ ∧ W.cell? ⟨b1, off1 + j, none⟩ = some (.int .i64 (at0 d j))) := hide (fun j hj W h => by
      obtain ⟨b1, off1, e, _, hc⟩ := cell_shr (hd.below h) (by rw [unhide HL, unhide HN]; omega)
      exact ⟨b1, off1, e, hc j (by rw [unhide HL, unhide HN]; exact hj)⟩)
    have HDB : Hid (∀ j, j < N → 0 ≤ at0 d j ∧ at0 d j ≤ 8000) := hide (fun j hj => unhide hld j (by rw [unhide HL, unhide HN]; exact hj))
    have HOB : Hid (∀ j, j < N → 0 ≤ at0 O j ∧ at0 O j ≤ 8) := hide (fun j hj => unhide HPL j (by rw [unhide HOL]; exact hj))
    go_wp2
    go_loopw [8, 9] (fun z i wr => ∃ (j : Nat) (Z : Int), j ≤ N ∧ i = .int .i64 j ∧ z = .int .i64 Z ∧ Hid (bv (bst s d O B j) = Z) ∧ Has wr w.heap.size (.slice (some ⟨g, 0, none⟩) N N) O ∧ Below w.heap.size w wr) (fun _ i _ => N - (intOf i).toNat)
    case atStart => exact ⟨0, -1, Nat.zero_le _, rfl, rfl, hide rfl, hv, hB⟩
    case round =>
      clear hv hB
      obtain ⟨j, Z, hj, rfl, rfl, HZ, hv, hB⟩ := hrel
      by_cases hlt : j < N
      · obtain ⟨b1, off1, rfl, c1⟩ := unhide HCD j hlt wr hB
        obtain ⟨d0, d9⟩ := unhide HDB j hlt
        obtain ⟨o0, o9⟩ := unhide HOB j hlt
        have c2 := hv.get (j := j) (by rw [unhide HOL]; exact hlt)
        have f2 := hv.frozen j
        have HNC : Hid (¬ Can s d O B j → bv (bst s d O B (j + 1)) = Z) := hide (fun h => by rw [bst_can h]; exact unhide HZ)
        have HIA : Hid (at0 (inc O j) j = at0 O j + 1) := hide (inc_at (by rw [unhide HOL]; exact hlt))
        have HID : Hid ((inc O j).set j (at0 O j) = O) := hide inc_dec
        have HIN : Hid (O.set j (at0 O j + 1) = inc O j) := hide rfl
        have HIP : Hid (at0 O j ≠ 8 → Pls (inc O j)) := hide (fun h => inc_pls (unhide HPL) (by rw [unhide HOL]; exact hlt) h)
        have HCN : Hid (at0 d j ≠ 0 → at0 O j ≠ 8 → (cost s (inc O j) : Int) ≤ B → Can s d O B j) := hide (fun h1 h2 h3 => ⟨h1, h2, h3⟩)
        have HCX : Hid (Can s d O B j → at0 d j ≠ 0 ∧ at0 O j ≠ 8 ∧ (cost s (inc O j) : Int) ≤ B) := hide (fun h => h)
        have HOV : Hid (∀ q, Over d O j q ↔ at0 d q * (at0 O j + 1) * (at0 O j + 1) < at0 d j * (at0 O q + 1) * (at0 O q + 1)) := hide (fun q => Iff.rfl)
        obtain ⟨D, hD⟩ : ∃ D, at0 d j = D := ⟨_, rfl⟩
        obtain ⟨P, hP⟩ : ∃ P, at0 O j = P := ⟨_, rfl⟩
        rw [hD] at c1 d0 d9 HCN HCX HOV
        rw [hP] at c2 o0 o9 HIA HID HIN HIP HCN HCX HOV
        have HPP := hide hP
        have HDD := hide hD
        clear hD hP
        by_cases hD0 : D = 0
        · have dD : (D == 0) = true := by rw [hD0]; rfl
          have HZ2 := hide (unhide HNC (fun h => (unhide HCX h).1 hD0))
          clear hD0 HNC HIA HID HIN HIP HCN HCX HOV
          go_wp2
          go_roundw
          case rel => exact ⟨j + 1, Z, by omega, by go_num, rfl, HZ2, hv, hB⟩
          case measure => simp [intOf]; omega
        · have dD : (D == 0) = false := by rw [beq_eq_false_iff_ne]; exact hD0
          by_cases hP8 : P = 8
          · have dP : (P == 8) = true := by rw [hP8]; rfl
            have HZ2 := hide (unhide HNC (fun h => (unhide HCX h).2.1 hP8))
            clear hD0 hP8 HNC HIA HID HIN HIP HCN HCX HOV
            go_wp2
            go_roundw
            case rel => exact ⟨j + 1, Z, by omega, by go_num, rfl, HZ2, hv, hB⟩
            case measure => simp [intOf]; omega
          · have dP : (P == 8) = false := by rw [beq_eq_false_iff_ne]; exact hP8
            have HPI := hide (unhide HIP hP8)
            obtain ⟨m1, m2⟩ := hv.put j (P + 1)
            rw [unhide HIN] at m1
            have hB1 : Below w.heap.size w (wr.setCell ⟨g, j, none⟩ (.int .i64 (P + 1))) := Below.setCell (p := ⟨g, j, none⟩) hB hg0 _
            have wP : IntKind.i64.wrap (P + 1) = P + 1 := IntWalk.i64_in _ (by omega)
            have wP2 : IntKind.i64.wrap (P + 1 - 1) = P := by rw [show P + 1 - 1 = P by omega]; exact IntWalk.i64_in _ (by omega)
            have hcc := unhide CC (inc O j) g _ (unhide HCR _ hB1) (m1.inRow rfl).2 (by rw [inc_length]; exact unhide HOL) HPI
            have HIL : Hid ((inc O j).length = N) := hide (by rw [inc_length]; exact unhide HOL)
            obtain ⟨C, hC⟩ : ∃ C, cost s (inc O j) = C := ⟨_, rfl⟩
            rw [hC] at hcc HCN HCX
            have M1 := hide m1
            have HB1 := hide hB1
            clear hC m1 m2 hB1 HPI HIP hv
            go_wp2_with fail
            refine hcc.mono ?_
            clear hcc
            rintro e w3 ⟨rfl, hb3⟩
            have k3 := (unhide M1).below hb3
            have hB3 := Below.chain (unhide HB1) hb3
            have c3 := k3.get (j := j) (by rw [unhide HIL]; exact hlt)
            rw [unhide HIA] at c3
            have f3 := k3.frozen j
            obtain ⟨m3, m4⟩ := k3.put j P
            rw [unhide HID] at m3
            have hB4' : Below w.heap.size w (w3.setCell ⟨g, j, none⟩ (.int .i64 P)) := Below.setCell (p := ⟨g, j, none⟩) hB3 hg0 _
            obtain ⟨w4, hw4⟩ : ∃ w4, w3.setCell ⟨g, j, none⟩ (.int .i64 P) = w4 := ⟨_, rfl⟩
            rw [hw4] at m3 hB4'
            have c4 := m3.get (j := j) (by rw [unhide HOL]; exact hlt)
            rw [unhide HPP] at c4
            obtain ⟨b4, off4, e4, c5⟩ := unhide HCD j hlt w4 hB4'
            rw [unhide HDD] at c5
            cases e4
            have HC5 := hide c5
            clear m4 k3 M1 HB1 hb3 HIA HID HIN HIL c1 c2 f2 hB c5
            go_upto_region 10 with fail
            clear hw4 hB3 c3 f3
            by_cases hCB : (C : Int) ≤ B
            · have dC : decide (B < (C : Int)) = false := by simp; omega
              have HCA := hide (unhide HCN hD0 hP8 hCB)
              clear HNC HCN HCX hD0 hP8 hCB
              cases hb : bst s d O B j with
              | none =>
                obtain rfl : Z = -1 := by rw [← unhide HZ, hb]; rfl
                have HZ2 : Hid (bv (bst s d O B (j + 1)) = (j : Int)) := hide (by rw [bst_first (unhide HCA) hb]; rfl)
                clear hb HZ HCA HOV
                go_wp2
                go_roundw
                case rel => exact ⟨j + 1, j, by omega, by go_num, by first | rfl | go_num, HZ2, m3, hB4'⟩
                case measure => simp [intOf]; omega
              | some q =>
                obtain rfl : Z = (q : Int) := by rw [← unhide HZ, hb]; rfl
                have hq := (bst_lt hb).1
                have hqN : q < N := by omega
                have c6 := m3.get (j := q) (by rw [unhide HOL]; exact hqN)
                obtain ⟨b6, off6, e6, c7⟩ := unhide HCD q hqN w4 hB4'
                cases e6
                have HOQ := hide (unhide HOV q)
                have HZO : Hid (Over d O j q → bv (bst s d O B (j + 1)) = (j : Int)) := hide (fun h => by rw [bst_over (unhide HCA) hb h]; rfl)
                have HZS : Hid (¬ Over d O j q → bv (bst s d O B (j + 1)) = (q : Int)) := hide (fun h => by rw [bst_stay (unhide HCA) hb h]; rfl)
                obtain ⟨g0, g9⟩ := unhide HDB q hqN
                obtain ⟨h0', h9'⟩ := unhide HOB q hqN
                obtain ⟨E, hE⟩ : ∃ E, at0 d q = E := ⟨_, rfl⟩
                obtain ⟨Q, hQ⟩ : ∃ Q, at0 O q = Q := ⟨_, rfl⟩
                rw [hE] at c7 g0 g9 HOQ
                rw [hQ] at c6 h0' h9' HOQ
                have c8 := unhide HC5
                clear hE hQ hb HZ HCA HOV HC5
                obtain ⟨A1, hA1⟩ : ∃ A, P + 1 = A := ⟨_, rfl⟩
                obtain ⟨B1, hB1⟩ : ∃ A, Q + 1 = A := ⟨_, rfl⟩
                have wA : IntKind.i64.wrap (P + 1) = A1 := by rw [← hA1]; exact IntWalk.i64_in _ (by omega)
                have wB : IntKind.i64.wrap (Q + 1) = B1 := by rw [← hB1]; exact IntWalk.i64_in _ (by omega)
                have a0' : 1 ≤ A1 ∧ A1 ≤ 9 := by omega
                have b0' : 1 ≤ B1 ∧ B1 ≤ 9 := by omega
                rw [hA1, hB1] at HOQ
                obtain ⟨X1, hX1⟩ : ∃ X, D * B1 = X := ⟨_, rfl⟩
                obtain ⟨X2, hX2⟩ : ∃ X, X1 * B1 = X := ⟨_, rfl⟩
                obtain ⟨Y1, hY1⟩ : ∃ X, E * A1 = X := ⟨_, rfl⟩
                obtain ⟨Y2, hY2⟩ : ∃ X, Y1 * A1 = X := ⟨_, rfl⟩
                rw [hX1, hX2, hY1, hY2] at HOQ
                have x1 : 0 ≤ X1 ∧ X1 ≤ 72000 := by
                  rw [← hX1]
                  exact ⟨Int.mul_nonneg (by omega) (by omega), by have := Int.mul_le_mul (a := D) (b := B1) (c := 8000) (d := 9) (by omega) (by omega) (by omega) (by omega); omega⟩
                have x2 : 0 ≤ X2 ∧ X2 ≤ 648000 := by
                  rw [← hX2]
                  exact ⟨Int.mul_nonneg (by omega) (by omega), by have := Int.mul_le_mul (a := X1) (b := B1) (c := 72000) (d := 9) (by omega) (by omega) (by omega) (by omega); omega⟩
                have y1 : 0 ≤ Y1 ∧ Y1 ≤ 72000 := by
                  rw [← hY1]
                  exact ⟨Int.mul_nonneg (by omega) (by omega), by have := Int.mul_le_mul (a := E) (b := A1) (c := 8000) (d := 9) (by omega) (by omega) (by omega) (by omega); omega⟩
                have y2 : 0 ≤ Y2 ∧ Y2 ≤ 648000 := by
                  rw [← hY2]
                  exact ⟨Int.mul_nonneg (by omega) (by omega), by have := Int.mul_le_mul (a := Y1) (b := A1) (c := 72000) (d := 9) (by omega) (by omega) (by omega) (by omega); omega⟩
                have w1' : IntKind.i64.wrap (D * B1) = X1 := by rw [hX1]; exact IntWalk.i64_in _ (by omega)
                have w2' : IntKind.i64.wrap (X1 * B1) = X2 := by rw [hX2]; exact IntWalk.i64_in _ (by omega)
                have w3' : IntKind.i64.wrap (E * A1) = Y1 := by rw [hY1]; exact IntWalk.i64_in _ (by omega)
                have w4' : IntKind.i64.wrap (Y1 * A1) = Y2 := by rw [hY2]; exact IntWalk.i64_in _ (by omega)
                have dq : decide ((q : Int) < 0) = false := by simp
                have HB5 : Hid (∀ n, Below w.heap.size w (w4.drewN n)) := hide (fun n => hB4'.trans ⟨rfl, rfl, rfl, Nat.le_refl _, fun _ _ => rfl⟩)
                have HM5 : Hid (∀ n, Has (w4.drewN n) w.heap.size (.slice (some ⟨g, 0, none⟩) N N) O) := hide (fun n => m3)
                clear hX1 hX2 hY1 hY2 hA1 hB1 wP wP2
                by_cases hov : Y2 < X2
                · have dO : decide (Y2 < X2) = true := by simpa using hov
                  have HZ2 := hide (unhide HZO ((unhide HOQ).2 hov))
                  clear HOQ HZO HZS hov
                  go_wp2
                  go_quiet (fail)
                  go_wp2
                  go_roundw
                  case rel => exact ⟨j + 1, j, by omega, by go_num, by first | rfl | go_num, HZ2, unhide HM5 _, unhide HB5 _⟩
                  case measure => simp [intOf]; omega
                · have dO : decide (Y2 < X2) = false := by simpa using hov
                  have HZ2 := hide (unhide HZS (fun h => hov ((unhide HOQ).1 h)))
                  clear HOQ HZO HZS hov
                  go_wp2
                  go_quiet (fail)
                  go_wp2
                  go_roundw
                  case rel => exact ⟨j + 1, q, by omega, by go_num, by first | rfl | go_num, HZ2, unhide HM5 _, unhide HB5 _⟩
                  case measure => simp [intOf]; omega
            · have dC : decide (B < (C : Int)) = true := by simp; omega
              have HZ2 := hide (unhide HNC (fun h => hCB (unhide HCX h).2.2))
              clear hD0 hP8 hCB HNC HCN HCX HOV
              go_wp2
              go_roundw
              case rel => exact ⟨j + 1, Z, by omega, by go_num, rfl, HZ2, m3, hB4'⟩
              case measure => simp [intOf]; omega
      · obtain rfl : j = N := by omega
        cases hb : bst s d O B j with
        | none =>
          obtain rfl : Z = -1 := by rw [← unhide HZ, hb]; rfl
          have e : O = R := by rw [← unhide HG, go_none (by rw [unhide HN]; exact hb)]
          rw [e] at hv
          clear hb HZ e
          go_wp2
          go_ret
          exact ⟨_, rfl, hv, hB⟩
        | some q =>
          obtain rfl : Z = (q : Int) := by rw [← unhide HZ, hb]; rfl
          obtain ⟨hq, hcan⟩ := bst_lt hb
          have HI2 := hide (inv_inc (unhide HI) (by rw [unhide HN]; exact hq) hcan)
          have hs1 := sm_le (unhide HPL) (j := j) (by rw [unhide HOL]; exact Nat.le_refl _)
          have hs2 := sm_le (unhide HI2).pls (j := j) (by rw [inc_length, unhide HOL]; exact Nat.le_refl _)
          have hs3 := sm_inc (o := O) (b := q) (j := j) (by rw [unhide HOL]; exact Nat.le_refl _)
          rw [if_pos hq] at hs3
          have hf := unhide HF
          obtain ⟨f', rfl⟩ : ∃ f', f = f' + 1 := ⟨f - 1, by omega⟩
          have HG2 : Hid (go s d B f' (inc O q) = R) := hide (by rw [← go_some (by rw [unhide HN]; exact hb)]; exact unhide HG)
          have HF2 : Hid (64 < sm (inc O q) j + (f' : Int)) := hide (by rw [hs3]; omega)
          have HM : Hid (sm (inc O q) j = sm O j + 1 ∧ sm O j + 1 ≤ 64) := hide ⟨hs3, by omega⟩
          obtain ⟨q0, q9⟩ := unhide HOB q hq
          have c1 := hv.get (j := q) (by rw [unhide HOL]; exact hq)
          have f1 := hv.frozen q
          have HIN : Hid (O.set q (at0 O q + 1) = inc O q) := hide rfl
          obtain ⟨Q, hQ⟩ : ∃ Q, at0 O q = Q := ⟨_, rfl⟩
          rw [hQ] at c1 HIN q0 q9
          obtain ⟨m1, m2⟩ := hv.put q (Q + 1)
          rw [unhide HIN] at m1
          have hB1 : Below w.heap.size w (wr.setCell ⟨g, q, none⟩ (.int .i64 (Q + 1))) := Below.setCell (p := ⟨g, q, none⟩) hB hg0 _
          have wQ : IntKind.i64.wrap (Q + 1) = Q + 1 := IntWalk.i64_in _ (by omega)
          have dq : decide ((q : Int) < 0) = false := by simp
          have M1 := hide m1
          have HB1 := hide hB1
          have HL1 := hide (lst_is m1)
          clear hb HZ hcan hs1 hs2 hs3 hf hQ HG HF HI m1 m2 hB1 hv hB
          go_wp2
          go_roundw
          case rel => exact ⟨_, f', unhide M1, HI2, HG2, HF2, unhide HB1⟩
          case measure =>
            rw [unhide HL1, unhide HLS]
            have := unhide HM
            omega

end Go.Proofs.YthkibjhhlcfceaiGreatDoor.Shr

/-
  hornref1.Value at any gain, hornref2.Given: by their contracts.
-/
namespace Go.Proofs.YthkibjhhlcfceaiGreatDoor.Frm
open Go.RowKit
open Go.Proofs.YthkibjhhlcfceaiGreatDoor.Tre Go.Proofs.YthkibjhhlcfceaiGreatDoor.Bnd Go.Proofs.YthkibjhhlcfceaiGreatDoor.Pls Go.Proofs.YthkibjhhlcfceaiGreatDoor.Gai Go.Proofs.YthkibjhhlcfceaiGreatDoor.Shr
set_option linter.unusedVariables false

theorem refValue (g : Int) (w : World) :
    Calls Tryz.prog 32 #[.int .i64 g] w fun e w' => e = .returned (.tuple #[.int .i64 (vlN g), .bool (gok g)]) ∧ w = w' := by
  by_cases h : g < 0 ∨ (0 ≤ g ∧ 53 < g)
  · have e : gok g = false := by
      unfold gok
      rcases h with h | ⟨_, h⟩
      · have : decide (0 ≤ g) = false := by simp; omega
        rw [this]; rfl
      · have : decide (g ≤ 53) = false := by simp; omega
        rw [this]; simp
    unfold vlN
    rw [e]
    exact refValue_far g w h
  · obtain ⟨m, rfl⟩ : ∃ m : Nat, g = m := ⟨g.toNat, by omega⟩
    have h1 : decide (0 ≤ (m : Int)) = true := by simp
    have h2 : decide ((m : Int) ≤ 53) = true := by simp; omega
    have e : gok (m : Int) = vo m := by unfold gok; rw [h1, h2, Int.toNat_natCast]; rfl
    unfold vlN
    rw [e, Int.toNat_natCast]
    rcases Nat.eq_zero_or_pos m with h0 | h0
    · subst h0
      have e0 : vo 0 = true := by decide
      have e1 : vl 0 = 0 := rfl
      rw [e0, if_pos rfl, e1]
      exact refValue_zero w
    · refine (refValue_some m h0 (by omega) w).mono ?_
      rintro e w' ⟨ha, hw⟩
      rcases ha with ⟨h3, rfl⟩ | ⟨h3, rfl⟩
      · rw [unhide h3, if_pos rfl]; exact ⟨rfl, hw⟩
      · rw [unhide h3, if_neg (by simp)]; exact ⟨rfl, hw⟩
set_option maxRecDepth 100000 in
set_option maxHeartbeats 4000000 in
theorem refGiven (a : Option Addr) (cap : Nat) (ps : List Prt) (b : Option Addr) (capb : Nat) (s : List Int) (B : Int) (w : World) (hp : Pts w a ps) (hr : Row w b s) (h0 : 1 ≤ s.length) (h8 : s.length ≤ 8) (hl : ps.length = s.length) (hs : Hid (Sizes s)) (hg : Hid (∀ i, i < ps.length → gok (prt ps i).1 = true)) (hB0 : 0 ≤ B) (hB4 : B ≤ 400) :
    Calls Tryz.prog 25 #[.slice a ps.length cap, .slice b s.length capb, .int .i64 B] w fun e w' => ∃ v, e = .returned v ∧ Has w' w.heap.size v (given (gns ps) s B) ∧ Below w.heap.size w w' := by
  have HLD : Hid (Lds (vals (gns ps))) := hide (vals_lds (fun i hi => by rw [gns_length] at hi; rw [gns_at hi]; exact unhide hg i hi))
  have HVL : Hid ((vals (gns ps)).length = s.length) := hide (by rw [vals_length, gns_length, hl])
  have HGV : Hid (share s (vals (gns ps)) B = given (gns ps) s B) := hide rfl
  have HTK : Hid (∀ k, k < ps.length → (vals (gns ps)).take (k + 1) = (vals (gns ps)).take k ++ [vlN (prt ps k).1]) := hide (fun k hk => by
    rw [vals_take (by rw [gns_length]; exact hk), gns_at hk, vlN_ok (unhide hg k hk)])
  have HV0 : Hid ((vals (gns ps)).take 0 = []) := hide rfl
  have HVA : Hid ((vals (gns ps)).take s.length = vals (gns ps)) := hide (by rw [← unhide HVL, List.take_length])
  obtain ⟨ds, hds⟩ : ∃ ds, vals (gns ps) = ds := ⟨_, rfl⟩
  rw [hds] at HLD HVL HGV HTK HV0 HVA
  obtain ⟨gv, hgv⟩ : ∃ gv, given (gns ps) s B = gv := ⟨_, rfl⟩
  rw [hgv] at HGV ⊢
  have CSH := hide (fun W q c h1 h2 => refShare b capb s q c ds B W h1 h2 h0 h8 (unhide HVL) hs HLD hB0 hB4)
  rw [unhide HGV] at CSH
  obtain ⟨N, hN⟩ : ∃ N, s.length = N := ⟨_, rfl⟩
  have HPN : Hid (ps.length = N) := hide (hl.trans hN)
  rw [hN] at CSH HVL HVA h8
  rw [hl, hN]
  clear hds hgv hN hl HGV HLD h0
  go_enter Tryz.func25, Tryz.ntmps25
  go_wp2
  go_loopw [7, 8] (fun v i wr => ∃ k : Nat, k ≤ N ∧ i = .int .i64 k ∧ Has wr w.heap.size v (ds.take k) ∧ Below w.heap.size w wr) (fun _ i _ => N - (intOf i).toNat)
  case atStart => exact ⟨0, Nat.zero_le _, rfl, by rw [unhide HV0]; exact Has.nil _ _, Below.refl _ _⟩
  case round =>
    obtain ⟨k, hk, rfl, hv, hB⟩ := hrel
    clear HV0
    by_cases hlt : k < N
    · have hlt' : k < ps.length := by rw [unhide HPN]; exact hlt
      obtain ⟨b1, off1, rfl, _, hc1⟩ := (hp.below hB).at hlt'
      have c1 := (hc1 k hlt').1
      have HT := hide (unhide HTK k hlt')
      have hq := hide (fun W => refValue (prt ps k).1 W)
      obtain ⟨G, hG⟩ : ∃ G, (prt ps k).1 = G := ⟨_, rfl⟩
      rw [hG] at c1 HT hq
      obtain ⟨v0, v9⟩ := vlN_in G
      obtain ⟨V, hV⟩ : ∃ V, vlN G = V := ⟨_, rfl⟩
      rw [hV] at HT hq v0 v9
      have hln : Hid ((ds.take k).length + 1 ≤ 1000000) := hide (by rw [List.length_take]; omega)
      have hWs := hB.size
      clear hc1 hG hV hlt'
      go_wp2_with fail
      refine (unhide hq _).mono ?_
      rintro e w2 ⟨rfl, hw2⟩
      obtain rfl : wr = w2 := hw2
      clear hq
      go_wp2_with (at_builtin; refine wpList_app _ rfl _ _ rfl w.heap.size u7 (ds.take k) [V] _ _ rfl (hv.alloc _) rfl (row_one _ _ _) (unhide hln) (by simp; omega) ?_; intro s' w6 k6 g6 at6)
      obtain ⟨d1, d2⟩ := stepped_plain hv hWs k6 g6 at6
      have hB6 := hB.trans d1
      rw [← unhide HT] at k6
      clear hv hB d1 d2 g6 at6
      go_wp2
      go_roundw
      case rel => exact ⟨k + 1, by omega, by go_num, k6, hB6⟩
      case measure => simp [intOf]; omega
    · obtain rfl : k = N := by omega
      rw [unhide HVA] at hv
      obtain ⟨p, q, rfl, hrow⟩ := hv.row
      rw [unhide HVL]
      have c := unhide CSH wr p q (hr.below hB) hrow
      clear CSH hv
      go_wp2_with fail
      refine c.mono ?_
      clear c
      rintro e w2 ⟨v2, rfl, k2, hb2⟩
      obtain ⟨p9, n9, q9, rfl⟩ := k2.shape
      go_wp2
      go_ret
      exact ⟨_, rfl, k2.mono hB.size, Below.chain hB hb2⟩

end Go.Proofs.YthkibjhhlcfceaiGreatDoor.Frm
