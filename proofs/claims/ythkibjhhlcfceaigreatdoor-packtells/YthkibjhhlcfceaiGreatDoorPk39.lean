/-
  hornref2.Put: by its contract.
-/
import Derived.Test.YthkibjhhlcfceaiGreatDoorPk38
import Derived.Test.YthkibjhhlcfceaiGreatDoorPk03
import Derived.Test.YthkibjhhlcfceaiGreatDoorPk29
import Derived.Test.YthkibjhhlcfceaiGreatDoorPk22
import Derived.Test.YthkibjhhlcfceaiGreatDoorPk17
namespace Go.Proofs.YthkibjhhlcfceaiGreatDoor.Wid
open Go.RowKit
open Go.Proofs.YthkibjhhlcfceaiGreatDoor.Tre Go.Proofs.YthkibjhhlcfceaiGreatDoor.Scl Go.Proofs.YthkibjhhlcfceaiGreatDoor.Bnd
set_option linter.unusedVariables false

theorem drop_at {l : List Int} {k : Nat} (h : k < l.length) : l.drop k = at0 l k :: l.drop (k + 1) := by
  rw [List.drop_eq_getElem_cons h]
  simp [at0, h]
theorem pf_step {l ws : List Int} {j : Nat} (h1 : j < l.length) (h2 : j < ws.length) : pf (l.drop j) (ws.drop j) = if Fit (at0 l j) (at0 ws j) then pf (l.drop (j + 1)) (ws.drop (j + 1)) else 1 := by
  rw [drop_at h1, drop_at h2, pf]
theorem two_le {k : Nat} (h : k ≤ 20) : (1 : Int) ≤ 2 ^ k ∧ (2 : Int) ^ k ≤ 1048576 := by
  have key : ∀ k : Nat, k < 21 → (1 : Int) ≤ 2 ^ k ∧ (2 : Int) ^ k ≤ 1048576 := by decide +kernel
  exact key k (by omega)

/-- What is told of numbers and widths. -/
def PutPost (l ws : List Int) (w : World) (e : Ending) (w' : World) : Prop :=
  ((putF l ws ≠ 0 ∧ e = .returned (.tuple #[.slice none 0 0, .int .i64 (putF l ws)])) ∨ (putF l ws = 0 ∧ ∃ v, e = .returned (.tuple #[v, .int .i64 0]) ∧ Has w' w.heap.size v (puts l ws))) ∧ Below w.heap.size w w'

set_option maxRecDepth 100000 in
set_option maxHeartbeats 8000000 in
theorem refPut (a : Option Addr) (cap : Nat) (l : List Int) (b : Option Addr) (capb : Nat) (ws : List Int) (w : World) (hr : Row w a l) (hs : Row w b ws) (zl : l.length ≤ 1048576) (zs : ws.length ≤ 9223372036854775807) :
    Calls Tryz.prog 48 #[.slice a l.length cap, .slice b ws.length capb] w fun e w' => PutPost l ws w e w' := by
  by_cases hlen : l.length = ws.length
  · have HP1 : Hid (pf l ws = 1 → ∀ w', Below w.heap.size w w' → PutPost l ws w (.returned (.tuple #[.slice none 0 0, .int .i64 1])) w') := hide (fun h w' hb => by
      have e : putF l ws = 1 := by unfold putF; rw [if_pos hlen, if_neg (by omega)]
      exact ⟨Or.inl (by rw [e]; exact ⟨by omega, rfl⟩), hb⟩)
    have HP4 : Hid (pf l ws = 0 → 400 < (puts l ws).length → ∀ w', Below w.heap.size w w' → PutPost l ws w (.returned (.tuple #[.slice none 0 0, .int .i64 4])) w') := hide (fun h h4 w' hb => by
      have e : putF l ws = 4 := by unfold putF; rw [if_pos hlen, if_pos h, if_pos h4]
      exact ⟨Or.inl (by rw [e]; exact ⟨by omega, rfl⟩), hb⟩)
    have HP0 : Hid (pf l ws = 0 → ¬ 400 < (puts l ws).length → ∀ v w', Has w' w.heap.size v (puts l ws) → Below w.heap.size w w' → PutPost l ws w (.returned (.tuple #[v, .int .i64 0])) w') := hide (fun h h4 v w' hv hb => by
      have e : putF l ws = 0 := by unfold putF; rw [if_pos hlen, if_pos h, if_neg h4]
      exact ⟨Or.inr ⟨e, v, rfl, hv⟩, hb⟩)
    have HF0 : Hid (pf (l.drop 0) (ws.drop 0) = pf l ws) := hide (by rw [List.drop_zero, List.drop_zero])
    have HL0 : Hid ((putUp l ws 0).length ≤ 20 * 0) := hide (by rw [putUp_zero]; exact Nat.le_refl _)
    have HAL : Hid (putUp l ws ws.length = puts l ws) := hide (putUp_all l ws)
    obtain ⟨P, hP⟩ : ∃ P, pf l ws = P := ⟨_, rfl⟩
    rw [hP] at HP1 HP4 HP0 HF0
    obtain ⟨N, hN⟩ : ∃ N, ws.length = N := ⟨_, rfl⟩
    have HN := hide hN
    have HNl : Hid (l.length = N) := hide (hlen.trans hN)
    rw [hN] at HAL
    rw [hlen, hN] at zl
    rw [hlen, hN]
    have hne : ((N : Int) == (N : Int)) = true := by simp
    clear hP hN hlen zs
    go_enter Tryz.func48, Tryz.ntmps48
    go_wp2
    go_loopw [6, 7] (fun v i wr => ∃ j : Nat, j ≤ N ∧ i = .int .i64 j ∧ Has wr w.heap.size v (putUp l ws j) ∧ Hid ((putUp l ws j).length ≤ 20 * j) ∧ Hid (pf (l.drop j) (ws.drop j) = P) ∧ Below w.heap.size w wr) (fun _ i _ => N - (intOf i).toNat)
    case atStart => exact ⟨0, Nat.zero_le _, rfl, Has.nil _ _, HL0, HF0, Below.refl _ _⟩
    case round =>
      obtain ⟨j, hj, rfl, hv, HLJ, HF, hB⟩ := hrel
      clear HL0 HF0
      by_cases hlt : j < N
      · have hlt1 : j < l.length := by rw [unhide HNl]; exact hlt
        have hlt2 : j < ws.length := by rw [unhide HN]; exact hlt
        have HF2 : Hid ((if Fit (at0 l j) (at0 ws j) then pf (l.drop (j + 1)) (ws.drop (j + 1)) else 1) = P) := hide (by rw [← pf_step hlt1 hlt2]; exact unhide HF)
        have HPU := hide (putUp_step l ws hlt2)
        obtain ⟨b1, off1, rfl, _, hc1⟩ := Scl.cell_at (hr.below hB) (by omega)
        obtain ⟨b2, off2, rfl, _, hc2⟩ := Scl.cell_at (hs.below hB) (by omega)
        have c1 := hc1 j hlt1
        have c2 := hc2 j hlt2
        obtain ⟨Y, hY⟩ : ∃ Y, at0 l j = Y := ⟨_, rfl⟩
        obtain ⟨X, hX⟩ : ∃ X, at0 ws j = X := ⟨_, rfl⟩
        rw [hY] at c1
        rw [hX] at c2
        rw [hX, hY] at HF2 HPU
        clear hY hX hc1 hc2 hlt1 hlt2 HF
        by_cases hx1 : X < 0
        · have dx : decide (X < 0) = true := by simpa using hx1
          have HP : Hid (P = 1) := hide (by rw [← unhide HF2, if_neg (fun h => by have := h.1; omega)])
          clear HF2 HPU
          go_wp2
          go_ret2
          exact unhide HP1 (unhide HP) _ hB
        · have dx : decide (X < 0) = false := by simpa using hx1
          by_cases hx2 : 20 < X
          · have dy : decide (20 < X) = true := by simpa using hx2
            have HP : Hid (P = 1) := hide (by rw [← unhide HF2, if_neg (fun h => by have := h.2.1; omega)])
            clear HF2 HPU
            go_wp2
            go_ret2
            exact unhide HP1 (unhide HP) _ hB
          · have dy : decide (20 < X) = false := by simpa using hx2
            by_cases hy1 : Y < 0
            · have dz : decide (Y < 0) = true := by simpa using hy1
              have HP : Hid (P = 1) := hide (by rw [← unhide HF2, if_neg (fun h => by have := h.2.2.1; omega)])
              clear HF2 HPU
              go_wp2
              go_ret2
              exact unhide HP1 (unhide HP) _ hB
            · have dz : decide (Y < 0) = false := by simpa using hy1
              obtain ⟨W, rfl⟩ : ∃ W : Nat, X = W := ⟨X.toNat, by omega⟩
              have hW20 : W ≤ 20 := by omega
              have HQ0 : Hid ((1 : Int) = 2 ^ 0) := hide rfl
              rename World => w5
              go_wp2
              go_loopw [8, 9] (fun p i wr => ∃ (k : Nat) (Q : Int), k ≤ W ∧ i = .int .i64 k ∧ p = .int .i64 Q ∧ Hid (Q = 2 ^ k) ∧ w5 = wr) (fun _ i _ => W - (intOf i).toNat)
              case atStart => exact ⟨0, 1, Nat.zero_le _, rfl, rfl, HQ0, rfl⟩
              case round =>
                obtain ⟨k, Q, hk, rfl, rfl, HQ, rfl⟩ := hrel
                clear HQ0
                obtain ⟨q1, q9⟩ := two_le (k := k) (by omega)
                rw [← unhide HQ] at q1 q9
                by_cases hkl : k < W
                · have HQ2 : Hid (2 * Q = 2 ^ (k + 1)) := hide (by rw [two_succ, ← unhide HQ])
                  have w1 : IntKind.i64.wrap (2 * Q) = 2 * Q := IntWalk.i64_in _ (by omega)
                  clear HQ
                  go_wp2
                  go_roundw
                  case rel => exact ⟨k + 1, 2 * Q, by omega, by go_num, by first | rfl | go_num, HQ2, by first | trivial | rfl⟩
                  case measure => simp [intOf]; omega
                · obtain rfl : k = W := by omega
                  by_cases hy2 : Q ≤ Y
                  · have dq : decide (Q ≤ Y) = true := by simpa using hy2
                    have HP : Hid (P = 1) := hide (by
                      rw [← unhide HF2, if_neg (fun h => by
                        have := h.2.2.2
                        rw [Int.toNat_natCast, ← unhide HQ] at this
                        omega)])
                    clear HF2 HPU HQ
                    go_wp2
                    go_ret2
                    exact unhide HP1 (unhide HP) _ hB
                  · have dq : decide (Q ≤ Y) = false := by simpa using hy2
                    have HF3 : Hid (pf (l.drop (j + 1)) (ws.drop (j + 1)) = P) := hide (by
                      rw [← unhide HF2, if_pos ⟨by omega, by omega, by omega, by rw [Int.toNat_natCast, ← unhide HQ]; omega⟩])
                    have HO0 : Hid (putUp l ws j ++ bin k Y = putUp l ws (j + 1)) := hide (by rw [unhide HPU, Int.toNat_natCast])
                    have HLJ2 : Hid ((putUp l ws (j + 1)).length ≤ 20 * (j + 1)) := hide (by
                      rw [← unhide HO0, List.length_append, bin_length]
                      have := unhide HLJ
                      omega)
                    have hy9 : Y < Q := by omega
                    have hy0 : 0 ≤ Y := by omega
                    clear HF2 HPU HLJ hy2 hy1 hx1 hx2
                    go_wp2
                    go_loopw [6, 8, 10] (fun v p n wr => ∃ (m : Nat) (Q Z : Int) (O : List Int), m ≤ k ∧ p = .int .i64 Q ∧ n = .int .i64 Z ∧ Hid (Q = 2 ^ m) ∧ 0 ≤ Z ∧ Z < Q ∧ Has wr w.heap.size v O ∧ Hid (O ++ bin m Z = putUp l ws (j + 1)) ∧ Below w.heap.size w wr) (fun _ p _ _ => (intOf p).toNat)
                    case atStart => exact ⟨k, Q, Y, _, Nat.le_refl _, rfl, rfl, HQ, hy0, hy9, hv, HO0, hB⟩
                    case round =>
                      clear q1 q9 HQ hy9 hy0 hv HO0 hB c1 c2
                      obtain ⟨m, Q, Z, O, hm, rfl, rfl, HQ, z0, z9, hv, HO, hB⟩ := hrel
                      obtain ⟨q1, q9⟩ := two_le (k := m) (by omega)
                      rw [← unhide HQ] at q1 q9
                      cases m with
                      | zero =>
                        obtain rfl : Q = 1 := unhide HQ
                        have hv2 : Has wr w.heap.size u6 (putUp l ws (j + 1)) := by
                          rw [← unhide HO, bin, List.append_nil]
                          exact hv
                        clear HO hv HQ
                        go_wp2
                        go_roundw
                        case rel => exact ⟨j + 1, by omega, by go_num, hv2, HLJ2, HF3, hB⟩
                        case measure => simp [intOf]; omega
                      | succ m =>
                        obtain ⟨G, hG⟩ : ∃ G : Int, 2 ^ m = G := ⟨_, rfl⟩
                        have hQG : Q = 2 * G := by rw [unhide HQ, two_succ, hG]
                        have HO2 : Hid ((O ++ [Z / G]) ++ bin m (Z % G) = putUp l ws (j + 1)) := hide (by rw [← unhide HO, bin, hG]; simp)
                        have g1 : 1 ≤ G := by rw [← hG]; exact (two_le (by omega)).1
                        have t1 : Int.tdiv Q 2 = G := by rw [Int.tdiv_eq_ediv_of_nonneg (by omega)]; omega
                        have t2 : Int.tdiv Z G = Z / G := Int.tdiv_eq_ediv_of_nonneg z0
                        have t3 : Int.tmod Z G = Z % G := Int.tmod_eq_emod_of_nonneg z0
                        have hd : decide (1 < Q) = true := by simp; omega
                        have hg0 : (G == 0) = false := by rw [beq_eq_false_iff_ne]; omega
                        have m0 : 0 ≤ Z % G := Int.emod_nonneg _ (by omega)
                        have m9 : Z % G < G := Int.emod_lt_of_pos _ (by omega)
                        have d0 : 0 ≤ Z / G := Int.ediv_nonneg z0 (by omega)
                        have d9 : Z / G ≤ 1 := by
                          have : Z / G < 2 := (Int.ediv_lt_iff_lt_mul (by omega)).2 (by omega)
                          omega
                        have hln : Hid (O.length + 1 ≤ 17592186044416) := hide (by
                          have e := congrArg List.length (unhide HO)
                          rw [List.length_append] at e
                          have := unhide HLJ2
                          omega)
                        have HQ2 : Hid (G = 2 ^ m) := hide hG.symm
                        obtain ⟨D, hD⟩ : ∃ D, Z / G = D := ⟨_, rfl⟩
                        obtain ⟨M, hM⟩ : ∃ M, Z % G = M := ⟨_, rfl⟩
                        rw [hD] at HO2 t2 d0 d9
                        rw [hM] at HO2 t3 m0 m9
                        have hWs := hB.size
                        clear hG hD hM HO HQ
                        go_wp2_with (at_builtin; refine wpList_appL _ rfl _ _ rfl w.heap.size u6 O [D] _ _ rfl (hv.alloc _) rfl (row_one _ _ _) (unhide hln) (by simp; omega) ?_; intro s' w6 k6 g6 at6)
                        obtain ⟨d1, d2⟩ := stepped_plain hv hWs k6 g6 at6
                        have hB6 := hB.trans d1
                        clear hv hB d1 d2 g6 at6
                        go_wp2
                        go_roundw
                        case rel => exact ⟨m, G, M, _, by omega, by first | rfl | go_num, by first | rfl | go_num, HQ2, m0, m9, k6, HO2, hB6⟩
                        case measure => simp [intOf]; omega
      · obtain rfl : j = N := by omega
        obtain rfl : P = 0 := by
          rw [← unhide HF]
          have e1 : l.drop j = [] := by rw [← unhide HNl, List.drop_length]
          rw [e1]
          cases ws.drop j <;> rfl
        rw [unhide HAL] at hv
        obtain ⟨p9, q9, rfl, r9⟩ := hv.row
        obtain ⟨K, hK⟩ : ∃ K, (puts l ws).length = K := ⟨_, rfl⟩
        rw [hK] at hv HP4 HP0 ⊢
        have hK9 : K ≤ 20 * 1048576 := by
          have := unhide HLJ
          rw [unhide HAL, hK] at this
          omega
        clear HF HLJ r9
        by_cases h4 : 400 < K
        · go_wp2
          go_ret2
          exact unhide HP4 (by first | trivial | rfl) h4 _ hB
        · go_wp2
          go_ret2
          exact unhide HP0 (by first | trivial | rfl) h4 _ _ hv hB
  · have e : putF l ws = 3 := by unfold putF; rw [if_neg hlen]
    have HP : Hid (∀ w', Below w.heap.size w w' → PutPost l ws w (.returned (.tuple #[.slice none 0 0, .int .i64 3])) w') := hide (fun w' hb => ⟨Or.inl (by rw [e]; exact ⟨by omega, rfl⟩), hb⟩)
    obtain ⟨N, hN⟩ : ∃ N, ws.length = N := ⟨_, rfl⟩
    obtain ⟨M, hM⟩ : ∃ M, l.length = M := ⟨_, rfl⟩
    rw [hN, hM] at hlen
    rw [hN, hM]
    have hne : ((M : Int) == (N : Int)) = false := by rw [beq_eq_false_iff_ne]; omega
    have hne2 : (M == N) = false := by rw [beq_eq_false_iff_ne]; omega
    clear hN hM e
    go_enter Tryz.func48, Tryz.ntmps48
    go_wp2
    go_ret2
    exact unhide HP _ (Below.refl _ _)

end Go.Proofs.YthkibjhhlcfceaiGreatDoor.Wid

/-
  hornref2.Octets: by its contract.
-/
namespace Go.Proofs.YthkibjhhlcfceaiGreatDoor.Wid
open Go.RowKit
open Go.Proofs.YthkibjhhlcfceaiGreatDoor.Tre Go.Proofs.YthkibjhhlcfceaiGreatDoor.Scl Go.Proofs.YthkibjhhlcfceaiGreatDoor.Bnd Go.Proofs.YthkibjhhlcfceaiGreatDoor.Hrn
set_option linter.unusedVariables false

theorem eight_at (l : List Int) (j : Nat) {q : Nat} (h : q < 8) : at0 (eight l j) q = at0 l (8 * j + q) := by unfold eight; exact upto_at _ h

set_option maxRecDepth 100000 in
set_option maxHeartbeats 8000000 in
theorem refOctets (a : Option Addr) (cap : Nat) (l : List Int) (w : World) (hr : Row w a l) (h400 : l.length ≤ 400) (hb : Hid (Bit l)) :
    Calls Tryz.prog 49 #[.slice a l.length cap] w fun e w' => e = .returned (.string (str (oct l))) ∧ Below w.heap.size w w' := by
  have HBY : Hid (Byts (oct l)) := hide (oct_in (unhide hb))
  have HOC : Hid (oct l = upto (fun i => num 0 (eight l i)) ((l.length + 7) / 8)) := hide rfl
  obtain ⟨cd, hcd⟩ : ∃ cd, oct l = cd := ⟨_, rfl⟩
  rw [hcd] at HBY HOC ⊢
  have HSE : Hid (∀ j q, 0 ≤ num 0 ((eight l j).take q) ∧ num 0 ((eight l j).take q) ≤ 1048576) := hide (fun j q => num_small (eight_bit (unhide hb) j) (by rw [eight_length]; omega) q)
  have HS8 : Hid (∀ j, 0 ≤ num 0 (eight l j) ∧ num 0 (eight l j) ≤ 255) := hide (fun j => by
    have h := num_in (eight_bit (unhide hb) j)
    rw [eight_length] at h
    have h2 := h.2
    exact ⟨h.1, by omega⟩)
  obtain ⟨N, hN⟩ : ∃ N, l.length = N := ⟨_, rfl⟩
  have HN := hide hN
  rw [hN] at h400 HOC ⊢
  clear hN hcd
  go_enter Tryz.func49, Tryz.ntmps49
  go_wp2
  go_loopw [3, 4] (fun v i wr => ∃ j I : Nat, I ≤ N + 7 ∧ I = 8 * j ∧ i = .int .i64 I ∧ HasY wr w.heap.size v (upto (fun i => num 0 (eight l i)) j) ∧ Below w.heap.size w wr) (fun _ i _ => N + 8 - (intOf i).toNat)
  case atStart => exact ⟨0, 0, by omega, rfl, rfl, HasY.nil _ _, Below.refl _ _⟩
  case round =>
    obtain ⟨j, I, hI, hIj, rfl, hv, hB⟩ := hrel
    have HIJ := hide hIj
    clear hIj
    by_cases hlt : I < N
    · have HT8 : Hid (∀ q, q < 8 → num 0 ((eight l j).take (q + 1)) = 2 * num 0 ((eight l j).take q) + at0 l (I + q)) := hide (fun q hq => by
        rw [num_take (by rw [eight_length]; exact hq), eight_at l j hq, unhide HIJ])
      have HTA : Hid (num 0 ((eight l j).take 8) = num 0 (eight l j)) := hide (by rw [List.take_of_length_le (by rw [eight_length]; exact Nat.le_refl _)])
      have hI8 : IntKind.i64.wrap ((I : Int) + 8) = (I : Int) + 8 := IntWalk.i64_in _ (by omega)
      have hrw := hr.below hB
      have HX0 : Hid (num 0 ((eight l j).take 0) = 0) := hide rfl
      rename World => w5
      go_wp2
      go_loopw [5, 6] (fun n k wr => ∃ (q K : Nat) (X : Int), q ≤ 8 ∧ K = I + q ∧ k = .int .i64 K ∧ n = .int .i64 X ∧ Hid (num 0 ((eight l j).take q) = X) ∧ w5 = wr) (fun _ k _ => I + 8 - (intOf k).toNat)
      case atStart => exact ⟨0, I, 0, by omega, rfl, rfl, rfl, HX0, rfl⟩
      case round =>
        obtain ⟨q, K, X, hq, hK, rfl, rfl, HX, rfl⟩ := hrel
        clear HX0
        by_cases hq8 : q < 8
        · have hs := unhide HSE j q
          have HX2 : Hid (num 0 ((eight l j).take (q + 1)) = 2 * X + at0 l K) := hide (by rw [unhide HT8 q hq8, unhide HX, hK])
          rw [unhide HX] at hs
          have hbt := bit_at (unhide hb) K
          have w1 : IntKind.i64.wrap (2 * X) = 2 * X := IntWalk.i64_in _ (by omega)
          have hkd : decide ((K : Int) < (I : Int) + 8) = true := by simp; omega
          have hK1 : K + 1 = I + (q + 1) := by omega
          have hK9 : K ≤ I + 8 := by omega
          clear HX hK
          by_cases hkN : K < N
          · obtain ⟨b1, off1, rfl, _, hc1⟩ := Scl.cell_at hrw (by rw [unhide HN]; omega)
            have c1 := hc1 K (by rw [unhide HN]; exact hkN)
            obtain ⟨B, hBB⟩ : ∃ B, at0 l K = B := ⟨_, rfl⟩
            rw [hBB] at c1 HX2 hbt
            have w2 : IntKind.i64.wrap (2 * X + B) = 2 * X + B := IntWalk.i64_in _ (by omega)
            clear hBB hc1 hbt hs
            go_wp2
            go_roundw
            case rel => exact ⟨q + 1, K + 1, 2 * X + B, by omega, hK1, by go_num, by first | rfl | go_num, HX2, by first | trivial | rfl⟩
            case measure => simp [intOf]; omega
          · have e0 : at0 l K = 0 := at0_none (by rw [unhide HN]; omega)
            have HX3 : Hid (num 0 ((eight l j).take (q + 1)) = 2 * X) := hide (by rw [unhide HX2, e0]; omega)
            clear HX2 e0 hbt hs
            go_wp2
            go_roundw
            case rel => exact ⟨q + 1, K + 1, 2 * X, by omega, hK1, by go_num, by first | rfl | go_num, HX3, by first | trivial | rfl⟩
            case measure => simp [intOf]; omega
        · obtain rfl : q = 8 := by omega
          have hkd : decide ((K : Int) < (I : Int) + 8) = false := by simp; omega
          have hx := unhide HS8 j
          have HXX : Hid (num 0 (eight l j) = X) := hide (by rw [← unhide HX, unhide HTA])
          rw [unhide HXX] at hx
          obtain ⟨x0, x9⟩ := hx
          have hm : X % 256 = X := by omega
          have HUP : Hid (upto (fun i => num 0 (eight l i)) (j + 1) = upto (fun i => num 0 (eight l i)) j ++ [X]) := hide (by rw [upto_succ]; simp only [unhide HXX])
          have hln : Hid ((upto (fun i => num 0 (eight l i)) j).length + 1 ≤ 1000000) := hide (by rw [upto_length]; have := unhide HIJ; omega)
          have hWs := hB.size
          have hI2 : I + 8 = 8 * (j + 1) := by have := unhide HIJ; omega
          have HI2 := hide hI2
          clear HX HTA HT8 hK hI2
          go_wp2_with (at_builtin; refine wpList_appy _ rfl _ _ rfl w.heap.size u3 _ X _ _ rfl (hv.alloc _) rfl (cell_byte _ _ _) (unhide hln) (by simp; omega) ?_; intro s' w6 k6 g6 at6)
          have hB6 := hB.trans (stepped_y (l' := []) (v' := s') hv hWs g6)
          rw [← unhide HUP] at k6
          clear hv hB at6 g6
          go_wp2
          go_roundw
          case rel => exact ⟨j + 1, I + 8, by omega, unhide HI2, by go_num, k6, hB6⟩
          case measure => simp [intOf]; omega
    · have HE : Hid (upto (fun i => num 0 (eight l i)) j = cd) := hide (by
        rw [unhide HOC]
        congr 1
        have := unhide HIJ
        omega)
      rw [unhide HE] at hv
      have hcv := run_str_y hv (unhide HBY)
      obtain ⟨p9, n9, q9, rfl⟩ := hv.any
      go_wp2
      go_ret
      exact ⟨rfl, hB⟩

end Go.Proofs.YthkibjhhlcfceaiGreatDoor.Wid

/-
  hornref2.Pack: by its contract.
-/
namespace Go.Proofs.YthkibjhhlcfceaiGreatDoor.Pck
open Go.RowKit
open Go.Proofs.YthkibjhhlcfceaiGreatDoor.Itr Go.Proofs.YthkibjhhlcfceaiGreatDoor.Tre Go.Proofs.YthkibjhhlcfceaiGreatDoor.Bnd Go.Proofs.YthkibjhhlcfceaiGreatDoor.Cnt Go.Proofs.YthkibjhhlcfceaiGreatDoor.Pls Go.Proofs.YthkibjhhlcfceaiGreatDoor.Shr Go.Proofs.YthkibjhhlcfceaiGreatDoor.Frm Go.Proofs.YthkibjhhlcfceaiGreatDoor.Wid Go.Proofs.YthkibjhhlcfceaiGreatDoor.Hrn
set_option linter.unusedVariables false

theorem gns_step {ps : List Prt} {j : Nat} (h : j < ps.length) : gns (ps.take (j + 1)) = gns (ps.take j) ++ [(prt ps j).1] := by
  unfold gns
  rw [List.take_succ_eq_append_getElem h, List.map_append, prt_get h]
  rfl
theorem rks_step {ps : List Prt} {j : Nat} (h : j < ps.length) : rks (ps.take (j + 1)) = rks (ps.take j) ++ [rk (prt ps j).2 (loud (prt ps j).2)] := by
  unfold rks
  rw [List.take_succ_eq_append_getElem h, List.map_append, prt_get h]
  rfl
theorem wbs_step {ps : List Prt} {j : Nat} (h : j < ps.length) : wbs (ps.take (j + 1)) = wbs (ps.take j) ++ [(Bt (loud (prt ps j).2) (prt ps j).2.length : Int)] := by
  unfold wbs
  rw [List.take_succ_eq_append_getElem h, List.map_append, prt_get h]
  rfl
/-- What is told of a frame that is packed. -/
def PackPost (ps : List Prt) (s : List Int) (B : Int) (w : World) (e : Ending) (w' : World) : Prop := ∃ E, e = .returned (.tuple #[.string (pstr ps E), .int .i64 E]) ∧ PckF ps s B E ∧ Below w.heap.size w w'

set_option maxRecDepth 100000 in
set_option maxHeartbeats 16000000 in
theorem refPack (a : Option Addr) (cap : Nat) (ps : List Prt) (b : Option Addr) (capb : Nat) (s : List Int) (B : Int) (w : World) (hp : Pts w a ps) (hs : Row w b s) (zp : ps.length ≤ 9223372036854775807) (zs : s.length ≤ 9223372036854775807) :
    Calls Tryz.prog 14 #[.slice a ps.length cap, .slice b s.length capb, .int .i64 B] w fun e w' => PackPost ps s B w e w' := by
  have c0 := refFrame a cap ps b capb s B w hp hs zp zs
  unfold FrmPost at c0
  have HNO : Hid (∀ E w', FrmF ps s B E → E ≠ 0 → Below w.heap.size w w' → PackPost ps s B w (.returned (.tuple #[.string { data := #[] }, .int .i64 E])) w') := hide (fun E w' h hne hb => ⟨E, by rw [pstr_no ps hne], Or.inl ⟨hne, h⟩, hb⟩)
  have HFZ : Hid (FrmF ps s B 0 → Right s B ps ∧ ps.length = s.length ∧ s.length ≤ 8) := hide (fun h => by
    obtain ⟨h1, _, _, h4⟩ := frm_zero h
    exact ⟨h4, h4.len, (bf_ok h1).2.1⟩)
  have HPU : Hid (FrmF ps s B 0 → PckF ps s B (putF (nums ps) (wids ps))) := hide (fun h => Or.inr ⟨h, pack_put (frm_zero h).2.2.2⟩)
  obtain ⟨PL, hPL⟩ : ∃ PL, ps.length = PL := ⟨_, rfl⟩
  have HPN := hide hPL
  obtain ⟨SL, hSL⟩ : ∃ SL, s.length = SL := ⟨_, rfl⟩
  have HSN := hide hSL
  rw [hPL] at c0 zp ⊢
  rw [hSL] at c0 zs ⊢
  clear hPL hSL
  go_enter Tryz.func14, Tryz.ntmps14
  go_wp2_with fail
  refine c0.mono ?_
  clear c0
  rintro e w1 ⟨E, rfl, HF, hb1⟩
  by_cases hE : E = 0
  · subst hE
    obtain ⟨hR, hl1, hl8⟩ := unhide HFZ HF
    have HR := hide hR
    have HPK := hide (unhide HPU HF)
    have h8 : PL ≤ 8 := by rw [← unhide HPN, hl1]; exact hl8
    have P1 := hp.below hb1
    clear HFZ HPU HNO HF hR hl1 hl8
    go_wp2
    go_loopw [9, 10, 11] (fun n v i wr => ∃ j : Nat, j ≤ PL ∧ i = .int .i64 j ∧ Has wr w1.heap.size n (gns (ps.take j)) ∧ Has wr w1.heap.size v (List.replicate j 6) ∧ Off n v ∧ Below w1.heap.size w1 wr) (fun _ _ i _ => PL - (intOf i).toNat)
    case atStart => exact ⟨0, Nat.zero_le _, rfl, Has.nil _ _, Has.nil _ _, off_nil _, Below.refl _ _⟩
    case round =>
      obtain ⟨j, hj, rfl, hn, hv, hof, hB⟩ := hrel
      by_cases hlt : j < PL
      · have hlt1 : j < ps.length := by rw [unhide HPN]; exact hlt
        obtain ⟨b1, off1, rfl, _, hc1⟩ := (P1.below hB).at hlt1
        obtain ⟨x1, _⟩ := hc1 j hlt1
        have HST := hide (gns_step hlt1)
        have HS6 : Hid (List.replicate (j + 1) (6 : Int) = List.replicate j 6 ++ [6]) := hide (by rw [List.replicate_succ'])
        obtain ⟨G, hG⟩ : ∃ G, (prt ps j).1 = G := ⟨_, rfl⟩
        rw [hG] at x1 HST
        have hln1 : Hid ((gns (ps.take j)).length + [G].length ≤ 1000000) := hide (by rw [gns_length, List.length_take, unhide HPN]; simp; omega)
        have hln2 : Hid ((List.replicate j (6 : Int)).length + [(6 : Int)].length ≤ 1000000) := hide (by rw [List.length_replicate]; simp; omega)
        have hWs := hB.size
        clear hc1 hG hlt1
        go_wp2_with (first
          | (at_builtin
             refine wpList_app _ rfl _ _ rfl w1.heap.size u9 (gns (ps.take j)) [G] _ _ rfl (hn.alloc _) rfl (row_one _ _ _) (unhide hln1) (by simp; omega) ?_
             intro s6 w6 k6 g6 at6
             obtain ⟨e1, e2⟩ := stepped_plain hn hWs k6 g6 at6
             obtain ⟨hv6, hof6⟩ := e2 _ _ hv hof.symm
             have hB6 := hB.trans e1
             have hWs6 := hB6.size
             clear hn hv hB e1 e2 g6 at6 hWs)
          | (at_builtin
             refine wpList_app _ rfl _ _ rfl w1.heap.size u10 (List.replicate j 6) [(6 : Int)] _ _ rfl (hv6.alloc _) rfl (row_one _ _ _) (unhide hln2) (by simp; omega) ?_
             intro s7 w7 k7 g7 at7
             obtain ⟨e1, e2⟩ := stepped_plain hv6 hWs6 k7 g7 at7
             obtain ⟨hk7, hof7⟩ := e2 _ _ k6 hof6.symm
             have hB7 := hB6.trans e1
             clear hv6 hB6 e1 e2 g7 at7 hWs6 k6))
        rw [← unhide HST] at hk7
        rw [← unhide HS6] at k7
        go_wp2
        go_roundw
        case rel => exact ⟨j + 1, by omega, by go_num, hk7, k7, hof7, hB7⟩
        case measure => simp [intOf]; omega
      · obtain rfl : PL = j := by omega
        have eT : ps.take PL = ps := by rw [← unhide HPN, List.take_length]
        rw [eT] at hn
        have hn0 : Has wr w1.heap.size u9 (gns ps ++ rks (ps.take 0)) := by
          have e : rks (ps.take 0) = [] := rfl
          rw [e, List.append_nil]
          exact hn
        have hv0 : Has wr w1.heap.size u10 (List.replicate PL 6 ++ wbs (ps.take 0)) := by
          have e : wbs (ps.take 0) = [] := rfl
          rw [e, List.append_nil]
          exact hv
        clear hn hv eT hj hlt
        go_wp2
        go_loopw [9, 10, 12] (fun n v i wr => ∃ j : Nat, j ≤ PL ∧ i = .int .i64 j ∧ Has wr w1.heap.size n (gns ps ++ rks (ps.take j)) ∧ Has wr w1.heap.size v (List.replicate PL 6 ++ wbs (ps.take j)) ∧ Off n v ∧ Below w1.heap.size w1 wr) (fun _ _ i _ => PL - (intOf i).toNat)
        case atStart => exact ⟨0, Nat.zero_le _, rfl, hn0, hv0, hof, hB⟩
        case round =>
          clear hn0 hv0 hof hB
          rename World => wq
          obtain ⟨j, hj, rfl, hn, hv, hof, hB⟩ := hrel
          by_cases hlt : j < PL
          · have hlt1 : j < ps.length := by rw [unhide HPN]; exact hlt
            obtain ⟨b1, off1, rfl, hb1', hc1⟩ := (P1.below hB).at hlt1
            obtain ⟨x1, A, C, x2, x3, x4, x5, x6⟩ := hc1 j hlt1
            obtain ⟨i1, i2, _, _⟩ := right_in (unhide HR) hlt1
            have HSR := hide (rks_step hlt1)
            have HSW := hide (wbs_step hlt1)
            have hi8 := (fault_ok ((unhide HR).ok j hlt1).2).2.1
            have CRK := refRank (prt ps j).2 A C wq i1 i2 x4 x5 x6
            have hrk := (rk_in _ i1 i2)
            have hV9 := V_in (loud (prt ps j).2) (prt ps j).2.length (by omega) (by omega)
            have hbt := Bt_le (k := loud (prt ps j).2) (n := (prt ps j).2.length) (by omega) (by omega)
            have CLO : Hid (∀ W, Below wq.heap.size wq W → Calls Tryz.prog 23 #[.slice A (prt ps j).2.length C] W fun e w' => e = .returned (.int .i64 (loud (prt ps j).2 : Int)) ∧ Below W.heap.size W w') := hide (fun W h => (refLoudB A C (prt ps j).2 W (by omega) (hi8.mono (by omega)) (x6.below h)).mono fun e w' ⟨he, hw⟩ => ⟨he, by rw [← hw]; exact Below.refl _ _⟩)
            have CCO : Hid (∀ W, Calls Tryz.prog 47 #[.int .i64 ((prt ps j).2.length : Int), .int .i64 (loud (prt ps j).2 : Int)] W fun e w' => e = .returned (.int .i64 (V (loud (prt ps j).2) (prt ps j).2.length)) ∧ Below W.heap.size W w') := hide (fun W => refCount _ _ i1 i2 W)
            have CBI : Hid (∀ W, Calls Tryz.prog 46 #[.int .i64 (V (loud (prt ps j).2) (prt ps j).2.length)] W fun e w' => e = .returned (.int .i64 (Bt (loud (prt ps j).2) (prt ps j).2.length : Int)) ∧ Below W.heap.size W w') := hide (fun W => (refBits _ hV9.2 W).mono fun e w' ⟨b, he, hb, hw⟩ => ⟨by rw [he, hb.one (Bt_is i2 i1)], by rw [← hw]; exact Below.refl _ _⟩)
            obtain ⟨K, hK⟩ : ∃ K, loud (prt ps j).2 = K := ⟨_, rfl⟩
            rw [hK] at CLO CCO CBI HSW HSR CRK hrk hbt
            obtain ⟨LP, hLP⟩ : ∃ LP, (prt ps j).2.length = LP := ⟨_, rfl⟩
            rw [hLP] at CLO CCO CBI HSW CRK x2 hbt
            obtain ⟨RK, hRK⟩ : ∃ RK, rk (prt ps j).2 K = RK := ⟨_, rfl⟩
            rw [hRK] at HSR CRK
            obtain ⟨BT, hBT⟩ : ∃ BT, Bt K LP = BT := ⟨_, rfl⟩
            rw [hBT] at HSW CBI hbt
            obtain ⟨VV, hVV⟩ : ∃ VV, V K LP = VV := ⟨_, rfl⟩
            rw [hVV] at CCO CBI
            have hln1 : Hid ((gns ps ++ rks (ps.take j)).length + [RK].length ≤ 1000000) := hide (by rw [List.length_append, gns_length, rks_length, List.length_take, unhide HPN]; simp; omega)
            have hln2 : Hid ((List.replicate PL (6 : Int) ++ wbs (ps.take j)).length + [(BT : Int)].length ≤ 1000000) := hide (by rw [List.length_append, List.length_replicate, wbs_length, List.length_take, unhide HPN]; simp; omega)
            have HN2 : Hid ((gns ps ++ rks (ps.take j)) ++ [RK] = gns ps ++ rks (ps.take (j + 1))) := hide (by rw [unhide HSR, List.append_assoc])
            have HV2 : Hid ((List.replicate PL (6 : Int) ++ wbs (ps.take j)) ++ [(BT : Int)] = List.replicate PL 6 ++ wbs (ps.take (j + 1))) := hide (by rw [unhide HSW, List.append_assoc])
            clear hc1 hK hLP hRK hBT hVV x1 x3 x4 x5 x6 i1 i2 hi8 hrk hV9 HSR HSW hlt1
            go_wp2_with fail
            refine CRK.mono ?_
            clear CRK
            rintro e w5 ⟨rfl, hb5⟩
            have hn5 := hn.below hb5
            have hv5 := hv.below hb5
            have hB5 := Below.chain hB hb5
            have hlt5 : b1 < w5.heap.size := Nat.lt_of_lt_of_le hb1' hb5.size
            have x5 := (hb5.cell (p := ⟨b1, off1 + j * 2 + 1, none⟩) hb1').trans x2
            have X1 : ∀ W : Cls w5, W.val.cell? ⟨b1, off1 + j * 2 + 1, none⟩ = _ := fun W => W.cell hlt5 x5
            have CLO5 : Hid (∀ W : Cls w5, Calls Tryz.prog 23 #[.slice A LP C] W.val fun e w' => e = .returned (.int .i64 (K : Int)) ∧ Below W.val.heap.size W.val w') := hide (fun W => unhide CLO W.val (Below.chain hb5 W.ok))
            have hji : (j : Int) < (PL : Int) := by omega
            clear hn hv hB x2 CLO
            go_upto_region 14 with fail
            refine region_calm (by kernel_rfl) (by kernel_rfl) ?_
            repeat (go_big_quiet_step ((first
              | (go_at_call 23; exact calm_call (unhide CLO5 _))
              | (go_at_call 47; exact calm_call (unhide CCO _))
              | (go_at_call 46; exact calm_call (unhide CBI _)))))
            refine wpQuiet_nil ?_
            intro _ hw'
            obtain ⟨WQ, hw''⟩ := hw'
            subst hw''
            have hn6 := hn5.below WQ.ok
            have hv6 := hv5.below WQ.ok
            have hB6 := Below.chain hB5 WQ.ok
            have hWs := hB6.size
            obtain ⟨w6, hw6⟩ : ∃ w6, WQ.val = w6 := ⟨_, rfl⟩
            rw [hw6] at hn6 hv6 hB6 hWs ⊢
            clear X1 CLO5 CCO CBI hn5 hv5 hB5 hb5 x5 hlt5 hw6
            go_wp2_with (first
              | (at_builtin
                 refine wpList_app _ rfl _ _ rfl w1.heap.size u9 (gns ps ++ rks (ps.take j)) [RK] _ _ rfl (hn6.alloc _) rfl (row_one _ _ _) (unhide hln1) (by simp; omega) ?_
                 intro s7 w7 k7 g7 at7
                 obtain ⟨e1, e2⟩ := stepped_plain hn6 hWs k7 g7 at7
                 obtain ⟨hv7, hof7⟩ := e2 _ _ hv6 hof.symm
                 have hB7 := hB6.trans e1
                 have hWs7 := hB7.size
                 clear hn6 hv6 hB6 e1 e2 g7 at7 hWs)
              | (at_builtin
                 refine wpList_app _ rfl _ _ rfl w1.heap.size u10 (List.replicate PL 6 ++ wbs (ps.take j)) [(BT : Int)] _ _ rfl (hv7.alloc _) rfl (row_one _ _ _) (unhide hln2) (by simp; omega) ?_
                 intro s8 w8 k8 g8 at8
                 obtain ⟨e1, e2⟩ := stepped_plain hv7 hWs7 k8 g8 at8
                 obtain ⟨hk8, hof8⟩ := e2 _ _ k7 hof7.symm
                 have hB8 := hB7.trans e1
                 clear hv7 hB7 e1 e2 g8 at8 hWs7 k7))
            rw [unhide HN2] at hk8
            rw [unhide HV2] at k8
            go_wp2
            go_roundw
            case rel => exact ⟨j + 1, by omega, by go_num, hk8, k8, hof8, hB8⟩
            case measure => simp [intOf]; omega
          · obtain rfl : PL = j := by omega
            have eT : ps.take PL = ps := by rw [← unhide HPN, List.take_length]
            have hn2 : Has wq w1.heap.size u9 (nums ps) := by
              rw [eT] at hn
              exact hn
            have hv2 : Has wq w1.heap.size u10 (wids ps) := by
              rw [eT, ← unhide HPN] at hv
              exact hv
            have hB2 := Below.chain hb1 hB
            obtain ⟨pn, qn, hun, rn⟩ := hn2.row
            obtain ⟨pv, qv, huv, rv⟩ := hv2.row
            have CPU := refPut pn qn (nums ps) pv qv (wids ps) wq rn rv (by rw [nums_length, unhide HPN]; omega) (by rw [wids_length, unhide HPN]; omega)
            unfold PutPost at CPU
            have HBI := hide (pack_bit (unhide HR))
            have HOC : Hid (oct (puts (nums ps) (wids ps)) = oct (pbits ps)) := hide rfl
            have HPZ : Hid (putF (nums ps) (wids ps) = 0 → (puts (nums ps) (wids ps)).length ≤ 400) := hide (fun h => (putF_zero.1 h).2.2)
            rw [hun, huv]
            obtain ⟨NL, hNL⟩ : ∃ NL, (nums ps).length = NL := ⟨_, rfl⟩
            obtain ⟨WL, hWL⟩ : ∃ WL, (wids ps).length = WL := ⟨_, rfl⟩
            rw [hNL, hWL] at CPU ⊢
            obtain ⟨PF, hPF⟩ : ∃ PF, putF (nums ps) (wids ps) = PF := ⟨_, rfl⟩
            rw [hPF] at CPU HPK HPZ
            have HRS : Hid (∀ w', Below w.heap.size w w' → PF ≠ 0 → PackPost ps s B w (.returned (.tuple #[.string { data := #[] }, .int .i64 PF])) w') := hide (fun w' hb hne => ⟨PF, by rw [pstr_no ps hne], unhide HPK, hb⟩)
            have HRO : Hid (∀ w', Below w.heap.size w w' → PF = 0 → PackPost ps s B w (.returned (.tuple #[.string (str (oct (pbits ps))), .int .i64 0])) w') := hide (fun w' hb hz => ⟨0, by rw [pstr_ok], by rw [← hz]; exact unhide HPK, hb⟩)
            obtain ⟨PU, hPU⟩ : ∃ PU, puts (nums ps) (wids ps) = PU := ⟨_, rfl⟩
            have HBP : Hid (Bit PU) := hide (by rw [← hPU]; exact unhide HBI)
            rw [hPU] at CPU HOC HPZ
            clear hn hv hn2 hv2 hun huv hNL hWL hPF hPU eT hB HBI HPK hj hlt
            go_wp2_with fail
            refine CPU.mono ?_
            clear CPU
            rintro e w5 ⟨h5, hb5⟩
            have hB5 := Below.chain hB2 hb5
            rcases h5 with ⟨h5, rfl⟩ | ⟨h5, v5, rfl, k5⟩
            · have hne : (PF != 0) = true := by simpa using h5
              have HP := hide (unhide HRS w5 hB5 h5)
              clear HRS HRO HPZ HBP HOC
              go_wp2
              go_ret2
              exact unhide HP
            · obtain ⟨p5, q5, rfl, r5⟩ := k5.row
              have COC := refOctets p5 q5 PU w5 r5 (unhide HPZ h5) HBP
              rw [unhide HOC] at COC
              obtain ⟨UL, hUL⟩ : ∃ UL, PU.length = UL := ⟨_, rfl⟩
              rw [hUL] at COC ⊢
              clear hUL k5 HPZ HBP HOC r5
              go_wp2_with fail
              refine COC.mono ?_
              clear COC
              rintro e w6 ⟨rfl, hb6⟩
              have HP := hide (unhide HRO w6 (Below.chain hB5 hb6) h5)
              clear HRS HRO
              go_wp2
              go_ret2
              exact unhide HP
  · have hne : (E != 0) = true := by simpa using hE
    have HP := hide (unhide HNO E w1 HF hE hb1)
    clear HNO HFZ HPU HF
    go_wp2
    go_ret2
    exact unhide HP

end Go.Proofs.YthkibjhhlcfceaiGreatDoor.Pck
