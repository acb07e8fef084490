/-
  hornref2.Put: by its contract.
-/
import Derived.Test.YtpinmcgaaplkiagDoorRefBit
import Derived.Test.YtpinmcgaaplkiagDoorOwnBig
namespace Go.Proofs.YtpinmcgaaplkiagDoor.Wid
open Go.RowKit
open Go.Proofs.YtpinmcgaaplkiagDoor.Tre Go.Proofs.YtpinmcgaaplkiagDoor.Scl Go.Proofs.YtpinmcgaaplkiagDoor.Bnd
set_option linter.unusedVariables false

theorem drop_at {l : List Int} {k : Nat} (h : k < l.length) : l.drop k = at0 l k :: l.drop (k + 1) := by
  rw [List.drop_eq_getElem_cons h]
  simp [at0, h]
theorem pf_step {l ws : List Int} {j : Nat} (h1 : j < l.length) (h2 : j < ws.length) : pf (l.drop j) (ws.drop j) = if Fit (at0 l j) (at0 ws j) then pf (l.drop (j + 1)) (ws.drop (j + 1)) else 1 := by
  rw [drop_at h1, drop_at h2, pf]
theorem two_le {k : Nat} (h : k ≤ 20) : (1 : Int) ≤ 2 ^ k ∧ (2 : Int) ^ k ≤ 1048576 := by
  have key : ∀ k : Nat, k < 21 → (1 : Int) ≤ 2 ^ k ∧ (2 : Int) ^ k ≤ 1048576 := by decide +kernel
  exact key k (by omega)

/-- What is told of numbers and widths. -/
def PutPost (l ws : List Int) (w : World) (e : Ending) (w' : World) : Prop :=
  ((putF l ws ≠ 0 ∧ e = .returned (.tuple #[.slice none 0 0, .int .i64 (putF l ws)])) ∨ (putF l ws = 0 ∧ ∃ v, e = .returned (.tuple #[v, .int .i64 0]) ∧ Has w' w.heap.size v (puts l ws))) ∧ Below w.heap.size w w'

set_option maxRecDepth 100000 in
set_option maxHeartbeats 8000000 in
theorem refPut (a : Option Addr) (cap : Nat) (l : List Int) (b : Option Addr) (capb : Nat) (ws : List Int) (w : World) (hr : Row w a l) (hs : Row w b ws) (zl : l.length ≤ 1048576) (zs : ws.length ≤ 9223372036854775807) :
    Calls Tryd.prog 15 #[.slice a l.length cap, .slice b ws.length capb] w fun e w' => PutPost l ws w e w' := by
  by_cases hlen : l.length = ws.length
  · have HP1 : Hid (pf l ws = 1 → ∀ w', Below w.heap.size w w' → PutPost l ws w (.returned (.tuple #[.slice none 0 0, .int .i64 1])) w') := hide (fun h w' hb => by
      have e : putF l ws = 1 := by unfold putF; rw [if_pos hlen, if_neg (by omega)]
      exact ⟨Or.inl (by rw [e]; exact ⟨by omega, rfl⟩), hb⟩)
    have HP4 : Hid (pf l ws = 0 → 400 < (puts l ws).length → ∀ w', Below w.heap.size w w' → PutPost l ws w (.returned (.tuple #[.slice none 0 0, .int .i64 4])) w') := hide (fun h h4 w' hb => by
      have e : putF l ws = 4 := by unfold putF; rw [if_pos hlen, if_pos h, if_pos h4]
      exact ⟨Or.inl (by rw [e]; exact ⟨by omega, rfl⟩), hb⟩)
    have HP0 : Hid (pf l ws = 0 → ¬ 400 < (puts l ws).length → ∀ v w', Has w' w.heap.size v (puts l ws) → Below w.heap.size w w' → PutPost l ws w (.returned (.tuple #[v, .int .i64 0])) w') := hide (fun h h4 v w' hv hb => by
      have e : putF l ws = 0 := by unfold putF; rw [if_pos hlen, if_pos h, if_neg h4]
      exact ⟨Or.inr ⟨e, v, rfl, hv⟩, hb⟩)
    have HF0 : Hid (pf (l.drop 0) (ws.drop 0) = pf l ws) := hide (by rw [List.drop_zero, List.drop_zero])
    have HL0 : Hid ((putUp l ws 0).length ≤ 20 * 0) := hide (by rw [putUp_zero]; exact Nat.le_refl _)
    have HAL : Hid (putUp l ws ws.length = puts l ws) := hide (putUp_all l ws)
    obtain ⟨P, hP⟩ : ∃ P, pf l ws = P := ⟨_, rfl⟩
    rw [hP] at HP1 HP4 HP0 HF0
    obtain ⟨N, hN⟩ : ∃ N, ws.length = N := ⟨_, rfl⟩
    have HN := hide hN
    have HNl : Hid (l.length = N) := hide (hlen.trans hN)
    rw [hN] at HAL
    rw [hlen, hN] at zl
    rw [hlen, hN]
    have hne : ((N : Int) == (N : Int)) = true := by simp
    clear hP hN hlen zs
    go_enter Tryd.func15, Tryd.ntmps15
    go_wp2
    go_loopw [6, 7] (fun v i wr => ∃ j : Nat, j ≤ N ∧ i = .int .i64 j ∧ Has wr w.heap.size v (putUp l ws j) ∧ Hid ((putUp l ws j).length ≤ 20 * j) ∧ Hid (pf (l.drop j) (ws.drop j) = P) ∧ Below w.heap.size w wr) (fun _ i _ => N - (intOf i).toNat)
    case atStart => exact ⟨0, Nat.zero_le _, rfl, Has.nil _ _, HL0, HF0, Below.refl _ _⟩
    case round =>
      obtain ⟨j, hj, rfl, hv, HLJ, HF, hB⟩ := hrel
      clear HL0 HF0
      by_cases hlt : j < N
      · have hlt1 : j < l.length := by rw [unhide HNl]; exact hlt
        have hlt2 : j < ws.length := by rw [unhide HN]; exact hlt
        have HF2 : Hid ((if Fit (at0 l j) (at0 ws j) then pf (l.drop (j + 1)) (ws.drop (j + 1)) else 1) = P) := hide (by rw [← pf_step hlt1 hlt2]; exact unhide HF)
        have HPU := hide (putUp_step l ws hlt2)
        obtain ⟨b1, off1, rfl, _, hc1⟩ := cell_at (hr.below hB) (by omega)
        obtain ⟨b2, off2, rfl, _, hc2⟩ := cell_at (hs.below hB) (by omega)
        have c1 := hc1 j hlt1
        have c2 := hc2 j hlt2
        obtain ⟨Y, hY⟩ : ∃ Y, at0 l j = Y := ⟨_, rfl⟩
        obtain ⟨X, hX⟩ : ∃ X, at0 ws j = X := ⟨_, rfl⟩
        rw [hY] at c1
        rw [hX] at c2
        rw [hX, hY] at HF2 HPU
        clear hY hX hc1 hc2 hlt1 hlt2 HF
        by_cases hx1 : X < 0
        · have dx : decide (X < 0) = true := by simpa using hx1
          have HP : Hid (P = 1) := hide (by rw [← unhide HF2, if_neg (fun h => by have := h.1; omega)])
          clear HF2 HPU
          go_wp2
          go_ret2
          exact unhide HP1 (unhide HP) _ hB
        · have dx : decide (X < 0) = false := by simpa using hx1
          by_cases hx2 : 20 < X
          · have dy : decide (20 < X) = true := by simpa using hx2
            have HP : Hid (P = 1) := hide (by rw [← unhide HF2, if_neg (fun h => by have := h.2.1; omega)])
            clear HF2 HPU
            go_wp2
            go_ret2
            exact unhide HP1 (unhide HP) _ hB
          · have dy : decide (20 < X) = false := by simpa using hx2
            by_cases hy1 : Y < 0
            · have dz : decide (Y < 0) = true := by simpa using hy1
              have HP : Hid (P = 1) := hide (by rw [← unhide HF2, if_neg (fun h => by have := h.2.2.1; omega)])
              clear HF2 HPU
              go_wp2
              go_ret2
              exact unhide HP1 (unhide HP) _ hB
            · have dz : decide (Y < 0) = false := by simpa using hy1
              obtain ⟨W, rfl⟩ : ∃ W : Nat, X = W := ⟨X.toNat, by omega⟩
              have hW20 : W ≤ 20 := by omega
              have HQ0 : Hid ((1 : Int) = 2 ^ 0) := hide rfl
              rename World => w5
              go_wp2
              go_loopw [8, 9] (fun p i wr => ∃ (k : Nat) (Q : Int), k ≤ W ∧ i = .int .i64 k ∧ p = .int .i64 Q ∧ Hid (Q = 2 ^ k) ∧ w5 = wr) (fun _ i _ => W - (intOf i).toNat)
              case atStart => exact ⟨0, 1, Nat.zero_le _, rfl, rfl, HQ0, rfl⟩
              case round =>
                obtain ⟨k, Q, hk, rfl, rfl, HQ, rfl⟩ := hrel
                clear HQ0
                obtain ⟨q1, q9⟩ := two_le (k := k) (by omega)
                rw [← unhide HQ] at q1 q9
                by_cases hkl : k < W
                · have HQ2 : Hid (2 * Q = 2 ^ (k + 1)) := hide (by rw [two_succ, ← unhide HQ])
                  have w1 : IntKind.i64.wrap (2 * Q) = 2 * Q := IntWalk.i64_in _ (by omega)
                  clear HQ
                  go_wp2
                  go_roundw
                  case rel => exact ⟨k + 1, 2 * Q, by omega, by go_num, by first | rfl | go_num, HQ2, by first | trivial | rfl⟩
                  case measure => simp [intOf]; omega
                · obtain rfl : k = W := by omega
                  by_cases hy2 : Q ≤ Y
                  · have dq : decide (Q ≤ Y) = true := by simpa using hy2
                    have HP : Hid (P = 1) := hide (by
                      rw [← unhide HF2, if_neg (fun h => by
                        have := h.2.2.2
                        rw [Int.toNat_natCast, ← unhide HQ] at this
                        omega)])
                    clear HF2 HPU HQ
                    go_wp2
                    go_ret2
                    exact unhide HP1 (unhide HP) _ hB
                  · have dq : decide (Q ≤ Y) = false := by simpa using hy2
                    have HF3 : Hid (pf (l.drop (j + 1)) (ws.drop (j + 1)) = P) := hide (by
                      rw [← unhide HF2, if_pos ⟨by omega, by omega, by omega, by rw [Int.toNat_natCast, ← unhide HQ]; omega⟩])
                    have HO0 : Hid (putUp l ws j ++ bin k Y = putUp l ws (j + 1)) := hide (by rw [unhide HPU, Int.toNat_natCast])
                    have HLJ2 : Hid ((putUp l ws (j + 1)).length ≤ 20 * (j + 1)) := hide (by
                      rw [← unhide HO0, List.length_append, bin_length]
                      have := unhide HLJ
                      omega)
                    have hy9 : Y < Q := by omega
                    have hy0 : 0 ≤ Y := by omega
                    clear HF2 HPU HLJ hy2 hy1 hx1 hx2
                    go_wp2
                    go_loopw [6, 8, 10] (fun v p n wr => ∃ (m : Nat) (Q Z : Int) (O : List Int), m ≤ k ∧ p = .int .i64 Q ∧ n = .int .i64 Z ∧ Hid (Q = 2 ^ m) ∧ 0 ≤ Z ∧ Z < Q ∧ Has wr w.heap.size v O ∧ Hid (O ++ bin m Z = putUp l ws (j + 1)) ∧ Below w.heap.size w wr) (fun _ p _ _ => (intOf p).toNat)
                    case atStart => exact ⟨k, Q, Y, _, Nat.le_refl _, rfl, rfl, HQ, hy0, hy9, hv, HO0, hB⟩
                    case round =>
                      clear q1 q9 HQ hy9 hy0 hv HO0 hB c1 c2
                      obtain ⟨m, Q, Z, O, hm, rfl, rfl, HQ, z0, z9, hv, HO, hB⟩ := hrel
                      obtain ⟨q1, q9⟩ := two_le (k := m) (by omega)
                      rw [← unhide HQ] at q1 q9
                      cases m with
                      | zero =>
                        obtain rfl : Q = 1 := unhide HQ
                        have hv2 : Has wr w.heap.size u6 (putUp l ws (j + 1)) := by
                          rw [← unhide HO, bin, List.append_nil]
                          exact hv
                        clear HO hv HQ
                        go_wp2
                        go_roundw
                        case rel => exact ⟨j + 1, by omega, by go_num, hv2, HLJ2, HF3, hB⟩
                        case measure => simp [intOf]; omega
                      | succ m =>
                        obtain ⟨G, hG⟩ : ∃ G : Int, 2 ^ m = G := ⟨_, rfl⟩
                        have hQG : Q = 2 * G := by rw [unhide HQ, two_succ, hG]
                        have HO2 : Hid ((O ++ [Z / G]) ++ bin m (Z % G) = putUp l ws (j + 1)) := hide (by rw [← unhide HO, bin, hG]; simp)
                        have g1 : 1 ≤ G := by rw [← hG]; exact (two_le (by omega)).1
                        have t1 : Int.tdiv Q 2 = G := by rw [Int.tdiv_eq_ediv_of_nonneg (by omega)]; omega
                        have t2 : Int.tdiv Z G = Z / G := Int.tdiv_eq_ediv_of_nonneg z0
                        have t3 : Int.tmod Z G = Z % G := Int.tmod_eq_emod_of_nonneg z0
                        have hd : decide (1 < Q) = true := by simp; omega
                        have hg0 : (G == 0) = false := by rw [beq_eq_false_iff_ne]; omega
                        have m0 : 0 ≤ Z % G := Int.emod_nonneg _ (by omega)
                        have m9 : Z % G < G := Int.emod_lt_of_pos _ (by omega)
                        have d0 : 0 ≤ Z / G := Int.ediv_nonneg z0 (by omega)
                        have d9 : Z / G ≤ 1 := by
                          have : Z / G < 2 := (Int.ediv_lt_iff_lt_mul (by omega)).2 (by omega)
                          omega
                        have hln : Hid (O.length + 1 ≤ 17592186044416) := hide (by
                          have e := congrArg List.length (unhide HO)
                          rw [List.length_append] at e
                          have := unhide HLJ2
                          omega)
                        have HQ2 : Hid (G = 2 ^ m) := hide hG.symm
                        obtain ⟨D, hD⟩ : ∃ D, Z / G = D := ⟨_, rfl⟩
                        obtain ⟨M, hM⟩ : ∃ M, Z % G = M := ⟨_, rfl⟩
                        rw [hD] at HO2 t2 d0 d9
                        rw [hM] at HO2 t3 m0 m9
                        have hWs := hB.size
                        clear hG hD hM HO HQ
                        go_wp2_with (at_builtin; refine wpList_appL _ rfl _ _ rfl w.heap.size u6 O [D] _ _ rfl (hv.alloc _) rfl (row_one _ _ _) (unhide hln) (by simp; omega) ?_; intro s' w6 k6 g6 at6)
                        obtain ⟨d1, d2⟩ := stepped_plain hv hWs k6 g6 at6
                        have hB6 := hB.trans d1
                        clear hv hB d1 d2 g6 at6
                        go_wp2
                        go_roundw
                        case rel => exact ⟨m, G, M, _, by omega, by first | rfl | go_num, by first | rfl | go_num, HQ2, m0, m9, k6, HO2, hB6⟩
                        case measure => simp [intOf]; omega
      · obtain rfl : j = N := by omega
        obtain rfl : P = 0 := by
          rw [← unhide HF]
          have e1 : l.drop j = [] := by rw [← unhide HNl, List.drop_length]
          rw [e1]
          cases ws.drop j <;> rfl
        rw [unhide HAL] at hv
        obtain ⟨p9, q9, rfl, r9⟩ := hv.row
        obtain ⟨K, hK⟩ : ∃ K, (puts l ws).length = K := ⟨_, rfl⟩
        rw [hK] at hv HP4 HP0 ⊢
        have hK9 : K ≤ 20 * 1048576 := by
          have := unhide HLJ
          rw [unhide HAL, hK] at this
          omega
        clear HF HLJ r9
        by_cases h4 : 400 < K
        · go_wp2
          go_ret2
          exact unhide HP4 (by first | trivial | rfl) h4 _ hB
        · go_wp2
          go_ret2
          exact unhide HP0 (by first | trivial | rfl) h4 _ _ hv hB
  · have e : putF l ws = 3 := by unfold putF; rw [if_neg hlen]
    have HP : Hid (∀ w', Below w.heap.size w w' → PutPost l ws w (.returned (.tuple #[.slice none 0 0, .int .i64 3])) w') := hide (fun w' hb => ⟨Or.inl (by rw [e]; exact ⟨by omega, rfl⟩), hb⟩)
    obtain ⟨N, hN⟩ : ∃ N, ws.length = N := ⟨_, rfl⟩
    obtain ⟨M, hM⟩ : ∃ M, l.length = M := ⟨_, rfl⟩
    rw [hN, hM] at hlen
    rw [hN, hM]
    have hne : ((M : Int) == (N : Int)) = false := by rw [beq_eq_false_iff_ne]; omega
    have hne2 : (M == N) = false := by rw [beq_eq_false_iff_ne]; omega
    clear hN hM e
    go_enter Tryd.func15, Tryd.ntmps15
    go_wp2
    go_ret2
    exact unhide HP _ (Below.refl _ _)

end Go.Proofs.YtpinmcgaaplkiagDoor.Wid
