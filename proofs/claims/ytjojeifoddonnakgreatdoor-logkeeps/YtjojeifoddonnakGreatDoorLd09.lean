/-
  Words for the contracts of chapter 10: cells of a row, sums that no integer is too small for, the fault of counts.
-/
import Derived.Test.YtjojeifoddonnakGreatDoorLd00
import Derived.Test.YtjojeifoddonnakGreatDoorLd08
import Derived.Deep.QuietTactic
import Derived.BigQuiet
import Derived.Test.YtjojeifoddonnakGreatDoorLd05
import Derived.Test.YtjojeifoddonnakGreatDoorLd01
namespace Go.Proofs.YtjojeifoddonnakGreatDoor.Scl
open Go.RowKit
open Go.Proofs.YtjojeifoddonnakGreatDoor.Tre
set_option linter.unusedVariables false

theorem cell_at {w : World} {a : Option Addr} {l : List Int} (h : Row w a l) (h0 : 0 < l.length) : ∃ b off, a = some ⟨b, off, none⟩ ∧ b < w.heap.size ∧ ∀ j, j < l.length → w.cell? ⟨b, off + j, none⟩ = some (.int .i64 (at0 l j)) := by
  obtain ⟨b, off, e, hb, hc⟩ := h.at h0
  exact ⟨b, off, e, hb, fun j hj => (hc j hj).trans (by rw [List.getD_eq_getElem?_getD]; rfl)⟩

/-- Sums of the first ones that no integer is too small for. -/
def Small (l : List Int) : Prop := ∀ j, j ≤ l.length → -1000000000 ≤ pfx l j ∧ pfx l j ≤ 1000000000
theorem small_of {l : List Int} (h : ∀ i, i < l.length → 0 ≤ at0 l i ∧ at0 l i ≤ 1000000) (h40 : l.length ≤ 40) : Small l := fun j hj => by
  have h1 := pfx_nonneg (l := l) (fun i hi => (h i hi).1) hj
  have h2 := pfx_le (l := l) (b := 1000000) (fun i hi => (h i hi).2) hj
  omega

theorem cf_bad {c : List Int} {j : Nat} (h0 : c.length ≠ 0) (h40 : ¬ 40 < c.length) (hj : j < c.length) (hb : at0 c j < 0 ∨ 1000000 < at0 c j) : cf c = 1 := by
  have e : at0 c j = c[j] := by simp [at0, hj]
  have h : c.any wrong = true := List.any_eq_true.2 ⟨c[j], List.getElem_mem hj, by rw [e] at hb; simp [wrong]; omega⟩
  simp [cf, h0, h40, h]
theorem cf_sum {c : List Int} (h0 : c.length ≠ 0) (h40 : ¬ 40 < c.length) (h : ∀ i, i < c.length → 0 ≤ at0 c i ∧ at0 c i ≤ 1000000) : cf c = if tot c = 0 then 5 else 0 := by
  have hany : c.any wrong = false := by
    apply List.any_eq_false.2
    intro n hn
    obtain ⟨i, hi, rfl⟩ := List.getElem_of_mem hn
    have := h i hi
    have e : at0 c i = c[i] := by simp [at0, hi]
    rw [e] at this
    simp [wrong]; omega
  simp [cf, h0, h40, hany]

end Go.Proofs.YtjojeifoddonnakGreatDoor.Scl

/-
  hornref2.Number: by its contract.
-/
namespace Go.Proofs.YtjojeifoddonnakGreatDoor.Wid
open Go.RowKit
open Go.Proofs.YtjojeifoddonnakGreatDoor.Tre Go.Proofs.YtjojeifoddonnakGreatDoor.Scl Go.Proofs.YtjojeifoddonnakGreatDoor.Bnd
set_option linter.unusedVariables false

theorem any_drop {p : Int → Bool} {l : List Int} {k : Nat} (h : k < l.length) : (l.drop k).any p = (p (at0 l k) || (l.drop (k + 1)).any p) := by
  rw [List.drop_eq_getElem_cons h, List.any_cons]
  have e : at0 l k = l[k] := by simp [at0, h]
  rw [e]

theorem num_take {l : List Int} {k : Nat} (h : k < l.length) : num 0 (l.take (k + 1)) = 2 * num 0 (l.take k) + at0 l k := by
  have e : at0 l k = l[k] := by simp [at0, h]
  rw [List.take_succ_eq_append_getElem h, num_append, e]
  rfl
theorem num_small {l : List Int} (h : Bit l) (h20 : l.length ≤ 20) (k : Nat) : 0 ≤ num 0 (l.take k) ∧ num 0 (l.take k) ≤ 1048576 := by
  have h1 := num_in (bit_take h k)
  have h2 : (2 : Int) ^ (l.take k).length ≤ 2 ^ 20 := by
    have hle : (l.take k).length ≤ 20 := by rw [List.length_take]; omega
    exact_mod_cast Nat.pow_le_pow_right (by omega : 0 < 2) hle
  exact ⟨h1.1, by omega⟩

set_option maxRecDepth 100000 in
set_option maxHeartbeats 4000000 in
theorem refNumber (a : Option Addr) (cap : Nat) (l : List Int) (w : World) (hr : Row w a l) (h20 : l.length ≤ 20) (hb : Hid (Bit l)) :
    Calls Tryz.prog 25 #[.slice a l.length cap] w fun e w' => e = .returned (.int .i64 (num 0 l)) ∧ w' = w := by
  have HS := hide (num_small (unhide hb) h20)
  obtain ⟨N, hN⟩ : ∃ N, l.length = N := ⟨_, rfl⟩
  have HN := hide hN
  have HA : Hid (num 0 (l.take N) = num 0 l) := hide (by rw [← hN, List.take_length])
  obtain ⟨R, hR⟩ : ∃ R, num 0 l = R := ⟨_, rfl⟩
  rw [hR] at HA
  rw [hN] at h20
  rw [hN, hR]
  clear hN hR
  go_enter Tryz.func25, Tryz.ntmps25
  go_wp2
  go_loopw [3, 4] (fun n i wr => ∃ (k : Nat) (X : Int), k ≤ N ∧ i = .int .i64 k ∧ n = .int .i64 X ∧ Hid (num 0 (l.take k) = X) ∧ w = wr) (fun _ i _ => N - (intOf i).toNat)
  case atStart => exact ⟨0, 0, Nat.zero_le _, rfl, rfl, rfl, rfl⟩
  case round =>
    obtain ⟨k, X, hk, rfl, rfl, HX, rfl⟩ := hrel
    by_cases hkl : k < N
    · have hkl' : k < l.length := by rw [unhide HN]; exact hkl
      obtain ⟨b2, off2, rfl, _, hc2⟩ := Scl.cell_at hr (by omega)
      have e1 := hc2 k hkl'
      have hs := unhide HS k
      have hbt := bit_at (unhide hb) k
      have HX2 : Hid (num 0 (l.take (k + 1)) = 2 * X + at0 l k) := hide (by rw [num_take hkl', unhide HX])
      rw [unhide HX] at hs
      obtain ⟨B, hB⟩ : ∃ B, at0 l k = B := ⟨_, rfl⟩
      rw [hB] at e1 hbt HX2
      have w1 : IntKind.i64.wrap (2 * X) = 2 * X := IntWalk.i64_in _ (by omega)
      have w2 : IntKind.i64.wrap (2 * X + B) = 2 * X + B := IntWalk.i64_in _ (by omega)
      clear hB hc2 hkl' HX hbt hs
      go_wp2
      go_roundw
      case rel => exact ⟨k + 1, 2 * X + B, by omega, by go_num, by first | rfl | go_num, HX2, by first | trivial | rfl⟩
      case measure => simp [intOf]; omega
    · obtain rfl : k = N := by omega
      obtain rfl : X = R := (unhide HX).symm.trans (unhide HA)
      go_wp2
      go_ret
      exact ⟨rfl, rfl⟩

end Go.Proofs.YtjojeifoddonnakGreatDoor.Wid

/-
  hornref2.Put: by its contract.
-/
namespace Go.Proofs.YtjojeifoddonnakGreatDoor.Wid
open Go.RowKit
open Go.Proofs.YtjojeifoddonnakGreatDoor.Tre Go.Proofs.YtjojeifoddonnakGreatDoor.Scl Go.Proofs.YtjojeifoddonnakGreatDoor.Bnd
set_option linter.unusedVariables false

theorem drop_at {l : List Int} {k : Nat} (h : k < l.length) : l.drop k = at0 l k :: l.drop (k + 1) := by
  rw [List.drop_eq_getElem_cons h]
  simp [at0, h]
theorem pf_step {l ws : List Int} {j : Nat} (h1 : j < l.length) (h2 : j < ws.length) : pf (l.drop j) (ws.drop j) = if Fit (at0 l j) (at0 ws j) then pf (l.drop (j + 1)) (ws.drop (j + 1)) else 1 := by
  rw [drop_at h1, drop_at h2, pf]
theorem two_le {k : Nat} (h : k ≤ 20) : (1 : Int) ≤ 2 ^ k ∧ (2 : Int) ^ k ≤ 1048576 := by
  have key : ∀ k : Nat, k < 21 → (1 : Int) ≤ 2 ^ k ∧ (2 : Int) ^ k ≤ 1048576 := by decide +kernel
  exact key k (by omega)

/-- What is told of numbers and widths. -/
def PutPost (l ws : List Int) (w : World) (e : Ending) (w' : World) : Prop :=
  ((putF l ws ≠ 0 ∧ e = .returned (.tuple #[.slice none 0 0, .int .i64 (putF l ws)])) ∨ (putF l ws = 0 ∧ ∃ v, e = .returned (.tuple #[v, .int .i64 0]) ∧ Has w' w.heap.size v (puts l ws))) ∧ Below w.heap.size w w'

set_option maxRecDepth 100000 in
set_option maxHeartbeats 8000000 in
theorem refPut (a : Option Addr) (cap : Nat) (l : List Int) (b : Option Addr) (capb : Nat) (ws : List Int) (w : World) (hr : Row w a l) (hs : Row w b ws) (zl : l.length ≤ 1048576) (zs : ws.length ≤ 9223372036854775807) :
    Calls Tryz.prog 42 #[.slice a l.length cap, .slice b ws.length capb] w fun e w' => PutPost l ws w e w' := by
  by_cases hlen : l.length = ws.length
  · have HP1 : Hid (pf l ws = 1 → ∀ w', Below w.heap.size w w' → PutPost l ws w (.returned (.tuple #[.slice none 0 0, .int .i64 1])) w') := hide (fun h w' hb => by
      have e : putF l ws = 1 := by unfold putF; rw [if_pos hlen, if_neg (by omega)]
      exact ⟨Or.inl (by rw [e]; exact ⟨by omega, rfl⟩), hb⟩)
    have HP4 : Hid (pf l ws = 0 → 400 < (puts l ws).length → ∀ w', Below w.heap.size w w' → PutPost l ws w (.returned (.tuple #[.slice none 0 0, .int .i64 4])) w') := hide (fun h h4 w' hb => by
      have e : putF l ws = 4 := by unfold putF; rw [if_pos hlen, if_pos h, if_pos h4]
      exact ⟨Or.inl (by rw [e]; exact ⟨by omega, rfl⟩), hb⟩)
    have HP0 : Hid (pf l ws = 0 → ¬ 400 < (puts l ws).length → ∀ v w', Has w' w.heap.size v (puts l ws) → Below w.heap.size w w' → PutPost l ws w (.returned (.tuple #[v, .int .i64 0])) w') := hide (fun h h4 v w' hv hb => by
      have e : putF l ws = 0 := by unfold putF; rw [if_pos hlen, if_pos h, if_neg h4]
      exact ⟨Or.inr ⟨e, v, rfl, hv⟩, hb⟩)
    have HF0 : Hid (pf (l.drop 0) (ws.drop 0) = pf l ws) := hide (by rw [List.drop_zero, List.drop_zero])
    have HL0 : Hid ((putUp l ws 0).length ≤ 20 * 0) := hide (by rw [putUp_zero]; exact Nat.le_refl _)
    have HAL : Hid (putUp l ws ws.length = puts l ws) := hide (putUp_all l ws)
    obtain ⟨P, hP⟩ : ∃ P, pf l ws = P := ⟨_, rfl⟩
    rw [hP] at HP1 HP4 HP0 HF0
    obtain ⟨N, hN⟩ : ∃ N, ws.length = N := ⟨_, rfl⟩
    have HN := hide hN
    have HNl : Hid (l.length = N) := hide (hlen.trans hN)
    rw [hN] at HAL
    rw [hlen, hN] at zl
    rw [hlen, hN]
    have hne : ((N : Int) == (N : Int)) = true := by simp
    clear hP hN hlen zs
    go_enter Tryz.func42, Tryz.ntmps42
    go_wp2
    go_loopw [6, 7] (fun v i wr => ∃ j : Nat, j ≤ N ∧ i = .int .i64 j ∧ Has wr w.heap.size v (putUp l ws j) ∧ Hid ((putUp l ws j).length ≤ 20 * j) ∧ Hid (pf (l.drop j) (ws.drop j) = P) ∧ Below w.heap.size w wr) (fun _ i _ => N - (intOf i).toNat)
    case atStart => exact ⟨0, Nat.zero_le _, rfl, Has.nil _ _, HL0, HF0, Below.refl _ _⟩
    case round =>
      obtain ⟨j, hj, rfl, hv, HLJ, HF, hB⟩ := hrel
      clear HL0 HF0
      by_cases hlt : j < N
      · have hlt1 : j < l.length := by rw [unhide HNl]; exact hlt
        have hlt2 : j < ws.length := by rw [unhide HN]; exact hlt
        have HF2 : Hid ((if Fit (at0 l j) (at0 ws j) then pf (l.drop (j + 1)) (ws.drop (j + 1)) else 1) = P) := hide (by rw [← pf_step hlt1 hlt2]; exact unhide HF)
        have HPU := hide (putUp_step l ws hlt2)
        obtain ⟨b1, off1, rfl, _, hc1⟩ := Scl.cell_at (hr.below hB) (by omega)
        obtain ⟨b2, off2, rfl, _, hc2⟩ := Scl.cell_at (hs.below hB) (by omega)
        have c1 := hc1 j hlt1
        have c2 := hc2 j hlt2
        obtain ⟨Y, hY⟩ : ∃ Y, at0 l j = Y := ⟨_, rfl⟩
        obtain ⟨X, hX⟩ : ∃ X, at0 ws j = X := ⟨_, rfl⟩
        rw [hY] at c1
        rw [hX] at c2
        rw [hX, hY] at HF2 HPU
        clear hY hX hc1 hc2 hlt1 hlt2 HF
        by_cases hx1 : X < 0
        · have dx : decide (X < 0) = true := by simpa using hx1
          have HP : Hid (P = 1) := hide (by rw [← unhide HF2, if_neg (fun h => by have := h.1; omega)])
          clear HF2 HPU
          go_wp2
          go_ret2
          exact unhide HP1 (unhide HP) _ hB
        · have dx : decide (X < 0) = false := by simpa using hx1
          by_cases hx2 : 20 < X
          · have dy : decide (20 < X) = true := by simpa using hx2
            have HP : Hid (P = 1) := hide (by rw [← unhide HF2, if_neg (fun h => by have := h.2.1; omega)])
            clear HF2 HPU
            go_wp2
            go_ret2
            exact unhide HP1 (unhide HP) _ hB
          · have dy : decide (20 < X) = false := by simpa using hx2
            by_cases hy1 : Y < 0
            · have dz : decide (Y < 0) = true := by simpa using hy1
              have HP : Hid (P = 1) := hide (by rw [← unhide HF2, if_neg (fun h => by have := h.2.2.1; omega)])
              clear HF2 HPU
              go_wp2
              go_ret2
              exact unhide HP1 (unhide HP) _ hB
            · have dz : decide (Y < 0) = false := by simpa using hy1
              obtain ⟨W, rfl⟩ : ∃ W : Nat, X = W := ⟨X.toNat, by omega⟩
              have hW20 : W ≤ 20 := by omega
              have HQ0 : Hid ((1 : Int) = 2 ^ 0) := hide rfl
              rename World => w5
              go_wp2
              go_loopw [8, 9] (fun p i wr => ∃ (k : Nat) (Q : Int), k ≤ W ∧ i = .int .i64 k ∧ p = .int .i64 Q ∧ Hid (Q = 2 ^ k) ∧ w5 = wr) (fun _ i _ => W - (intOf i).toNat)
              case atStart => exact ⟨0, 1, Nat.zero_le _, rfl, rfl, HQ0, rfl⟩
              case round =>
                obtain ⟨k, Q, hk, rfl, rfl, HQ, rfl⟩ := hrel
                clear HQ0
                obtain ⟨q1, q9⟩ := two_le (k := k) (by omega)
                rw [← unhide HQ] at q1 q9
                by_cases hkl : k < W
                · have HQ2 : Hid (2 * Q = 2 ^ (k + 1)) := hide (by rw [two_succ, ← unhide HQ])
                  have w1 : IntKind.i64.wrap (2 * Q) = 2 * Q := IntWalk.i64_in _ (by omega)
                  clear HQ
                  go_wp2
                  go_roundw
                  case rel => exact ⟨k + 1, 2 * Q, by omega, by go_num, by first | rfl | go_num, HQ2, by first | trivial | rfl⟩
                  case measure => simp [intOf]; omega
                · obtain rfl : k = W := by omega
                  by_cases hy2 : Q ≤ Y
                  · have dq : decide (Q ≤ Y) = true := by simpa using hy2
                    have HP : Hid (P = 1) := hide (by
                      rw [← unhide HF2, if_neg (fun h => by
                        have := h.2.2.2
                        rw [Int.toNat_natCast, ← unhide HQ] at this
                        omega)])
                    clear HF2 HPU HQ
                    go_wp2
                    go_ret2
                    exact unhide HP1 (unhide HP) _ hB
                  · have dq : decide (Q ≤ Y) = false := by simpa using hy2
                    have HF3 : Hid (pf (l.drop (j + 1)) (ws.drop (j + 1)) = P) := hide (by
                      rw [← unhide HF2, if_pos ⟨by omega, by omega, by omega, by rw [Int.toNat_natCast, ← unhide HQ]; omega⟩])
                    have HO0 : Hid (putUp l ws j ++ bin k Y = putUp l ws (j + 1)) := hide (by rw [unhide HPU, Int.toNat_natCast])
                    have HLJ2 : Hid ((putUp l ws (j + 1)).length ≤ 20 * (j + 1)) := hide (by
                      rw [← unhide HO0, List.length_append, bin_length]
                      have := unhide HLJ
                      omega)
                    have hy9 : Y < Q := by omega
                    have hy0 : 0 ≤ Y := by omega
                    clear HF2 HPU HLJ hy2 hy1 hx1 hx2
                    go_wp2
                    go_loopw [6, 8, 10] (fun v p n wr => ∃ (m : Nat) (Q Z : Int) (O : List Int), m ≤ k ∧ p = .int .i64 Q ∧ n = .int .i64 Z ∧ Hid (Q = 2 ^ m) ∧ 0 ≤ Z ∧ Z < Q ∧ Has wr w.heap.size v O ∧ Hid (O ++ bin m Z = putUp l ws (j + 1)) ∧ Below w.heap.size w wr) (fun _ p _ _ => (intOf p).toNat)
                    case atStart => exact ⟨k, Q, Y, _, Nat.le_refl _, rfl, rfl, HQ, hy0, hy9, hv, HO0, hB⟩
                    case round =>
                      clear q1 q9 HQ hy9 hy0 hv HO0 hB c1 c2
                      obtain ⟨m, Q, Z, O, hm, rfl, rfl, HQ, z0, z9, hv, HO, hB⟩ := hrel
                      obtain ⟨q1, q9⟩ := two_le (k := m) (by omega)
                      rw [← unhide HQ] at q1 q9
                      cases m with
                      | zero =>
                        obtain rfl : Q = 1 := unhide HQ
                        have hv2 : Has wr w.heap.size u6 (putUp l ws (j + 1)) := by
                          rw [← unhide HO, bin, List.append_nil]
                          exact hv
                        clear HO hv HQ
                        go_wp2
                        go_roundw
                        case rel => exact ⟨j + 1, by omega, by go_num, hv2, HLJ2, HF3, hB⟩
                        case measure => simp [intOf]; omega
                      | succ m =>
                        obtain ⟨G, hG⟩ : ∃ G : Int, 2 ^ m = G := ⟨_, rfl⟩
                        have hQG : Q = 2 * G := by rw [unhide HQ, two_succ, hG]
                        have HO2 : Hid ((O ++ [Z / G]) ++ bin m (Z % G) = putUp l ws (j + 1)) := hide (by rw [← unhide HO, bin, hG]; simp)
                        have g1 : 1 ≤ G := by rw [← hG]; exact (two_le (by omega)).1
                        have t1 : Int.tdiv Q 2 = G := by rw [Int.tdiv_eq_ediv_of_nonneg (by omega)]; omega
                        have t2 : Int.tdiv Z G = Z / G := Int.tdiv_eq_ediv_of_nonneg z0
                        have t3 : Int.tmod Z G = Z % G := Int.tmod_eq_emod_of_nonneg z0
                        have hd : decide (1 < Q) = true := by simp; omega
                        have hg0 : (G == 0) = false := by rw [beq_eq_false_iff_ne]; omega
                        have m0 : 0 ≤ Z % G := Int.emod_nonneg _ (by omega)
                        have m9 : Z % G < G := Int.emod_lt_of_pos _ (by omega)
                        have d0 : 0 ≤ Z / G := Int.ediv_nonneg z0 (by omega)
                        have d9 : Z / G ≤ 1 := by
                          have : Z / G < 2 := (Int.ediv_lt_iff_lt_mul (by omega)).2 (by omega)
                          omega
                        have hln : Hid (O.length + 1 ≤ 17592186044416) := hide (by
                          have e := congrArg List.length (unhide HO)
                          rw [List.length_append] at e
                          have := unhide HLJ2
                          omega)
                        have HQ2 : Hid (G = 2 ^ m) := hide hG.symm
                        obtain ⟨D, hD⟩ : ∃ D, Z / G = D := ⟨_, rfl⟩
                        obtain ⟨M, hM⟩ : ∃ M, Z % G = M := ⟨_, rfl⟩
                        rw [hD] at HO2 t2 d0 d9
                        rw [hM] at HO2 t3 m0 m9
                        have hWs := hB.size
                        clear hG hD hM HO HQ
                        go_wp2_with (at_builtin; refine wpList_appL _ rfl _ _ rfl w.heap.size u6 O [D] _ _ rfl (hv.alloc _) rfl (row_one _ _ _) (unhide hln) (by simp; omega) ?_; intro s' w6 k6 g6 at6)
                        obtain ⟨d1, d2⟩ := stepped_plain hv hWs k6 g6 at6
                        have hB6 := hB.trans d1
                        clear hv hB d1 d2 g6 at6
                        go_wp2
                        go_roundw
                        case rel => exact ⟨m, G, M, _, by omega, by first | rfl | go_num, by first | rfl | go_num, HQ2, m0, m9, k6, HO2, hB6⟩
                        case measure => simp [intOf]; omega
      · obtain rfl : j = N := by omega
        obtain rfl : P = 0 := by
          rw [← unhide HF]
          have e1 : l.drop j = [] := by rw [← unhide HNl, List.drop_length]
          rw [e1]
          cases ws.drop j <;> rfl
        rw [unhide HAL] at hv
        obtain ⟨p9, q9, rfl, r9⟩ := hv.row
        obtain ⟨K, hK⟩ : ∃ K, (puts l ws).length = K := ⟨_, rfl⟩
        rw [hK] at hv HP4 HP0 ⊢
        have hK9 : K ≤ 20 * 1048576 := by
          have := unhide HLJ
          rw [unhide HAL, hK] at this
          omega
        clear HF HLJ r9
        by_cases h4 : 400 < K
        · go_wp2
          go_ret2
          exact unhide HP4 (by first | trivial | rfl) h4 _ hB
        · go_wp2
          go_ret2
          exact unhide HP0 (by first | trivial | rfl) h4 _ _ hv hB
  · have e : putF l ws = 3 := by unfold putF; rw [if_neg hlen]
    have HP : Hid (∀ w', Below w.heap.size w w' → PutPost l ws w (.returned (.tuple #[.slice none 0 0, .int .i64 3])) w') := hide (fun w' hb => ⟨Or.inl (by rw [e]; exact ⟨by omega, rfl⟩), hb⟩)
    obtain ⟨N, hN⟩ : ∃ N, ws.length = N := ⟨_, rfl⟩
    obtain ⟨M, hM⟩ : ∃ M, l.length = M := ⟨_, rfl⟩
    rw [hN, hM] at hlen
    rw [hN, hM]
    have hne : ((M : Int) == (N : Int)) = false := by rw [beq_eq_false_iff_ne]; omega
    have hne2 : (M == N) = false := by rw [beq_eq_false_iff_ne]; omega
    clear hN hM e
    go_enter Tryz.func42, Tryz.ntmps42
    go_wp2
    go_ret2
    exact unhide HP _ (Below.refl _ _)

end Go.Proofs.YtjojeifoddonnakGreatDoor.Wid

/-
  A slice of bytes that this call has made itself: what it holds, append of one byte, and one byte read or set.
-/
namespace Go.Proofs.YtjojeifoddonnakGreatDoor
open Go.RowKit
open Go.Proofs.YtjojeifoddonnakGreatDoor.Tre
set_option linter.unusedVariables false

theorem info_byte : (Tryz.prog.info? 5).map (fun i => (i.zero, i.size, i.bytes)) = some (some (.int .u8 0), 1, 1) := by kernel_rfl

/-- A slice of bytes of this call's own (its block at base or behind) holds l. -/
def HasY (w : World) (base : Nat) (v : Value) (l : List Int) : Prop := w.ownsRow base 5 1 v l.length (l.map (Value.int .u8))

theorem HasY.nil (w : World) (base : Nat) : HasY w base (.slice none 0 0) [] := World.ownsRow_nil _ _ _ _
theorem HasY.kept {w w' : World} {base : Nat} {v : Value} {l : List Int} {row : Option Nat} (h : HasY w base v l) (hg : w.grownBy w' row) (hne : v.ownBlock = none ∨ v.ownBlock ≠ row) : HasY w' base v l := World.ownsRow.kept h hg hne
theorem HasY.alloc {w : World} {base : Nat} {v : Value} {l : List Int} (h : HasY w base v l) (o : Obj) : HasY (w.alloc o) base v l := World.ownsRow.alloc h o
theorem HasY.below {w w' : World} {base : Nat} {v : Value} {l : List Int} (h : HasY w base v l) (hb : Below w.heap.size w w') : HasY w' base v l := by
  refine ⟨h.1, ?_⟩
  rcases h.2 with hn | ⟨g, cap, cur, rfl, hbg, hgg, rest⟩
  · exact .inl hn
  · exact .inr ⟨g, cap, cur, rfl, hbg, (hb.block g (Array.getElem?_eq_some_iff.1 hgg).1).trans hgg, rest⟩
theorem HasY.lt {w : World} {base : Nat} {v : Value} {l : List Int} (h : HasY w base v l) : ∀ k, v.ownBlock = some k → base ≤ k ∧ k < w.heap.size := World.ownsRow.lt h
theorem HasY.shape {w : World} {base : Nat} {v : Value} {l : List Int} (h : HasY w base v l) : ∃ a cap, v = .slice a l.length cap := by
  rcases h.2 with ⟨h1, h2⟩ | ⟨g, cap, cur, hv, _⟩
  · exact ⟨none, 0, by rw [h2]; exact h1⟩
  · exact ⟨some ⟨g, 0, none⟩, cap, hv⟩
theorem HasY.any {w : World} {base : Nat} {v : Value} {l : List Int} (h : HasY w base v l) : ∃ a n cap, v = .slice a n cap := by
  obtain ⟨a, cap, e⟩ := h.shape
  exact ⟨a, _, cap, e⟩
theorem HasY.one {w : World} {base : Nat} {v : Value} {l : List Int} (h : HasY w base v l) (h0 : 0 < l.length) : ∃ g c, v = .slice (some ⟨g, 0, none⟩) l.length c ∧ base ≤ g ∧ g < w.heap.size ∧ l.length ≤ c ∧ c ≤ 9223372036854775807 := by
  rcases h.2 with ⟨_, e⟩ | ⟨g, cap, cur, hv, hb, hg, hn, hm, _⟩
  · omega
  · exact ⟨g, cap, hv, hb, (Array.getElem?_eq_some_iff.1 hg).1, hn, by simpa [maxLen] using hm⟩
theorem HasY.len {w : World} {base g n c : Nat} {l : List Int} (h : HasY w base (.slice (some ⟨g, 0, none⟩) n c) l) : n = l.length := by
  obtain ⟨a, cap, e⟩ := h.shape
  exact (Value.slice.inj e).2.1
theorem HasY.get {w : World} {base g n c : Nat} {l : List Int} (h : HasY w base (.slice (some ⟨g, 0, none⟩) n c) l) {j : Nat} (hj : j < l.length) : w.cell? ⟨g, j, none⟩ = some (.int .u8 (at0 l j)) := by
  obtain rfl := h.len
  rw [World.ownsRow.cellAt h j (by omega)]
  simp [at0, hj]
theorem HasY.put {w : World} {base g n c : Nat} {l : List Int} (h : HasY w base (.slice (some ⟨g, 0, none⟩) n c) l) (j : Nat) (x : Int) :
    HasY (w.setCell ⟨g, j, none⟩ (.int .u8 x)) base (.slice (some ⟨g, 0, none⟩) n c) (l.set j x) ∧ w.grownBy (w.setCell ⟨g, j, none⟩ (.int .u8 x)) (some g) := by
  obtain rfl := h.len
  have := World.ownsRow.stored h j (.int .u8 x)
  rw [← List.map_set] at this
  refine ⟨?_, this.2⟩
  unfold HasY
  rw [List.length_set]
  exact this.1
theorem HasY.frozen {w : World} {base g n c : Nat} {l : List Int} (h : HasY w base (.slice (some ⟨g, 0, none⟩) n c) l) (j : Nat) : w.frozen? ⟨g, j, none⟩ = false := by
  obtain rfl := h.len
  exact World.ownsRow.frozenAt h j

theorem cell_byte (w : World) (x : Int) (t : TypeId) : (w.alloc (.cells #[.int .u8 x] t)).cell? ⟨w.heap.size, 0, none⟩ = some (.int .u8 x) := by rw [World.cell?_alloc_at _ _ _ _ rfl]; rfl
theorem cell_byte' {w : World} {x : Int} {t : TypeId} {n : Nat} (h : w.heap.size = n) : (w.alloc (.cells #[.int .u8 x] t)).cell? ⟨n, 0, none⟩ = some (.int .u8 x) := by subst h; exact cell_byte w x t

/-- append of one byte. -/
theorem run_appy (w : World) (base : Nat) (v : Value) (l : List Int) (x : Int) (ty : TypeId) (hv : HasY w base v l) (b : Nat) (cap : Nat) (hr : w.cell? ⟨b, 0, none⟩ = some (.int .u8 x)) (hlen : l.length + 1 ≤ 1000000) (hbase : base ≤ w.heap.size) :
    ∃ v' w', (Builtin.append_ #[45, 45] ty #[v, .slice (some ⟨b, 0, none⟩) 1 cap]).run Tryz.prog w = .ok v' w' ∧ HasY w' base v' (l ++ [x]) ∧ w.grownBy w' v.ownBlock ∧ (v'.ownBlock = v.ownBlock ∨ v'.ownBlock = some w.heap.size) := by
  obtain ⟨i, hi, hz0, hz1, hz2⟩ := info_parts info_byte
  have hc : ∀ (j : Nat) (u : Value), ([x].map (Value.int .u8))[j]? = some u → w.cell? ((⟨b, 0, none⟩ : Addr).add j) = some u := by
    intro j u hu
    cases j with
    | zero => simp at hu; rw [addr_plain, Nat.add_zero, hr, hu]
    | succ j => simp at hu
  obtain ⟨v', w', h1, h2, h3, h4, h5⟩ := run_append_own_at (P := Tryz.prog) w base 45 ty 5 i (.int .u8 0) 1 1 Tryz.underlying45 hi hz0 hz1 hz2 rfl (by omega) v l.length (l.map (Value.int .u8)) hv ⟨b, 0, none⟩ 1 cap ([x].map (Value.int .u8)) (by simp) hc
    (by intro u hu; obtain ⟨z, _, rfl⟩ := List.mem_map.1 hu; rfl) (by simp only [maxLen]; omega) (by omega) hbase
  refine ⟨v', w', h1, ?_, h3, h5⟩
  unfold HasY
  rw [List.length_append, List.map_append]
  exact h2

theorem wpListIn_appy {F : Fence} {n : Nat} {ops : Array Oper} {rest : List Oper} {o : Oper} {a : Act} {Q : Exit → Act → World → Prop} (w : World) (hgd : o.guard = none) (s x : Operand)
    (ho : o.op = .call { callee := .builtin .append, args := #[s, x], argTypes := #[45, 45] }) (base : Nat) (v : Value) (l : List Int) (c : Int) (b cap : Nat) (hs : a.eval s = v) (hv : HasY w base v l)
    (hx : a.eval x = .slice (some ⟨b, 0, none⟩) 1 cap) (hr : w.cell? ⟨b, 0, none⟩ = some (.int .u8 c)) (hlen : l.length + 1 ≤ 1000000) (hbase : base ≤ w.heap.size)
    (h : ∀ v' w', HasY w' base v' (l ++ [c]) → w.grownBy w' v.ownBlock → (v'.ownBlock = v.ownBlock ∨ v'.ownBlock = some w.heap.size) → wpListIn F n Tryz.prog ops Q rest (a.put o.dst v') w') :
    wpListIn F n Tryz.prog ops Q (o :: rest) a w := by
  refine wpListIn_plain hgd fun K hK => ?_
  obtain ⟨v', w', hrun, h2, h3, h4⟩ := run_appy w base v l c o.type hv b cap hr hlen hbase
  unfold Oper.wpIn
  refine ⟨?_, ?_⟩
  · simp [Oper.about, ho, resolve, Target.leads, Sem.run_pure]
  · rw [Oper.semAt_plain F _ _ (by rw [ho]; intro c hc'; cases hc')]
    simp [execOp, ho, resolve, invoke, builtin, hs, hx, hrun, Result.andThen]
    exact hK _ _ (h v' w' h2 h3 h4)

end Go.Proofs.YtjojeifoddonnakGreatDoor

/-
  share.outside, share.check: by their contracts.
-/
namespace Go.Proofs.YtjojeifoddonnakGreatDoor.Shr
open Go.RowKit
open Go.Proofs.YtjojeifoddonnakGreatDoor.Tre Go.Proofs.YtjojeifoddonnakGreatDoor.Cnt Go.Proofs.YtjojeifoddonnakGreatDoor.Bnd
set_option linter.unusedVariables false

/-- A number is not from 0 to m. -/
def outs (m n : Int) : Bool := decide (n < 0) || decide (m < n)
theorem any_of (c : Int) (l : List Int) (k : Nat) (hk : k < l.length) (h : outs c l[k] = true) : l.any (outs c) = true :=
  List.any_eq_true.2 ⟨l[k], List.getElem_mem hk, h⟩
theorem any_step (c : Int) (l : List Int) (k : Nat) (hk : k < l.length) (h0 : (l.take k).any (outs c) = false) (h : outs c l[k] = false) : (l.take (k + 1)).any (outs c) = false := by
  rw [List.take_succ_eq_append_getElem hk, List.any_append, h0]
  simp [h]

theorem outside1 (c n : Int) (B : Nat) (w : World) (hc : w.cell? ⟨B, 0, none⟩ = some (.int .i64 c)) :
    Calls Tryz.prog 97 #[.int .i64 n, .pointer (some ⟨B, 0, none⟩)] w fun e w' => e = .returned (.bool (outs c n)) ∧ w' = w := by
  by_cases h1 : n < 0
  · have h3 : decide (n < 0) = true := by simpa using h1
    go_enter Tryz.func97, Tryz.ntmps97
    go_wp2
    go_ret
    exact ⟨by simp [outs, h3], rfl⟩
  · have h2 : decide (n < 0) = false := by simpa using h1
    go_enter Tryz.func97, Tryz.ntmps97
    go_wp2
    go_ret
    exact ⟨by simp [outs, h2], rfl⟩

set_option maxHeartbeats 400000 in
theorem indexFunc (c : Int) (a : Option Addr) (cap : Nat) (l : List Int) (B : Nat) (w : World) (hl : l.length ≤ 9223372036854775807) (hr : Row w a l) (hc : w.cell? ⟨B, 0, none⟩ = some (.int .i64 c)) :
    Calls Tryz.prog 57 #[.slice a l.length cap, .func (.func 97) #[] #[.pointer (some ⟨B, 0, none⟩)]] w
      fun e w' => (∃ r : Int, e = .returned (.int .i64 r) ∧ (decide (0 ≤ r)) = l.any (outs c)) ∧ w' = w := by
  go_enter Tryz.func57, Tryz.ntmps57
  go_wp2
  go_loop [8] (fun i => ∃ k : Nat, k ≤ l.length ∧ i = .int .i64 k ∧ (l.take k).any (outs c) = false) (fun i => l.length - (intOf i).toNat)
  case atStart => exact ⟨0, Nat.zero_le _, rfl, by simp⟩
  case round =>
    obtain ⟨k, hk, rfl, hno⟩ := hrel
    have HNO : Hid ((l.take k).any (outs c) = false) := hno
    clear hno
    by_cases hlt : k < l.length
    · obtain ⟨b, off, rfl, hb, hcs⟩ := hr.at hlt
      have hck := hcs k hlt
      clear hcs
      go_wp2_with (go_at_call 97; refine (outside1 c _ _ _ hc).mono ?_; rintro e w' ⟨rfl, rfl⟩)
      · go_ret
        have hh : outs c l[k] = true := by assumption
        exact ⟨⟨k, rfl, by rw [any_of c l k hlt hh]; simp⟩, rfl⟩
      · have hh : outs c l[k] = false := by assumption
        go_round
        case rel => exact ⟨k + 1, by omega, by go_num, any_step c l k hlt HNO.out hh⟩
        case measure => simp [intOf]; omega
    · go_wp2
      go_ret
      have hh := HNO.out
      rw [List.take_of_length_le (by omega)] at hh
      exact ⟨⟨-1, rfl, by rw [hh]; rfl⟩, rfl⟩

theorem containsFunc (c : Int) (a : Option Addr) (cap : Nat) (l : List Int) (B : Nat) (w : World) (hl : l.length ≤ 9223372036854775807) (hr : Row w a l) (hc : w.cell? ⟨B, 0, none⟩ = some (.int .i64 c)) :
    Calls Tryz.prog 44 #[.slice a l.length cap, .func (.func 97) #[] #[.pointer (some ⟨B, 0, none⟩)]] w
      fun e w' => e = .returned (.bool (l.any (outs c))) ∧ w' = w := by
  go_enter Tryz.func44, Tryz.ntmps44
  go_wp2_with fail
  refine (indexFunc c a cap l B w hl hr hc).mono ?_
  rintro e w' ⟨⟨r, rfl, hr2⟩, rfl⟩
  have HR := hide hr2
  clear hr2
  go_wp2
  go_ret
  exact ⟨by rw [← unhide HR]; rfl, rfl⟩

theorem boxed_cell (w : World) (c : Int) (t : TypeId) : (w.alloc (.cells #[.int .i64 c] t)).cell? ⟨w.heap.size, 0, none⟩ = some (.int .i64 c) := by
  rw [World.cell?_alloc_at _ _ _ _ rfl]; rfl
theorem below_box (w : World) (v : Value) (t : TypeId) : Below w.heap.size w (w.alloc (.cells #[v] t)) := (Below.refl _ _).alloc (Nat.le_refl _) _

theorem outside (c : Int) (w : World) : Calls Tryz.prog 83 #[.int .i64 c] w fun e w' => ∃ B : Nat, e = .returned (.func (.func 97) #[] #[.pointer (some ⟨B, 0, none⟩)]) ∧ w'.cell? ⟨B, 0, none⟩ = some (.int .i64 c) ∧ Below w.heap.size w w' := by
  have hmf : ∀ (fn : Fn) (first cap : Array Value) (w : World), (Instr.makeFunc fn first cap).run Tryz.prog w = .ok (.func fn first cap) w := fun _ _ _ _ => rfl
  go_enter Tryz.func83, Tryz.ntmps83
  go_wp2
  go_ret
  exact ⟨_, rfl, boxed_cell _ _ _, below_box _ _ _⟩

/-- The fault of sizes, and of numbers that bands have. -/
def chkF (s p : List Int) (m : Int) : Int := if bf s = 0 then (if p.length = s.length then (if p.any (outs m) = true then 1 else 0) else 3) else bf s
theorem costF_chk (s p : List Int) : costF s p = chkF s p 8 := rfl
theorem ofF_chk (s d : List Int) (B : Int) : ofF s d B = if chkF s d 8000 = 0 then (if outs 400 B = true then 1 else 0) else chkF s d 8000 := by
  have e : (lou : Int → Bool) = outs 8000 := rfl
  have e2 : (outs 400 B = true) ↔ (B < 0 ∨ 400 < B) := by simp [outs]
  unfold ofF chkF
  rw [e]
  by_cases h1 : bf s = 0
  · rw [if_pos h1, if_pos h1]
    by_cases h2 : d.length = s.length
    · rw [if_pos h2, if_pos h2]
      by_cases h3 : d.any (outs 8000) = true
      · rw [if_pos h3, if_pos h3, if_neg (by omega)]
      · rw [if_neg h3, if_neg h3, if_pos rfl]
        by_cases h4 : B < 0 ∨ 400 < B
        · rw [if_pos h4, if_pos (e2.2 h4)]
        · rw [if_neg h4, if_neg (mt e2.1 h4)]
    · rw [if_neg h2, if_neg h2, if_neg (by omega)]
  · rw [if_neg h1, if_neg h1, if_neg h1]

set_option maxHeartbeats 1000000 in
theorem check (a : Option Addr) (cap : Nat) (s : List Int) (b : Option Addr) (capb : Nat) (p : List Int) (m : Int) (w : World) (zs : s.length ≤ 9223372036854775807) (zp : p.length ≤ 9223372036854775807) (hr : Row w a s) (hp : Row w b p) :
    Calls Tryz.prog 82 #[.slice a s.length cap, .slice b p.length capb, .int .i64 m] w fun e w' => e = .returned (Ev.errV (chkF s p m)) ∧ Below w.heap.size w w' := by
  have HF : Hid (chkF s p m = if bf s = 0 then (if p.length = s.length then (if p.any (outs m) = true then 1 else 0) else 3) else bf s) := hide rfl
  obtain ⟨F, hF⟩ : ∃ F, chkF s p m = F := ⟨_, rfl⟩
  rw [hF] at HF ⊢
  clear hF
  by_cases h1 : bf s = 0
  · have hk := check_ok a cap s w zs hr h1
    have HF1 := unhide HF
    rw [if_pos h1] at HF1
    have HF2 := hide HF1
    obtain ⟨T, hT⟩ : ∃ T, (total s : Int) = T := ⟨_, rfl⟩
    rw [hT] at hk
    have hcf := hide (fun B W h1 h2 => containsFunc m b capb p B W zp h1 h2)
    obtain ⟨N, hN⟩ : ∃ N, s.length = N := ⟨_, rfl⟩
    obtain ⟨M, hM⟩ : ∃ M, p.length = M := ⟨_, rfl⟩
    rw [hN] at hk zs HF2 ⊢
    rw [hM] at hcf zp HF2 ⊢
    clear hT HF HF1 h1 hN hM hr
    by_cases h2 : M = N
    · have hne : ((M : Int) != (N : Int)) = false := by simp [h2]
      have HF3 := unhide HF2
      rw [if_pos h2] at HF3
      have HF4 := hide HF3
      have HP := hide hp
      clear HF2 HF3 h2 hp
      go_enter Tryz.func82, Tryz.ntmps82
      go_wp2_with fail
      refine hk.mono ?_
      clear hk
      rintro e w1 ⟨rfl, rfl⟩
      go_wp2_with fail
      refine (outside m _).mono ?_
      rintro e w2 ⟨B, rfl, hc2, hb2⟩
      go_wp2_with fail
      refine (unhide hcf B w2 ((unhide HP).below hb2) hc2).mono ?_
      rintro e w3 ⟨rfl, rfl⟩
      cases hT : p.any (outs m)
      · have e0 : F = 0 := by rw [unhide HF4, hT]; rfl
        subst e0
        clear HF4 hT
        go_wp2
        go_ret
        exact ⟨rfl, hb2⟩
      · have e0 : F = 1 := by rw [unhide HF4, hT]; rfl
        subst e0
        clear HF4 hT
        go_wp2
        go_ret
        exact ⟨rfl, hb2⟩
    · have hne : ((M : Int) != (N : Int)) = true := by simp; omega
      have HF3 := unhide HF2
      rw [if_neg h2] at HF3
      subst HF3
      clear HF2 h2 hcf hp
      go_enter Tryz.func82, Tryz.ntmps82
      go_wp2_with fail
      refine hk.mono ?_
      clear hk
      rintro e w1 ⟨rfl, rfl⟩
      go_wp2
      go_ret
      exact ⟨rfl, Below.refl _ _⟩
  · have hk := check_no a cap s w zs hr h1
    have e0 := unhide HF
    rw [if_neg h1] at e0
    rw [← e0] at hk h1
    have HE := hide (Ev.errV_ne h1)
    obtain ⟨N, hN⟩ : ∃ N, s.length = N := ⟨_, rfl⟩
    obtain ⟨M, hM⟩ : ∃ M, p.length = M := ⟨_, rfl⟩
    rw [hN] at hk ⊢
    rw [hM]
    clear hN hM zs zp hr hp HF e0 h1
    go_enter Tryz.func82, Tryz.ntmps82
    go_wp2_with fail
    refine hk.mono ?_
    clear hk
    rintro e w1 ⟨rfl, rfl⟩
    go_wp2
    go_ret
    exact ⟨by rw [unhide HE]; rfl, Below.refl _ _⟩

end Go.Proofs.YtjojeifoddonnakGreatDoor.Shr

/-
  width.check, total: by their contracts.
-/
namespace Go.Proofs.YtjojeifoddonnakGreatDoor.Wid
open Go.RowKit
open Go.Proofs.YtjojeifoddonnakGreatDoor.Tre Go.Proofs.YtjojeifoddonnakGreatDoor.Scl Go.Proofs.YtjojeifoddonnakGreatDoor.Bnd
set_option linter.unusedVariables false

theorem any_of {p : Int → Bool} (l : List Int) (k : Nat) (hk : k < l.length) (h : p l[k] = true) : l.any p = true :=
  List.any_eq_true.2 ⟨l[k], List.getElem_mem hk, h⟩
theorem any_step {p : Int → Bool} (l : List Int) (k : Nat) (hk : k < l.length) (h0 : (l.take k).any p = false) (h : p l[k] = false) : (l.take (k + 1)).any p = false := by
  rw [List.take_succ_eq_append_getElem hk, List.any_append, h0]
  simp [h]

theorem nob1 (n : Int) (w : World) : Calls Tryz.prog 93 #[.int .i64 n] w fun e w' => e = .returned (.bool (nob n)) ∧ w' = w := by
  by_cases h0 : n = 0
  · subst h0
    go_enter Tryz.func93, Tryz.ntmps93
    go_wp2
    go_ret
    exact ⟨rfl, rfl⟩
  · by_cases h1 : n = 1
    · subst h1
      go_enter Tryz.func93, Tryz.ntmps93
      go_wp2
      go_ret
      exact ⟨rfl, rfl⟩
    · have e : nob n = true := by simp [nob]; omega
      have e0 : (n != 0) = true := by simpa using h0
      have e1 : (n != 1) = true := by simpa using h1
      have f0 : (n == 0) = false := by simpa using h0
      have f1 : (n == 1) = false := by simpa using h1
      rw [e]
      clear e h0 h1
      go_enter Tryz.func93, Tryz.ntmps93
      go_wp2
      go_ret
      exact ⟨rfl, rfl⟩
theorem now1 (n : Int) (w : World) : Calls Tryz.prog 94 #[.int .i64 n] w fun e w' => e = .returned (.bool (now n)) ∧ w' = w := by
  by_cases h1 : n < 0
  · have h3 : decide (n < 0) = true := by simpa using h1
    go_enter Tryz.func94, Tryz.ntmps94
    go_wp2
    go_ret
    exact ⟨by simp [now, h3], rfl⟩
  · have h2 : decide (n < 0) = false := by simpa using h1
    go_enter Tryz.func94, Tryz.ntmps94
    go_wp2
    go_ret
    exact ⟨by simp [now, h2], rfl⟩

set_option maxHeartbeats 400000 in
theorem nobIndex (a : Option Addr) (cap : Nat) (l : List Int) (w : World) (hl : l.length ≤ 9223372036854775807) (hr : Row w a l) :
    Calls Tryz.prog 57 #[.slice a l.length cap, .func (.func 93) #[] #[]] w
      fun e w' => (∃ r : Int, e = .returned (.int .i64 r) ∧ (decide (0 ≤ r)) = l.any nob) ∧ w' = w := by
  go_enter Tryz.func57, Tryz.ntmps57
  go_wp2
  go_loop [8] (fun i => ∃ k : Nat, k ≤ l.length ∧ i = .int .i64 k ∧ (l.take k).any nob = false) (fun i => l.length - (intOf i).toNat)
  case atStart => exact ⟨0, Nat.zero_le _, rfl, by simp⟩
  case round =>
    obtain ⟨k, hk, rfl, hno⟩ := hrel
    have HNO : Hid ((l.take k).any nob = false) := hno
    clear hno
    by_cases hlt : k < l.length
    · obtain ⟨b, off, rfl, hb, hcs⟩ := hr.at hlt
      have hck := hcs k hlt
      clear hcs
      go_wp2_with (go_at_call 93; refine (nob1 _ _).mono ?_; rintro e w' ⟨rfl, rfl⟩)
      · go_ret
        have hh : nob l[k] = true := by assumption
        exact ⟨⟨k, rfl, by rw [any_of l k hlt hh]; simp⟩, rfl⟩
      · have hh : nob l[k] = false := by assumption
        go_round
        case rel => exact ⟨k + 1, by omega, by go_num, any_step l k hlt HNO.out hh⟩
        case measure => simp [intOf]; omega
    · go_wp2
      go_ret
      have hh := HNO.out
      rw [List.take_of_length_le (by omega)] at hh
      exact ⟨⟨-1, rfl, by rw [hh]; rfl⟩, rfl⟩
theorem nobContains (a : Option Addr) (cap : Nat) (l : List Int) (w : World) (hl : l.length ≤ 9223372036854775807) (hr : Row w a l) :
    Calls Tryz.prog 44 #[.slice a l.length cap, .func (.func 93) #[] #[]] w
      fun e w' => e = .returned (.bool (l.any nob)) ∧ w' = w := by
  go_enter Tryz.func44, Tryz.ntmps44
  go_wp2_with fail
  refine (nobIndex a cap l w hl hr).mono ?_
  rintro e w' ⟨⟨r, rfl, hr2⟩, rfl⟩
  have HR := hide hr2
  clear hr2
  go_wp2
  go_ret
  exact ⟨by rw [← unhide HR]; rfl, rfl⟩
set_option maxHeartbeats 400000 in
theorem nowIndex (a : Option Addr) (cap : Nat) (l : List Int) (w : World) (hl : l.length ≤ 9223372036854775807) (hr : Row w a l) :
    Calls Tryz.prog 57 #[.slice a l.length cap, .func (.func 94) #[] #[]] w
      fun e w' => (∃ r : Int, e = .returned (.int .i64 r) ∧ (decide (0 ≤ r)) = l.any now) ∧ w' = w := by
  go_enter Tryz.func57, Tryz.ntmps57
  go_wp2
  go_loop [8] (fun i => ∃ k : Nat, k ≤ l.length ∧ i = .int .i64 k ∧ (l.take k).any now = false) (fun i => l.length - (intOf i).toNat)
  case atStart => exact ⟨0, Nat.zero_le _, rfl, by simp⟩
  case round =>
    obtain ⟨k, hk, rfl, hno⟩ := hrel
    have HNO : Hid ((l.take k).any now = false) := hno
    clear hno
    by_cases hlt : k < l.length
    · obtain ⟨b, off, rfl, hb, hcs⟩ := hr.at hlt
      have hck := hcs k hlt
      clear hcs
      go_wp2_with (go_at_call 94; refine (now1 _ _).mono ?_; rintro e w' ⟨rfl, rfl⟩)
      · go_ret
        have hh : now l[k] = true := by assumption
        exact ⟨⟨k, rfl, by rw [any_of l k hlt hh]; simp⟩, rfl⟩
      · have hh : now l[k] = false := by assumption
        go_round
        case rel => exact ⟨k + 1, by omega, by go_num, any_step l k hlt HNO.out hh⟩
        case measure => simp [intOf]; omega
    · go_wp2
      go_ret
      have hh := HNO.out
      rw [List.take_of_length_le (by omega)] at hh
      exact ⟨⟨-1, rfl, by rw [hh]; rfl⟩, rfl⟩
theorem nowContains (a : Option Addr) (cap : Nat) (l : List Int) (w : World) (hl : l.length ≤ 9223372036854775807) (hr : Row w a l) :
    Calls Tryz.prog 44 #[.slice a l.length cap, .func (.func 94) #[] #[]] w
      fun e w' => e = .returned (.bool (l.any now)) ∧ w' = w := by
  go_enter Tryz.func44, Tryz.ntmps44
  go_wp2_with fail
  refine (nowIndex a cap l w hl hr).mono ?_
  rintro e w' ⟨⟨r, rfl, hr2⟩, rfl⟩
  have HR := hide hr2
  clear hr2
  go_wp2
  go_ret
  exact ⟨by rw [← unhide HR]; rfl, rfl⟩

theorem check_no (a : Option Addr) (cap : Nat) (l : List Int) (E : Int) (w : World) (hr : Row w a l) (zl : l.length ≤ 9223372036854775807) (hE : Hid (bsF l = E)) (hne : Hid (E ≠ 0)) :
    Calls Tryz.prog 76 #[.slice a l.length cap] w fun e w' => e = .returned (.iface 48 (.int .i64 E)) ∧ w' = w := by
  by_cases h4 : 400 < l.length
  · obtain rfl : E = 4 := by rw [← unhide hE]; unfold bsF; rw [if_pos h4]
    clear hE hne
    go_enter Tryz.func76, Tryz.ntmps76
    go_wp2
    go_ret
    exact ⟨rfl, rfl⟩
  · have hE2 := unhide hE
    unfold bsF at hE2
    rw [if_neg h4] at hE2
    have hany : l.any nob = true := by
      cases h : l.any nob with
      | true => rfl
      | false => rw [h] at hE2; exact absurd hE2.symm (unhide hne)
    obtain rfl : E = 1 := by rw [← hE2, if_pos hany]
    have hcf := nobContains a cap l w zl hr
    rw [hany] at hcf
    clear hE hne hE2 hany
    go_enter Tryz.func76, Tryz.ntmps76
    go_wp2_with fail
    refine hcf.mono ?_
    clear hcf
    rintro e w1 ⟨rfl, rfl⟩
    go_wp2
    go_ret
    exact ⟨rfl, rfl⟩
theorem check_ok (a : Option Addr) (cap : Nat) (l : List Int) (w : World) (hr : Row w a l) (hE : Hid (bsF l = 0)) :
    Calls Tryz.prog 76 #[.slice a l.length cap] w fun e w' => e = .returned .nilIface ∧ w' = w := by
  obtain ⟨h4, hb⟩ := bsF_zero.1 (unhide hE)
  have hcf := nobContains a cap l w (by omega) hr
  rw [nob_any.2 hb] at hcf
  clear hE hb
  go_enter Tryz.func76, Tryz.ntmps76
  go_wp2_with fail
  refine hcf.mono ?_
  clear hcf
  rintro e w1 ⟨rfl, rfl⟩
  go_wp2
  go_ret
  exact ⟨rfl, rfl⟩

theorem pre_w {ws : List Int} (h : Wds ws) {j : Nat} (hj : j ≤ ws.length) : pre ws j ≤ 20 * j := by
  induction j with
  | zero => exact Nat.le_refl _
  | succ j ih =>
    have := ih (by omega)
    have := h j (by omega)
    rw [pre_succ]
    omega

theorem total_no (a : Option Addr) (cap : Nat) (ws : List Int) (w : World) (hr : Row w a ws) (zs : ws.length ≤ 9223372036854775807) (hE : Hid (ws.any now = true)) :
    Calls Tryz.prog 77 #[.slice a ws.length cap] w fun e w' => e = .returned (.tuple #[.int .i64 0, .iface 48 (.int .i64 1)]) ∧ w' = w := by
  have hcf := nowContains a cap ws w zs hr
  rw [unhide hE] at hcf
  clear hE
  go_enter Tryz.func77, Tryz.ntmps77
  go_wp2_with fail
  refine hcf.mono ?_
  clear hcf
  rintro e w1 ⟨rfl, rfl⟩
  go_wp2
  go_ret2
  exact ⟨rfl, rfl⟩
set_option maxHeartbeats 1000000 in
theorem total_ok (a : Option Addr) (cap : Nat) (ws : List Int) (w : World) (hr : Row w a ws) (zs : ws.length ≤ 17592186044416) (hE : Hid (Wds ws)) :
    Calls Tryz.prog 77 #[.slice a ws.length cap] w fun e w' => e = .returned (.tuple #[.int .i64 (total ws : Int), .nilIface]) ∧ w' = w := by
  have hcf := nowContains a cap ws w (by omega) hr
  rw [now_any.2 (unhide hE)] at hcf
  obtain ⟨N, hN⟩ : ∃ N, ws.length = N := ⟨_, rfl⟩
  have HN := hide hN
  obtain ⟨Z, hZ⟩ : ∃ Z, total ws = Z := ⟨_, rfl⟩
  have HZ : Hid (pre ws N = Z) := hide (by rw [← hZ, ← hN]; rfl)
  rw [hZ]
  rw [hN] at hcf zs ⊢
  clear hN hZ
  go_enter Tryz.func77, Tryz.ntmps77
  go_wp2_with fail
  refine hcf.mono ?_
  clear hcf
  rintro e w1 ⟨rfl, rfl⟩
  go_wp2
  go_loopw [4, 12] (fun t i wr => ∃ j T : Nat, j ≤ N ∧ i = .int .i64 j ∧ t = .int .i64 T ∧ Hid (pre ws j = T) ∧ T ≤ 20 * j ∧ wr = w1) (fun _ i _ => N - (intOf i).toNat)
  case atStart => exact ⟨0, 0, Nat.zero_le _, rfl, rfl, rfl, by omega, rfl⟩
  case round =>
    obtain ⟨j, T, hj, rfl, rfl, HT, hT, rfl⟩ := hrel
    by_cases hlt : j < N
    · have hlt' : j < ws.length := by rw [unhide HN]; exact hlt
      obtain ⟨b, off, rfl, hb, hc⟩ := Scl.cell_at hr (by omega)
      have c1 := hc j hlt'
      have h1 := unhide hE j hlt'
      have HS : Hid (pre ws (j + 1) = T + (at0 ws j).toNat) := hide (by rw [pre_succ, unhide HT])
      obtain ⟨X, hX⟩ : ∃ X : Nat, at0 ws j = X := ⟨(at0 ws j).toNat, by omega⟩
      rw [hX] at c1 HS h1
      rw [Int.toNat_natCast] at HS
      have h20 : X ≤ 20 := by omega
      have hT2 : T + X ≤ 20 * (j + 1) := by omega
      clear hc hX hlt' h1 HT
      go_wp2
      go_roundw
      case rel => exact ⟨j + 1, T + X, by omega, by go_num, by go_num, HS, hT2, by first | trivial | rfl⟩
      case measure => simp [intOf]; omega
    · obtain rfl : j = N := by omega
      obtain rfl : T = Z := (unhide HT).symm.trans (unhide HZ)
      go_wp2
      go_ret2
      exact ⟨rfl, rfl⟩

end Go.Proofs.YtjojeifoddonnakGreatDoor.Wid

/-
  make of integers, up to all that memory bears: zeros of this call's own.
-/
namespace Go.Proofs.YtjojeifoddonnakGreatDoor
open Go.RowKit
open Go.Proofs.YtjojeifoddonnakGreatDoor.Tre
set_option linter.unusedVariables false

theorem wpList_mkL {ops : Array Oper} {rest : List Oper} {o : Oper} {a : Act} {Q : Exit → Act → World → Prop} (w : World) (hgd : o.guard = none) (s : Operand)
    (ho : o.op = .makeSlice 22 s s) (n : Nat) (hs : a.eval s = .int .i64 n) (hn : n ≤ 17592186044416)
    (h : ∀ w', Has w' w.heap.size (.slice (some ⟨w.heap.size, 0, none⟩) n n) (upto (fun _ => 0) n) → Below w.heap.size w w' → wpList Tryz.prog ops Q rest (a.put o.dst (.slice (some ⟨w.heap.size, 0, none⟩) n n)) w') :
    wpList Tryz.prog ops Q (o :: rest) a w := by
  obtain ⟨i0, hi, hz0, hz1, hz2⟩ := info_parts info_int
  refine wpList_make_full w hgd s s 22 ho w.heap.size 3 i0 (.int .i64 0) 1 Tryz.underlying22 hi hz0 hz1 _ _ _ _ n hs hs rfl rfl (by rw [hz2]; omega) (by unfold maxLen; omega) (Nat.le_refl _) ?_
  intro w2 hown hgrow
  rw [Nat.mul_one] at hown
  refine h w2 ?_ ((Below.refl _ _).grown hgrow (Nat.le_refl _) (by intro k hk; cases hk))
  unfold Has
  rw [upto_zeros, List.map_replicate, List.length_replicate, ← toList_madeCells_one]
  exact hown

end Go.Proofs.YtjojeifoddonnakGreatDoor
