/-
  hornref2.Horn, of shares and signs that are right: by its contract.
-/
import Derived.Test.YtgffpljnhadigafDoorStr
import Derived.Test.YtgffpljnhadigafDoorRefSum
import Derived.Deep.QuietTactic
import Derived.BigQuiet
namespace Go.Proofs.YtgffpljnhadigafDoor.Hrn
open Go.RowKit
open Go.Proofs.YtgffpljnhadigafDoor.Tre Go.Proofs.YtgffpljnhadigafDoor.Scl
set_option linter.unusedVariables false

theorem drop_at {l : List Int} {k : Nat} (h : k < l.length) : l.drop k = at0 l k :: l.drop (k + 1) := by
  rw [List.drop_eq_getElem_cons h]
  simp [at0, h]
theorem below_drew (w : World) (n : Nat) : Below w.heap.size w (w.drewN n) := ⟨rfl, rfl, rfl, Nat.le_refl _, fun _ _ => rfl⟩
/-- The sum of the first s shares, wherever it is asked. -/
theorem sum_first (a : Option Addr) (cap S : Nat) (f : List Int) (w : World) (hr : Row w a f) (hf : right f) (hS : S < f.length) (x : Nat) :
    Calls Tryd.prog 14 #[.slice a S cap] (w.drewN x) fun e w' => e = .returned (.int .i64 (pfx f S)) ∧ ∃ n, w' = w.drewN n := by
  have h40 := hf.2.1
  have hsm : Small (f.take S) := small_of (fun i hi => by
    rw [List.length_take] at hi
    rw [at0_take (by omega)]
    have h1 := at_le_tot hf.2.2.1 (i := i) (by omega)
    have h2 := hf.2.2.2
    exact ⟨hf.2.2.1 i (by omega), by omega⟩) (by rw [List.length_take]; omega)
  have h := refSum a cap S (f.take S) (w.drewN x) (hide (by rw [List.length_take]; omega)) (by omega) ((hr.below (below_drew w x)).take S) (hide hsm)
  rw [tot_take f (by omega)] at h
  exact h.mono fun e w' ⟨he, hw⟩ => ⟨he, x, hw⟩

set_option maxRecDepth 100000 in
set_option maxHeartbeats 8000000 in
theorem refHorn (a : Option Addr) (cap : Nat) (f : List Int) (b : Option Addr) (capb : Nat) (l : List Int) (w : World) (hrf : Row w a f) (hm : f.length ≤ cap) (hm9 : cap ≤ 9223372036854775807) (hrl : Row w b l) (hf : Hid (right f)) (hl : Hid (Signs f l)) (h60 : l.length ≤ 60) :
    Calls Tryd.prog 19 #[.slice a f.length cap, .slice b l.length capb] w fun e w' => e = .returned (.string (str (code f l))) ∧ Below w.heap.size w w' := by
  obtain ⟨f1, f2, f3, f4⟩ := unhide hf
  have HC : Hid (∀ X O, enc f l (65536, []) = (X, O) → code f l = [X / 65536, X / 256 % 256, X % 256] ++ O) := hide (fun X O h => by unfold code three; rw [h])
  obtain ⟨N, hN⟩ : ∃ N, l.length = N := ⟨_, rfl⟩
  have HN := hide hN
  obtain ⟨M, hM⟩ : ∃ M, f.length = M := ⟨_, rfl⟩
  have HM := hide hM
  have HE0 : Hid (enc f (l.drop N) (65536, []) = (65536, [])) := hide (by rw [← hN, List.drop_length]; rfl)
  rw [hN] at h60 ⊢
  rw [hM] at hm f1 f2 ⊢
  clear hN hM f3 f4
  have estr : Value.string { data := #[] } = .string (str []) := rfl
  have hs1 : IntKind.i64.wrap ((N : Int) - 1) = (N : Int) - 1 := IntWalk.i64_in _ (by omega)
  go_enter Tryd.func19, Tryd.ntmps19
  go_wp2
  go_loopw [5, 6, 7] (fun x o i wr => ∃ (j : Nat) (X : Int) (O : List Int), j ≤ N ∧ x = .int .i64 X ∧ o = .string (str O) ∧ i = .int .i64 ((j : Int) - 1) ∧ Hid (enc f (l.drop j) (65536, []) = (X, O)) ∧ Hid (Mid X) ∧ Hid (O.length + j ≤ N) ∧ Below w.heap.size w wr) (fun _ _ i _ => (intOf i + 1).toNat)
  case atStart => exact ⟨N, 65536, [], Nat.le_refl _, rfl, rfl, rfl, HE0, hide least, hide (by simp), Below.refl _ _⟩
  case round =>
    obtain ⟨j, X, O, hj, rfl, rfl, rfl, HE, HX, HO, hB⟩ := hrel
    clear HE0
    obtain ⟨x1, x2⟩ := unhide HX
    by_cases hj0 : j = 0
    · subst hj0
      have hd : decide ((0 : Int) ≤ ((0 : Nat) : Int) - 1) = false := by decide
      have hcode := hide (unhide HC X O (unhide HE))
      have hb3 : Hid (Byts [X / 65536, X / 256 % 256, X % 256]) := hide (three_byts (unhide HX))
      have hO := unhide HO
      obtain ⟨A, hA⟩ : ∃ A, X / 65536 = A := ⟨_, rfl⟩
      obtain ⟨B, hBB⟩ : ∃ B, X / 256 % 256 = B := ⟨_, rfl⟩
      obtain ⟨C, hC⟩ : ∃ C, X % 256 = C := ⟨_, rfl⟩
      rw [hA, hBB, hC] at hcode hb3
      obtain ⟨Y, hY⟩ : ∃ Y, X / 256 = Y := ⟨_, rfl⟩
      rw [hY] at hBB
      have t1 : Int.tdiv X 65536 = A := by rw [Int.tdiv_eq_ediv_of_nonneg (by omega)]; exact hA
      have t2 : Int.tdiv X 256 = Y := by rw [Int.tdiv_eq_ediv_of_nonneg (by omega)]; exact hY
      have t3 : Int.tmod Y 256 = B := by rw [Int.tmod_eq_emod_of_nonneg (by omega)]; exact hBB
      have t4 : Int.tmod X 256 = C := by rw [Int.tmod_eq_emod_of_nonneg (by omega)]; exact hC
      have a0 : 0 ≤ A := by omega
      have a9 : A ≤ 255 := by omega
      have y0 : 0 ≤ Y := by omega
      have y9 : Y ≤ 65535 := by omega
      have b0 : 0 ≤ B := by omega
      have b9 : B ≤ 255 := by omega
      have c0 : 0 ≤ C := by omega
      have c9 : C ≤ 255 := by omega
      have u1 : A % 256 = A := by omega
      have u2 : B % 256 = B := by omega
      have u3 : C % 256 = C := by omega
      have hcv := fun t => run_str3 wr A B C t (unhide hb3)
      have hca := fun W => run_cat W [A, B, C] O (by simp; omega)
      clear hA hBB hC hY
      go_wp2
      go_ret
      exact ⟨by rw [unhide hcode]; rfl, hB.trans (((Below.refl _ _).alloc hB.size _))⟩
    · obtain ⟨k, rfl⟩ : ∃ k, j = k + 1 := ⟨j - 1, by omega⟩
      have hkN : k < N := by omega
      have hkl : k < l.length := by rw [unhide HN]; exact hkN
      have hsg : Sgn f (at0 l k) := unhide hl _ (by
        have e : at0 l k = l[k] := by simp [at0, hkl]
        rw [e]; exact List.getElem_mem hkl)
      obtain ⟨S, hS⟩ : ∃ S : Nat, at0 l k = S := ⟨(at0 l k).toNat, by have := hsg.1; omega⟩
      rw [hS] at hsg
      obtain ⟨g0, g1, g2⟩ := hsg
      rw [Int.toNat_natCast] at g2
      have hSf : S < f.length := by omega
      have hSM : S < M := by rw [← unhide HM]; exact hSf
      obtain ⟨s1, s2, s3, s4⟩ := share_in (unhide hf) hSf g2
      have HD : Hid (enc f (l.drop k) (65536, []) = (put f S X, offb (at0 f S) X ++ O)) := hide (by rw [drop_at hkl, enc, hS, unhide HE, Int.toNat_natCast])
      have HMI := hide (put_in (unhide hf) hSf g2 (unhide HX))
      obtain ⟨p1, p2, p3, p4⟩ := put_parts (unhide hf) hSf g2 (unhide HX)
      have HPU : Hid (put f S X = ren (at0 f S) X / at0 f S * 256 + ren (at0 f S) X % at0 f S + pfx f S) := hide rfl
      have HSUM : Hid (∀ W, Row W a f → ∀ x, Calls Tryd.prog 14 #[.slice a S cap] (W.drewN x) fun e w' => e = .returned (.int .i64 (pfx f S)) ∧ ∃ n, w' = W.drewN n) := hide (fun W hW x => sum_first a cap S f W hW (unhide hf) hSf x)
      have HRN : Hid (ren (at0 f S) X = if 65536 * at0 f S ≤ X then X / 256 else X) := hide rfl
      have HOF : Hid (offb (at0 f S) X = if 65536 * at0 f S ≤ X then [X % 256] else []) := hide rfl
      have HRL := hide (cell_at (hrl.below hB) (by omega))
      have HRF : Hid (∀ W, Row W a f → ∃ b off, a = some ⟨b, off, none⟩ ∧ W.cell? ⟨b, off + S, none⟩ = some (.int .i64 (at0 f S))) := hide (fun W hW => by
        obtain ⟨b, off, e, _, hc⟩ := cell_at hW (by omega)
        exact ⟨b, off, e, hc S hSf⟩)
      obtain ⟨F, hF⟩ : ∃ F, at0 f S = F := ⟨_, rfl⟩
      rw [hF] at s1 s2 s4 HD p1 p2 p3 p4 HPU HRN HOF HRF
      obtain ⟨P, hP⟩ : ∃ P, pfx f S = P := ⟨_, rfl⟩
      rw [hP] at s3 s4 HPU HSUM
      obtain ⟨Rn, hR⟩ : ∃ Rn, ren F X = Rn := ⟨_, rfl⟩
      rw [hR] at p1 p2 p3 p4 HPU HRN
      obtain ⟨b1, off1, rfl, _, hcl⟩ := unhide HRL
      have c1 := hcl k hkl
      rw [hS] at c1
      have ei : (((k + 1 : Nat) : Int) - 1) = (k : Int) := by omega
      have hO1 := unhide HO
      rw [ei]
      clear hF hP hR hcl HRL g0 g1 g2 hS ei hkl
      go_wp2
      go_loopw [5, 6] (fun x o wr => ∃ (X' : Int) (O' : List Int), x = .int .i64 X' ∧ o = .string (str O') ∧ Hid ((X' = X ∧ O' = O) ∨ (65536 * F ≤ X ∧ X' = X / 256 ∧ O' = [X % 256] ++ O)) ∧ Below w.heap.size w wr) (fun x _ _ => (intOf x).toNat)
      case atStart => exact ⟨X, O, rfl, rfl, hide (Or.inl ⟨rfl, rfl⟩), hB⟩
      case round =>
        obtain ⟨X', O', rfl, rfl, HW, hB2⟩ := hrel
        clear hB c1
        obtain ⟨b0, off0, rfl, c2⟩ := unhide HRF _ (hrf.below hB2)
        have hx0 : 0 ≤ X' := by rcases unhide HW with ⟨h, _⟩ | ⟨_, h, _⟩ <;> omega
        have hx9 : X' < 16777216 := by rcases unhide HW with ⟨h, _⟩ | ⟨_, h, _⟩ <;> omega
        by_cases hge : 65536 * F ≤ X'
        · -- a byte is taken off
          have hst : X' = X ∧ O' = O := by
            rcases unhide HW with h | ⟨_, h, _⟩
            · exact h
            · omega
          have hd : decide (65536 * F ≤ X') = true := by simpa using hge
          obtain ⟨rfl, rfl⟩ := hst
          obtain ⟨C, hC⟩ : ∃ C, X' % 256 = C := ⟨_, rfl⟩
          obtain ⟨Y, hY⟩ : ∃ Y, X' / 256 = Y := ⟨_, rfl⟩
          have HW2 : Hid ((Y = X' ∧ [C] ++ O' = O') ∨ (65536 * F ≤ X' ∧ Y = X' / 256 ∧ [C] ++ O' = [X' % 256] ++ O')) := hide (Or.inr ⟨hge, hY.symm, by rw [hC]⟩)
          have t2 : Int.tdiv X' 256 = Y := by rw [Int.tdiv_eq_ediv_of_nonneg (by omega)]; exact hY
          have t4 : Int.tmod X' 256 = C := by rw [Int.tmod_eq_emod_of_nonneg (by omega)]; exact hC
          have y0 : 0 ≤ Y := by omega
          have y9 : Y ≤ 65535 := by omega
          have yl : Y < X' := by omega
          have c0 : 0 ≤ C := by omega
          have c9 : C ≤ 255 := by omega
          have u3 : C % 256 = C := by omega
          have hcv := fun t => run_str1 wr C t c0 (by omega)
          have hca := fun W => run_cat W [C] O' (by simp; omega)
          have hBn := hB2.size
          clear hC hY HW
          go_wp2
          go_roundw
          case rel => exact ⟨Y, [C] ++ O', rfl, rfl, HW2, hB2.alloc hBn _⟩
          case measure => simp [intOf]; omega
        · have hd : decide (65536 * F ≤ X') = false := by simpa using hge
          have HX2 : Hid (X' = Rn ∧ O' = offb F X ++ O) := hide (by
            rcases unhide HW with ⟨h1, h2⟩ | ⟨h0, h1, h2⟩
            · rw [unhide HRN, unhide HOF, if_neg (by omega), if_neg (by omega)]
              exact ⟨h1, h2⟩
            · rw [unhide HRN, unhide HOF, if_pos h0, if_pos h0]
              exact ⟨h1, h2⟩)
          have hOl : Hid (O'.length + k ≤ N) := hide (by
            rw [(unhide HX2).2, unhide HOF]
            split <;> (simp; omega))
          obtain ⟨rfl, e2⟩ := unhide HX2
          have HD2 : Hid (enc f (l.drop k) (65536, []) = (put f S X, O')) := hide (by rw [unhide HD, e2])
          obtain ⟨q, hq⟩ : ∃ q, X' / F = q := ⟨_, rfl⟩
          obtain ⟨m, hm⟩ : ∃ m, X' % F = m := ⟨_, rfl⟩
          rw [hq] at p1 p2 HPU
          rw [hm] at p3 p4 HPU
          have t1 : Int.tdiv X' F = q := by rw [Int.tdiv_eq_ediv_of_nonneg (by omega)]; exact hq
          have t2 : Int.tmod X' F = m := by rw [Int.tmod_eq_emod_of_nonneg (by omega)]; exact hm
          have hF0 : (F == 0) = false := by rw [beq_eq_false_iff_ne]; omega
          have hSc : S ≤ cap := by omega
          obtain ⟨Z, hZ⟩ : ∃ Z, q * 256 + m + P = Z := ⟨_, rfl⟩
          have HPZ : Hid (put f S X = Z) := hide (by rw [unhide HPU]; exact hZ)
          rw [unhide HPZ] at HD2 HMI
          have HSW := hide (unhide HSUM wr (hrf.below hB2))
          have w1' : IntKind.i64.wrap (q * 256 + m + P) = Z := by rw [hZ]; exact IntWalk.i64_in _ (by omega)
          have w2' : IntKind.i64.wrap (q * 256 + m) = q * 256 + m := IntWalk.i64_in _ (by omega)
          have w3' : IntKind.i64.wrap (q * 256) = q * 256 := IntWalk.i64_in _ (by omega)
          clear HX2 HW e2 hq hm hZ HRN HOF HPU HD HRF HSUM
          go_wp2
          go_quiet ((go_at_call 14; exact unhide HSW _))
          go_wp2
          go_roundw
          case rel => exact ⟨k, Z, O', by omega, by first | rfl | go_num, rfl, by first | rfl | go_num, HD2, HMI, hOl, hB2.trans ((below_drew _ _).mono hB2.size)⟩
          case measure => simp [intOf]

end Go.Proofs.YtgffpljnhadigafDoor.Hrn
