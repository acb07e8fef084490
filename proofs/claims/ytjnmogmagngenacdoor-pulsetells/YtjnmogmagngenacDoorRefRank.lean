/-
  hornref1's Rank and Row: by their contracts.
-/
import Derived.Test.YtjnmogmagngenacDoorRefPulse
import Derived.Test.YtjnmogmagngenacDoorRefCount
namespace Go.Proofs.YtjnmogmagngenacDoor.Pls
open Go.RowKit
open Go.Proofs.YtjnmogmagngenacDoor.Tre Go.Proofs.YtjnmogmagngenacDoor.Cnt Go.Proofs.YtjnmogmagngenacDoor.Mid
set_option linter.unusedVariables false

set_option maxRecDepth 100000 in
set_option maxHeartbeats 8000000 in
theorem refRank (l : List Int) : ∀ (a : Option Addr) (cap : Nat) (w : World), l.length ≤ 6 → loud l ≤ 8 → l.length ≤ cap → cap ≤ 9223372036854775807 → Row w a l →
    Calls Tryd.prog 16 #[.slice a l.length cap] w fun e w' => e = .returned (.int .i64 (rk l (loud l))) ∧ Below w.heap.size w w' := by
  induction l with
  | nil =>
    intro a cap w _ _ _ _ _
    go_enter Tryd.func16, Tryd.ntmps16
    go_wp2
    go_ret
    exact ⟨rfl, Below.refl _ _⟩
  | cons x r ih =>
    intro a cap w hl hk hcap hc9 hr
    have hlo := hide (refLoud a cap (x :: r) w (by omega) (loud_all (by omega)) hr)
    obtain ⟨b, off, rfl, hb, hc⟩ := row_cell hr (by simp)
    have hcx : w.cell? ⟨b, off, none⟩ = some (.int .i64 x) := hc 0 (by simp)
    have HX : Hid (∀ w' : World, Below w.heap.size w w' → w'.cell? ⟨b, off, none⟩ = some (.int .i64 x)) := hide (fun w' hB' => (hB'.cell (p := ⟨b, off, none⟩) hb).trans hcx)
    have hd : Row w (some ⟨b, off + 1, none⟩) r := hr.drop 1
    have hloud : loud (x :: r) = x.natAbs + loud r := rfl
    have hin := rk_in (x :: r) hl hk
    have hV := (V_in (loud (x :: r)) (x :: r).length (by omega) (by omega)).2
    have hin2 := rk_in r (by simp at hl; omega) (by omega)
    have HR : Hid (rk (x :: r) (loud (x :: r)) = ahead r.length (loud (x :: r)) (x + (loud (x :: r) : Int)).toNat + rk r (loud r)) := hide (by
      simp only [rk]
      rw [show loud (x :: r) - x.natAbs = loud r by omega])
    obtain ⟨K, hK⟩ : ∃ K, loud (x :: r) = K := ⟨_, rfl⟩
    obtain ⟨M, hM⟩ : ∃ M, (x :: r).length = M := ⟨_, rfl⟩
    obtain ⟨m, hm⟩ : ∃ m, r.length = m := ⟨_, rfl⟩
    have hMm : M = m + 1 := by rw [← hM, ← hm]; rfl
    rw [hK] at hlo hloud hk hin hV HR ⊢
    rw [hM] at hlo hl hcap hin hV ⊢
    rw [hm] at HR
    have hih := fun a' cap' w' h1 h2 h3 => ih a' cap' w' (by omega) (by omega) h1 h2 h3
    rw [hm] at hih
    have HI := hide hih
    obtain ⟨P, hP⟩ : ∃ P, rk r (loud r) = P := ⟨_, rfl⟩
    rw [hP] at HI hin2 HR
    obtain ⟨S, hS⟩ : ∃ S, (x + (K : Int)).toNat = S := ⟨_, rfl⟩
    rw [hS] at HR
    have hxS : x = (S : Int) - (K : Int) := by omega
    have hS2 : S ≤ 2 * K := by omega
    have hM1 : (M : Int) - 1 = (m : Int) := by omega
    have hM1' : M - 1 = m := by omega
    have hm5 : m ≤ 5 := by omega
    have hP9 : 0 ≤ P ∧ P ≤ 20256 := by have := unhide HR; have := ahead_in (m := m) (L := K) (s := S) (by omega) (by omega) (by omega); omega
    obtain ⟨P0, P9⟩ := hP9
    have hM0 : ((M : Int) == 0) = false := by simp; omega
    have h1M : (1 : Int) ≤ M := by omega
    have hx0 : -(K : Int) ≤ x := by omega
    have hx1 : x ≤ (K : Int) := by omega
    have HM1 := hide hM1'
    have hcap1 : 1 ≤ cap := by omega
    have hcm : m ≤ cap - 1 := by omega
    have hr1 : Hid (cap = 1 → r = []) := hide (fun e => List.eq_nil_of_length_eq_zero (by omega))
    have HXS := hide hxS
    clear hK hM hm hP hS hih ih hin hin2 hV hloud hc hcx hr hMm hxS hM1'
    go_enter Tryd.func16, Tryd.ntmps16
    go_wp2_with fail
    refine (unhide hlo).mono ?_
    clear hlo
    rintro e w1 ⟨rfl, rfl⟩
    go_wp2
    go_loopw [4, 5] (fun v4 v5 wr => ∃ (s : Nat) (A X : Int), s ≤ S ∧ v5 = .int .i64 X ∧ X = (s : Int) - (K : Int) ∧ v4 = .int .i64 A ∧ Hid (A = ahead m K s) ∧ Below w.heap.size w wr) (fun _ v _ => ((S : Int) - (K : Int) - intOf v).toNat)
    case atStart => exact ⟨0, 0, -(K : Int), Nat.zero_le _, by go_num, by omega, rfl, rfl, Below.refl _ _⟩
    case round =>
      obtain ⟨s, A, X, hs, rfl, hX, rfl, HA, hB⟩ := hrel
      have hai := ahead_in (m := m) (L := K) (s := s) (by omega) (by omega) (by omega)
      rw [← unhide HA] at hai
      obtain ⟨A0, A9⟩ := hai
      have hcx := unhide HX wr hB
      have hxS := unhide HXS
      by_cases hlt : s < S
      · have hXx : X < x := by omega
        have hx2 : X + 1 = ((s + 1 : Nat) : Int) - (K : Int) := by omega
        obtain ⟨r0, r1⟩ := rows_in (m := m) (L := K) (s := s) (by omega) (by omega)
        have hfar := hide (refFar X wr (by omega) (by omega))
        have HQ : Hid (rows m K s = V (K - X.natAbs) m) := hide (by rw [hX]; rfl)
        have HS : Hid (A + rows m K s = ahead m K (s + 1)) := hide (by rw [ahead_succ, unhide HA])
        obtain ⟨D, hD⟩ : ∃ D, X.natAbs = D := ⟨_, rfl⟩
        rw [hD] at hfar HQ
        obtain ⟨J, hJ⟩ : ∃ J, K - D = J := ⟨_, rfl⟩
        rw [hJ] at HQ
        have hsub : (K : Int) - (D : Int) = (J : Int) := by omega
        have hJ8 : J ≤ 8 := by omega
        have hcnt := hide (refCount m J (by omega) hJ8 wr)
        rw [← unhide HQ] at hcnt
        obtain ⟨Q, hQ⟩ : ∃ Q, rows m K s = Q := ⟨_, rfl⟩
        rw [hQ] at hcnt HS r0 r1
        have hX0 : -8 ≤ X := by omega
        have hX8 : X ≤ 8 := by omega
        have HX2 := hide hx2
        clear hQ HQ hD hJ HA hx2
        have HXe := hide hX
        clear hX hxS
        go_wp2_with fail
        refine (unhide hfar).mono ?_
        rintro e w2 ⟨rfl, rfl⟩
        go_wp2_with fail
        refine (unhide hcnt).mono ?_
        rintro e w3 ⟨rfl, hb3⟩
        go_wp2
        go_roundw
        case rel => exact ⟨s + 1, A + Q, X + 1, by omega, by go_num, unhide HX2, by go_num, HS, hB.trans (hb3.mono hB.size)⟩
        case measure => have := unhide HXe; have := unhide HXS; simp [intOf]; omega
      · obtain rfl : s = S := by omega
        have hXx : X = x := by omega
        subst hXx
        have hrd := hd.below hB
        have HE : Hid (A + P = rk (X :: r) K) := hide (by rw [unhide HR, unhide HA])
        have hend : ∀ (a' : Option Addr) (cap' : Nat), m ≤ cap' → cap' ≤ 9223372036854775807 → Row wr a' r → Calls Tryd.prog 16 #[.slice a' m cap'] wr fun e w' => e = .returned (.int .i64 P) ∧ Below wr.heap.size wr w' := fun a' cap' h1 h2 h3 => unhide HI a' cap' wr h1 h2 h3
        have HN := hide hend
        have HXe := hide hX
        clear hend HI HR HA hX hxS
        by_cases hc1 : cap = 1
        · subst hc1
          obtain rfl := unhide hr1 rfl
          obtain rfl : m = 0 := by omega
          go_wp2_with fail
          refine (unhide HN _ 0 (Nat.le_refl _) (by omega) (Or.inl rfl)).mono ?_
          rintro e w4 ⟨rfl, hb4⟩
          go_wp2
          go_ret
          exact ⟨ret_int (unhide HE), hB.trans (hb4.mono hB.size)⟩
        · go_wp2_with fail
          rw [unhide HM1]
          refine (unhide HN _ (cap - 1) hcm (by omega) hrd).mono ?_
          rintro e w4 ⟨rfl, hb4⟩
          go_wp2
          go_ret
          exact ⟨ret_int (unhide HE), hB.trans (hb4.mono hB.size)⟩

set_option maxRecDepth 100000 in
set_option maxHeartbeats 8000000 in
theorem refRow (n : Nat) : ∀ (k : Nat) (r : Int) (w : World), n ≤ 6 → k ≤ 8 → 0 ≤ r → Hid (r < V k n) →
    Calls Tryd.prog 18 #[.int .i64 n, .int .i64 k, .int .i64 r] w fun e w' => ∃ v l, e = .returned v ∧ Has w' w.heap.size v l ∧ Hid (Is n k r l) ∧ Below w.heap.size w w' := by
  induction n with
  | zero =>
    intro k r w hn hk h0 h1
    have HI : Hid (Is 0 k r []) := hide ((wants_all 0 k r).done rfl hk h0 (unhide h1))
    go_enter Tryd.func18, Tryd.ntmps18
    go_wp2
    go_ret
    exact ⟨_, [], rfl, Has.nil _ _, HI, Below.refl _ _⟩
  | succ n ih =>
    intro k r w hn hk h0 h1
    have hr9 : r ≤ 20256 := by have h2 := unhide h1; have h3 := (V_in k (n + 1) (by omega) (by omega)).2; omega
    have HI := hide ih
    obtain ⟨N, hN⟩ : ∃ N : Int, N = ((n + 1 : Nat) : Int) := ⟨_, rfl⟩
    rw [← hN]
    have hN1 : N - 1 = (n : Int) := by omega
    have hN2 : (N == 0) = false := by simp; omega
    have hN0 : 0 ≤ N := by omega
    have hN9 : N ≤ 6 := by omega
    have hn5 : n ≤ 5 := by omega
    clear hN ih hn
    have hfar0 := hide (refFar (-(k : Int)) w (by omega) (by omega))
    rw [show (-(k : Int)).natAbs = k by omega] at hfar0
    have hkk : (k : Int) - (k : Int) = 0 := by omega
    have hcnt0 := hide (refCount n 0 (by omega) (by omega) w)
    rw [← show rows n k 0 = V 0 n by rw [rows_first, V_zero]] at hcnt0
    obtain ⟨Q0, hQ0⟩ : ∃ Q, rows n k 0 = Q := ⟨_, rfl⟩
    rw [hQ0] at hcnt0
    have HQ0 := hide hQ0.symm
    clear hQ0
    go_enter Tryd.func18, Tryd.ntmps18
    go_wp2_with fail
    refine (unhide hfar0).mono ?_
    rintro e w1 ⟨rfl, rfl⟩
    go_wp2_with fail
    refine (unhide hcnt0).mono ?_
    rintro e w1 ⟨rfl, hb1⟩
    clear hfar0 hcnt0
    go_wp2
    go_loopw [2, 7, 8] (fun v2 v7 v8 wr => ∃ (s : Nat) (A X Q : Int), s ≤ 2 * k ∧ v7 = .int .i64 X ∧ Hid (X = (s : Int) - (k : Int)) ∧ v2 = .int .i64 A ∧ Hid (A = r - ahead n k s) ∧ 0 ≤ A ∧ v8 = .int .i64 Q ∧ Hid (Q = rows n k s) ∧ Below w.heap.size w wr) (fun _ v _ _ => ((k : Int) - intOf v).toNat)
    case atStart => exact ⟨0, r, -(k : Int), Q0, Nat.zero_le _, by go_num, hide (by omega), rfl, hide (by rw [ahead_zero]; omega), h0, rfl, HQ0, hb1⟩
    case round =>
      obtain ⟨s, A, X, Q, hs, rfl, HX, rfl, HA, hA0, rfl, HQ, hB⟩ := hrel
      clear hb1 HQ0
      have hA9 : A ≤ 20256 := by have h2 := (ahead_in (m := n) (L := k) (s := s) (by omega) (by omega) (by omega)).1; have h3 := unhide HA; omega
      have hq := rows_in (m := n) (L := k) (s := s) (by omega) (by omega)
      rw [← unhide HQ] at hq
      obtain ⟨q0, q9⟩ := hq
      have hX0 : -(k : Int) ≤ X := by have := unhide HX; omega
      have hX1 : X ≤ (k : Int) := by have := unhide HX; omega
      have hfarX := hide (fun W => refFar X W (by omega) (by omega))
      obtain ⟨D, hD⟩ : ∃ D, X.natAbs = D := ⟨_, rfl⟩
      obtain ⟨J, hJ⟩ : ∃ J, k - D = J := ⟨_, rfl⟩
      by_cases hge : Q ≤ A
      · have hs2 : s < 2 * k := by
          rcases Nat.lt_or_ge s (2 * k) with h | h
          · exact h
          · obtain rfl : s = 2 * k := by omega
            have h2 := ahead_all (m := n) (L := k) (by omega) (by omega)
            rw [ahead_succ] at h2
            have h3 := unhide h1
            have h4 := unhide HA
            have h5 := unhide HQ
            omega
        have hX2 : X + 1 ≤ (k : Int) := by have := unhide HX; omega
        have hfar := hide (refFar (X + 1) wr (by omega) (by omega))
        have HX2 : Hid (X + 1 = ((s + 1 : Nat) : Int) - (k : Int)) := hide (by have := unhide HX; omega)
        have HA2 : Hid (A - Q = r - ahead n k (s + 1)) := hide (by rw [ahead_succ, unhide HA, unhide HQ]; omega)
        have HQ2 : Hid (rows n k (s + 1) = V (k - (X + 1).natAbs) n) := hide (by rw [unhide HX2]; rfl)
        obtain ⟨D', hD'⟩ : ∃ D', (X + 1).natAbs = D' := ⟨_, rfl⟩
        rw [hD'] at hfar HQ2
        obtain ⟨J', hJ'⟩ : ∃ J', k - D' = J' := ⟨_, rfl⟩
        rw [hJ'] at HQ2
        have hsub : (k : Int) - (D' : Int) = (J' : Int) := by omega
        have hJ8 : J' ≤ 8 := by omega
        have hcnt := hide (refCount n J' (by omega) hJ8 wr)
        rw [← unhide HQ2] at hcnt
        obtain ⟨Q', hQ'⟩ : ∃ Q', rows n k (s + 1) = Q' := ⟨_, rfl⟩
        rw [hQ'] at hcnt
        have HQ' := hide hQ'.symm
        clear hQ' HQ2 hD' hJ' hD hJ hfarX HA HQ
        go_wp2_with fail
        refine (unhide hfar).mono ?_
        rintro e w2 ⟨rfl, rfl⟩
        go_wp2_with fail
        refine (unhide hcnt).mono ?_
        rintro e w3 ⟨rfl, hb3⟩
        go_wp2
        go_roundw
        case rel => exact ⟨s + 1, A - Q, X + 1, Q', by omega, by go_num, HX2, by go_num, HA2, by omega, rfl, HQ', hB.trans (hb3.mono hB.size)⟩
        case measure => simp [intOf]; omega
      · have hsub : (k : Int) - (D : Int) = (J : Int) := by omega
        have hJ8 : J ≤ 8 := by omega
        have HV : Hid (A < V J n) := hide (by
          have h2 : rows n k s = V (k - X.natAbs) n := by rw [unhide HX]; rfl
          rw [hD, hJ, ← unhide HQ] at h2
          omega)
        have hrec := hide (fun W => unhide HI J A W (by omega) hJ8 hA0 HV)
        have HC : Hid (∀ m, Is n J A m → Is (n + 1) k r (X :: m)) := hide (fun m hm => by
          have e := unhide HX
          rw [e]
          refine is_cons hs ?_
          rw [← e, ← unhide HA, hD, hJ]
          exact hm)
        rw [hD] at hfarX
        clear hD hJ HI HX HA HQ
        have hBs := hB.size
        go_wp2_with (first
          | (at_builtin; refine wpList_app _ rfl _ _ rfl w.heap.size _ [] [X] _ _ rfl (Has.nil _ _) rfl (row_one _ _ _) (by simp) (by simp; omega) ?_; intro v3 w3 k3 g3 at3)
          | fail)
        obtain ⟨d1, d2⟩ := stepped_plain (Has.nil wr w.heap.size) hBs k3 g3 at3
        have hB3 := hB.trans d1
        rw [List.nil_append] at k3
        clear d1 d2 g3 at3 hB hBs
        refine (unhide hfarX w3).mono ?_
        rintro e w4 ⟨rfl, rfl⟩
        go_wp2_with fail
        refine (unhide hrec w3).mono ?_
        rintro e w5 ⟨v5, l5, rfl, h5, H5, hb5⟩
        have hB5 := hB3.trans (hb5.mono hB3.size)
        have k5 := k3.below hb5
        obtain ⟨p5, q5, rfl, r5⟩ := h5.row
        have hl5 : Hid ([X].length + l5.length ≤ 1000000) := hide (by rw [(unhide H5).1]; simp; omega)
        have hBs5 := hB5.size
        go_wp2_with (at_builtin; refine wpList_app _ rfl _ _ rfl w.heap.size v3 [X] l5 p5 q5 rfl k5 rfl r5 (unhide hl5) hBs5 ?_; intro v6 w6 k6 g6 at6)
        go_ret
        exact ⟨_, _, rfl, k6, hide (unhide HC _ (unhide H5)), hB5.grown g6 hBs5 (fun r e => (k5.lt r e).1)⟩

end Go.Proofs.YtjnmogmagngenacDoor.Pls
