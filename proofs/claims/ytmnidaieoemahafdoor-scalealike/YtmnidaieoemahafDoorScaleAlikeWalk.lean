/-
  The walk of hornlaw4.ScaleAlike.
-/
import Derived.Test.YtmnidaieoemahafDoorScaleOf
import Derived.Test.YtmnidaieoemahafDoorTold
namespace Go.Proofs.YtmnidaieoemahafDoor.ScaleAlikeLaw
open Go.RowKit
open Go.Proofs.YtmnidaieoemahafDoor.Tre Go.Proofs.YtmnidaieoemahafDoor.Scl Go.Proofs.YtmnidaieoemahafDoor.Aser
set_option linter.unusedVariables false

/-- The first is t, all others are q. -/
def al (t q : Int) (m : Nat) : List Int := upto (fun i => if i = 0 then t else q) m
theorem al_length (t q : Int) (m : Nat) : (al t q m).length = m := upto_length _ _
theorem al_at (t q : Int) {m i : Nat} (h : i < m) : at0 (al t q m) i = if i = 0 then t else q := upto_at _ h
theorem al_rep (e : Int) (m : Nat) : al e e m = List.replicate m e := by
  refine eq_of_at (by rw [al_length, List.length_replicate]) fun i hi => ?_
  rw [al_length] at hi
  rw [al_at e e hi]
  simp [at0, hi]
theorem al_pfx (t q : Int) (m j : Nat) (h : j < m) : pfx (al t q m) (j + 1) = t + q * j := by
  induction j with
  | zero => rw [pfx, pfx, al_at t q h]; simp
  | succ j ih =>
    rw [pfx, ih (by omega), al_at t q h, if_neg (by omega), Int.natCast_add, Int.mul_add]
    simp; omega
theorem al_tot (t q : Int) (m : Nat) : tot (al t q (m + 1)) = t + q * m := by
  unfold tot
  rw [al_length, al_pfx t q (m + 1) m (by omega)]
theorem al_best {t q : Int} (m : Nat) (h : q ≤ t) : IsBest (al t q (m + 1)) 0 := by
  refine ⟨by rw [al_length]; omega, fun i hi => ?_, fun i hi => by omega⟩
  rw [al_length] at hi
  rw [al_at t q hi, al_at t q (by omega), if_pos rfl]
  split <;> omega
theorem al_set (t q s : Int) (m : Nat) : (al t q (m + 1)).set 0 s = al s q (m + 1) := by
  refine eq_of_at (by rw [List.length_set, al_length, al_length]) fun i hi => ?_
  rw [List.length_set, al_length] at hi
  rw [at0_set (by rw [al_length]; omega), al_at t q hi, al_at s q hi]
  split <;> rfl
theorem al_good {t q : Int} {m : Nat} (h0 : 1 ≤ q) (h : q ≤ t) (hm : m + 1 ≤ 40) : Scl.Good (al t q (m + 1)) := by
  have hq : 0 ≤ q * (m : Int) := Int.mul_nonneg (by omega) (by omega)
  refine ⟨by rw [al_length]; exact hm, fun i hi => ?_, by rw [al_tot]; omega⟩
  rw [al_length] at hi
  rw [al_at t q hi]
  split <;> omega
theorem al_fit {q : Int} {m : Nat} (h0 : 1 ≤ q) (hm : m + 1 ≤ 40) : ∀ (k : Nat) (t : Int), q ≤ t → t + q * m + k = 256 → fit (al t q (m + 1)) = al (256 - q * m) q (m + 1) := by
  intro k
  induction k with
  | zero =>
    intro t ht hk
    rw [fit_done (by rw [al_tot]; omega)]
    congr 1
    omega
  | succ k ih =>
    intro t ht hk
    have hne : tot (al t q (m + 1)) ≠ 256 := by rw [al_tot]; omega
    rw [← fit_next (al_good h0 ht hm) hne, nxt_is (al_best m ht), al_tot, if_neg (by omega), al_at t q (by omega), if_pos rfl, al_set]
    exact ih (t + 1) (by omega) (by omega)

theorem al_cf {e : Int} {m : Nat} (h1 : 1 ≤ e) (h9 : e ≤ 1000000) (hm : m + 1 ≤ 40) : cf (al e e (m + 1)) = 0 := by
  have hq : 0 ≤ e * (m : Int) := Int.mul_nonneg (by omega) (by omega)
  rw [cf_sum (by rw [al_length]; omega) (by rw [al_length]; omega) (fun i hi => by
    rw [al_length] at hi
    rw [al_at e e hi]
    split <;> omega), al_tot, if_neg (by omega)]
theorem al_base {e : Int} {m : Nat} (h1 : 1 ≤ e) (hm : m + 1 ≤ 40) : base (al e e (m + 1)) = al (256 / ((m + 1 : Nat) : Int)) (256 / ((m + 1 : Nat) : Int)) (m + 1) := by
  refine eq_of_at (by rw [base_length, al_length, al_length]) fun i hi => ?_
  rw [base_length, al_length] at hi
  have hq : 6 ≤ 256 / ((m + 1 : Nat) : Int) := by
    have h2 : (6 : Int) ≤ 256 / ((m + 1 : Nat) : Int) := (Int.le_ediv_iff_mul_le (by omega)).2 (by omega)
    exact h2
  have hd : e * 256 / (e + e * (m : Int)) = 256 / ((m + 1 : Nat) : Int) := by
    have e1 : e + e * (m : Int) = e * ((m + 1 : Nat) : Int) := by rw [Int.natCast_add, Int.mul_add]; simp; omega
    rw [e1]
    exact Int.mul_ediv_mul_of_pos _ _ (by omega)
  rw [base_at _ (by rw [al_length]; exact hi), al_at _ _ hi, al_at _ _ hi, al_tot]
  have e2 : (if i = 0 then e else e) = e := by split <;> rfl
  have e3 : (if i = 0 then (256 / ((m + 1 : Nat) : Int)) else (256 / ((m + 1 : Nat) : Int))) = 256 / ((m + 1 : Nat) : Int) := by split <;> rfl
  rw [e2, e3]
  unfold shr
  rw [hd, if_neg (by omega), if_neg (by omega)]
/-- All shares but the first are alike. -/
theorem alike {e : Int} {m : Nat} {q : Int} (h1 : 1 ≤ e) (hm : m + 1 ≤ 40) (hq : 256 / ((m + 1 : Nat) : Int) = q) : scale (List.replicate (m + 1) e) = al (256 - q * m) q (m + 1) ∧ 6 ≤ q ∧ q ≤ 256 ∧ 0 ≤ q * (m : Int) ∧ q * (m : Int) ≤ 256 := by
  have h6 : 6 ≤ q := by
    have h2 : (6 : Int) ≤ 256 / ((m + 1 : Nat) : Int) := (Int.le_ediv_iff_mul_le (by omega)).2 (by omega)
    omega
  have hle : q * ((m + 1 : Nat) : Int) ≤ 256 := by rw [← hq]; exact Int.ediv_mul_le 256 (by omega)
  have h0 : 0 ≤ q * (m : Int) := Int.mul_nonneg (by omega) (by omega)
  rw [Int.natCast_add, Int.mul_add] at hle
  simp at hle
  refine ⟨?_, h6, by omega, h0, by omega⟩
  rw [← al_rep]
  unfold scale
  rw [al_base h1 hm, hq]
  exact al_fit (by omega) hm (256 - q * m - q).toNat q (Int.le_refl _) (by omega)

/-- Out of bounds in one way, or within. -/
def Outs (n k : Int) : Prop := (n < 1) ∨ (1 ≤ n ∧ 40 < n) ∨ (1 ≤ n ∧ n ≤ 40 ∧ k < 1) ∨ (1 ≤ n ∧ n ≤ 40 ∧ 1 ≤ k ∧ 1000000 < k)
theorem outs_or (n k : Int) : Outs n k ∨ (∃ m : Nat, n = m ∧ 1 ≤ m ∧ m ≤ 40 ∧ 1 ≤ k ∧ k ≤ 1000000) := by
  unfold Outs
  by_cases h : 1 ≤ n ∧ n ≤ 40 ∧ 1 ≤ k ∧ k ≤ 1000000
  · exact Or.inr ⟨n.toNat, by omega, by omega, by omega, by omega, by omega⟩
  · exact Or.inl (by omega)

set_option maxRecDepth 100000 in
set_option maxHeartbeats 4000000 in
theorem walk_out (n k : Int) (w : World) (hL : Laid w) (h : Outs n k) :
    Calls Tryd.prog 4 #[.int .i64 n, .int .i64 k] w fun e w' => e = .returned (.bool true) ∧ Below w.heap.size w w' := by
  have hno := of_no none 0 [] w (by simp) (Or.inl rfl) (hide (by decide))
  have e5 : cf [] = 5 := by decide
  rw [e5] at hno
  rcases h with o1 | ⟨o1, o2⟩ | ⟨o1, o2, o3⟩ | ⟨o1, o2, o3, o4⟩
  all_goals
    go_enter Tryd.func4, Tryd.ntmps4
    go_wp2_with fail
    refine hno.mono ?_
    clear hno
    rintro e w1 ⟨rfl, hb1⟩
    go_wp2_with fail
    refine (error_is 5 w1 (hL.below hb1)).mono ?_
    rintro e w2 ⟨rfl, hb2⟩
    go_wp2
    go_ret
    exact ⟨rfl, Below.chain hb1 hb2⟩

set_option maxRecDepth 100000 in
set_option maxHeartbeats 4000000 in
theorem walk_in (M : Nat) (n : Int) (w : World) (hM1 : 1 ≤ M) (hM : M ≤ 40) (h1 : 1 ≤ n) (h9 : n ≤ 1000000) :
    Calls Tryd.prog 4 #[.int .i64 M, .int .i64 n] w fun e w' => e = .returned (.bool true) ∧ Below w.heap.size w w' := by
  obtain ⟨m, hm⟩ : ∃ m, M = m + 1 := ⟨M - 1, by omega⟩
  obtain ⟨Q, hQ⟩ : ∃ Q, 256 / (M : Int) = Q := ⟨_, rfl⟩
  obtain ⟨s1, s2, s3, s4, s5⟩ := alike (e := n) (m := m) (q := Q) h1 (by omega) (by rw [← hm]; exact hQ)
  have HCF : Hid (cf (List.replicate M n) = 0) := hide (by rw [hm, ← al_rep]; exact al_cf h1 h9 (by omega))
  rw [← hm] at s1
  have HS := hide s1
  have hdv : Int.tdiv 256 (M : Int) = Q := by rw [Int.tdiv_eq_ediv_of_nonneg (by omega)]; exact hQ
  have hM0 : ((M : Int) == 0) = false := by rw [beq_eq_false_iff_ne]; omega
  have hm2 : (M : Int) - 1 = (m : Int) := by omega
  have hmul : IntKind.i64.wrap ((m : Int) * Q) = Q * m := by rw [Int.mul_comm]; exact IntWalk.i64_in _ (by omega)
  obtain ⟨P, hP⟩ : ∃ P, Q * (m : Int) = P := ⟨_, rfl⟩
  rw [hP] at HS hmul s4 s5
  have hsub : IntKind.i64.wrap (256 - P) = 256 - P := IntWalk.i64_in _ (by omega)
  have hPP : (256 - P == 256 - P) = true := by simp
  have hQQ : (Q != Q) = false := by simp
  have hMM : ((M : Int) != (M : Int)) = false := by simp
  have HL : Hid ((List.replicate M n).length = M) := hide (by simp)
  have HAL : Hid ((al (256 - P) Q M).length = M) := hide (al_length _ _ _)
  have HA0 : Hid (at0 (al (256 - P) Q M) 0 = 256 - P) := hide (by rw [al_at _ _ (by omega), if_pos rfl])
  have HA1 : Hid (∀ k, 1 ≤ k → k < M → at0 (al (256 - P) Q M) k = Q) := hide (fun k h1 h2 => by rw [al_at _ _ h2, if_neg (by omega)])
  obtain ⟨L, hLL⟩ : ∃ L, al (256 - P) Q M = L := ⟨_, rfl⟩
  rw [hLL] at HS HAL HA0 HA1
  have HM := hide hm
  clear s1 hQ hP hm hLL
  go_enter Tryd.func4, Tryd.ntmps4
  go_wp2
  go_loopw [7, 8] (fun v i wr => ∃ j : Nat, j ≤ M ∧ i = .int .i64 j ∧ Has wr w.heap.size v (List.replicate j n) ∧ Below w.heap.size w wr) (fun _ i _ => M - (intOf i).toNat)
  case atStart => exact ⟨0, Nat.zero_le _, rfl, Has.nil _ _, Below.refl _ _⟩
  case round =>
    obtain ⟨j, hj, rfl, h9, hB9⟩ := hrel
    by_cases hlt : j < M
    · have er : Hid (List.replicate (j + 1) n = List.replicate j n ++ [n]) := hide List.replicate_succ'
      have hln : Hid ((List.replicate j n).length + 1 ≤ 1000000) := hide (by rw [List.length_replicate]; omega)
      have hWs := hB9.size
      go_wp2_with (at_builtin; refine wpList_app _ rfl _ _ rfl w.heap.size u7 (List.replicate j n) [n] _ _ rfl (h9.alloc _) rfl (row_one _ _ _) (unhide hln) (by simp; omega) ?_; intro s' w1 k1 g1 at1)
      obtain ⟨d1, d2⟩ := stepped_plain h9 hWs k1 g1 at1
      go_wp2
      go_roundw
      case rel => exact ⟨j + 1, by omega, by go_num, by rw [unhide er]; exact k1, hB9.trans d1⟩
      case measure => simp [intOf]; omega
    · obtain rfl : j = M := by omega
      obtain ⟨p9, q9, rfl, r9⟩ := h9.row
      obtain ⟨w9, hw9⟩ : ∃ w9, wr.heap.size = w9 := ⟨_, rfl⟩
      have hof := of_ok p9 q9 (List.replicate j n) wr r9 HCF
      rw [unhide HS] at hof
      rw [unhide HL] at hof ⊢
      go_wp2_with fail
      refine hof.mono ?_
      clear hof
      rintro e w10 ⟨v10, rfl, h10, hb10⟩
      have hB10 := hB9.trans (hb10.mono hB9.size)
      rw [hw9] at h10
      clear hw9 hb10
      obtain ⟨g, cc, rfl, hg0, hg1, hcc, hc9⟩ := h10.one (by rw [unhide HAL]; omega)
      rw [unhide HAL] at h10 ⊢
      clear r9 h9 hB9
      go_wp2
      go_loopw [11] (fun i wr => ∃ k : Nat, 1 ≤ k ∧ k ≤ j ∧ i = .int .i64 k ∧ Has wr w9 (.slice (some ⟨g, 0, none⟩) j cc) L ∧ Below w.heap.size w wr) (fun i _ => j - (intOf i).toNat)
      case atStart => exact ⟨1, by omega, by omega, rfl, h10, hB10⟩
      case round =>
        obtain ⟨k, hk1, hk2, rfl, hh, hB⟩ := hrel
        clear h10 hB10
        by_cases hlt : k < j
        · have c1 := hh.get (j := k) (by rw [unhide HAL]; exact hlt)
          rw [unhide HA1 k hk1 hlt] at c1
          go_wp2
          go_quiet (fail)
          go_wp2
          go_roundw
          case rel => exact ⟨k + 1, by omega, by omega, by go_num, hh, hB.trans ⟨rfl, rfl, rfl, Nat.le_refl _, fun _ _ => rfl⟩⟩
          case measure => simp [intOf]; omega
        · obtain rfl : k = j := by omega
          have c1 := hh.get (j := 0) (by rw [unhide HAL]; omega)
          rw [unhide HA0] at c1
          go_wp2
          go_quiet (fail)
          go_wp2
          go_ret
          exact ⟨rfl, hB.trans ⟨rfl, rfl, rfl, Nat.le_refl _, fun _ _ => rfl⟩⟩

theorem walk (n k : Int) (w : World) (hL : Laid w) (hwn : (Lit.int .i64 n).wf = true) (hwk : (Lit.int .i64 k).wf = true) :
    Calls Tryd.prog 4 #[.int .i64 n, .int .i64 k] w fun e w' => e = .returned (.bool true) ∧ Below w.heap.size w w' := by
  rcases outs_or n k with h | ⟨m, rfl, h1, h2, h3, h4⟩
  · exact walk_out n k w hL h
  · exact walk_in m k w h1 h2 h3 h4

end Go.Proofs.YtmnidaieoemahafDoor.ScaleAlikeLaw
