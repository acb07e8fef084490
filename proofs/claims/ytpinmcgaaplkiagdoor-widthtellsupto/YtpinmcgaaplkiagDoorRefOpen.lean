/-
  hornref2.Open: by its contract.
-/
import Derived.Test.YtpinmcgaaplkiagDoorRefPut
import Derived.Test.YtpinmcgaaplkiagDoorStr
namespace Go.Proofs.YtpinmcgaaplkiagDoor.Wid
open Go.RowKit
open Go.Proofs.YtpinmcgaaplkiagDoor.Tre Go.Proofs.YtpinmcgaaplkiagDoor.Scl Go.Proofs.YtpinmcgaaplkiagDoor.Bnd Go.Proofs.YtpinmcgaaplkiagDoor.Hrn
set_option linter.unusedVariables false

theorem upto_add (f : Nat → Int) (n k : Nat) : upto f (n + k) = upto f n ++ upto (fun i => f (n + i)) k := by
  induction k with
  | zero => simp [upto]
  | succ k ih => rw [← Nat.add_assoc, upto_succ, ih, upto_succ, List.append_assoc]
theorem opn_step (b : List Int) (j : Nat) : upto (opnF b) (8 * j) ++ bin 8 (at0 b j) = upto (opnF b) (8 * (j + 1)) := by
  rw [show 8 * (j + 1) = 8 * j + 8 by omega, upto_add]
  congr 1
  rw [eq_upto (bin 8 (at0 b j)), bin_length]
  exact upto_congr fun i hi => (opnF_at b j i hi).symm
/-- What is taken next: the half of what so many bits bear. -/
def pw : Nat → Int
  | 0 => 0
  | m + 1 => 2 ^ m
theorem pw_half (m : Nat) : Int.tdiv (2 ^ m) 2 = pw m := by
  cases m with
  | zero => rfl
  | succ m =>
    rw [pw, two_succ, Int.tdiv_eq_ediv_of_nonneg (by have := two_pos m; omega)]
    omega
theorem run_idx (s : ByteArray) (i : Nat) (h : i < s.size) (w : World) : (Instr.index 9 (.string s) (.int .i64 i)).run Tryd.prog w = .ok (.int .u8 (at0 (byt s) i)) w := by
  rw [run_index_string w 9 s .i64 i Tryd.underlying9, dif_pos ⟨by omega, by omega⟩]
  have e : ((i : Int)).toNat = i := by omega
  rw [← byt_at s h]
  simp only [e]

set_option maxRecDepth 100000 in
set_option maxHeartbeats 8000000 in
theorem refOpen (s : ByteArray) (w : World) (h50 : s.size ≤ 1000) :
    Calls Tryd.prog 22 #[.string s] w fun e w' => ∃ v, e = .returned v ∧ Has w' w.heap.size v (opn (byt s)) ∧ Below w.heap.size w w' := by
  have HIX : Hid (∀ i, i < s.size → ∀ W, (Instr.index 9 (.string s) (.int .i64 i)).run Tryd.prog W = .ok (.int .u8 (at0 (byt s) i)) W) := hide (fun i h W => run_idx s i h W)
  have HZ := hide (byt_length s)
  have HBT : Hid (∀ i, i < s.size → 0 ≤ at0 (byt s) i ∧ at0 (byt s) i ≤ 255) := hide (fun i hi => by
    have hi' : i < (byt s).length := by rw [unhide HZ]; exact hi
    have e : at0 (byt s) i = (byt s)[i] := by simp [at0, hi']
    have := byt_byts s (byt s)[i] (List.getElem_mem hi')
    omega)
  have HOP : Hid (opn (byt s) = upto (opnF (byt s)) (8 * (byt s).length)) := hide rfl
  rw [unhide HZ] at HOP
  obtain ⟨bs, hbs⟩ : ∃ bs, byt s = bs := ⟨_, rfl⟩
  rw [hbs] at HIX HBT HOP ⊢
  obtain ⟨od, hod⟩ : ∃ od, opn bs = od := ⟨_, rfl⟩
  rw [hod] at HOP ⊢
  obtain ⟨N, hN⟩ : ∃ N, s.size = N := ⟨_, rfl⟩
  have hsz : ∀ W, (Builtin.len_ #[9] 3 #[.string s]).run Tryd.prog W = .ok (.int .i64 (N : Int)) W := fun W => by rw [run_len_string W 9 3 s Tryd.underlying9, hN]; rfl
  rw [hN] at h50 HIX HBT HOP
  have HO0 : Hid (upto (opnF bs) (8 * 0) = []) := hide rfl
  clear hbs hod hN HZ
  go_enter Tryd.func22, Tryd.ntmps22
  go_wp2
  go_loopw [3, 4] (fun v i wr => ∃ j : Nat, j ≤ N ∧ i = .int .i64 j ∧ Has wr w.heap.size v (upto (opnF bs) (8 * j)) ∧ Below w.heap.size w wr) (fun _ i _ => N - (intOf i).toNat)
  case atStart => exact ⟨0, Nat.zero_le _, rfl, by rw [unhide HO0]; exact Has.nil _ _, Below.refl _ _⟩
  case round =>
    obtain ⟨j, hj, rfl, hv, hB⟩ := hrel
    clear HO0
    by_cases hlt : j < N
    · have hix := unhide HIX j hlt
      obtain ⟨z0, z9⟩ := unhide HBT j hlt
      have HST := hide (opn_step bs j)
      obtain ⟨Z0, hZ0⟩ : ∃ Z, at0 bs j = Z := ⟨_, rfl⟩
      rw [hZ0] at hix z0 z9 HST
      have HP0 : Hid ((128 : Int) = pw 8) := hide rfl
      have HLN : Hid ((upto (opnF bs) (8 * (j + 1))).length ≤ 8008) := hide (by rw [upto_length]; omega)
      obtain ⟨tg, htg⟩ : ∃ tg, upto (opnF bs) (8 * (j + 1)) = tg := ⟨_, rfl⟩
      have HTG := hide htg
      rw [htg] at HST HLN
      obtain ⟨o0, ho0⟩ : ∃ o0, upto (opnF bs) (8 * j) = o0 := ⟨_, rfl⟩
      rw [ho0] at hv HST
      have HZ9 : Hid (Z0 < 2 ^ 8) := hide (by omega)
      clear hZ0 htg ho0
      go_wp2
      go_loopw [3, 5, 6] (fun v p n wr => ∃ (m : Nat) (Q Z : Int) (O : List Int), m ≤ 8 ∧ p = .int .i64 Q ∧ n = .int .i64 Z ∧ Hid (Q = pw m) ∧ 0 ≤ Z ∧ Hid (Z < 2 ^ m) ∧ Has wr w.heap.size v O ∧ Hid (O ++ bin m Z = tg) ∧ Below w.heap.size w wr) (fun _ p _ _ => (intOf p).toNat)
      case atStart => exact ⟨8, 128, Z0, _, by omega, rfl, rfl, HP0, z0, HZ9, hv, HST, hB⟩
      case round =>
        clear hv hB HST HP0 HZ9 hix z0 z9
        obtain ⟨m, Q, Z, O, hm, rfl, rfl, HQ, z0, HZ9, hv, HO, hB⟩ := hrel
        cases m with
        | zero =>
          obtain rfl : Q = 0 := unhide HQ
          have hv2 : Has wr w.heap.size u3 (upto (opnF bs) (8 * (j + 1))) := by
            rw [unhide HTG, ← unhide HO, bin, List.append_nil]
            exact hv
          clear HO hv HQ
          go_wp2
          go_roundw
          case rel => exact ⟨j + 1, by omega, by go_num, hv2, hB⟩
          case measure => simp [intOf]; omega
        | succ m =>
          have z9 := unhide HZ9
          rw [two_succ] at z9
          have t1 := pw_half m
          have HPM : Hid (pw m = pw m) := hide rfl
          obtain ⟨g1, g9⟩ := two_le (k := m) (by omega)
          have HO2 : Hid ((O ++ [Z / 2 ^ m]) ++ bin m (Z % 2 ^ m) = tg) := hide (by rw [← unhide HO, bin]; simp)
          have HMM : Hid (Z % 2 ^ m < 2 ^ m) := hide (mod_in Z).2
          obtain rfl : Q = 2 ^ m := unhide HQ
          have HGM : Hid ((2 : Int) ^ m = 2 ^ m) := hide rfl
          have hpm : 0 ≤ pw m ∧ pw m < 2 ^ m := by
            cases m with
            | zero => exact ⟨by simp [pw], by simp [pw]⟩
            | succ m => rw [pw, two_succ]; have := two_pos m; omega
          obtain ⟨G, hG⟩ : ∃ G : Int, 2 ^ m = G := ⟨_, rfl⟩
          obtain ⟨V, hV⟩ : ∃ V : Int, pw m = V := ⟨_, rfl⟩
          have HV : Hid (V = pw m) := hide hV.symm
          rw [hG] at z9 t1 g1 g9 HO2 HMM hpm ⊢
          rw [hV] at t1 hpm
          obtain ⟨v0, v9⟩ := hpm
          have t2 : Int.tdiv Z G = Z / G := Int.tdiv_eq_ediv_of_nonneg z0
          have t3 : Int.tmod Z G = Z % G := Int.tmod_eq_emod_of_nonneg z0
          have hd : decide (0 < G) = true := by simp; omega
          have hg0 : (G == 0) = false := by rw [beq_eq_false_iff_ne]; omega
          have m0 : 0 ≤ Z % G := Int.emod_nonneg _ (by omega)
          have m9 : Z % G < G := Int.emod_lt_of_pos _ (by omega)
          have d0 : 0 ≤ Z / G := Int.ediv_nonneg z0 (by omega)
          have d9 : Z / G ≤ 1 := by
            have : Z / G < 2 := (Int.ediv_lt_iff_lt_mul (by omega)).2 (by omega)
            omega
          have hln : Hid (O.length + 1 ≤ 17592186044416) := hide (by
            have e := congrArg List.length (unhide HO)
            rw [List.length_append] at e
            have := unhide HLN
            omega)
          have HZ2 : Hid (Z % G < 2 ^ m) := hide (by rw [hG]; exact m9)
          obtain ⟨D, hD⟩ : ∃ D, Z / G = D := ⟨_, rfl⟩
          obtain ⟨M, hM⟩ : ∃ M, Z % G = M := ⟨_, rfl⟩
          rw [hD] at HO2 t2 d0 d9
          rw [hM] at HO2 t3 m0 m9 HZ2
          have hWs := hB.size
          clear hG hV hD hM HO HQ HZ9 HGM HPM HMM
          go_wp2_with (at_builtin; refine wpList_appL _ rfl _ _ rfl w.heap.size u3 O [D] _ _ rfl (hv.alloc _) rfl (row_one _ _ _) (unhide hln) (by simp; omega) ?_; intro s' w6 k6 g6 at6)
          obtain ⟨d1, d2⟩ := stepped_plain hv hWs k6 g6 at6
          have hB6 := hB.trans d1
          clear hv hB d1 d2 g6 at6
          go_wp2
          go_roundw
          case rel => exact ⟨m, V, M, _, by omega, by first | rfl | go_num, by first | rfl | go_num, HV, m0, HZ2, k6, HO2, hB6⟩
          case measure => simp [intOf]; omega
    · obtain rfl : j = N := by omega
      rw [← unhide HOP] at hv
      obtain ⟨p9, n9, q9, rfl⟩ := hv.shape
      go_wp2
      go_ret
      exact ⟨_, rfl, hv, hB⟩

end Go.Proofs.YtpinmcgaaplkiagDoor.Wid
