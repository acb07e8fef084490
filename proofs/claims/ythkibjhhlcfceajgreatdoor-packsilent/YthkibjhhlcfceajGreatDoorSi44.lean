/-
  The walk of hornlaw4.PackSilent.
-/
import Derived.Test.YthkibjhhlcfceajGreatDoorSi37
import Derived.Test.YthkibjhhlcfceajGreatDoorSi41
import Derived.Test.YthkibjhhlcfceajGreatDoorSi02
import Derived.Test.YthkibjhhlcfceajGreatDoorSi06
import Derived.Test.YthkibjhhlcfceajGreatDoorSi43
namespace Go.Proofs.YthkibjhhlcfceajGreatDoor.PackSilentLaw
open Go.RowKit
open Go.Proofs.YthkibjhhlcfceajGreatDoor.Tre Go.Proofs.YthkibjhhlcfceajGreatDoor.Frm Go.Proofs.YthkibjhhlcfceajGreatDoor.Pck Go.Proofs.YthkibjhhlcfceajGreatDoor.Ev Go.Proofs.YthkibjhhlcfceajGreatDoor.Aser Go.Proofs.YthkibjhhlcfceajGreatDoor.Hrn Go.Proofs.YthkibjhhlcfceajGreatDoor.Wid
set_option linter.unusedVariables false

theorem run_nul (w : World) (l : List Int) (h : l.length + 1 ≤ 1000000) : (Op.stringOp .add (str l) { data := #[0] }).run Tryz.prog w = .ok (.string (str (l ++ [0]))) w := run_cat w l [0] (by simpa using h)

theorem zeros (n : Nat) (h : n ≤ 1000) (w : World) : Calls Tryz.prog 13 #[.int .i64 n] w fun e w' => e = .returned (.string (str (List.replicate n 0))) ∧ w' = w := by
  have HS : Hid (∀ j : Nat, List.replicate j (0 : Int) ++ [0] = List.replicate (j + 1) 0) := hide (fun j => by rw [List.replicate_succ'])
  go_enter Tryz.func13, Tryz.ntmps13
  go_wp2
  go_loopw [3, 4] (fun v i wr => ∃ j : Nat, j ≤ n ∧ i = .int .i64 j ∧ v = .string (str (List.replicate j 0)) ∧ w = wr) (fun _ i _ => n - (intOf i).toNat)
  case atStart => exact ⟨0, Nat.zero_le _, rfl, rfl, rfl⟩
  case round =>
    obtain ⟨j, hj, rfl, rfl, rfl⟩ := hrel
    by_cases hlt : j < n
    · have hc := run_nul w (List.replicate j 0) (by rw [List.length_replicate]; omega)
      rw [unhide HS] at hc
      obtain ⟨z0, hz0⟩ : ∃ z, str (List.replicate j 0) = z := ⟨_, rfl⟩
      obtain ⟨z1, hz1⟩ : ∃ z, str (List.replicate (j + 1) 0) = z := ⟨_, rfl⟩
      have HZ1 := hide hz1
      rw [hz0, hz1] at hc
      rw [hz0]
      clear hz0 hz1
      go_wp2
      go_roundw
      case rel => exact ⟨j + 1, by omega, by go_num, by rw [unhide HZ1], by first | trivial | rfl⟩
      case measure => simp [intOf]; omega
    · obtain rfl : n = j := by omega
      obtain ⟨z0, hz0⟩ : ∃ z, str (List.replicate n 0) = z := ⟨_, rfl⟩
      have HZ0 := hide hz0
      rw [hz0]
      clear hz0
      go_wp2
      go_ret
      exact ⟨by rw [unhide HZ0]; rfl, rfl⟩

/-- No byte is no frame. -/
theorem none_none (qs : List Prt) : ¬ IsP (byt { data := #[] }) [1] 0 qs := fun h => by
  have hr := (frm_zero h.1).2.2.2
  have hl := hr.len
  have e : byt { data := #[] } = [] := rfl
  rw [e] at h
  have := (h.gain (i := 0) (by rw [hl]; simp)).2
  rw [opn_length] at this
  simp at this
theorem none_two {E : Int} {ps : List Prt} (h : UnpF (byt { data := #[] }) [1] 0 E ps) : E = 2 := by
  rcases h with ⟨h1, _⟩ | ⟨_, h⟩
  · exact absurd (by decide +kernel) h1
  · rcases h with ⟨h1, _⟩ | ⟨_, h⟩
    · exact absurd ⟨by omega, by omega⟩ h1
    · rcases h with ⟨_, h2, _⟩ | ⟨h1, _⟩
      · exact h2
      · exact absurd h1 (none_none _)

set_option maxRecDepth 100000 in
set_option maxHeartbeats 32000000 in
theorem walk0 (a : Option Addr) (cap : Nat) (s : List Int) (B : Int) (w : World) (hL : Laid w) (hr : Row w a s) (zs : s.length ≤ 17592186044416) :
    Calls Tryz.prog 4 #[.slice a s.length cap, .int .i64 B] w fun e w' => e = .returned (.bool true) ∧ Below w.heap.size w w' := by
  have hgd := guard_err
  have hne := neq_err
  have heq := eql_err
  have CBK := Bnd.check a cap s w (by omega) hr
  unfold Bnd.tells at CBK
  have CUN := hide (fun W h => Pck.unpack { data := #[] } (some ⟨w.heap.size, 0, none⟩) 1 [1] 0 W (by simp [ByteArray.size]) h (by simp))
  unfold UnpSays at CUN
  by_cases h0 : Bnd.bf s = 0 ∧ 0 ≤ B ∧ B ≤ 400 ∧ Bnd.total s % 2 = 0
  · obtain ⟨h1, h5, h6, h2⟩ := h0
    obtain ⟨n0, n8, hsz, n32⟩ := Bnd.bf_ok h1
    have CEN := hide (fun W p q (h : Row W p (upto (fun _ => 0) (Bnd.total s))) h' => Frm.encode p q (upto (fun _ => 0) (Bnd.total s)) a cap s B W h h' (by rw [upto_length]; omega) zs)
    rw [upto_length, upto_zeros] at CEN
    unfold EncSays at CEN
    have HE := hide (silent_zero (s := s) h1 h2 h5 h6)
    rw [unhide HE, errV_zero] at CEN
    have HM : Hid (∀ ps, EncL (List.replicate (Bnd.total s) 0) s B ps → Right s B ps ∧ PckF ps s B 0 ∧ oct (pbits ps) = List.replicate ((6 * s.length + 7) / 8) 0) := hide (fun ps (h : EncL (List.replicate (Bnd.total s) 0) s B ps) => by
      have hm : Made (Bnd.cuts (Lap.lap (List.replicate (Bnd.total s) 0)) s) s B ps := by
        rcases h with ⟨h, _⟩ | ⟨_, h⟩
        · exact absurd (unhide HE) h
        · exact h
      obtain ⟨k1, k2, _, _⟩ := silent_made h1 h2 h5 h6 hm
      exact ⟨k1, silent_pack h1 h5 h6 k1 k2⟩)
    have CPK := hide (fun p q ps W hp hs hz hz' => Pck.pack p q ps a cap s B W hp hs hz hz' zs)
    unfold PackSays at CPK
    rw [if_pos h1, h1, Bnd.errB_zero rfl] at CBK
    obtain ⟨TT, hTT⟩ : ∃ TT, Bnd.total s = TT := ⟨_, rfl⟩
    rw [hTT] at CBK CEN HM n32 h2
    obtain ⟨N, hN⟩ : ∃ N, s.length = N := ⟨_, rfl⟩
    have HN := hide hN
    rw [hN] at CBK CEN CPK HM n8 n0 ⊢
    obtain ⟨Q, hQ⟩ : ∃ Q, (6 * N + 7) / 8 = Q := ⟨_, rfl⟩
    rw [hQ] at HM
    have hQ9 : Q ≤ 7 := by omega
    have CZ := hide (fun W => zeros Q (by omega) W)
    have tQ : Int.tdiv (6 * (N : Int) + 7) 8 = (Q : Int) := by rw [Int.tdiv_eq_ediv_of_nonneg (by omega)]; omega
    have tm : Int.tmod (TT : Int) 2 = 0 := by rw [Int.tmod_eq_emod_of_nonneg (by omega)]; omega
    have d1 : decide (B < 0) = false := by simp; omega
    have d2 : decide (400 < B) = false := by simp; omega
    clear hTT hN hsz HE h1 h2 CUN hQ
    go_enter Tryz.func4, Tryz.ntmps4
    go_wp2_with fail
    refine CBK.mono ?_
    rintro e w1 ⟨rfl, hw1⟩
    obtain rfl : w = w1 := hw1.symm
    clear CBK hw1
    go_wp2_with (at_make; refine wpList_mk _ rfl _ rfl TT rfl (by omega) ?_; intro w2 hv2 hb2)
    go_wp2_with fail
    obtain ⟨-, rz⟩ := hv2.inRow rfl
    rw [upto_zeros] at rz
    refine (unhide CEN _ _ _ rz (hr.below hb2)).mono ?_
    rintro e w3 ⟨p3, q3, ps, rfl, P3, m3, m9, L3, hb3⟩
    obtain ⟨R3, z1, z2⟩ := unhide HM ps L3
    have hB3 := Below.chain hb2 hb3
    have HPN : Hid (ps.length = N) := hide (R3.len.trans (unhide HN))
    have HFL : Hid (∀ i, i < ps.length → (prt ps i).2.length ≤ 17592186044416) := hide (fun i hi => by
      have := (right_in R3 hi).1
      omega)
    have c4 := unhide CPK p3 q3 ps w3 P3 (hr.below hB3) (by rw [unhide HPN]; omega) HFL
    rw [unhide HPN] at c4 ⊢
    clear CEN CPK HM L3 R3 m3 m9 hv2 hb2 hb3 rz
    go_wp2_with fail
    refine c4.mono ?_
    clear c4
    rintro e w4 ⟨E, rfl, HF, hb4⟩
    obtain rfl := HF.one z1
    have hB4 := Below.chain hB3 hb4
    rw [pstr_ok, z2, errV_zero]
    obtain ⟨ZS, hZS⟩ : ∃ ZS, str (List.replicate Q 0) = ZS := ⟨_, rfl⟩
    rw [hZS] at CZ ⊢
    have hzz : (ZS.toList == ZS.toList) = true := by simp
    clear z1 z2 HF hZS hB3 hb4
    go_wp2_with fail
    refine (unhide CZ _).mono ?_
    rintro e w5 ⟨rfl, rfl⟩
    go_wp2
    go_ret
    exact ⟨rfl, hB4⟩
  · have hway : (∃ F, F ≠ 0 ∧ Bnd.bf s = F) ∨ (Bnd.bf s = 0 ∧ B < 0) ∨ (Bnd.bf s = 0 ∧ 0 ≤ B ∧ 400 < B) ∨ (Bnd.bf s = 0 ∧ 0 ≤ B ∧ B ≤ 400 ∧ Bnd.total s % 2 = 1 ∧ Bnd.total s ≤ 32) := by
      by_cases e1 : Bnd.bf s = 0
      · have := (Bnd.bf_ok e1).2.2.2
        by_cases e2 : B < 0
        · exact Or.inr (Or.inl ⟨e1, e2⟩)
        · by_cases e3 : 400 < B
          · exact Or.inr (Or.inr (Or.inl ⟨e1, by omega, e3⟩))
          · exact Or.inr (Or.inr (Or.inr ⟨e1, by omega, by omega, by have : ¬ Bnd.total s % 2 = 0 := fun h => h0 ⟨e1, by omega, by omega, h⟩; omega, this⟩))
      · exact Or.inl ⟨_, e1, rfl⟩
    have r1 := row_one w 1 3
    have hb1 : Below w.heap.size w (w.alloc (.cells #[.int .i64 1] 3)) := (Below.refl _ _).alloc (Nat.le_refl _) _
    have c2 := unhide CUN _ r1
    obtain ⟨N, hN⟩ : ∃ N, s.length = N := ⟨_, rfl⟩
    rw [hN] at CBK ⊢
    have HTO : Hid (∀ E ps, UnpF (byt { data := #[] }) [1] 0 E ps → E = 2) := hide (fun E ps h => none_two h)
    clear hN zs h0 CUN
    rcases hway with ⟨F, hF, e1⟩ | ⟨e1, e2⟩ | ⟨e1, e2, e3⟩ | ⟨e1, e2, e3, e4, e5⟩
    · rw [e1, if_neg hF, Bnd.errB_ne hF] at CBK
      clear e1
      go_enter Tryz.func4, Tryz.ntmps4
      go_wp2_with fail
      refine CBK.mono ?_
      rintro e w1 ⟨rfl, hw1⟩
      obtain rfl : w = w1 := hw1.symm
      clear CBK hw1
      go_wp2_with fail
      refine c2.mono ?_
      rintro e w2 ⟨E, p2, q2, ps, rfl, P2, m2, m9, HU, hb2⟩
      obtain rfl := unhide HTO E ps HU
      obtain ⟨PL, hPL⟩ : ∃ PL, ps.length = PL := ⟨_, rfl⟩
      rw [hPL]
      clear hPL HU c2
      have hB2 := Below.chain hb1 hb2
      go_wp2_with fail
      refine (error_any 2 _ (hL.below hB2)).mono ?_
      rintro e w3 ⟨rfl, hb3⟩
      go_wp2
      go_ret
      exact ⟨rfl, Below.chain hB2 hb3⟩
    all_goals (
      rw [if_pos e1, e1, Bnd.errB_zero rfl] at CBK
      obtain ⟨TT, hTT⟩ : ∃ TT, Bnd.total s = TT := ⟨_, rfl⟩
      rw [hTT] at CBK)
    · have d1 : decide (B < 0) = true := by simpa using e2
      clear e1 hTT
      go_enter Tryz.func4, Tryz.ntmps4
      go_wp2_with fail
      refine CBK.mono ?_
      rintro e w1 ⟨rfl, hw1⟩
      obtain rfl : w = w1 := hw1.symm
      clear CBK hw1
      go_wp2_with fail
      refine c2.mono ?_
      rintro e w2 ⟨E, p2, q2, ps, rfl, P2, m2, m9, HU, hb2⟩
      obtain rfl := unhide HTO E ps HU
      obtain ⟨PL, hPL⟩ : ∃ PL, ps.length = PL := ⟨_, rfl⟩
      rw [hPL]
      clear hPL HU c2
      have hB2 := Below.chain hb1 hb2
      go_wp2_with fail
      refine (error_any 2 _ (hL.below hB2)).mono ?_
      rintro e w3 ⟨rfl, hb3⟩
      go_wp2
      go_ret
      exact ⟨rfl, Below.chain hB2 hb3⟩
    · have d1 : decide (B < 0) = false := by simp; omega
      have d2 : decide (400 < B) = true := by simpa using e3
      clear e1 hTT
      go_enter Tryz.func4, Tryz.ntmps4
      go_wp2_with fail
      refine CBK.mono ?_
      rintro e w1 ⟨rfl, hw1⟩
      obtain rfl : w = w1 := hw1.symm
      clear CBK hw1
      go_wp2_with fail
      refine c2.mono ?_
      rintro e w2 ⟨E, p2, q2, ps, rfl, P2, m2, m9, HU, hb2⟩
      obtain rfl := unhide HTO E ps HU
      obtain ⟨PL, hPL⟩ : ∃ PL, ps.length = PL := ⟨_, rfl⟩
      rw [hPL]
      clear hPL HU c2
      have hB2 := Below.chain hb1 hb2
      go_wp2_with fail
      refine (error_any 2 _ (hL.below hB2)).mono ?_
      rintro e w3 ⟨rfl, hb3⟩
      go_wp2
      go_ret
      exact ⟨rfl, Below.chain hB2 hb3⟩
    · have d1 : decide (B < 0) = false := by simp; omega
      have d2 : decide (400 < B) = false := by simp; omega
      rw [hTT] at e4 e5
      have tm : Int.tmod (TT : Int) 2 = 1 := by rw [Int.tmod_eq_emod_of_nonneg (by omega)]; omega
      clear e1 hTT
      go_enter Tryz.func4, Tryz.ntmps4
      go_wp2_with fail
      refine CBK.mono ?_
      rintro e w1 ⟨rfl, hw1⟩
      obtain rfl : w = w1 := hw1.symm
      clear CBK hw1
      go_wp2_with fail
      refine c2.mono ?_
      rintro e w2 ⟨E, p2, q2, ps, rfl, P2, m2, m9, HU, hb2⟩
      obtain rfl := unhide HTO E ps HU
      obtain ⟨PL, hPL⟩ : ∃ PL, ps.length = PL := ⟨_, rfl⟩
      rw [hPL]
      clear hPL HU c2
      have hB2 := Below.chain hb1 hb2
      go_wp2_with fail
      refine (error_any 2 _ (hL.below hB2)).mono ?_
      rintro e w3 ⟨rfl, hb3⟩
      go_wp2
      go_ret
      exact ⟨rfl, Below.chain hB2 hb3⟩

end Go.Proofs.YthkibjhhlcfceajGreatDoor.PackSilentLaw
