/-
  hornref1.Unlap: by its contract.
-/
import Derived.Test.YthkibjhhlcfceaiGreatDoorCh09
import Derived.Test.YthkibjhhlcfceaiGreatDoorCh37
import Derived.Test.YthkibjhhlcfceaiGreatDoorCh39
import Derived.Test.YthkibjhhlcfceaiGreatDoorCh34
namespace Go.Proofs.YthkibjhhlcfceaiGreatDoor.Lap
open Go.RowKit
open Go.Proofs.YthkibjhhlcfceaiGreatDoor.Tre
set_option linter.unusedVariables false

theorem at_fr {l : List Int} {n j : Nat} (hn : n = l.length / 2) (h : j < n) : at0 (fr l) j = at0 l j := by subst hn; unfold fr at0; rw [List.getElem?_take, if_pos h]
theorem at_bk {l : List Int} {n : Nat} (hn : n = l.length / 2) (j : Nat) : at0 (bk l) j = at0 l (n + j) := by subst hn; unfold bk at0; rw [List.getElem?_drop]
theorem evs_step {l : List Int} {n j T : Nat} (hn : n = l.length / 2) (h : j < n) (hT : T = n + (j - 1)) : upto (evF (fr l) (bk l)) (j + 1) = upto (evF (fr l) (bk l)) j ++ [at0 l j - (at0 l T + at0 l (n + j) + 2) / 4] := by
  rw [upto_succ]
  unfold evF lf
  rw [at_fr hn h, at_bk hn, at_bk hn, hT]
theorem unlap_step {l : List Int} {n j T : Nat} (hn : n = l.length / 2) (h : j < n) (hT : T = if j + 1 < n then j + 1 else j) : flat (at0 (evs l)) (at0 (ods l)) (j + 1) = flat (at0 (evs l)) (at0 (ods l)) j ++ [at0 (evs l) j, at0 l (n + j) + (at0 (evs l) j + at0 (evs l) T) / 2] := by
  rw [flat_succ]
  have e : min (j + 1) ((evs l).length - 1) = T := by
    rw [evs_length, ← hn, hT]
    by_cases h3 : j + 1 < n
    · rw [if_pos h3, Nat.min_eq_left (by omega)]
    · rw [if_neg h3, Nat.min_eq_right (by omega)]; omega
  have e2 : at0 (ods l) j = odF (evs l) (bk l) j := by unfold ods; rw [← hn]; exact upto_at _ h
  rw [e2]
  unfold odF gs
  rw [at_bk hn, e]

theorem row_two' {w : World} {x y : Int} {t : TypeId} {n : Nat} (h : w.heap.size = n) : Row (w.alloc (.cells #[.int .i64 x, .int .i64 y] t)) (some ⟨n, 0, none⟩) [x, y] := by
  subst h; exact row_two w x y t

set_option maxRecDepth 100000 in
set_option maxHeartbeats 8000000 in
theorem refUnlap (a : Option Addr) (cap : Nat) (l : List Int) (w : World) (hl : l.length ≤ 32) (he : Hid (l.length = 2 * (l.length / 2))) (hi : In 4000 l) (hr : Row w a l) :
    Calls Tryz.prog 41 #[.slice a l.length cap] w fun e w' => ∃ v, e = .returned v ∧ Has w' w.heap.size v (unlap l) ∧ Below w.heap.size w w' := by
  obtain ⟨n, hn⟩ : ∃ n, n = l.length / 2 := ⟨_, rfl⟩
  have hdv : Int.tdiv (l.length : Int) 2 = (n : Int) := by rw [hn]; rfl
  have hn9 : n ≤ 16 := by omega
  have hN2 : 2 * n ≤ l.length := by omega
  have hN3 : l.length ≤ 2 * n := by have := unhide he; omega
  have HN := hide hn
  have hi2 : In (2 * 2000) l := hi
  have hin := evs_in (by omega) hi2
  have HLE : Hid ((evs l).length = n) := hide (by rw [evs_length]; exact hn.symm)
  obtain ⟨L, hL⟩ : ∃ L, l.length = L := ⟨_, rfl⟩
  rw [hL] at hdv hN2 hN3 hl ⊢
  have HL := hide hL
  clear hn hL
  go_enter Tryz.func41, Tryz.ntmps41
  go_wp2
  go_loopw [4, 6] (fun d i wr => ∃ j : Nat, j ≤ n ∧ i = .int .i64 j ∧ Has wr w.heap.size d (upto (evF (fr l) (bk l)) j) ∧ Below w.heap.size w wr) (fun _ i _ => n - (intOf i).toNat)
  case atStart => exact ⟨0, Nat.zero_le _, rfl, Has.nil _ _, Below.refl _ _⟩
  case round =>
    obtain ⟨j, hj, rfl, h1, hB⟩ := hrel
    by_cases hlt : j < n
    · obtain ⟨b, off, rfl, hc⟩ := row_cell (hr.below hB) (by rw [unhide HL]; omega)
      rw [unhide HL] at hc
      obtain ⟨T, hT⟩ : ∃ T, T = n + (j - 1) := ⟨_, rfl⟩
      have HS := hide (evs_step (unhide HN) hlt hT)
      obtain ⟨O, hO⟩ : ∃ O, O = n + j := ⟨_, rfl⟩
      rw [← hO] at HS
      have hjl : j < L := by omega
      have hOl : O < L := by omega
      have hTl : T < L := by omega
      have c1 := hc j hjl
      have c2 := hc O hOl
      have c3 := hc T hTl
      obtain ⟨x0, x1⟩ := hi.at (by omega) j
      obtain ⟨y0, y1⟩ := hi.at (by omega) O
      obtain ⟨z0, z1⟩ := hi.at (by omega) T
      obtain ⟨X, hX⟩ : ∃ X, at0 l j = X := ⟨_, rfl⟩
      obtain ⟨Y, hY⟩ : ∃ Y, at0 l O = Y := ⟨_, rfl⟩
      obtain ⟨Z, hZ⟩ : ∃ Z, at0 l T = Z := ⟨_, rfl⟩
      rw [hX] at c1 x0 x1 HS
      rw [hY] at c2 y0 y1 HS
      rw [hZ] at c3 z0 z1 HS
      clear hX hY hZ hc
      have hO2 : IntKind.i64.wrap ((n : Int) + (j : Int)) = (O : Int) := by rw [IntWalk.i64_in _ (by omega)]; omega
      have hln : Hid ((upto (evF (fr l) (bk l)) j).length + 1 ≤ 1000000) := hide (by rw [upto_length]; omega)
      by_cases h3 : 0 < j
      all_goals (first
        | (obtain ⟨P, hP⟩ : ∃ P, P = j - 1 := ⟨_, rfl⟩
           have hP2 : (j : Int) - 1 = (P : Int) := by omega
           have hT3 : IntKind.i64.wrap ((n : Int) + (P : Int)) = (T : Int) := by rw [IntWalk.i64_in _ (by omega)]; omega
           clear hT hP hO
           go_wp2
           go_quiet ((go_at_call 62; exact Calls.quiet_of_same (down4 (Z + Y + 2) _ (by omega) (by omega)))))
        | (obtain rfl : O = T := by omega
           obtain rfl : Y = Z := by rw [c2] at c3; cases c3; rfl
           clear hT hO
           go_wp2
           go_quiet ((go_at_call 62; exact Calls.quiet_of_same (down4 (Y + Y + 2) _ (by omega) (by omega))))))
      all_goals
        have h1V : Has (wr.drewN nq) w.heap.size u4 (upto (evF (fr l) (bk l)) j) := h1
        have c1V : (wr.drewN nq).cell? ⟨b, off + j, none⟩ = some (.int .i64 X) := c1
        have hBV : Below w.heap.size w (wr.drewN nq) := hB.trans ⟨rfl, rfl, rfl, Nat.le_refl _, fun _ _ => rfl⟩
        obtain ⟨V, hV⟩ : ∃ V, wr.drewN nq = V := ⟨_, rfl⟩
        rw [hV] at h1V c1V hBV ⊢
        clear hV h1 c1 c2 c3 hB
        have hVs := hBV.size
        go_wp2_with (at_builtin; refine wpList_app _ rfl _ _ rfl w.heap.size u4 (upto (evF (fr l) (bk l)) j) _ _ _ rfl (h1V.alloc _) rfl (row_one _ _ _) (unhide hln) (by simp; omega) ?_; intro s' w1 k1 g1 at1)
        obtain ⟨d1, d2⟩ := stepped_plain h1V hVs k1 g1 at1
        go_wp2
        go_roundw
        case rel => exact ⟨j + 1, by omega, by go_num, by rw [unhide HS]; exact k1, hBV.trans d1⟩
        case measure => simp [intOf]; omega
    · obtain rfl : n = j := by omega
      have h1' : Has wr w.heap.size u4 (evs l) := by unfold evs; rw [← unhide HN]; exact h1
      clear h1
      obtain ⟨p2, q2, rfl, -⟩ := h1'.row
      rw [unhide HLE] at h1' ⊢
      go_wp2
      go_loopw [5, 9] (fun s i wr => ∃ j : Nat, j ≤ n ∧ i = .int .i64 j ∧ Has wr w.heap.size s (flat (at0 (evs l)) (at0 (ods l)) j) ∧ Has wr w.heap.size (.slice p2 n q2) (evs l) ∧ Off (.slice p2 n q2) s ∧ Below w.heap.size w wr) (fun _ i _ => n - (intOf i).toNat)
      case atStart => exact ⟨0, Nat.zero_le _, rfl, Has.nil _ _, h1', off_nil _, hB⟩
      case round =>
        obtain ⟨j, hj, rfl, h1, h2, h3, hB2⟩ := hrel
        clear h1' hB
        by_cases hlt : j < n
        · obtain ⟨b, off, rfl, hc⟩ := row_cell (hr.below hB2) (by rw [unhide HL]; omega)
          rw [unhide HL] at hc
          obtain ⟨g, c, e1, hg1, hg2, hg3, hg4⟩ := h2.one (by rw [unhide HLE]; omega)
          rw [unhide HLE] at e1
          obtain ⟨rfl, -, rfl⟩ := Value.slice.inj e1
          obtain ⟨T, hT⟩ : ∃ T, T = if j + 1 < n then j + 1 else j := ⟨_, rfl⟩
          have HS := hide (unlap_step (unhide HN) hlt hT)
          obtain ⟨O, hO⟩ : ∃ O, O = n + j := ⟨_, rfl⟩
          rw [← hO] at HS
          have hOl : O < L := by omega
          have hTn : T < n := by rw [hT]; split <;> omega
          have c1 := hc O hOl
          have c2 := h2.get (j := j) (by rw [unhide HLE]; exact hlt)
          have c3 := h2.get (j := T) (by rw [unhide HLE]; exact hTn)
          obtain ⟨x0, x1⟩ := hi.at (by omega) O
          obtain ⟨y0, y1⟩ := hin.at (by omega) j
          obtain ⟨z0, z1⟩ := hin.at (by omega) T
          obtain ⟨X, hX⟩ : ∃ X, at0 l O = X := ⟨_, rfl⟩
          obtain ⟨Y, hY⟩ : ∃ Y, at0 (evs l) j = Y := ⟨_, rfl⟩
          obtain ⟨Z, hZ⟩ : ∃ Z, at0 (evs l) T = Z := ⟨_, rfl⟩
          rw [hX] at c1 x0 x1 HS
          rw [hY] at c2 y0 y1 HS
          rw [hZ] at c3 z0 z1 HS
          clear hX hY hZ hc
          have hO2 : IntKind.i64.wrap ((n : Int) + (j : Int)) = (O : Int) := by rw [IntWalk.i64_in _ (by omega)]; omega
          have hln : Hid ((flat (at0 (evs l)) (at0 (ods l)) j).length + 2 ≤ 1000000) := hide (by rw [flat_length]; omega)
          have hmx : Tryz.prog.follows .mixedOrders = true := by kernel_rfl
          clear hO
          by_cases h4 : j + 1 < n
          all_goals (first
            | (rw [if_pos h4] at hT
               have hT2 : (j : Int) + 1 = (T : Int) := by omega
               clear hT
               go_wp2
               go_quiet ((go_at_call 62; exact Calls.quiet_of_same (down2 (Y + Z) _ (by omega) (by omega))))
               have hwr : IntKind.i64.wrap (X + (Y + Z) / 2) = X + (Y + Z) / 2 := IntWalk.i64_in _ (by omega))
            | (rw [if_neg h4] at hT
               obtain rfl := hT
               obtain rfl : Y = Z := by rw [c2] at c3; cases c3; rfl
               go_wp2
               go_quiet ((go_at_call 62; exact Calls.quiet_of_same (down2 (Y + Y) _ (by omega) (by omega))))
               have hwr : IntKind.i64.wrap (X + (Y + Y) / 2) = X + (Y + Y) / 2 := IntWalk.i64_in _ (by omega)))
          all_goals
            have h1V : Has (wr.drewN nq) w.heap.size u5 (flat (at0 (evs l)) (at0 (ods l)) _) := h1
            have h2V : Has (wr.drewN nq) w.heap.size (.slice (some ⟨g, 0, none⟩) n q2) (evs l) := h2
            have c1V : (wr.drewN nq).cell? ⟨b, off + O, none⟩ = some (.int .i64 X) := c1
            have c2V : (wr.drewN nq).cell? ⟨g, _, none⟩ = some (.int .i64 Y) := c2
            have hBV : Below w.heap.size w (wr.drewN nq) := hB2.trans ⟨rfl, rfl, rfl, Nat.le_refl _, fun _ _ => rfl⟩
            obtain ⟨V, hV⟩ : ∃ V, wr.drewN nq = V := ⟨_, rfl⟩
            rw [hV] at h1V h2V c1V c2V hBV ⊢
            clear hV h1 h2 c1 c2 c3 hB2
            have hVs := hBV.size
            go_wp2
            go_region_law (refine step_app _ rfl _ _ rfl w.heap.size u5 (flat (at0 (evs l)) (at0 (ods l)) _) _ _ _ rfl (Has.alloc (w := V.drew) h1V _) rfl (row_two' (w := V.drew) rfl) (unhide hln) (by simp; omega) ?_; intro s' w1 k1 g1 at1)
          all_goals
            obtain ⟨d1, d2⟩ := stepped_plain (W := V.drew) h1V hVs k1 g1 at1
            obtain ⟨h2', h3'⟩ := d2 _ _ h2V h3
            go_wp2
            go_roundw
            case rel => exact ⟨_, hlt, by go_num, by rw [unhide HS]; exact k1, h2', h3', hBV.trans ⟨d1.os, d1.tape, d1.output, d1.size, d1.block⟩⟩
            case measure => simp [intOf]; omega
        · obtain rfl : n = j := by omega
          go_wp2
          go_ret
          refine ⟨_, rfl, ?_, hB2⟩
          unfold unlap
          rw [← unhide HN]
          exact h1

end Go.Proofs.YthkibjhhlcfceaiGreatDoor.Lap

/-
  hornref2.Decode: by its contract.
-/
namespace Go.Proofs.YthkibjhhlcfceaiGreatDoor.Frm
open Go.RowKit
open Go.Proofs.YthkibjhhlcfceaiGreatDoor.Tre Go.Proofs.YthkibjhhlcfceaiGreatDoor.Bnd Go.Proofs.YthkibjhhlcfceaiGreatDoor.Pls Go.Proofs.YthkibjhhlcfceaiGreatDoor.Gai Go.Proofs.YthkibjhhlcfceaiGreatDoor.Shr
set_option linter.unusedVariables false

/-- What Decode answers. -/
def DecPost (ps : List Prt) (w : World) (e : Ending) (w' : World) : Prop :=
  ((decF ps ≠ 0 ∧ e = .returned (.tuple #[.slice none 0 0, .int .i64 (decF ps)])) ∨ (decF ps = 0 ∧ ∃ v, e = .returned (.tuple #[v, .int .i64 0]) ∧ Has w' w.heap.size v (Lap.unlap (all ps)))) ∧ Below w.heap.size w w'
theorem dec_no {ps : List Prt} {F : Int} {w w' : World} (h : decF ps = F) (hF : F ≠ 0) (hb : Below w.heap.size w w') : DecPost ps w (.returned (.tuple #[.slice none 0 0, .int .i64 F])) w' := ⟨Or.inl ⟨by rw [h]; exact hF, by rw [h]⟩, hb⟩

set_option maxRecDepth 100000 in
set_option maxHeartbeats 8000000 in
theorem refDecode_few (a : Option Addr) (cap : Nat) (ps : List Prt) (w : World) (hp : Pts w a ps) (zp : ps.length ≤ 1000000000000000000) (zl : Hid (long ps ≤ 1000000000000000000)) :
    Calls Tryz.prog 11 #[.slice a ps.length cap] w fun e w' => DecPost ps w e w' := by
  by_cases h0 : ps.length = 0
  · have HP : Hid (DecPost ps w (.returned (.tuple #[.slice none 0 0, .int .i64 5])) w) := hide (dec_no (by unfold decF; rw [if_pos h0]) (by omega) (Below.refl _ _))
    rw [h0]
    clear h0 zp zl
    go_enter Tryz.func11, Tryz.ntmps11
    go_wp2
    go_ret2
    exact unhide HP
  · have HL0 : Hid (long (ps.take 0) = 0) := hide rfl
    have HLA : Hid (long (ps.take ps.length) = long ps) := hide (by rw [List.take_length])
    have HLM : Hid (∀ k, k ≤ ps.length → long (ps.take k) ≤ long (ps.take ps.length)) := hide (fun k hk => long_mono ps hk)
    have HP4 : Hid (8 < ps.length ∨ 32 < long ps → ∀ w', Below w.heap.size w w' → DecPost ps w (.returned (.tuple #[.slice none 0 0, .int .i64 4])) w') := hide (fun h w' hb => dec_no (by unfold decF; rw [if_neg h0, if_pos h]) (by omega) hb)
    have HP2 : Hid (¬ (8 < ps.length ∨ 32 < long ps) → twoF ps ≠ 0 → ∀ F, twoF ps = F → ∀ w', Below w.heap.size w w' → DecPost ps w (.returned (.tuple #[.slice none 0 0, .int .i64 F])) w') := hide (fun h h' F hF w' hb => dec_no (by unfold decF; rw [if_neg h0, if_neg h, if_neg h', hF]) (by rw [← hF]; exact h') hb)
    have HP3 : Hid (¬ (8 < ps.length ∨ 32 < long ps) → twoF ps = 0 → long ps % 2 ≠ 0 → ∀ w', Below w.heap.size w w' → DecPost ps w (.returned (.tuple #[.slice none 0 0, .int .i64 3])) w') := hide (fun h h' h3 w' hb => dec_no (by unfold decF; rw [if_neg h0, if_neg h, if_pos h', if_neg h3]) (by omega) hb)
    have HP1 : Hid (¬ (8 < ps.length ∨ 32 < long ps) → twoF ps = 0 → long ps % 2 = 0 → (all ps).any (out 4000) = true → ∀ w', Below w.heap.size w w' → DecPost ps w (.returned (.tuple #[.slice none 0 0, .int .i64 1])) w') := hide (fun h h' h3 h4 w' hb => dec_no (by unfold decF; rw [if_neg h0, if_neg h, if_pos h', if_pos h3, if_pos h4]) (by omega) hb)
    have HPO : Hid (¬ (8 < ps.length ∨ 32 < long ps) → twoF ps = 0 → long ps % 2 = 0 → (all ps).any (out 4000) = false → ∀ v w', Has w' w.heap.size v (Lap.unlap (all ps)) → Below w.heap.size w w' → DecPost ps w (.returned (.tuple #[v, .int .i64 0])) w') := hide (fun h h' h3 h4 v w' hv hb => ⟨Or.inr ⟨by unfold decF; rw [if_neg h0, if_neg h, if_pos h', if_pos h3, if_neg (by rw [h4]; simp)], v, rfl, hv⟩, hb⟩)
    have HAA : Hid (all (ps.take ps.length) = all ps) := hide (by rw [List.take_length])
    have HAL := hide (all_length ps)
    have HD0 : Hid (twoF (ps.drop 0) = twoF ps) := hide (by rw [List.drop_zero])
    have HA0 : Hid (all (ps.take 0) = []) := hide rfl
    obtain ⟨M, hM⟩ : ∃ M, long ps = M := ⟨_, rfl⟩
    rw [hM] at zl HLA HP4 HP2 HP3 HP1 HPO HAL
    obtain ⟨N, hN⟩ : ∃ N, ps.length = N := ⟨_, rfl⟩
    have HN := hide hN
    rw [hN] at h0 zp HLA HLM HP4 HP2 HP3 HP1 HPO HAA ⊢
    rw [unhide HLA] at HLM
    have n0 : ((N : Int) == 0) = false := by simp; omega
    clear hM hN
    go_enter Tryz.func11, Tryz.ntmps11
    go_wp2
    go_loopw [4, 5] (fun n i wr => ∃ (k T : Nat), k ≤ N ∧ i = .int .i64 k ∧ n = .int .i64 T ∧ Hid (long (ps.take k) = T) ∧ w = wr) (fun _ i _ => N - (intOf i).toNat)
    case atStart => exact ⟨0, 0, Nat.zero_le _, rfl, rfl, HL0, rfl⟩
    case round =>
      obtain ⟨k, T, hk, rfl, rfl, HT, rfl⟩ := hrel
      clear HL0
      by_cases hlt : k < N
      · have hlt1 : k < ps.length := by rw [unhide HN]; exact hlt
        obtain ⟨b1, off1, rfl, _, hc1⟩ := hp.at hlt1
        obtain ⟨-, A, C, x2, x3, x4, x5, x6⟩ := hc1 k hlt1
        have HT2 := hide (long_step hlt1)
        have hle := unhide HLM (k + 1) hlt
        rw [unhide HT2, unhide HT] at hle
        rw [unhide HT] at HT2
        have hM9 := unhide zl
        obtain ⟨L, hL⟩ : ∃ L, (prt ps k).2.length = L := ⟨_, rfl⟩
        rw [hL] at x2 HT2 hle
        have w1 : IntKind.i64.wrap ((T : Int) + (L : Int)) = ((T + L : Nat) : Int) := by rw [IntWalk.i64_in _ (by omega)]; omega
        obtain ⟨T2, hT2⟩ : ∃ T2, T + L = T2 := ⟨_, rfl⟩
        rw [hT2] at w1 HT2
        clear hc1 hL hlt1 hle hM9 hT2 HT x3 x4 x5 x6
        go_wp2
        go_roundw
        case rel => exact ⟨k + 1, T2, by omega, by go_num, by first | rfl | go_num, HT2, by first | trivial | rfl⟩
        case measure => simp [intOf]; omega
      · obtain rfl : k = N := by omega
        obtain rfl : T = M := (unhide HT).symm.trans (unhide HLA)
        clear HT HLA HLM
        by_cases h8 : 8 < k
        · have d8 : decide (8 < (k : Int)) = true := by simp; omega
          have HP := hide (unhide HP4 (Or.inl h8) w (Below.refl _ _))
          clear HP4 HP2 HP3 HP1 HPO
          go_wp2
          go_ret2
          exact unhide HP
        · have d8 : decide (8 < (k : Int)) = false := by simp; omega
          by_cases h32 : 32 < T
          · have d32 : decide (32 < (T : Int)) = true := by simp; omega
            have HP := hide (unhide HP4 (Or.inr h32) w (Below.refl _ _))
            clear HP4 HP2 HP3 HP1 HPO
            go_wp2
            go_ret2
            exact unhide HP
          · have d32 : decide (32 < (T : Int)) = false := by simp; omega
            have hno : ¬ (8 < k ∨ 32 < T) := by omega
            have HP2' := hide (unhide HP2 hno)
            have HP3' := hide (unhide HP3 hno)
            have HP1' := hide (unhide HP1 hno)
            have HPO' := hide (unhide HPO hno)
            have HLL : Hid (∀ j, j ≤ k → (all (ps.take j)).length ≤ T) := hide (fun j hj => by
              rw [all_length, ← unhide HAL, all_length]
              have := long_mono ps (k := j) (m := ps.length) (by rw [unhide HN]; exact hj)
              rw [List.take_length] at this
              exact this)
            clear hno HP4 HP2 HP3 HP1 HPO
            go_wp2
            go_loopw [6, 7] (fun v i wr => ∃ m : Nat, m ≤ k ∧ i = .int .i64 m ∧ Hid (twoF (ps.drop m) = twoF ps) ∧ Has wr w.heap.size v (all (ps.take m)) ∧ Below w.heap.size w wr) (fun _ i _ => k - (intOf i).toNat)
            case atStart => exact ⟨0, Nat.zero_le _, rfl, HD0, by rw [unhide HA0]; exact Has.nil _ _, Below.refl _ _⟩
            case round =>
              obtain ⟨m, hm, rfl, HD, hv, hB⟩ := hrel
              clear HD0 HA0
              by_cases hlt : m < k
              · have hlt1 : m < ps.length := by rw [unhide HN]; exact hlt
                obtain ⟨b1, off1, rfl, hb1, hc1⟩ := (hp.below hB).at hlt1
                obtain ⟨x1, A, C, x2, x3, x4, x5, x6⟩ := hc1 m hlt1
                have HST : Hid (twoF ps = if fault (prt ps m).2 = 0 then (if gok (prt ps m).1 = true then twoF (ps.drop (m + 1)) else 1) else fault (prt ps m).2) := hide (by rw [← unhide HD, drop_prt hlt1, twoF])
                have HAS := hide (all_step hlt1)
                have HTS := hide (fun j h => told_step (p := prt ps m) (j := j) h)
                have HTL := hide (told_length (prt ps m))
                have CV := hide (fun W => refValue (prt ps m).1 W)
                have HLm := hide (unhide HLL (m + 1) hlt)
                obtain ⟨G, hG⟩ : ∃ G, (prt ps m).1 = G := ⟨_, rfl⟩
                obtain ⟨pl, hpl⟩ : ∃ pl, (prt ps m).2 = pl := ⟨_, rfl⟩
                have HPL := hide hpl
                rw [hG] at x1 HST CV HTS
                rw [hpl] at x2 x4 x6 HST HTS HTL
                clear hc1 hG hpl HD x3
                by_cases hf : fault pl = 0
                · have CP := hide (fun W h => refPulses_ok A C pl W h (hide hf))
                  obtain ⟨f1, f2, f3⟩ := fault_ok hf
                  have HST2 : Hid (twoF ps = if gok G = true then twoF (ps.drop (m + 1)) else 1) := hide (by rw [unhide HST, if_pos hf])
                  obtain ⟨L, hL⟩ : ∃ L, pl.length = L := ⟨_, rfl⟩
                  have HL := hide hL
                  obtain ⟨Z, hZ⟩ : ∃ Z, loud pl = Z := ⟨_, rfl⟩
                  have HZ := hide hZ
                  rw [hL] at x2 x4 CP HTS HTL
                  rw [hZ] at CP HTS f3
                  have CPw := unhide CP wr x6
                  clear hf hL hZ HST CP
                  cases hg : gok G with
                  | false =>
                    have HP := hide (unhide HP2' (by rw [unhide HST2, hg]; simp) 1 (by rw [unhide HST2, hg]; simp) wr hB)
                    rw [hg] at CV
                    have CVw := unhide CV wr
                    obtain ⟨V, hV⟩ : ∃ V, vlN G = V := ⟨_, rfl⟩
                    rw [hV] at CVw
                    clear CV hg HST2 HP2' HP3' HP1' HPO' hV
                    go_wp2_with fail
                    refine CPw.mono ?_
                    rintro e w3 ⟨rfl, hw3⟩
                    obtain rfl : wr = w3 := hw3
                    go_wp2_with fail
                    refine CVw.mono ?_
                    rintro e w3 ⟨rfl, hw3⟩
                    obtain rfl : wr = w3 := hw3
                    go_wp2
                    go_ret2
                    exact unhide HP
                  | true =>
                    have HD2 : Hid (twoF (ps.drop (m + 1)) = twoF ps) := hide (by rw [unhide HST2, if_pos hg])
                    rw [hg] at CV
                    have CVw := unhide CV wr
                    have hvl := vlN_ok hg
                    obtain ⟨v0, v9⟩ := vlN_in G
                    rw [← hvl] at HTS
                    obtain ⟨V, hV⟩ : ∃ V, vlN G = V := ⟨_, rfl⟩
                    rw [hV] at CVw HTS v0 v9
                    have HT0 : Hid (all (ps.take m) ++ (told (prt ps m)).take 0 = all (ps.take m)) := hide (by simp)
                    have HTE : Hid (all (ps.take m) ++ (told (prt ps m)).take L = all (ps.take (m + 1))) := hide (by rw [unhide HAS, ← unhide HTL, List.take_length])
                    have HLJ : Hid (∀ j, j ≤ L → (all (ps.take m) ++ (told (prt ps m)).take j).length ≤ T) := hide (fun j hj => by
                      have h1 := unhide HLm
                      rw [← unhide HTE, List.length_append, List.length_take] at h1
                      rw [List.length_append, List.length_take]
                      omega)
                    obtain ⟨tp, htp⟩ : ∃ tp, told (prt ps m) = tp := ⟨_, rfl⟩
                    rw [htp] at HTS HT0 HTE HLJ
                    obtain ⟨ap, hap⟩ : ∃ ap, all (ps.take m) = ap := ⟨_, rfl⟩
                    rw [hap] at hv HT0 HTE HLJ
                    clear CV hg HST2 hvl hV htp hap HAS HTL HLm
                    go_wp2_with fail
                    refine CPw.mono ?_
                    rintro e w3 ⟨rfl, hw3⟩
                    obtain rfl : wr = w3 := hw3
                    clear CPw
                    go_wp2_with fail
                    refine CVw.mono ?_
                    rintro e w3 ⟨rfl, hw3⟩
                    obtain rfl : wr = w3 := hw3
                    clear CVw
                    rw [← unhide HT0] at hv
                    go_wp2
                    go_loopw [6, 12] (fun v i wq => ∃ j : Nat, j ≤ L ∧ i = .int .i64 j ∧ Has wq w.heap.size v (ap ++ tp.take j) ∧ Below w.heap.size w wq) (fun _ i _ => L - (intOf i).toNat)
                    case atStart => exact ⟨0, Nat.zero_le _, rfl, hv, hB⟩
                    case round =>
                      clear hv hB x1 x2 x4 x5 x6
                      rename World => wq
                      obtain ⟨j, hj, rfl, hv, hB⟩ := hrel
                      obtain ⟨b2, off2, eb, hb2, hc2⟩ := (hp.below hB).at hlt1
                      cases eb
                      obtain ⟨-, A2, C2, x2, -, x4, x5, x6⟩ := hc2 m hlt1
                      rw [unhide HPL] at x2 x4 x6
                      rw [unhide HL] at x2 x4
                      by_cases hjL : j < L
                      · have hjl : j < pl.length := by rw [unhide HL]; exact hjL
                        obtain ⟨b3, off3, rfl, _, hc3⟩ := cell_at x6 (by omega)
                        have c3 := hc3 j hjl
                        have hX8 := f2.at (by omega) j
                        have hXZ := loud_at hjl
                        have HTJ := hide (unhide HTS j hjL)
                        have hln : Hid ((ap ++ tp.take j).length + 1 ≤ 1000000) := hide (by have := unhide HLJ j (by omega); omega)
                        have hWs := hB.size
                        obtain ⟨X, hX⟩ : ∃ X, at0 pl j = X := ⟨_, rfl⟩
                        rw [hX] at c3 hX8 hXZ HTJ
                        rw [unhide HZ] at hXZ
                        have HAP : Hid (∀ y, tl V (Z : Int) X = y → (ap ++ tp.take j) ++ [y] = ap ++ tp.take (j + 1)) := hide (fun y hy => by rw [unhide HTJ, hy, List.append_assoc])
                        have CFw := hide (fun W => refFar X W (by omega) (by omega))
                        clear hX hc2 hc3 hjl HTJ HTS
                        rcases Nat.eq_zero_or_pos Z with hz | hz
                        · obtain rfl : X = 0 := by omega
                          have dz : decide (0 < (Z : Int)) = false := by simp; omega
                          have dz' : decide (0 < Z) = false := by simp; omega
                          have HAP2 := hide (unhide HAP 0 (by rw [hz]; exact tl_zero _ _))
                          clear HAP CFw hz hXZ
                          go_wp2_with (at_builtin; refine wpList_app _ rfl _ _ rfl w.heap.size u6 (ap ++ tp.take j) [0] _ _ rfl (hv.alloc _) rfl (row_one _ _ _) (unhide hln) (by simp; omega) ?_; intro s' w6 k6 g6 at6)
                          obtain ⟨d1, d2⟩ := stepped_plain hv hWs k6 g6 at6
                          have hB6 := hB.trans d1
                          rw [unhide HAP2] at k6
                          clear hv hB d1 d2 g6 at6
                          go_wp2
                          go_roundw
                          case rel => exact ⟨j + 1, by omega, by go_num, k6, hB6⟩
                          case measure => simp [intOf]; omega
                        · have dz : decide (0 < (Z : Int)) = true := by simp; omega
                          have dz' : decide (0 < Z) = true := by simp; omega
                          have nz : ((Z : Int) == 0) = false := by simp; omega
                          obtain ⟨D, hD⟩ : ∃ D, X.natAbs = D := ⟨_, rfl⟩
                          rw [hD] at CFw hXZ
                          have hD8 : D ≤ 8 := by omega
                          have hP0 : 0 ≤ (D : Int) * V := Int.mul_nonneg (by omega) v0
                          have hP9 : (D : Int) * V ≤ 8 * 8000 := Int.mul_le_mul (by omega) v9 v0 (by omega)
                          obtain ⟨P, hP⟩ : ∃ P, (D : Int) * V = P := ⟨_, rfl⟩
                          have w1 : IntKind.i64.wrap ((D : Int) * V) = P := by rw [hP]; exact IntWalk.i64_in _ (by omega)
                          rw [hP] at hP0 hP9
                          have t1 : Int.tdiv P (Z : Int) = P / (Z : Int) := Int.tdiv_eq_ediv_of_nonneg hP0
                          have y0 : 0 ≤ P / (Z : Int) := Int.ediv_nonneg hP0 (by omega)
                          have y9 : P / (Z : Int) ≤ P := Int.ediv_le_self _ hP0
                          obtain ⟨Y, hY⟩ : ∃ Y, P / (Z : Int) = Y := ⟨_, rfl⟩
                          rw [hY] at t1 y0 y9
                          have CFq := unhide CFw wq
                          by_cases hneg : X < 0
                          · have dn : decide (X < 0) = true := by simpa using hneg
                            have HAP2 := hide (unhide HAP (-Y) (by rw [tl_neg hneg, hD, hP, hY]))
                            have w2 : IntKind.i64.wrap (-Y) = -Y := IntWalk.i64_in _ (by omega)
                            obtain ⟨Y2, hY2⟩ : ∃ Y2, -Y = Y2 := ⟨_, rfl⟩
                            rw [hY2] at HAP2
                            have w2' : IntKind.i64.wrap (-Y) = Y2 := by rw [← hY2]; exact w2
                            clear HAP CFw hD hP hY w2 hY2 hneg
                            go_wp2_with fail
                            refine CFq.mono ?_
                            rintro e w5 ⟨rfl, hw5⟩
                            obtain rfl : wq = w5 := hw5
                            clear CFq
                            go_wp2_with (at_builtin; refine wpList_app _ rfl _ _ rfl w.heap.size u6 (ap ++ tp.take j) [Y2] _ _ rfl (hv.alloc _) rfl (row_one _ _ _) (unhide hln) (by simp; omega) ?_; intro s' w6 k6 g6 at6)
                            obtain ⟨d1, d2⟩ := stepped_plain hv hWs k6 g6 at6
                            have hB6 := hB.trans d1
                            rw [unhide HAP2] at k6
                            clear hv hB d1 d2 g6 at6
                            go_wp2
                            go_roundw
                            case rel => exact ⟨j + 1, by omega, by go_num, k6, hB6⟩
                            case measure => simp [intOf]; omega
                          · have dn : decide (X < 0) = false := by simpa using hneg
                            have HAP2 := hide (unhide HAP Y (by rw [tl_pos (by omega), hD, hP, hY]))
                            clear HAP CFw hD hP hY
                            go_wp2_with fail
                            refine CFq.mono ?_
                            rintro e w5 ⟨rfl, hw5⟩
                            obtain rfl : wq = w5 := hw5
                            clear CFq
                            go_wp2_with (at_builtin; refine wpList_app _ rfl _ _ rfl w.heap.size u6 (ap ++ tp.take j) [Y] _ _ rfl (hv.alloc _) rfl (row_one _ _ _) (unhide hln) (by simp; omega) ?_; intro s' w6 k6 g6 at6)
                            obtain ⟨d1, d2⟩ := stepped_plain hv hWs k6 g6 at6
                            have hB6 := hB.trans d1
                            rw [unhide HAP2] at k6
                            clear hv hB d1 d2 g6 at6
                            go_wp2
                            go_roundw
                            case rel => exact ⟨j + 1, by omega, by go_num, k6, hB6⟩
                            case measure => simp [intOf]; omega
                      · obtain rfl : j = L := by omega
                        rw [unhide HTE] at hv
                        clear hc2 HTS
                        go_wp2
                        go_roundw
                        case rel => exact ⟨m + 1, by omega, by go_num, HD2, hv, hB⟩
                        case measure => simp [intOf]; omega
                · have HOF : Hid (twoF ps = fault pl) := hide (by rw [unhide HST, if_neg hf])
                  have CP := refPulses_no A C pl wr (by omega) x6 (hide hf)
                  have HP := hide (unhide HP2' (by rw [unhide HOF]; exact hf) _ (unhide HOF) wr hB)
                  obtain ⟨F, hF⟩ : ∃ F, fault pl = F := ⟨_, rfl⟩
                  rw [hF] at CP HP hf
                  have n1 : (F == 0) = false := by rw [beq_eq_false_iff_ne]; exact hf
                  have n2 : (F != 0) = true := by simpa using hf
                  obtain ⟨L, hL⟩ : ∃ L, pl.length = L := ⟨_, rfl⟩
                  rw [hL] at x2 CP
                  clear HST HOF hf hF hL x6 x4 HP2' HP3' HP1' HPO' HTS HAS HTL HLm CV
                  go_wp2_with fail
                  refine CP.mono ?_
                  rintro e w3 ⟨rfl, hw3⟩
                  obtain rfl : wr = w3 := hw3
                  clear CP
                  go_wp2
                  go_ret2
                  exact unhide HP
              · obtain rfl : m = k := by omega
                have HT0 : Hid (twoF ps = 0) := hide (by rw [← unhide HD, ← unhide HN, List.drop_length]; rfl)
                have HP3 := hide (unhide HP3' (unhide HT0))
                have HP1 := hide (unhide HP1' (unhide HT0))
                have HPO := hide (unhide HPO' (unhide HT0))
                rw [unhide HAA] at hv
                obtain ⟨aa, haa⟩ : ∃ aa, all ps = aa := ⟨_, rfl⟩
                rw [haa] at hv HP1 HPO HAL
                clear HD HT0 HP2' HP3' HP1' HPO' HLL haa HAA
                by_cases h2 : T % 2 = 0
                · have tm : Int.tmod (T : Int) 2 = 0 := by rw [Int.tmod_eq_emod_of_nonneg (by omega)]; omega
                  obtain ⟨p6, q6, rfl, hrow⟩ := hv.row
                  have CA := refAll 4000 p6 q6 aa wr (by omega) (by omega) (by rw [unhide HAL]; omega) hrow
                  cases h4 : aa.any (out 4000) with
                  | true =>
                    have HP := hide (unhide HP1 h2 h4 wr hB)
                    rw [h4, Bool.not_true, unhide HAL] at CA
                    rw [unhide HAL]
                    clear HP3 HP1 HPO h4 hv
                    go_wp2_with fail
                    refine CA.mono ?_
                    rintro e w5 ⟨rfl, hw5⟩
                    obtain rfl : wr = w5 := hw5.symm
                    go_wp2
                    go_ret2
                    exact unhide HP
                  | false =>
                    have CU := Lap.refUnlap p6 q6 aa wr (by rw [unhide HAL]; omega) (hide (by rw [unhide HAL]; omega)) (in_of_any h4) hrow
                    have HP := hide (unhide HPO h2 h4)
                    rw [h4, Bool.not_false, unhide HAL] at CA
                    rw [unhide HAL] at CU ⊢
                    clear HP3 HP1 HPO h4 hv
                    go_wp2_with fail
                    refine CA.mono ?_
                    rintro e w5 ⟨rfl, hw5⟩
                    obtain rfl : wr = w5 := hw5.symm
                    clear CA
                    go_wp2_with fail
                    refine CU.mono ?_
                    rintro e w6 ⟨v6, rfl, k6, hb6⟩
                    obtain ⟨p9, n9, q9, rfl⟩ := k6.shape
                    go_wp2
                    go_ret2
                    exact unhide HP _ _ (k6.mono hB.size) (Below.chain hB hb6)
                · have tm : Int.tmod (T : Int) 2 = 1 := by rw [Int.tmod_eq_emod_of_nonneg (by omega)]; omega
                  have HP := hide (unhide HP3 h2 wr hB)
                  clear HP3 HP1 HPO
                  go_wp2
                  go_ret2
                  exact unhide HP

theorem long_le {ps : List Prt} {c : Nat} (h : ∀ i, i < ps.length → (prt ps i).2.length ≤ c) : long ps ≤ ps.length * c := by
  have key : ∀ k, k ≤ ps.length → long (ps.take k) ≤ k * c := by
    intro k
    induction k with
    | zero => intro _; simp [long]
    | succ k ih =>
      intro hk
      have h1 := ih (by omega)
      have h2 := h k (by omega)
      rw [long_step (by omega), Nat.add_mul]
      omega
  have := key ps.length (Nat.le_refl _)
  rwa [List.take_length] at this

set_option maxRecDepth 100000 in
set_option maxHeartbeats 4000000 in
theorem refDecode (a : Option Addr) (cap : Nat) (ps : List Prt) (w : World) (hp : Pts w a ps) (zp : ps.length ≤ 1000000000000000000) (zl : Hid (∀ i, i < ps.length → (prt ps i).2.length ≤ 17592186044416)) :
    Calls Tryz.prog 11 #[.slice a ps.length cap] w fun e w' => DecPost ps w e w' := by
  by_cases h8 : 8 < ps.length
  · have HP : Hid (DecPost ps w (.returned (.tuple #[.slice none 0 0, .int .i64 4])) w) := hide (dec_no (by unfold decF; rw [if_neg (by omega), if_pos (Or.inl h8)]) (by omega) (Below.refl _ _))
    obtain ⟨N, hN⟩ : ∃ N, ps.length = N := ⟨_, rfl⟩
    have HN := hide hN
    rw [hN] at h8 zp ⊢
    have n0 : ((N : Int) == 0) = false := by simp; omega
    have d8 : decide (8 < (N : Int)) = true := by simp; omega
    clear hN zl
    go_enter Tryz.func11, Tryz.ntmps11
    go_wp2
    go_loopw [4, 5] (fun n i wr => ∃ (k : Nat) (T : Int), k ≤ N ∧ i = .int .i64 k ∧ n = .int .i64 T ∧ w = wr) (fun _ i _ => N - (intOf i).toNat)
    case atStart => exact ⟨0, 0, Nat.zero_le _, rfl, rfl, rfl⟩
    case round =>
      obtain ⟨k, T, hk, rfl, rfl, rfl⟩ := hrel
      by_cases hlt : k < N
      · have hlt1 : k < ps.length := by rw [unhide HN]; exact hlt
        obtain ⟨b1, off1, rfl, _, hc1⟩ := hp.at hlt1
        obtain ⟨-, A, C, x2, x3, x4, x5, x6⟩ := hc1 k hlt1
        obtain ⟨L, hL⟩ : ∃ L, (prt ps k).2.length = L := ⟨_, rfl⟩
        rw [hL] at x2
        obtain ⟨T2, hT2⟩ : ∃ T2, IntKind.i64.wrap (T + (L : Int)) = T2 := ⟨_, rfl⟩
        clear hc1 hL hlt1 x3 x4 x5 x6
        go_wp2
        go_roundw
        case rel => exact ⟨k + 1, T2, by omega, by go_num, by first | rfl | go_num, by first | trivial | rfl⟩
        case measure => simp [intOf]; omega
      · obtain rfl : k = N := by omega
        go_wp2
        go_ret2
        exact unhide HP
  · refine refDecode_few a cap ps w hp zp (hide ?_)
    have h1 := long_le (unhide zl)
    have h2 : ps.length * 17592186044416 ≤ 8 * 17592186044416 := Nat.mul_le_mul_right _ (by omega)
    omega

end Go.Proofs.YthkibjhhlcfceaiGreatDoor.Frm
