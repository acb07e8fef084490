/-
  frame.Decode: by its contract.
-/
import Derived.Test.YtjnmogmagngenaiGreatDoorCh23
import Derived.Test.YtjnmogmagngenaiGreatDoorCh25
import Derived.Test.YtjnmogmagngenaiGreatDoorCh26
import Derived.Test.YtjnmogmagngenaiGreatDoorCh15
import Derived.Test.YtjnmogmagngenaiGreatDoorCh01
import Derived.Test.YtjnmogmagngenaiGreatDoorCh04
namespace Go.Proofs.YtjnmogmagngenaiGreatDoor.Frm
open Go.RowKit
open Go.Proofs.YtjnmogmagngenaiGreatDoor.Tre Go.Proofs.YtjnmogmagngenaiGreatDoor.Bnd Go.Proofs.YtjnmogmagngenaiGreatDoor.Pls Go.Proofs.YtjnmogmagngenaiGreatDoor.Gai Go.Proofs.YtjnmogmagngenaiGreatDoor.Ev
set_option linter.unusedVariables false

/-- What Decode tells. -/
def DecSays (ps : List Prt) (w : World) (e : Ending) (w' : World) : Prop := ∃ p q, e = .returned (.tuple #[.slice p (decL ps).length q, errV (decF ps)]) ∧ Row w' p (decL ps) ∧ (decL ps).length ≤ q ∧ q ≤ 9223372036854775807 ∧ Below w.heap.size w w'
theorem dec_fault {ps : List Prt} {F : Int} {w w' : World} (h : decF ps = F) (hF : F ≠ 0) (hb : Below w.heap.size w w') : DecSays ps w (.returned (.tuple #[.slice none 0 0, .iface 54 (.int .i64 F)])) w' := by
  have e : decL ps = [] := by unfold decL; rw [if_neg (by rw [h]; exact hF)]
  exact ⟨none, 0, by rw [e, h, errV_ne hF]; rfl, by rw [e]; exact Or.inl rfl, by rw [e]; exact Nat.le_refl _, by omega, hb⟩
theorem dec_fine {ps : List Prt} {v : Value} {w w' : World} (h : decF ps = 0) (hv : Has w' w.heap.size v (Lap.unlap (all ps))) (hb : Below w.heap.size w w') : DecSays ps w (.returned (.tuple #[v, .nilIface])) w' := by
  have e : decL ps = Lap.unlap (all ps) := by unfold decL; rw [if_pos h]
  obtain ⟨p, q, rfl, h1, h2, h3⟩ := has_room hv
  exact ⟨p, q, by rw [e, h]; rfl, by rw [e]; exact h1, by rw [e]; exact h2, h3, hb⟩

set_option maxRecDepth 100000 in
set_option maxHeartbeats 8000000 in
theorem decode (a : Option Addr) (cap : Nat) (ps : List Prt) (w : World) (hp : Pts w a ps) (zp : ps.length ≤ 17592186044416) (zl : Hid (∀ i, i < ps.length → (prt ps i).2.length ≤ 17592186044416)) :
    Calls Tryz.prog 11 #[.slice a ps.length cap] w fun e w' => ∃ p q, e = .returned (.tuple #[.slice p (decL ps).length q, errV (decF ps)]) ∧ Row w' p (decL ps) ∧ (decL ps).length ≤ q ∧ q ≤ 9223372036854775807 ∧ Below w.heap.size w w' := by
  show Calls Tryz.prog 11 #[.slice a ps.length cap] w fun e w' => DecSays ps w e w'
  by_cases h0 : ps.length = 0
  · have HP : Hid (DecSays ps w (.returned (.tuple #[.slice none 0 0, .iface 54 (.int .i64 5)])) w) := hide (dec_fault (by unfold decF; rw [if_pos h0]) (by omega) (Below.refl _ _))
    rw [h0]
    clear h0 zp zl
    go_enter Tryz.func11, Tryz.ntmps11
    go_wp2
    go_ret2
    exact unhide HP
  by_cases h8 : 8 < ps.length
  · have HP : Hid (DecSays ps w (.returned (.tuple #[.slice none 0 0, .iface 54 (.int .i64 4)])) w) := hide (dec_fault (by unfold decF; rw [if_neg h0, if_pos (Or.inl h8)]) (by omega) (Below.refl _ _))
    obtain ⟨N, hN⟩ : ∃ N, ps.length = N := ⟨_, rfl⟩
    rw [hN] at h0 h8 zp ⊢
    have n0 : ((N : Int) == 0) = false := by simp; omega
    have d8 : decide (8 < (N : Int)) = true := by simp; omega
    clear hN zl
    go_enter Tryz.func11, Tryz.ntmps11
    go_wp2
    go_ret2
    exact unhide HP
  have CMN := hide (manyNumbers a cap ps w hp (by omega) zl)
  by_cases h32 : 32 < long ps
  · have HP : Hid (∀ w', Below w.heap.size w w' → DecSays ps w (.returned (.tuple #[.slice none 0 0, .iface 54 (.int .i64 4)])) w') := hide (fun w' hb => dec_fault (by unfold decF; rw [if_neg h0, if_pos (Or.inr h32)]) (by omega) hb)
    obtain ⟨N, hN⟩ : ∃ N, ps.length = N := ⟨_, rfl⟩
    obtain ⟨M, hM⟩ : ∃ M, long ps = M := ⟨_, rfl⟩
    rw [hN] at h0 h8 zp CMN ⊢
    rw [hM] at h32 CMN
    have n0 : ((N : Int) == 0) = false := by simp; omega
    have d8 : decide (8 < (N : Int)) = false := by simp; omega
    have d32 : decide (32 < (M : Int)) = true := by simp; omega
    clear hN hM zl
    go_enter Tryz.func11, Tryz.ntmps11
    go_wp2_with fail
    refine (unhide CMN).mono ?_
    rintro e w1 ⟨rfl, hb1⟩
    go_wp2
    go_ret2
    exact unhide HP _ hb1
  · have hno : ¬ (8 < ps.length ∨ 32 < long ps) := by omega
    have HP2 : Hid (twoF ps ≠ 0 → ∀ F, twoF ps = F → ∀ w', Below w.heap.size w w' → DecSays ps w (.returned (.tuple #[.slice none 0 0, .iface 54 (.int .i64 F)])) w') := hide (fun h' F hF w' hb => dec_fault (by unfold decF; rw [if_neg h0, if_neg hno, if_neg h', hF]) (by rw [← hF]; exact h') hb)
    have HCK : Hid (twoF ps = 0 → Lap.chk (all ps) 4000 = decF ps) := hide (fun h => by
      unfold decF Lap.chk
      rw [if_neg h0, if_neg hno, if_pos h, all_length, if_neg (by omega)]
      by_cases h2 : long ps % 2 = 0
      · rw [if_pos h2, if_neg (fun h => h h2)]
      · rw [if_neg h2, if_pos h2])
    have HPN : Hid (∀ F, decF ps = F → F ≠ 0 → ∀ w', Below w.heap.size w w' → DecSays ps w (.returned (.tuple #[.slice none 0 0, .iface 54 (.int .i64 F)])) w') := hide (fun F h hF w' hb => dec_fault h hF hb)
    have HPO : Hid (decF ps = 0 → ∀ v w', Has w' w.heap.size v (Lap.unlap (all ps)) → Below w.heap.size w w' → DecSays ps w (.returned (.tuple #[v, .nilIface])) w') := hide (fun h v w' hv hb => dec_fine h hv hb)
    have HAA : Hid (all (ps.take ps.length) = all ps) := hide (by rw [List.take_length])
    have HAL := hide (all_length ps)
    have HD0 : Hid (twoF (ps.drop 0) = twoF ps) := hide (by rw [List.drop_zero])
    have HA0 : Hid (all (ps.take 0) = []) := hide rfl
    have HLL : Hid (∀ j, j ≤ ps.length → (all (ps.take j)).length ≤ long ps) := hide (fun j hj => by
      rw [all_length]
      have := long_mono ps (k := j) (m := ps.length) hj
      rw [List.take_length] at this
      exact this)
    obtain ⟨M, hM⟩ : ∃ M, long ps = M := ⟨_, rfl⟩
    rw [hM] at h32 CMN HAL HLL
    obtain ⟨N, hN⟩ : ∃ N, ps.length = N := ⟨_, rfl⟩
    have HN := hide hN
    rw [hN] at h0 h8 zp CMN HAA HLL ⊢
    have n0 : ((N : Int) == 0) = false := by simp; omega
    have d8 : decide (8 < (N : Int)) = false := by simp; omega
    have d32 : decide (32 < (M : Int)) = false := by simp; omega
    clear hM hN zl hno
    go_enter Tryz.func11, Tryz.ntmps11
    go_wp2_with fail
    refine (unhide CMN).mono ?_
    rintro e w1 ⟨rfl, hb1⟩
    clear CMN
    go_wp2
    go_loopw [4, 24] (fun v i wr => ∃ m : Nat, m ≤ N ∧ i = .int .i64 m ∧ Hid (twoF (ps.drop m) = twoF ps) ∧ Has wr w.heap.size v (all (ps.take m)) ∧ Below w.heap.size w wr) (fun _ i _ => N - (intOf i).toNat)
    case atStart => exact ⟨0, Nat.zero_le _, rfl, HD0, by rw [unhide HA0]; exact Has.nil _ _, hb1⟩
    case round =>
      obtain ⟨m, hm, rfl, HD, hv, hB⟩ := hrel
      clear HD0 HA0 hb1
      by_cases hlt : m < N
      · have hlt1 : m < ps.length := by rw [unhide HN]; exact hlt
        obtain ⟨b1, off1, rfl, hbw, hc1⟩ := (hp.below hB).at hlt1
        obtain ⟨x1, A, C, x2, x3, x4, x5, x6⟩ := hc1 m hlt1
        have HST : Hid (twoF ps = if fault (prt ps m).2 = 0 then (if gok (prt ps m).1 = true then twoF (ps.drop (m + 1)) else 1) else fault (prt ps m).2) := hide (by rw [← unhide HD, drop_prt hlt1, twoF])
        have HAS := hide (all_step hlt1)
        have HTL := hide (told_length (prt ps m))
        have HLm := hide (unhide HLL (m + 1) hlt)
        have HPE : Hid (told (prt ps m) = told ((prt ps m).1, (prt ps m).2)) := hide rfl
        rw [unhide HPE] at HAS HTL
        obtain ⟨G, hG⟩ : ∃ G, (prt ps m).1 = G := ⟨_, rfl⟩
        obtain ⟨pl, hpl⟩ : ∃ pl, (prt ps m).2 = pl := ⟨_, rfl⟩
        rw [hG] at x1 HST HAS HTL
        rw [hpl] at x2 x4 x6 HST HAS HTL
        have hbA : Below wr.heap.size wr (wr.alloc (.cells #[.int .i64 G, .slice A pl.length C] 49)) := (Below.refl _ _).alloc (Nat.le_refl _) _
        have hB2 := hB.alloc hB.size (.cells #[.int .i64 G, .slice A pl.length C] 49)
        have hv2 := hv.alloc (.cells #[.int .i64 G, .slice A pl.length C] 49)
        have CN := hide (numbersOf G A C pl _ (by omega) (x6.below hbA))
        obtain ⟨L, hL⟩ : ∃ L, pl.length = L := ⟨_, rfl⟩
        rw [hL] at x2 CN hB2 hv2 HTL
        clear hc1 hlt1 hG hpl HD x3 x6 hbA hv hB hL HPE x4
        go_wp2_with fail
        refine (unhide CN).mono ?_
        clear CN
        rintro e w3 ⟨hsay, hb3⟩
        have hB3 := Below.chain hB2 hb3
        have hv3 := hv2.below hb3
        clear hv2 hB2
        rcases hsay with ⟨hf, rfl⟩ | ⟨hf, hsay⟩
        · have HP := hide (unhide HP2 (by rw [unhide HST, if_neg hf]; exact hf) _ (by rw [unhide HST, if_neg hf]) _ hB3)
          obtain ⟨F, hF⟩ : ∃ F, fault pl = F := ⟨_, rfl⟩
          rw [hF] at HP ⊢
          clear HST HP2 HPN HPO HCK hf hF HAS HTL HLm hv3 hb3
          go_wp2
          go_ret2
          exact unhide HP
        · rcases hsay with ⟨hg, rfl⟩ | ⟨hg, v3, rfl, k3⟩
          · have HP := hide (unhide HP2 (by rw [unhide HST, if_pos hf, if_neg (by rw [hg]; simp)]; omega) 1 (by rw [unhide HST, if_pos hf, if_neg (by rw [hg]; simp)]) _ hB3)
            clear HST HP2 HPN HPO HCK hf hg HAS HTL HLm hv3 hb3
            go_wp2
            go_ret2
            exact unhide HP
          · have HD2 : Hid (twoF (ps.drop (m + 1)) = twoF ps) := hide (by rw [unhide HST, if_pos hf, if_pos hg])
            obtain ⟨tp, htp⟩ : ∃ tp, told (G, pl) = tp := ⟨_, rfl⟩
            rw [htp] at HAS k3 HTL
            obtain ⟨ap, hap⟩ : ∃ ap, all (ps.take m) = ap := ⟨_, rfl⟩
            rw [hap] at HAS hv3
            have hln : Hid (ap.length + tp.length ≤ 1000000) := hide (by
              have := unhide HLm
              rw [unhide HAS, List.length_append] at this
              omega)
            obtain ⟨p3, c3, rfl, r3⟩ := k3.row
            have hWs := hB3.size
            clear HST hf hg htp hap HLm HTL
            go_wp2_with (at_builtin; refine wpList_app _ rfl _ _ rfl w.heap.size u4 ap tp _ _ rfl hv3 rfl r3 (unhide hln) (by omega) ?_; intro s' w6 k6 g6 at6)
            have hB6 : Below w.heap.size w w6 := hB3.trans ((Below.refl _ w3).grown g6 hWs (fun j e => (hv3.lt j e).1))
            rw [← unhide HAS] at k6
            clear hv3 hB3 g6 at6 k3 r3 hb3
            go_wp2
            go_roundw
            case rel => exact ⟨m + 1, by omega, by go_num, HD2, k6, hB6⟩
            case measure => simp [intOf]; omega
      · obtain rfl : m = N := by omega
        have HO0 : Hid (twoF ps = 0) := hide (by rw [← unhide HD, ← unhide HN, List.drop_length]; rfl)
        have HC := hide (unhide HCK (unhide HO0))
        rw [unhide HAA] at hv
        obtain ⟨p, q, rfl, hrow⟩ := hv.row
        have hroom := Lap.has_roomy hv
        clear HO0 HCK HP2 HD hv
        by_cases hz : decF ps = 0
        · have CI := hide (Lap.inv_ok p q (all ps) wr (by rw [unhide HAL]; omega) hroom hrow (hide (by rw [unhide HC]; exact hz)))
          have HP := hide (unhide HPO hz)
          rw [unhide HAL] at CI
          rw [unhide HAL]
          clear hz HPN HPO HC hroom
          go_wp2_with fail
          refine (unhide CI).mono ?_
          clear CI
          rintro e w3 ⟨v3, rfl, k3, hb3⟩
          obtain ⟨p9, n9, q9, rfl⟩ := k3.shape
          go_wp2
          go_ret2
          exact unhide HP _ _ (k3.mono hB.size) (Below.chain hB hb3)
        · have CI := hide (Lap.inv_no p q (all ps) wr (by rw [unhide HAL]; omega) hrow (hide (by rw [unhide HC]; exact hz)))
          rw [unhide HC, unhide HAL] at CI
          have HP := hide (unhide HPN _ rfl hz)
          obtain ⟨F, hF⟩ : ∃ F, decF ps = F := ⟨_, rfl⟩
          rw [hF] at CI HP
          rw [unhide HAL]
          clear hz HPN HPO HC hroom hF
          go_wp2_with fail
          refine (unhide CI).mono ?_
          clear CI
          rintro e w3 ⟨rfl, hb3⟩
          go_wp2
          go_ret2
          exact unhide HP _ (Below.chain hB hb3)

end Go.Proofs.YtjnmogmagngenaiGreatDoor.Frm

/-
  hornref1's Gain and Value: by their contracts.
-/
namespace Go.Proofs.YtjnmogmagngenaiGreatDoor.Gai
open Go.RowKit
set_option linter.unusedVariables false

set_option maxHeartbeats 2000000 in
theorem refGain (n : Nat) (h : n ≤ 8000) (w : World) :
    Calls Tryz.prog 18 #[.int .i64 n] w fun e w' => e = .returned (.int .i64 (gi n)) ∧ w = w' := by
  rcases Nat.eq_zero_or_pos n with e | hn
  · subst e
    go_enter Tryz.func18, Tryz.ntmps18
    go_wp2
    go_ret
    exact ⟨rfl, rfl⟩
  · have hz : ((n : Int) == 0) = false := by simp; omega
    go_enter Tryz.func18, Tryz.ntmps18
    go_wp2
    go_loop [3, 4] (fun m p => ∃ M P : Nat, m = .int .i64 M ∧ p = .int .i64 P ∧ Hid (2 ^ M = P) ∧ M ≤ 12 ∧ 0 < P ∧ P ≤ n) (fun _ p => n - (intOf p).toNat)
    case atStart => exact ⟨0, 1, rfl, rfl, rfl, by omega, by omega, hn⟩
    case round =>
      obtain ⟨M, P, rfl, rfl, HP, hM, hp0, hp⟩ := hrel
      by_cases hlt : 2 * P ≤ n
      · have HP2 : Hid (2 ^ (M + 1) = 2 * P) := hide (by rw [Nat.pow_succ, unhide HP]; omega)
        have hM2 : M + 1 ≤ 12 := log_in (n := n) (by rw [unhide HP2]; exact hlt) h
        go_wp2
        go_round
        case rel => exact ⟨M + 1, 2 * P, by go_num, by go_num, HP2, hM2, by omega, hlt⟩
        case measure => simp [intOf]; omega
      · go_wp2
        go_loop [5] (fun q => ∃ Q : Nat, q = .int .i64 Q ∧ Q ≤ 3 ∧ Hid (Q * P ≤ 4 * (n - P))) (fun q => 3 - (intOf q).toNat)
        case atStart => exact ⟨0, rfl, by omega, by show 0 * P ≤ _; omega⟩
        case round =>
          obtain ⟨Q, rfl, hQ, HQ⟩ := hrel
          by_cases hq : (Q + 1) * P ≤ 4 * (n - P)
          · have hQ' : Q = 0 ∨ Q = 1 ∨ Q = 2 := by
              have : Q ≠ 3 := by rintro rfl; omega
              omega
            have HQ2 := hide hq
            rcases hQ' with rfl | rfl | rfl
            all_goals
              go_wp2
              go_round
              case rel => first | exact ⟨1, rfl, by omega, HQ2⟩ | exact ⟨2, rfl, by omega, HQ2⟩ | exact ⟨3, rfl, by omega, HQ2⟩
              case measure => simp [intOf]
          · have HE : Hid (gi n = 1 + 4 * M + Q) := hide (gi_is (by rw [unhide HP]; exact hp) (by rw [Nat.pow_succ, unhide HP]; omega) (by rw [unhide HP]; exact fourths hp0 (unhide HQ) (by omega)))
            have hQ' : Q = 0 ∨ Q = 1 ∨ Q = 2 ∨ Q = 3 := by omega
            rcases hQ' with rfl | rfl | rfl | rfl
            all_goals
              go_wp2
              go_ret
              exact ⟨ret_int (by rw [unhide HE]; omega), rfl⟩

/-- What hornref1's Value answers. -/
theorem refValue_far (g : Int) (w : World) (h : g < 0 ∨ (0 ≤ g ∧ 53 < g)) :
    Calls Tryz.prog 26 #[.int .i64 g] w fun e w' => e = .returned (.tuple #[.int .i64 0, .bool false]) ∧ w = w' := by
  rcases h with h | ⟨h, g⟩
  all_goals
    go_enter Tryz.func26, Tryz.ntmps26
    go_wp2
    go_ret2
    exact ⟨rfl, rfl⟩

theorem refValue_zero (w : World) :
    Calls Tryz.prog 26 #[.int .i64 0] w fun e w' => e = .returned (.tuple #[.int .i64 0, .bool true]) ∧ w = w' := by
  go_enter Tryz.func26, Tryz.ntmps26
  go_wp2
  go_ret2
  exact ⟨rfl, rfl⟩

/-- What may be of a gain. -/
def Way (g N : Nat) : Prop := (8000 < N ∧ Hid (vo g = false)) ∨ (N ≤ 8000 ∧ ∃ B : Nat, Hid (gi N = B) ∧ (((B : Int) == (g : Int)) = false ∧ Hid (vo g = false) ∨ B = g ∧ Hid (vo g = true ∧ vl g = N)))
theorem way {g : Nat} (hg : 0 < g) : Way g (mid g) := by
  have ev : vl g = mid g := by unfold vl; rw [if_neg (by omega)]
  cases h : vo g with
  | true =>
    obtain ⟨h1, h2⟩ := vo_is h
    rw [ev] at h1 h2
    exact Or.inr ⟨h1, g, h2, Or.inr ⟨rfl, h, ev⟩⟩
  | false =>
    have h1 := vo_not h
    rw [ev] at h1
    rcases h1 with h1 | ⟨h1, h2⟩
    · exact Or.inl ⟨h1, h⟩
    · exact Or.inr ⟨h1, _, rfl, Or.inl ⟨by simp; omega, h⟩⟩
/-- The answer. -/
def Ans (g : Nat) (e : Ending) : Prop := (Hid (vo g = true) ∧ e = .returned (.tuple #[.int .i64 (vl g), .bool true])) ∨ (Hid (vo g = false) ∧ e = .returned (.tuple #[.int .i64 0, .bool false]))

set_option maxHeartbeats 2000000 in
theorem refValue_some (g : Nat) (hg : 0 < g) (h : g ≤ 53) (w : World) :
    Calls Tryz.prog 26 #[.int .i64 g] w fun e w' => Ans g e ∧ w = w' := by
  obtain ⟨m, q, P, e1, e2, hm, hq, e3, hp, hp', HM⟩ := mid_is hg h
  have hz : ((g : Int) == 0) = false := by simp; omega
  have hwy := way hg
  have HE3 := hide e3
  obtain ⟨N, hN⟩ : ∃ N, mid g = N := ⟨_, rfl⟩
  have hN1 := unhide HM
  rw [hN] at hwy hN1
  have HN := hide hN1
  clear HM hN e3 hN1
  go_enter Tryz.func26, Tryz.ntmps26
  go_wp2
  go_loop [4, 5] (fun p i => ∃ j R : Nat, j ≤ m ∧ i = .int .i64 j ∧ p = .int .i64 R ∧ Hid (2 ^ j = R) ∧ R ≤ 8192) (fun _ i => m - (intOf i).toNat)
  case atStart => exact ⟨0, 1, Nat.zero_le _, rfl, rfl, rfl, by omega⟩
  case round =>
    obtain ⟨j, R, hj, rfl, rfl, HR, hR⟩ := hrel
    by_cases hlt : j < m
    · have HR2 : Hid (2 ^ (j + 1) = 2 * R) := hide (by rw [Nat.pow_succ, unhide HR]; omega)
      have hR2 : 2 * R ≤ 8192 := by
        rw [← unhide HR2]; exact Nat.pow_le_pow_right (j := 13) (by omega) (by omega)
      go_wp2
      go_round
      case rel => exact ⟨j + 1, 2 * R, by omega, by go_num, by go_num, HR2, hR2⟩
      case measure => simp [intOf]; omega
    · obtain rfl : j = m := by omega
      obtain rfl : R = P := by
        have e := unhide HE3
        rw [show (2 : Int) ^ j = ((2 ^ j : Nat) : Int) by simp, unhide HR] at e
        omega
      have hq' : q = 0 ∨ q = 1 ∨ q = 2 ∨ q = 3 := by omega
      rcases hwy with ⟨hw, HV⟩ | ⟨hw, B, HB, hwy⟩
      · rcases hq' with rfl | rfl | rfl | rfl
        all_goals
          first
            | have hX : (R : Int) + (R : Int) / 8 = (N : Int) := by have := unhide HN; omega
            | have hX : (R : Int) + 3 * (R : Int) / 8 = (N : Int) := by have := unhide HN; omega
            | have hX : (R : Int) + 5 * (R : Int) / 8 = (N : Int) := by have := unhide HN; omega
            | have hX : (R : Int) + 7 * (R : Int) / 8 = (N : Int) := by have := unhide HN; omega
          go_wp2
          go_ret2
          exact ⟨Or.inr ⟨HV, rfl⟩, rfl⟩
      · have hc := refGain N hw w
        rw [unhide HB] at hc
        have HC := hide hc
        clear hc
        rcases hwy with ⟨hne, HV⟩ | ⟨rfl, HV⟩
        · have hne' : ((B : Int) != (g : Int)) = true := by simp [bne, hne]
          rcases hq' with rfl | rfl | rfl | rfl
          all_goals
            first
              | have hX : (R : Int) + (R : Int) / 8 = (N : Int) := by have := unhide HN; omega
              | have hX : (R : Int) + 3 * (R : Int) / 8 = (N : Int) := by have := unhide HN; omega
              | have hX : (R : Int) + 5 * (R : Int) / 8 = (N : Int) := by have := unhide HN; omega
              | have hX : (R : Int) + 7 * (R : Int) / 8 = (N : Int) := by have := unhide HN; omega
            go_wp2_with fail
            refine (unhide HC).mono ?_
            rintro e w1 ⟨rfl, rfl⟩
            go_wp2
            go_ret2
            exact ⟨Or.inr ⟨HV, rfl⟩, rfl⟩
        · have hne : ((B : Int) == (B : Int)) = true := by simp
          have hv := (unhide HV).2
          rcases hq' with rfl | rfl | rfl | rfl
          all_goals
            first
              | have hX : (R : Int) + (R : Int) / 8 = (N : Int) := by have := unhide HN; omega
              | have hX : (R : Int) + 3 * (R : Int) / 8 = (N : Int) := by have := unhide HN; omega
              | have hX : (R : Int) + 5 * (R : Int) / 8 = (N : Int) := by have := unhide HN; omega
              | have hX : (R : Int) + 7 * (R : Int) / 8 = (N : Int) := by have := unhide HN; omega
            go_wp2_with fail
            refine (unhide HC).mono ?_
            rintro e w1 ⟨rfl, rfl⟩
            go_wp2
            go_ret2
            exact ⟨Or.inl ⟨(unhide HV).1, by rw [hv]; rfl⟩, rfl⟩

end Go.Proofs.YtjnmogmagngenaiGreatDoor.Gai

/-
  hornref1.Bits: by its contract.
-/
namespace Go.Proofs.YtjnmogmagngenaiGreatDoor.Cnt
open Go.RowKit
set_option linter.unusedVariables false

set_option maxHeartbeats 4000000 in
theorem refBits (m : Int) (hm : m ≤ 20256) (w : World) :
    Calls Tryz.prog 82 #[.int .i64 m] w fun e w' => ∃ b : Nat, e = .returned (.int .i64 b) ∧ Least m b ∧ w = w' := by
  go_enter Tryz.func82, Tryz.ntmps82
  go_wp2
  go_loop [3, 4] (fun i p => ∃ (j : Nat) (P : Int), j ≤ 15 ∧ i = .int .i64 j ∧ p = .int .i64 P ∧ Hid (P = 2 ^ j) ∧ Hid (∀ i, i < j → (2 : Int) ^ i < m)) (fun i _ => 15 - (intOf i).toNat)
  case atStart => exact ⟨0, 1, by omega, rfl, rfl, rfl, fun i hi => absurd hi (by omega)⟩
  case round =>
    obtain ⟨j, P, hj, rfl, rfl, HP, H⟩ := hrel
    obtain ⟨p0, p1⟩ := pow_in j (by omega)
    rw [← unhide HP] at p0 p1
    by_cases hlt : P < m
    · have hj2 : j < 15 := by
        rcases Nat.lt_or_ge j 15 with h | h
        · exact h
        · obtain rfl : j = 15 := by omega
          have := unhide HP
          omega
      have H2 : Hid (∀ i, i < j + 1 → (2 : Int) ^ i < m) := hide (fun i hi => by
        rcases Nat.lt_or_ge i j with h | h
        · exact unhide H i h
        · obtain rfl : i = j := by omega
          rw [← unhide HP]; exact hlt)
      have H3 : Hid (2 * P = 2 ^ (j + 1)) := hide (by rw [unhide HP, Int.pow_succ]; omega)
      go_wp2
      go_round
      case rel => exact ⟨j + 1, 2 * P, by omega, by go_num, by go_num, H3, H2⟩
      case measure => simp [intOf]; omega
    · have hle : Hid (m ≤ (2 : Int) ^ j) := hide (by rw [← unhide HP]; omega)
      go_wp2
      go_ret
      exact ⟨j, rfl, ⟨unhide hle, unhide H⟩, rfl⟩

end Go.Proofs.YtjnmogmagngenaiGreatDoor.Cnt
