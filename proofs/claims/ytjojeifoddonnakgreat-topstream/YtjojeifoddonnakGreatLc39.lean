/-
  frame.Decode: by its contract; what it tells is new memory.
-/
import Derived.Test.YtjojeifoddonnakGreatLc09
import Derived.Test.YtjojeifoddonnakGreatLc32
import Derived.Test.YtjojeifoddonnakGreatLc11
namespace Go.Proofs.YtjojeifoddonnakGreat.Frm
open Go.RowKit
open Go.Proofs.YtjojeifoddonnakGreat.Tre Go.Proofs.YtjojeifoddonnakGreat.Bnd Go.Proofs.YtjojeifoddonnakGreat.Pls Go.Proofs.YtjojeifoddonnakGreat.Gai Go.Proofs.YtjojeifoddonnakGreat.Ev
set_option linter.unusedVariables false

/-- What Decode tells. -/
def DecSays (ps : List Prt) (w : World) (e : Ending) (w' : World) : Prop := ∃ p q, e = .returned (.tuple #[.slice p (decL ps).length q, errV (decF ps)]) ∧ RowN w.heap.size w' p (decL ps) ∧ (decL ps).length ≤ q ∧ q ≤ 9223372036854775807 ∧ Below w.heap.size w w'
theorem dec_fault {ps : List Prt} {F : Int} {w w' : World} (h : decF ps = F) (hF : F ≠ 0) (hb : Below w.heap.size w w') : DecSays ps w (.returned (.tuple #[.slice none 0 0, .iface 60 (.int .i64 F)])) w' := by
  have e : decL ps = [] := by unfold decL; rw [if_neg (by rw [h]; exact hF)]
  exact ⟨none, 0, by rw [e, h, errV_ne hF]; rfl, by rw [e]; exact Or.inl rfl, by rw [e]; exact Nat.le_refl _, by omega, hb⟩
theorem dec_fine {ps : List Prt} {v : Value} {w w' : World} (h : decF ps = 0) (hv : Has w' w.heap.size v (Lap.unlap (all ps))) (hb : Below w.heap.size w w') : DecSays ps w (.returned (.tuple #[v, .nilIface])) w' := by
  have e : decL ps = Lap.unlap (all ps) := by unfold decL; rw [if_pos h]
  obtain ⟨p, q, rfl, -, h2, h3, h1⟩ := rowN_of hv
  exact ⟨p, q, by rw [e, h]; rfl, by rw [e]; exact h1, by rw [e]; exact h2, h3, hb⟩

set_option maxRecDepth 100000 in
set_option maxHeartbeats 8000000 in
theorem decodeN (a : Option Addr) (cap : Nat) (ps : List Prt) (w : World) (hp : Pts w a ps) (zp : ps.length ≤ 17592186044416) (zl : Hid (∀ i, i < ps.length → (prt ps i).2.length ≤ 17592186044416)) :
    Calls Tryz.prog 16 #[.slice a ps.length cap] w fun e w' => ∃ p q, e = .returned (.tuple #[.slice p (decL ps).length q, errV (decF ps)]) ∧ RowN w.heap.size w' p (decL ps) ∧ (decL ps).length ≤ q ∧ q ≤ 9223372036854775807 ∧ Below w.heap.size w w' := by
  show Calls Tryz.prog 16 #[.slice a ps.length cap] w fun e w' => DecSays ps w e w'
  by_cases h0 : ps.length = 0
  · have HP : Hid (DecSays ps w (.returned (.tuple #[.slice none 0 0, .iface 60 (.int .i64 5)])) w) := hide (dec_fault (by unfold decF; rw [if_pos h0]) (by omega) (Below.refl _ _))
    rw [h0]
    clear h0 zp zl
    go_enter Tryz.func16, Tryz.ntmps16
    go_wp2
    go_ret2
    exact unhide HP
  by_cases h8 : 8 < ps.length
  · have HP : Hid (DecSays ps w (.returned (.tuple #[.slice none 0 0, .iface 60 (.int .i64 4)])) w) := hide (dec_fault (by unfold decF; rw [if_neg h0, if_pos (Or.inl h8)]) (by omega) (Below.refl _ _))
    obtain ⟨N, hN⟩ : ∃ N, ps.length = N := ⟨_, rfl⟩
    rw [hN] at h0 h8 zp ⊢
    have n0 : ((N : Int) == 0) = false := by simp; omega
    have d8 : decide (8 < (N : Int)) = true := by simp; omega
    clear hN zl
    go_enter Tryz.func16, Tryz.ntmps16
    go_wp2
    go_ret2
    exact unhide HP
  have CMN := hide (manyNumbers a cap ps w hp (by omega) zl)
  by_cases h32 : 32 < long ps
  · have HP : Hid (∀ w', Below w.heap.size w w' → DecSays ps w (.returned (.tuple #[.slice none 0 0, .iface 60 (.int .i64 4)])) w') := hide (fun w' hb => dec_fault (by unfold decF; rw [if_neg h0, if_pos (Or.inr h32)]) (by omega) hb)
    obtain ⟨N, hN⟩ : ∃ N, ps.length = N := ⟨_, rfl⟩
    obtain ⟨M, hM⟩ : ∃ M, long ps = M := ⟨_, rfl⟩
    rw [hN] at h0 h8 zp CMN ⊢
    rw [hM] at h32 CMN
    have n0 : ((N : Int) == 0) = false := by simp; omega
    have d8 : decide (8 < (N : Int)) = false := by simp; omega
    have d32 : decide (32 < (M : Int)) = true := by simp; omega
    clear hN hM zl
    go_enter Tryz.func16, Tryz.ntmps16
    go_wp2_with fail
    refine (unhide CMN).mono ?_
    rintro e w1 ⟨rfl, hb1⟩
    go_wp2
    go_ret2
    exact unhide HP _ hb1
  · have hno : ¬ (8 < ps.length ∨ 32 < long ps) := by omega
    have HP2 : Hid (twoF ps ≠ 0 → ∀ F, twoF ps = F → ∀ w', Below w.heap.size w w' → DecSays ps w (.returned (.tuple #[.slice none 0 0, .iface 60 (.int .i64 F)])) w') := hide (fun h' F hF w' hb => dec_fault (by unfold decF; rw [if_neg h0, if_neg hno, if_neg h', hF]) (by rw [← hF]; exact h') hb)
    have HCK : Hid (twoF ps = 0 → Lap.chk (all ps) 4000 = decF ps) := hide (fun h => by
      unfold decF Lap.chk
      rw [if_neg h0, if_neg hno, if_pos h, all_length, if_neg (by omega)]
      by_cases h2 : long ps % 2 = 0
      · rw [if_pos h2, if_neg (fun h => h h2)]
      · rw [if_neg h2, if_pos h2])
    have HPN : Hid (∀ F, decF ps = F → F ≠ 0 → ∀ w', Below w.heap.size w w' → DecSays ps w (.returned (.tuple #[.slice none 0 0, .iface 60 (.int .i64 F)])) w') := hide (fun F h hF w' hb => dec_fault h hF hb)
    have HPO : Hid (decF ps = 0 → ∀ v w', Has w' w.heap.size v (Lap.unlap (all ps)) → Below w.heap.size w w' → DecSays ps w (.returned (.tuple #[v, .nilIface])) w') := hide (fun h v w' hv hb => dec_fine h hv hb)
    have HAA : Hid (all (ps.take ps.length) = all ps) := hide (by rw [List.take_length])
    have HAL := hide (all_length ps)
    have HD0 : Hid (twoF (ps.drop 0) = twoF ps) := hide (by rw [List.drop_zero])
    have HA0 : Hid (all (ps.take 0) = []) := hide rfl
    have HLL : Hid (∀ j, j ≤ ps.length → (all (ps.take j)).length ≤ long ps) := hide (fun j hj => by
      rw [all_length]
      have := long_mono ps (k := j) (m := ps.length) hj
      rw [List.take_length] at this
      exact this)
    obtain ⟨M, hM⟩ : ∃ M, long ps = M := ⟨_, rfl⟩
    rw [hM] at h32 CMN HAL HLL
    obtain ⟨N, hN⟩ : ∃ N, ps.length = N := ⟨_, rfl⟩
    have HN := hide hN
    rw [hN] at h0 h8 zp CMN HAA HLL ⊢
    have n0 : ((N : Int) == 0) = false := by simp; omega
    have d8 : decide (8 < (N : Int)) = false := by simp; omega
    have d32 : decide (32 < (M : Int)) = false := by simp; omega
    clear hM hN zl hno
    go_enter Tryz.func16, Tryz.ntmps16
    go_wp2_with fail
    refine (unhide CMN).mono ?_
    rintro e w1 ⟨rfl, hb1⟩
    clear CMN
    go_wp2
    go_loopw [4, 24] (fun v i wr => ∃ m : Nat, m ≤ N ∧ i = .int .i64 m ∧ Hid (twoF (ps.drop m) = twoF ps) ∧ Has wr w.heap.size v (all (ps.take m)) ∧ Below w.heap.size w wr) (fun _ i _ => N - (intOf i).toNat)
    case atStart => exact ⟨0, Nat.zero_le _, rfl, HD0, by rw [unhide HA0]; exact Has.nil _ _, hb1⟩
    case round =>
      obtain ⟨m, hm, rfl, HD, hv, hB⟩ := hrel
      clear HD0 HA0 hb1
      by_cases hlt : m < N
      · have hlt1 : m < ps.length := by rw [unhide HN]; exact hlt
        obtain ⟨b1, off1, rfl, hbw, hc1⟩ := (hp.below hB).at hlt1
        obtain ⟨x1, A, C, x2, x3, x4, x5, x6⟩ := hc1 m hlt1
        have HST : Hid (twoF ps = if fault (prt ps m).2 = 0 then (if gok (prt ps m).1 = true then twoF (ps.drop (m + 1)) else 1) else fault (prt ps m).2) := hide (by rw [← unhide HD, drop_prt hlt1, twoF])
        have HAS := hide (all_step hlt1)
        have HTL := hide (told_length (prt ps m))
        have HLm := hide (unhide HLL (m + 1) hlt)
        have HPE : Hid (told (prt ps m) = told ((prt ps m).1, (prt ps m).2)) := hide rfl
        rw [unhide HPE] at HAS HTL
        obtain ⟨G, hG⟩ : ∃ G, (prt ps m).1 = G := ⟨_, rfl⟩
        obtain ⟨pl, hpl⟩ : ∃ pl, (prt ps m).2 = pl := ⟨_, rfl⟩
        rw [hG] at x1 HST HAS HTL
        rw [hpl] at x2 x4 x6 HST HAS HTL
        have hbA : Below wr.heap.size wr (wr.alloc (.cells #[.int .i64 G, .slice A pl.length C] 71)) := (Below.refl _ _).alloc (Nat.le_refl _) _
        have hB2 := hB.alloc hB.size (.cells #[.int .i64 G, .slice A pl.length C] 71)
        have hv2 := hv.alloc (.cells #[.int .i64 G, .slice A pl.length C] 71)
        have CN := hide (numbersOf G A C pl _ (by omega) (x6.below hbA))
        obtain ⟨L, hL⟩ : ∃ L, pl.length = L := ⟨_, rfl⟩
        rw [hL] at x2 CN hB2 hv2 HTL
        clear hc1 hlt1 hG hpl HD x3 x6 hbA hv hB hL HPE x4
        go_wp2_with fail
        refine (unhide CN).mono ?_
        clear CN
        rintro e w3 ⟨hsay, hb3⟩
        have hB3 := Below.chain hB2 hb3
        have hv3 := hv2.below hb3
        clear hv2 hB2
        rcases hsay with ⟨hf, rfl⟩ | ⟨hf, hsay⟩
        · have HP := hide (unhide HP2 (by rw [unhide HST, if_neg hf]; exact hf) _ (by rw [unhide HST, if_neg hf]) _ hB3)
          obtain ⟨F, hF⟩ : ∃ F, fault pl = F := ⟨_, rfl⟩
          rw [hF] at HP ⊢
          clear HST HP2 HPN HPO HCK hf hF HAS HTL HLm hv3 hb3
          go_wp2
          go_ret2
          exact unhide HP
        · rcases hsay with ⟨hg, rfl⟩ | ⟨hg, v3, rfl, k3⟩
          · have HP := hide (unhide HP2 (by rw [unhide HST, if_pos hf, if_neg (by rw [hg]; simp)]; omega) 1 (by rw [unhide HST, if_pos hf, if_neg (by rw [hg]; simp)]) _ hB3)
            clear HST HP2 HPN HPO HCK hf hg HAS HTL HLm hv3 hb3
            go_wp2
            go_ret2
            exact unhide HP
          · have HD2 : Hid (twoF (ps.drop (m + 1)) = twoF ps) := hide (by rw [unhide HST, if_pos hf, if_pos hg])
            obtain ⟨tp, htp⟩ : ∃ tp, told (G, pl) = tp := ⟨_, rfl⟩
            rw [htp] at HAS k3 HTL
            obtain ⟨ap, hap⟩ : ∃ ap, all (ps.take m) = ap := ⟨_, rfl⟩
            rw [hap] at HAS hv3
            have hln : Hid (ap.length + tp.length ≤ 1000000) := hide (by
              have := unhide HLm
              rw [unhide HAS, List.length_append] at this
              omega)
            obtain ⟨p3, c3, rfl, r3⟩ := k3.row
            have hWs := hB3.size
            clear HST hf hg htp hap HLm HTL
            go_wp2_with (at_builtin; refine wpList_app _ rfl _ _ rfl w.heap.size u4 ap tp _ _ rfl hv3 rfl r3 (unhide hln) (by omega) ?_; intro s' w6 k6 g6 at6)
            have hB6 : Below w.heap.size w w6 := hB3.trans ((Below.refl _ w3).grown g6 hWs (fun j e => (hv3.lt j e).1))
            rw [← unhide HAS] at k6
            clear hv3 hB3 g6 at6 k3 r3 hb3
            go_wp2
            go_roundw
            case rel => exact ⟨m + 1, by omega, by go_num, HD2, k6, hB6⟩
            case measure => simp [intOf]; omega
      · obtain rfl : m = N := by omega
        have HO0 : Hid (twoF ps = 0) := hide (by rw [← unhide HD, ← unhide HN, List.drop_length]; rfl)
        have HC := hide (unhide HCK (unhide HO0))
        rw [unhide HAA] at hv
        obtain ⟨p, q, rfl, hrow⟩ := hv.row
        have hroom := Lap.has_roomy hv
        clear HO0 HCK HP2 HD hv
        by_cases hz : decF ps = 0
        · have CI := hide (Lap.inv_ok p q (all ps) wr (by rw [unhide HAL]; omega) hroom hrow (hide (by rw [unhide HC]; exact hz)))
          have HP := hide (unhide HPO hz)
          rw [unhide HAL] at CI
          rw [unhide HAL]
          clear hz HPN HPO HC hroom
          go_wp2_with fail
          refine (unhide CI).mono ?_
          clear CI
          rintro e w3 ⟨v3, rfl, k3, hb3⟩
          obtain ⟨p9, n9, q9, rfl⟩ := k3.shape
          go_wp2
          go_ret2
          exact unhide HP _ _ (k3.mono hB.size) (Below.chain hB hb3)
        · have CI := hide (Lap.inv_no p q (all ps) wr (by rw [unhide HAL]; omega) hrow (hide (by rw [unhide HC]; exact hz)))
          rw [unhide HC, unhide HAL] at CI
          have HP := hide (unhide HPN _ rfl hz)
          obtain ⟨F, hF⟩ : ∃ F, decF ps = F := ⟨_, rfl⟩
          rw [hF] at CI HP
          rw [unhide HAL]
          clear hz HPN HPO HC hroom hF
          go_wp2_with fail
          refine (unhide CI).mono ?_
          clear CI
          rintro e w3 ⟨rfl, hb3⟩
          go_wp2
          go_ret2
          exact unhide HP _ (Below.chain hB hb3)

end Go.Proofs.YtjojeifoddonnakGreat.Frm
