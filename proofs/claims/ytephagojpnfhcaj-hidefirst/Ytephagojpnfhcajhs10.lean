/-
  HideFirst, over any player that answers as it is asked.
-/
import Derived.Test.Ytephagojpnfhcajhs09
import Derived.Test.Ytephagojpnfhcajhs01
import Derived.Test.Ytephagojpnfhcajhs04
namespace Go.Proofs.Ytephagojpnfhcaj.Hid18
open Go.RowKit
open Go.Proofs.Ytephagojpnfhcaj.Tre Go.Proofs.Ytephagojpnfhcaj.Bnd Go.Proofs.Ytephagojpnfhcaj.Frm Go.Proofs.Ytephagojpnfhcaj.Pck Go.Proofs.Ytephagojpnfhcaj.Hrn Go.Proofs.Ytephagojpnfhcaj.Ev
set_option linter.unusedVariables false

theorem upto_zero (n : Nat) : upto (fun _ => 0) n = List.replicate n 0 := by
  refine eq_of_at (by rw [upto_length, List.length_replicate]) fun i hi => ?_
  rw [upto_length] at hi
  rw [upto_at _ hi]
  unfold at0
  rw [List.getElem?_replicate, if_pos hi]
  rfl

set_option maxRecDepth 100000 in
set_option maxHeartbeats 8000000 in
theorem first_walk (H : PHolds) (C : PlayC H) (a : Option Addr) (cap : Nat) (s : List Int) (B many : Int) (w : World) (hs : Row w a s) (zs : s.length ≤ 17592186044416) :
    Calls Try.prog 4 #[.slice a s.length cap, .int .i64 B, .int .i64 many] w fun e w' => e = .returned (.bool true) ∧ Below w.heap.size w w' := by
  have CN := hide (C.new a cap s B w hs zs)
  have HNF : Hid (newF s B = if bf s = 0 then (if B < 0 ∨ 400 < B then 1 else if total s % 2 = 0 then 0 else 3) else bf s) := hide rfl
  by_cases hb : bf s = 0
  · have CB := hide (fun W h => Bnd.check_ok a cap s W (by omega) h (hide hb))
    obtain ⟨n0, n8, hsz, n32⟩ := bf_ok hb
    rw [if_pos hb] at HNF
    have HLO : Hid (lostL s [] = List.replicate (total s) 0) := hide lost_none
    have HSF : Hid (soft [] = []) := hide rfl
    have CLO : Hid (∀ Q W b k, H s B Q W b [] k → 0 ≤ k → k ≤ 1000000 → Calls Try.prog 6 #[.pointer (some ⟨b, 0, none⟩)] W fun e W' => ∃ po qo, e = .returned (.slice po (total s) qo) ∧ RowN W.heap.size W' po (List.replicate (total s) 0) ∧ LeftP H s B Q W b [] (k + 1) W') := hide (fun Q W b k h h0 h9 => (C.lose h h0 h9).mono fun e W' ⟨po, qo, h1, h2, _, _, h5⟩ => by
      rw [unhide HLO] at h1 h2
      rw [List.length_replicate] at h1
      exact ⟨po, qo, h1, h2, h5⟩)
    obtain ⟨TT, hTT⟩ : ∃ TT, total s = TT := ⟨_, rfl⟩
    rw [hTT] at CB HNF CLO n32
    have hmod : Int.tmod (TT : Int) 2 = ((TT % 2 : Nat) : Int) := rfl
    obtain ⟨N, hN⟩ : ∃ N, s.length = N := ⟨_, rfl⟩
    rw [hN] at CN CB ⊢
    clear hb hTT hN zs hsz n8 n0 HLO HSF
    go_enter Try.func4, Try.ntmps4
    go_wp2_with fail
    refine (unhide CN).mono ?_
    rintro e w1 ⟨hsay, hb1⟩
    have CB1 := hide (unhide CB w1 (hs.below hb1))
    clear CN CB
    rcases hsay with ⟨hne, rfl⟩ | ⟨h0, b, Q0, rfl, hH0, hq0⟩
    · rw [errV_ne hne]
      rw [unhide HNF] at hne
      go_wp2_with fail
      refine (unhide CB1).mono ?_
      rintro e w2 ⟨rfl, hw2⟩
      obtain rfl : w1 = w2 := hw2.symm
      clear CB1 HNF CLO
      by_cases h2 : TT % 2 = 0
      · rw [h2] at hmod
        by_cases h3 : B < 0
        · have d3 : decide (B < 0) = true := decide_eq_true h3
          clear hne h2
          go_wp2
          go_ret
          exact ⟨rfl, hb1⟩
        · have d3 : decide (B < 0) = false := decide_eq_false h3
          have h4 : 400 < B := by
            refine Decidable.byContradiction fun h => hne ?_
            rw [if_neg (by omega), if_pos h2]
          have d4 : decide (400 < B) = true := decide_eq_true h4
          clear hne h2
          go_wp2
          go_ret
          exact ⟨rfl, hb1⟩
      · have h3 : TT % 2 = 1 := by omega
        rw [h3] at hmod
        clear hne h2 h3
        go_wp2
        go_ret
        exact ⟨rfl, hb1⟩
    · have HQ0 := hide hq0
      clear hq0 HNF h0
      go_wp2_with fail
      refine (unhide CB1).mono ?_
      rintro e w2 ⟨rfl, hw2⟩
      obtain rfl : w1 = w2 := hw2.symm
      clear CB1
      go_wp2
      go_loopw [11] (fun i wr => ∃ (k : Nat) (Q : Nat → Prop), k ≤ 29 ∧ i = .int .i64 ((k + 1 : Nat) : Int) ∧ H s B Q wr b [] (k : Int) ∧ Hid (∀ j, Q j → w.heap.size ≤ j) ∧ Below w.heap.size w wr) (fun i _ => 31 - (intOf i).toNat)
      case atStart => exact ⟨0, Q0, by omega, rfl, hH0, HQ0, hb1⟩
      case round =>
        obtain ⟨k, Q, hk, rfl, hH, HQ, hB⟩ := hrel
        clear hH0 HQ0 hb1
        obtain ⟨K1, hK1⟩ : ∃ K1, k + 1 = K1 := ⟨_, rfl⟩
        have HK1 := hide hK1
        rw [hK1]
        have hK30 : K1 ≤ 30 := by omega
        have hK0 : 1 ≤ K1 := by omega
        by_cases h1 : (K1 : Int) ≤ many
        · have e1 : decide ((K1 : Int) ≤ many) = true := decide_eq_true h1
          by_cases h2 : K1 < 30
          · have e2 : decide ((K1 : Int) < 30) = true := decide_eq_true (by omega)
            have e2' : decide (K1 < 30) = true := decide_eq_true h2
            have CL := hide (unhide CLO Q wr b k hH (by omega) (by omega))
            clear hK1
            go_wp2_with fail
            refine (unhide CL).mono ?_
            rintro e w3 ⟨po, qo, rfl, r3, hl3⟩
            obtain ⟨Q3, hH3, hq3, hB3⟩ := hl3.on (unhide HQ) hB hB.size
            have hH3' : H s B Q3 w3 b [] ((K1 : Nat) : Int) := by
              have e : ((k : Int) + 1) = ((K1 : Nat) : Int) := by rw [← unhide HK1]; rfl
              rw [← e]
              exact hH3
            have HQ3 := hide hq3
            have R3 := hide r3.row
            clear CL hl3 HQ hB hH hH3 hq3 r3
            go_wp2_with (at_make; refine wpList_mk _ rfl _ rfl TT rfl (by omega) ?_; intro w4 k4 hb4)
            have r4 := unhide R3 |>.below hb4
            obtain ⟨p4, q4, e4, r5⟩ := k4.row
            rw [upto_zero] at r5
            rw [upto_length] at e4
            obtain ⟨ea, -, ec⟩ := Value.slice.inj e4
            subst ea ec
            have CI := hide (Same.ints_same po qo _ TT (List.replicate TT 0) w4 (by rw [List.length_replicate]; omega) r4 r5)
            rw [List.length_replicate] at CI
            have KH : Hid (∀ W', Below w3.heap.size w3 W' → H s B Q3 W' b [] ((K1 : Nat) : Int)) := hide (fun W' hb => C.below hH3' hb)
            have hB4 := Below.chain hB3 hb4
            clear R3 k4 r4 r5 e4 hH3' hB3
            go_wp2_with fail
            refine (unhide CI).mono ?_
            rintro e w5 ⟨rfl, hb5⟩
            have hb35 := Below.chain hb4 hb5
            have hH5 := unhide KH w5 hb35
            have hB5 := Below.chain hB4 hb5
            have CT := hide (C.lost hH5)
            have KH5 : Hid (∀ W', Below w5.heap.size w5 W' → H s B Q3 W' b [] ((K1 : Nat) : Int)) := hide (fun W' hb => C.below hH5 hb)
            have dK : ((K1 : Int) != (K1 : Int)) = false := by simp
            have dK' : ((K1 : Int) == (K1 : Int)) = true := by simp
            clear CI KH hb4 hb5 hb35 hB4 hH5
            go_wp2_with fail
            refine (unhide CT).mono ?_
            rintro e w6 ⟨rfl, hb6⟩
            have hH6 := unhide KH5 w6 hb6
            have hB6 := Below.chain hB5 hb6
            clear CT KH5 hb6 hB5
            go_wp2
            go_roundw
            case rel => exact ⟨K1, Q3, by omega, by go_num, hH6, HQ3, hB6⟩
            case measure => simp [intOf]; omega
          · have e2 : decide ((K1 : Int) < 30) = false := decide_eq_false (by omega)
            have e2' : decide (K1 < 30) = false := decide_eq_false h2
            go_wp2
            go_ret
            exact ⟨rfl, hB⟩
        · have e1 : decide ((K1 : Int) ≤ many) = false := decide_eq_false h1
          go_wp2
          go_ret
          exact ⟨rfl, hB⟩
  · have CB := hide (fun W h => Bnd.check_no a cap s W (by omega) h (hide hb))
    rw [if_neg hb] at HNF
    obtain ⟨N, hN⟩ : ∃ N, s.length = N := ⟨_, rfl⟩
    rw [hN] at CN CB ⊢
    obtain ⟨F, hF⟩ : ∃ F, bf s = F := ⟨_, rfl⟩
    rw [hF] at CB HNF hb
    clear hN hF zs
    go_enter Try.func4, Try.ntmps4
    go_wp2_with fail
    refine (unhide CN).mono ?_
    rintro e w1 ⟨hsay, hb1⟩
    have CB1 := hide (unhide CB w1 (hs.below hb1))
    rw [unhide HNF] at hsay
    clear CN CB HNF
    rcases hsay with ⟨hne, rfl⟩ | ⟨h0, _⟩
    · rw [errV_ne hne]
      go_wp2_with fail
      refine (unhide CB1).mono ?_
      rintro e w2 ⟨rfl, hw2⟩
      obtain rfl : w1 = w2 := hw2.symm
      go_wp2
      go_ret
      exact ⟨rfl, hb1⟩
    · exact absurd h0 hb

end Go.Proofs.Ytephagojpnfhcaj.Hid18
