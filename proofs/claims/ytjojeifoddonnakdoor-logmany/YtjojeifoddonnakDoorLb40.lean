/-
  share.next: by its contract.
-/
import Derived.Test.YtjojeifoddonnakDoorLb36
import Derived.Laws.EntriesVeiled
namespace Go.Proofs.YtjojeifoddonnakDoor.Shr
open Go.RowKit
open Go.Proofs.YtjojeifoddonnakDoor.Tre Go.Proofs.YtjojeifoddonnakDoor.Cnt Go.Proofs.YtjojeifoddonnakDoor.Bnd
set_option linter.unusedVariables false

set_option maxRecDepth 100000 in
set_option maxHeartbeats 4000000 in
theorem next (b : Option Addr) (capb : Nat) (d : List Int) (p : Option Addr) (capp N : Nat) (s o : List Int) (B : Int) (Bz Bq Bl : Nat) (w : World) (hd : Row w b d) (ho : Row w p o) (h0 : 1 ≤ N) (h8 : N ≤ 8) (hdl : Hid (d.length = N)) (hol : Hid (o.length = N)) (hp : Hid (Pls o)) (hld : Hid (Lds d))
    (ha : Hid (∀ i W, i < N → at0 o i ≠ 8 → Below w.heap.size w W → Calls Tryd.prog 57 #[.int .i64 i, .pointer (some ⟨Bz, 0, none⟩), .pointer (some ⟨Bq, 0, none⟩), .pointer (some ⟨Bl, 0, none⟩)] W fun e w' => e = .returned (.bool (decide ((cost s (inc o i) : Int) ≤ B))) ∧ Below W.heap.size W w')) :
    Calls Tryd.prog 59 #[.slice b N capb, .slice p N capp, .func (.func 57) #[] #[.pointer (some ⟨Bz, 0, none⟩), .pointer (some ⟨Bq, 0, none⟩), .pointer (some ⟨Bl, 0, none⟩)]] w fun e w' => e = .returned (.int .i64 (bv (bst s d o B N))) ∧ Below w.heap.size w w' := by
  have hmf : ∀ (fn : Fn) (first cap : Array Value) (w : World), (Instr.makeFunc fn first cap).run Tryd.prog w = .ok (.func fn first cap) w := fun _ _ _ _ => rfl
  have B1 := below_box w (.slice b N capb) 27
  have x1 : BoxR (w.alloc (.cells #[.slice b N capb] 27)) w.heap.size d := by
    have := boxR_new (c := capb) (l := d) (by rw [unhide hdl]; exact h0) hd
    rw [unhide hdl] at this
    exact this
  have ho1 := ho.below B1
  have sz1 : (w.alloc (.cells #[.slice b N capb] 27)).heap.size = w.heap.size + 1 := by simp
  obtain ⟨W1, hW1⟩ : ∃ W1, w.alloc (.cells #[.slice b N capb] 27) = W1 := ⟨_, rfl⟩
  rw [hW1] at B1 x1 ho1 sz1
  have B2 := below_box W1 (.slice p N capp) 27
  have x2 : BoxR (W1.alloc (.cells #[.slice p N capp] 27)) W1.heap.size o := by
    have := boxR_new (c := capp) (l := o) (by rw [unhide hol]; exact h0) ho1
    rw [unhide hol] at this
    exact this
  have y2 := Boxed.new W1 27 (.slice p N capp)
  have x1' := x1.below B2
  have ho2 := ho1.below B2
  have sz2 : (W1.alloc (.cells #[.slice p N capp] 27)).heap.size = W1.heap.size + 1 := by simp
  obtain ⟨W2, hW2⟩ : ∃ W2, W1.alloc (.cells #[.slice p N capp] 27) = W2 := ⟨_, rfl⟩
  rw [hW2] at B2 x2 x1' sz2 y2 ho2
  have B3 := below_box W2 (.func (.func 71) #[] #[.pointer (some ⟨w.heap.size + 1, 0, none⟩)]) 79
  have x3 : Sq (W2.alloc (.cells #[.func (.func 71) #[] #[.pointer (some ⟨w.heap.size + 1, 0, none⟩)]] 79)) W2.heap.size (w.heap.size + 1) := Boxed.new _ _ _
  have k1 := x1'.below B3
  have k2 := x2.below B3
  have y3 := boxed_below y2 B3 y2.lt
  have ho3 := ho2.below B3
  obtain ⟨W3, hW3⟩ : ∃ W3, W2.alloc (.cells #[.func (.func 71) #[] #[.pointer (some ⟨w.heap.size + 1, 0, none⟩)]] 79) = W3 := ⟨_, rfl⟩
  rw [hW3] at B3 x3 k1 k2 y3 ho3
  rw [sz2, sz1] at x3
  rw [sz1] at k2 y3
  have hWB := Below.chain B1 (Below.chain B2 B3)
  have hd3 := hd.below hWB
  obtain ⟨Q1, hQ1⟩ : ∃ Q1, w.heap.size = Q1 := ⟨_, rfl⟩
  have HK1 := hide k1
  have HK2 := hide k2
  have HSQ := hide x3
  have HB3 := hide hWB
  have HD3 := hide hd3
  have HO3 := hide ho3
  have HY3 := hide y3
  have HE : Hid (((w.alloc (.cells #[.slice b N capb] 27)).alloc (.cells #[.slice p N capp] 27)).alloc (.cells #[.func (.func 71) #[] #[.pointer (some ⟨w.heap.size + 1, 0, none⟩)]] 79) = W3) := hide (by rw [hW1, hW2, hW3])
  clear B1 x1 ho1 sz1 hW1 B2 x2 x1' sz2 y2 ho2 hW2 B3 x3 k1 k2 y3 ho3 hW3 hWB hd3 hQ1 Q1
  go_enter Tryd.func59, Tryd.ntmps59
  go_wp2
  rw [unhide HE]
  go_loopw [9, 16] (fun z i wr => ∃ (j : Nat) (Z : Int), j ≤ N ∧ i = .int .i64 j ∧ z = .int .i64 Z ∧ Hid (bv (bst s d o B j) = Z) ∧ Below W3.heap.size W3 wr) (fun _ i _ => N - (intOf i).toNat)
  case atStart => exact ⟨0, -1, Nat.zero_le _, rfl, rfl, hide rfl, Below.refl _ _⟩
  case round =>
    obtain ⟨j, Z, hj, rfl, rfl, HZ, hB⟩ := hrel
    by_cases hlt : j < N
    · obtain ⟨b1, off1, rfl, _, hc1⟩ := cell_shr' ((unhide HD3).below hB) (by rw [unhide hdl]; omega)
      obtain ⟨b2, off2, rfl, _, hc2⟩ := cell_shr' ((unhide HO3).below hB) (by rw [unhide hol]; omega)
      have c0 := (boxed_below (unhide HY3) hB (unhide HY3).lt).cell
      have c1 := hc1 j (by rw [unhide hdl]; exact hlt)
      have c2 := hc2 j (by rw [unhide hol]; exact hlt)
      obtain ⟨d0, d9⟩ := unhide hld j (by rw [unhide hdl]; exact hlt)
      obtain ⟨o0, o9⟩ := unhide hp j (by rw [unhide hol]; exact hlt)
      have HNC : Hid (¬ Can s d o B j → bv (bst s d o B (j + 1)) = Z) := hide (fun h => by rw [bst_can h]; exact unhide HZ)
      have HCN : Hid (at0 d j ≠ 0 → at0 o j ≠ 8 → (cost s (inc o j) : Int) ≤ B → Can s d o B j) := hide (fun h1 h2 h3 => ⟨h1, h2, h3⟩)
      have HCX : Hid (Can s d o B j → at0 d j ≠ 0 ∧ at0 o j ≠ 8 ∧ (cost s (inc o j) : Int) ≤ B) := hide (fun h => h)
      have HA : Hid (at0 o j ≠ 8 → _) := hide (fun h => unhide ha j wr hlt h (Below.chain (unhide HB3) hB))
      obtain ⟨D, hD⟩ : ∃ D, at0 d j = D := ⟨_, rfl⟩
      obtain ⟨P, hP⟩ : ∃ P, at0 o j = P := ⟨_, rfl⟩
      obtain ⟨T, hT⟩ : ∃ T, decide ((cost s (inc o j) : Int) ≤ B) = T := ⟨_, rfl⟩
      rw [hD] at c1 d0 d9 HCN HCX
      rw [hP] at c2 o0 o9 HCN HCX HA
      rw [hT] at HA
      have HT := hide hT
      clear hD hP hc1 hc2 hT
      by_cases hD0 : D = 0
      · have dD : (D == 0) = true := by rw [hD0]; rfl
        have HZ2 := hide (unhide HNC (fun h => (unhide HCX h).1 hD0))
        clear hD0 HNC HCN HCX HA
        go_wp2
        go_roundw
        case rel => exact ⟨j + 1, Z, by omega, by go_num, rfl, HZ2, hB⟩
        case measure => simp [intOf]; omega
      · have dD : (D == 0) = false := by rw [beq_eq_false_iff_ne]; exact hD0
        by_cases hP8 : P = 8
        · have dP : (P == 8) = true := by rw [hP8]; rfl
          have HZ2 := hide (unhide HNC (fun h => (unhide HCX h).2.1 hP8))
          clear hD0 hP8 HNC HCN HCX HA
          go_wp2
          go_roundw
          case rel => exact ⟨j + 1, Z, by omega, by go_num, rfl, HZ2, hB⟩
          case measure => simp [intOf]; omega
        · have dP : (P == 8) = false := by rw [beq_eq_false_iff_ne]; exact hP8
          have hka := unhide HA hP8
          cases T with
          | false =>
            have hcb : ¬ ((cost s (inc o j) : Int) ≤ B) := by simpa using unhide HT
            have HZ2 := hide (unhide HNC (fun h => hcb (unhide HCX h).2.2))
            clear hcb hD0 hP8 HNC HCN HCX HA HT
            go_wp2_with fail
            refine hka.mono ?_
            clear hka
            rintro e w5 ⟨rfl, hb5⟩
            go_wp2
            go_roundw
            case rel => exact ⟨j + 1, Z, by omega, by go_num, rfl, HZ2, Below.chain hB hb5⟩
            case measure => simp [intOf]; omega
          | true =>
            have hcb : (cost s (inc o j) : Int) ≤ B := by simpa using unhide HT
            have HCA := hide (unhide HCN hD0 hP8 hcb)
            clear hcb hD0 hP8 HNC HCN HCX HA HT
            cases hb : bst s d o B j with
            | none =>
              obtain rfl : Z = -1 := by rw [← unhide HZ, hb]; rfl
              have HZ2 : Hid (bv (bst s d o B (j + 1)) = (j : Int)) := hide (by rw [bst_first (unhide HCA) hb]; rfl)
              clear hb HZ HCA
              go_wp2_with fail
              refine hka.mono ?_
              clear hka
              rintro e w5 ⟨rfl, hb5⟩
              go_wp2
              go_roundw
              case rel => exact ⟨j + 1, j, by omega, by go_num, by first | rfl | go_num, HZ2, Below.chain hB hb5⟩
              case measure => simp [intOf]; omega
            | some q =>
              obtain rfl : Z = (q : Int) := by rw [← unhide HZ, hb]; rfl
              have hq := (bst_lt hb).1
              have hqN : q < N := by omega
              have dq : decide ((q : Int) < 0) = false := by simp
              have HZO : Hid (Over d o j q → bv (bst s d o B (j + 1)) = (j : Int)) := hide (fun h => by rw [bst_over (unhide HCA) hb h]; rfl)
              have HZS : Hid (¬ Over d o j q → bv (bst s d o B (j + 1)) = (q : Int)) := hide (fun h => by rw [bst_stay (unhide HCA) hb h]; rfl)
              have HLO : Hid (∀ W, Below wr.heap.size wr W → _) := hide (fun W (hW : Below wr.heap.size wr W) => louder j q w.heap.size (w.heap.size + 1 + 1) (w.heap.size + 1) d o W (by rw [unhide hol]; exact hlt) (by rw [unhide hol]; exact hqN) (by rw [unhide hol]; exact h8) (by rw [unhide hdl, unhide hol]) (unhide hp) (unhide hld) ((unhide HK1).below (Below.chain hB hW)) ((unhide HK2).below (Below.chain hB hW)) (boxed_below (unhide HSQ) (Below.chain hB hW) (unhide HSQ).lt))
              clear hb HZ HCA
              by_cases hov : Over d o j q
              · have HZ2 := hide (unhide HZO hov)
                have e1 : decide (Over d o j q) = true := by simpa using hov
                rw [e1] at HLO
                clear hov HZO HZS e1
                go_wp2_with fail
                refine hka.mono ?_
                clear hka
                rintro e w5 ⟨rfl, hb5⟩
                go_wp2_with fail
                refine (unhide HLO w5 hb5).mono ?_
                clear HLO
                rintro e w6 ⟨rfl, n6, rfl⟩
                go_wp2
                go_roundw
                case rel => exact ⟨j + 1, j, by omega, by go_num, by first | rfl | go_num, HZ2, (Below.chain hB hb5).trans ⟨rfl, rfl, rfl, Nat.le_refl _, fun _ _ => rfl⟩⟩
                case measure => simp [intOf]; omega
              · have HZ2 := hide (unhide HZS hov)
                have e1 : decide (Over d o j q) = false := by simpa using hov
                rw [e1] at HLO
                clear hov HZO HZS e1
                go_wp2_with fail
                refine hka.mono ?_
                clear hka
                rintro e w5 ⟨rfl, hb5⟩
                go_wp2_with fail
                refine (unhide HLO w5 hb5).mono ?_
                clear HLO
                rintro e w6 ⟨rfl, n6, rfl⟩
                go_wp2
                go_roundw
                case rel => exact ⟨j + 1, q, by omega, by go_num, rfl, HZ2, (Below.chain hB hb5).trans ⟨rfl, rfl, rfl, Nat.le_refl _, fun _ _ => rfl⟩⟩
                case measure => simp [intOf]; omega
    · obtain rfl : j = N := by omega
      go_wp2
      go_ret
      exact ⟨by rw [unhide HZ]; rfl, Below.chain (unhide HB3) hB⟩

end Go.Proofs.YtjojeifoddonnakDoor.Shr
