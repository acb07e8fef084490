/-
  LogStops, over any log that answers as it is asked.
-/
import Derived.Test.YtjojeifoddonnajDoorLa08
import Derived.Test.YtjojeifoddonnajDoorLa10
namespace Go.Proofs.YtjojeifoddonnajDoor.Lg19
open Go.RowKit
open Go.Proofs.YtjojeifoddonnajDoor.Tre Go.Proofs.YtjojeifoddonnajDoor.Frm Go.Proofs.YtjojeifoddonnajDoor.Pck Go.Proofs.YtjojeifoddonnajDoor.Hrn Go.Proofs.YtjojeifoddonnajDoor.Ev Go.Proofs.YtjojeifoddonnajDoor.Aser
set_option linter.unusedVariables false

/-- Behind so many steps. -/
def Stp (A k : Nat) (L : St) : Prop := (k ≤ A ∧ L.st = false ∧ L.f = some (A - k) ∧ L.F.length ≤ 15) ∨ (A < k ∧ L.st = true ∧ L.F.length ≤ 15)

theorem Stp.go {A k : Nat} {L : St} (h : Stp A k L) (hk : k ≤ A) : L.st = false ∧ L.f = some (A - k) ∧ L.F.length ≤ 15 := by
  rcases h with ⟨_, h⟩ | ⟨h, _⟩
  · exact h
  · omega
theorem Stp.no {A k : Nat} {L : St} (h : Stp A k L) (hk : A < k) : L.st = true ∧ L.F.length ≤ 15 := by
  rcases h with ⟨h, _⟩ | ⟨_, h⟩
  · omega
  · exact h

set_option maxRecDepth 100000 in
set_option maxHeartbeats 16000000 in
theorem stops_on (H : Holds) (C : LogC H) (A M : Nat) (keep : Int) (hA : A ≤ 15) (hM : M ≤ 15) (w : World) (hL : Laid w) :
    Calls Tryd.prog 3 #[.int .i64 (A : Int), .int .i64 (M : Int), .int .i64 keep] w fun e w' => e = .returned (.bool true) ∧ Below w.heap.size w w' := by
  have hrA := row_one w 2 3
  have hbA : Below w.heap.size w (w.alloc (.cells #[.int .i64 2] 3)) := (Below.refl _ _).alloc (Nat.le_refl _) _
  have CN := hide (C.new (some ⟨w.heap.size, 0, none⟩) 1 [2] 0 _ hrA (by decide))
  have HN0 : Hid (Hid18.newF [2] 0 = 0) := hide fact_new.1
  have CPZ : Hid (∀ Q W b L, H [2] 0 Q W b L → Calls Tryd.prog 6 #[.pointer (some ⟨b, 0, none⟩), .string ⟨#[0]⟩] W fun e W' => ∃ E L', e = .returned (errV E) ∧ PutF [2] 0 L ⟨#[0]⟩ E L' ∧ Left H [2] 0 Q W b L' W') := hide (fun Q W b L h => C.put ⟨#[0]⟩ h (by decide))
  have CPN : Hid (∀ Q W b L, H [2] 0 Q W b L → Calls Tryd.prog 6 #[.pointer (some ⟨b, 0, none⟩), .string ⟨#[]⟩] W fun e W' => ∃ E L', e = .returned (errV E) ∧ PutF [2] 0 L ⟨#[]⟩ E L' ∧ Left H [2] 0 Q W b L' W') := hide (fun Q W b L h => C.put ⟨#[]⟩ h (by decide))
  have CPF : Hid (∀ Q W b L, H [2] 0 Q W b L → Calls Tryd.prog 6 #[.pointer (some ⟨b, 0, none⟩), .string ⟨#[4]⟩] W fun e W' => ∃ E L', e = .returned (errV E) ∧ PutF [2] 0 L ⟨#[4]⟩ E L' ∧ Left H [2] 0 Q W b L' W') := hide (fun Q W b L h => C.put ⟨#[4]⟩ h (by decide))
  have hWs : w.heap.size ≤ (w.alloc (.cells #[.int .i64 2] 3)).heap.size := hbA.size
  have d1 : decide ((A : Int) < 0) = false := decide_eq_false (by omega)
  have d2 : decide (15 < (A : Int)) = false := decide_eq_false (by omega)
  have d3 : decide ((M : Int) < 0) = false := decide_eq_false (by omega)
  have d4 : decide (15 < (M : Int)) = false := decide_eq_false (by omega)
  have ER : Hid (∀ E m W, Below w.heap.size w W → Calls Tryd.prog 7 #[.iface 43 (.int .i64 E), .int .i64 m] W fun e w' => e = .returned (.bool (E == m)) ∧ Below W.heap.size W w') := hide (fun E m W hb => error_two E m W (hL.below hb))
  go_enter Tryd.func3, Tryd.ntmps3
  go_wp2_with fail
  refine (unhide CN).mono ?_
  rintro e w1 ⟨hsay, hb1⟩
  rcases hsay with ⟨hne, -⟩ | ⟨-, b, Q0, rfl, hH0, hq0⟩
  · exact absurd (unhide HN0) hne
  have hB1 := Below.chain hbA hb1
  have hq0' : ∀ k, Q0 k → w.heap.size ≤ k := fun k hk => Nat.le_trans hWs (hq0 k hk)
  have CF := hide (C.fail (A : Int) hH0 (by omega))
  clear CN hb1 hbA hrA hq0 hWs HN0
  go_wp2_with fail
  refine (unhide CF).mono ?_
  rintro e w2 ⟨L2, rfl, hF2, hl2⟩
  obtain ⟨Q2, hH2, hq2, hB2⟩ := hl2.on hq0' hB1 hB1.size
  have HS2 : Hid (Stp A 0 L2) := hide (by
    obtain ⟨f', h1, rfl⟩ := hF2
    have h2 := h1 rfl
    refine Or.inl ⟨Nat.zero_le _, rfl, ?_, by simp [none0]⟩
    show f' = some (A - 0)
    rw [h2, if_neg (by omega)]
    simp)
  have HQ2 := hide hq2
  have HLN : Hid (L2.F.length = 0) := hide (by
    obtain ⟨f', h1, rfl⟩ := hF2
    rfl)
  clear CF hF2 hl2 hH0 hq0' hB1 hq2
  go_wp2
  go_loopw [9, 10] (fun t i wr => ∃ (k : Nat) (Q : Nat → Prop) (L : St), k ≤ M ∧ t = .int .i64 k ∧ i = .int .i64 k ∧ H [2] 0 Q wr b L ∧ Hid (∀ q, Q q → w.heap.size ≤ q) ∧ Hid (Stp A k L ∧ L.F.length ≤ k) ∧ Below w.heap.size w wr) (fun _ i _ => M - (intOf i).toNat)
  case atStart => exact ⟨0, Q2, L2, Nat.zero_le _, rfl, rfl, hH2, HQ2, hide ⟨unhide HS2, by rw [unhide HLN]; exact Nat.le_refl _⟩, hB2⟩
  case round =>
    obtain ⟨k, Q, L, hk, rfl, rfl, hH, HQ, HI, hB⟩ := hrel
    clear hH2 HQ2 HS2 hB2 HLN
    by_cases hlt : k < M
    · have dl : decide ((k : Int) < (M : Int)) = true := decide_eq_true (by omega)
      have CP1 := hide (unhide CPN Q wr b L hH)
      rcases Nat.lt_trichotomy k A with hka | hka | hka
      · have e1 : decide ((A : Int) < (k : Int)) = false := decide_eq_false (by omega)
        have e1' : decide (A < k) = false := decide_eq_false (by omega)
        have e2 : decide ((k : Int) ≤ (A : Int)) = true := decide_eq_true (by omega)
        have e2' : decide (k ≤ A) = true := decide_eq_true (by omega)
        have e3 : ((k : Int) == (A : Int)) = false := by rw [beq_eq_false_iff_ne]; omega
        have e3' : (k == A) = false := by rw [beq_eq_false_iff_ne]; omega
        have e4 : decide ((k : Int) < (A : Int)) = true := decide_eq_true (by omega)
        have e4' : decide (k < A) = true := decide_eq_true (by omega)
        go_wp2_with fail
        refine (unhide CP1).mono ?_
        rintro e w3 ⟨E, L3, rfl, hP, hLe⟩
        obtain ⟨hI, hIk⟩ := unhide HI
        obtain ⟨i1, i2, i3⟩ := hI.go (by omega)
        obtain ⟨rfl, hL3⟩ := put_wrong hP i1 (by omega) (by rw [byt_none]; exact unp_nil) (by omega)
        obtain ⟨Q3, h3, hq3, hB3⟩ := hLe.on (unhide HQ) hB hB.size
        rw [hL3] at h3
        have CP2 := hide (unhide CPZ Q3 w3 b L h3)
        rw [errV_ne (by omega)]
        clear CP1 hP hLe hL3 HQ hB hH h3
        go_wp2_with fail
        refine (unhide CP2).mono ?_
        rintro e w4 ⟨E, L4, rfl, hP, hLe⟩
        obtain ⟨rfl, r, r1, r2, hL4⟩ := put_goes hP i1 (by omega) (by rw [byt_zero]; exact unp_zero) (by rw [i2]; intro e; have := Option.some.inj e; omega)
        obtain ⟨Q4, h4, hq4, hB4⟩ := hLe.on hq3 hB3 hB3.size
        have HI4 : Hid (Stp A (k + 1) L4 ∧ L4.F.length ≤ k + 1) := hide (by
          have hl4 : L4.F.length = L.F.length + 1 := by rw [hL4]; simp
          refine ⟨Or.inl ⟨by omega, by rw [hL4], ?_, by omega⟩, by omega⟩
          rw [hL4]
          show L.f.map Nat.pred = some (A - (k + 1))
          rw [i2]
          rfl)
        have HQ4 := hide hq4
        have KH : Hid (∀ W', Below w4.heap.size w4 W' → H [2] 0 Q4 W' b L4) := hide (fun W' hb => C.below h4 hb)
        have C1 := hide (unhide ER 2 6 w4 hB4)
        rw [errV_zero]
        clear CP2 hP hLe hL4 hq3 hB3 i1 i2 i3 hI hIk HI hq4 h4 r1 r2 CPZ CPN CPF
        go_wp2_with fail
        refine (unhide C1).mono ?_
        rintro e w5 ⟨rfl, hb5⟩
        have hB5 := Below.chain hB4 hb5
        have C2 := hide (unhide ER 2 2 w5 hB5)
        have C3 := hide (fun W => error_none 6 W)
        clear C1
        go_wp2_with fail
        refine (unhide C2).mono ?_
        rintro e w6 ⟨rfl, hb6⟩
        have h6 := unhide KH w6 (Below.chain hb5 hb6)
        have hB6 := Below.chain hB5 hb6
        clear C2 KH hb5 hb6 hB5 hB4
        go_wp2_with fail
        refine (unhide C3 w6).mono ?_
        rintro e w7 ⟨rfl, hw7⟩
        obtain rfl : w6 = w7 := hw7.symm
        clear C3
        go_wp2
        go_roundw
        case rel => exact ⟨k + 1, Q4, L4, by omega, by go_num, by go_num, h6, HQ4, HI4, hB6⟩
        case measure => simp [intOf]; omega
      · subst hka
        have e1 : decide ((k : Int) < (k : Int)) = false := decide_eq_false (by omega)
        have e2 : decide ((k : Int) ≤ (k : Int)) = true := decide_eq_true (by omega)
        have e3 : ((k : Int) == (k : Int)) = true := by simp
        go_wp2_with fail
        refine (unhide CP1).mono ?_
        rintro e w3 ⟨E, L3, rfl, hP, hLe⟩
        obtain ⟨hI, hIk⟩ := unhide HI
        obtain ⟨i1, i2, i3⟩ := hI.go (by omega)
        obtain ⟨rfl, hL3⟩ := put_wrong hP i1 (by omega) (by rw [byt_none]; exact unp_nil) (by omega)
        obtain ⟨Q3, h3, hq3, hB3⟩ := hLe.on (unhide HQ) hB hB.size
        rw [hL3] at h3
        have CP2 := hide (unhide CPZ Q3 w3 b L h3)
        rw [errV_ne (by omega)]
        clear CP1 hP hLe hL3 HQ hB hH h3
        go_wp2_with fail
        refine (unhide CP2).mono ?_
        rintro e w4 ⟨E, L4, rfl, hP, hLe⟩
        obtain ⟨rfl, r, f', r1, r2, hL4⟩ := put_stops hP i1 (by omega) (by rw [byt_zero]; exact unp_zero) (by rw [i2, Nat.sub_self])
        obtain ⟨Q4, h4, hq4, hB4⟩ := hLe.on hq3 hB3 hB3.size
        have HI4 : Hid (Stp k (k + 1) L4 ∧ L4.F.length ≤ k + 1) := hide (by
          rw [hL4]
          exact ⟨Or.inr ⟨by omega, rfl, i3⟩, Nat.le_trans hIk (by omega)⟩)
        have HQ4 := hide hq4
        have KH : Hid (∀ W', Below w4.heap.size w4 W' → H [2] 0 Q4 W' b L4) := hide (fun W' hb => C.below h4 hb)
        have C1 := hide (unhide ER 2 6 w4 hB4)
        rw [errV_ne (by omega)]
        clear CP2 hP hLe hL4 hq3 hB3 i1 i2 i3 hI hIk HI hq4 h4 r1 r2 CPZ CPN CPF
        go_wp2_with fail
        refine (unhide C1).mono ?_
        rintro e w5 ⟨rfl, hb5⟩
        have hB5 := Below.chain hB4 hb5
        have C2 := hide (unhide ER 2 2 w5 hB5)
        clear C1
        go_wp2_with fail
        refine (unhide C2).mono ?_
        rintro e w6 ⟨rfl, hb6⟩
        have hB6 := Below.chain hB5 hb6
        have C3 := hide (unhide ER 6 6 w6 hB6)
        clear C2
        go_wp2_with fail
        refine (unhide C3).mono ?_
        rintro e w7 ⟨rfl, hb7⟩
        have h7 := unhide KH w7 (Below.chain (Below.chain hb5 hb6) hb7)
        have hB7 := Below.chain hB6 hb7
        clear C3 KH hb5 hb6 hb7 hB4 hB5 hB6
        go_wp2
        go_roundw
        case rel => exact ⟨k + 1, Q4, L4, by omega, by go_num, by go_num, h7, HQ4, HI4, hB7⟩
        case measure => simp [intOf]; omega
      · have e1 : decide ((A : Int) < (k : Int)) = true := decide_eq_true (by omega)
        have e1' : decide (A < k) = true := decide_eq_true (by omega)
        have e2 : decide ((k : Int) ≤ (A : Int)) = false := decide_eq_false (by omega)
        have e2' : decide (k ≤ A) = false := decide_eq_false (by omega)
        have e3 : ((k : Int) == (A : Int)) = false := by rw [beq_eq_false_iff_ne]; omega
        have e3' : (k == A) = false := by rw [beq_eq_false_iff_ne]; omega
        have e4 : decide ((k : Int) < (A : Int)) = false := decide_eq_false (by omega)
        have e4' : decide (k < A) = false := decide_eq_false (by omega)
        go_wp2_with fail
        refine (unhide CP1).mono ?_
        rintro e w3 ⟨E, L3, rfl, hP, hLe⟩
        obtain ⟨hI, hIk⟩ := unhide HI
        obtain ⟨i1, i3⟩ := hI.no hka
        obtain ⟨rfl, hL3⟩ := put_stopped hP i1
        obtain ⟨Q3, h3, hq3, hB3⟩ := hLe.on (unhide HQ) hB hB.size
        rw [hL3] at h3
        have CP2 := hide (unhide CPZ Q3 w3 b L h3)
        rw [errV_ne (by omega)]
        clear CP1 hP hLe hL3 HQ hB hH h3
        go_wp2_with fail
        refine (unhide CP2).mono ?_
        rintro e w4 ⟨E, L4, rfl, hP, hLe⟩
        obtain ⟨rfl, hL4⟩ := put_stopped hP i1
        obtain ⟨Q4, h4, hq4, hB4⟩ := hLe.on hq3 hB3 hB3.size
        have HI4 : Hid (Stp A (k + 1) L4 ∧ L4.F.length ≤ k + 1) := hide (by
          rw [hL4]
          exact ⟨Or.inr ⟨by omega, i1, i3⟩, Nat.le_trans hIk (by omega)⟩)
        have HQ4 := hide hq4
        have KH : Hid (∀ W', Below w4.heap.size w4 W' → H [2] 0 Q4 W' b L4) := hide (fun W' hb => C.below h4 hb)
        have C1 := hide (unhide ER 6 6 w4 hB4)
        rw [errV_ne (by omega)]
        clear CP2 hP hLe hL4 hq3 hB3 i1 i3 hI hIk HI hq4 h4 CPZ CPN CPF
        go_wp2_with fail
        refine (unhide C1).mono ?_
        rintro e w5 ⟨rfl, hb5⟩
        have hB5 := Below.chain hB4 hb5
        have C2 := hide (unhide ER 6 2 w5 hB5)
        clear C1
        go_wp2_with fail
        refine (unhide C2).mono ?_
        rintro e w6 ⟨rfl, hb6⟩
        have hB6 := Below.chain hB5 hb6
        have C3 := hide (unhide ER 6 6 w6 hB6)
        clear C2
        go_wp2_with fail
        refine (unhide C3).mono ?_
        rintro e w7 ⟨rfl, hb7⟩
        have h7 := unhide KH w7 (Below.chain (Below.chain hb5 hb6) hb7)
        have hB7 := Below.chain hB6 hb7
        clear C3 KH hb5 hb6 hb7 hB4 hB5 hB6
        go_wp2
        go_roundw
        case rel => exact ⟨k + 1, Q4, L4, by omega, by go_num, by go_num, h7, HQ4, HI4, hB7⟩
        case measure => simp [intOf]; omega
    · obtain rfl : M = k := by omega
      have dl : decide ((M : Int) < (M : Int)) = false := decide_eq_false (by omega)
      have HI0 : Hid (Stp A M L) := hide (unhide HI).1
      have hH' := hH
      clear HI hH hlt hk
      go_wp2
      go_loopw [9] (fun t wq => ∃ (k : Nat) (Q : Nat → Prop) (L : St), k ≤ 31 ∧ t = .int .i64 k ∧ H [2] 0 Q wq b L ∧ Hid (∀ q, Q q → w.heap.size ≤ q) ∧ Hid (Stp A k L) ∧ Below w.heap.size w wq) (fun t _ => 32 - (intOf t).toNat)
      case atStart => exact ⟨M, Q, L, by omega, rfl, hH', HQ, HI0, hB⟩
      case round =>
        clear hH' HQ HI0 hB
        rename World => wq
        obtain ⟨k, Q, L, hk, rfl, hH, HQ, HI, hB⟩ := hrel
        by_cases hlt : k ≤ A
        · have dl2 : decide ((k : Int) ≤ (A : Int)) = true := decide_eq_true (by omega)
          have dl3 : decide (k ≤ A) = true := decide_eq_true (by omega)
          have CS := hide (C.sync hH)
          by_cases hka : k = A
          · subst hka
            have e3 : ((k : Int) == (k : Int)) = true := by simp
            go_wp2_with fail
            refine (unhide CS).mono ?_
            rintro e w3 ⟨E, L3, rfl, hP, hLe⟩
            obtain ⟨i1, i2, i3⟩ := (unhide HI).go (by omega)
            obtain ⟨rfl, f', hL3⟩ := sync_stops hP i1 (by rw [i2, Nat.sub_self])
            obtain ⟨Q3, h3, hq3, hB3⟩ := hLe.on (unhide HQ) hB hB.size
            have HI3 : Hid (Stp k (k + 1) L3) := hide (by rw [hL3]; exact Or.inr ⟨by omega, rfl, i3⟩)
            have HQ3 := hide hq3
            rw [errV_ne (by omega)]
            clear CS hP hLe hL3 HQ hB hH i1 i2 i3 HI hq3
            go_wp2
            go_roundw
            case rel => exact ⟨k + 1, Q3, L3, by omega, by go_num, h3, HQ3, HI3, hB3⟩
            case measure => simp [intOf]; omega
          · have e3 : ((k : Int) == (A : Int)) = false := by rw [beq_eq_false_iff_ne]; omega
            have e3' : (k == A) = false := by rw [beq_eq_false_iff_ne]; omega
            go_wp2_with fail
            refine (unhide CS).mono ?_
            rintro e w3 ⟨E, L3, rfl, hP, hLe⟩
            obtain ⟨i1, i2, i3⟩ := (unhide HI).go (by omega)
            obtain ⟨rfl, hL3⟩ := sync_goes hP i1 (by rw [i2]; intro e; have := Option.some.inj e; omega)
            obtain ⟨Q3, h3, hq3, hB3⟩ := hLe.on (unhide HQ) hB hB.size
            have HI3 : Hid (Stp A (k + 1) L3) := hide (by
              rw [hL3]
              refine Or.inl ⟨by omega, rfl, ?_, i3⟩
              show L.f.map Nat.pred = some (A - (k + 1))
              rw [i2]
              rfl)
            have HQ3 := hide hq3
            rw [errV_zero]
            clear CS hP hLe hL3 HQ hB hH i1 i2 i3 HI hq3
            go_wp2
            go_roundw
            case rel => exact ⟨k + 1, Q3, L3, by omega, by go_num, h3, HQ3, HI3, hB3⟩
            case measure => simp [intOf]; omega
        · have dl2 : decide ((k : Int) ≤ (A : Int)) = false := decide_eq_false (by omega)
          have dl3 : decide (k ≤ A) = false := decide_eq_false (by omega)
          have CS := hide (C.sync hH)
          go_wp2_with fail
          refine (unhide CS).mono ?_
          rintro e w3 ⟨E, L3, rfl, hP, hLe⟩
          obtain ⟨i1, i3⟩ := (unhide HI).no (by omega)
          obtain ⟨rfl, hL3⟩ := sync_stopped hP i1
          obtain ⟨Q3, h3, hq3, hB3⟩ := hLe.on (unhide HQ) hB hB.size
          rw [hL3] at h3
          have CP2 := hide (unhide CPZ Q3 w3 b L h3)
          rw [errV_ne (by omega)]
          clear CS hP hLe hL3 HQ hB hH h3
          go_wp2_with fail
          refine (unhide CP2).mono ?_
          rintro e w4 ⟨E, L4, rfl, hP, hLe⟩
          obtain ⟨rfl, hL4⟩ := put_stopped hP i1
          obtain ⟨Q4, h4, hq4, hB4⟩ := hLe.on hq3 hB3 hB3.size
          rw [hL4] at h4
          have KH : Hid (∀ W', Below w4.heap.size w4 W' → H [2] 0 Q4 W' b L) := hide (fun W' hb => C.below h4 hb)
          have C1 := hide (unhide ER 6 6 w4 hB4)
          rw [errV_ne (by omega)]
          clear CP2 hP hLe hL4 hq3 hB3 h4
          go_wp2_with fail
          refine (unhide C1).mono ?_
          rintro e w5 ⟨rfl, hb5⟩
          have hB5 := Below.chain hB4 hb5
          have C2 := hide (unhide ER 6 6 w5 hB5)
          clear C1
          go_wp2_with fail
          refine (unhide C2).mono ?_
          rintro e w6 ⟨rfl, hb6⟩
          have h6 := unhide KH w6 (Below.chain hb5 hb6)
          have hB6 := Below.chain hB5 hb6
          have CC := hide (C.crash keep h6)
          have hOk := crash_ok (C.ok h6) keep
          have hFl : (crash L keep).F.length ≤ 15 := by
            show (L.F.take _).length ≤ 15
            rw [List.length_take]
            omega
          clear C2 KH hb5 hb6 hB4 hB5 h6
          go_wp2_with fail
          refine (unhide CC).mono ?_
          rintro e w7 ⟨rfl, hLe⟩
          obtain ⟨Q7, h7, hq7, hB7⟩ := hLe.on hq4 hB6 hB6.size
          obtain ⟨L7, hL7⟩ : ∃ L7, crash L keep = L7 := ⟨_, rfl⟩
          have HS7 : Hid (L7.st = false ∧ L7.f = none) := hide (by rw [← hL7]; exact ⟨rfl, rfl⟩)
          rw [hL7] at h7 hFl
          have CA := hide (C.all h7)
          have KH : Hid (∀ W', Below w7.heap.size w7 W' → H [2] 0 Q7 W' b L7) := hide (fun W' hb => C.below h7 hb)
          obtain ⟨Y, hY⟩ : ∃ Y, L7.F.length = Y := ⟨_, rfl⟩
          have HY := hide hY
          rw [hY] at CA hFl
          clear CC hLe hq4 hB6 hL7 hOk hY h7
          go_wp2_with fail
          refine (unhide CA).mono ?_
          rintro e w8 ⟨a8, c8, rfl, -, -, -, hb8⟩
          have h8 := unhide KH w8 hb8
          have hB8 := Below.chain hB7 hb8
          have CP4 := hide (unhide CPF Q7 w8 b L7 h8)
          clear CA KH hb8 hB7 h8
          go_wp2_with fail
          refine (unhide CP4).mono ?_
          rintro e w9 ⟨E, L9, rfl, hP, hLe⟩
          obtain ⟨s1, s2⟩ := unhide HS7
          obtain ⟨rfl, r, r1, r2, hL9⟩ := put_goes hP s1 (by rw [unhide HY]; omega) (by rw [byt_four]; exact unp_four) (by rw [s2]; simp)
          obtain ⟨Q9, h9, hq9, hB9⟩ := hLe.on hq7 hB8 hB8.size
          have HS9 : Hid (L9.st = false ∧ L9.f = none ∧ L9.F = L7.F ++ [⟨#[4]⟩]) := hide (by
            rw [hL9]
            refine ⟨rfl, ?_, rfl⟩
            show L7.f.map Nat.pred = none
            rw [s2]
            rfl)
          have CS := hide (C.sync h9)
          rw [errV_zero]
          clear CP4 hP hLe hL9 hq7 hB8 s1 s2 HS7 r1 r2 h9
          go_wp2_with fail
          refine (unhide CS).mono ?_
          rintro e w10 ⟨E, L10, rfl, hP, hLe⟩
          obtain ⟨s1, s2, s3⟩ := unhide HS9
          obtain ⟨rfl, hL10⟩ := sync_goes hP s1 (by rw [s2]; simp)
          obtain ⟨Q10, h10, hq10, hB10⟩ := hLe.on hq9 hB9 hB9.size
          have HF10 : Hid (L10.F = L7.F ++ [⟨#[4]⟩] ∧ L10.s = L10.b) := hide (by rw [hL10]; exact ⟨s3, rfl⟩)
          have CA := hide (C.all h10)
          have KH : Hid (∀ W', Below w10.heap.size w10 W' → H [2] 0 Q10 W' b L10) := hide (fun W' hb => C.below h10 hb)
          have HL10 : Hid (L10.F.length = Y + 1) := hide (by rw [(unhide HF10).1, List.length_append, unhide HY]; rfl)
          rw [unhide HL10] at CA
          rw [errV_zero]
          clear CS hP hLe hL10 hq9 hB9 s1 s2 s3 HS9 h10
          go_wp2_with fail
          refine (unhide CA).mono ?_
          rintro e w11 ⟨a11, c11, rfl, r11, -, -, hb11⟩
          have h11 := unhide KH w11 hb11
          have hB11 := Below.chain hB10 hb11
          obtain ⟨g, off, rfl, hgw, hc⟩ := r11.at (k := Y) (by rw [unhide HL10]; omega)
          have cY := hc Y (by rw [unhide HL10]; omega)
          have eY : L10.F.getD Y ⟨#[]⟩ = ⟨#[4]⟩ := by
            rw [(unhide HF10).1, List.getD_eq_getElem?_getD, ← unhide HY]
            simp
          rw [eY] at cY
          have CSa := hide (C.safe h11)
          have CBy : Hid (∀ W', Below w11.heap.size w11 W' → Calls Tryd.prog 12 #[.pointer (some ⟨b, 0, none⟩)] W' fun e w' => e = .returned (.int .i64 L10.b) ∧ Below W'.heap.size W' w') := hide (fun W' hb => C.bytes (C.below h11 hb))
          rw [(unhide HF10).2] at CSa
          obtain ⟨V, hV⟩ : ∃ V, L10.b = V := ⟨_, rfl⟩
          rw [hV] at CSa CBy
          have dV : (V == V) = true := by simp
          have wY : IntKind.i64.wrap ((Y : Int) + 1) = ((Y + 1 : Nat) : Int) := by rw [IntWalk.i64_in _ (by omega)]; omega
          have dY : (((Y + 1 : Nat) : Int) == ((Y + 1 : Nat) : Int)) = true := by simp
          clear CA KH hb11 hB10 hV eY hc h11 HL10 HF10 r11
          go_wp2_with fail
          refine (unhide CSa).mono ?_
          rintro e w12 ⟨rfl, hb12⟩
          have CB2 := hide (unhide CBy w12 hb12)
          clear CSa CBy
          go_wp2_with fail
          refine (unhide CB2).mono ?_
          rintro e w13 ⟨rfl, hb13⟩
          go_wp2
          go_ret
          exact ⟨rfl, Below.chain (Below.chain hB11 hb12) hb13⟩

set_option maxRecDepth 100000 in
set_option maxHeartbeats 4000000 in
theorem stops_walk (H : Holds) (C : LogC H) (after many keep : Int) (w : World) (hL : Laid w) :
    Calls Tryd.prog 3 #[.int .i64 after, .int .i64 many, .int .i64 keep] w fun e w' => e = .returned (.bool true) ∧ Below w.heap.size w w' := by
  by_cases h : (0 ≤ after ∧ after ≤ 15) ∧ (0 ≤ many ∧ many ≤ 15)
  · obtain ⟨A, rfl⟩ : ∃ A : Nat, after = A := ⟨after.toNat, by omega⟩
    obtain ⟨M, rfl⟩ : ∃ M : Nat, many = M := ⟨many.toNat, by omega⟩
    exact stops_on H C A M keep (by omega) (by omega) w hL
  · have hrA := row_one w 2 3
    have hbA : Below w.heap.size w (w.alloc (.cells #[.int .i64 2] 3)) := (Below.refl _ _).alloc (Nat.le_refl _) _
    have CN := hide (C.new (some ⟨w.heap.size, 0, none⟩) 1 [2] 0 _ hrA (by decide))
    have HN0 : Hid (Hid18.newF [2] 0 = 0) := hide fact_new.1
    go_enter Tryd.func3, Tryd.ntmps3
    go_wp2_with fail
    refine (unhide CN).mono ?_
    rintro e w1 ⟨hsay, hb1⟩
    rcases hsay with ⟨hne, -⟩ | ⟨-, b, Q0, rfl, hH0, hq0⟩
    · exact absurd (unhide HN0) hne
    have hB1 := Below.chain hbA hb1
    clear CN hH0 hq0 HN0
    by_cases h1 : after < 0
    · have d1 : decide (after < 0) = true := decide_eq_true h1
      go_wp2
      go_ret
      exact ⟨rfl, hB1⟩
    · have d1 : decide (after < 0) = false := decide_eq_false h1
      by_cases h2 : 15 < after
      · have d2 : decide (15 < after) = true := decide_eq_true h2
        go_wp2
        go_ret
        exact ⟨rfl, hB1⟩
      · have d2 : decide (15 < after) = false := decide_eq_false h2
        by_cases h3 : many < 0
        · have d3 : decide (many < 0) = true := decide_eq_true h3
          go_wp2
          go_ret
          exact ⟨rfl, hB1⟩
        · have d3 : decide (many < 0) = false := decide_eq_false h3
          have d4 : decide (15 < many) = true := decide_eq_true (by omega)
          go_wp2
          go_ret
          exact ⟨rfl, hB1⟩

end Go.Proofs.YtjojeifoddonnajDoor.Lg19
