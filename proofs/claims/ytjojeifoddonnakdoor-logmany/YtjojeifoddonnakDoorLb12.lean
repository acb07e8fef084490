/-
  LogMany, over any log that answers as it is asked.
-/
import Derived.Test.YtjojeifoddonnakDoorLb09
import Derived.Test.YtjojeifoddonnakDoorLb11
namespace Go.Proofs.YtjojeifoddonnakDoor.Lg19
open Go.RowKit
open Go.Proofs.YtjojeifoddonnakDoor.Tre Go.Proofs.YtjojeifoddonnakDoor.Frm Go.Proofs.YtjojeifoddonnakDoor.Pck Go.Proofs.YtjojeifoddonnakDoor.Hrn Go.Proofs.YtjojeifoddonnakDoor.Ev Go.Proofs.YtjojeifoddonnakDoor.Aser
set_option linter.unusedVariables false

set_option maxRecDepth 100000 in
set_option maxHeartbeats 8000000 in
theorem many_walk (H : Holds) (C : LogMB H) (n : Int) (w : World) (hL : Laid w) :
    Calls Tryd.prog 3 #[.int .i64 n] w fun e w' => e = .returned (.bool true) ∧ Below w.heap.size w w' := by
  have hrA := row_one w 2 3
  have hbA : Below w.heap.size w (w.alloc (.cells #[.int .i64 2] 3)) := (Below.refl _ _).alloc (Nat.le_refl _) _
  have CN := hide (C.new (some ⟨w.heap.size, 0, none⟩) 1 [2] 0 _ hrA (by decide))
  have HN0 : Hid (Hid18.newF [2] 0 = 0) := hide fact_new.1
  have CPU : Hid (∀ Q W b L, H [2] 0 Q W b L → Calls Tryd.prog 5 #[.pointer (some ⟨b, 0, none⟩), .string ⟨#[0]⟩] W fun e W' => ∃ E L', e = .returned (errV E) ∧ PutF [2] 0 L ⟨#[0]⟩ E L' ∧ Left H [2] 0 Q W b L' W') := hide (fun Q W b L h => C.put ⟨#[0]⟩ h (by decide))
  have hWs : w.heap.size ≤ (w.alloc (.cells #[.int .i64 2] 3)).heap.size := hbA.size
  by_cases hn : n < 0 ∨ 30 < n
  · go_enter Tryd.func3, Tryd.ntmps3
    go_wp2_with fail
    refine (unhide CN).mono ?_
    rintro e w1 ⟨hsay, hb1⟩
    rcases hsay with ⟨hne, -⟩ | ⟨-, b, Q, rfl, hH, hq⟩
    · exact absurd (unhide HN0) hne
    have hB1 := Below.chain hbA hb1
    clear CN CPU
    by_cases h0 : n < 0
    · have d1 : decide (n < 0) = true := by simpa using h0
      go_wp2
      go_ret
      exact ⟨rfl, hB1⟩
    · have d1 : decide (n < 0) = false := by simpa using h0
      have d2 : decide (30 < n) = true := by simp; omega
      go_wp2
      go_ret
      exact ⟨rfl, hB1⟩
  · obtain ⟨N, rfl⟩ : ∃ N : Nat, n = N := ⟨n.toNat, by omega⟩
    have hN30 : N ≤ 30 := by omega
    have d1 : decide ((N : Int) < 0) = false := decide_eq_false (by omega)
    have d2 : decide (30 < (N : Int)) = false := by simp; omega
    clear hn
    go_enter Tryd.func3, Tryd.ntmps3
    go_wp2_with fail
    refine (unhide CN).mono ?_
    rintro e w1 ⟨hsay, hb1⟩
    rcases hsay with ⟨hne, -⟩ | ⟨-, b, Q0, rfl, hH0, hq0⟩
    · exact absurd (unhide HN0) hne
    have hB1 := Below.chain hbA hb1
    have hq0' : ∀ k, Q0 k → w.heap.size ≤ k := fun k hk => Nat.le_trans hWs (hq0 k hk)
    clear CN hb1 hbA hrA hq0 hWs HN0
    go_wp2
    go_loopw [5] (fun i wr => ∃ (k : Nat) (Q : Nat → Prop) (L : St), k ≤ N ∧ i = .int .i64 k ∧ H [2] 0 Q wr b L ∧ Hid (∀ q, Q q → w.heap.size ≤ q) ∧ Hid (L.st = false ∧ L.f = none ∧ L.F.length = if k ≤ 20 then k else 20) ∧ Below w.heap.size w wr) (fun i _ => N - (intOf i).toNat)
    case atStart => exact ⟨0, Q0, none0, Nat.zero_le _, rfl, hH0, hide hq0', hide ⟨rfl, rfl, rfl⟩, hB1⟩
    case round =>
      obtain ⟨k, Q, L, hk, rfl, hH, HQ, HI, hB⟩ := hrel
      clear hH0 hq0' hB1
      have CP := hide (unhide CPU Q wr b L hH)
      by_cases hlt : k < N
      · by_cases h20 : k < 20
        · have d3 : decide ((k : Int) < 20) = true := by simp; omega
          go_wp2_with fail
          refine (unhide CP).mono ?_
          rintro e w2 ⟨E, L', rfl, hP, hLe⟩
          obtain ⟨i1, i2, i3⟩ := unhide HI
          rw [if_pos (by omega)] at i3
          obtain ⟨rfl, r, r1, r2, hL'⟩ := put_goes hP i1 (by omega) (by rw [byt_zero]; exact unp_zero) (by rw [i2]; simp)
          obtain ⟨Q', h1, h2, h3⟩ := hLe.on (unhide HQ) hB hB.size
          have HI2 : Hid (L'.st = false ∧ L'.f = none ∧ L'.F.length = if k + 1 ≤ 20 then k + 1 else 20) := hide (by
            rw [hL', if_pos (by omega)]
            refine ⟨rfl, by show L.f.map Nat.pred = none; rw [i2]; rfl, ?_⟩
            show (L.F ++ [_]).length = k + 1
            rw [List.length_append, i3]
            rfl)
          have HQ2 := hide h2
          rw [errV_zero]
          clear CP hP hLe hL' i1 i2 i3 r1 r2 HI HQ h2 hB hH CPU
          go_wp2
          go_roundw
          case rel => exact ⟨k + 1, Q', L', by omega, by go_num, h1, HQ2, HI2, h3⟩
          case measure => simp [intOf]; omega
        · have d3 : decide ((k : Int) < 20) = false := by simp; omega
          go_wp2_with fail
          refine (unhide CP).mono ?_
          rintro e w2 ⟨E, L', rfl, hP, hLe⟩
          obtain ⟨i1, i2, i3⟩ := unhide HI
          have i4 : L.F.length = 20 := by
            rw [i3]
            split <;> omega
          obtain ⟨rfl, hL'⟩ := put_full hP i1 (by omega)
          obtain ⟨Q', h1, h2, h3⟩ := hLe.on (unhide HQ) hB hB.size
          have HI2 : Hid (L'.st = false ∧ L'.f = none ∧ L'.F.length = if k + 1 ≤ 20 then k + 1 else 20) := hide (by
            rw [hL', if_neg (by omega)]
            exact ⟨i1, i2, i4⟩)
          have HQ2 := hide h2
          have CE := hide (error_is 4 w2 (hL.below h3))
          have KH : Hid (∀ W', Below w2.heap.size w2 W' → H [2] 0 Q' W' b L') := hide (fun W' hb => C.below h1 hb)
          rw [errV_ne (by omega)]
          clear CP hP hLe hL' i1 i2 i3 i4 HI HQ h2 hB hH CPU h1
          go_wp2_with fail
          refine (unhide CE).mono ?_
          rintro e w3 ⟨rfl, hb3⟩
          have h1' := unhide KH w3 hb3
          have h3' := Below.chain h3 hb3
          clear CE KH
          go_wp2
          go_roundw
          case rel => exact ⟨k + 1, Q', L', by omega, by go_num, h1', HQ2, HI2, h3'⟩
          case measure => simp [intOf]; omega
      · obtain rfl : N = k := by omega
        have CA := hide (C.all hH)
        have hOk := C.ok hH
        have CB : Hid (∀ W', Below wr.heap.size wr W' → Calls Tryd.prog 8 #[.pointer (some ⟨b, 0, none⟩)] W' fun e w' => e = .returned (.int .i64 L.b) ∧ Below W'.heap.size W' w') := hide (fun W' hb => C.bytes (C.below hH hb))
        have hleast := hOk.least
        have hby := hOk.bytes
        have i3 := (unhide HI).2.2
        obtain ⟨X, hX⟩ : ∃ X, L.F.length = X := ⟨_, rfl⟩
        obtain ⟨Y, hY⟩ : ∃ Y : Nat, L.b = Y := ⟨L.b.toNat, by omega⟩
        have HX := hide hX
        rw [hX] at CA hleast i3
        rw [hY] at CB hleast
        clear hX hY hOk CP CPU HI hH HQ hby
        by_cases h20 : 20 < N
        · have d3 : decide (20 < (N : Int)) = true := by simp; omega
          have d4 : decide (20 < N) = true := by simpa using h20
          obtain rfl : X = 20 := by rw [i3, if_neg (by omega)]
          have d5 : decide ((40 : Int) ≤ (Y : Int)) = true := by simp; omega
          have d6 : decide (40 ≤ Y) = true := by simp; omega
          clear i3 hleast
          go_wp2_with fail
          refine (unhide CA).mono ?_
          rintro e w2 ⟨a, cap, rfl, -, -, -, hb2⟩
          have CB2 := hide (unhide CB w2 hb2)
          clear CA CB
          go_wp2_with fail
          refine (unhide CB2).mono ?_
          rintro e w3 ⟨rfl, hb3⟩
          go_wp2
          go_ret
          exact ⟨rfl, Below.chain (Below.chain hB hb2) hb3⟩
        · have d3 : decide (20 < (N : Int)) = false := by simp; omega
          have d4 : decide (20 < N) = false := by simpa using h20
          obtain rfl : N = X := by rw [i3, if_pos (by omega)]
          have wN : IntKind.i64.wrap (2 * (N : Int)) = ((2 * N : Nat) : Int) := by rw [IntWalk.i64_in _ (by omega)]; omega
          obtain ⟨Z, hZ⟩ : ∃ Z, 2 * N = Z := ⟨_, rfl⟩
          rw [hZ] at wN
          have d5 : decide ((Z : Int) ≤ (Y : Int)) = true := by simp; omega
          have d6 : decide (Z ≤ Y) = true := decide_eq_true (by omega)
          have d7 : ((N : Int) == (N : Int)) = true := by simp
          clear i3 hleast hZ
          go_wp2_with fail
          refine (unhide CA).mono ?_
          rintro e w2 ⟨a, cap, rfl, -, -, -, hb2⟩
          have CB2 := hide (unhide CB w2 hb2)
          clear CA CB
          go_wp2_with fail
          refine (unhide CB2).mono ?_
          rintro e w3 ⟨rfl, hb3⟩
          go_wp2
          go_ret
          exact ⟨rfl, Below.chain (Below.chain hB hb2) hb3⟩

end Go.Proofs.YtjojeifoddonnakDoor.Lg19
