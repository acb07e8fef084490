/-
  Package count: bitsFor, Bits: by their contracts.
-/
import Derived.Test.YthkibjhhlcfceaiGreatDoorCh20
import Derived.Test.YthkibjhhlcfceaiGreatDoorCh19
namespace Go.Proofs.YthkibjhhlcfceaiGreatDoor.Cnt
open Go.RowKit
open Go.Proofs.YthkibjhhlcfceaiGreatDoor.Tre Go.Proofs.YthkibjhhlcfceaiGreatDoor.Lap Go.Proofs.YthkibjhhlcfceaiGreatDoor.Mid
set_option linter.unusedVariables false


set_option maxHeartbeats 4000000 in
theorem bitsFor (m : Int) (hm : m ≤ 20256) (w : World) :
    Calls Tryz.prog 117 #[.int .i64 m] w fun e w' => ∃ b : Nat, e = .returned (.int .i64 b) ∧ Least m b ∧ w = w' := by
  go_enter Tryz.func117, Tryz.ntmps117
  go_wp2
  go_loop [3] (fun i => ∃ j : Nat, j ≤ 15 ∧ i = .int .i64 j ∧ Hid (∀ i, i < j → (2 : Int) ^ i < m)) (fun i => 15 - (intOf i).toNat)
  case atStart => exact ⟨0, by omega, rfl, fun i hi => absurd hi (by omega)⟩
  case round =>
    obtain ⟨j, hj, rfl, H⟩ := hrel
    obtain ⟨p0, p1⟩ := pow_in j (by omega)
    have h15 : Hid (j = 15 → m ≤ 2 ^ j) := hide (fun e => by subst e; omega)
    by_cases hlt : (2 : Int) ^ j < m
    · have hj2 : j < 15 := by
        rcases Nat.lt_or_ge j 15 with h | h
        · exact h
        · have := unhide h15 (by omega); omega
      have H2 : Hid (∀ i, i < j + 1 → (2 : Int) ^ i < m) := hide (fun i hi => by
        rcases Nat.lt_or_ge i j with h | h
        · exact unhide H i h
        · obtain rfl : i = j := by omega
          exact hlt)
      go_wp2
      go_round
      case rel => exact ⟨j + 1, by omega, by go_num, H2⟩
      case measure => simp [intOf]; omega
    · have hle : Hid (m ≤ (2 : Int) ^ j) := hide (by omega)
      go_wp2
      go_ret
      exact ⟨j, rfl, ⟨unhide hle, unhide H⟩, rfl⟩

theorem bits_ok (n k : Nat) (hn : n ≤ 6) (hk : k ≤ 8) (w : World) :
    Calls Tryz.prog 86 #[.int .i64 n, .int .i64 k] w fun e w' => ∃ b : Nat, e = .returned (.tuple #[.int .i64 b, .nilIface]) ∧ Least (V k n) b ∧ Below w.heap.size w w' := by
  go_enter Tryz.func86, Tryz.ntmps86
  go_wp2_with fail
  refine (of_ok n k hn hk w).mono ?_
  rintro e w1 ⟨rfl, hb1⟩
  go_wp2_with fail
  refine (bitsFor (V k n) (V_in k n (by omega) (by omega)).2 w1).mono ?_
  rintro e w2 ⟨b, rfl, hb, rfl⟩
  go_wp2
  go_ret2
  exact ⟨b, rfl, hb, hb1⟩

theorem bits_no (n k : Int) (w : World) (h : Hid (wide n 6 = true) ∨ (Hid (wide n 6 = false) ∧ Hid (wide k 8 = true))) :
    Calls Tryz.prog 86 #[.int .i64 n, .int .i64 k] w fun e w' => e = .returned (.tuple #[.int .i64 0, .iface 63 (.int .i64 1)]) ∧ Below w.heap.size w w' := by
  go_enter Tryz.func86, Tryz.ntmps86
  go_wp2_with fail
  refine (of_no n k w h).mono ?_
  rintro e w1 ⟨rfl, hb1⟩
  go_wp2
  go_ret2
  exact ⟨rfl, hb1⟩

end Go.Proofs.YthkibjhhlcfceaiGreatDoor.Cnt

/-
  count.Bits, by how many there are.
-/
namespace Go.Proofs.YthkibjhhlcfceaiGreatDoor.Shr
open Go.RowKit
open Go.Proofs.YthkibjhhlcfceaiGreatDoor.Tre Go.Proofs.YthkibjhhlcfceaiGreatDoor.Cnt Go.Proofs.YthkibjhhlcfceaiGreatDoor.Bnd
set_option linter.unusedVariables false

theorem cell_shr' {w : World} {a : Option Addr} {l : List Int} (h : Row w a l) (h0 : 0 < l.length) : ∃ b off, a = some ⟨b, off, none⟩ ∧ b < w.heap.size ∧ ∀ j, j < l.length → w.cell? ⟨b, off + j, none⟩ = some (.int .i64 (at0 l j)) := by
  obtain ⟨b, off, e, hb, hc⟩ := h.at h0
  exact ⟨b, off, e, hb, fun j hj => (hc j hj).trans (by rw [List.getD_eq_getElem?_getD]; rfl)⟩
theorem bits_is (n k : Nat) (hn : n ≤ 6) (hk : k ≤ 8) (w : World) :
    Calls Tryz.prog 86 #[.int .i64 n, .int .i64 k] w fun e w' => e = .returned (.tuple #[.int .i64 (Bt k n : Int), .nilIface]) ∧ Below w.heap.size w w' :=
  (bits_ok n k hn hk w).mono fun e w' ⟨b, he, hb, hw⟩ => ⟨by rw [he, hb.one (Bt_is hk hn)], hw⟩

end Go.Proofs.YthkibjhhlcfceaiGreatDoor.Shr

/-
  share.price: by its contract.
-/
namespace Go.Proofs.YthkibjhhlcfceaiGreatDoor.Shr
open Go.RowKit
open Go.Proofs.YthkibjhhlcfceaiGreatDoor.Tre Go.Proofs.YthkibjhhlcfceaiGreatDoor.Cnt Go.Proofs.YthkibjhhlcfceaiGreatDoor.Bnd
set_option linter.unusedVariables false

set_option maxHeartbeats 1000000 in
theorem price (n k : Nat) (hn : n ≤ 6) (hk : k < 8) (w : World) :
    Calls Tryz.prog 104 #[.int .i64 n, .int .i64 k] w fun e w' => e = .returned (.int .i64 (pr n k)) ∧ Below w.heap.size w w' := by
  have h1 := Bt_le (k := k) (n := n) (by omega) hn
  have h2 := Bt_le (k := k + 1) (n := n) (by omega) hn
  have HP : Hid (pr n k = (Bt (k + 1) n : Int) - (Bt k n : Int)) := hide rfl
  have b1 := bits_is n k hn (by omega) w
  have b2 := hide (fun W => bits_is n (k + 1) hn (by omega) W)
  obtain ⟨X, hX⟩ : ∃ X, Bt k n = X := ⟨_, rfl⟩
  obtain ⟨Y, hY⟩ : ∃ Y, Bt (k + 1) n = Y := ⟨_, rfl⟩
  obtain ⟨P, hP⟩ : ∃ P, pr n k = P := ⟨_, rfl⟩
  rw [hX] at h1 HP b1
  rw [hY] at h2 HP b2
  rw [hP] at HP ⊢
  have wP : IntKind.i64.wrap ((Y : Int) - (X : Int)) = P := by rw [← unhide HP]; exact IntWalk.i64_in _ (by rw [unhide HP]; omega)
  have wK : IntKind.i64.wrap ((k : Int) + 1) = ((k + 1 : Nat) : Int) := by rw [Int.natCast_add]; exact IntWalk.i64_in _ (by omega)
  obtain ⟨K, hK⟩ : ∃ K, k + 1 = K := ⟨_, rfl⟩
  rw [hK] at wK b2
  clear hX hY hP hK
  go_enter Tryz.func104, Tryz.ntmps104
  go_wp2_with fail
  refine b1.mono ?_
  clear b1
  rintro e w1 ⟨rfl, hb1⟩
  go_wp2_with fail
  refine (unhide b2 w1).mono ?_
  clear b2
  rintro e w2 ⟨rfl, hb2⟩
  go_wp2
  go_ret
  exact ⟨rfl, Below.chain hb1 hb2⟩

end Go.Proofs.YthkibjhhlcfceaiGreatDoor.Shr
