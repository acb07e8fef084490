/-
  pack.bytesFor, total, gainWidths, rankWidths: by their contracts.
-/
import Derived.Test.YtjojeifoddonnakDoorLb08
import Derived.Test.YtjojeifoddonnakDoorLb24
import Derived.Test.YtjojeifoddonnakDoorLb30
import Derived.Test.YtjojeifoddonnakDoorLb05
namespace Go.Proofs.YtjojeifoddonnakDoor.Pck
open Go.RowKit
open Go.Proofs.YtjojeifoddonnakDoor.Tre Go.Proofs.YtjojeifoddonnakDoor.Bnd Go.Proofs.YtjojeifoddonnakDoor.Cnt Go.Proofs.YtjojeifoddonnakDoor.Shr
set_option linter.unusedVariables false

theorem bytesFor (n : Nat) (w : World) (h : n ≤ 1000) :
    Calls Tryd.prog 32 #[.int .i64 n] w fun e w' => e = .returned (.int .i64 ((n + 7) / 8 : Nat)) ∧ w' = w := by
  obtain ⟨N8, hN8⟩ : ∃ N8, n + 8 = N8 := ⟨_, rfl⟩
  obtain ⟨N7, hN7⟩ : ∃ N7, n + 7 = N7 := ⟨_, rfl⟩
  obtain ⟨K, hK⟩ : ∃ K, N7 / 8 = K := ⟨_, rfl⟩
  have w1 : IntKind.i64.wrap ((n : Int) + 8) = (N8 : Int) := by rw [IntWalk.i64_in _ (by omega)]; omega
  have w2 : IntKind.i64.wrap ((N8 : Int) - 1) = (N7 : Int) := by rw [IntWalk.i64_in _ (by omega)]; omega
  have w3 : Int.tdiv (N7 : Int) 8 = (K : Int) := by rw [Int.tdiv_eq_ediv_of_nonneg (by omega)]; omega
  have w4 : IntKind.i64.wrap (K : Int) = (K : Int) := by rw [IntWalk.i64_in _ (by omega)]
  rw [hN7, hK]
  clear hN8 hN7 hK
  go_enter Tryd.func32, Tryd.ntmps32
  go_wp2
  go_ret
  exact ⟨rfl, rfl⟩

set_option maxHeartbeats 4000000 in
theorem totalOf (a : Option Addr) (cap : Nat) (ws : List Int) (w : World) (hr : Row w a ws) (h8 : ws.length ≤ 8) (hw : Hid (∀ i, i < ws.length → 0 ≤ at0 ws i ∧ at0 ws i ≤ 20)) :
    Calls Tryd.prog 39 #[.slice a ws.length cap] w fun e w' => e = .returned (.int .i64 (total ws)) ∧ w' = w := by
  have HT : Hid (pre ws ws.length = total ws) := hide rfl
  have HL : Hid (∀ j, j ≤ ws.length → pre ws j ≤ 20 * j) := hide (fun j hj => by
    induction j with
    | zero => exact Nat.le_refl _
    | succ j ih =>
      have h1 := ih (by omega)
      have h2 := unhide hw j (by omega)
      rw [pre_succ]
      omega)
  have HS : Hid (∀ j, pre ws (j + 1) = pre ws j + (at0 ws j).toNat) := hide (fun j => pre_succ _ _)
  obtain ⟨TT, hTT⟩ : ∃ TT, total ws = TT := ⟨_, rfl⟩
  rw [hTT] at HT ⊢
  obtain ⟨N, hN⟩ : ∃ N, ws.length = N := ⟨_, rfl⟩
  have HN := hide hN
  rw [hN] at HT HL hw h8 ⊢
  clear hN hTT
  go_enter Tryd.func39, Tryd.ntmps39
  go_wp2
  go_loopw [3, 8] (fun t i wr => ∃ j T : Nat, j ≤ N ∧ i = .int .i64 j ∧ t = .int .i64 T ∧ Hid (T = pre ws j) ∧ T ≤ 160 ∧ w = wr) (fun _ i _ => N - (intOf i).toNat)
  case atStart => exact ⟨0, 0, Nat.zero_le _, rfl, rfl, rfl, by omega, rfl⟩
  case round =>
    obtain ⟨j, T, hj, rfl, rfl, HTJ, hT, rfl⟩ := hrel
    by_cases hlt : j < N
    · obtain ⟨b, off, rfl, hb, hc⟩ := Bnd.cell_at hr (by rw [unhide HN]; omega)
      have cx := hc j (by rw [unhide HN]; exact hlt)
      have hx := unhide hw j hlt
      obtain ⟨X, hX⟩ : ∃ X : Nat, at0 ws j = X := ⟨(at0 ws j).toNat, by omega⟩
      have HT2 : Hid (T + X = pre ws (j + 1)) := hide (by rw [unhide HS, ← unhide HTJ]; omega)
      have hT2 : T + X ≤ 160 := by have := unhide HL (j + 1) (by omega); rw [← unhide HT2] at this; omega
      rw [hX] at cx
      clear hc hX hx HTJ
      go_wp2
      go_roundw
      case rel => exact ⟨j + 1, T + X, by omega, by go_num, by go_num, HT2, hT2, by first | trivial | rfl⟩
      case measure => simp [intOf]; omega
    · obtain rfl : N = j := by omega
      obtain rfl : T = TT := by rw [unhide HTJ]; exact unhide HT
      go_wp2
      go_ret
      exact ⟨rfl, rfl⟩

theorem gainWidths (n : Nat) (w : World) (h1 : 1 ≤ n) (h8 : n ≤ 8) :
    Calls Tryd.prog 35 #[.int .i64 n] w fun e w' => ∃ v, e = .returned v ∧ Has w' w.heap.size v (List.replicate n 6) ∧ Below w.heap.size w w' := by
  have hrA := row_one w 6 3
  have hbA : Below w.heap.size w (w.alloc (.cells #[.int .i64 6] 3)) := (Below.refl _ _).alloc (Nat.le_refl _) _
  go_enter Tryd.func35, Tryd.ntmps35
  go_wp2_with fail
  refine (sixTimes _ _ n _ hrA h1 h8).mono ?_
  rintro e w1 ⟨v1, rfl, k1, hb1⟩
  have hB1 := Below.chain hbA hb1
  have k1' := k1.mono hbA.size
  obtain ⟨p9, n9, q9, rfl⟩ := k1.shape
  clear k1 hb1 hrA
  go_wp2
  go_ret
  exact ⟨_, rfl, k1', hB1⟩

set_option maxRecDepth 100000 in
set_option maxHeartbeats 4000000 in
theorem rankWidths (a : Option Addr) (cap : Nat) (s : List Int) (b : Option Addr) (capb : Nat) (gv : List Int) (w : World) (hs : Row w a s) (hg : Row w b gv) (hl : gv.length = s.length) (h8 : s.length ≤ 8) (hz : Hid (∀ i, i < s.length → 1 ≤ at0 s i ∧ at0 s i ≤ 6)) (hp : Hid (∀ i, i < s.length → 0 ≤ at0 gv i ∧ at0 gv i ≤ 8)) :
    Calls Tryd.prog 24 #[.slice a s.length cap, .slice b gv.length capb] w fun e w' => ∃ v, e = .returned (.tuple #[v, .nilIface]) ∧ Has w' w.heap.size v (rws s gv) ∧ Below w.heap.size w w' := by
  have HRL := hide (rws_length s gv)
  have HRA : Hid (∀ i, i < s.length → at0 (rws s gv) i = (Bt (at0 gv i).toNat (at0 s i).toNat : Int)) := hide (fun i hi => rws_at hi)
  have HB15 : Hid (∀ i, i < s.length → Bt (at0 gv i).toNat (at0 s i).toNat ≤ 15) := hide (fun i hi => by
    have h1 := unhide hz i hi
    have h2 := unhide hp i hi
    exact Bt_le (by omega) (by omega))
  obtain ⟨rs, hrs⟩ : ∃ rs, rws s gv = rs := ⟨_, rfl⟩
  rw [hrs] at HRL HRA ⊢
  obtain ⟨N, hN⟩ : ∃ N, s.length = N := ⟨_, rfl⟩
  have HN := hide hN
  have HGN : Hid (gv.length = N) := hide (by rw [hl, hN])
  rw [unhide HGN]
  rw [hN] at HRL HRA HB15 hz hp h8 ⊢
  have HTK : Hid (∀ k, k < N → rs.take (k + 1) = rs.take k ++ [at0 rs k]) := hide (fun k hk => by
    have hk' : k < rs.length := by rw [unhide HRL]; exact hk
    rw [List.take_succ_eq_append_getElem hk']
    simp [at0, hk'])
  clear hrs hN hl
  go_enter Tryd.func24, Tryd.ntmps24
  go_wp2
  go_loopw [6, 13] (fun v i wr => ∃ k : Nat, k ≤ N ∧ i = .int .i64 k ∧ Has wr w.heap.size v (rs.take k) ∧ Below w.heap.size w wr) (fun _ i _ => N - (intOf i).toNat)
  case atStart => exact ⟨0, Nat.zero_le _, rfl, Has.nil _ _, Below.refl _ _⟩
  case round =>
    obtain ⟨j, hj, rfl, hv, hB⟩ := hrel
    by_cases hlt : j < N
    · obtain ⟨b1, off1, rfl, hbw, hc1⟩ := Bnd.cell_at (hs.below hB) (by rw [unhide HN]; omega)
      obtain ⟨b2, off2, rfl, hbw2, hc2⟩ := Bnd.cell_at (hg.below hB) (by rw [unhide HGN]; omega)
      have c1 := hc1 j (by rw [unhide HN]; exact hlt)
      have c2 := hc2 j (by rw [unhide HGN]; exact hlt)
      have hz1 := unhide hz j hlt
      have hp1 := unhide hp j hlt
      obtain ⟨X, hX⟩ : ∃ X : Nat, at0 s j = X := ⟨(at0 s j).toNat, by omega⟩
      obtain ⟨K, hK⟩ : ∃ K : Nat, at0 gv j = K := ⟨(at0 gv j).toNat, by omega⟩
      have CB := hide (bits_is X K (by omega) (by omega) wr)
      have HT := hide (unhide HTK j hlt)
      rw [unhide HRA j hlt] at HT
      rw [hX, hK, Int.toNat_natCast, Int.toNat_natCast] at HT
      have hb15 := unhide HB15 j hlt
      rw [hX, hK, Int.toNat_natCast, Int.toNat_natCast] at hb15
      rw [hX] at c1
      rw [hK] at c2
      obtain ⟨Z, hZ⟩ : ∃ Z, Bt K X = Z := ⟨_, rfl⟩
      rw [hZ] at CB HT hb15
      have hln : Hid ((rs.take j).length + 1 ≤ 1000000) := hide (by rw [List.length_take]; omega)
      clear hc1 hc2 hz1 hp1 hX hK hZ
      go_wp2_with fail
      refine (unhide CB).mono ?_
      rintro e w4 ⟨rfl, hb4⟩
      have hB4 := Below.chain hB hb4
      have hv4 := hv.below hb4
      have hWs := hB4.size
      clear CB hB hb4 hv
      go_wp2_with (at_builtin; refine wpList_app _ rfl _ _ rfl w.heap.size u6 (rs.take j) [(Z : Int)] _ _ rfl (hv4.alloc _) rfl (row_one _ _ _) (unhide hln) (by simp; omega) ?_; intro s' w6 k6 g6 at6)
      obtain ⟨d1, d2⟩ := stepped_plain hv4 hWs k6 g6 at6
      have hB6 := hB4.trans d1
      rw [← unhide HT] at k6
      clear hv4 hB4 d1 d2 g6 at6
      go_wp2
      go_roundw
      case rel => exact ⟨j + 1, by omega, by go_num, k6, hB6⟩
      case measure => simp [intOf]; omega
    · obtain rfl : N = j := by omega
      have HTA : Hid (rs.take N = rs) := hide (by rw [← unhide HRL, List.take_length])
      rw [unhide HTA] at hv
      obtain ⟨p9, n9, q9, rfl⟩ := hv.shape
      go_wp2
      go_ret2
      exact ⟨_, rfl, hv, hB⟩

end Go.Proofs.YtjojeifoddonnakDoor.Pck
