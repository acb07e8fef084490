/-
  width.spell, number: by their contracts.
-/
import Derived.Test.YtjojeifoddonnakGreatDoorLd04
import Derived.Test.YtjojeifoddonnakGreatDoorLd09
import Derived.Test.YtjojeifoddonnakGreatDoorLd05
import Derived.Test.YtjojeifoddonnakGreatDoorLd08
import Derived.Deep.QuietTactic
import Derived.BigQuiet
namespace Go.Proofs.YtjojeifoddonnakGreatDoor.Wid
open Go.RowKit
open Go.Proofs.YtjojeifoddonnakGreatDoor.Tre Go.Proofs.YtjojeifoddonnakGreatDoor.Scl Go.Proofs.YtjojeifoddonnakGreatDoor.Bnd
set_option linter.unusedVariables false

/-- A slice grows, and grows again: all else of the first world stays. -/
def Same (w : World) (v u : Value) : Prop := u.ownBlock = v.ownBlock ∨ ∃ k, u.ownBlock = some k ∧ w.heap.size ≤ k
theorem grown_on {w W w1 : World} {v u u' : Value} {tmp : Obj} (hg : w.grownBy W v.ownBlock) (hs : Same w v u) (hg1 : (W.alloc tmp).grownBy w1 u.ownBlock) (hat : u'.ownBlock = u.ownBlock ∨ u'.ownBlock = some (W.alloc tmp).heap.size) :
    w.grownBy w1 v.ownBlock ∧ Same w v u' := by
  have h2 : W.grownBy (W.alloc tmp) none := World.grownBy_alloc W tmp none
  have hz := h2.size
  refine ⟨⟨hg1.os.trans (h2.os.trans hg.os), hg1.tape.trans (h2.tape.trans hg.tape), hg1.output.trans (h2.output.trans hg.output), Nat.le_trans hg.size (Nat.le_trans hz hg1.size), fun k hk hne => ?_⟩, ?_⟩
  · have hkW := Nat.lt_of_lt_of_le hk hg.size
    have e1 : w1.heap[k]? = (W.alloc tmp).heap[k]? := hg1.block k (Nat.lt_of_lt_of_le hkW hz) (by
      rcases hs with e | ⟨q, e, hq⟩
      · rw [e]; exact hne
      · rw [e]; intro hh; cases hh; omega)
    exact e1.trans ((h2.block k hkW (by intro hh; cases hh)).trans (hg.block k hk hne))
  · rcases hat with e | e
    · unfold Same at *; rw [e]; exact hs
    · exact Or.inr ⟨_, e, Nat.le_trans hg.size hz⟩

set_option maxRecDepth 100000 in
set_option maxHeartbeats 4000000 in
theorem spell (v : Value) (l : List Int) (n : Int) (W base : Nat) (w : World) (hv : Has w base v l) (hbs : base ≤ w.heap.size) (h20 : W ≤ 20) (h0 : 0 ≤ n) (h1 : Hid (n < 2 ^ W)) (hl : l.length ≤ 1000) :
    Calls Tryz.prog 74 #[v, .int .i64 n, .int .i64 W] w fun e w' => ∃ v', e = .returned v' ∧ Has w' base v' (l ++ bin W n) ∧ w.grownBy w' v.ownBlock ∧ Hid (Same w v v') := by
  have HO0 : Hid (l ++ bin W (n % 2 ^ W) = l ++ bin W n) := hide (by rw [bin_mod h0 (unhide h1)])
  have HLN : Hid ((l ++ bin W n).length ≤ 1020) := hide (by rw [List.length_append, bin_length]; omega)
  have hn9 : n ≤ 1048576 := by have := unhide h1; have := (two_le' h20).2; omega
  obtain ⟨tg, htg⟩ : ∃ tg, l ++ bin W n = tg := ⟨_, rfl⟩
  rw [htg] at HO0 HLN ⊢
  have hs0 : IntKind.i64.wrap ((W : Int) - 1) = (W : Int) - 1 := IntWalk.i64_in _ (by omega)
  clear htg h1 hl
  go_enter Tryz.func74, Tryz.ntmps74
  go_wp2
  go_loopw [0, 9] (fun u i wr => ∃ (j m : Nat) (O : List Int), j + m = W ∧ i = .int .i64 j ∧ Has wr base u O ∧ Hid (O ++ bin m (n % 2 ^ m) = tg) ∧ w.grownBy wr v.ownBlock ∧ Hid (Same w v u)) (fun _ i _ => W - (intOf i).toNat)
  case atStart => exact ⟨0, W, l, by omega, rfl, hv, HO0, World.grownBy.refl _ _, hide (Or.inl rfl)⟩
  case round =>
    clear HO0 hv
    obtain ⟨j, m, O, hjm, rfl, hv, HO, hg, HS⟩ := hrel
    have hsz := hg.size
    cases m with
    | zero =>
      obtain rfl : j = W := by omega
      have HO2 : Hid (O = tg) := hide (by rw [← unhide HO, bin, List.append_nil])
      rw [unhide HO2] at hv
      obtain ⟨p9, n9, q9, rfl⟩ := hv.shape
      clear HO
      go_wp2
      go_ret
      exact ⟨_, rfl, hv, hg, HS⟩
    | succ m =>
      have HO2 : Hid ((O ++ [n / 2 ^ m % 2]) ++ bin m (n % 2 ^ m) = tg) := hide (by rw [← unhide HO, bin_next]; simp)
      have hln : Hid (O.length + 1 ≤ 17592186044416) := hide (by
        have e := congrArg List.length (unhide HO)
        rw [List.length_append] at e
        have := unhide HLN
        omega)
      have hjW : j < W := by omega
      have hex : ((W : Int) - 1 - (j : Int)).toNat = m := by omega
      have hsh : IntKind.i64.wrap ((W : Int) - 1 - (j : Int)) = (W : Int) - 1 - (j : Int) := IntWalk.i64_in _ (by omega)
      have hp := two_pos m
      have q0 : 0 ≤ n / 2 ^ m := Int.ediv_nonneg h0 (by omega)
      have q9 : n / 2 ^ m ≤ 1048576 := Int.le_trans (Int.ediv_le_self _ h0) hn9
      have ha := and_one q0 q9
      obtain ⟨Q, hQ⟩ : ∃ Q, n / 2 ^ m = Q := ⟨_, rfl⟩
      rw [hQ] at HO2 ha q0 q9
      obtain ⟨D, hD⟩ : ∃ D, Q % 2 = D := ⟨_, rfl⟩
      rw [hD] at HO2 ha
      have hm1 : j + 1 + m = W := by omega
      have hWs : base ≤ wr.heap.size := Nat.le_trans hbs hsz
      clear HO hD hp hjm
      go_wp2_with (at_builtin; refine wpList_appL _ rfl _ _ rfl base u0 O [D] _ _ rfl (hv.alloc _) rfl (row_one _ _ _) (unhide hln) (by simp; omega) ?_; intro s' w6 k6 g6 at6)
      obtain ⟨hg6, hs6⟩ := grown_on hg (unhide HS) g6 at6
      have HS6 := hide hs6
      clear hv hg HS hs6 g6 at6
      go_wp2
      go_roundw
      case rel => exact ⟨j + 1, m, _, hm1, by go_num, k6, HO2, hg6, HS6⟩
      case measure => simp [intOf]; omega

set_option maxRecDepth 100000 in
set_option maxHeartbeats 4000000 in
theorem number (a : Option Addr) (cap : Nat) (l : List Int) (w : World) (hr : Row w a l) (h20 : l.length ≤ 20) (hb : Hid (Bit l)) :
    Calls Tryz.prog 78 #[.slice a l.length cap] w fun e w' => e = .returned (.int .i64 (num 0 l)) ∧ w' = w := by
  have HS := hide (num_small' (unhide hb) h20)
  obtain ⟨N, hN⟩ : ∃ N, l.length = N := ⟨_, rfl⟩
  have HN := hide hN
  have HA : Hid (num 0 (l.take N) = num 0 l) := hide (by rw [← hN, List.take_length])
  obtain ⟨R, hR⟩ : ∃ R, num 0 l = R := ⟨_, rfl⟩
  rw [hR] at HA
  rw [hN] at h20
  rw [hN, hR]
  clear hN hR
  go_enter Tryz.func78, Tryz.ntmps78
  go_wp2
  go_loopw [3, 8] (fun n i wr => ∃ (k : Nat) (X : Int), k ≤ N ∧ i = .int .i64 k ∧ n = .int .i64 X ∧ Hid (num 0 (l.take k) = X) ∧ w = wr) (fun _ i _ => N - (intOf i).toNat)
  case atStart => exact ⟨0, 0, Nat.zero_le _, rfl, rfl, rfl, rfl⟩
  case round =>
    obtain ⟨k, X, hk, rfl, rfl, HX, rfl⟩ := hrel
    by_cases hkl : k < N
    · have hkl' : k < l.length := by rw [unhide HN]; exact hkl
      obtain ⟨b2, off2, rfl, _, hc2⟩ := Scl.cell_at hr (by omega)
      have e1 := hc2 k hkl'
      have hs := unhide HS k
      have hbt := bit_at (unhide hb) k
      have HX2 : Hid (num 0 (l.take (k + 1)) = 2 * X + at0 l k) := hide (by rw [num_take' hkl', unhide HX])
      rw [unhide HX] at hs
      obtain ⟨B, hB⟩ : ∃ B, at0 l k = B := ⟨_, rfl⟩
      rw [hB] at e1 hbt HX2
      have ho := or_bit hs.1 hs.2 hbt
      have ho2 : bits .or .i64 (X * 2) B = 2 * X + B := by rw [Int.mul_comm X 2]; exact ho
      have w1 : IntKind.i64.wrap (2 * X) = 2 * X := IntWalk.i64_in _ (by omega)
      have w2 : IntKind.i64.wrap (X * 2) = X * 2 := IntWalk.i64_in _ (by omega)
      clear hB hc2 hkl' HX hbt hs
      go_wp2
      go_roundw
      case rel => exact ⟨k + 1, 2 * X + B, by omega, by go_num, by first | rfl | go_num, HX2, by first | trivial | rfl⟩
      case measure => simp [intOf]; omega
    · obtain rfl : k = N := by omega
      obtain rfl : X = R := (unhide HX).symm.trans (unhide HA)
      go_wp2
      go_ret
      exact ⟨rfl, rfl⟩

end Go.Proofs.YtjojeifoddonnakGreatDoor.Wid

/-
  width.Get: by its contract.
-/
namespace Go.Proofs.YtjojeifoddonnakGreatDoor.Wid
open Go.RowKit
open Go.Proofs.YtjojeifoddonnakGreatDoor.Tre Go.Proofs.YtjojeifoddonnakGreatDoor.Scl Go.Proofs.YtjojeifoddonnakGreatDoor.Bnd
set_option linter.unusedVariables false

set_option maxRecDepth 100000 in
set_option maxHeartbeats 4000000 in
theorem get_no (a : Option Addr) (cap : Nat) (bs : List Int) (b : Option Addr) (capb : Nat) (ws : List Int) (E : Int) (w : World) (hr : Row w a bs) (hs : Row w b ws) (hm : bs.length ≤ cap) (hm9 : cap ≤ 9223372036854775807) (zl : bs.length ≤ 17592186044416) (zs : ws.length ≤ 17592186044416) (hE : Hid (getF bs ws = E)) (hne : Hid (E ≠ 0)) :
    Calls Tryz.prog 60 #[.slice a bs.length cap, .slice b ws.length capb] w fun e w' => e = .returned (.tuple #[.slice none 0 0, .iface 48 (.int .i64 E)]) ∧ Below w.heap.size w w' := by
  have hE2 := unhide hE
  unfold getF at hE2
  by_cases h0 : bsF bs = 0
  · rw [if_pos h0] at hE2
    have hck := check_ok a cap bs w hr (hide h0)
    cases hany : ws.any now with
    | true =>
      obtain rfl : E = 1 := by rw [← hE2, if_pos hany]
      have htn := total_no b capb ws w hs (by omega) (hide hany)
      obtain ⟨N, hN⟩ : ∃ N, ws.length = N := ⟨_, rfl⟩
      obtain ⟨M, hM⟩ : ∃ M, bs.length = M := ⟨_, rfl⟩
      rw [hM] at hck ⊢
      rw [hN] at htn ⊢
      clear hN hM hE hne hE2 h0 hany hm zl zs
      go_enter Tryz.func60, Tryz.ntmps60
      go_wp2_with fail
      refine hck.mono ?_
      clear hck
      rintro e w1 ⟨rfl, hw1⟩
      obtain rfl : w = w1 := hw1.symm
      clear hw1
      go_wp2_with fail
      refine htn.mono ?_
      clear htn
      rintro e w1 ⟨rfl, hw1⟩
      obtain rfl : w = w1 := hw1.symm
      clear hw1
      go_wp2
      go_ret2
      exact ⟨rfl, Below.refl _ _⟩
    | false =>
      rw [if_neg (by rw [hany]; simp)] at hE2
      have hW := now_any.1 hany
      have htk := total_ok b capb ws w hs zs (hide hW)
      have ht : total ws ≠ bs.length := fun h => unhide hne (by rw [← hE2, if_pos h])
      obtain rfl : E = 3 := by rw [← hE2, if_neg ht]
      obtain ⟨N, hN⟩ : ∃ N, ws.length = N := ⟨_, rfl⟩
      obtain ⟨M, hM⟩ : ∃ M, bs.length = M := ⟨_, rfl⟩
      obtain ⟨Z, hZ⟩ : ∃ Z, total ws = Z := ⟨_, rfl⟩
      rw [hM] at hck ht ⊢
      rw [hZ] at ht htk
      rw [hN] at htk ⊢
      have n1 : ((M : Int) == (Z : Int)) = false := by rw [beq_eq_false_iff_ne]; omega
      have n2 : ((M : Int) != (Z : Int)) = true := by simp; omega
      have n3 : (M == Z) = false := by rw [beq_eq_false_iff_ne]; omega
      clear hN hM hZ hE hne hE2 h0 hany hm zl zs hW ht
      go_enter Tryz.func60, Tryz.ntmps60
      go_wp2_with fail
      refine hck.mono ?_
      clear hck
      rintro e w1 ⟨rfl, hw1⟩
      obtain rfl : w = w1 := hw1.symm
      clear hw1
      go_wp2_with fail
      refine htk.mono ?_
      clear htk
      rintro e w1 ⟨rfl, hw1⟩
      obtain rfl : w = w1 := hw1.symm
      clear hw1
      go_wp2
      go_ret2
      exact ⟨rfl, Below.refl _ _⟩
  · rw [if_neg h0] at hE2
    have hck := check_no a cap bs E w hr (by omega) (hide hE2) hne
    obtain ⟨N, hN⟩ : ∃ N, ws.length = N := ⟨_, rfl⟩
    obtain ⟨M, hM⟩ : ∃ M, bs.length = M := ⟨_, rfl⟩
    rw [hM] at hck ⊢
    rw [hN]
    clear hN hM hE hne hE2 h0 hm zl zs
    go_enter Tryz.func60, Tryz.ntmps60
    go_wp2_with fail
    refine hck.mono ?_
    clear hck
    rintro e w1 ⟨rfl, hw1⟩
    obtain rfl : w = w1 := hw1.symm
    clear hw1
    go_wp2
    go_ret2
    exact ⟨rfl, Below.refl _ _⟩

set_option maxRecDepth 100000 in
set_option maxHeartbeats 8000000 in
theorem get_ok (a : Option Addr) (cap : Nat) (bs : List Int) (b : Option Addr) (capb : Nat) (ws : List Int) (w : World) (hr : Row w a bs) (hs : Row w b ws) (hm : bs.length ≤ cap) (hm9 : cap ≤ 9223372036854775807) (zs : ws.length ≤ 17592186044416) (hE : Hid (getF bs ws = 0)) :
    Calls Tryz.prog 60 #[.slice a bs.length cap, .slice b ws.length capb] w fun e w' => ∃ v, e = .returned (.tuple #[v, .nilIface]) ∧ Has w' w.heap.size v (gets bs ws) ∧ Below w.heap.size w w' := by
  obtain ⟨⟨h400, hbit⟩, hW, ht⟩ := getF_zero.1 (unhide hE)
  have hck := check_ok a cap bs w hr (hide (bsF_zero.2 ⟨h400, hbit⟩))
  have htk := total_ok b capb ws w hs zs (hide hW)
  rw [ht] at htk
  have HW := hide hW
  have HBI := hide hbit
  have HT := hide ht
  have HG : Hid (upto (fun i => num 0 (cutAt bs ws i)) ws.length = gets bs ws) := hide rfl
  have HM0 : Hid (bs.length = (bs.drop (pre ws 0)).length) := hide rfl
  have hr0 : Row w a (bs.drop (pre ws 0)) := hr
  obtain ⟨r, hrr⟩ : ∃ r, gets bs ws = r := ⟨_, rfl⟩
  rw [hrr] at HG ⊢
  obtain ⟨N, hN⟩ : ∃ N, ws.length = N := ⟨_, rfl⟩
  have HN := hide hN
  obtain ⟨M0, hM0⟩ : ∃ M, bs.length = M := ⟨_, rfl⟩
  rw [hN] at HG htk zs ⊢
  rw [hM0] at hck htk h400 HM0 hm ⊢
  have n1 : ((M0 : Int) == (M0 : Int)) = true := by simp
  have HL0 := hide hM0
  clear hN hM0 hE hW hbit ht hrr
  go_enter Tryz.func60, Tryz.ntmps60
  go_wp2_with fail
  refine hck.mono ?_
  clear hck
  rintro e w1 ⟨rfl, hw1⟩
  obtain rfl : w = w1 := hw1.symm
  clear hw1
  go_wp2_with fail
  refine htk.mono ?_
  clear htk
  rintro e w1 ⟨rfl, hw1⟩
  obtain rfl : w = w1 := hw1.symm
  clear hw1
  go_wp2_with (at_make; refine wpList_mkL _ rfl _ rfl N rfl (by omega) ?_; intro w2 hv2 hb2)
  rw [← Lap.mid_zero (fun i => num 0 (cutAt bs ws i)) (fun _ => 0) N] at hv2
  go_wp2
  go_loopw [0, 35] (fun lv i wr => ∃ (j : Nat) (A : Option Addr) (M C : Nat), j ≤ N ∧ i = .int .i64 j ∧ lv = .slice A M C ∧ Hid (M = (bs.drop (pre ws j)).length) ∧ M ≤ 400 ∧ M ≤ C ∧ C ≤ 9223372036854775807 ∧ Row w A (bs.drop (pre ws j)) ∧
      Has wr w.heap.size (.slice (some ⟨w.heap.size, 0, none⟩) N N) (Lap.mid (fun i => num 0 (cutAt bs ws i)) (fun _ => 0) N j) ∧ Below w.heap.size w wr) (fun _ i _ => N - (intOf i).toNat)
  case atStart => exact ⟨0, a, M0, cap, Nat.zero_le _, rfl, rfl, HM0, h400, hm, hm9, hr0, hv2, hb2⟩
  case round =>
    obtain ⟨j, A, M, C, hj, rfl, rfl, HM, hM4, hMC, hC9, hrA, hv, hB⟩ := hrel
    clear hv2 hb2 hr0 HM0
    by_cases hlt : j < N
    · have hjs : j < ws.length := by rw [unhide HN]; exact hlt
      obtain ⟨b1, off1, rfl, _, hc1⟩ := Scl.cell_at (hs.below hB) (by omega)
      have c1 := hc1 j hjs
      have h1 := unhide HW j hjs
      have hp := pre_total ws (j := j + 1) hjs
      rw [pre_succ, unhide HT, unhide HL0] at hp
      have hlen := unhide HM
      rw [List.length_drop, unhide HL0] at hlen
      have HC1 : Hid ((at0 ws j).toNat = (cutAt bs ws j).length) := hide (cutAt_length (unhide HT) hjs).symm
      have HP := hide (pre_succ ws j)
      have HCB : Hid (Bit (cutAt bs ws j)) := hide (bit_take (bit_drop (unhide HBI) _) _)
      have HCD : Hid (cutAt bs ws j = (bs.drop (pre ws j)).take (at0 ws j).toNat) := hide rfl
      obtain ⟨X, hX⟩ : ∃ X : Nat, at0 ws j = X := ⟨(at0 ws j).toNat, by omega⟩
      rw [hX] at c1 h1 hp HC1 HP HCD
      rw [Int.toNat_natCast] at hp HC1 HP HCD
      have hX20 : X ≤ 20 := by omega
      have hXM : X ≤ (bs.drop (pre ws j)).length := by rw [← unhide HM]; omega
      have hMC' : (bs.drop (pre ws j)).length ≤ C := by rw [← unhide HM]; exact hMC
      obtain ⟨A1, run1, hr1⟩ := row_first hrA C hMC' hXM
      obtain ⟨A2, run2, hr2⟩ := row_rest hrA C hMC' hXM
      rw [← unhide HM] at run1 run2
      rw [← unhide HCD] at hr1
      have hnum := number A1 C (cutAt bs ws j) wr (hr1.below hB) (by rw [← unhide HC1]; exact hX20) HCB
      rw [← unhide HC1] at hnum
      have hdr : Row w A2 (bs.drop (pre ws (j + 1))) := by
        rw [unhide HP, ← List.drop_drop]
        exact hr2
      have HM2 : Hid (M - X = (bs.drop (pre ws (j + 1))).length) := hide (by rw [unhide HP, List.length_drop, unhide HL0]; omega)
      obtain ⟨G, hG⟩ : ∃ G, num 0 (cutAt bs ws j) = G := ⟨_, rfl⟩
      rw [hG] at hnum
      have c2 := hv.get (j := j) (by rw [Lap.mid_length]; exact hlt)
      have f2 := hv.frozen j
      obtain ⟨m1, -, m2⟩ := Mid.put_mid hv hlt hG 0
      have Q1 := hide m1
      have Q2 := hide (m2 w hB (Nat.le_refl _))
      have hXM2 : X ≤ M := by rw [unhide HM]; exact hXM
      have d1 : M - X ≤ 400 := by omega
      have d2 : M - X ≤ C - X := by omega
      have d3 : C - X ≤ 9223372036854775807 := by omega
      clear hc1 h1 hp hlen hX hG hrA hjs hXM hMC' hr1 hr2 m1 m2 HC1 HCB HCD HP
      go_wp2_with fail
      refine hnum.mono ?_
      clear hnum
      rintro e w3 ⟨rfl, hw3⟩
      obtain rfl : wr = w3 := hw3.symm
      clear hw3
      go_wp2
      go_roundw
      case rel => exact ⟨j + 1, A2, M - X, C - X, by omega, by go_num, rfl, HM2, d1, d2, d3, hdr, unhide Q1, unhide Q2⟩
      case measure => simp [intOf]; omega
    · obtain rfl : j = N := by omega
      have hv3 := hv
      rw [Lap.mid_all, unhide HG] at hv3
      go_wp2
      go_ret2
      exact ⟨_, rfl, hv3, hB⟩

end Go.Proofs.YtjojeifoddonnakGreatDoor.Wid
