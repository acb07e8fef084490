/-
  hornref1.Value at any gain, hornref2.Given: by their contracts.
-/
import Derived.Test.YtjnmogmagngenaiGreatDoorCh05
import Derived.Test.YtjnmogmagngenaiGreatDoorCh14
import Derived.Test.YtjnmogmagngenaiGreatDoorCh27
import Derived.Test.YtjnmogmagngenaiGreatDoorCh28
import Derived.Test.YtjnmogmagngenaiGreatDoorCh09
import Derived.Test.YtjnmogmagngenaiGreatDoorCh03
import Derived.Test.YtjnmogmagngenaiGreatDoorCh17
namespace Go.Proofs.YtjnmogmagngenaiGreatDoor.Frm
open Go.RowKit
open Go.Proofs.YtjnmogmagngenaiGreatDoor.Tre Go.Proofs.YtjnmogmagngenaiGreatDoor.Bnd Go.Proofs.YtjnmogmagngenaiGreatDoor.Pls Go.Proofs.YtjnmogmagngenaiGreatDoor.Gai Go.Proofs.YtjnmogmagngenaiGreatDoor.Shr
set_option linter.unusedVariables false

theorem refValue (g : Int) (w : World) :
    Calls Tryz.prog 26 #[.int .i64 g] w fun e w' => e = .returned (.tuple #[.int .i64 (vlN g), .bool (gok g)]) ∧ w = w' := by
  by_cases h : g < 0 ∨ (0 ≤ g ∧ 53 < g)
  · have e : gok g = false := by
      unfold gok
      rcases h with h | ⟨_, h⟩
      · have : decide (0 ≤ g) = false := by simp; omega
        rw [this]; rfl
      · have : decide (g ≤ 53) = false := by simp; omega
        rw [this]; simp
    unfold vlN
    rw [e]
    exact refValue_far g w h
  · obtain ⟨m, rfl⟩ : ∃ m : Nat, g = m := ⟨g.toNat, by omega⟩
    have h1 : decide (0 ≤ (m : Int)) = true := by simp
    have h2 : decide ((m : Int) ≤ 53) = true := by simp; omega
    have e : gok (m : Int) = vo m := by unfold gok; rw [h1, h2, Int.toNat_natCast]; rfl
    unfold vlN
    rw [e, Int.toNat_natCast]
    rcases Nat.eq_zero_or_pos m with h0 | h0
    · subst h0
      have e0 : vo 0 = true := by decide
      have e1 : vl 0 = 0 := rfl
      rw [e0, if_pos rfl, e1]
      exact refValue_zero w
    · refine (refValue_some m h0 (by omega) w).mono ?_
      rintro e w' ⟨ha, hw⟩
      rcases ha with ⟨h3, rfl⟩ | ⟨h3, rfl⟩
      · rw [unhide h3, if_pos rfl]; exact ⟨rfl, hw⟩
      · rw [unhide h3, if_neg (by simp)]; exact ⟨rfl, hw⟩
set_option maxRecDepth 100000 in
set_option maxHeartbeats 4000000 in
theorem refGiven (a : Option Addr) (cap : Nat) (ps : List Prt) (b : Option Addr) (capb : Nat) (s : List Int) (B : Int) (w : World) (hp : Pts w a ps) (hr : Row w b s) (h0 : 1 ≤ s.length) (h8 : s.length ≤ 8) (hl : ps.length = s.length) (hs : Hid (Sizes s)) (hg : Hid (∀ i, i < ps.length → gok (prt ps i).1 = true)) (hB0 : 0 ≤ B) (hB4 : B ≤ 400) :
    Calls Tryz.prog 19 #[.slice a ps.length cap, .slice b s.length capb, .int .i64 B] w fun e w' => ∃ v, e = .returned v ∧ Has w' w.heap.size v (given (gns ps) s B) ∧ Below w.heap.size w w' := by
  have HLD : Hid (Lds (vals (gns ps))) := hide (vals_lds (fun i hi => by rw [gns_length] at hi; rw [gns_at hi]; exact unhide hg i hi))
  have HVL : Hid ((vals (gns ps)).length = s.length) := hide (by rw [vals_length, gns_length, hl])
  have HGV : Hid (share s (vals (gns ps)) B = given (gns ps) s B) := hide rfl
  have HTK : Hid (∀ k, k < ps.length → (vals (gns ps)).take (k + 1) = (vals (gns ps)).take k ++ [vlN (prt ps k).1]) := hide (fun k hk => by
    rw [vals_take (by rw [gns_length]; exact hk), gns_at hk, vlN_ok (unhide hg k hk)])
  have HV0 : Hid ((vals (gns ps)).take 0 = []) := hide rfl
  have HVA : Hid ((vals (gns ps)).take s.length = vals (gns ps)) := hide (by rw [← unhide HVL, List.take_length])
  obtain ⟨ds, hds⟩ : ∃ ds, vals (gns ps) = ds := ⟨_, rfl⟩
  rw [hds] at HLD HVL HGV HTK HV0 HVA
  obtain ⟨gv, hgv⟩ : ∃ gv, given (gns ps) s B = gv := ⟨_, rfl⟩
  rw [hgv] at HGV ⊢
  have CSH := hide (fun W q c h1 h2 => refShare b capb s q c ds B W h1 h2 h0 h8 (unhide HVL) hs HLD hB0 hB4)
  rw [unhide HGV] at CSH
  obtain ⟨N, hN⟩ : ∃ N, s.length = N := ⟨_, rfl⟩
  have HPN : Hid (ps.length = N) := hide (hl.trans hN)
  rw [hN] at CSH HVL HVA h8
  rw [hl, hN]
  clear hds hgv hN hl HGV HLD h0
  go_enter Tryz.func19, Tryz.ntmps19
  go_wp2
  go_loopw [7, 8] (fun v i wr => ∃ k : Nat, k ≤ N ∧ i = .int .i64 k ∧ Has wr w.heap.size v (ds.take k) ∧ Below w.heap.size w wr) (fun _ i _ => N - (intOf i).toNat)
  case atStart => exact ⟨0, Nat.zero_le _, rfl, by rw [unhide HV0]; exact Has.nil _ _, Below.refl _ _⟩
  case round =>
    obtain ⟨k, hk, rfl, hv, hB⟩ := hrel
    clear HV0
    by_cases hlt : k < N
    · have hlt' : k < ps.length := by rw [unhide HPN]; exact hlt
      obtain ⟨b1, off1, rfl, _, hc1⟩ := (hp.below hB).at hlt'
      have c1 := (hc1 k hlt').1
      have HT := hide (unhide HTK k hlt')
      have hq := hide (fun W => refValue (prt ps k).1 W)
      obtain ⟨G, hG⟩ : ∃ G, (prt ps k).1 = G := ⟨_, rfl⟩
      rw [hG] at c1 HT hq
      obtain ⟨v0, v9⟩ := vlN_in G
      obtain ⟨V, hV⟩ : ∃ V, vlN G = V := ⟨_, rfl⟩
      rw [hV] at HT hq v0 v9
      have hln : Hid ((ds.take k).length + 1 ≤ 1000000) := hide (by rw [List.length_take]; omega)
      have hWs := hB.size
      clear hc1 hG hV hlt'
      go_wp2_with fail
      refine (unhide hq _).mono ?_
      rintro e w2 ⟨rfl, hw2⟩
      obtain rfl : wr = w2 := hw2
      clear hq
      go_wp2_with (at_builtin; refine wpList_app _ rfl _ _ rfl w.heap.size u7 (ds.take k) [V] _ _ rfl (hv.alloc _) rfl (row_one _ _ _) (unhide hln) (by simp; omega) ?_; intro s' w6 k6 g6 at6)
      obtain ⟨d1, d2⟩ := stepped_plain hv hWs k6 g6 at6
      have hB6 := hB.trans d1
      rw [← unhide HT] at k6
      clear hv hB d1 d2 g6 at6
      go_wp2
      go_roundw
      case rel => exact ⟨k + 1, by omega, by go_num, k6, hB6⟩
      case measure => simp [intOf]; omega
    · obtain rfl : k = N := by omega
      rw [unhide HVA] at hv
      obtain ⟨p, q, rfl, hrow⟩ := hv.row
      rw [unhide HVL]
      have c := unhide CSH wr p q (hr.below hB) hrow
      clear CSH hv
      go_wp2_with fail
      refine c.mono ?_
      clear c
      rintro e w2 ⟨v2, rfl, k2, hb2⟩
      obtain ⟨p9, n9, q9, rfl⟩ := k2.shape
      go_wp2
      go_ret
      exact ⟨_, rfl, k2.mono hB.size, Below.chain hB hb2⟩

end Go.Proofs.YtjnmogmagngenaiGreatDoor.Frm

/-
  hornref1.All, at any bound: by its contract.
-/
namespace Go.Proofs.YtjnmogmagngenaiGreatDoor.Tre
open Go.RowKit
set_option linter.unusedVariables false

theorem out_lo {c n : Int} (h : n < -c) : out c n = true := by simp [out, h]
theorem out_hi {c n : Int} (h : c < n) : out c n = true := by simp [out, h]
theorem out_mid {c n : Int} (h : ¬ n < -c) (k : ¬ c < n) : out c n = false := by simp [out, h, k]

set_option maxHeartbeats 400000 in
theorem refAll (c : Int) (a : Option Addr) (cap : Nat) (l : List Int) (w : World) (hc0 : 0 ≤ c) (hc9 : c ≤ 8000) (hl : l.length ≤ 9223372036854775807) (hr : Row w a l) :
    Calls Tryz.prog 14 #[.slice a l.length cap, .int .i64 c] w fun e w' => e = .returned (.bool (!l.any (out c))) ∧ w' = w := by
  go_enter Tryz.func14, Tryz.ntmps14
  go_wp2
  go_loop [5] (fun i => ∃ k : Nat, k ≤ l.length ∧ i = .int .i64 k ∧ Hid ((l.take k).any (out c) = false)) (fun i => l.length - (intOf i).toNat)
  case atStart => exact ⟨0, Nat.zero_le _, rfl, hide rfl⟩
  case round =>
    obtain ⟨k, hk, rfl, HN⟩ := hrel
    by_cases hlt : k < l.length
    · obtain ⟨b, off, rfl, hb, hcs⟩ := hr.at hlt
      have hck := hcs k hlt
      clear hcs
      by_cases h1 : l[k] < -c
      · have h1' : decide (l[k] < -c) = true := by simpa using h1
        have HB := hide (any_of c l k hlt (out_lo h1))
        go_wp2
        go_ret
        exact ⟨by rw [unhide HB]; rfl, rfl⟩
      · have h1' : decide (l[k] < -c) = false := by simpa using h1
        by_cases h2 : c < l[k]
        · have h2' : decide (c < l[k]) = true := by simpa using h2
          have HB := hide (any_of c l k hlt (out_hi h2))
          go_wp2
          go_ret
          exact ⟨by rw [unhide HB]; rfl, rfl⟩
        · have h2' : decide (c < l[k]) = false := by simpa using h2
          have HB := hide (out_mid h1 h2)
          go_wp2
          go_round
          case rel => exact ⟨k + 1, by omega, by go_num, hide (any_step c l k hlt (unhide HN) (unhide HB))⟩
          case measure => simp [intOf]; omega
    · go_wp2
      go_ret
      have hh := unhide HN
      rw [List.take_of_length_le (by omega)] at hh
      exact ⟨by rw [hh]; rfl, rfl⟩

end Go.Proofs.YtjnmogmagngenaiGreatDoor.Tre

/-
  hornref1's Far, Loud, Pulses: by their contracts.
-/
namespace Go.Proofs.YtjnmogmagngenaiGreatDoor.Pls
open Go.RowKit
open Go.Proofs.YtjnmogmagngenaiGreatDoor.Tre Go.Proofs.YtjnmogmagngenaiGreatDoor.Mid
set_option linter.unusedVariables false

theorem refFar (n : Int) (w : World) (h0 : -1000000 ≤ n) (h1 : n ≤ 1000000) :
    Calls Tryz.prog 34 #[.int .i64 n] w fun e w' => e = .returned (.int .i64 (n.natAbs : Int)) ∧ w = w' := by
  by_cases h : n < 0
  · go_enter Tryz.func34, Tryz.ntmps34
    go_wp2
    go_ret
    exact ⟨ret_int (by omega), rfl⟩
  · go_enter Tryz.func34, Tryz.ntmps34
    go_wp2
    go_ret
    exact ⟨ret_int (by omega), rfl⟩

set_option maxHeartbeats 400000 in
theorem refLoudB (a : Option Addr) (cap : Nat) (l : List Int) (w : World) (hl : l.length ≤ 32) (hi : In 4000 l) (hr : Row w a l) :
    Calls Tryz.prog 17 #[.slice a l.length cap] w fun e w' => e = .returned (.int .i64 (loud l : Int)) ∧ w = w' := by
  go_enter Tryz.func17, Tryz.ntmps17
  go_wp2
  go_loop [3, 4] (fun t i => ∃ k t' : Nat, k ≤ l.length ∧ i = .int .i64 k ∧ t = .int .i64 t' ∧ Hid (t' = loud (l.take k)) ∧ t' ≤ 128000) (fun _ i => l.length - (intOf i).toNat)
  case atStart => exact ⟨0, 0, Nat.zero_le _, rfl, rfl, rfl, by omega⟩
  case round =>
    obtain ⟨k, t, hk, rfl, rfl, HT, ht⟩ := hrel
    by_cases hlt : k < l.length
    · obtain ⟨b, off, rfl, hb, hcs⟩ := hr.at hlt
      have hck := hcs k hlt
      clear hcs
      obtain ⟨e1, e2⟩ := hi _ (List.getElem_mem hlt)
      have HS : Hid (t + l[k].natAbs = loud (l.take (k + 1))) := hide (by rw [loud_step hlt, unhide HT])
      have HB : Hid (t + l[k].natAbs ≤ 128000) := hide (by
        have h1 := loud_in (b := 4000) (hi.take (k + 1))
        rw [← unhide HS] at h1
        have h2 := List.length_take_le (k + 1) l
        omega)
      have hn : l[k].natAbs ≤ 4000 := by omega
      go_wp2_with fail
      refine (refFar l[k] w (by omega) (by omega)).mono ?_
      obtain ⟨d, hd⟩ : ∃ d, l[k].natAbs = d := ⟨_, rfl⟩
      rw [hd] at HS HB hn ⊢
      clear hd
      rintro e w' ⟨rfl, rfl⟩
      go_wp2
      go_round
      case rel => exact ⟨k + 1, t + d, by omega, by go_num, by go_num, HS, unhide HB⟩
      case measure => simp [intOf]; omega
    · go_wp2
      go_ret
      exact ⟨ret_int (by rw [unhide HT, List.take_of_length_le (by omega)]), rfl⟩
theorem refLoud (a : Option Addr) (cap : Nat) (l : List Int) (w : World) (hl : l.length ≤ 32) (hi : In 1000 l) (hr : Row w a l) :
    Calls Tryz.prog 17 #[.slice a l.length cap] w fun e w' => e = .returned (.int .i64 (loud l : Int)) ∧ w = w' := refLoudB a cap l w hl (hi.mono (by omega)) hr

theorem refPulses_ok (a : Option Addr) (cap : Nat) (l : List Int) (w : World) (hr : Row w a l) (h : Hid (fault l = 0)) :
    Calls Tryz.prog 27 #[.slice a l.length cap] w fun e w' => e = .returned (.tuple #[.int .i64 (loud l : Int), .int .i64 0]) ∧ w = w' := by
  obtain ⟨h1, h2, h3⟩ := fault_ok (unhide h)
  have HA := hide (any_of_in h2)
  have hL := hide (refLoud a cap l w (by omega) (h2.mono (by omega)) hr)
  obtain ⟨k, hk⟩ : ∃ k, loud l = k := ⟨_, rfl⟩
  rw [hk] at hL h3 ⊢
  clear hk
  go_enter Tryz.func27, Tryz.ntmps27
  go_wp2_with fail
  refine (refAll 8 a cap l w (by omega) (by omega) (by omega) hr).mono ?_
  rw [unhide HA]
  rintro e w1 ⟨rfl, rfl⟩
  go_wp2_with fail
  refine (unhide hL).mono ?_
  rintro e w2 ⟨rfl, rfl⟩
  go_wp2
  go_ret2
  exact ⟨rfl, rfl⟩

theorem refPulses_no (a : Option Addr) (cap : Nat) (l : List Int) (w : World) (hl : l.length ≤ 9223372036854775807) (hr : Row w a l) (h : Hid (fault l ≠ 0)) :
    Calls Tryz.prog 27 #[.slice a l.length cap] w fun e w' => e = .returned (.tuple #[.int .i64 0, .int .i64 (fault l)]) ∧ w = w' := by
  by_cases h1 : 6 < l.length
  · have hv : fault l = 4 := by unfold fault; rw [if_pos h1]
    rw [hv]
    clear hv h
    go_enter Tryz.func27, Tryz.ntmps27
    go_wp2
    go_ret2
    exact ⟨rfl, rfl⟩
  · cases hany : l.any (out 8)
    · have h2 : In 8 l := in_of_any hany
      have hk : 8 < loud l := by
        rcases Nat.lt_or_ge 8 (loud l) with h' | h'
        · exact h'
        · exact absurd (fault_none (by omega) h2 h') (unhide h)
      have hv : fault l = 4 := by unfold fault; rw [if_neg h1, hany, if_neg (by simp), if_pos hk]
      rw [hv]
      have HA := hide hany
      have hle := loud_in (b := 8) h2
      have hL := hide (refLoud a cap l w (by omega) (h2.mono (by omega)) hr)
      have hl6 : loud l ≤ 48 := by omega
      obtain ⟨k, hk'⟩ : ∃ k, loud l = k := ⟨_, rfl⟩
      rw [hk'] at hL hk hl6
      clear hv h hany hk' hle h2
      go_enter Tryz.func27, Tryz.ntmps27
      go_wp2_with fail
      refine (refAll 8 a cap l w (by omega) (by omega) (by omega) hr).mono ?_
      rw [unhide HA]
      rintro e w1 ⟨rfl, rfl⟩
      go_wp2_with fail
      refine (unhide hL).mono ?_
      rintro e w2 ⟨rfl, rfl⟩
      go_wp2
      go_ret2
      exact ⟨rfl, rfl⟩
    · have hv : fault l = 1 := by unfold fault; rw [if_neg h1, hany, if_pos rfl]
      rw [hv]
      have HA := hide hany
      clear hv h hany
      go_enter Tryz.func27, Tryz.ntmps27
      go_wp2_with fail
      refine (refAll 8 a cap l w (by omega) (by omega) (by omega) hr).mono ?_
      rw [unhide HA]
      rintro e w1 ⟨rfl, rfl⟩
      go_wp2
      go_ret2
      exact ⟨rfl, rfl⟩

end Go.Proofs.YtjnmogmagngenaiGreatDoor.Pls
