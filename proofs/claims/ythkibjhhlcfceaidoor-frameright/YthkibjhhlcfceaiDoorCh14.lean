/-
  Package gain: Index: by its contract.
-/
import Derived.Test.YthkibjhhlcfceaiDoorCh03
import Derived.Test.YthkibjhhlcfceaiDoorCh13
import Derived.Test.YthkibjhhlcfceaiDoorCh11
import Derived.Test.YthkibjhhlcfceaiDoorCh12
import Derived.Test.YthkibjhhlcfceaiDoorCh05
namespace Go.Proofs.YthkibjhhlcfceaiDoor.Gai
open Go.RowKit
set_option linter.unusedVariables false

theorem len (n m : Nat) (h0 : Hid (2 ^ m ≤ n)) (h1 : Hid (n < 2 ^ (m + 1))) (h : n ≤ 8000) (w : World) :
    Calls Tryd.prog 55 #[.int .u64 n] w fun e w' => e = .returned (.int .i64 ((m + 1 : Nat) : Int)) ∧ w' = w := by
  go_enter Tryd.func55, Tryd.ntmps55
  go_wp2_with fail
  have c := len64 n h w
  rw [len_is (unhide h0) (unhide h1) h] at c
  refine c.mono ?_
  clear c
  rintro e w1 ⟨rfl, rfl⟩
  go_wp2
  go_ret
  exact ⟨rfl, rfl⟩

theorem index_no (n : Int) (w : World) (h : n < 0 ∨ (0 ≤ n ∧ 8000 < n)) :
    Calls Tryd.prog 38 #[.int .i64 n] w fun e w' => e = .returned (.tuple #[.int .i64 0, .iface 47 (.int .i64 1)]) ∧ w' = w := by
  rcases h with h | ⟨h, g⟩
  all_goals
    go_enter Tryd.func38, Tryd.ntmps38
    go_wp2
    go_ret2
    exact ⟨rfl, rfl⟩

theorem index_ok (n : Nat) (h : n ≤ 8000) (w : World) :
    Calls Tryd.prog 38 #[.int .i64 n] w fun e w' => e = .returned (.tuple #[.int .i64 (gi n), .nilIface]) ∧ w' = w := by
  rcases Nat.eq_zero_or_pos n with e | hn
  · subst e
    go_enter Tryd.func38, Tryd.ntmps38
    go_wp2
    go_ret2
    exact ⟨rfl, rfl⟩
  · obtain ⟨m, h0, h1⟩ := log_is hn
    have hm := log_in h0 h
    have hg := hide (gi_is h0 h1 rfl)
    have H0 := hide h0
    have H1 := hide h1
    have hz : ((n : Int) == 0) = false := by simp; omega
    have hc := hide (len n m H0 H1 h w)
    have ec : (2 : Int) ^ m = ((2 ^ m : Nat) : Int) := by simp
    obtain ⟨P, hP⟩ : ∃ P, 2 ^ m = P := ⟨_, rfl⟩
    have h1' : n < 2 * P := by rw [← hP]; rw [Nat.pow_succ] at h1; omega
    have hp : 0 < P := by rw [← hP]; exact Nat.two_pow_pos m
    rw [hP] at h0 ec hg
    obtain ⟨q, hq⟩ : ∃ q, (n - P) * 4 / P = q := ⟨_, rfl⟩
    have hq3 : q ≤ 3 := by
      rw [← hq]
      have : (n - P) * 4 / P < 4 := (Nat.div_lt_iff_lt_mul hp).2 (by omega)
      omega
    rw [hq] at hg
    have ed : Int.tdiv (((n : Int) - (P : Int)) * 4) (P : Int) = (q : Int) := by
      rw [show ((n : Int) - (P : Int)) * 4 = (((n - P) * 4 : Nat) : Int) by omega, ← Int.ofNat_tdiv, hq]
    have ez : ((P : Int) == 0) = false := by simp; omega
    rw [unhide hg]
    clear h1 hP hg H0 H1 hq
    go_enter Tryd.func38, Tryd.ntmps38
    go_wp2_with fail
    refine (unhide hc).mono ?_
    rintro e w1 ⟨rfl, rfl⟩
    go_wp2
    go_ret2
    refine ⟨?_, rfl⟩
    first | rfl | (simp; done) | (simp; omega)

end Go.Proofs.YthkibjhhlcfceaiDoor.Gai

/-
  frame.gainsOnly: by its contract.
-/
namespace Go.Proofs.YthkibjhhlcfceaiDoor.Frm
open Go.RowKit
open Go.Proofs.YthkibjhhlcfceaiDoor.Tre Go.Proofs.YthkibjhhlcfceaiDoor.Bnd Go.Proofs.YthkibjhhlcfceaiDoor.Pls Go.Proofs.YthkibjhhlcfceaiDoor.Gai
set_option linter.unusedVariables false

/-- What gainsOnly tells. -/
def GnSays (ll : List (List Int)) (w : World) (e : Ending) (w' : World) : Prop :=
  (((∃ i, i < ll.length ∧ 8000 < loud (rowAt ll i)) ∧ e = .returned (.tuple #[.slice none 0 0, .iface 47 (.int .i64 4)])) ∨ ((∀ i, i < ll.length → loud (rowAt ll i) ≤ 8000) ∧ ∃ v, e = .returned (.tuple #[v, .nilIface]) ∧ HasP w' w.heap.size v (q0 (gls ll) ll.length))) ∧ Below w.heap.size w w'

set_option maxRecDepth 100000 in
set_option maxHeartbeats 4000000 in
theorem gainsOnly (a : Option Addr) (cap : Nat) (ll : List (List Int)) (w : World) (hr : Rws w a ll) (h8 : ll.length ≤ 8) (hi : Hid (∀ i, i < ll.length → In 4000 (rowAt ll i) ∧ (rowAt ll i).length ≤ 6)) :
    Calls Tryd.prog 18 #[.slice a ll.length cap] w fun e w' => GnSays ll w e w' := by
  have HNO : Hid (∀ i w', i < ll.length → 8000 < loud (rowAt ll i) → Below w.heap.size w w' → GnSays ll w (.returned (.tuple #[.slice none 0 0, .iface 47 (.int .i64 4)])) w') := hide (fun i w' h1 h2 h3 => ⟨Or.inl ⟨⟨i, h1, h2⟩, rfl⟩, h3⟩)
  have HOK : Hid (∀ v w', (∀ i, i < ll.length → loud (rowAt ll i) ≤ 8000) → HasP w' w.heap.size v (qz (gls ll) ll.length ll.length) → Below w.heap.size w w' → GnSays ll w (.returned (.tuple #[v, .nilIface])) w') := hide (fun v w' h1 h2 h3 => ⟨Or.inr ⟨h1, v, rfl, by rw [← gls_length ll, ← qz_all, gls_length]; exact h2⟩, h3⟩)
  have HZ := hide (qz_zero (gls ll) ll.length)
  obtain ⟨N, hN⟩ : ∃ N, ll.length = N := ⟨_, rfl⟩
  have HN := hide hN
  rw [hN] at h8 hi HNO HOK HZ ⊢
  clear hN
  go_enter Tryd.func18, Tryd.ntmps18
  go_wp2_with (at_make; refine wpList_mkp _ rfl _ rfl N rfl (by omega) ?_; intro w2 k2 hb2 hlt2)
  rw [← unhide HZ] at k2
  clear HZ
  go_loopw [15] (fun i wr => ∃ k : Nat, k ≤ N ∧ i = .int .i64 k ∧ HasP wr w.heap.size (.slice (some ⟨w.heap.size, 0, none⟩) N N) (qz (gls ll) N k) ∧ Hid (∀ r, r < k → loud (rowAt ll r) ≤ 8000) ∧ Below w.heap.size w wr) (fun i _ => N - (intOf i).toNat)
  case atStart => exact ⟨0, Nat.zero_le _, rfl, k2, hide (fun r hr => by omega), hb2⟩
  case round =>
    obtain ⟨k, hk, rfl, hv, HLO, hB⟩ := hrel
    clear k2 hb2 hlt2
    by_cases hlt : k < N
    · have hlt' : k < ll.length := by rw [unhide HN]; exact hlt
      obtain ⟨b1, off1, rfl, _, hc1⟩ := (hr.below hB).at hlt'
      obtain ⟨A, C, c1, c2, c3, c4, c5⟩ := hc1 k hlt'
      obtain ⟨i1, i2⟩ := unhide hi k hlt
      have HNk := hide (unhide HNO k wr hlt)
      have HGk := hide (gls_at (ll := ll) hlt')
      obtain ⟨r, hrr⟩ : ∃ r, rowAt ll k = r := ⟨_, rfl⟩
      have HRR := hide hrr
      rw [hrr] at c1 c3 c5 i1 i2 HNk HGk
      have CLO := dists A C r wr (by omega) i1 c5
      obtain ⟨L, hL⟩ : ∃ L, loud r = L := ⟨_, rfl⟩
      rw [hL] at CLO HNk HGk
      have HL := hide hL
      obtain ⟨R, hR⟩ : ∃ R, r.length = R := ⟨_, rfl⟩
      rw [hR] at c1 c3 CLO i2
      clear hc1 hrr hL hR hlt' c2 c5 i1
      by_cases h8 : 8000 < L
      · have d8 : decide (8000 < (L : Int)) = true := by simp; omega
        have HP := hide (unhide HNk h8 hB)
        clear HNk HGk HLO
        go_wp2_with fail
        refine CLO.mono ?_
        rintro e w5 ⟨rfl, hw5⟩
        obtain rfl : wr = w5 := hw5
        go_wp2
        go_ret2
        exact unhide HP
      · have d8 : decide (8000 < (L : Int)) = false := by simp; omega
        have d8' : decide (8000 < L) = false := by simp; omega
        have CGA := index_ok L (by omega) wr
        have HLO2 : Hid (∀ r, r < k + 1 → loud (rowAt ll r) ≤ 8000) := hide (fun x hx => by
          by_cases e : x = k
          · rw [e, unhide HRR, unhide HL]; omega
          · exact unhide HLO x (by omega))
        obtain ⟨G, hG⟩ : ∃ G, gi L = G := ⟨_, rfl⟩
        rw [hG] at CGA HGk
        obtain ⟨c0, -⟩ := hv.get (qz_length _ _ _).symm (qz_at (gs := gls ll) (k := k) hlt)
        rw [if_neg (Nat.lt_irrefl _)] at c0
        have f0 := hv.frozen (qz_length _ _ _).symm (k * 2)
        obtain ⟨m1, m2⟩ := hv.put0 (qz_length _ _ _).symm (qz_at (gs := gls ll) (k := k) hlt) (G : Int)
        rw [qz_set hlt (unhide HGk)] at m1
        have m3 : Below w.heap.size w (wr.setCell ⟨w.heap.size, k * 2, none⟩ (.int .i64 (G : Int))) := Below.setCell (p := ⟨w.heap.size, k * 2, none⟩) hB (Nat.le_refl _) _
        have M1 := hide m1
        have M3 := hide m3
        clear HNk HLO hG HGk m1 m2 m3 hv hB
        go_wp2_with fail
        refine CLO.mono ?_
        rintro e w5 ⟨rfl, hw5⟩
        obtain rfl : wr = w5 := hw5
        clear CLO
        go_wp2_with fail
        refine CGA.mono ?_
        rintro e w5 ⟨rfl, hw5⟩
        obtain rfl : wr = w5 := hw5.symm
        clear CGA
        go_wp2
        go_roundw
        case rel => exact ⟨k + 1, by omega, by go_num, unhide M1, HLO2, unhide M3⟩
        case measure => simp [intOf]; omega
    · obtain rfl : k = N := by omega
      have HP := hide (unhide HOK _ wr (unhide HLO) hv hB)
      go_wp2
      go_ret2
      exact unhide HP

end Go.Proofs.YthkibjhhlcfceaiDoor.Frm

/-
  The values of gains. No program here.
-/
namespace Go.Proofs.YthkibjhhlcfceaiDoor.Frm
open Go.Proofs.YthkibjhhlcfceaiDoor.Tre Go.Proofs.YthkibjhhlcfceaiDoor.Bnd Go.Proofs.YthkibjhhlcfceaiDoor.Pls Go.Proofs.YthkibjhhlcfceaiDoor.Gai Go.Proofs.YthkibjhhlcfceaiDoor.Shr
set_option linter.unusedVariables false

/-- The value of a gain, 0 where there is none. -/
def vlN (g : Int) : Int := if gok g = true then (vl g.toNat : Int) else 0
theorem gok_in {g : Int} (h : gok g = true) : 0 ≤ g ∧ g ≤ 53 ∧ vo g.toNat = true := by
  unfold gok at h
  simp at h
  exact ⟨h.1.1, h.1.2, h.2⟩
theorem vlN_ok {g : Int} (h : gok g = true) : vlN g = (vl g.toNat : Int) := by unfold vlN; rw [if_pos h]
theorem vlN_in (g : Int) : 0 ≤ vlN g ∧ vlN g ≤ 8000 := by
  unfold vlN
  split
  · rename_i h
    have := (vo_is (gok_in h).2.2).1
    omega
  · omega
theorem vals_take {gs : List Int} {k : Nat} (h : k < gs.length) : (vals gs).take (k + 1) = (vals gs).take k ++ [(vl (at0 gs k).toNat : Int)] := by
  rw [List.take_succ_eq_append_getElem (by rw [vals_length]; exact h)]
  have e := vals_at gs h
  have e2 : at0 (vals gs) k = (vals gs)[k]'(by rw [vals_length]; exact h) := by simp [at0, vals_length, h]
  rw [← e2, e]
theorem vals_lds {gs : List Int} (h : ∀ i, i < gs.length → gok (at0 gs i) = true) : Lds (vals gs) := fun i hi => by
  rw [vals_length] at hi
  rw [vals_at gs hi]
  have := (vo_is (gok_in (h i hi)).2.2).1
  omega

theorem vals_upto (gs : List Int) : vals gs = upto (fun i => (vl (at0 gs i).toNat : Int)) gs.length := by
  refine eq_of_at (by rw [vals_length, upto_length]) fun i hi => ?_
  rw [vals_length] at hi
  rw [vals_at gs hi, upto_at _ hi]

end Go.Proofs.YthkibjhhlcfceaiDoor.Frm
