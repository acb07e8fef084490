/-
  gain.Value at any gain: by its contract.
-/
import Derived.Test.YthkibjhhlcfceajGreatDoorBa04
import Derived.Test.YthkibjhhlcfceajGreatDoorBa18
import Derived.Test.YthkibjhhlcfceajGreatDoorBa06
import Derived.Test.YthkibjhhlcfceajGreatDoorBa09
import Derived.Test.YthkibjhhlcfceajGreatDoorBa07
namespace Go.Proofs.YthkibjhhlcfceajGreatDoor.Frm
open Go.RowKit
open Go.Proofs.YthkibjhhlcfceajGreatDoor.Tre Go.Proofs.YthkibjhhlcfceajGreatDoor.Gai Go.Proofs.YthkibjhhlcfceajGreatDoor.Ev
set_option linter.unusedVariables false

theorem valueOk (g : Int) (w : World) (h : Hid (gok g = true)) :
    Calls Tryz.prog 25 #[.int .i64 g] w fun e w' => e = .returned (.tuple #[.int .i64 (vlN g), .nilIface]) ∧ w' = w := by
  obtain ⟨h1, h2, h3⟩ := gok_in (unhide h)
  rw [vlN_ok (unhide h)]
  obtain ⟨m, rfl⟩ : ∃ m : Nat, g = m := ⟨g.toNat, by omega⟩
  rw [Int.toNat_natCast] at h3 ⊢
  exact value_ok m (by omega) (hide h3) w
theorem valueNo (g : Int) (w : World) (h : Hid (gok g = false)) :
    Calls Tryz.prog 25 #[.int .i64 g] w fun e w' => e = .returned (.tuple #[.int .i64 0, .iface 48 (.int .i64 1)]) ∧ w' = w := by
  by_cases h1 : g < 0 ∨ (0 ≤ g ∧ 53 < g)
  · exact value_far g w h1
  · obtain ⟨m, rfl⟩ : ∃ m : Nat, g = m := ⟨g.toNat, by omega⟩
    have h2 : decide (0 ≤ (m : Int)) = true := by simp
    have h3 : decide ((m : Int) ≤ 53) = true := by simp; omega
    have e : gok (m : Int) = vo m := by unfold gok; rw [h2, h3, Int.toNat_natCast]; rfl
    exact value_no m (by omega) (hide (by rw [← e]; exact unhide h)) w

end Go.Proofs.YthkibjhhlcfceajGreatDoor.Frm

/-
  frame.gainsOnly: by its contract.
-/
namespace Go.Proofs.YthkibjhhlcfceajGreatDoor.Frm
open Go.RowKit
open Go.Proofs.YthkibjhhlcfceajGreatDoor.Tre Go.Proofs.YthkibjhhlcfceajGreatDoor.Bnd Go.Proofs.YthkibjhhlcfceajGreatDoor.Pls Go.Proofs.YthkibjhhlcfceajGreatDoor.Gai
set_option linter.unusedVariables false

/-- What gainsOnly tells. -/
def GnSays (ll : List (List Int)) (w : World) (e : Ending) (w' : World) : Prop :=
  (((∃ i, i < ll.length ∧ 8000 < loud (rowAt ll i)) ∧ e = .returned (.tuple #[.slice none 0 0, .iface 48 (.int .i64 4)])) ∨ ((∀ i, i < ll.length → loud (rowAt ll i) ≤ 8000) ∧ ∃ v, e = .returned (.tuple #[v, .nilIface]) ∧ HasP w' w.heap.size v (q0 (gls ll) ll.length))) ∧ Below w.heap.size w w'

set_option maxRecDepth 100000 in
set_option maxHeartbeats 4000000 in
theorem gainsOnly (a : Option Addr) (cap : Nat) (ll : List (List Int)) (w : World) (hr : Rws w a ll) (h8 : ll.length ≤ 8) (hi : Hid (∀ i, i < ll.length → In 4000 (rowAt ll i) ∧ (rowAt ll i).length ≤ 6)) :
    Calls Tryz.prog 30 #[.slice a ll.length cap] w fun e w' => GnSays ll w e w' := by
  have HNO : Hid (∀ i w', i < ll.length → 8000 < loud (rowAt ll i) → Below w.heap.size w w' → GnSays ll w (.returned (.tuple #[.slice none 0 0, .iface 48 (.int .i64 4)])) w') := hide (fun i w' h1 h2 h3 => ⟨Or.inl ⟨⟨i, h1, h2⟩, rfl⟩, h3⟩)
  have HOK : Hid (∀ v w', (∀ i, i < ll.length → loud (rowAt ll i) ≤ 8000) → HasP w' w.heap.size v (qz (gls ll) ll.length ll.length) → Below w.heap.size w w' → GnSays ll w (.returned (.tuple #[v, .nilIface])) w') := hide (fun v w' h1 h2 h3 => ⟨Or.inr ⟨h1, v, rfl, by rw [← gls_length ll, ← qz_all, gls_length]; exact h2⟩, h3⟩)
  have HZ := hide (qz_zero (gls ll) ll.length)
  obtain ⟨N, hN⟩ : ∃ N, ll.length = N := ⟨_, rfl⟩
  have HN := hide hN
  rw [hN] at h8 hi HNO HOK HZ ⊢
  clear hN
  go_enter Tryz.func30, Tryz.ntmps30
  go_wp2_with (at_make; refine wpList_mkp _ rfl _ rfl N rfl (by omega) ?_; intro w2 k2 hb2 hlt2)
  rw [← unhide HZ] at k2
  clear HZ
  go_loopw [15] (fun i wr => ∃ k : Nat, k ≤ N ∧ i = .int .i64 k ∧ HasP wr w.heap.size (.slice (some ⟨w.heap.size, 0, none⟩) N N) (qz (gls ll) N k) ∧ Hid (∀ r, r < k → loud (rowAt ll r) ≤ 8000) ∧ Below w.heap.size w wr) (fun i _ => N - (intOf i).toNat)
  case atStart => exact ⟨0, Nat.zero_le _, rfl, k2, hide (fun r hr => by omega), hb2⟩
  case round =>
    obtain ⟨k, hk, rfl, hv, HLO, hB⟩ := hrel
    clear k2 hb2 hlt2
    by_cases hlt : k < N
    · have hlt' : k < ll.length := by rw [unhide HN]; exact hlt
      obtain ⟨b1, off1, rfl, _, hc1⟩ := (hr.below hB).at hlt'
      obtain ⟨A, C, c1, c2, c3, c4, c5⟩ := hc1 k hlt'
      obtain ⟨i1, i2⟩ := unhide hi k hlt
      have HNk := hide (unhide HNO k wr hlt)
      have HGk := hide (gls_at (ll := ll) hlt')
      obtain ⟨r, hrr⟩ : ∃ r, rowAt ll k = r := ⟨_, rfl⟩
      have HRR := hide hrr
      rw [hrr] at c1 c3 c5 i1 i2 HNk HGk
      have CLO := dists A C r wr (by omega) i1 c5
      obtain ⟨L, hL⟩ : ∃ L, loud r = L := ⟨_, rfl⟩
      rw [hL] at CLO HNk HGk
      have HL := hide hL
      obtain ⟨R, hR⟩ : ∃ R, r.length = R := ⟨_, rfl⟩
      rw [hR] at c1 c3 CLO i2
      clear hc1 hrr hL hR hlt' c2 c5 i1
      by_cases h8 : 8000 < L
      · have d8 : decide (8000 < (L : Int)) = true := by simp; omega
        have HP := hide (unhide HNk h8 hB)
        clear HNk HGk HLO
        go_wp2_with fail
        refine CLO.mono ?_
        rintro e w5 ⟨rfl, hw5⟩
        obtain rfl : wr = w5 := hw5
        go_wp2
        go_ret2
        exact unhide HP
      · have d8 : decide (8000 < (L : Int)) = false := by simp; omega
        have d8' : decide (8000 < L) = false := by simp; omega
        have CGA := index_ok L (by omega) wr
        have HLO2 : Hid (∀ r, r < k + 1 → loud (rowAt ll r) ≤ 8000) := hide (fun x hx => by
          by_cases e : x = k
          · rw [e, unhide HRR, unhide HL]; omega
          · exact unhide HLO x (by omega))
        obtain ⟨G, hG⟩ : ∃ G, gi L = G := ⟨_, rfl⟩
        rw [hG] at CGA HGk
        obtain ⟨c0, -⟩ := hv.get (qz_length _ _ _).symm (qz_at (gs := gls ll) (k := k) hlt)
        rw [if_neg (Nat.lt_irrefl _)] at c0
        have f0 := hv.frozen (qz_length _ _ _).symm (k * 2)
        obtain ⟨m1, m2⟩ := hv.put0 (qz_length _ _ _).symm (qz_at (gs := gls ll) (k := k) hlt) (G : Int)
        rw [qz_set hlt (unhide HGk)] at m1
        have m3 : Below w.heap.size w (wr.setCell ⟨w.heap.size, k * 2, none⟩ (.int .i64 (G : Int))) := Below.setCell (p := ⟨w.heap.size, k * 2, none⟩) hB (Nat.le_refl _) _
        have M1 := hide m1
        have M3 := hide m3
        clear HNk HLO hG HGk m1 m2 m3 hv hB
        go_wp2_with fail
        refine CLO.mono ?_
        rintro e w5 ⟨rfl, hw5⟩
        obtain rfl : wr = w5 := hw5
        clear CLO
        go_wp2_with fail
        refine CGA.mono ?_
        rintro e w5 ⟨rfl, hw5⟩
        obtain rfl : wr = w5 := hw5.symm
        clear CGA
        go_wp2
        go_roundw
        case rel => exact ⟨k + 1, by omega, by go_num, unhide M1, HLO2, unhide M3⟩
        case measure => simp [intOf]; omega
    · obtain rfl : k = N := by omega
      have HP := hide (unhide HOK _ wr (unhide HLO) hv hB)
      go_wp2
      go_ret2
      exact unhide HP

end Go.Proofs.YthkibjhhlcfceajGreatDoor.Frm
