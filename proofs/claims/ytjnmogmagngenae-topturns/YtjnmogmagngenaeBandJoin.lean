/-
  band.Join, called with any bands and any sizes: its contract.
-/
import Derived.Test.YtjnmogmagngenaeBandCheck
import Derived.Test.YtjnmogmagngenaeBandConcat
import Derived.Test.YtjnmogmagngenaeBandSplit
namespace Go.Proofs.Ytjnmogmagngenae.Bnd
open Go.RowKit
open Go.Proofs.Ytjnmogmagngenae.Tre
set_option linter.unusedVariables false

theorem len1 (A : Option Addr) (L C : Nat) (n : Int) (w : World) (hL : L ≤ 9223372036854775807) :
    Calls Try.prog 35 #[.slice A L C, .int .i64 n] w fun e w' => e = .returned (.bool ((L : Int) == n)) ∧ w' = w := by
  go_enter Try.func35, Try.ntmps35
  go_wp2
  go_ret
  exact ⟨rfl, rfl⟩

set_option maxHeartbeats 2000000 in
theorem equalFunc (a : Option Addr) (cap : Nat) (ll : List (List Int)) (b : Option Addr) (capb : Nat) (s : List Int) (w : World) (hl : ll.length ≤ 9223372036854775807) (hls : s.length ≤ 9223372036854775807) (hr : Rws w a ll) (hs : Row w b s) :
    Calls Try.prog 34 #[.slice a ll.length cap, .slice b s.length capb, .func (.func 35) #[] #[]] w
      fun e w' => ∃ t : Bool, e = .returned (.bool t) ∧ Hid (t = true ↔ Shaped ll s) ∧ w' = w := by
  by_cases hlen : ll.length = s.length
  · have HL := hide hlen
    obtain ⟨N, hN⟩ : ∃ N, s.length = N := ⟨_, rfl⟩
    have HN := hide hN
    rw [hlen, hN] at hl
    rw [hlen, hN]
    clear hlen hN hls
    go_enter Try.func34, Try.ntmps34
    go_wp2
    go_loopw [17] (fun i wr => ∃ k : Nat, k ≤ N ∧ i = .int .i64 k ∧ Hid (∀ r, r < k → ((rowAt ll r).length : Int) = at0 s r) ∧ w = wr) (fun i _ => N - (intOf i).toNat)
    case atStart => exact ⟨0, Nat.zero_le _, rfl, hide (fun r hr => by omega), rfl⟩
    case round =>
      obtain ⟨k, hk, rfl, HA, rfl⟩ := hrel
      by_cases hlt : k < N
      · have hks : k < s.length := by rw [unhide HN]; exact hlt
        have hkl : k < ll.length := by rw [unhide HL]; exact hks
        obtain ⟨b1, off1, rfl, _, hc1⟩ := cell_at hs (by omega)
        have c1 := hc1 k hks
        obtain ⟨b2, off2, rfl, _, hc2⟩ := hr.at hkl
        obtain ⟨A, C, c2, c3, c4, c5, c6⟩ := hc2 k hkl
        have hL9 : (rowAt ll k).length ≤ 9223372036854775807 := by omega
        by_cases hq : ((rowAt ll k).length : Int) = at0 s k
        · have HQ := hide hq
          have hq' : (((rowAt ll k).length : Int) == at0 s k) = true := by rw [hq]; simp
          obtain ⟨L, hL⟩ : ∃ L, (rowAt ll k).length = L := ⟨_, rfl⟩
          obtain ⟨X, hX⟩ : ∃ X, at0 s k = X := ⟨_, rfl⟩
          rw [hL] at c2 hL9 hq'
          rw [hX] at c1 hq'
          have hcall := len1 A L C X w hL9
          rw [hq'] at hcall
          have HC := hide hcall
          clear hq hc1 hc2 c3 c4 c5 c6 hL hX hkl hks hcall hq'
          go_wp2_with (go_at_call 35; refine (unhide HC).mono ?_; rintro e w' ⟨rfl, rfl⟩)
          go_roundw
          case rel => exact ⟨k + 1, by omega, by go_num, hide (fun r hr => by
            by_cases e : r = k
            · rw [e]; exact unhide HQ
            · exact unhide HA r (by omega)), by first | trivial | rfl⟩
          case measure => simp [intOf]; omega
        · have HQ : Hid (¬ Shaped ll s) := hide (fun h => hq (h.2 k hks))
          have hq' : (((rowAt ll k).length : Int) == at0 s k) = false := by rw [beq_eq_false_iff_ne]; exact hq
          obtain ⟨L, hL⟩ : ∃ L, (rowAt ll k).length = L := ⟨_, rfl⟩
          obtain ⟨X, hX⟩ : ∃ X, at0 s k = X := ⟨_, rfl⟩
          rw [hL] at c2 hL9 hq'
          rw [hX] at c1 hq'
          have hcall := len1 A L C X w hL9
          rw [hq'] at hcall
          have HC := hide hcall
          clear hq hc1 hc2 c3 c4 c5 c6 hL hX hkl hks hcall hq'
          go_wp2_with (go_at_call 35; refine (unhide HC).mono ?_; rintro e w' ⟨rfl, rfl⟩)
          go_ret
          exact ⟨_, rfl, hide ⟨fun h => by simp at h, fun h => absurd h (unhide HQ)⟩, rfl⟩
      · obtain rfl : k = N := by omega
        go_wp2
        go_ret
        exact ⟨_, rfl, hide ⟨fun _ => ⟨unhide HL, fun i hi => unhide HA i (by rw [unhide HN] at hi; exact hi)⟩, fun _ => rfl⟩, rfl⟩
  · have hq : ((ll.length : Int) == (s.length : Int)) = false := by rw [beq_eq_false_iff_ne]; omega
    have HQ : Hid (¬ Shaped ll s) := hide (fun h => hlen h.1)
    clear hlen
    go_enter Try.func34, Try.ntmps34
    go_wp2
    go_ret
    exact ⟨_, rfl, hide ⟨fun h => by simp at h, fun h => absurd h (unhide HQ)⟩, rfl⟩

theorem join_no (a : Option Addr) (cap L : Nat) (b : Option Addr) (capb : Nat) (s : List Int) (w : World) (hl : s.length ≤ 9223372036854775807) (hr : Row w b s) (h : Hid (bf s ≠ 0)) :
    Calls Try.prog 17 #[.slice a L cap, .slice b s.length capb] w fun e w' => e = .returned (.tuple #[.slice none 0 0, .iface 45 (.int .i64 (bf s))]) ∧ w' = w := by
  go_enter Try.func17, Try.ntmps17
  go_wp2_with fail
  refine (check_no b capb s w hl hr h).mono ?_
  rintro e w1 ⟨rfl, rfl⟩
  go_wp2
  go_ret2
  exact ⟨rfl, rfl⟩
theorem join_shape (a : Option Addr) (cap : Nat) (ll : List (List Int)) (b : Option Addr) (capb : Nat) (s : List Int) (w : World) (hl : ll.length ≤ 9223372036854775807) (hls : s.length ≤ 9223372036854775807) (hr : Rws w a ll) (hs : Row w b s) (h : Hid (bf s = 0)) (hne : Hid (¬ Shaped ll s)) :
    Calls Try.prog 17 #[.slice a ll.length cap, .slice b s.length capb] w fun e w' => e = .returned (.tuple #[.slice none 0 0, .iface 45 (.int .i64 3)]) ∧ w' = w := by
  have hck := check_ok b capb s w hls hs h
  go_enter Try.func17, Try.ntmps17
  go_wp2_with fail
  refine hck.mono ?_
  clear hck
  rintro e w1 ⟨rfl, rfl⟩
  go_wp2_with fail
  refine (equalFunc a cap ll b capb s w1 hl hls hr hs).mono ?_
  rintro e w2 ⟨t, rfl, ht, rfl⟩
  have ht2 : t = false := by
    cases t with
    | false => rfl
    | true => exact absurd ((unhide ht).1 rfl) (unhide hne)
  subst ht2
  go_wp2
  go_ret2
  exact ⟨rfl, rfl⟩
theorem join_ok (a : Option Addr) (cap : Nat) (ll : List (List Int)) (b : Option Addr) (capb : Nat) (s : List Int) (w : World) (hr : Rws w a ll) (hs : Row w b s) (h : Hid (bf s = 0)) (hsh : Hid (Shaped ll s)) :
    Calls Try.prog 17 #[.slice a ll.length cap, .slice b s.length capb] w fun e w' => ∃ v, e = .returned (.tuple #[v, .nilIface]) ∧ Has w' w.heap.size v ll.flatten ∧ Below w.heap.size w w' := by
  obtain ⟨f1, f2, f3, f4⟩ := bf_ok (unhide h)
  have hl8 : ll.length ≤ 8 := by rw [(unhide hsh).1]; exact f2
  have hck := check_ok b capb s w (by omega) hs h
  have htot := (unhide hsh).total
  have hpos := total_pos f3 f1
  have HP : Hid (0 < ll.flatten.length) := hide (by rw [htot]; exact hpos)
  have H9 : Hid (ll.flatten.length ≤ 1000) := hide (by rw [htot]; omega)
  clear htot hpos f3
  go_enter Try.func17, Try.ntmps17
  go_wp2_with fail
  refine hck.mono ?_
  clear hck
  rintro e w1 ⟨rfl, rfl⟩
  go_wp2_with fail
  refine (equalFunc a cap ll b capb s w1 (by omega) (by omega) hr hs).mono ?_
  rintro e w2 ⟨t, rfl, ht, rfl⟩
  obtain rfl : t = true := (unhide ht).2 (unhide hsh)
  go_wp2_with fail
  refine (concat a cap ll w2 (by omega) hr HP H9).mono ?_
  rintro e w3 ⟨v, rfl, k3, hb3⟩
  go_wp2
  go_ret2
  exact ⟨_, rfl, k3, hb3⟩

end Go.Proofs.Ytjnmogmagngenae.Bnd
