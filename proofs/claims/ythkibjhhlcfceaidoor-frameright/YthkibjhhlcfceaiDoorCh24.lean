/-
  slices.EqualFunc at parts and sizes, slices.Equal: by their contracts.
-/
import Derived.Test.YthkibjhhlcfceaiDoorCh05
import Derived.Test.YthkibjhhlcfceaiDoorCh07
import Derived.Test.YthkibjhhlcfceaiDoorCh09
import Derived.Test.YthkibjhhlcfceaiDoorCh12
namespace Go.Proofs.YthkibjhhlcfceaiDoor.Frm
open Go.RowKit
open Go.Proofs.YthkibjhhlcfceaiDoor.Tre Go.Proofs.YthkibjhhlcfceaiDoor.Bnd
set_option linter.unusedVariables false

/-- Whether parts fit sizes; whether lists are alike. -/
def FitB (ps : List Prt) (s : List Int) (t : Bool) : Prop := t = true ↔ ps.length = s.length ∧ Fits ps s
def AliB (l m : List Int) (t : Bool) : Prop := t = true ↔ ∀ i, i < l.length → at0 l i = at0 m i

theorem len1 (G : Int) (A : Option Addr) (L C : Nat) (n : Int) (w : World) (hL : L ≤ 9223372036854775807) :
    Calls Tryd.prog 22 #[.agg #[.int .i64 G, .slice A L C], .int .i64 n] w fun e w' => e = .returned (.bool ((L : Int) == n)) ∧ Below w.heap.size w w' := by
  go_enter Tryd.func22, Tryd.ntmps22
  go_wp2
  go_ret
  exact ⟨rfl, (Below.refl _ _).alloc (Nat.le_refl _) _⟩

set_option maxRecDepth 100000 in
set_option maxHeartbeats 4000000 in
theorem equalFunc (a : Option Addr) (cap : Nat) (ps : List Prt) (b : Option Addr) (capb : Nat) (s : List Int) (w : World) (zp : ps.length ≤ 9223372036854775807) (zs : s.length ≤ 9223372036854775807) (hp : Pts w a ps) (hs : Row w b s) :
    Calls Tryd.prog 21 #[.slice a ps.length cap, .slice b s.length capb, .func (.func 22) #[] #[]] w
      fun e w' => ∃ t : Bool, e = .returned (.bool t) ∧ FitB ps s t ∧ Below w.heap.size w w' := by
  by_cases hlen : ps.length = s.length
  · have HL := hide hlen
    obtain ⟨N, hN⟩ : ∃ N, s.length = N := ⟨_, rfl⟩
    have HN := hide hN
    rw [hlen, hN] at zp
    have HOK : Hid ((∀ r, r < N → ((prt ps r).2.length : Int) = at0 s r) → FitB ps s true) := hide (fun h => ⟨fun _ => ⟨hlen, fun i hi => h i (by rw [hlen, hN] at hi; exact hi)⟩, fun _ => rfl⟩)
    rw [hlen, hN]
    clear hlen hN zs
    go_enter Tryd.func21, Tryd.ntmps21
    go_wp2
    go_loopw [17] (fun i wr => ∃ k : Nat, k ≤ N ∧ i = .int .i64 k ∧ Hid (∀ r, r < k → ((prt ps r).2.length : Int) = at0 s r) ∧ Below w.heap.size w wr) (fun i _ => N - (intOf i).toNat)
    case atStart => exact ⟨0, Nat.zero_le _, rfl, hide (fun r hr => by omega), Below.refl _ _⟩
    case round =>
      obtain ⟨k, hk, rfl, HA, hB⟩ := hrel
      by_cases hlt : k < N
      · have hks : k < s.length := by rw [unhide HN]; exact hlt
        have hkl : k < ps.length := by rw [unhide HL]; exact hks
        obtain ⟨b1, off1, rfl, hb1, hc1⟩ := cell_at (hs.below hB) (by omega)
        have c1 := hc1 k hks
        obtain ⟨b2, off2, rfl, hb2, hc2⟩ := (hp.below hB).at hkl
        obtain ⟨x1, A, C, x2, x3, x4, x5, x6⟩ := hc2 k hkl
        have hL9 : (prt ps k).2.length ≤ 9223372036854775807 := by omega
        obtain ⟨G, hG⟩ : ∃ G, (prt ps k).1 = G := ⟨_, rfl⟩
        rw [hG] at x1
        have HNK : Hid (¬ ((prt ps k).2.length : Int) = at0 s k → FitB ps s false) := hide (fun h => ⟨fun h => by simp at h, fun h' => absurd (h'.2 k hkl) h⟩)
        have HQ : Hid (((prt ps k).2.length : Int) = at0 s k → ∀ r, r < k + 1 → ((prt ps r).2.length : Int) = at0 s r) := hide (fun h r hr => by
          by_cases e : r = k
          · rw [e]; exact h
          · exact unhide HA r (by omega))
        obtain ⟨L, hL⟩ : ∃ L, (prt ps k).2.length = L := ⟨_, rfl⟩
        obtain ⟨X, hX⟩ : ∃ X, at0 s k = X := ⟨_, rfl⟩
        rw [hL] at x2 hL9 HNK HQ
        rw [hX] at c1 HNK HQ
        have HC := hide (fun W => len1 G A L C X W hL9)
        have hB2 := hB.alloc hB.size (.cells #[.int .i64 G, .slice A L C] 29)
        have c1' : (wr.alloc (.cells #[.int .i64 G, .slice A L C] 29)).cell? ⟨b1, off1 + k, none⟩ = some (.int .i64 X) := by
          rw [((Below.refl wr.heap.size wr).alloc (Nat.le_refl _) _).cell (p := ⟨b1, off1 + k, none⟩) hb1]; exact c1
        clear hc1 hc2 x3 x4 x5 x6 hL hX hkl hks hG HA
        by_cases hq : (L : Int) = X
        · have hq' : ((L : Int) == X) = true := by rw [hq]; simp
          have HQ' := hide (unhide HQ hq)
          rw [hq'] at HC
          clear hq HNK HQ hq'
          go_wp2_with (go_at_call 22; refine (unhide HC _).mono ?_; rintro e w' ⟨rfl, hb'⟩)
          go_roundw
          case rel => exact ⟨k + 1, by omega, by go_num, HQ', Below.chain (by assumption) (by assumption)⟩
          case measure => simp [intOf]; omega
        · have hq' : ((L : Int) == X) = false := by rw [beq_eq_false_iff_ne]; exact hq
          have HP := hide (unhide HNK hq)
          rw [hq'] at HC
          clear hq HNK HQ hq'
          go_wp2_with (go_at_call 22; refine (unhide HC _).mono ?_; rintro e w' ⟨rfl, hb'⟩)
          go_ret
          exact ⟨_, rfl, unhide HP, Below.chain (by assumption) (by assumption)⟩
      · obtain rfl : k = N := by omega
        have HP := hide (unhide HOK (unhide HA))
        go_wp2
        go_ret
        exact ⟨_, rfl, unhide HP, hB⟩
  · have hq : ((ps.length : Int) == (s.length : Int)) = false := by rw [beq_eq_false_iff_ne]; omega
    have HQ : Hid (FitB ps s false) := hide ⟨fun h => by simp at h, fun h => absurd h.1 hlen⟩
    clear hlen
    go_enter Tryd.func21, Tryd.ntmps21
    go_wp2
    go_ret
    exact ⟨_, rfl, unhide HQ, Below.refl _ _⟩

theorem equal (a : Option Addr) (cap : Nat) (l : List Int) (b : Option Addr) (capb : Nat) (m : List Int) (w : World) (h8 : l.length ≤ 1000) (hlen : m.length = l.length) (hr : Row w a l) (hs : Row w b m) :
    Calls Tryd.prog 23 #[.slice a l.length cap, .slice b m.length capb] w
      fun e w' => ∃ t : Bool, e = .returned (.bool t) ∧ AliB l m t ∧ Below w.heap.size w w' := by
  rw [hlen]
  obtain ⟨N, hN⟩ : ∃ N, l.length = N := ⟨_, rfl⟩
  have HN := hide hN
  have HM := hide (hlen.trans hN)
  rw [hN] at h8 ⊢
  clear hlen hN
  go_enter Tryd.func23, Tryd.ntmps23
  go_wp2
  go_loopw [13] (fun i wr => ∃ k : Nat, k ≤ N ∧ i = .int .i64 k ∧ Hid (∀ r, r < k → at0 l r = at0 m r) ∧ Below w.heap.size w wr) (fun i _ => N - (intOf i).toNat)
  case atStart => exact ⟨0, Nat.zero_le _, rfl, hide (fun r hr => by omega), Below.refl _ _⟩
  case round =>
    obtain ⟨k, hk, rfl, HA, hB⟩ := hrel
    by_cases hlt : k < N
    · have hkl : k < l.length := by rw [unhide HN]; exact hlt
      have hkm : k < m.length := by rw [unhide HM]; exact hlt
      obtain ⟨b1, off1, rfl, hb1, hc1⟩ := cell_at (hr.below hB) (by omega)
      have c1 := hc1 k hkl
      obtain ⟨b2, off2, rfl, hb2, hc2⟩ := cell_at (hs.below hB) (by omega)
      have c2 := hc2 k hkm
      have HNK : Hid (¬ at0 l k = at0 m k → AliB l m false) := hide (fun h => ⟨fun h => by simp at h, fun h' => absurd (h' k hkl) h⟩)
      have HQ : Hid (at0 l k = at0 m k → ∀ r, r < k + 1 → at0 l r = at0 m r) := hide (fun h r hr => by
        by_cases e : r = k
        · rw [e]; exact h
        · exact unhide HA r (by omega))
      obtain ⟨X, hX⟩ : ∃ X, at0 l k = X := ⟨_, rfl⟩
      obtain ⟨Y, hY⟩ : ∃ Y, at0 m k = Y := ⟨_, rfl⟩
      rw [hX] at c1 HNK HQ
      rw [hY] at c2 HNK HQ
      clear hc1 hc2 hX hY hkl hkm HA
      by_cases hq : X = Y
      · have HQ' := hide (unhide HQ hq)
        have n1 : (X == Y) = true := by rw [hq]; simp
        have n2 : (X != Y) = false := by rw [hq]; simp
        clear hq HNK HQ
        go_wp2
        go_quiet (fail)
        go_wp2
        go_roundw
        case rel => exact ⟨k + 1, by omega, by go_num, HQ', hB.trans ⟨rfl, rfl, rfl, Nat.le_refl _, fun _ _ => rfl⟩⟩
        case measure => simp [intOf]; omega
      · have HP := hide (unhide HNK hq)
        have n1 : (X == Y) = false := by rw [beq_eq_false_iff_ne]; exact hq
        have n2 : (X != Y) = true := by simpa using hq
        clear hq HNK HQ
        go_wp2
        go_quiet (fail)
        go_wp2
        go_ret
        exact ⟨_, rfl, unhide HP, hB.trans ⟨rfl, rfl, rfl, Nat.le_refl _, fun _ _ => rfl⟩⟩
    · obtain rfl : k = N := by omega
      go_wp2
      go_ret
      exact ⟨_, rfl, ⟨fun _ i hi => unhide HA i (by rw [unhide HN] at hi; exact hi), fun _ => rfl⟩, hB⟩

end Go.Proofs.YthkibjhhlcfceaiDoor.Frm

/-
  sound.Check, at so many numbers as may be: by its contract.
-/
namespace Go.Proofs.YthkibjhhlcfceaiDoor.Lap
open Go.RowKit
open Go.Proofs.YthkibjhhlcfceaiDoor.Tre
set_option linter.unusedVariables false

theorem snd_ok (a : Option Addr) (cap : Nat) (l : List Int) (w : World) (hl : l.length ≤ 32) (hi : In 1000 l) (hr : Row w a l) :
    Calls Tryd.prog 11 #[.slice a l.length cap] w fun e w' => e = .returned .nilIface ∧ Below w.heap.size w w' := by
  have hb1 : Below w.heap.size w (w.alloc (.cells #[.int .i64 1000] 3)) := (Below.refl _ _).alloc (Nat.le_refl _) _
  have HA := hide (any_of_in hi)
  go_enter Tryd.func11, Tryd.ntmps11
  go_wp2_with fail
  refine (beyond 1000 w).mono ?_
  rintro e w1 ⟨rfl, rfl⟩
  go_wp2_with fail
  refine (containsFunc 1000 a cap l w.heap.size (w.alloc (.cells #[.int .i64 1000] 3)) (by omega) (by omega) (by omega) (hr.below hb1) (boxed_cell w 1000 3)).mono ?_
  rw [unhide HA]
  rintro e w1 ⟨rfl, rfl⟩
  go_wp2
  go_ret
  exact ⟨rfl, hb1⟩
theorem snd_no (a : Option Addr) (cap : Nat) (l : List Int) (w : World) (hl : l.length ≤ 32) (hi : Hid (l.any (out 1000) = true)) (hr : Row w a l) :
    Calls Tryd.prog 11 #[.slice a l.length cap] w fun e w' => e = .returned (.iface 47 (.int .i64 1)) ∧ Below w.heap.size w w' := by
  have hb1 : Below w.heap.size w (w.alloc (.cells #[.int .i64 1000] 3)) := (Below.refl _ _).alloc (Nat.le_refl _) _
  go_enter Tryd.func11, Tryd.ntmps11
  go_wp2_with fail
  refine (beyond 1000 w).mono ?_
  rintro e w1 ⟨rfl, rfl⟩
  go_wp2_with fail
  refine (containsFunc 1000 a cap l w.heap.size (w.alloc (.cells #[.int .i64 1000] 3)) (by omega) (by omega) (by omega) (hr.below hb1) (boxed_cell w 1000 3)).mono ?_
  rw [unhide hi]
  rintro e w1 ⟨rfl, rfl⟩
  go_wp2
  go_ret
  exact ⟨rfl, hb1⟩

end Go.Proofs.YthkibjhhlcfceaiDoor.Lap

/-
  sound.Loud of a few numbers: by their contracts.
-/
namespace Go.Proofs.YthkibjhhlcfceaiDoor.Pls
open Go.RowKit
open Go.Proofs.YthkibjhhlcfceaiDoor.Tre Go.Proofs.YthkibjhhlcfceaiDoor.Lap
set_option linter.unusedVariables false

theorem loud_ok (a : Option Addr) (cap : Nat) (l : List Int) (w : World) (hl : l.length ≤ 32) (hi : In 1000 l) (hr : Row w a l) :
    Calls Tryd.prog 26 #[.slice a l.length cap] w fun e w' => e = .returned (.tuple #[.int .i64 (loud l : Int), .nilIface]) ∧ Below w.heap.size w w' := by
  go_enter Tryd.func26, Tryd.ntmps26
  go_wp2_with fail
  refine (snd_ok a cap l w hl hi hr).mono ?_
  rintro e w1 ⟨rfl, hb1⟩
  have hr1 := hr.below hb1
  go_wp2_with fail
  refine (dists a cap l w1 hl (hi.mono (by omega)) hr1).mono ?_
  rintro e w2 ⟨rfl, rfl⟩
  go_wp2
  go_ret2
  exact ⟨rfl, hb1⟩

end Go.Proofs.YthkibjhhlcfceaiDoor.Pls
