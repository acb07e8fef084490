/-
  scale.right, Starts, Find: by their contracts.
-/
import Derived.Test.YtgffpljnhadigafDoorScaleOut
import Derived.Test.YtgffpljnhadigafDoorMake
import Derived.Test.YtgffpljnhadigafDoorMid
namespace Go.Proofs.YtgffpljnhadigafDoor.Scl
open Go.RowKit
open Go.Proofs.YtgffpljnhadigafDoor.Tre Go.Proofs.YtgffpljnhadigafDoor.Lap Go.Proofs.YtgffpljnhadigafDoor.Mid
set_option linter.unusedVariables false

set_option maxHeartbeats 2000000 in
theorem right_yes (a : Option Addr) (cap : Nat) (f : List Int) (w : World) (hr : Row w a f) (h : Hid (right f)) :
    Calls Tryd.prog 28 #[.slice a f.length cap] w fun e w' => e = .returned (.bool true) ∧ Below w.heap.size w w' := by
  obtain ⟨h1, h40, h0, ht⟩ := unhide h
  have hb := below_box w 256 3
  have hr1 := hr.below hb
  have hany : f.any (outs 256) = false := by
    cases e : f.any (outs 256)
    · rfl
    · obtain ⟨i, hi, h2⟩ := outs_yes e
      have := h0 i hi
      have := at_le_tot h0 hi
      omega
  have hcf := hide (containsFunc 256 a cap f w.heap.size _ (by omega) hr1 (boxed_cell w 256 3))
  have hsum := hide (sum a cap f.length f _ (hide rfl) (by omega) hr1 (hide (small_of (fun i hi => ⟨h0 i hi, by have := at_le_tot h0 hi; omega⟩) h40)))
  rw [hany] at hcf
  rw [ht] at hsum
  obtain ⟨N, hN⟩ : ∃ N, f.length = N := ⟨_, rfl⟩
  rw [hN] at hcf hsum h1 h40 ⊢
  have hd1 : decide (0 < (N : Int)) = true := by simp; omega
  have hd2 : decide ((N : Int) ≤ 40) = true := by simp; omega
  clear hany h0 ht hN h
  go_enter Tryd.func28, Tryd.ntmps28
  go_wp2_with fail
  refine (outside 256 w).mono ?_
  rintro e w1 ⟨rfl, rfl⟩
  go_wp2_with fail
  refine (unhide hcf).mono ?_
  rintro e w1 ⟨rfl, rfl⟩
  go_wp2_with fail
  refine (unhide hsum).mono ?_
  rintro e w1 ⟨rfl, rfl⟩
  go_wp2
  go_ret
  exact ⟨rfl, hb⟩

set_option maxHeartbeats 2000000 in
theorem right_no (a : Option Addr) (cap : Nat) (f : List Int) (w : World) (hl : f.length ≤ 9223372036854775807) (hr : Row w a f) (h : Hid (¬ right f)) :
    Calls Tryd.prog 28 #[.slice a f.length cap] w fun e w' => e = .returned (.bool false) ∧ Below w.heap.size w w' := by
  by_cases h1 : f.length = 0
  · have hd1 : decide (0 < ((0 : Nat) : Int)) = false := rfl
    rw [h1]
    clear h
    go_enter Tryd.func28, Tryd.ntmps28
    go_wp2
    go_ret
    exact ⟨rfl, Below.refl _ _⟩
  · by_cases h40 : 40 < f.length
    · obtain ⟨N, hN⟩ : ∃ N, f.length = N := ⟨_, rfl⟩
      rw [hN] at h1 h40 hl ⊢
      have hd1 : decide (0 < (N : Int)) = true := by simp; omega
      have hd2 : decide ((N : Int) ≤ 40) = false := by simp; omega
      clear hN h
      go_enter Tryd.func28, Tryd.ntmps28
      go_wp2
      go_ret
      exact ⟨rfl, Below.refl _ _⟩
    · have hb := below_box w 256 3
      have hr1 := hr.below hb
      have hcf := hide (containsFunc 256 a cap f w.heap.size _ hl hr1 (boxed_cell w 256 3))
      cases hany : f.any (outs 256)
      · have hin := outs_no hany
        have hsum := hide (sum a cap f.length f _ (hide rfl) hl hr1 (hide (small_of (fun i hi => ⟨(hin i hi).1, by have := (hin i hi).2; omega⟩) (by omega))))
        have ht : tot f ≠ 256 := fun e => (unhide h) ⟨by omega, by omega, fun i hi => (hin i hi).1, e⟩
        have hq : (tot f == 256) = false := by rw [beq_eq_false_iff_ne]; exact ht
        rw [hany] at hcf
        obtain ⟨T, hT⟩ : ∃ T, tot f = T := ⟨_, rfl⟩
        rw [hT] at hq hsum
        obtain ⟨N, hN⟩ : ∃ N, f.length = N := ⟨_, rfl⟩
        rw [hN] at hcf hsum h1 h40 hl ⊢
        have hd1 : decide (0 < (N : Int)) = true := by simp; omega
        have hd2 : decide ((N : Int) ≤ 40) = true := by simp; omega
        clear hany hin ht hT hN h
        go_enter Tryd.func28, Tryd.ntmps28
        go_wp2_with fail
        refine (outside 256 w).mono ?_
        rintro e w1 ⟨rfl, rfl⟩
        go_wp2_with fail
        refine (unhide hcf).mono ?_
        rintro e w1 ⟨rfl, rfl⟩
        go_wp2_with fail
        refine (unhide hsum).mono ?_
        rintro e w1 ⟨rfl, rfl⟩
        go_wp2
        go_ret
        exact ⟨by first | rfl | rw [hq], hb⟩
      · rw [hany] at hcf
        obtain ⟨N, hN⟩ : ∃ N, f.length = N := ⟨_, rfl⟩
        rw [hN] at hcf h1 h40 hl ⊢
        have hd1 : decide (0 < (N : Int)) = true := by simp; omega
        have hd2 : decide ((N : Int) ≤ 40) = true := by simp; omega
        clear hany hN h
        go_enter Tryd.func28, Tryd.ntmps28
        go_wp2_with fail
        refine (outside 256 w).mono ?_
        rintro e w1 ⟨rfl, rfl⟩
        go_wp2_with fail
        refine (unhide hcf).mono ?_
        rintro e w1 ⟨rfl, rfl⟩
        go_wp2
        go_ret
        exact ⟨rfl, hb⟩

theorem starts_no (a : Option Addr) (cap : Nat) (f : List Int) (w : World) (hl : f.length ≤ 9223372036854775807) (hr : Row w a f) (h : Hid (¬ right f)) :
    Calls Tryd.prog 15 #[.slice a f.length cap] w fun e w' => e = .returned (.tuple #[.slice none 0 0, .iface 48 (.int .i64 3)]) ∧ Below w.heap.size w w' := by
  go_enter Tryd.func15, Tryd.ntmps15
  go_wp2_with fail
  refine (right_no a cap f w hl hr h).mono ?_
  rintro e w1 ⟨rfl, hb1⟩
  go_wp2
  go_ret2
  exact ⟨rfl, hb1⟩

theorem right_pfx {f : List Int} (h : right f) : ∀ j, j ≤ f.length → 0 ≤ pfx f j ∧ pfx f j ≤ 256 := fun j hj =>
  ⟨pfx_nonneg h.2.2.1 hj, by have h1 := pfx_mono h.2.2.1 hj (Nat.le_refl _); have h2 := h.2.2.2; unfold tot at h2; omega⟩

set_option maxHeartbeats 2000000 in
theorem starts_ok (a : Option Addr) (cap : Nat) (f : List Int) (w : World) (hr : Row w a f) (h : Hid (right f)) :
    Calls Tryd.prog 15 #[.slice a f.length cap] w fun e w' => ∃ v, e = .returned (.tuple #[v, .nilIface]) ∧ Has w' w.heap.size v (upto (pfx f) f.length) ∧ Below w.heap.size w w' := by
  obtain ⟨h1, h40, h0, ht⟩ := unhide h
  have HP := hide (right_pfx (unhide h))
  have hck := right_yes a cap f w hr h
  obtain ⟨N, hN⟩ : ∃ N, f.length = N := ⟨_, rfl⟩
  have HN := hide hN
  rw [hN] at hck h1 h40 ⊢
  clear hN h0 ht h
  go_enter Tryd.func15, Tryd.ntmps15
  go_wp2_with fail
  refine hck.mono ?_
  clear hck
  rintro e w1 ⟨rfl, hb1⟩
  go_wp2_with (at_make; refine wpList_mk _ rfl _ rfl N rfl (by omega) ?_; intro w2 hv2 hb2)
  obtain ⟨g, hg⟩ : ∃ g, w1.heap.size = g := ⟨_, rfl⟩
  have hg0 : w.heap.size ≤ g := by rw [← hg]; exact hb1.size
  have hB := Below.chain hb1 hb2
  rw [hg] at hv2 ⊢
  have hm0 : Has w2 w.heap.size (.slice (some ⟨g, 0, none⟩) N N) (mid (pfx f) (fun _ => 0) N 0) := by rw [mid_zero]; exact hv2.mono hg0
  clear hb1 hb2 hv2 hg
  go_wp2
  go_loopw [5, 17] (fun t i wr => ∃ (j : Nat) (T : Int), j ≤ N ∧ i = .int .i64 j ∧ t = .int .i64 T ∧ Hid (pfx f j = T) ∧ Has wr w.heap.size (.slice (some ⟨g, 0, none⟩) N N) (mid (pfx f) (fun _ => 0) N j) ∧ Below w.heap.size w wr) (fun _ i _ => N - (intOf i).toNat)
  case atStart => exact ⟨0, 0, Nat.zero_le _, rfl, rfl, hide rfl, hm0, hB⟩
  case round =>
    obtain ⟨j, T, hj, rfl, rfl, HT, hm, hB⟩ := hrel
    clear hm0
    by_cases hlt : j < N
    · have hlt' : j < f.length := by rw [unhide HN]; exact hlt
      obtain ⟨b, off, rfl, hb, hc⟩ := cell_at (hr.below hB) (by omega)
      have c1 := hc j hlt'
      have h2 := unhide HP (j + 1) hlt'
      have HS : Hid (pfx f (j + 1) = T + at0 f j) := hide (by rw [pfx, unhide HT])
      rw [unhide HS] at h2
      have f2' := hm.frozen j
      have c2 := hm.get (j := j) (by rw [mid_length]; exact hlt)
      rw [mid_at _ _ hlt] at c2
      obtain ⟨m1, m2, m3⟩ := put_mid hm hlt (unhide HT) 0
      have M1 := hide m1
      have M3 := hide (m3 _ hB hg0)
      obtain ⟨X, hX⟩ : ∃ X, at0 f j = X := ⟨_, rfl⟩
      rw [hX] at c1 h2 HS
      have hw : IntKind.i64.wrap (T + X) = T + X := IntWalk.i64_in _ (by omega)
      clear hX hc hlt' m1 m2 m3 hm h2
      go_wp2
      go_roundw
      case rel => exact ⟨j + 1, T + X, by omega, by go_num, by first | rfl | go_num, HS, unhide M1, unhide M3⟩
      case measure => simp [intOf]; omega
    · obtain rfl : j = N := by omega
      rw [mid_all] at hm
      go_wp2
      go_ret2
      exact ⟨_, rfl, hm, hB⟩

theorem find_no (a : Option Addr) (cap : Nat) (f : List Int) (p : Int) (w : World) (hl : f.length ≤ 9223372036854775807) (hr : Row w a f) (h : Hid (¬ right f)) :
    Calls Tryd.prog 17 #[.slice a f.length cap, .int .i64 p] w fun e w' => e = .returned (.tuple #[.int .i64 0, .iface 48 (.int .i64 3)]) ∧ Below w.heap.size w w' := by
  go_enter Tryd.func17, Tryd.ntmps17
  go_wp2_with fail
  refine (starts_no a cap f w hl hr h).mono ?_
  rintro e w1 ⟨rfl, hb1⟩
  go_wp2
  go_ret2
  exact ⟨rfl, hb1⟩

theorem find_range (a : Option Addr) (cap : Nat) (f : List Int) (p : Int) (w : World) (hr : Row w a f) (h : Hid (right f)) (hp : p < 0 ∨ (0 ≤ p ∧ 256 ≤ p)) :
    Calls Tryd.prog 17 #[.slice a f.length cap, .int .i64 p] w fun e w' => e = .returned (.tuple #[.int .i64 0, .iface 48 (.int .i64 1)]) ∧ Below w.heap.size w w' := by
  rcases hp with hp | ⟨hp, hp'⟩
  · have hd1 : decide (p < 0) = true := by simpa using hp
    go_enter Tryd.func17, Tryd.ntmps17
    go_wp2_with fail
    refine (starts_ok a cap f w hr h).mono ?_
    rintro e w1 ⟨v, rfl, k1, hb1⟩
    obtain ⟨p3, n3, q3, rfl⟩ := k1.shape
    go_wp2
    go_ret2
    exact ⟨rfl, hb1⟩
  · have hd1 : decide (p < 0) = false := by simp; omega
    have hd2 : decide (256 ≤ p) = true := by simpa using hp'
    go_enter Tryd.func17, Tryd.ntmps17
    go_wp2_with fail
    refine (starts_ok a cap f w hr h).mono ?_
    rintro e w1 ⟨v, rfl, k1, hb1⟩
    obtain ⟨p3, n3, q3, rfl⟩ := k1.shape
    go_wp2
    go_ret2
    exact ⟨rfl, hb1⟩

/-- The last one so far that starts not behind p, and has a share. -/
def Last (f : List Int) (p : Int) (j s : Nat) : Prop := (∀ i, i < j → pfx f i ≤ p → 0 < at0 f i → i ≤ s) ∧ ((s < j ∧ pfx f s ≤ p ∧ 0 < at0 f s) ∨ (s = 0 ∧ ∀ i, i < j → ¬ (pfx f i ≤ p ∧ 0 < at0 f i)))
theorem last_zero (f : List Int) (p : Int) : Last f p 0 0 := ⟨fun i hi => by omega, Or.inr ⟨rfl, fun i hi => by omega⟩⟩
theorem last_yes {f : List Int} {p : Int} {j s : Nat} (h : Last f p j s) (h1 : pfx f j ≤ p) (h2 : 0 < at0 f j) : Last f p (j + 1) j :=
  ⟨fun i hi _ _ => by omega, Or.inl ⟨by omega, h1, h2⟩⟩
theorem last_no {f : List Int} {p : Int} {j s : Nat} (h : Last f p j s) (h1 : ¬ (pfx f j ≤ p ∧ 0 < at0 f j)) : Last f p (j + 1) s := by
  refine ⟨fun i hi a b => ?_, ?_⟩
  · by_cases e : i = j
    · subst e; exact absurd ⟨a, b⟩ h1
    · exact h.1 i (by omega) a b
  · rcases h.2 with ⟨a, b, c⟩ | ⟨a, b⟩
    · exact Or.inl ⟨by omega, b, c⟩
    · refine Or.inr ⟨a, fun i hi => ?_⟩
      by_cases e : i = j
      · subst e; exact h1
      · exact b i (by omega)
theorem last_is {f : List Int} {p : Int} {s k : Nat} (hf : right f) (h : Last f p f.length s) (hk : IsAt f p k) : s = k := by
  obtain ⟨k1, k2, k3⟩ := hk
  have hkp : 0 < at0 f k := by omega
  have hle := h.1 k k1 k2 hkp
  rcases h.2 with ⟨a, b, c⟩ | ⟨a, b⟩
  · rcases Nat.lt_or_ge k s with e | e
    · have h1 := pfx_mono hf.2.2.1 (i := k + 1) (j := s) (by omega) (by omega)
      rw [pfx] at h1
      omega
    · omega
  · exact absurd ⟨k2, hkp⟩ (b k k1)

set_option maxHeartbeats 2000000 in
theorem find_ok (a : Option Addr) (cap : Nat) (f : List Int) (p : Int) (k : Nat) (w : World) (hr : Row w a f) (h : Hid (right f)) (hp0 : 0 ≤ p) (hp : p ≤ 255) (hk : Hid (IsAt f p k)) :
    Calls Tryd.prog 17 #[.slice a f.length cap, .int .i64 p] w fun e w' => e = .returned (.tuple #[.int .i64 k, .nilIface]) ∧ Below w.heap.size w w' := by
  obtain ⟨h1, h40, h0, ht⟩ := unhide h
  have hck := starts_ok a cap f w hr h
  have HI : Hid (∀ s, Last f p f.length s → s = k) := hide (fun s hs => last_is (unhide h) hs (unhide hk))
  have hd1 : decide (p < 0) = false := by simp; omega
  have hd2 : decide (256 ≤ p) = false := by simp; omega
  obtain ⟨N, hN⟩ : ∃ N, f.length = N := ⟨_, rfl⟩
  have HN := hide hN
  rw [hN] at hck h1 h40 HI ⊢
  clear hN h0 ht h hk
  go_enter Tryd.func17, Tryd.ntmps17
  go_wp2_with fail
  refine hck.mono ?_
  clear hck
  rintro e w1 ⟨v, rfl, k1, hb1⟩
  obtain ⟨g, cc, rfl, hg0, hg1, hcc, hc9⟩ := k1.one (by rw [upto_length]; exact h1)
  rw [upto_length] at k1 ⊢
  have hr1 := hr.below hb1
  obtain ⟨b, off, rfl, hb, hc⟩ := cell_at hr1 (by rw [unhide HN]; exact h1)
  have HC := hide hc
  have HC1 := hide (fun j (hj : j < N) => k1.get (j := j) (by rw [upto_length]; exact hj))
  clear hc hcc hc9
  go_wp2
  go_loopw [8, 28] (fun s i wr => ∃ (j S : Nat), j ≤ N ∧ i = .int .i64 j ∧ s = .int .i64 S ∧ Hid (Last f p j S) ∧ w1 = wr) (fun _ i _ => N - (intOf i).toNat)
  case atStart => exact ⟨0, 0, Nat.zero_le _, rfl, rfl, hide (last_zero f p), rfl⟩
  case round =>
    obtain ⟨j, S, hj, rfl, rfl, HS, rfl⟩ := hrel
    by_cases hlt : j < N
    · have hlt' : j < f.length := by rw [unhide HN]; exact hlt
      have c1 := unhide HC j hlt'
      have c2 := unhide HC1 j hlt
      rw [upto_at _ hlt] at c2
      have L1 := hide (fun a b => last_yes (unhide HS) a b)
      have L2 := hide (fun a => last_no (unhide HS) a)
      obtain ⟨X, hX⟩ : ∃ X, at0 f j = X := ⟨_, rfl⟩
      obtain ⟨T, hT⟩ : ∃ T, pfx f j = T := ⟨_, rfl⟩
      rw [hX] at c1 L1 L2
      rw [hT] at c2 L1 L2
      clear hX hT hlt'
      by_cases hx1 : T ≤ p
      · have d1 : decide (T ≤ p) = true := by simpa using hx1
        by_cases hx2 : 0 < X
        · have d2 : decide (0 < X) = true := by simpa using hx2
          have L3 := hide (unhide L1 hx1 hx2)
          clear L1 L2
          go_wp2
          go_roundw
          case rel => exact ⟨j + 1, j, by omega, by go_num, rfl, L3, by first | trivial | rfl⟩
          case measure => simp [intOf]; omega
        · have d2 : decide (0 < X) = false := by simpa using hx2
          have L3 := hide (unhide L2 (fun hh => hx2 hh.2))
          clear L1 L2
          go_wp2
          go_roundw
          case rel => exact ⟨j + 1, S, by omega, by go_num, rfl, L3, by first | trivial | rfl⟩
          case measure => simp [intOf]; omega
      · have d1 : decide (T ≤ p) = false := by simpa using hx1
        have L3 := hide (unhide L2 (fun hh => hx1 hh.1))
        clear L1 L2
        go_wp2
        go_roundw
        case rel => exact ⟨j + 1, S, by omega, by go_num, rfl, L3, by first | trivial | rfl⟩
        case measure => simp [intOf]; omega
    · obtain rfl : j = N := by omega
      obtain rfl := unhide HI S (unhide HS)
      go_wp2
      go_ret2
      exact ⟨rfl, hb1⟩

end Go.Proofs.YtgffpljnhadigafDoor.Scl
