/-
  lap.cut, lap.mesh: by their contracts.
-/
import Derived.Test.YtjnmogmagngenaeLapOne
namespace Go.Proofs.Ytjnmogmagngenae.Lap
open Go.RowKit
open Go.Proofs.Ytjnmogmagngenae.Tre
set_option linter.unusedVariables false

/-- Nil has no room; else it is no longer than its room. -/
def Roomy (a : Option Addr) (len cap : Nat) : Prop := (a = none → cap = 0) ∧ len ≤ cap ∧ cap ≤ 9223372036854775807

theorem has_roomy {w : World} {base : Nat} {a : Option Addr} {n cap : Nat} {l : List Int} (h : Has w base (.slice a n cap) l) : Roomy a n cap := by
  rcases h.2 with ⟨e, _⟩ | ⟨g, c, cur, e, hb, hg, hn, hm, _⟩
  · obtain ⟨rfl, rfl, rfl⟩ := Value.slice.inj e
    exact ⟨fun _ => rfl, Nat.le_refl _, by omega⟩
  · obtain ⟨rfl, rfl, rfl⟩ := Value.slice.inj e
    exact ⟨fun h => (by cases h), hn, by simpa [maxLen] using hm⟩

set_option maxHeartbeats 2000000 in
theorem cut (a : Option Addr) (cap : Nat) (l : List Int) (w : World) (hl : l.length ≤ 1000) (he : Hid (l.length = 2 * (l.length / 2))) (hm : Roomy a l.length cap) (hr : Row w a l) :
    Calls Try.prog 46 #[.slice a l.length cap] w fun e w' => ∃ s d, e = .returned (.tuple #[s, d]) ∧ Has w' w.heap.size s (fr l) ∧ Has w' w.heap.size d (bk l) ∧ Off s d ∧ Below w.heap.size w w' := by
  obtain ⟨m1, m2, m3⟩ := hm
  have hdv : Int.tdiv (l.length : Int) 2 = ((l.length / 2 : Nat) : Int) := rfl
  by_cases h0 : 0 < l.length
  · obtain ⟨b, off, rfl, hb, _⟩ := hr.at h0
    obtain ⟨n, hn⟩ : ∃ n, l.length / 2 = n := ⟨_, rfl⟩
    have H1 : Hid ((fr l).length = n) := hide (by rw [fr_length, hn])
    have H2 : Hid ((bk l).length = l.length - n) := hide (by rw [bk_length (unhide he)]; have := unhide he; omega)
    have r1 : Row w _ (fr l) := hr.take (l.length / 2)
    have r2 : Row w (some ⟨b, off + n, none⟩) (bk l) := by have := hr.drop (l.length / 2); rw [hn] at this; unfold bk; rw [hn]; exact this
    rw [hn] at hdv
    have hn1 : n < l.length := by omega
    obtain ⟨N, hN⟩ : ∃ N, l.length = N := ⟨_, rfl⟩
    rw [hN] at hdv H2 m2 hl h0 hn1 ⊢
    clear hn hN he hr
    have hcn : n ≤ cap := by omega
    have hne : ¬ (cap = n) := by omega
    go_enter Try.func46, Try.ntmps46
    go_wp2_with (first
      | (at_builtin; refine wpList_app _ rfl _ _ rfl w.heap.size _ [] (fr l) (some ⟨b, off, none⟩) cap rfl (Has.nil _ _) (congrArg (fun n => Value.slice (some ⟨b, off, none⟩) n cap) (unhide H1).symm) r1 (by rw [unhide H1]; simp; omega) (Nat.le_refl _) ?_; intro s1 w1 k1 g1 at1; rw [List.nil_append] at k1; have b1 : Below w.heap.size w w1 := (Below.refl _ _).grown g1 (Nat.le_refl _) (fun k e => by cases e); have r2' := r2.below b1; clear r1)
      | (at_builtin; refine wpList_app _ rfl _ _ rfl w.heap.size _ [] (bk l) (some ⟨b, off + n, none⟩) (cap - n) rfl (Has.nil _ _) (congrArg (fun k => Value.slice (some ⟨b, off + n, none⟩) k (cap - n)) (unhide H2).symm) r2' (by rw [unhide H2]; simp; omega) b1.size ?_; intro s2 w2 k2 g2 at2; rw [List.nil_append] at k2))
    obtain ⟨k1', ho⟩ := apart k1 g2 at2 (off_nil _)
    go_ret2
    exact ⟨_, _, rfl, k1', k2, ho, b1.grown g2 b1.size (fun k e => by cases e)⟩
  · obtain rfl : l = [] := List.eq_nil_of_length_eq_zero (by omega)
    have rn : ∀ (x : World) (b : Option Addr), Row x b [] := fun _ _ => Or.inl rfl
    have hfin : ∀ (s1 s2 : Value) (w1 w2 : World), Has w1 w.heap.size s1 [] → w.grownBy w1 none → Has w2 w.heap.size s2 [] → w1.grownBy w2 none → (s2.ownBlock = none ∨ s2.ownBlock = some w1.heap.size) →
        ∃ s d, Ending.returned (.tuple #[s1, s2]) = .returned (.tuple #[s, d]) ∧ Has w2 w.heap.size s (fr []) ∧ Has w2 w.heap.size d (bk []) ∧ Off s d ∧ Below w.heap.size w w2 := by
      intro s1 s2 w1 w2 k1 g1 k2 g2 at2
      have b1 : Below w.heap.size w w1 := (Below.refl _ _).grown g1 (Nat.le_refl _) (fun k e => by cases e)
      obtain ⟨k1', ho⟩ := apart (v := .slice none 0 0) k1 g2 at2 (off_nil _)
      exact ⟨_, _, rfl, k1', k2, ho, b1.grown g2 b1.size (fun k e => by cases e)⟩
    clear he hr hl h0
    cases a with
    | none =>
      obtain rfl := m1 rfl
      go_enter Try.func46, Try.ntmps46
      go_wp2
      go_ret2
      exact hfin _ _ _ _ (Has.nil _ _) (World.grownBy.refl _ _) (Has.nil _ _) (World.grownBy.refl _ _) (Or.inl rfl)
    | some x =>
      go_enter Try.func46, Try.ntmps46
      go_wp2
      go_ret2
      exact hfin _ _ _ _ (Has.nil _ _) (World.grownBy.refl _ _) (Has.nil _ _) (World.grownBy.refl _ _) (Or.inl rfl)

set_option maxHeartbeats 2000000 in
theorem mesh (n : Nat) (a : Option Addr) (cap : Nat) (l : List Int) (a' : Option Addr) (cap' : Nat) (m : List Int) (w : World) (hn : n ≤ 1000) (ha : Hid (n = l.length)) (hb : Hid (n = m.length)) (hr : Row w a l) (hr' : Row w a' m) :
    Calls Try.prog 47 #[.slice a n cap, .slice a' n cap'] w fun e w' => ∃ v, e = .returned v ∧ Has w' w.heap.size v (flat (at0 l) (at0 m) n) ∧ Below w.heap.size w w' := by
  go_enter Try.func47, Try.ntmps47
  go_wp2
  go_loopw [5, 10] (fun v i wr => ∃ j : Nat, j ≤ n ∧ i = .int .i64 j ∧ Has wr w.heap.size v (flat (at0 l) (at0 m) j) ∧ Below w.heap.size w wr) (fun _ i _ => n - (intOf i).toNat)
  case atStart => exact ⟨0, Nat.zero_le _, rfl, Has.nil _ _, Below.refl _ _⟩
  case round =>
    obtain ⟨j, hj, rfl, h1, hB⟩ := hrel
    by_cases hlt : j < n
    · obtain ⟨b, off, rfl, hc⟩ := row_cell (hr.below hB) (by rw [← unhide ha]; omega)
      obtain ⟨b', off', rfl, hc'⟩ := row_cell (hr'.below hB) (by rw [← unhide hb]; omega)
      have hc1 := hc j (by rw [← unhide ha]; omega)
      have hc2 := hc' j (by rw [← unhide hb]; omega)
      have hWs := hB.size
      have e1 := hide (flat_succ (at0 l) (at0 m) j)
      obtain ⟨X, hX⟩ : ∃ X, at0 l j = X := ⟨_, rfl⟩
      obtain ⟨Y, hY⟩ : ∃ Y, at0 m j = Y := ⟨_, rfl⟩
      rw [hX, hY] at e1
      rw [hX] at hc1
      rw [hY] at hc2
      have hln : Hid ((flat (at0 l) (at0 m) j).length + 2 ≤ 1000000) := hide (by rw [flat_length]; omega)
      clear hX hY hc hc'
      go_wp2_with (at_builtin; refine wpList_app _ rfl _ _ rfl w.heap.size u5 (flat (at0 l) (at0 m) j) [X, Y] _ _ rfl (h1.alloc _) rfl (row_two _ _ _ _) (unhide hln) (by simp; omega) ?_; intro s' w1 k1 g1 at1)
      obtain ⟨d1, d2⟩ := stepped_plain h1 hWs k1 g1 at1
      go_wp2
      go_roundw
      case rel => exact ⟨j + 1, by omega, by go_num, by rw [unhide e1]; exact k1, hB.trans d1⟩
      case measure => simp [intOf]; omega
    · obtain rfl : j = n := by omega
      go_wp2
      go_ret
      exact ⟨_, rfl, h1, hB⟩

end Go.Proofs.Ytjnmogmagngenae.Lap
