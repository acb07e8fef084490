/-
  tree.Forward, called with any list and any levels: its contract.
-/
import Derived.Test.YtjnmogmagngenaeTreeHalve
import Derived.Test.YtjnmogmagngenaeTreeCheck
import Derived.Test.YtjnmogmagngenaeCpy
namespace Go.Proofs.Ytjnmogmagngenae.Tre
open Go.RowKit
set_option linter.unusedVariables false

/-- Behind i levels of k: h is still to be halved, t is done. -/
def FwdI (k : Nat) (l : List Int) (i : Nat) (h t : List Int) : Prop := h.length = l.length / 2 ^ i ∧ 2 ^ (k - i) ∣ h.length ∧ In 1000 h ∧ tree (k - i) h ++ t = tree k l ∧ (h ++ t).length = l.length
theorem FwdI.start {k : Nat} {l : List Int} (h1 : 2 ^ k ∣ l.length) (h2 : In 1000 l) : FwdI k l 0 l [] := ⟨by simp, h1, h2, by simp, by simp⟩
theorem FwdI.step {k i : Nat} {l h t : List Int} (hi : i < k) (f : FwdI k l i h t) : FwdI k l (i + 1) (sums h) (difs h ++ t) ∧ h.length = 2 * (h.length / 2) := by
  obtain ⟨h1, h2, h3, h4, h5⟩ := f
  have e : k - i = (k - (i + 1)) + 1 := by omega
  rw [e] at h2 h4
  have hh := half_dvd h2
  refine ⟨⟨?_, by rw [sums_length]; exact hh.1, sums_in (by omega) h3, ?_, ?_⟩, hh.2⟩
  · rw [sums_length, h1, Nat.div_div_eq_div_mul, ← Nat.pow_succ]
  · rw [← h4, tree, List.append_assoc]
  · rw [← h5, List.length_append, List.length_append, List.length_append, sums_length, difs_length]; omega
theorem FwdI.done {k : Nat} {l h t : List Int} (f : FwdI k l k h t) : h ++ t = tree k l := by
  have := f.2.2.2.1
  rwa [Nat.sub_self] at this

theorem has_some {w : World} {base : Nat} {v : Value} {l : List Int} (h : Has w base v l) (h0 : 0 < l.length) : ∃ g c, v = .slice (some ⟨g, 0, none⟩) l.length c ∧ base ≤ g ∧ l.length ≤ c ∧ c ≤ 9223372036854775807 := by
  rcases h.2 with ⟨_, e⟩ | ⟨g, cap, cur, hv, hb, _, hn, hm, _⟩
  · omega
  · exact ⟨g, cap, hv, hb, hn, by simpa [maxLen] using hm⟩
/-- The first of a slice of this call's own, as a slice to be gone over. -/
theorem has_sl {w : World} {base g n c : Nat} {h t : List Int} (hh : Has w base (.slice (some ⟨g, 0, none⟩) n c) (h ++ t)) (h0 : 0 < h.length) (hc : (h ++ t).length ≤ c) (hm : c ≤ 9223372036854775807) : Sl w.heap.size w (some ⟨g, 0, none⟩) c h := by
  obtain ⟨a, cap, e, hr⟩ := hh.row
  obtain ⟨b, off, e', hb, hcs⟩ := hr.at (k := 0) (by simp; omega)
  subst e'
  obtain ⟨e1, e2, e3⟩ := Value.slice.inj e
  cases e1
  refine Or.inr ⟨g, 0, rfl, hb, h0, by simp at hc; omega, hm, fun j hj => ?_⟩
  rw [hcs j (by simp; omega)]
  simp [List.getD_eq_getElem?_getD, List.getElem?_append_left hj]

theorem fwd_no (a : Option Addr) (cap : Nat) (l : List Int) (n : Int) (w : World) (hl : l.length ≤ 9223372036854775807) (hr : Row w a l) (h : Hid (chk l n 1000 ≠ 0)) :
    Calls Try.prog 20 #[.slice a l.length cap, .int .i64 n] w fun e w' => e = .returned (.tuple #[.slice none 0 0, .iface 45 (.int .i64 (chk l n 1000))]) ∧ Below w.heap.size w w' := by
  go_enter Try.func20, Try.ntmps20
  go_wp2_with fail
  refine (check_no a cap l n 1000 w hl (by omega) (by omega) hr h).mono ?_
  rintro e w1 ⟨rfl, hb1⟩
  go_wp2
  go_ret2
  exact ⟨rfl, hb1⟩

set_option maxHeartbeats 2000000 in
theorem fwd_some (a : Option Addr) (cap : Nat) (l : List Int) (k : Nat) (w : World) (hl : l.length ≤ 9223372036854775807) (hr : Row w a l) (h : Hid (chk l k 1000 = 0)) (h0 : 0 < l.length) :
    Calls Try.prog 20 #[.slice a l.length cap, .int .i64 k] w fun e w' => ∃ v, e = .returned (.tuple #[v, .nilIface]) ∧ Has w' w.heap.size v (tree k l) ∧ Below w.heap.size w w' := by
  obtain ⟨z1, z2, z3, z4, z5⟩ := chk_zero (unhide h)
  have z4' : Hid (2 ^ k ∣ l.length) := hide (by simpa using z4)
  clear z4
  go_enter Try.func20, Try.ntmps20
  go_wp2_with fail
  refine (check_ok a cap l k 1000 w hl (by omega) (by omega) hr h).mono ?_
  rintro e w1 ⟨rfl, hb1⟩
  have hr1 := hr.below hb1
  go_wp2_with (at_builtin; refine wpList_app0 _ rfl _ _ rfl w.heap.size l a cap rfl rfl hr1 (by omega) hb1.size ?_; intro tv w2 k2 b2 _)
  obtain ⟨g, c, rfl, hg, hc1, hc2⟩ := has_some k2 h0
  have hb2 := Below.chain hb1 b2
  have HF := hide (FwdI.start (k := k) (unhide z4') z5)
  go_loopw [20] (fun i wr => ∃ (j : Nat) (p t : List Int), i = .int .i64 j ∧ j ≤ k ∧ Hid (FwdI k l j p t) ∧ Has wr w.heap.size (.slice (some ⟨g, 0, none⟩) l.length c) (p ++ t) ∧ Below w.heap.size w wr) (fun i _ => k - (intOf i).toNat)
  case atStart => exact ⟨0, l, [], rfl, Nat.zero_le _, HF, by rw [List.append_nil]; exact k2, hb2⟩
  case round =>
    obtain ⟨j, p, t, rfl, hjk, HP, hw, hB⟩ := hrel
    by_cases hlt : j < k
    · obtain ⟨HS, he⟩ := (unhide HP).step hlt
      have HS' := hide HS
      have HE := hide he
      have hpl : p.length ≤ l.length := by rw [(unhide HP).1]; exact Nat.div_le_self _ _
      have hp0 : 0 < p.length := by
        rw [(unhide HP).1]
        exact Nat.div_pos (Nat.le_of_dvd h0 (Nat.dvd_trans (Nat.pow_dvd_pow 2 hjk) (unhide z4'))) (Nat.pow_pos (by omega))
      have hsh : (l.length : Int) / 2 ^ j = (p.length : Int) := by rw [(unhide HP).1]; simp
      have hpt : Hid ((p ++ t).length = l.length) := hide (unhide HP).2.2.2.2
      have hsl := has_sl hw hp0 (by rw [unhide hpt]; exact hc1) hc2
      have hin : In 2000 p := (unhide HP).2.2.1.mono (by omega)
      clear HS he
      go_wp2_with fail
      refine (halve (some ⟨g, 0, none⟩) c p wr (by omega) hin hsl).mono ?_
      rintro e w3 ⟨v3, rfl, hv3, hb3⟩
      obtain ⟨a3, c3, rfl, r3⟩ := hv3.row
      have hw3 := hw.below hb3
      have hlen3 : Hid ((sums p ++ difs p).length = p.length) := hide (by rw [List.length_append, sums_length, difs_length]; have := unhide HE; omega)
      have hnew : Hid (sums p ++ (difs p ++ t) = (sums p ++ difs p) ++ (p ++ t).drop (sums p ++ difs p).length) := hide (by rw [unhide hlen3, List.drop_left, List.append_assoc])
      obtain ⟨w4, hrun, hw4, g4⟩ := run_cpy w3 w.heap.size _ (p ++ t) (sums p ++ difs p) 3 hw3 a3 c3 r3 (by rw [unhide hlen3]; simp)
      obtain ⟨n3, hn3⟩ : ∃ n3, n3 = (sums p ++ difs p).length := ⟨_, rfl⟩
      rw [← hn3] at hrun ⊢
      clear hn3
      go_wp2
      go_roundw
      case rel => exact ⟨j + 1, sums p, difs p ++ t, by go_num, hlt, HS', by rw [unhide hnew]; exact hw4, (hB.trans (hb3.mono hB.size)).grown g4 (Nat.le_trans hB.size hb3.size) (fun q e => (hw3.lt q e).1)⟩
      case measure => simp [intOf]; omega
    · obtain rfl : j = k := by omega
      go_wp2
      go_ret2
      exact ⟨_, rfl, by rw [← (unhide HP).done]; exact hw, hB⟩

theorem tree_nil (k : Nat) : tree k [] = [] := by
  induction k with
  | zero => rfl
  | succ k ih => rw [tree]; show tree k [] ++ [] = []; rw [ih]; rfl

set_option maxHeartbeats 2000000 in
theorem fwd_nil (a : Option Addr) (cap : Nat) (k : Nat) (w : World) (hk : k ≤ 5) (hr : Row w a []) (h : Hid (chk [] k 1000 = 0)) :
    Calls Try.prog 20 #[.slice a 0 cap, .int .i64 k] w fun e w' => e = .returned (.tuple #[.slice none 0 0, .nilIface]) ∧ Below w.heap.size w w' := by
  go_enter Try.func20, Try.ntmps20
  go_wp2_with fail
  refine (check_ok a cap [] k 1000 w (by simp) (by omega) (by omega) hr h).mono ?_
  rintro e w1 ⟨rfl, hb1⟩
  have hr1 := hr.below hb1
  go_wp2_with (at_builtin; refine wpList_app0 _ rfl _ _ rfl w.heap.size [] a cap rfl rfl hr1 (by simp) hb1.size ?_; intro tv w2 k2 b2 hnil)
  obtain rfl := hnil trivial
  have hb2 := Below.chain hb1 b2
  go_loopw [20] (fun i wr => ∃ (j : Nat), i = .int .i64 j ∧ j ≤ k ∧ Below w.heap.size w wr) (fun i _ => k - (intOf i).toNat)
  case atStart => exact ⟨0, rfl, Nat.zero_le _, hb2⟩
  case round =>
    obtain ⟨j, rfl, hjk, hB⟩ := hrel
    by_cases hlt : j < k
    · have hsh : (0 : Int) / 2 ^ j = 0 := by simp
      go_wp2_with fail
      refine (halve none 0 [] wr (by simp) (fun _ h => by cases h) (Or.inl ⟨rfl, rfl, rfl⟩)).mono ?_
      rintro e w3 ⟨v3, rfl, hv3, hb3⟩
      obtain ⟨a3, c3, rfl, r3⟩ := hv3.row
      obtain ⟨w4, hrun, hw4, g4⟩ := run_cpy w3 w.heap.size _ [] (sums [] ++ difs []) 3 (Has.nil w3 w.heap.size) a3 c3 r3 (by decide)
      have e0 : (sums [] ++ difs []).length = 0 := rfl
      rw [e0] at hrun ⊢
      go_wp2
      go_roundw
      case rel => exact ⟨j + 1, by go_num, hlt, (hB.trans (hb3.mono hB.size)).grown g4 (Nat.le_trans hB.size hb3.size) (fun q e => by simp [Value.ownBlock] at e)⟩
      case measure => simp [intOf]; omega
    · obtain rfl : j = k := by omega
      go_wp2
      go_ret2
      exact ⟨rfl, hB⟩

/-- Forward, where nothing is wrong. -/
theorem fwd_ok (a : Option Addr) (cap : Nat) (l : List Int) (k : Nat) (w : World) (hl : l.length ≤ 9223372036854775807) (hr : Row w a l) (h : Hid (chk l k 1000 = 0)) :
    Calls Try.prog 20 #[.slice a l.length cap, .int .i64 k] w fun e w' => ∃ v, e = .returned (.tuple #[v, .nilIface]) ∧ Has w' w.heap.size v (tree k l) ∧ Below w.heap.size w w' := by
  by_cases h0 : 0 < l.length
  · exact fwd_some a cap l k w hl hr h h0
  · obtain rfl : l = [] := List.eq_nil_of_length_eq_zero (by omega)
    have hk := (chk_zero (unhide h)).2.2.1
    refine (fwd_nil a cap k w (by omega) hr h).mono fun e w' ⟨he, hb⟩ => ⟨_, he, ?_, hb⟩
    rw [tree_nil]
    exact Has.nil _ _

end Go.Proofs.Ytjnmogmagngenae.Tre
