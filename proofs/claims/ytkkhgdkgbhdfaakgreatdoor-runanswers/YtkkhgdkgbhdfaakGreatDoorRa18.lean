/-
  Texts that are cut and joined, as the library's own words say it. No program here.
-/
import Derived.Test.YtkkhgdkgbhdfaakGreatDoorRa17
import Derived.Lib.Split
import Derived.Lib.Join
import Derived.Lib.IndexMore
namespace Go.Proofs.YtkkhgdkgbhdfaakGreatDoor.Ses
open Go.Proofs.YtkkhgdkgbhdfaakGreatDoor.Tre Go.Proofs.YtkkhgdkgbhdfaakGreatDoor.Hrn Go.Proofs.YtkkhgdkgbhdfaakGreatDoor.Txt
set_option linter.unusedVariables false

theorem u8_same {a b : Int} (ha : 0 ≤ a ∧ a < 256) (hb : 0 ≤ b ∧ b < 256) : (UInt8.ofNat a.toNat == UInt8.ofNat b.toNat) = decide (a = b) := by
  by_cases h : a = b
  · rw [h]; simp
  · rw [decide_eq_false h, beq_eq_false_iff_ne]
    intro e
    apply h
    have := congrArg UInt8.toNat e
    rw [UInt8.toNat_ofNat', UInt8.toNat_ofNat'] at this
    omega
/-- Where the first c is. -/
theorem idx_none {c : Int} (hc : 0 ≤ c ∧ c < 256) {l : List Int} (hb : Byts l) (h : ∀ b ∈ l, b ≠ c) : Lib.index (u8s l) (u8s [c]) = -1 := by
  induction l with
  | nil => simp [u8s, Lib.index]
  | cons b l ih =>
    have hb1 := hb b (by simp)
    have h1 := u8_same hc (show 0 ≤ b ∧ b < 256 by omega)
    rw [decide_eq_false (fun e => h b (by simp) e.symm)] at h1
    have h2 := ih (fun x hx => hb x (by simp [hx])) (fun x hx => h x (by simp [hx]))
    show Lib.index (UInt8.ofNat b.toNat :: u8s l) [UInt8.ofNat c.toNat] = -1
    rw [Lib.index]
    simp only [List.isPrefixOf, h1, Bool.false_and, Bool.false_eq_true, if_false]
    rw [show Lib.index (u8s l) [UInt8.ofNat c.toNat] = -1 from h2]
    simp
theorem idx_some {c : Int} (hc : 0 ≤ c ∧ c < 256) {a r : List Int} (hb : Byts a) (h : ∀ b ∈ a, b ≠ c) : Lib.index (u8s (a ++ c :: r)) (u8s [c]) = (a.length : Int) := by
  induction a with
  | nil =>
    show Lib.index (UInt8.ofNat c.toNat :: u8s r) [UInt8.ofNat c.toNat] = 0
    rw [Lib.index]
    simp [List.isPrefixOf]
  | cons b l ih =>
    have hb1 := hb b (by simp)
    have h1 := u8_same hc (show 0 ≤ b ∧ b < 256 by omega)
    rw [decide_eq_false (fun e => h b (by simp) e.symm)] at h1
    have h2 := ih (fun x hx => hb x (by simp [hx])) (fun x hx => h x (by simp [hx]))
    show Lib.index (UInt8.ofNat b.toNat :: u8s (l ++ c :: r)) [UInt8.ofNat c.toNat] = _
    rw [Lib.index]
    simp only [List.isPrefixOf, h1, Bool.false_and, Bool.false_eq_true, if_false]
    rw [show Lib.index (u8s (l ++ c :: r)) [UInt8.ofNat c.toNat] = (l.length : Int) from h2]
    rw [if_neg (by simp)]
    simp
/-- A c is there, or not. -/
theorem parted (c : Int) (l : List Int) : (∀ b ∈ l, b ≠ c) ∨ ∃ a r, l = a ++ c :: r ∧ ∀ b ∈ a, b ≠ c := by
  induction l with
  | nil => exact Or.inl (by simp)
  | cons x l ih =>
    by_cases hx : x = c
    · exact Or.inr ⟨[], l, by simp [hx], by simp⟩
    · rcases ih with h | ⟨a, r, e, h⟩
      · exact Or.inl (fun b hb => (List.mem_cons.1 hb).elim (fun e => by rw [e]; exact hx) (h b))
      · exact Or.inr ⟨x :: a, r, by simp [e], fun b hb => (List.mem_cons.1 hb).elim (fun e => by rw [e]; exact hx) (h b)⟩
theorem byts_two {a r : List Int} {c : Int} (h : Byts (a ++ c :: r)) : Byts a ∧ Byts r := ⟨fun b hb => h b (by simp [hb]), fun b hb => h b (by simp [hb])⟩
theorem lcut_none {c : Int} (hc : 0 ≤ c ∧ c < 256) {l : List Int} (hb : Byts l) (h : ∀ b ∈ l, b ≠ c) : Lib.cut (u8s l) (u8s [c]) = (u8s l, [], false) := by
  unfold Lib.cut
  rw [idx_none hc hb h, if_neg (by omega)]
theorem lcut_some {c : Int} (hc : 0 ≤ c ∧ c < 256) {a r : List Int} (hb : Byts a) (h : ∀ b ∈ a, b ≠ c) : Lib.cut (u8s (a ++ c :: r)) (u8s [c]) = (u8s a, u8s r, true) := by
  unfold Lib.cut
  rw [idx_some hc hb h, if_pos (by omega)]
  have e : ((a.length : Int)).toNat = (u8s a).length := by rw [u8s_length]; omega
  have e2 : u8s (a ++ c :: r) = u8s a ++ (UInt8.ofNat c.toNat :: u8s r) := by simp [u8s]
  rw [e, e2, List.take_left]
  have e3 : (u8s a).length + (u8s [c]).length = (u8s a ++ [UInt8.ofNat c.toNat]).length := by simp [u8s]
  rw [e3, show u8s a ++ UInt8.ofNat c.toNat :: u8s r = (u8s a ++ [UInt8.ofNat c.toNat]) ++ u8s r by simp, List.drop_left]
/-- Lines, one by one. -/
theorem lines_none {l : List Int} (hne : l ≠ []) (h : ∀ b ∈ l, b ≠ 10) : lines l = [l] := by
  unfold lines
  rw [cut_none h]
  rw [if_neg (by simpa using hne)]
theorem lines_some {a r : List Int} (h : ∀ b ∈ a, b ≠ 10) : lines (a ++ 10 :: r) = a :: lines r := by
  rw [lines_two, cut_none h]
  rfl
/-- Words, one by one. -/
theorem cut_some {c : Int} {a r : List Int} (h : ∀ b ∈ a, b ≠ c) : cut c (a ++ c :: r) = a :: cut c r := by
  rw [cut_two, cut_none h]
  rfl
theorem count_is {c : Int} (hc : 0 ≤ c ∧ c < 256) : ∀ (fuel : Nat) (l : List Int), Byts l → l.length < fuel → Lib.countFrom (u8s [c]) fuel (u8s l) + 1 = (cut c l).length
  | 0, l, _, h => by omega
  | fuel + 1, l, hb, h => by
    rw [Lib.countFrom]
    rcases parted c l with hn | ⟨a, r, e, hn⟩
    · rw [idx_none hc hb hn, if_pos (by simp), cut_none hn]
      rfl
    · subst e
      obtain ⟨ha, hr⟩ := byts_two hb
      rw [idx_some hc ha hn, if_neg (by simp), cut_some hn]
      have hl : r.length < fuel := by simp at h; omega
      have ih := count_is hc fuel r hr hl
      have e2 : (u8s (a ++ c :: r)).drop (((a.length : Int)).toNat + (u8s [c]).length) = u8s r := by
        have e3 : ((a.length : Int)).toNat + (u8s [c]).length = (u8s (a ++ [c])).length := by simp [u8s]
        rw [e3, show u8s (a ++ c :: r) = u8s (a ++ [c]) ++ u8s r by simp [u8s], List.drop_left]
      rw [e2, List.length_cons]
      omega
theorem split_is {c : Int} (hc : 0 ≤ c ∧ c < 256) : ∀ (n : Nat) (l : List Int), l.length ≤ n → Byts l → Lib.splitB (str [c]) 0 ((cut c l).length - 1) (str l) = (cut c l).map str
  | n, l, hn, hb => by
    rcases parted c l with h | ⟨a, r, e, h⟩
    · rw [cut_none h]
      rfl
    · subst e
      obtain ⟨ha, hr⟩ := byts_two hb
      have hi : Lib.indexB (str (a ++ c :: r)) (str [c]) = ((a.length : Nat) : Int) := idx_some hc ha h
      have hne : 0 < (cut c r).length := List.length_pos_iff.2 (cut_ne c r)
      rw [cut_some h, List.length_cons, Nat.add_sub_cancel, show (cut c r).length = ((cut c r).length - 1) + 1 by omega, Lib.splitB_hit _ _ _ _ _ hi, List.map_cons]
      have e1 : (str (a ++ c :: r)).extract 0 (a.length + 0) = str a := by
        rw [str_sub, Nat.add_zero, List.take_left, List.drop_zero]
      have e2 : (str (a ++ c :: r)).extract (a.length + (str [c]).size) (str (a ++ c :: r)).size = str r := by
        rw [str_from, str_size, show a ++ c :: r = (a ++ [c]) ++ r by simp, show a.length + [c].length = (a ++ [c]).length by simp, List.drop_left]
      cases n with
      | zero => simp at hn
      | succ n => rw [e1, e2, split_is hc n r (by simp at hn; omega) hr]
theorem countB_is {c : Int} (hc : 0 ≤ c ∧ c < 256) {l : List Int} (hb : Byts l) : Lib.countB (str l) (str [c]) + 1 = (cut c l).length := by
  have := count_is hc ((u8s l).length + 1) l hb (by rw [u8s_length]; omega)
  exact this
/-- Numbers, told with a blank between. -/
theorem join_tail (l : List Int) : Lib.joinTail (u8s [32]) (l.map fun n => u8s (tl1 n)) = u8s (tls l) := by
  induction l with
  | nil => rfl
  | cons n l ih =>
    unfold Lib.joinTail at ih ⊢
    rw [List.map_cons, List.map_cons, List.flatten_cons, ih, tls]
    simp [u8s]
theorem join_is {l : List Int} (h : l ≠ []) : Lib.join ((l.map fun n => str (tl1 n)).map (·.data.toList)) (str [32]).data.toList = u8s (tell l) := by
  cases l with
  | nil => exact absurd rfl h
  | cons n l =>
    have e : (((n :: l).map fun n => str (tl1 n)).map (·.data.toList)) = u8s (tl1 n) :: l.map fun n => u8s (tl1 n) := by
      simp only [List.map_cons, List.map_map]
      rfl
    rw [e, Lib.join_cons]
    show u8s (tl1 n) ++ Lib.joinTail (u8s [32]) _ = _
    rw [join_tail]
    show _ = u8s (tl1 n ++ tls l)
    simp [u8s]
theorem atoi_in {l : List UInt8} {n : Int} (h : Lib.atoiAll l = .ok n) : -9223372036854775808 ≤ n ∧ n ≤ 9223372036854775807 := by
  unfold Lib.atoiAll at h
  split at h
  · cases h
  · simp only at h
    split at h
    · cases h
    · cases h
    · split at h
      · cases h
      · split at h
        · cases h
        · rename_i h1 h2
          injection h with h
          split at h
          · rename_i hneg
            have : ¬ (9223372036854775808 < _) := fun hc => h2 ⟨hneg, hc⟩
            omega
          · rename_i hneg
            have : ¬ (9223372036854775808 ≤ _) := fun hc => h1 ⟨hneg, hc⟩
            omega

end Go.Proofs.YtkkhgdkgbhdfaakGreatDoor.Ses
