/-
  The numbers of chapter 9, as lists: sizes, what they have in all, numbers cut apart, and joined. No program here.
-/
import Derived.Test.YthkibjhhlcfceaiGreatDoorPk00
import Derived.Laws.BitsLemmas
namespace Go.Proofs.YthkibjhhlcfceaiGreatDoor.Bnd
open Go.Proofs.YthkibjhhlcfceaiGreatDoor.Tre
set_option linter.unusedVariables false

/-- No size. -/
def bad (n : Int) : Bool := decide (n < 1) || decide (6 < n)
/-- How many numbers the first j bands have. -/
def pre (s : List Int) : Nat → Nat
  | 0 => 0
  | j + 1 => pre s j + (at0 s j).toNat
def total (s : List Int) : Nat := pre s s.length
/-- The fault of sizes: 0 where there is none. -/
def bf (s : List Int) : Int := if s.length = 0 then 5 else if 8 < s.length then 4 else if s.any bad = true then 1 else if 32 < total s then 4 else 0
/-- Band j, and all. -/
def cutAt (l s : List Int) (j : Nat) : List Int := (l.drop (pre s j)).take (at0 s j).toNat
def cuts (l s : List Int) : List (List Int) := (List.range s.length).map (cutAt l s)
/-- As many bands, each of its size. -/
def Shaped (ll : List (List Int)) (s : List Int) : Prop := ll.length = s.length ∧ ∀ i, i < s.length → ((rowAt ll i).length : Int) = at0 s i
/-- All sizes are such. -/
def Sizes (s : List Int) : Prop := ∀ i, i < s.length → 1 ≤ at0 s i ∧ at0 s i ≤ 6

theorem bad_no {n : Int} (h : bad n = false) : 1 ≤ n ∧ n ≤ 6 := by simp [bad] at h; omega
theorem at_get {s : List Int} {i : Nat} (h : i < s.length) : at0 s i = s[i] := by simp [at0, h]
theorem bf_ok {s : List Int} (h : bf s = 0) : 0 < s.length ∧ s.length ≤ 8 ∧ Sizes s ∧ total s ≤ 32 := by
  unfold bf at h
  split at h
  · omega
  · split at h
    · omega
    · split at h
      · omega
      · split at h
        · omega
        · rename_i h1 h2 h3 h4
          refine ⟨by omega, by omega, fun i hi => ?_, by omega⟩
          rw [at_get hi]
          have h5 : s.any bad = false := by simpa using h3
          exact bad_no (by simpa using List.any_eq_false.1 h5 _ (List.getElem_mem hi))
theorem any_bad_no {s : List Int} (h : Sizes s) : s.any bad = false := by
  apply List.any_eq_false.2
  intro n hn
  obtain ⟨i, hi, rfl⟩ := List.getElem_of_mem hn
  have := h i hi
  rw [at_get hi] at this
  simp [bad]; omega
theorem bf_of {s : List Int} (h0 : 0 < s.length) (h8 : s.length ≤ 8) (h1 : Sizes s) (h2 : total s ≤ 32) : bf s = 0 := by
  unfold bf
  rw [if_neg (by omega), if_neg (by omega), if_neg (by rw [any_bad_no h1]; simp), if_neg (by omega)]

theorem pre_le (s : List Int) {i j : Nat} (h : i ≤ j) : pre s i ≤ pre s j := by
  induction j with
  | zero => obtain rfl : i = 0 := by omega
            exact Nat.le_refl _
  | succ j ih =>
    by_cases e : i = j + 1
    · rw [e]; exact Nat.le_refl _
    · have := ih (by omega)
      simp only [pre]; omega
theorem pre_succ (s : List Int) (j : Nat) : pre s (j + 1) = pre s j + (at0 s j).toNat := rfl
theorem pre_total (s : List Int) {j : Nat} (h : j ≤ s.length) : pre s j ≤ total s := pre_le s h
/-- .. where all are sizes: no more than six times as many. -/
theorem pre_six {s : List Int} (h : Sizes s) {j : Nat} (hj : j ≤ s.length) : pre s j ≤ 6 * j := by
  induction j with
  | zero => exact Nat.le_refl _
  | succ j ih =>
    have := ih (by omega)
    have := h j (by omega)
    simp only [pre]; omega
theorem total_pos {s : List Int} (h : Sizes s) (h0 : 0 < s.length) : 0 < total s := by
  have h1 := pre_total s (j := 1) h0
  have h2 := h 0 h0
  simp only [pre] at h1
  omega

theorem cuts_length (l s : List Int) : (cuts l s).length = s.length := by simp [cuts]
theorem cuts_at (l s : List Int) {j : Nat} (h : j < s.length) : rowAt (cuts l s) j = cutAt l s j := by simp [rowAt, cuts, h]
theorem cutAt_length {l s : List Int} (hs : total s = l.length) {j : Nat} (h : j < s.length) : (cutAt l s j).length = (at0 s j).toNat := by
  have := pre_total s (j := j + 1) h
  rw [pre_succ] at this
  unfold cutAt
  rw [List.length_take, List.length_drop]
  omega
theorem shaped_cuts {l s : List Int} (h1 : Sizes s) (hs : total s = l.length) : Shaped (cuts l s) s := by
  refine ⟨cuts_length l s, fun i hi => ?_⟩
  rw [cuts_at l s hi, cutAt_length hs hi]
  have := h1 i hi
  omega

theorem take_succ_rows {ll : List (List Int)} {j : Nat} (h : j < ll.length) : ll.take (j + 1) = ll.take j ++ [rowAt ll j] := by
  rw [List.take_succ_eq_append_getElem h, rowAt_get h]
theorem flat_step {ll : List (List Int)} {j : Nat} (h : j < ll.length) : (ll.take (j + 1)).flatten = (ll.take j).flatten ++ rowAt ll j := by
  rw [take_succ_rows h, List.flatten_append]; simp
theorem flat_le (ll : List (List Int)) (j : Nat) : (ll.take j).flatten.length ≤ ll.flatten.length := by
  conv => rhs; rw [← List.take_append_drop j ll, List.flatten_append, List.length_append]
  omega

/-- Cut, and joined: the first j. -/
theorem cuts_take (l s : List Int) {j : Nat} (h : j ≤ s.length) : ((cuts l s).take j).flatten = l.take (pre s j) := by
  induction j with
  | zero => simp [pre]
  | succ j ih =>
    rw [flat_step (by rw [cuts_length]; omega), ih (by omega), cuts_at l s (by omega), pre_succ, List.take_add]
    rfl
theorem join_cuts {l s : List Int} (hs : total s = l.length) : (cuts l s).flatten = l := by
  have := cuts_take l s (Nat.le_refl s.length)
  rw [List.take_of_length_le (by rw [cuts_length]; exact Nat.le_refl _)] at this
  rw [this]
  exact List.take_of_length_le (by show l.length ≤ total s; omega)

theorem Shaped.pre {ll : List (List Int)} {s : List Int} (h : Shaped ll s) {j : Nat} (hj : j ≤ s.length) : (ll.take j).flatten.length = pre s j := by
  induction j with
  | zero => simp [Bnd.pre]
  | succ j ih =>
    rw [flat_step (by rw [h.1]; omega), List.length_append, ih (by omega), pre_succ]
    have := h.2 j (by omega)
    omega
theorem Shaped.total {ll : List (List Int)} {s : List Int} (h : Shaped ll s) : ll.flatten.length = total s := by
  have := h.pre (Nat.le_refl s.length)
  rw [List.take_of_length_le (by rw [h.1]; exact Nat.le_refl _)] at this
  exact this
/-- Joined, and cut. -/
theorem cuts_join {ll : List (List Int)} {s : List Int} (h : Shaped ll s) : cuts ll.flatten s = ll := by
  apply List.ext_getElem
  · rw [cuts_length, h.1]
  · intro j h1 h2
    rw [cuts_length] at h1
    have e := cuts_at ll.flatten s h1
    rw [rowAt_get (by rw [cuts_length]; exact h1)] at e
    rw [e, ← rowAt_get h2]
    have h3 : ll.flatten = (ll.take j).flatten ++ (rowAt ll j ++ (ll.drop (j + 1)).flatten) := by
      conv => lhs; rw [← List.take_append_drop (j + 1) ll, List.flatten_append, flat_step h2]
      rw [List.append_assoc]
    unfold cutAt
    rw [h3, ← h.pre (by omega), List.drop_left]
    have h4 := h.2 j h1
    have h5 : (at0 s j).toNat = (rowAt ll j).length := by omega
    rw [h5, List.take_left]

/-- Whether bands are of such a shape can be told; where they are as many and yet not, at one first place. -/
theorem shaped_or (ll : List (List Int)) (s : List Int) : ll.length ≠ s.length ∨ Shaped ll s ∨ (ll.length = s.length ∧ ∃ k, k < s.length ∧ ((rowAt ll k).length : Int) ≠ at0 s k ∧ ∀ i, i < k → ((rowAt ll i).length : Int) = at0 s i) := by
  by_cases h : ll.length = s.length
  · refine Or.inr ?_
    have key : ∀ n, n ≤ s.length → (∀ i, i < n → ((rowAt ll i).length : Int) = at0 s i) ∨ ∃ k, k < n ∧ ((rowAt ll k).length : Int) ≠ at0 s k ∧ ∀ i, i < k → ((rowAt ll i).length : Int) = at0 s i := by
      intro n
      induction n with
      | zero => exact fun _ => Or.inl fun i hi => by omega
      | succ n ih =>
        intro hn
        rcases ih (by omega) with h1 | ⟨k, h1, h2, h3⟩
        · by_cases h2 : ((rowAt ll n).length : Int) = at0 s n
          · refine Or.inl fun i hi => ?_
            by_cases e : i = n
            · rw [e]; exact h2
            · exact h1 i (by omega)
          · exact Or.inr ⟨n, by omega, h2, h1⟩
        · exact Or.inr ⟨k, by omega, h2, h3⟩
    rcases key s.length (Nat.le_refl _) with h1 | ⟨k, h1, h2, h3⟩
    · exact Or.inl ⟨h, h1⟩
    · exact Or.inr ⟨h, k, h1, h2, h3⟩
  · exact Or.inl h

end Go.Proofs.YthkibjhhlcfceaiGreatDoor.Bnd

/-
  The numbers of chapter 13: numbers in so many bits, bits as bytes. No program here.
-/
namespace Go.Proofs.YthkibjhhlcfceaiGreatDoor.Wid
open Go.Proofs.YthkibjhhlcfceaiGreatDoor.Tre Go.Proofs.YthkibjhhlcfceaiGreatDoor.Bnd
set_option linter.unusedVariables false

theorem two_pos (n : Nat) : (0 : Int) < 2 ^ n := Int.pow_pos (by omega)
theorem two_succ (n : Nat) : (2 : Int) ^ (n + 1) = 2 * 2 ^ n := by rw [Int.pow_succ]; omega
/-- In so many bits, the high ones first. -/
def bin : Nat → Int → List Int
  | 0, _ => []
  | w + 1, n => n / 2 ^ w :: bin w (n % 2 ^ w)
/-- The number of bits, behind a number. -/
def num : Int → List Int → Int
  | n, [] => n
  | n, b :: l => num (2 * n + b) l
/-- Bits. -/
def Bit (l : List Int) : Prop := ∀ b ∈ l, b = 0 ∨ b = 1

theorem bin_length (w : Nat) (n : Int) : (bin w n).length = w := by
  induction w generalizing n with
  | zero => rfl
  | succ w ih => rw [bin, List.length_cons, ih]
theorem div_bit {w : Nat} {n : Int} (h0 : 0 ≤ n) (h1 : n < 2 ^ (w + 1)) : n / 2 ^ w = 0 ∨ n / 2 ^ w = 1 := by
  have hp := two_pos w
  rw [two_succ] at h1
  have h2 : 0 ≤ n / 2 ^ w := Int.ediv_nonneg h0 (by omega)
  have h3 : n / 2 ^ w < 2 := (Int.ediv_lt_iff_lt_mul hp).2 (by omega)
  omega
theorem mod_in {w : Nat} (n : Int) : 0 ≤ n % 2 ^ w ∧ n % 2 ^ w < 2 ^ w := ⟨Int.emod_nonneg _ (by have := two_pos w; omega), Int.emod_lt_of_pos _ (two_pos w)⟩
theorem bin_bit {w : Nat} {n : Int} (h0 : 0 ≤ n) (h1 : n < 2 ^ w) : Bit (bin w n) := by
  induction w generalizing n with
  | zero => intro b hb; simp [bin] at hb
  | succ w ih =>
    intro b hb
    rw [bin] at hb
    rcases List.mem_cons.1 hb with e | e
    · rw [e]; exact div_bit h0 h1
    · exact ih (mod_in n).1 (mod_in n).2 b e
theorem num_step (n : Int) (l : List Int) : num n l = n * 2 ^ l.length + num 0 l := by
  induction l generalizing n with
  | nil => simp [num]
  | cons b l ih =>
    rw [num, num, ih (2 * n + b), ih (2 * 0 + b), List.length_cons, two_succ]
    have e1 : (2 * n + b) * 2 ^ l.length = n * (2 * 2 ^ l.length) + b * 2 ^ l.length := by
      rw [Int.add_mul, Int.mul_comm 2 n, Int.mul_assoc]
    have e2 : (2 * 0 + b) * 2 ^ l.length = b * 2 ^ l.length := by simp
    rw [e1, e2]
    omega
theorem num_append (n : Int) (l m : List Int) : num n (l ++ m) = num (num n l) m := by
  induction l generalizing n with
  | nil => rfl
  | cons b l ih => rw [List.cons_append, num, num, ih]
theorem num_bin {w : Nat} {n : Int} (h0 : 0 ≤ n) (h1 : n < 2 ^ w) : num 0 (bin w n) = n := by
  induction w generalizing n with
  | zero => simp [bin, num]; simp at h1; omega
  | succ w ih =>
    rw [bin, num, num_step, ih (mod_in n).1 (mod_in n).2, bin_length]
    have := Int.emod_add_mul_ediv n (2 ^ w)
    have e : (2 * 0 + n / 2 ^ w) * 2 ^ w = 2 ^ w * (n / 2 ^ w) := by rw [Int.mul_comm]; simp
    omega
theorem num_in {l : List Int} (h : Bit l) : 0 ≤ num 0 l ∧ num 0 l < 2 ^ l.length := by
  induction l with
  | nil => simp [num]
  | cons b l ih =>
    have h1 := ih fun c hc => h c (by simp [hc])
    have hb := h b (by simp)
    rw [num, num_step, List.length_cons, two_succ]
    have e : (2 * 0 + b) * 2 ^ l.length = b * 2 ^ l.length := by simp
    rw [e]
    rcases hb with rfl | rfl
    · simp; omega
    · simp; omega
theorem bin_num {l : List Int} (h : Bit l) : bin l.length (num 0 l) = l := by
  induction l with
  | nil => rfl
  | cons b l ih =>
    have h1 := num_in (l := l) fun c hc => h c (by simp [hc])
    have h2 := ih fun c hc => h c (by simp [hc])
    have hp := two_pos l.length
    have e : num 0 (b :: l) = num 0 l + 2 ^ l.length * b := by
      rw [num, num_step]
      have e : (2 * 0 + b) * 2 ^ l.length = 2 ^ l.length * b := by rw [Int.mul_comm]; simp
      omega
    have e1 : num 0 (b :: l) / 2 ^ l.length = b := by
      rw [e, Int.add_mul_ediv_left _ _ (by omega), Int.ediv_eq_zero_of_lt h1.1 h1.2]
      omega
    have e2 : num 0 (b :: l) % 2 ^ l.length = num 0 l := by
      rw [e, Int.add_mul_emod_self_left, Int.emod_eq_of_lt h1.1 h1.2]
    rw [List.length_cons, bin, e1, e2, h2]
theorem bit_take {l : List Int} (h : Bit l) (k : Nat) : Bit (l.take k) := fun b hb => h b (List.mem_of_mem_take hb)
theorem bit_drop {l : List Int} (h : Bit l) (k : Nat) : Bit (l.drop k) := fun b hb => h b (List.mem_of_mem_drop hb)
theorem bit_at {l : List Int} (h : Bit l) (i : Nat) : at0 l i = 0 ∨ at0 l i = 1 := by
  by_cases hi : i < l.length
  · have e : at0 l i = l[i] := by simp [at0, hi]
    rw [e]; exact h _ (List.getElem_mem hi)
  · left; simp [at0, List.getElem?_eq_none (Nat.le_of_not_lt hi)]

/-- A number goes into its width. -/
def Fit (n w : Int) : Prop := 0 ≤ w ∧ w ≤ 20 ∧ 0 ≤ n ∧ n < 2 ^ w.toNat
/-- Widths that may be. -/
def Wds (ws : List Int) : Prop := ∀ i, i < ws.length → 0 ≤ at0 ws i ∧ at0 ws i ≤ 20
/-- Each number in its bits. -/
def bins (l ws : List Int) : List (List Int) := (List.range ws.length).map fun i => bin (at0 ws i).toNat (at0 l i)
def puts (l ws : List Int) : List Int := (bins l ws).flatten
theorem bins_length (l ws : List Int) : (bins l ws).length = ws.length := by simp [bins]
theorem bins_at (l ws : List Int) {i : Nat} (h : i < ws.length) : rowAt (bins l ws) i = bin (at0 ws i).toNat (at0 l i) := by simp [rowAt, bins, h]
theorem bins_shaped {ws : List Int} (l : List Int) (h : Wds ws) : Shaped (bins l ws) ws := by
  refine ⟨bins_length l ws, fun i hi => ?_⟩
  rw [bins_at l ws hi, bin_length]
  have := h i hi
  omega
/-- .. the first j numbers. -/
def putUp (l ws : List Int) (j : Nat) : List Int := ((bins l ws).take j).flatten
theorem putUp_zero (l ws : List Int) : putUp l ws 0 = [] := rfl
theorem putUp_step (l ws : List Int) {j : Nat} (h : j < ws.length) : putUp l ws (j + 1) = putUp l ws j ++ bin (at0 ws j).toNat (at0 l j) := by
  unfold putUp
  rw [flat_step (by rw [bins_length]; exact h), bins_at l ws h]
theorem putUp_all (l ws : List Int) : putUp l ws ws.length = puts l ws := by
  unfold putUp puts
  rw [List.take_of_length_le (by rw [bins_length]; exact Nat.le_refl _)]
theorem putUp_length {ws : List Int} (l : List Int) (h : Wds ws) {j : Nat} (hj : j ≤ ws.length) : (putUp l ws j).length = pre ws j := (bins_shaped l h).pre hj
theorem puts_length {ws : List Int} (l : List Int) (h : Wds ws) : (puts l ws).length = total ws := (bins_shaped l h).total
theorem puts_bit {l ws : List Int} (h : ∀ i, i < ws.length → Fit (at0 l i) (at0 ws i)) : Bit (puts l ws) := by
  intro b hb
  unfold puts at hb
  obtain ⟨r, hr, hb⟩ := List.mem_flatten.1 hb
  obtain ⟨i, hi, rfl⟩ := List.mem_map.1 hr
  obtain ⟨h1, h2, h3, h4⟩ := h i (List.mem_range.1 hi)
  exact bin_bit h3 h4 b hb

/-- The numbers of bits. -/
def gets (bs ws : List Int) : List Int := upto (fun i => num 0 (cutAt bs ws i)) ws.length
theorem gets_length (bs ws : List Int) : (gets bs ws).length = ws.length := upto_length _ _
/-- Put, and got. -/
theorem gets_puts {l ws : List Int} (hl : l.length = ws.length) (h : ∀ i, i < ws.length → Fit (at0 l i) (at0 ws i)) : gets (puts l ws) ws = l := by
  have hs : Wds ws := fun i hi => ⟨(h i hi).1, (h i hi).2.1⟩
  refine eq_of_at (by rw [gets_length, hl]) fun i hi => ?_
  rw [gets_length] at hi
  unfold gets
  rw [upto_at _ hi]
  have e := cuts_at (puts l ws) ws hi
  unfold puts at e ⊢
  rw [cuts_join (bins_shaped l hs)] at e
  rw [← e, bins_at l ws hi]
  obtain ⟨h1, h2, h3, h4⟩ := h i hi
  exact num_bin h3 h4
/-- Got, and put. -/
theorem gets_fit {bs ws : List Int} (hb : Bit bs) (hs : Wds ws) {i : Nat} (hi : i < ws.length) (ht : total ws = bs.length) : Fit (at0 (gets bs ws) i) (at0 ws i) := by
  have h1 := num_in (l := cutAt bs ws i) (bit_take (bit_drop hb _) _)
  rw [cutAt_length ht hi] at h1
  unfold gets
  rw [upto_at _ hi]
  exact ⟨(hs i hi).1, (hs i hi).2, h1.1, h1.2⟩
theorem puts_gets {bs ws : List Int} (hb : Bit bs) (hs : Wds ws) (ht : total ws = bs.length) : puts (gets bs ws) ws = bs := by
  have e : bins (gets bs ws) ws = cuts bs ws := by
    unfold bins cuts
    apply List.map_congr_left
    intro i hi
    have hi := List.mem_range.1 hi
    unfold gets
    rw [upto_at _ hi, ← cutAt_length ht hi]
    exact bin_num (bit_take (bit_drop hb _) _)
  unfold puts
  rw [e]
  exact join_cuts ht

/-- Eight of bits (noughts behind the last ones), and their byte. -/
def eight (bs : List Int) (i : Nat) : List Int := upto (fun k => at0 bs (8 * i + k)) 8
def oct (bs : List Int) : List Int := upto (fun i => num 0 (eight bs i)) ((bs.length + 7) / 8)
theorem eight_length (bs : List Int) (i : Nat) : (eight bs i).length = 8 := upto_length _ _
theorem eight_bit {bs : List Int} (h : Bit bs) (i : Nat) : Bit (eight bs i) := by
  intro b hb
  obtain ⟨k, hk, rfl⟩ := List.mem_map.1 hb
  exact bit_at h _
theorem oct_length (bs : List Int) : (oct bs).length = (bs.length + 7) / 8 := upto_length _ _
theorem oct_in {bs : List Int} (h : Bit bs) : ∀ b ∈ oct bs, 0 ≤ b ∧ b < 256 := by
  intro b hb
  obtain ⟨i, hi, rfl⟩ := List.mem_map.1 hb
  have := num_in (eight_bit h i)
  rw [eight_length] at this
  exact ⟨this.1, by have h2 := this.2; omega⟩
/-- All bits of bytes. -/
def opnF (b : List Int) (j : Nat) : Int := at0 (bin 8 (at0 b (j / 8))) (j % 8)
def opn (b : List Int) : List Int := upto (opnF b) (8 * b.length)
theorem opn_length (b : List Int) : (opn b).length = 8 * b.length := upto_length _ _
theorem opn_bit {b : List Int} (h : ∀ x ∈ b, 0 ≤ x ∧ x < 256) : Bit (opn b) := by
  intro x hx
  obtain ⟨j, hj, rfl⟩ := List.mem_map.1 hx
  have hj := List.mem_range.1 hj
  unfold opnF
  apply bit_at
  have e : at0 b (j / 8) = b[j / 8]'(by omega) := by
    have : j / 8 < b.length := by omega
    simp [at0, this]
  have h2 := h _ (List.getElem_mem (show j / 8 < b.length by omega))
  rw [e]
  exact bin_bit h2.1 (by have := h2.2; omega)
theorem opnF_at (b : List Int) (i k : Nat) (hk : k < 8) : opnF b (8 * i + k) = at0 (bin 8 (at0 b i)) k := by
  unfold opnF
  rw [show (8 * i + k) / 8 = i by omega, show (8 * i + k) % 8 = k by omega]
/-- What is behind the last ones is nought. -/
theorem at0_none {l : List Int} {i : Nat} (h : l.length ≤ i) : at0 l i = 0 := by simp [at0, List.getElem?_eq_none h]
theorem opn_oct {bs : List Int} (h : Bit bs) (j : Nat) (hj : j < 8 * ((bs.length + 7) / 8)) : opnF (oct bs) j = at0 bs j := by
  have hi : j / 8 < (bs.length + 7) / 8 := by omega
  unfold opnF
  have e : at0 (oct bs) (j / 8) = num 0 (eight bs (j / 8)) := by unfold oct; rw [upto_at _ hi]
  have e2 := bin_num (eight_bit h (j / 8))
  rw [eight_length] at e2
  rw [e, e2]
  unfold eight
  rw [upto_at _ (show j % 8 < 8 by omega)]
  congr 1
  omega
theorem take_upto (f : Nat → Int) {n k : Nat} (h : k ≤ n) : (upto f n).take k = upto f k := by
  refine eq_of_at (by rw [List.length_take, upto_length, upto_length]; omega) fun i hi => ?_
  rw [List.length_take, upto_length] at hi
  rw [upto_at _ (by omega)]
  have e : at0 ((upto f n).take k) i = at0 (upto f n) i := by simp [at0, show i < k by omega]
  rw [e, upto_at _ (by omega)]
/-- Bits of the bytes of bits. -/
theorem bits_oct {bs : List Int} (h : Bit bs) : (opn (oct bs)).take bs.length = bs := by
  unfold opn
  rw [oct_length, take_upto _ (by omega)]
  refine eq_of_at (by rw [upto_length]) fun i hi => ?_
  rw [upto_length] at hi
  rw [upto_at _ hi]
  exact opn_oct h i (by omega)
/-- Bytes of the bits of bytes. -/
theorem oct_bits {b : List Int} (hb : ∀ x ∈ b, 0 ≤ x ∧ x < 256) {n : Nat} (hn : b.length = (n + 7) / 8) (h : ∀ j, n ≤ j → j < 8 * b.length → opnF b j ≠ 1) : oct ((opn b).take n) = b := by
  have hlen : ((opn b).take n).length = n := by rw [List.length_take, opn_length]; omega
  refine eq_of_at (by rw [oct_length, hlen, hn]) fun i hi => ?_
  rw [oct_length, hlen] at hi
  unfold oct
  rw [hlen, upto_at _ hi]
  have hib : i < b.length := by omega
  have e : eight ((opn b).take n) i = bin 8 (at0 b i) := by
    refine eq_of_at (by rw [eight_length, bin_length]) fun k hk => ?_
    rw [eight_length] at hk
    unfold eight
    rw [upto_at _ hk, ← opnF_at b i k hk]
    by_cases hx : 8 * i + k < n
    · have e : at0 ((opn b).take n) (8 * i + k) = at0 (opn b) (8 * i + k) := by simp [at0, hx]
      rw [e]
      unfold opn
      exact upto_at _ (by omega)
    · rw [at0_none (by rw [hlen]; omega)]
      have h1 := h (8 * i + k) (by omega) (by omega)
      have h2 := bit_at (opn_bit hb) (8 * i + k)
      unfold opn at h2
      rw [upto_at _ (by omega)] at h2
      omega
  have e2 : at0 b i = b[i] := by simp [at0, hib]
  have h2 := hb _ (List.getElem_mem hib)
  rw [e]
  exact num_bin (by rw [e2]; exact h2.1) (by rw [e2]; have := h2.2; omega)

/-- Neither 0 nor 1. -/
def nob (b : Int) : Bool := decide (b < 0) || decide (1 < b)
/-- The fault of bits. -/
def bsF (bs : List Int) : Int := if 400 < bs.length then 4 else if bs.any nob = true then 1 else 0
theorem nob_any {bs : List Int} : bs.any nob = false ↔ Bit bs := by
  rw [List.any_eq_false]
  constructor
  · intro h b hb
    have := h b hb
    simp [nob] at this
    omega
  · intro h b hb
    have := h b hb
    simp [nob]
    omega
theorem bsF_zero {bs : List Int} : bsF bs = 0 ↔ bs.length ≤ 400 ∧ Bit bs := by
  unfold bsF
  constructor
  · intro h
    split at h
    · omega
    · split at h
      · omega
      · rename_i h1 h2
        exact ⟨by omega, nob_any.1 (by simpa using h2)⟩
  · intro ⟨h1, h2⟩
    rw [if_neg (by omega), if_neg (by rw [nob_any.2 h2]; simp)]
theorem bsF_in (bs : List Int) : bsF bs = 0 ∨ bsF bs = 1 ∨ bsF bs = 4 := by
  unfold bsF
  split
  · omega
  · split <;> omega
instance (n w : Int) : Decidable (Fit n w) := by unfold Fit; infer_instance
/-- The fault of numbers and widths, one by one. -/
def pf : List Int → List Int → Int
  | n :: l, w :: ws => if Fit n w then pf l ws else 1
  | _, _ => 0
theorem pf_in (l ws : List Int) : pf l ws = 0 ∨ pf l ws = 1 := by
  induction l generalizing ws with
  | nil => cases ws <;> exact Or.inl rfl
  | cons n l ih =>
    cases ws with
    | nil => exact Or.inl rfl
    | cons w ws =>
      rw [pf]
      split
      · exact ih ws
      · exact Or.inr rfl
theorem pf_zero {l ws : List Int} (hl : l.length = ws.length) : pf l ws = 0 ↔ ∀ i, i < ws.length → Fit (at0 l i) (at0 ws i) := by
  induction l generalizing ws with
  | nil =>
    cases ws with
    | nil => exact ⟨fun _ i hi => by simp at hi, fun _ => rfl⟩
    | cons w ws => simp at hl
  | cons n l ih =>
    cases ws with
    | nil => simp at hl
    | cons w ws =>
      have hl' : l.length = ws.length := by simpa using hl
      rw [pf]
      constructor
      · intro h
        split at h
        · rename_i h1
          intro i hi
          cases i with
          | zero => simpa [at0] using h1
          | succ i =>
            have := (ih hl').1 h i (by simpa using hi)
            simpa [at0] using this
        · omega
      · intro h
        have h0 := h 0 (by simp)
        rw [if_pos (by simpa [at0] using h0)]
        exact (ih hl').2 fun i hi => by
          have := h (i + 1) (by simpa using hi)
          simpa [at0] using this
/-- The fault of Put. -/
def putF (l ws : List Int) : Int := if l.length = ws.length then (if pf l ws = 0 then (if 400 < (puts l ws).length then 4 else 0) else 1) else 3
theorem putF_in (l ws : List Int) : putF l ws = 0 ∨ putF l ws = 1 ∨ putF l ws = 3 ∨ putF l ws = 4 := by
  unfold putF
  split
  · split
    · split <;> omega
    · omega
  · omega
theorem putF_zero {l ws : List Int} : putF l ws = 0 ↔ l.length = ws.length ∧ (∀ i, i < ws.length → Fit (at0 l i) (at0 ws i)) ∧ (puts l ws).length ≤ 400 := by
  unfold putF
  constructor
  · intro h
    split at h
    · split at h
      · split at h
        · omega
        · rename_i h1 h2 h3
          exact ⟨h1, (pf_zero h1).1 h2, by omega⟩
      · omega
    · omega
  · intro ⟨h1, h2, h3⟩
    rw [if_pos h1, if_pos ((pf_zero h1).2 h2), if_neg (by omega)]
/-- The fault of widths; of Get. -/
def now (w : Int) : Bool := decide (w < 0) || decide (20 < w)
theorem now_any {ws : List Int} : ws.any now = false ↔ Wds ws := by
  rw [List.any_eq_false]
  constructor
  · intro h i hi
    have e : at0 ws i = ws[i] := by simp [at0, hi]
    have := h _ (List.getElem_mem hi)
    rw [e]
    simp [now] at this
    omega
  · intro h b hb
    obtain ⟨i, hi, rfl⟩ := List.getElem_of_mem hb
    have e : at0 ws i = ws[i] := by simp [at0, hi]
    have := h i hi
    rw [e] at this
    simp [now]
    omega
def getF (bs ws : List Int) : Int := if bsF bs = 0 then (if ws.any now = true then 1 else if total ws = bs.length then 0 else 3) else bsF bs
theorem getF_in (bs ws : List Int) : getF bs ws = 0 ∨ getF bs ws = 1 ∨ getF bs ws = 3 ∨ getF bs ws = 4 := by
  have := bsF_in bs
  unfold getF
  split
  · split
    · omega
    · split <;> omega
  · omega
theorem getF_zero {bs ws : List Int} : getF bs ws = 0 ↔ (bs.length ≤ 400 ∧ Bit bs) ∧ Wds ws ∧ total ws = bs.length := by
  unfold getF
  constructor
  · intro h
    split at h
    · rename_i h0
      split at h
      · omega
      · rename_i h1
        split at h
        · rename_i h2
          exact ⟨bsF_zero.1 h0, now_any.1 (by simpa using h1), h2⟩
        · omega
    · omega
  · intro ⟨h1, h2, h3⟩
    rw [if_pos (bsF_zero.2 h1), if_neg (by rw [now_any.2 h2]; simp), if_pos h3]
/-- The fault of bytes that are to be so many bits. -/
def btF (b : List Int) (n : Int) : Int := if n < 0 ∨ 400 < n then 1 else if (b.length : Int) ≠ (n + 7) / 8 then 3 else if ((opn b).drop n.toNat).any (fun x => x == 1) = true then 2 else 0
theorem btF_in (b : List Int) (n : Int) : btF b n = 0 ∨ btF b n = 1 ∨ btF b n = 2 ∨ btF b n = 3 := by
  unfold btF
  split
  · omega
  · split
    · omega
    · split <;> omega
theorem btF_zero {b : List Int} {n : Nat} : btF b n = 0 ↔ n ≤ 400 ∧ b.length = (n + 7) / 8 ∧ ∀ j, n ≤ j → j < 8 * b.length → opnF b j ≠ 1 := by
  unfold btF
  have key : ((opn b).drop n).any (fun x => x == 1) = false ↔ ∀ j, n ≤ j → j < 8 * b.length → opnF b j ≠ 1 := by
    rw [List.any_eq_false]
    constructor
    · intro h j h1 h2
      have hl : j < (opn b).length := by rw [opn_length]; exact h2
      have e : at0 (opn b) j = (opn b)[j] := by simp [at0, hl]
      have e2 : at0 (opn b) j = opnF b j := by unfold opn; exact upto_at _ h2
      have hm : (opn b)[j] ∈ (opn b).drop n := by
        rw [List.mem_iff_getElem]
        refine ⟨j - n, by rw [List.length_drop]; omega, ?_⟩
        rw [List.getElem_drop]
        congr 1
        omega
      have := h _ hm
      rw [← e, e2] at this
      simpa using this
    · intro h x hx
      obtain ⟨k, hk, rfl⟩ := List.getElem_of_mem hx
      rw [List.getElem_drop]
      rw [List.length_drop, opn_length] at hk
      have hl : n + k < (opn b).length := by rw [opn_length]; omega
      have e : at0 (opn b) (n + k) = (opn b)[n + k] := by simp [at0, hl]
      have e2 : at0 (opn b) (n + k) = opnF b (n + k) := by unfold opn; exact upto_at _ (by omega)
      rw [← e, e2]
      have := h (n + k) (by omega) (by omega)
      simpa using this
  constructor
  · intro h
    split at h
    · omega
    · split at h
      · omega
      · split at h
        · omega
        · rename_i h1 h2 h3
          refine ⟨by omega, by omega, key.1 ?_⟩
          rw [Int.toNat_natCast] at h3
          exact Bool.eq_false_iff.2 h3
  · intro ⟨h1, h2, h3⟩
    rw [if_neg (by omega), if_neg (by omega), if_neg ?_]
    rw [Int.toNat_natCast, key.2 h3]
    simp

end Go.Proofs.YthkibjhhlcfceaiGreatDoor.Wid

/-
  More numbers of chapter 13: the bits of a number by shifts, and the last ones moved up. No program here.
-/
namespace Go.Proofs.YthkibjhhlcfceaiGreatDoor.Wid
open Go.Proofs.YthkibjhhlcfceaiGreatDoor.Tre Go.Proofs.YthkibjhhlcfceaiGreatDoor.Bnd
set_option linter.unusedVariables false

theorem mod_div (n : Int) (m : Nat) : n % 2 ^ (m + 1) / 2 ^ m = n / 2 ^ m % 2 := by
  have hp := two_pos m
  have h1 := Int.emod_add_mul_ediv n (2 ^ (m + 1))
  have h2 := Int.emod_add_mul_ediv (n % 2 ^ (m + 1)) (2 ^ m)
  have h3 := mod_in (w := m) (n % 2 ^ (m + 1))
  have h4 := mod_in (w := m + 1) n
  have h5 := div_bit h4.1 h4.2
  have e : n = n % 2 ^ (m + 1) % 2 ^ m + 2 ^ m * (n % 2 ^ (m + 1) / 2 ^ m + 2 * (n / 2 ^ (m + 1))) := by
    rw [Int.mul_add, ← Int.add_assoc, h2, ← Int.mul_assoc, Int.mul_comm (2 ^ m) 2, ← two_succ]
    exact h1.symm
  have e2 : n / 2 ^ m = n % 2 ^ (m + 1) / 2 ^ m + 2 * (n / 2 ^ (m + 1)) := by
    conv => lhs; rw [e]
    rw [Int.add_mul_ediv_left _ _ (by omega), Int.ediv_eq_zero_of_lt h3.1 h3.2]
    omega
  rw [e2]
  omega
theorem mod_mod (n : Int) (m : Nat) : n % 2 ^ (m + 1) % 2 ^ m = n % 2 ^ m := Int.emod_emod_of_dvd n ⟨2, by rw [two_succ]; omega⟩
/-- The next bit, by a shift. -/
theorem bin_next (n : Int) (m : Nat) : bin (m + 1) (n % 2 ^ (m + 1)) = n / 2 ^ m % 2 :: bin m (n % 2 ^ m) := by rw [bin, mod_div, mod_mod]
theorem bin_mod {n : Int} {w : Nat} (h0 : 0 ≤ n) (h1 : n < 2 ^ w) : bin w (n % 2 ^ w) = bin w n := by rw [Int.emod_eq_of_lt h0 h1]

theorem wraps_i64 (n : Int) (h₀ : 0 ≤ n) (h₁ : n < 2 ^ 62) : IntKind.i64.wrap n = n := by rw [IntKind.wrap_i64]; omega
theorem and_one {x : Int} (h0 : 0 ≤ x) (h1 : x ≤ 1048576) : bits .and .i64 x 1 = x % 2 := bits_mask .i64 62 (by decide) wraps_i64 1 (by decide) x h0 (by omega)
theorem or_bit {x b : Int} (h0 : 0 ≤ x) (h1 : x ≤ 1048576) (hb : b = 0 ∨ b = 1) : bits .or .i64 (2 * x) b = 2 * x + b :=
  bits_join .i64 62 (by decide) wraps_i64 1 (2 * x) b (by omega) (by omega) (by omega) (by omega) (by omega) (by omega)

theorem two_le' {k : Nat} (h : k ≤ 20) : (1 : Int) ≤ 2 ^ k ∧ (2 : Int) ^ k ≤ 1048576 := by
  have key : ∀ k : Nat, k < 21 → (1 : Int) ≤ 2 ^ k ∧ (2 : Int) ^ k ≤ 1048576 := by decide +kernel
  exact key k (by omega)
theorem num_take' {l : List Int} {k : Nat} (h : k < l.length) : num 0 (l.take (k + 1)) = 2 * num 0 (l.take k) + at0 l k := by
  have e : at0 l k = l[k] := by simp [at0, h]
  rw [List.take_succ_eq_append_getElem h, num_append, e]
  rfl
theorem num_small' {l : List Int} (h : Bit l) (h20 : l.length ≤ 20) (k : Nat) : 0 ≤ num 0 (l.take k) ∧ num 0 (l.take k) ≤ 1048576 := by
  have h1 := num_in (bit_take h k)
  have h2 := (two_le' (k := (l.take k).length) (by rw [List.length_take]; omega)).2
  exact ⟨h1.1, by omega⟩

/-- Noughts behind. -/
theorem num_zeros (l : List Int) (k : Nat) : num 0 (l ++ upto (fun _ => 0) k) = num 0 l * 2 ^ k := by
  induction k with
  | zero => simp [upto]
  | succ k ih =>
    rw [upto_succ, ← List.append_assoc, num_append, ih]
    simp only [num]
    rw [two_succ]
    have : num 0 l * (2 * 2 ^ k) = 2 * (num 0 l * 2 ^ k) := by rw [← Int.mul_assoc, Int.mul_comm (num 0 l) 2, Int.mul_assoc]
    omega
/-- Eight of bits, cut short at the last. -/
theorem eight_cut (bs : List Int) {i : Nat} (h : 8 * i < bs.length) : eight bs i = (bs.drop (8 * i)).take (min (8 * i + 8) bs.length - 8 * i) ++ upto (fun _ => 0) (8 - (min (8 * i + 8) bs.length - 8 * i)) := by
  have hl : ((bs.drop (8 * i)).take (min (8 * i + 8) bs.length - 8 * i)).length = min (8 * i + 8) bs.length - 8 * i := by rw [List.length_take, List.length_drop]; omega
  refine eq_of_at (by rw [eight_length, List.length_append, hl, upto_length]; omega) fun q hq => ?_
  rw [eight_length] at hq
  have e : at0 (eight bs i) q = at0 bs (8 * i + q) := by unfold eight; exact upto_at _ hq
  rw [e]
  by_cases hx : q < min (8 * i + 8) bs.length - 8 * i
  · have e2 : at0 ((bs.drop (8 * i)).take (min (8 * i + 8) bs.length - 8 * i) ++ upto (fun _ => 0) (8 - (min (8 * i + 8) bs.length - 8 * i))) q = at0 bs (8 * i + q) := by
      unfold at0
      rw [List.getElem?_append_left (by rw [hl]; exact hx), List.getElem?_take, if_pos hx, List.getElem?_drop]
    exact e2.symm
  · have e2 : at0 ((bs.drop (8 * i)).take (min (8 * i + 8) bs.length - 8 * i) ++ upto (fun _ => 0) (8 - (min (8 * i + 8) bs.length - 8 * i))) q = 0 := by
      have := upto_at (fun _ => (0 : Int)) (k := 8 - (min (8 * i + 8) bs.length - 8 * i)) (i := q - (min (8 * i + 8) bs.length - 8 * i)) (by omega)
      unfold at0 at this ⊢
      rw [List.getElem?_append_right (by rw [hl]; omega), hl]
      exact this
    rw [e2]
    exact at0_none (by omega)
theorem num_eight (bs : List Int) {i : Nat} (h : 8 * i < bs.length) : num 0 (eight bs i) = num 0 ((bs.drop (8 * i)).take (min (8 * i + 8) bs.length - 8 * i)) * 2 ^ (8 - (min (8 * i + 8) bs.length - 8 * i)) := by rw [eight_cut bs h, num_zeros]

end Go.Proofs.YthkibjhhlcfceaiGreatDoor.Wid
