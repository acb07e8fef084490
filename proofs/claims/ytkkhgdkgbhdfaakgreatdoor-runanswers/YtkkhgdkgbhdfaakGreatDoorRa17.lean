/-
  Words that are numbers: what a program reads there that reads a number and writes it again. No program here.
-/
import Derived.Test.YtkkhgdkgbhdfaakGreatDoorRa15
import Derived.Lib.AtoiAll
import Derived.Lib.ItoaNum
namespace Go.Proofs.YtkkhgdkgbhdfaakGreatDoor.Ses
open Go.Proofs.YtkkhgdkgbhdfaakGreatDoor.Tre Go.Proofs.YtkkhgdkgbhdfaakGreatDoor.Hrn Go.Proofs.YtkkhgdkgbhdfaakGreatDoor.Txt
set_option linter.unusedVariables false

theorem dig_snoc (m d : Nat) (hm : 0 < m) (hd : d < 10) (h : m * 10 + d < 10 ^ 19) : digits (m * 10 + d) = digits m ++ [48 + (d : Int)] := by
  have h1 : ¬ (m * 10 + d < 10) := by omega
  rw [digits_next h1 h, show (m * 10 + d) / 10 = m by omega]
  congr 2
  have : ((m * 10 + d : Nat) : Int) % 10 = (d : Int) := by omega
  rw [this]
theorem num_is {x : List Int} {k : Nat} (h : num x = some k) : x = digits k := by
  unfold num at h
  split at h
  · simp at h
  · rename_i hn
    match x, hn, h with
    | [], hn, h => simp at hn
    | [a], hn, h =>
      simp only [numGo] at h
      split at h
      · simp at h
      · rename_i ha
        have e : k = (a - 48).toNat := by simpa using h.symm
        rw [e, digits_small (by omega)]
        congr 1
        omega
    | [a, b], hn, h =>
      simp only [numGo] at h
      split at h
      · simp at h
      · split at h
        · simp at h
        · rename_i ha hb
          have a1 : a ≠ 48 := fun e => hn (Or.inr (Or.inr ⟨by simpa [at0] using e, by simp⟩))
          have e : k = (a - 48).toNat * 10 + (b - 48).toNat := by
            have := h.symm
            simp at this
            omega
          rw [e, dig_snoc _ _ (by omega) (by omega) (by omega), digits_small (by omega)]
          simp
          omega
    | [a, b, c], hn, h =>
      simp only [numGo] at h
      split at h
      · simp at h
      · split at h
        · simp at h
        · split at h
          · simp at h
          · rename_i ha hb hc
            have a1 : a ≠ 48 := fun e => hn (Or.inr (Or.inr ⟨by simpa [at0] using e, by simp⟩))
            have e : k = ((a - 48).toNat * 10 + (b - 48).toNat) * 10 + (c - 48).toNat := by
              have := h.symm
              simp at this
              omega
            rw [e, dig_snoc _ _ (by omega) (by omega) (by omega), dig_snoc _ _ (by omega) (by omega) (by omega), digits_small (by omega)]
            simp
            omega
    | [a, b, c, d], hn, h =>
      simp only [numGo] at h
      split at h
      · simp at h
      · split at h
        · simp at h
        · split at h
          · simp at h
          · split at h
            · simp at h
            · rename_i ha hb hc hd
              have a1 : a ≠ 48 := fun e => hn (Or.inr (Or.inr ⟨by simpa [at0] using e, by simp⟩))
              have e : k = (((a - 48).toNat * 10 + (b - 48).toNat) * 10 + (c - 48).toNat) * 10 + (d - 48).toNat := by
                have := h.symm
                simp at this
                omega
              rw [e, dig_snoc _ _ (by omega) (by omega) (by omega), dig_snoc _ _ (by omega) (by omega) (by omega), dig_snoc _ _ (by omega) (by omega) (by omega), digits_small (by omega)]
              simp
              omega
    | a :: b :: c :: d :: e :: r, hn, h => simp at hn
theorem num_lead {x : List Int} {k : Nat} (h : num x = some k) : at0 x 0 ≠ 45 := by
  rw [num_is h]
  intro e
  have h1 := digits_in k (at0 (digits k) 0) (by
    have h2 := digits_ne k
    cases e2 : digits k with
    | nil => exact absurd e2 h2
    | cons a r => simp [at0])
  omega
/-- What a number with a sign is, as a word. -/
theorem wd_is {x : List Int} {n : Int} (h : wd true x = some n) : x = tl1 n ∧ -9999 ≤ n ∧ n ≤ 9999 := by
  refine ⟨?_, (wd_in h).1, (wd_in h).2.1⟩
  unfold wd at h
  split at h
  · rename_i hn
    split at h
    · simp at h
    · rename_i m hm
      split at h
      · simp at h
      · rename_i hm0
        have e : n = -(m : Int) := by simpa using h.symm
        have h1 := num_is hm
        obtain ⟨_, h2, h3⟩ := hn
        unfold tl1
        rw [if_pos (by omega), show n.natAbs = m by omega, ← h1]
        cases x with
        | nil => simp at h2
        | cons a r =>
          have : a = 45 := by simpa [at0] using h3
          simp [this]
  · split at h
    · simp at h
    · rename_i m hm
      have e : n = (m : Int) := by simpa using h.symm
      unfold tl1
      rw [if_neg (by omega), show n.natAbs = m by omega, ← num_is hm]
      rfl
theorem wd_plain (x : List Int) (k : Int) : wd false x = some k ↔ (wd true x = some k ∧ 0 ≤ k) := by
  constructor
  · intro h
    have h0 : wd false x = (match num x with | none => none | some k => some (k : Int)) := by unfold wd; rw [if_neg (by simp)]; cases num x <;> rfl
    rw [h0] at h
    split at h
    · simp at h
    · rename_i m hm
      have e : k = (m : Int) := by simpa using h.symm
      have hl := num_lead hm
      refine ⟨?_, by omega⟩
      unfold wd
      rw [if_neg (fun hc => hl hc.2.2), hm, e]
  · rintro ⟨h, hk⟩
    have h0 : wd false x = (match num x with | none => none | some k => some (k : Int)) := by unfold wd; rw [if_neg (by simp)]; cases num x <;> rfl
    rw [h0]
    unfold wd at h
    split at h
    · split at h
      · simp at h
      · split at h
        · simp at h
        · rename_i hm0
          have e := Option.some.inj h
          exfalso
          omega
    · exact h
def all4 (p : Nat → Bool) : Nat → Bool
  | 0 => true
  | n + 1 => all4 p n && p n
theorem all4_at {p : Nat → Bool} {N : Nat} (h : all4 p N = true) (n : Nat) (hn : n < N) : p n = true := by
  induction N with
  | zero => omega
  | succ N ih =>
    rw [all4, Bool.and_eq_true] at h
    rcases Nat.lt_or_ge n N with h1 | h1
    · exact ih h.1 h1
    · rw [show n = N by omega]; exact h.2
def blk4 (p : Nat → Bool) : Bool := all4 (fun a => all4 (fun b => p (100 * a + b)) 100) 100
theorem blk4_at {p : Nat → Bool} (h : blk4 p = true) (n : Nat) (hn : n < 10000) : p n = true := by
  have h1 := all4_at (all4_at h (n / 100) (by omega)) (n % 100) (by omega)
  rwa [show 100 * (n / 100) + n % 100 = n by omega] at h1
theorem num_all : blk4 (fun n => decide (num (digits n) = some n)) = true := by decide +kernel
theorem num_digits {n : Nat} (h : n ≤ 9999) : num (digits n) = some n := of_decide_eq_true (blk4_at num_all n (by omega))
theorem wd_tl1 {n : Int} (h0 : -9999 ≤ n) (h1 : n ≤ 9999) : wd true (tl1 n) = some n := by
  have hn := num_digits (n := n.natAbs) (by omega)
  have hl := num_lead hn
  unfold tl1
  by_cases hneg : n < 0
  · rw [if_pos hneg]
    have hne := digits_ne n.natAbs
    unfold wd
    rw [if_pos ⟨rfl, by
      have : 0 < (digits n.natAbs).length := List.length_pos_iff.2 hne
      simp
      omega, by simp [at0]⟩]
    simp only [List.cons_append, List.nil_append, List.drop_succ_cons, List.drop_zero]
    rw [hn]
    simp only
    rw [if_neg (by omega)]
    congr 1
    omega
  · rw [if_neg hneg, List.nil_append]
    unfold wd
    rw [if_neg (fun hc => hl hc.2.2), hn]
    simp only
    congr 1
    omega
/-- The digits, as the library's own text says them. -/
theorem dec_digits (u : Nat) (h : u < 10 ^ 19) : Lib.decDigits u = u8s (digits u) := by
  induction u using Nat.strongRecOn with
  | _ u ih =>
    rw [Lib.decDigits]
    by_cases h1 : u < 10
    · rw [dif_pos h1, digits_small h1]
      show _ = [UInt8.ofNat (48 + (u : Int)).toNat]
      congr 2
    · rw [dif_neg h1, digits_next h1 h, ih (u / 10) (by omega) (by omega)]
      unfold u8s
      rw [List.map_append]
      congr 1
theorem itoa_is {n : Int} (h0 : -9223372036854775808 ≤ n) (h1 : n ≤ 9223372036854775807) : (⟨(Lib.itoa n).toArray⟩ : ByteArray) = str (tl1 n) := by
  unfold str
  congr 2
  unfold Lib.itoa tl1
  by_cases h : n < 0
  · rw [if_pos h, if_pos h, dec_digits _ (by omega)]
    rfl
  · rw [if_neg h, if_neg h, dec_digits _ (by omega), show n.toNat = n.natAbs by omega]
    rfl
theorem parse_more (acc : Nat) (l : List UInt8) (c : UInt8) {u : Nat} (h : Lib.parseUint10 acc l = .ok u) (hu : u ≤ 1000000) (hc : 48 ≤ c.toNat ∧ c.toNat ≤ 57) : Lib.parseUint10 acc (l ++ [c]) = .ok (u * 10 + (c.toNat - 48)) := by
  induction l generalizing acc with
  | nil =>
    simp only [Lib.parseUint10] at h
    injection h with h
    rw [List.nil_append, Lib.parseUint10, if_pos hc, if_neg (by omega), if_neg (by omega), Lib.parseUint10, h]
  | cons b l ih =>
    rw [Lib.parseUint10] at h
    rw [List.cons_append, Lib.parseUint10]
    split at h
    · rename_i hb
      rw [if_pos hb]
      split at h
      · cases h
      · rename_i h2
        rw [if_neg h2]
        split at h
        · cases h
        · rename_i h3
          rw [if_neg h3]
          exact ih _ h
    · cases h
theorem parse_digits (u : Nat) (h : u ≤ 100000) : Lib.parseUint10 0 (u8s (digits u)) = .ok u := by
  induction u using Nat.strongRecOn with
  | _ u ih =>
    have hof : ∀ d : Nat, d < 10 → (UInt8.ofNat (48 + d)).toNat = 48 + d := fun d hd => by
      rw [UInt8.toNat_ofNat']
      omega
    by_cases h1 : u < 10
    · rw [digits_small h1]
      show Lib.parseUint10 0 [UInt8.ofNat (48 + (u : Int)).toNat] = _
      rw [show (48 + (u : Int)).toNat = 48 + u by omega, Lib.parseUint10, hof u h1, if_pos (by omega), if_neg (by omega), if_neg (by omega), Lib.parseUint10]
      congr 1
      omega
    · rw [digits_next h1 (by omega)]
      have h2 := ih (u / 10) (by omega) (by omega)
      unfold u8s at h2 ⊢
      rw [List.map_append]
      show Lib.parseUint10 0 (_ ++ [UInt8.ofNat (48 + (u : Int) % 10).toNat]) = _
      rw [show (48 + (u : Int) % 10).toNat = 48 + u % 10 by omega, parse_more 0 _ _ h2 (by omega) (by rw [hof _ (by omega)]; omega), hof _ (by omega)]
      congr 1
      omega
theorem mag_digits (u : Nat) (h : u ≤ 100000) : Lib.parseMag (u8s (digits u)) = .ok u := by
  unfold Lib.parseMag
  rw [if_neg (by
    intro e
    have h1 := digits_ne u
    cases e2 : digits u with
    | nil => exact h1 e2
    | cons a r => rw [e2] at e; simp [u8s] at e), parse_digits u h]
/-- A number that is written is read. -/
theorem atoi_is {n : Int} (h0 : -9999 ≤ n) (h1 : n ≤ 9999) : Lib.atoiAll (str (tl1 n)).data.toList = .ok n := by
  have hm := mag_digits n.natAbs (by omega)
  show Lib.atoiAll (u8s (tl1 n)) = _
  unfold tl1
  by_cases h : n < 0
  · rw [if_pos h]
    show Lib.atoiAll (UInt8.ofNat (45 : Int).toNat :: u8s (digits n.natAbs)) = _
    unfold Lib.atoiAll
    have e : (UInt8.ofNat (45 : Int).toNat).toNat = 45 := by decide
    simp only [e]
    rw [if_pos (Or.inr trivial), hm]
    simp only
    rw [if_neg (by simp), if_neg (by omega), if_pos trivial]
    congr 1
    omega
  · rw [if_neg h, List.nil_append]
    have hne := digits_ne n.natAbs
    have hin := digits_in n.natAbs
    cases e : digits n.natAbs with
    | nil => exact absurd e hne
    | cons a r =>
      have ha := hin a (by rw [e]; simp)
      rw [e] at hm
      have hc : (UInt8.ofNat a.toNat).toNat = a.toNat := by
        rw [UInt8.toNat_ofNat']
        omega
      show Lib.atoiAll (UInt8.ofNat a.toNat :: u8s r) = _
      unfold Lib.atoiAll
      simp only [hc]
      rw [if_neg (by omega)]
      rw [show (UInt8.ofNat a.toNat :: u8s r) = u8s (a :: r) from rfl, hm]
      simp only
      rw [if_neg (by omega), if_neg (by omega), if_neg (by omega)]
      congr 1
      omega
theorem tl1_byts (n : Int) : Byts (tl1 n) := fun b hb => by have := tl1_asc n b hb; omega
/-- Just what is written so is read. -/
theorem wd_none_of {x : List Int} (hx : Byts x) {n : Int} (h : Lib.atoiAll (str x).data.toList = .ok n) (hw : wd true x = none) (h0 : -9999 ≤ n) (h1 : n ≤ 9999) : str x ≠ str (tl1 n) := fun e => by
  rw [str_inj hx (tl1_byts n) e, wd_tl1 h0 h1] at hw
  cases hw
theorem wd_some_of {x : List Int} {n : Int} (hw : wd true x = some n) : Lib.atoiAll (str x).data.toList = .ok n ∧ x = tl1 n ∧ -9999 ≤ n ∧ n ≤ 9999 := by
  obtain ⟨e, h0, h1⟩ := wd_is hw
  rw [e]
  exact ⟨atoi_is h0 h1, rfl, h0, h1⟩

end Go.Proofs.YtkkhgdkgbhdfaakGreatDoor.Ses

/-
  A line's words, read as the program reads them. No program here.
-/
namespace Go.Proofs.YtkkhgdkgbhdfaakGreatDoor.Ses
open Go.Proofs.YtkkhgdkgbhdfaakGreatDoor.Tre Go.Proofs.YtkkhgdkgbhdfaakGreatDoor.Hrn Go.Proofs.YtkkhgdkgbhdfaakGreatDoor.Txt
set_option linter.unusedVariables false

/-- How many numbers come first that are not below 0. -/
def fst20 : Nat → Int
  | 1 => 2
  | 3 => 3
  | 4 => 1
  | 5 => 1
  | 6 => 1
  | _ => 0
/-- Are so many numbers what is wanted? -/
def fits20 (K : Nat) (m : Nat) : Bool := if more K = true then decide (fst20 K < (m : Int)) else decide ((m : Int) = fst20 K)
theorem fits_is {K m : Nat} (h7 : K ≤ 7) (h0 : K ≠ 0) : fits20 K m = true ↔ (many K ≤ m ∧ (many K < m → more K = true)) := by
  have hk : K = 1 ∨ K = 2 ∨ K = 3 ∨ K = 4 ∨ K = 5 ∨ K = 6 ∨ K = 7 := by omega
  rcases hk with rfl | rfl | rfl | rfl | rfl | rfl | rfl <;> simp [fits20, more, many, fst20] <;> omega
theorem fst_in (K : Nat) : 0 ≤ fst20 K ∧ fst20 K ≤ 3 := by
  unfold fst20
  split <;> omega
/-- From there on they may be below 0. -/
theorem below_is {K m i : Nat} (h7 : K ≤ 7) (h0 : K ≠ 0) (hf : fits20 K m = true) (hi : i < m) : decide (below K ≤ i) = !decide ((i : Int) < fst20 K) := by
  have hk : K = 1 ∨ K = 2 ∨ K = 3 ∨ K = 4 ∨ K = 5 ∨ K = 6 ∨ K = 7 := by omega
  have key : below K ≤ i ↔ ¬ ((i : Int) < fst20 K) := by
    rcases hk with rfl | rfl | rfl | rfl | rfl | rfl | rfl <;> simp [fits20, more, fst20] at hf <;> simp only [below, fst20] <;> omega
  by_cases h : below K ≤ i
  · rw [decide_eq_true h, decide_eq_false (key.1 h)]; rfl
  · rw [decide_eq_false h, decide_eq_true (by have := mt key.2 h; omega)]; rfl
theorem wd_both {x : List Int} (h : wd true x = none) (b : Bool) : wd b x = none := by
  cases b with
  | true => exact h
  | false =>
    cases hf : wd false x with
    | none => rfl
    | some k => rw [((wd_plain x k).1 hf).1] at h; cases h
theorem wd_below {x : List Int} {n : Int} (h : wd true x = some n) (hn : n < 0) : wd false x = none := by
  cases hf : wd false x with
  | none => rfl
  | some k =>
    obtain ⟨h1, h2⟩ := (wd_plain x k).1 hf
    rw [h1] at h
    injection h with h
    omega
theorem wd_read {x : List Int} {n : Int} {b : Bool} (h : wd true x = some n) (hb : b = true ∨ 0 ≤ n) : wd b x = some n := by
  cases b with
  | true => exact h
  | false => exact (wd_plain x n).2 ⟨h, hb.resolve_left (by simp)⟩
/-- No line of its words: which is none of them, or has not as many. -/
theorem none_kind {l : List Int} (h : kind (hd l) = 0) : ∀ n, ¬ Reads l n := fun n hn => hn.1 h
theorem none_fits {l : List Int} (h0 : kind (hd l) ≠ 0) (h : fits20 (kind (hd l)) (tlw l).length = false) : ∀ n, ¬ Reads l n := fun n ⟨_, h2, h3, h4⟩ => by
  have hl := nms_length h2
  have := (fits_is (m := (tlw l).length) (kind_in (hd l)) h0).2 ⟨by omega, fun h5 => h4 (by omega)⟩
  rw [h] at this
  cases this
theorem none_word {l n : List Int} {j : Nat} (h : Rd (below (kind (hd l))) l j n) (hj : j < (tlw l).length) (hw : wd (decide (below (kind (hd l)) ≤ j)) ((tlw l).getD j []) = none) : ∀ n, ¬ Reads l n := reads_bad (rd_none h hj hw)
theorem all_read {l n : List Int} (h0 : kind (hd l) ≠ 0) (hf : fits20 (kind (hd l)) (tlw l).length = true) (h : Rd (below (kind (hd l))) l (tlw l).length n) : Reads l n := by
  have h2 := rd_end h
  have hl := nms_length h2
  obtain ⟨h3, h4⟩ := (fits_is (kind_in (hd l)) h0).1 hf
  exact ⟨h0, h2, by omega, fun h5 => h4 (by omega)⟩
/-- How many there are, and how great, of each kind. -/
theorem reads_length {l n : List Int} (h : Reads l n) : many (kind (hd l)) ≤ n.length ∧ (more (kind (hd l)) = false → n.length = many (kind (hd l))) ∧ n.length ≤ l.length := by
  obtain ⟨h1, h2, h3, h4⟩ := h
  have hl := nms_length h2
  have h5 := tlw_length l
  have h6 := cut_length 32 l
  refine ⟨h3, fun h7 => ?_, by omega⟩
  rcases Nat.lt_or_ge (many (kind (hd l))) n.length with h8 | h8
  · rw [h4 h8] at h7; cases h7
  · omega
theorem reads_in {l n : List Int} (h : Reads l n) : ∀ j, j < n.length → -9999 ≤ at0 n j ∧ at0 n j ≤ 9999 ∧ (j < below (kind (hd l)) → 0 ≤ at0 n j) := fun j hj => by
  have := nms_in h.2.1 j hj
  refine ⟨this.1, this.2.1, fun h => this.2.2 (by omega)⟩

/-- Lines, one behind the other: what is told so far, and what is to come. -/
def Todo (t rest : List Int) (o : List Int) (H : Int) : Prop := ∀ o' H', Sess H (lines rest) o' H' → Sess 100 (lines t) (o ++ o') H'
theorem Todo.zero (t : List Int) : Todo t t [] 100 := fun o' H' h => h
theorem Todo.next {t rest a r o x : List Int} {H H1 : Int} (h : Todo t rest o H) (hl : lines rest = a :: lines r) (hx : Line H a x H1) : Todo t r (o ++ (x ++ [10])) H1 := fun o' H' h' => by
  have := h (x ++ 10 :: o') H' (by rw [hl]; exact ⟨x, H1, o', hx, h', rfl⟩)
  simpa using this
theorem Todo.done {t o : List Int} {H : Int} (h : Todo t [] o H) : Sess 100 (lines t) o H := by
  have := h [] H (by rw [lines_nil]; exact ⟨rfl, rfl⟩)
  simpa using this
theorem lines_one {l : List Int} (hne : l ≠ []) (h : ∀ b ∈ l, b ≠ 10) : lines l = l :: lines [] := by
  unfold lines
  rw [cut_none h]
  rw [if_neg (by simpa using hne)]
  rfl
theorem lines_more {a r : List Int} (h : ∀ b ∈ a, b ≠ 10) : lines (a ++ 10 :: r) = a :: lines r := by
  rw [lines_two, cut_none h]
  rfl

end Go.Proofs.YtkkhgdkgbhdfaakGreatDoor.Ses
