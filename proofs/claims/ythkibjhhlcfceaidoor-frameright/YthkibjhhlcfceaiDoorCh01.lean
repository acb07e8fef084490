/-
  The numbers of chapter 5: how many rows of so many numbers and pulses there are. No program here.
-/
import Derived.Test.YthkibjhhlcfceaiDoorCh00
namespace Go.Proofs.YthkibjhhlcfceaiDoor.Cnt
open Go.Proofs.YthkibjhhlcfceaiDoor.Tre Go.Proofs.YthkibjhhlcfceaiDoor.Lap
set_option linter.unusedVariables false

/-- Of one pulse more. -/
def more (f : Nat → Int) : Nat → Int
  | 0 => 0
  | n + 1 => more f n + f (n + 1) + f n
/-- How many rows there are, of k pulses and n numbers. -/
def V : Nat → Nat → Int
  | 0, _ => 1
  | k + 1, n => more (V k) n
/-- .. of n from 0 to 6. -/
def cts (k : Nat) : List Int := upto (V k) 7

theorem V_zero (n : Nat) : V 0 n = 1 := rfl
theorem V_none (k : Nat) : V (k + 1) 0 = 0 := rfl
theorem V_sum (k n : Nat) : V (k + 1) (n + 1) = V (k + 1) n + V k (n + 1) + V k n := rfl
theorem V_in : ∀ k n : Nat, k < 9 → n < 7 → 0 ≤ V k n ∧ V k n ≤ 20256 := by
  have h : ∀ k : Nat, k < 9 → ∀ n : Nat, n < 7 → 0 ≤ V k n ∧ V k n ≤ 20256 := by decide +kernel
  exact fun k n hk hn => h k hk n hn
theorem V_turns : ∀ k n : Nat, k < 7 → n < 7 → (k : Int) * V k n = (n : Int) * V n k := by
  have h : ∀ k : Nat, k < 7 → ∀ n : Nat, n < 7 → (k : Int) * V k n = (n : Int) * V n k := by decide +kernel
  exact fun k n hk hn => h k hk n hn
theorem V_one : ∀ n : Nat, n < 7 → V 1 n = 2 * (n : Int) := by decide +kernel
theorem V_single : ∀ k : Nat, k < 9 → V k 1 = if k = 0 then 1 else 2 := by decide +kernel
theorem V_fact : V 2 3 = 18 := by decide +kernel

theorem cts_length (k : Nat) : (cts k).length = 7 := upto_length _ _
theorem cts_at (k : Nat) {n : Nat} (h : n < 7) : at0 (cts k) n = V k n := upto_at _ h
theorem cts_zero : cts 0 = List.replicate 7 1 := rfl
/-- The first is 0 already. -/
theorem mid_one (k : Nat) : mid (V (k + 1)) (fun _ => 0) 7 1 = List.replicate 7 0 := by
  refine eq_of_at (by rw [mid_length]; rfl) fun i hi => ?_
  rw [mid_length] at hi
  unfold mid
  rw [upto_at _ hi]
  have hr : at0 (List.replicate 7 0) i = 0 := by unfold at0; rw [List.getElem?_replicate, if_pos hi]; rfl
  rw [hr]
  by_cases h : i < 1
  · obtain rfl : i = 0 := by omega
    rfl
  · rw [if_neg h]
theorem mid_lt (f g : Nat → Int) {n j i : Nat} (h : i < n) (hj : i < j) : at0 (mid f g n j) i = f i := by unfold mid; rw [upto_at _ h, if_pos hj]

/-- The least number of bits. -/
def Least (m : Int) (b : Nat) : Prop := m ≤ 2 ^ b ∧ ∀ i, i < b → (2 : Int) ^ i < m
theorem Least.one {m : Int} {b c : Nat} (h : Least m b) (k : Least m c) : b = c := by
  rcases Nat.lt_trichotomy b c with e | e | e
  · have := k.2 b e; have := h.1; omega
  · exact e
  · have := h.2 c e; have := k.1; omega
theorem Least.le {m : Int} {b : Nat} (h : Least m b) (hm : m ≤ 20256) : b ≤ 15 := by
  rcases Nat.lt_or_ge 15 b with e | e
  · have := h.2 15 e
    omega
  · exact e

/-- As the document's own answer goes: of one number more, whatever that is. -/
def sumF (f : Nat → Int) : Nat → Int
  | 0 => 0
  | j + 1 => sumF f j + f j
theorem V_more (j n : Nat) : V j (n + 1) = V j n + 2 * sumF (fun i => V i n) j := by
  induction j with
  | zero => rfl
  | succ j ih => rw [V_sum, ih]; simp only [sumF]; omega

theorem pow_in : ∀ j : Nat, j < 16 → (1 : Int) ≤ 2 ^ j ∧ (2 : Int) ^ j ≤ 32768 := by decide +kernel

end Go.Proofs.YthkibjhhlcfceaiDoor.Cnt

/-
  A slice of slices of integers in memory, for all walks of this seat.
-/
namespace Go.Proofs.YthkibjhhlcfceaiDoor
open Go.RowKit
set_option linter.unusedVariables false

/-- The row at a place (none behind the last). -/
def rowAt (ll : List (List Int)) (r : Nat) : List Int := ll.getD r []
theorem rowAt_get {ll : List (List Int)} {r : Nat} (h : r < ll.length) : rowAt ll r = ll[r] := by simp [rowAt, h]

/-- One cell holds a slice of these integers. -/
def Cel (w : World) (p : Addr) (l : List Int) : Prop :=
  ∃ A C, w.cell? p = some (.slice A l.length C) ∧ (A = none → C = 0) ∧ l.length ≤ C ∧ C ≤ 9223372036854775807 ∧ Row w A l

/-- The rows lie where a slice's address says. -/
def Rws (w : World) (a : Option Addr) (ll : List (List Int)) : Prop :=
  ll = [] ∨ ∃ b off, a = some ⟨b, off, none⟩ ∧ b < w.heap.size ∧ ∀ r, r < ll.length → Cel w ⟨b, off + r, none⟩ (rowAt ll r)

theorem Cel.below {w w' : World} {p : Addr} {l : List Int} (h : Cel w p l) (hp : p.block < w.heap.size) (hb : Below w.heap.size w w') : Cel w' p l := by
  obtain ⟨A, C, h1, h2, h3, h4, h5⟩ := h
  exact ⟨A, C, (hb.cell hp).trans h1, h2, h3, h4, h5.below hb⟩
theorem Rws.below {w w' : World} {a : Option Addr} {ll : List (List Int)} (h : Rws w a ll) (hb : Below w.heap.size w w') : Rws w' a ll := by
  rcases h with h | ⟨b, off, ha, hlt, hc⟩
  · exact Or.inl h
  · exact Or.inr ⟨b, off, ha, Nat.lt_of_lt_of_le hlt hb.size, fun r hr => (hc r hr).below hlt hb⟩
theorem Rws.at {w : World} {a : Option Addr} {ll : List (List Int)} (h : Rws w a ll) {k : Nat} (hk : k < ll.length) :
    ∃ b off, a = some ⟨b, off, none⟩ ∧ b < w.heap.size ∧ ∀ r, r < ll.length → Cel w ⟨b, off + r, none⟩ (rowAt ll r) := by
  rcases h with h | h
  · subst h; exact absurd hk (by simp)
  · exact h

end Go.Proofs.YthkibjhhlcfceaiDoor

/-
  The numbers of chapter 9, as lists: sizes, what they have in all, numbers cut apart, and joined. No program here.
-/
namespace Go.Proofs.YthkibjhhlcfceaiDoor.Bnd
open Go.Proofs.YthkibjhhlcfceaiDoor.Tre
set_option linter.unusedVariables false

/-- No size. -/
def bad (n : Int) : Bool := decide (n < 1) || decide (6 < n)
/-- How many numbers the first j bands have. -/
def pre (s : List Int) : Nat → Nat
  | 0 => 0
  | j + 1 => pre s j + (at0 s j).toNat
def total (s : List Int) : Nat := pre s s.length
/-- The fault of sizes: 0 where there is none. -/
def bf (s : List Int) : Int := if s.length = 0 then 5 else if 8 < s.length then 4 else if s.any bad = true then 1 else if 32 < total s then 4 else 0
/-- Band j, and all. -/
def cutAt (l s : List Int) (j : Nat) : List Int := (l.drop (pre s j)).take (at0 s j).toNat
def cuts (l s : List Int) : List (List Int) := (List.range s.length).map (cutAt l s)
/-- As many bands, each of its size. -/
def Shaped (ll : List (List Int)) (s : List Int) : Prop := ll.length = s.length ∧ ∀ i, i < s.length → ((rowAt ll i).length : Int) = at0 s i
/-- All sizes are such. -/
def Sizes (s : List Int) : Prop := ∀ i, i < s.length → 1 ≤ at0 s i ∧ at0 s i ≤ 6

theorem bad_no {n : Int} (h : bad n = false) : 1 ≤ n ∧ n ≤ 6 := by simp [bad] at h; omega
theorem at_get {s : List Int} {i : Nat} (h : i < s.length) : at0 s i = s[i] := by simp [at0, h]
theorem bf_ok {s : List Int} (h : bf s = 0) : 0 < s.length ∧ s.length ≤ 8 ∧ Sizes s ∧ total s ≤ 32 := by
  unfold bf at h
  split at h
  · omega
  · split at h
    · omega
    · split at h
      · omega
      · split at h
        · omega
        · rename_i h1 h2 h3 h4
          refine ⟨by omega, by omega, fun i hi => ?_, by omega⟩
          rw [at_get hi]
          have h5 : s.any bad = false := by simpa using h3
          exact bad_no (by simpa using List.any_eq_false.1 h5 _ (List.getElem_mem hi))
theorem any_bad_no {s : List Int} (h : Sizes s) : s.any bad = false := by
  apply List.any_eq_false.2
  intro n hn
  obtain ⟨i, hi, rfl⟩ := List.getElem_of_mem hn
  have := h i hi
  rw [at_get hi] at this
  simp [bad]; omega
theorem bf_of {s : List Int} (h0 : 0 < s.length) (h8 : s.length ≤ 8) (h1 : Sizes s) (h2 : total s ≤ 32) : bf s = 0 := by
  unfold bf
  rw [if_neg (by omega), if_neg (by omega), if_neg (by rw [any_bad_no h1]; simp), if_neg (by omega)]

theorem pre_le (s : List Int) {i j : Nat} (h : i ≤ j) : pre s i ≤ pre s j := by
  induction j with
  | zero => obtain rfl : i = 0 := by omega
            exact Nat.le_refl _
  | succ j ih =>
    by_cases e : i = j + 1
    · rw [e]; exact Nat.le_refl _
    · have := ih (by omega)
      simp only [pre]; omega
theorem pre_succ (s : List Int) (j : Nat) : pre s (j + 1) = pre s j + (at0 s j).toNat := rfl
theorem pre_total (s : List Int) {j : Nat} (h : j ≤ s.length) : pre s j ≤ total s := pre_le s h
/-- .. where all are sizes: no more than six times as many. -/
theorem pre_six {s : List Int} (h : Sizes s) {j : Nat} (hj : j ≤ s.length) : pre s j ≤ 6 * j := by
  induction j with
  | zero => exact Nat.le_refl _
  | succ j ih =>
    have := ih (by omega)
    have := h j (by omega)
    simp only [pre]; omega
theorem total_pos {s : List Int} (h : Sizes s) (h0 : 0 < s.length) : 0 < total s := by
  have h1 := pre_total s (j := 1) h0
  have h2 := h 0 h0
  simp only [pre] at h1
  omega

theorem cuts_length (l s : List Int) : (cuts l s).length = s.length := by simp [cuts]
theorem cuts_at (l s : List Int) {j : Nat} (h : j < s.length) : rowAt (cuts l s) j = cutAt l s j := by simp [rowAt, cuts, h]
theorem cutAt_length {l s : List Int} (hs : total s = l.length) {j : Nat} (h : j < s.length) : (cutAt l s j).length = (at0 s j).toNat := by
  have := pre_total s (j := j + 1) h
  rw [pre_succ] at this
  unfold cutAt
  rw [List.length_take, List.length_drop]
  omega
theorem shaped_cuts {l s : List Int} (h1 : Sizes s) (hs : total s = l.length) : Shaped (cuts l s) s := by
  refine ⟨cuts_length l s, fun i hi => ?_⟩
  rw [cuts_at l s hi, cutAt_length hs hi]
  have := h1 i hi
  omega

theorem take_succ_rows {ll : List (List Int)} {j : Nat} (h : j < ll.length) : ll.take (j + 1) = ll.take j ++ [rowAt ll j] := by
  rw [List.take_succ_eq_append_getElem h, rowAt_get h]
theorem flat_step {ll : List (List Int)} {j : Nat} (h : j < ll.length) : (ll.take (j + 1)).flatten = (ll.take j).flatten ++ rowAt ll j := by
  rw [take_succ_rows h, List.flatten_append]; simp
theorem flat_le (ll : List (List Int)) (j : Nat) : (ll.take j).flatten.length ≤ ll.flatten.length := by
  conv => rhs; rw [← List.take_append_drop j ll, List.flatten_append, List.length_append]
  omega

/-- Cut, and joined: the first j. -/
theorem cuts_take (l s : List Int) {j : Nat} (h : j ≤ s.length) : ((cuts l s).take j).flatten = l.take (pre s j) := by
  induction j with
  | zero => simp [pre]
  | succ j ih =>
    rw [flat_step (by rw [cuts_length]; omega), ih (by omega), cuts_at l s (by omega), pre_succ, List.take_add]
    rfl
theorem join_cuts {l s : List Int} (hs : total s = l.length) : (cuts l s).flatten = l := by
  have := cuts_take l s (Nat.le_refl s.length)
  rw [List.take_of_length_le (by rw [cuts_length]; exact Nat.le_refl _)] at this
  rw [this]
  exact List.take_of_length_le (by show l.length ≤ total s; omega)

theorem Shaped.pre {ll : List (List Int)} {s : List Int} (h : Shaped ll s) {j : Nat} (hj : j ≤ s.length) : (ll.take j).flatten.length = pre s j := by
  induction j with
  | zero => simp [Bnd.pre]
  | succ j ih =>
    rw [flat_step (by rw [h.1]; omega), List.length_append, ih (by omega), pre_succ]
    have := h.2 j (by omega)
    omega
theorem Shaped.total {ll : List (List Int)} {s : List Int} (h : Shaped ll s) : ll.flatten.length = total s := by
  have := h.pre (Nat.le_refl s.length)
  rw [List.take_of_length_le (by rw [h.1]; exact Nat.le_refl _)] at this
  exact this
/-- Joined, and cut. -/
theorem cuts_join {ll : List (List Int)} {s : List Int} (h : Shaped ll s) : cuts ll.flatten s = ll := by
  apply List.ext_getElem
  · rw [cuts_length, h.1]
  · intro j h1 h2
    rw [cuts_length] at h1
    have e := cuts_at ll.flatten s h1
    rw [rowAt_get (by rw [cuts_length]; exact h1)] at e
    rw [e, ← rowAt_get h2]
    have h3 : ll.flatten = (ll.take j).flatten ++ (rowAt ll j ++ (ll.drop (j + 1)).flatten) := by
      conv => lhs; rw [← List.take_append_drop (j + 1) ll, List.flatten_append, flat_step h2]
      rw [List.append_assoc]
    unfold cutAt
    rw [h3, ← h.pre (by omega), List.drop_left]
    have h4 := h.2 j h1
    have h5 : (at0 s j).toNat = (rowAt ll j).length := by omega
    rw [h5, List.take_left]

/-- Whether bands are of such a shape can be told; where they are as many and yet not, at one first place. -/
theorem shaped_or (ll : List (List Int)) (s : List Int) : ll.length ≠ s.length ∨ Shaped ll s ∨ (ll.length = s.length ∧ ∃ k, k < s.length ∧ ((rowAt ll k).length : Int) ≠ at0 s k ∧ ∀ i, i < k → ((rowAt ll i).length : Int) = at0 s i) := by
  by_cases h : ll.length = s.length
  · refine Or.inr ?_
    have key : ∀ n, n ≤ s.length → (∀ i, i < n → ((rowAt ll i).length : Int) = at0 s i) ∨ ∃ k, k < n ∧ ((rowAt ll k).length : Int) ≠ at0 s k ∧ ∀ i, i < k → ((rowAt ll i).length : Int) = at0 s i := by
      intro n
      induction n with
      | zero => exact fun _ => Or.inl fun i hi => by omega
      | succ n ih =>
        intro hn
        rcases ih (by omega) with h1 | ⟨k, h1, h2, h3⟩
        · by_cases h2 : ((rowAt ll n).length : Int) = at0 s n
          · refine Or.inl fun i hi => ?_
            by_cases e : i = n
            · rw [e]; exact h2
            · exact h1 i (by omega)
          · exact Or.inr ⟨n, by omega, h2, h1⟩
        · exact Or.inr ⟨k, by omega, h2, h3⟩
    rcases key s.length (Nat.le_refl _) with h1 | ⟨k, h1, h2, h3⟩
    · exact Or.inl ⟨h, h1⟩
    · exact Or.inr ⟨h, k, h1, h2, h3⟩
  · exact Or.inl h

end Go.Proofs.YthkibjhhlcfceaiDoor.Bnd
