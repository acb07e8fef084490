/-
  Words for slices of integers in memory, for all walks of this seat.
-/
import Derived.Test.YtkkhgdkgbhdfaakGreatDoorRows
import Derived.WalkKit
import Derived.WalkLawsBesides
import Derived.Below
import Derived.Carry
namespace Go.Proofs.YtkkhgdkgbhdfaakGreatDoor
open Go.RowKit
set_option linter.unusedVariables false

/-- The elements l lie where a slice's address says. -/
def Row (w : World) (a : Option Addr) (l : List Int) : Prop :=
  l = [] ∨ ∃ b off, a = some ⟨b, off, none⟩ ∧ b < w.heap.size ∧ ∀ j, j < l.length → w.cell? ⟨b, off + j, none⟩ = some (.int .i64 (l.getD j 0))

theorem Row.below {w w' : World} {a : Option Addr} {l : List Int} (h : Row w a l) (hb : Below w.heap.size w w') : Row w' a l := by
  rcases h with h | ⟨b, off, ha, hlt, hc⟩
  · exact Or.inl h
  · exact Or.inr ⟨b, off, ha, Nat.lt_of_lt_of_le hlt hb.size, fun j hj => (hb.cell (p := ⟨b, off + j, none⟩) hlt).trans (hc j hj)⟩

theorem Row.at {w : World} {a : Option Addr} {l : List Int} (h : Row w a l) {k : Nat} (hk : k < l.length) :
    ∃ b off, a = some ⟨b, off, none⟩ ∧ b < w.heap.size ∧ ∀ j, j < l.length → w.cell? ⟨b, off + j, none⟩ = some (.int .i64 (l.getD j 0)) := by
  rcases h with h | h
  · subst h; exact absurd hk (by simp)
  · exact h

theorem Below.chain {a b c : World} (h : Below a.heap.size a b) (k : Below b.heap.size b c) : Below a.heap.size a c := h.trans (k.mono h.size)

theorem hide {p : Prop} (h : p) : Hid p := h
theorem unhide {p : Prop} (h : Hid p) : p := h

theorem ret_int {k : IntKind} {a b : Int} (h : a = b) : Ending.returned (.int k a) = .returned (.int k b) := by rw [h]

end Go.Proofs.YtkkhgdkgbhdfaakGreatDoor

/-
  The numbers of chapter 3, as lists: sums' halves and differences, level by level, and back. No program here.
-/
namespace Go.Proofs.YtkkhgdkgbhdfaakGreatDoor.Tre
set_option linter.unusedVariables false

/-- What there is at a place, 0 where there is none. -/
def at0 (l : List Int) (i : Nat) : Int := l[i]?.getD 0
/-- Each is within a bound. -/
def In (b : Int) (l : List Int) : Prop := ∀ n ∈ l, -b ≤ n ∧ n ≤ b

theorem In.at {b : Int} {l : List Int} (h : In b l) (hb : 0 ≤ b) (i : Nat) : -b ≤ at0 l i ∧ at0 l i ≤ b := by
  unfold at0
  by_cases hi : i < l.length
  · rw [List.getElem?_eq_getElem hi]; exact h _ (List.getElem_mem hi)
  · rw [List.getElem?_eq_none (by omega)]; simp; omega
theorem In.mono {b c : Int} {l : List Int} (h : In b l) (hb : b ≤ c) : In c l := fun n hn => by have := h n hn; omega
theorem In.take {b : Int} {l : List Int} (h : In b l) (k : Nat) : In b (l.take k) := fun n hn => h n (List.mem_of_mem_take hn)
theorem In.drop {b : Int} {l : List Int} (h : In b l) (k : Nat) : In b (l.drop k) := fun n hn => h n (List.mem_of_mem_drop hn)
theorem In.append {b : Int} {l m : List Int} (h : In b l) (k : In b m) : In b (l ++ m) := fun n hn => (List.mem_append.1 hn).elim (h n) (k n)

/-- f 0, .., f (k - 1). -/
def upto (f : Nat → Int) (k : Nat) : List Int := (List.range k).map f
theorem upto_succ (f : Nat → Int) (k : Nat) : upto f (k + 1) = upto f k ++ [f k] := by simp [upto, List.range_succ]
theorem upto_length (f : Nat → Int) (k : Nat) : (upto f k).length = k := by simp [upto]
theorem upto_at (f : Nat → Int) {k i : Nat} (h : i < k) : at0 (upto f k) i = f i := by simp [at0, upto, h]
theorem upto_congr {f g : Nat → Int} {k : Nat} (h : ∀ i, i < k → f i = g i) : upto f k = upto g k := List.map_congr_left fun i hi => h i (List.mem_range.1 hi)
theorem upto_in {b : Int} {f : Nat → Int} {k : Nat} (h : ∀ i, i < k → -b ≤ f i ∧ f i ≤ b) : In b (upto f k) := fun n hn => by
  obtain ⟨i, hi, rfl⟩ := List.mem_map.1 hn
  exact h i (List.mem_range.1 hi)
theorem eq_upto (l : List Int) : l = upto (at0 l) l.length := by
  apply List.ext_getElem
  · simp [upto]
  · intro i h1 h2; simp [upto, at0, h1]
theorem eq_of_at {l m : List Int} (hl : l.length = m.length) (h : ∀ i, i < l.length → at0 l i = at0 m i) : l = m := by
  rw [eq_upto l, eq_upto m, ← hl]
  exact upto_congr h

/-- f 0, g 0, f 1, g 1, .. -/
def flat (f g : Nat → Int) (n : Nat) : List Int := (List.range n).flatMap fun i => [f i, g i]
theorem flat_succ (f g : Nat → Int) (n : Nat) : flat f g (n + 1) = flat f g n ++ [f n, g n] := by simp [flat, List.range_succ]
theorem flat_length (f g : Nat → Int) (n : Nat) : (flat f g n).length = 2 * n := by
  induction n with
  | zero => rfl
  | succ n ih => rw [flat_succ, List.length_append, ih]; simp; omega
theorem at0_left {l m : List Int} {i : Nat} (h : i < l.length) : at0 (l ++ m) i = at0 l i := by simp [at0, List.getElem?_append_left h]
theorem at0_right {l m : List Int} (i : Nat) : at0 (l ++ m) (l.length + i) = at0 m i := by simp [at0, List.getElem?_append_right]
theorem flat_at (f g : Nat → Int) (n i : Nat) (h : i < n) : at0 (flat f g n) (2 * i) = f i ∧ at0 (flat f g n) (2 * i + 1) = g i := by
  induction n with
  | zero => omega
  | succ n ih =>
    rw [flat_succ]
    by_cases hi : i < n
    · rw [at0_left (by rw [flat_length]; omega), at0_left (by rw [flat_length]; omega)]
      exact ih hi
    · obtain rfl : i = n := by omega
      have e1 := at0_right (l := flat f g i) (m := [f i, g i]) 0
      have e2 := at0_right (l := flat f g i) (m := [f i, g i]) 1
      rw [flat_length] at e1 e2
      exact ⟨e1, e2⟩
theorem flat_congr {f g f' g' : Nat → Int} {n : Nat} (h : ∀ i, i < n → f i = f' i ∧ g i = g' i) : flat f g n = flat f' g' n := by
  induction n with
  | zero => rfl
  | succ n ih => rw [flat_succ, flat_succ, ih fun i hi => h i (by omega), (h n (by omega)).1, (h n (by omega)).2]
theorem flat_in {b : Int} {f g : Nat → Int} {n : Nat} (h : ∀ i, i < n → (-b ≤ f i ∧ f i ≤ b) ∧ (-b ≤ g i ∧ g i ≤ b)) : In b (flat f g n) := by
  induction n with
  | zero => intro x hx; cases hx
  | succ n ih =>
    rw [flat_succ]
    refine (ih fun i hi => h i (by omega)).append fun x hx => ?_
    have := h n (by omega)
    simp at hx
    rcases hx with rfl | rfl
    · exact this.1
    · exact this.2
theorem flat_of {l : List Int} {n : Nat} (h : l.length = 2 * n) : flat (fun i => at0 l (2 * i)) (fun i => at0 l (2 * i + 1)) n = l := by
  refine eq_of_at (by rw [flat_length, h]) fun i hi => ?_
  rw [flat_length] at hi
  have hk := flat_at (fun i => at0 l (2 * i)) (fun i => at0 l (2 * i + 1)) n (i / 2) (by omega)
  rcases Nat.mod_two_eq_zero_or_one i with hm | hm
  · have e : 2 * (i / 2) = i := by omega
    rw [e] at hk; exact hk.1
  · have e : 2 * (i / 2) + 1 = i := by omega
    rw [e] at hk; exact hk.2

/-- Of each two, one behind the other: the sum's half, and the difference. -/
def sumAt (l : List Int) (i : Nat) : Int := (at0 l (2 * i) + at0 l (2 * i + 1)) / 2
def difAt (l : List Int) (i : Nat) : Int := at0 l (2 * i) - at0 l (2 * i + 1)
def sums (l : List Int) : List Int := upto (sumAt l) (l.length / 2)
def difs (l : List Int) : List Int := upto (difAt l) (l.length / 2)
/-- So many levels forward. -/
def tree : Nat → List Int → List Int
  | 0, l => l
  | k + 1, l => tree k (sums l) ++ difs l
/-- Of a half and a difference the two. -/
def oneAt (s d : List Int) (i : Nat) : Int := at0 s i + (at0 d i + 1) / 2
def twoAt (s d : List Int) (i : Nat) : Int := at0 s i + (at0 d i + 1) / 2 - at0 d i
def joins (s d : List Int) : List Int := flat (oneAt s d) (twoAt s d) s.length
/-- Is a number beyond a bound? -/
def out (b n : Int) : Bool := decide (n < -b) || decide (b < n)
/-- So many levels back; none where a number on the way is beyond 4000. -/
def back : Nat → List Int → Option (List Int)
  | 0, l => some l
  | k + 1, l => match back k (l.take (l.length / 2)) with
    | none => none
    | some s => if (joins s (l.drop (l.length / 2))).any (out 4000) = true then none else some (joins s (l.drop (l.length / 2)))

theorem out_no {b n : Int} (h : out b n = false) : -b ≤ n ∧ n ≤ b := by simp [out] at h; omega
theorem out_false {b n : Int} (h : -b ≤ n ∧ n ≤ b) : out b n = false := by simp [out]; omega
theorem in_of_any {b : Int} {l : List Int} (h : l.any (out b) = false) : In b l := fun n hn => out_no (by simpa using List.any_eq_false.1 h n hn)
theorem any_of_in {b : Int} {l : List Int} (h : In b l) : l.any (out b) = false := by
  apply List.any_eq_false.2
  intro n hn
  simpa using out_false (h n hn)

theorem sums_length (l : List Int) : (sums l).length = l.length / 2 := upto_length _ _
theorem difs_length (l : List Int) : (difs l).length = l.length / 2 := upto_length _ _
theorem joins_length (s d : List Int) : (joins s d).length = 2 * s.length := flat_length _ _ _
theorem sums_in {l : List Int} {b : Int} (hb : 0 ≤ b) (h : In b l) : In b (sums l) := upto_in fun i _ => by
  have h1 := h.at hb (2 * i)
  have h2 := h.at hb (2 * i + 1)
  unfold sumAt; omega
theorem difs_in {l : List Int} {b : Int} (hb : 0 ≤ b) (h : In b l) : In (2 * b) (difs l) := upto_in fun i _ => by
  have h1 := h.at hb (2 * i)
  have h2 := h.at hb (2 * i + 1)
  unfold difAt; omega

theorem half_dvd {k n : Nat} (h : 2 ^ (k + 1) ∣ n) : 2 ^ k ∣ n / 2 ∧ n = 2 * (n / 2) := by
  obtain ⟨q, rfl⟩ := h
  have e : 2 ^ (k + 1) * q = 2 * (2 ^ k * q) := by rw [Nat.pow_succ]; simp [Nat.mul_comm, Nat.mul_left_comm]
  rw [e, Nat.mul_div_cancel_left _ (by omega)]
  exact ⟨⟨q, rfl⟩, rfl⟩

theorem tree_length (k : Nat) (l : List Int) (h : 2 ^ k ∣ l.length) : (tree k l).length = l.length := by
  induction k generalizing l with
  | zero => rfl
  | succ k ih =>
    have hh := half_dvd h
    rw [tree, List.length_append, ih _ (by rw [sums_length]; exact hh.1), sums_length, difs_length]
    omega
theorem tree_in (k : Nat) (l : List Int) (h : In 1000 l) : In 2000 (tree k l) := by
  induction k generalizing l with
  | zero => exact h.mono (by omega)
  | succ k ih => exact (ih _ (sums_in (by omega) h)).append (difs_in (by omega) h)

theorem joins_back {l : List Int} (h : l.length = 2 * (l.length / 2)) : joins (sums l) (difs l) = l := by
  have e : joins (sums l) (difs l) = flat (fun i => at0 l (2 * i)) (fun i => at0 l (2 * i + 1)) (l.length / 2) := by
    unfold joins
    rw [sums_length]
    refine flat_congr fun i hi => ?_
    unfold oneAt twoAt sums difs
    rw [upto_at _ hi, upto_at _ hi]
    unfold sumAt difAt
    omega
  rw [e, flat_of h]
theorem sums_joins {s d : List Int} : sums (joins s d) = s := by
  unfold sums
  rw [joins_length, Nat.mul_div_cancel_left _ (by omega : 0 < 2)]
  refine (upto_congr fun i hi => ?_).trans (eq_upto s).symm
  have := flat_at (oneAt s d) (twoAt s d) s.length i hi
  unfold sumAt joins
  rw [this.1, this.2]
  unfold oneAt twoAt
  omega
theorem difs_joins {s d : List Int} (h : s.length = d.length) : difs (joins s d) = d := by
  unfold difs
  rw [joins_length, Nat.mul_div_cancel_left _ (by omega : 0 < 2), h]
  refine (upto_congr fun i hi => ?_).trans (eq_upto d).symm
  have := flat_at (oneAt s d) (twoAt s d) s.length i (by omega)
  unfold difAt joins
  rw [this.1, this.2]
  unfold oneAt twoAt
  omega

theorem back_length (k : Nat) (l x : List Int) (h : 2 ^ k ∣ l.length) (hx : back k l = some x) : x.length = l.length := by
  induction k generalizing l x with
  | zero => cases hx; rfl
  | succ k ih =>
    have hh := half_dvd h
    unfold back at hx
    have hlen : (l.take (l.length / 2)).length = l.length / 2 := by rw [List.length_take]; omega
    cases hs : back k (l.take (l.length / 2)) with
    | none => rw [hs] at hx; cases hx
    | some s =>
      rw [hs] at hx
      dsimp only at hx
      split at hx
      · cases hx
      · cases hx
        rw [joins_length, ih _ s (by rw [hlen]; exact hh.1) hs, hlen]
        omega

/-- Any come back. -/
theorem back_tree (k : Nat) (l : List Int) (h : 2 ^ k ∣ l.length) (hl : In 1000 l) : back k (tree k l) = some l := by
  induction k generalizing l with
  | zero => rfl
  | succ k ih =>
    have hh := half_dvd h
    have hd : 2 ^ k ∣ (sums l).length := by rw [sums_length]; exact hh.1
    have ht : (tree k (sums l)).length = l.length / 2 := by rw [tree_length k _ hd, sums_length]
    have hlen : (tree (k + 1) l).length = l.length := tree_length _ _ h
    unfold back
    rw [hlen]
    have e1 : (tree (k + 1) l).take (l.length / 2) = tree k (sums l) := by
      show (tree k (sums l) ++ difs l).take _ = _
      rw [← ht, List.take_left]
    have e2 : (tree (k + 1) l).drop (l.length / 2) = difs l := by
      show (tree k (sums l) ++ difs l).drop _ = _
      rw [← ht, List.drop_left]
    rw [e1, e2, ih _ hd (sums_in (by omega) hl)]
    dsimp only
    rw [joins_back hh.2, if_neg (by rw [any_of_in (hl.mono (by omega))]; simp)]

/-- What came back, forward, is what it was. -/
theorem tree_back (k : Nat) (l x : List Int) (h : 2 ^ k ∣ l.length) (hx : back k l = some x) : tree k x = l := by
  induction k generalizing l x with
  | zero => cases hx; rfl
  | succ k ih =>
    have hh := half_dvd h
    have hlen : (l.take (l.length / 2)).length = l.length / 2 := by rw [List.length_take]; omega
    unfold back at hx
    cases hs : back k (l.take (l.length / 2)) with
    | none => rw [hs] at hx; cases hx
    | some s =>
      rw [hs] at hx
      dsimp only at hx
      split at hx
      · cases hx
      · cases hx
        have hsl := back_length k _ s (by rw [hlen]; exact hh.1) hs
        have hdl : (l.drop (l.length / 2)).length = l.length / 2 := by rw [List.length_drop]; omega
        rw [tree, sums_joins, difs_joins (by rw [hsl, hlen, hdl]), ih _ s (by rw [hlen]; exact hh.1) hs, List.take_append_drop]

/-- What is all alike has no differences. -/
theorem sums_alike (n : Nat) (c : Int) : sums (List.replicate (2 * n) c) = List.replicate n c := by
  refine eq_of_at (by rw [sums_length]; simp) fun i hi => ?_
  rw [sums_length, List.length_replicate, Nat.mul_div_cancel_left _ (by omega : 0 < 2)] at hi
  unfold sums
  rw [upto_at _ (by simp; omega)]
  unfold sumAt at0
  simp [hi, show 2 * i < 2 * n by omega, show 2 * i + 1 < 2 * n by omega]
  omega
theorem difs_alike (n : Nat) (c : Int) : difs (List.replicate (2 * n) c) = List.replicate n 0 := by
  refine eq_of_at (by rw [difs_length]; simp) fun i hi => ?_
  rw [difs_length, List.length_replicate, Nat.mul_div_cancel_left _ (by omega : 0 < 2)] at hi
  unfold difs
  rw [upto_at _ (by simp; omega)]
  unfold difAt at0
  simp [hi, show 2 * i < 2 * n by omega, show 2 * i + 1 < 2 * n by omega]
theorem tree_alike (k n : Nat) (c : Int) (h : 2 ^ k ∣ n) : tree k (List.replicate n c) = List.replicate (n / 2 ^ k) c ++ List.replicate (n - n / 2 ^ k) 0 := by
  induction k generalizing n with
  | zero => simp [tree]
  | succ k ih =>
    have hh := half_dvd h
    have e : n / 2 ^ (k + 1) = n / 2 / 2 ^ k := by rw [Nat.pow_succ, Nat.mul_comm, Nat.div_div_eq_div_mul]
    rw [tree]
    have h1 : sums (List.replicate n c) = List.replicate (n / 2) c := by rw [hh.2, sums_alike, Nat.mul_div_cancel_left _ (by omega : 0 < 2)]
    have h2 : difs (List.replicate n c) = List.replicate (n / 2) 0 := by rw [hh.2, difs_alike, Nat.mul_div_cancel_left _ (by omega : 0 < 2)]
    rw [h1, h2, ih _ hh.1, List.append_assoc, List.replicate_append_replicate, e]
    have hle : n / 2 / 2 ^ k ≤ n / 2 := Nat.div_le_self _ _
    congr 2
    omega

end Go.Proofs.YtkkhgdkgbhdfaakGreatDoor.Tre

/-
  The texts of chapter 20: cut, read, told. No program here.
-/
namespace Go.Proofs.YtkkhgdkgbhdfaakGreatDoor.Ses
open Go.Proofs.YtkkhgdkgbhdfaakGreatDoor.Tre
set_option linter.unusedVariables false

/-- Cut at each c: what is on its way, and the rest. -/
def cutA (c : Int) : List Int → List Int → List (List Int)
  | cur, [] => [cur]
  | cur, b :: l => if b = c then cur :: cutA c [] l else cutA c (cur ++ [b]) l
def cut (c : Int) (l : List Int) : List (List Int) := cutA c [] l
theorem cutA_ne (c : Int) (cur l : List Int) : cutA c cur l ≠ [] := by
  induction l generalizing cur with
  | nil => simp [cutA]
  | cons b l ih =>
    rw [cutA]
    split
    · simp
    · exact ih _
theorem cut_ne (c : Int) (l : List Int) : cut c l ≠ [] := cutA_ne c [] l
theorem cutA_length (c : Int) (cur l : List Int) : (cutA c cur l).length ≤ l.length + 1 := by
  induction l generalizing cur with
  | nil => simp [cutA]
  | cons b l ih =>
    rw [cutA]
    split
    · have := ih []
      simp
      omega
    · have := ih (cur ++ [b])
      simp
      omega
theorem cut_length (c : Int) (l : List Int) : (cut c l).length ≤ l.length + 1 := cutA_length c [] l
/-- All bytes are there: no piece is longer. -/
theorem cutA_sum (c : Int) (cur l : List Int) : ∀ x ∈ cutA c cur l, x.length ≤ cur.length + l.length := by
  induction l generalizing cur with
  | nil => intro x hx; simp [cutA] at hx; subst hx; simp
  | cons b l ih =>
    intro x hx
    rw [cutA] at hx
    split at hx
    · rcases List.mem_cons.1 hx with rfl | hx
      · simp
      · have := ih [] x hx
        simp at this ⊢
        omega
    · have := ih (cur ++ [b]) x hx
      simp at this ⊢
      omega
theorem cut_long {c : Int} {l : List Int} {x : List Int} (h : x ∈ cut c l) : x.length ≤ l.length := by
  have := cutA_sum c [] l x h
  simpa using this
theorem cutA_mem (c : Int) (cur l : List Int) : ∀ x ∈ cutA c cur l, ∀ b ∈ x, b ∈ cur ∨ b ∈ l := by
  induction l generalizing cur with
  | nil => intro x hx; simp [cutA] at hx; subst hx; exact fun b hb => Or.inl hb
  | cons d l ih =>
    intro x hx b hb
    rw [cutA] at hx
    split at hx
    · rcases List.mem_cons.1 hx with rfl | hx
      · exact Or.inl hb
      · rcases ih [] x hx b hb with h | h
        · simp at h
        · exact Or.inr (List.mem_cons_of_mem _ h)
    · rcases ih (cur ++ [d]) x hx b hb with h | h
      · rcases List.mem_append.1 h with h | h
        · exact Or.inl h
        · right; simp at h; simp [h]
      · exact Or.inr (List.mem_cons_of_mem _ h)
theorem cut_mem {c : Int} {l x : List Int} (h : x ∈ cut c l) : ∀ b ∈ x, b ∈ l := fun b hb => (cutA_mem c [] l x h b hb).resolve_left (by simp)
/-- Of two texts with c between. -/
theorem cutA_two (c : Int) (cur l m : List Int) : cutA c cur (l ++ c :: m) = cutA c cur l ++ cut c m := by
  induction l generalizing cur with
  | nil => simp [cutA, cut]
  | cons b l ih =>
    rw [List.cons_append, cutA, cutA]
    split
    · rw [ih, List.cons_append]
    · rw [ih]
theorem cut_two (c : Int) (l m : List Int) : cut c (l ++ c :: m) = cut c l ++ cut c m := cutA_two c [] l m
theorem cutA_none (c : Int) (cur l : List Int) (h : ∀ b ∈ l, b ≠ c) : cutA c cur l = [cur ++ l] := by
  induction l generalizing cur with
  | nil => simp [cutA]
  | cons b l ih =>
    rw [cutA, if_neg (h b (by simp)), ih _ (fun x hx => h x (by simp [hx]))]
    simp
theorem cut_none {c : Int} {l : List Int} (h : ∀ b ∈ l, b ≠ c) : cut c l = [l] := by
  have := cutA_none c [] l h
  simpa [cut] using this
/-- The lines of a text: a last piece that is empty is none. -/
def lines (t : List Int) : List (List Int) := if (cut 10 t).getLast? = some [] then (cut 10 t).dropLast else cut 10 t
theorem lines_two (a b : List Int) : lines (a ++ 10 :: b) = cut 10 a ++ lines b := by
  have hne := cut_ne 10 b
  have key : (cut 10 (a ++ 10 :: b)).getLast? = (cut 10 b).getLast? := by
    rw [cut_two, List.getLast?_append, List.getLast?_eq_some_getLast hne]
    rfl
  unfold lines
  by_cases h : (cut 10 b).getLast? = some []
  · rw [if_pos h, if_pos (key.trans h), cut_two, List.dropLast_append_of_ne_nil hne]
  · rw [if_neg h, if_neg (fun e => h (key.symm.trans e)), cut_two]
theorem lines_nil : lines [] = [] := rfl
theorem lines_end (a : List Int) : lines (a ++ [10]) = cut 10 a := by
  have := lines_two a []
  rw [lines_nil, List.append_nil] at this
  exact this

/-- Decimal digits. -/
def dg : Nat → Nat → List Int
  | 0, n => [48 + (n : Int) % 10]
  | k + 1, n => if n < 10 then [48 + (n : Int)] else dg k (n / 10) ++ [48 + (n : Int) % 10]
def digits (n : Nat) : List Int := dg 20 n
theorem dg_succ (k n : Nat) : dg (k + 1) n = if n < 10 then [48 + (n : Int)] else dg k (n / 10) ++ [48 + (n : Int) % 10] := rfl
theorem dg_more : ∀ (k n : Nat), n < 10 ^ (k + 1) → dg (k + 1) n = dg k n
  | 0, n, h => by
    have h' : n < 10 := by simpa using h
    rw [dg_succ, if_pos h']
    have e : (n : Int) % 10 = n := by omega
    show _ = [48 + (n : Int) % 10]
    rw [e]
  | k + 1, n, h => by
    rw [dg_succ (k + 1), dg_succ k n]
    by_cases h' : n < 10
    · rw [if_pos h', if_pos h']
    · rw [if_neg h', if_neg h', dg_more k (n / 10) (by rw [Nat.div_lt_iff_lt_mul (by omega)]; rw [Nat.pow_succ] at h; exact h)]
theorem digits_small {n : Nat} (h : n < 10) : digits n = [48 + (n : Int)] := by unfold digits; rw [dg, if_pos h]
theorem digits_next {n : Nat} (h : ¬ n < 10) (h9 : n < 10 ^ 19) : digits n = digits (n / 10) ++ [48 + (n : Int) % 10] := by
  unfold digits
  rw [dg, if_neg h, dg_more 19 (n / 10) (by omega)]
theorem dg_length (k n : Nat) : (dg k n).length ≤ k + 1 := by
  induction k generalizing n with
  | zero => simp [dg]
  | succ k ih =>
    rw [dg]
    split
    · simp
    · have := ih (n / 10)
      simp
      omega
theorem digits_length (n : Nat) : (digits n).length ≤ 21 := dg_length 20 n
theorem dg_pos (k n : Nat) : 0 < (dg k n).length := by
  cases k with
  | zero => simp [dg]
  | succ k => rw [dg]; split <;> simp
theorem digits_ne (n : Nat) : digits n ≠ [] := by
  have := dg_pos 20 n
  intro e
  unfold digits at e
  rw [e] at this
  simp at this
theorem dg_in (k n : Nat) : ∀ b ∈ dg k n, 48 ≤ b ∧ b ≤ 57 := by
  induction k generalizing n with
  | zero => intro b hb; simp [dg] at hb; omega
  | succ k ih =>
    intro b hb
    rw [dg] at hb
    split at hb
    · simp at hb; omega
    · rcases List.mem_append.1 hb with h | h
      · exact ih _ b h
      · simp at h; omega
theorem digits_in (n : Nat) : ∀ b ∈ digits n, 48 ≤ b ∧ b ≤ 57 := dg_in 20 n

/-- The names of the errors. -/
def name (e : Int) : List Int :=
  if e = 0 then [79, 75] else if e = 1 then [69, 114, 114, 82, 97, 110, 103, 101] else if e = 2 then [69, 114, 114, 83, 121, 110, 116, 97, 120] else if e = 3 then [69, 114, 114, 83, 104, 97, 112, 101]
  else if e = 4 then [69, 114, 114, 70, 117, 108, 108] else if e = 5 then [69, 114, 114, 78, 111, 110, 101] else if e = 6 then [69, 114, 114, 83, 116, 97, 116, 101] else if e = 7 then [69, 114, 114, 67, 108, 97, 115, 104] else [69, 114, 114, 76, 111, 119]
theorem name_length (e : Int) : (name e).length ≤ 9 := by
  unfold name
  repeat' split
  all_goals simp
theorem name_byts (e : Int) : ∀ b ∈ name e, 0 ≤ b ∧ b < 256 := by
  unfold name
  repeat' split
  all_goals (intro b hb; simp at hb; omega)

/-- A number of at most four digits, without a needless 0. -/
def numGo : Nat → List Int → Option Nat
  | n, [] => some n
  | n, b :: l => if b < 48 ∨ 57 < b then none else numGo (n * 10 + (b - 48).toNat) l
def num (l : List Int) : Option Nat := if l = [] ∨ 4 < l.length ∨ (at0 l 0 = 48 ∧ 1 < l.length) then none else numGo 0 l
theorem numGo_in (n : Nat) (l : List Int) {k : Nat} (h : numGo n l = some k) : k ≤ n * 10 ^ l.length + (10 ^ l.length - 1) := by
  induction l generalizing n with
  | nil => simp [numGo] at h; simp [h]
  | cons b l ih =>
    rw [numGo] at h
    split at h
    · simp at h
    · rename_i hb
      have h1 := ih _ h
      have h2 : (b - 48).toNat ≤ 9 := by omega
      have hp : 0 < 10 ^ l.length := Nat.pow_pos (by omega)
      rw [List.length_cons, Nat.pow_succ]
      have h3 : (n * 10 + (b - 48).toNat) * 10 ^ l.length ≤ (n * 10 + 9) * 10 ^ l.length := Nat.mul_le_mul_right _ (by omega)
      have h4 : (n * 10 + 9) * 10 ^ l.length = n * (10 ^ l.length * 10) + 9 * 10 ^ l.length := by
        rw [Nat.add_mul, Nat.mul_assoc, Nat.mul_comm 10]
      omega
theorem num_in {l : List Int} {k : Nat} (h : num l = some k) : k ≤ 9999 := by
  unfold num at h
  split at h
  · simp at h
  · rename_i hn
    have h1 := numGo_in 0 l h
    have h2 : l.length ≤ 4 := by omega
    have h3 : 10 ^ l.length ≤ 10 ^ 4 := Nat.pow_le_pow_right (by omega) h2
    omega
/-- A word as a number; below 0 where it may be. -/
def wd (neg : Bool) (x : List Int) : Option Int :=
  if neg = true ∧ 1 < x.length ∧ at0 x 0 = 45 then (match num (x.drop 1) with | none => none | some k => if k = 0 then none else some (-(k : Int)))
  else (match num x with | none => none | some k => some (k : Int))
theorem wd_in {neg : Bool} {x : List Int} {k : Int} (h : wd neg x = some k) : -9999 ≤ k ∧ k ≤ 9999 ∧ (neg = false → 0 ≤ k) := by
  unfold wd at h
  split at h
  · rename_i hn
    split at h
    · simp at h
    · rename_i m hm
      have := num_in hm
      split at h
      · simp at h
      · simp at h
        refine ⟨by omega, by omega, fun e => ?_⟩
        rw [e] at hn
        exact absurd hn.1 (by simp)
  · split at h
    · simp at h
    · rename_i m hm
      have := num_in hm
      simp at h
      exact ⟨by omega, by omega, fun _ => by omega⟩
/-- Words as numbers, from the i-th on; from below on they may be below 0. -/
def nms (below : Nat) : Nat → List (List Int) → Option (List Int)
  | _, [] => some []
  | i, x :: r => match wd (decide (below ≤ i)) x with
    | none => none
    | some k => match nms below (i + 1) r with
      | none => none
      | some l => some (k :: l)
theorem nms_length {below i : Nat} {r : List (List Int)} {l : List Int} (h : nms below i r = some l) : l.length = r.length := by
  induction r generalizing i l with
  | nil => simp [nms] at h; subst h; rfl
  | cons x r ih =>
    rw [nms] at h
    split at h
    · simp at h
    · split at h
      · simp at h
      · rename_i h2
        simp at h
        subst h
        simp [ih h2]
theorem nms_in {below i : Nat} {r : List (List Int)} {l : List Int} (h : nms below i r = some l) : ∀ j, j < l.length → -9999 ≤ at0 l j ∧ at0 l j ≤ 9999 ∧ (i + j < below → 0 ≤ at0 l j) := by
  induction r generalizing i l with
  | nil => simp [nms] at h; subst h; intro j hj; simp at hj
  | cons x r ih =>
    rw [nms] at h
    split at h
    · simp at h
    · rename_i k hk
      split at h
      · simp at h
      · rename_i m h2
        simp at h
        subst h
        intro j hj
        have h3 := wd_in hk
        cases j with
        | zero =>
          refine ⟨h3.1, h3.2.1, fun hb => h3.2.2 ?_⟩
          simp
          omega
        | succ j =>
          have h4 := ih h2 j (by simpa using hj)
          refine ⟨h4.1, h4.2.1, fun hb => h4.2.2 (by omega)⟩

/-- Numbers as they are told, one by one, with a blank between. -/
def tl1 (n : Int) : List Int := (if n < 0 then [45] else []) ++ digits n.natAbs
def tls : List Int → List Int
  | [] => []
  | n :: l => (32 :: tl1 n) ++ tls l
def tell (l : List Int) : List Int := match l with
  | [] => [45]
  | n :: l => tl1 n ++ tls l
theorem tl1_ne (n : Int) : tl1 n ≠ [] := by
  unfold tl1
  intro e
  exact digits_ne _ (List.append_eq_nil_iff.1 e).2
theorem tl1_length (n : Int) : (tl1 n).length ≤ 22 := by
  unfold tl1
  have := digits_length n.natAbs
  split <;> simp <;> omega
theorem tls_length (l : List Int) : (tls l).length ≤ 23 * l.length := by
  induction l with
  | nil => simp [tls]
  | cons n l ih =>
    have := tl1_length n
    rw [tls]
    simp
    omega
theorem tls_append (l m : List Int) : tls (l ++ m) = tls l ++ tls m := by
  induction l with
  | nil => simp [tls]
  | cons n l ih => rw [List.cons_append, tls, tls, ih, List.append_assoc]
theorem tell_length (l : List Int) : (tell l).length ≤ 23 * l.length + 1 := by
  unfold tell
  split
  · simp
  · rename_i n r
    have := tl1_length n
    have := tls_length r
    simp
    omega
/-- So far: what is told of the first ones. -/
def tpre (l : List Int) (j : Nat) : List Int := match l.take j with
  | [] => []
  | n :: r => tl1 n ++ tls r
theorem tpre_zero (l : List Int) : tpre l 0 = [] := by simp [tpre]
theorem tpre_next {l : List Int} {j : Nat} (h : j < l.length) : tpre l (j + 1) = tpre l j ++ (if 0 < j then [32] else []) ++ tl1 (at0 l j) := by
  have e : at0 l j = l[j] := by simp [at0, h]
  unfold tpre
  rw [List.take_succ_eq_append_getElem h, e]
  cases j with
  | zero => simp [tls]
  | succ j =>
    cases l with
    | nil => simp at h
    | cons n l =>
      have h2 : j < l.length := by simpa using h
      have e2 : tls (l.take (j + 1)) = tls (l.take j) ++ (32 :: tl1 l[j]) := by rw [List.take_succ_eq_append_getElem h2, tls_append, tls, tls, List.append_nil]
      simp [e2]
theorem tpre_all {l : List Int} (h : l ≠ []) : tpre l l.length = tell l := by
  unfold tpre tell
  rw [List.take_length]
  cases l with
  | nil => exact absurd rfl h
  | cons n l => rfl
theorem tpre_none {l : List Int} : tpre l l.length = [] ↔ l = [] := by
  constructor
  · intro h
    apply Classical.byContradiction
    intro hn
    rw [tpre_all hn] at h
    cases l with
    | nil => exact hn rfl
    | cons n l => exact tl1_ne n (List.append_eq_nil_iff.1 h).1
  · rintro rfl
    rfl
theorem tpre_length (l : List Int) (j : Nat) : (tpre l j).length ≤ 23 * l.length := by
  unfold tpre
  split
  · simp
  · rename_i n r hr
    have h1 := tl1_length n
    have h2 := tls_length r
    have h3 : (l.take j).length = r.length + 1 := by rw [hr]; simp
    have h4 : (l.take j).length ≤ l.length := by simp; omega
    simp
    omega
def Asc (l : List Int) : Prop := ∀ b ∈ l, 0 ≤ b ∧ b < 256
theorem Asc.append {l m : List Int} (h : Asc l) (k : Asc m) : Asc (l ++ m) := fun b hb => (List.mem_append.1 hb).elim (h b) (k b)
theorem tl1_asc (n : Int) : Asc (tl1 n) := by
  unfold tl1
  refine Asc.append ?_ (fun b hb => by have := digits_in _ b hb; omega)
  split
  · intro b hb; simp at hb; omega
  · intro b hb; simp at hb
theorem tls_asc (l : List Int) : Asc (tls l) := by
  induction l with
  | nil => intro b hb; simp [tls] at hb
  | cons n l ih =>
    rw [tls]
    refine Asc.append ?_ ih
    intro b hb
    rcases List.mem_cons.1 hb with rfl | hb
    · omega
    · exact tl1_asc n b hb
theorem tell_asc (l : List Int) : Asc (tell l) := by
  unfold tell
  split
  · intro b hb; simp at hb; omega
  · exact (tl1_asc _).append (tls_asc _)

end Go.Proofs.YtkkhgdkgbhdfaakGreatDoor.Ses

/-
  The numbers of chapter 4, as lists: over the edges, and back. No program here.
-/
namespace Go.Proofs.YtkkhgdkgbhdfaakGreatDoor.Lap
open Go.Proofs.YtkkhgdkgbhdfaakGreatDoor.Tre
set_option linter.unusedVariables false

/-- The numbers at even places, and at odd ones. -/
def ev (l : List Int) : List Int := upto (fun i => at0 l (2 * i)) (l.length / 2)
def od (l : List Int) : List Int := upto (fun i => at0 l (2 * i + 1)) (l.length / 2)
/-- What an odd one is held to be, by the even ones beside it; the fourth part of the differences beside an even one. -/
def gs (e : List Int) (i : Nat) : Int := (at0 e i + at0 e (min (i + 1) (e.length - 1))) / 2
def lf (d : List Int) (i : Nat) : Int := (at0 d (i - 1) + at0 d i + 2) / 4
def difF (e d : List Int) (i : Nat) : Int := at0 d i - gs e i
def styF (e d : List Int) (i : Nat) : Int := at0 e i + lf d i
def evF (s d : List Int) (i : Nat) : Int := at0 s i - lf d i
def odF (e d : List Int) (i : Nat) : Int := at0 d i + gs e i
def dif (l : List Int) : List Int := upto (difF (ev l) (od l)) (l.length / 2)
def sty (l : List Int) : List Int := upto (styF (ev l) (dif l)) (l.length / 2)
/-- Over the edges. -/
def lap (l : List Int) : List Int := sty l ++ dif l
def fr (l : List Int) : List Int := l.take (l.length / 2)
def bk (l : List Int) : List Int := l.drop (l.length / 2)
def evs (l : List Int) : List Int := upto (evF (fr l) (bk l)) (l.length / 2)
def ods (l : List Int) : List Int := upto (odF (evs l) (bk l)) (l.length / 2)
/-- .. and back. -/
def unlap (l : List Int) : List Int := flat (at0 (evs l)) (at0 (ods l)) (l.length / 2)

theorem ev_length (l : List Int) : (ev l).length = l.length / 2 := upto_length _ _
theorem od_length (l : List Int) : (od l).length = l.length / 2 := upto_length _ _
theorem dif_length (l : List Int) : (dif l).length = l.length / 2 := upto_length _ _
theorem sty_length (l : List Int) : (sty l).length = l.length / 2 := upto_length _ _
theorem evs_length (l : List Int) : (evs l).length = l.length / 2 := upto_length _ _
theorem ods_length (l : List Int) : (ods l).length = l.length / 2 := upto_length _ _
theorem fr_length (l : List Int) : (fr l).length = l.length / 2 := by unfold fr; rw [List.length_take]; omega
theorem bk_length {l : List Int} (h : l.length = 2 * (l.length / 2)) : (bk l).length = l.length / 2 := by unfold bk; rw [List.length_drop]; omega
theorem lap_length {l : List Int} (h : l.length = 2 * (l.length / 2)) : (lap l).length = l.length := by unfold lap; rw [List.length_append, sty_length, dif_length]; omega
theorem unlap_length {l : List Int} (h : l.length = 2 * (l.length / 2)) : (unlap l).length = l.length := by unfold unlap; rw [flat_length]; omega

theorem ev_in {b : Int} (hb : 0 ≤ b) {l : List Int} (h : In b l) : In b (ev l) := upto_in fun i _ => h.at hb _
theorem od_in {b : Int} (hb : 0 ≤ b) {l : List Int} (h : In b l) : In b (od l) := upto_in fun i _ => h.at hb _
theorem gs_in {b : Int} (hb : 0 ≤ b) {e : List Int} (h : In b e) (i : Nat) : -b ≤ gs e i ∧ gs e i ≤ b := by
  have h1 := h.at hb i
  have h2 := h.at hb (min (i + 1) (e.length - 1))
  unfold gs; omega
theorem lf_in {b : Int} (hb : 0 ≤ b) {d : List Int} (h : In (2 * b) d) (i : Nat) : -b ≤ lf d i ∧ lf d i ≤ b := by
  have h1 := h.at (by omega) (i - 1)
  have h2 := h.at (by omega) i
  unfold lf; omega
theorem dif_in {b : Int} (hb : 0 ≤ b) {l : List Int} (h : In b l) : In (2 * b) (dif l) := upto_in fun i _ => by
  have h1 := gs_in hb (ev_in hb h) i
  have h2 := (od_in hb h).at hb i
  unfold difF; omega
theorem sty_in {b : Int} (hb : 0 ≤ b) {l : List Int} (h : In b l) : In (2 * b) (sty l) := upto_in fun i _ => by
  have h1 := lf_in hb (dif_in hb h) i
  have h2 := (ev_in hb h).at hb i
  unfold styF; omega
theorem lap_in {b : Int} (hb : 0 ≤ b) {l : List Int} (h : In b l) : In (2 * b) (lap l) := (sty_in hb h).append (dif_in hb h)
theorem evs_in {b : Int} (hb : 0 ≤ b) {l : List Int} (h : In (2 * b) l) : In (3 * b) (evs l) := upto_in fun i _ => by
  have h1 := lf_in hb (h.drop (l.length / 2)) i
  have h2 := (h.take (l.length / 2)).at (by omega) i
  unfold evF fr bk; omega

/-- The first j as by f, the rest as by g. -/
def mid (f g : Nat → Int) (n j : Nat) : List Int := upto (fun i => if i < j then f i else g i) n
theorem mid_length (f g : Nat → Int) (n j : Nat) : (mid f g n j).length = n := upto_length _ _
theorem mid_zero (f g : Nat → Int) (n : Nat) : mid f g n 0 = upto g n := upto_congr fun i _ => by simp
theorem mid_all (f g : Nat → Int) (n : Nat) : mid f g n n = upto f n := upto_congr fun i hi => by simp [hi]
theorem mid_at (f g : Nat → Int) {n j : Nat} (h : j < n) : at0 (mid f g n j) j = g j := by unfold mid; rw [upto_at _ h]; simp
theorem mid_set (f g : Nat → Int) {n j : Nat} (h : j < n) : (mid f g n j).set j (f j) = mid f g n (j + 1) := by
  refine eq_of_at (by rw [List.length_set, mid_length, mid_length]) fun i hi => ?_
  rw [List.length_set, mid_length] at hi
  by_cases e : j = i
  · subst e
    have : at0 ((mid f g n j).set j (f j)) j = f j := by unfold at0; rw [List.getElem?_set_self (by rw [mid_length]; exact h)]; rfl
    rw [this]; unfold mid; rw [upto_at _ h]; simp
  · have : at0 ((mid f g n j).set j (f j)) i = at0 (mid f g n j) i := by unfold at0; rw [List.getElem?_set_ne e]
    rw [this]; unfold mid; rw [upto_at _ hi, upto_at _ hi]
    by_cases h3 : i < j
    · rw [if_pos h3, if_pos (by omega)]
    · rw [if_neg h3, if_neg (by omega)]

theorem fr_lap (l : List Int) (h : l.length = 2 * (l.length / 2)) : fr (lap l) = sty l := by
  unfold fr; rw [lap_length h, ← sty_length l]; unfold lap; rw [List.take_left]
theorem bk_lap (l : List Int) (h : l.length = 2 * (l.length / 2)) : bk (lap l) = dif l := by
  unfold bk; rw [lap_length h, ← sty_length l]; unfold lap; rw [List.drop_left]
theorem evs_lap (l : List Int) (h : l.length = 2 * (l.length / 2)) : evs (lap l) = ev l := by
  unfold evs
  rw [fr_lap l h, bk_lap l h, lap_length h, eq_upto (ev l), ev_length]
  refine upto_congr fun i hi => ?_
  unfold evF sty
  rw [upto_at _ hi]
  unfold styF
  omega
theorem ods_lap (l : List Int) (h : l.length = 2 * (l.length / 2)) : ods (lap l) = od l := by
  unfold ods
  rw [evs_lap l h, bk_lap l h, lap_length h, eq_upto (od l), od_length]
  refine upto_congr fun i hi => ?_
  unfold odF dif
  rw [upto_at _ hi]
  unfold difF
  omega
/-- Any come back. -/
theorem unlap_lap {l : List Int} (h : l.length = 2 * (l.length / 2)) : unlap (lap l) = l := by
  unfold unlap
  rw [evs_lap l h, ods_lap l h, lap_length h]
  refine Eq.trans (flat_congr fun i hi => ?_) (flat_of h)
  unfold ev od
  rw [upto_at _ hi, upto_at _ hi]
  exact ⟨rfl, rfl⟩

theorem half_twice (n : Nat) : 2 * n / 2 = n := Nat.mul_div_cancel_left _ (by omega)
theorem ev_unlap (m : List Int) : ev (unlap m) = evs m := by
  unfold ev
  have e : (unlap m).length / 2 = m.length / 2 := by unfold unlap; rw [flat_length, half_twice]
  rw [e, eq_upto (evs m), evs_length]
  refine upto_congr fun i hi => ?_
  unfold unlap
  exact (flat_at _ _ _ _ hi).1
theorem od_unlap (m : List Int) : od (unlap m) = ods m := by
  unfold od
  have e : (unlap m).length / 2 = m.length / 2 := by unfold unlap; rw [flat_length, half_twice]
  rw [e, eq_upto (ods m), ods_length]
  refine upto_congr fun i hi => ?_
  unfold unlap
  exact (flat_at _ _ _ _ hi).2
theorem dif_unlap {m : List Int} (h : m.length = 2 * (m.length / 2)) : dif (unlap m) = bk m := by
  unfold dif
  rw [ev_unlap, od_unlap, unlap_length h, eq_upto (bk m), bk_length h]
  refine upto_congr fun i hi => ?_
  unfold difF ods
  rw [upto_at _ hi]
  unfold odF
  omega
theorem sty_unlap {m : List Int} (h : m.length = 2 * (m.length / 2)) : sty (unlap m) = fr m := by
  unfold sty
  rw [ev_unlap, dif_unlap h, unlap_length h, eq_upto (fr m), fr_length]
  refine upto_congr fun i hi => ?_
  unfold styF evs
  rw [upto_at _ hi]
  unfold evF
  omega
/-- What came back, forward, is what it was. -/
theorem lap_unlap {m : List Int} (h : m.length = 2 * (m.length / 2)) : lap (unlap m) = m := by
  unfold lap
  rw [sty_unlap h, dif_unlap h]
  exact List.take_append_drop _ _

/-- What is flat stays so. -/
theorem at0_rep {n i : Nat} {c : Int} (h : i < n) : at0 (List.replicate n c) i = c := by simp [at0, h]
theorem ev_flat (n : Nat) (c : Int) : ev (List.replicate (2 * n) c) = List.replicate n c := by
  refine eq_of_at (by rw [ev_length, List.length_replicate, List.length_replicate, half_twice]) fun i hi => ?_
  rw [ev_length, List.length_replicate, half_twice] at hi
  unfold ev
  rw [List.length_replicate, half_twice, upto_at _ hi, at0_rep hi, at0_rep (by omega)]
theorem dif_flat (n : Nat) (c : Int) : dif (List.replicate (2 * n) c) = List.replicate n 0 := by
  refine eq_of_at (by rw [dif_length, List.length_replicate, List.length_replicate, half_twice]) fun i hi => ?_
  rw [dif_length, List.length_replicate, half_twice] at hi
  unfold dif
  rw [ev_flat, List.length_replicate, half_twice, upto_at _ hi, at0_rep hi]
  unfold difF gs od
  rw [List.length_replicate, List.length_replicate, half_twice, upto_at _ hi, at0_rep (by omega), at0_rep hi, at0_rep (by omega)]
  omega
theorem sty_flat (n : Nat) (c : Int) : sty (List.replicate (2 * n) c) = List.replicate n c := by
  refine eq_of_at (by rw [sty_length, List.length_replicate, List.length_replicate, half_twice]) fun i hi => ?_
  rw [sty_length, List.length_replicate, half_twice] at hi
  unfold sty
  rw [ev_flat, dif_flat, List.length_replicate, half_twice, upto_at _ hi, at0_rep hi]
  unfold styF lf
  rw [at0_rep hi, at0_rep hi, at0_rep (by omega)]
  omega
theorem lap_flat (n : Nat) (c : Int) : lap (List.replicate (2 * n) c) = List.replicate n c ++ List.replicate n 0 := by
  unfold lap; rw [sty_flat, dif_flat]

/-- Of what rises evenly only the last difference is not 0. -/
def rise (a b : Int) (k : Nat) : List Int := upto (fun i => a + i * b) k
theorem rise_dif (a b : Int) (n i : Nat) (hi : i < n) : at0 (lap (rise a b (2 * n))) (n + i) = if i + 1 < n then 0 else b := by
  have hl : (rise a b (2 * n)).length = 2 * n := upto_length _ _
  have hs : (sty (rise a b (2 * n))).length = n := by rw [sty_length, hl, half_twice]
  have e : at0 (lap (rise a b (2 * n))) (n + i) = at0 (dif (rise a b (2 * n))) i := by
    have := at0_right (l := sty (rise a b (2 * n))) (m := dif (rise a b (2 * n))) i
    rw [hs] at this; exact this
  rw [e]
  unfold dif
  rw [hl, half_twice, upto_at _ hi]
  have he : ∀ j, j < n → at0 (ev (rise a b (2 * n))) j = a + (2 * j : Nat) * b := by
    intro j hj
    unfold ev
    rw [hl, half_twice, upto_at _ hj]
    unfold rise
    rw [upto_at _ (by omega)]
  have ho : at0 (od (rise a b (2 * n))) i = a + (2 * i + 1 : Nat) * b := by
    unfold od
    rw [hl, half_twice, upto_at _ hi]
    unfold rise
    rw [upto_at _ (by omega)]
  unfold difF gs
  rw [ho, he i hi, ev_length, hl, half_twice]
  have x1 : ((2 * i : Nat) : Int) * b = 2 * ((i : Int) * b) := by rw [Int.natCast_mul, Int.mul_assoc]; rfl
  have x2 : ((2 * i + 1 : Nat) : Int) * b = 2 * ((i : Int) * b) + b := by rw [Int.natCast_add, Int.add_mul, x1]; simp
  by_cases h : i + 1 < n
  · rw [if_pos h, Nat.min_eq_left (by omega), he _ h, x1, x2]
    have x3 : ((2 * (i + 1) : Nat) : Int) * b = 2 * ((i : Int) * b) + 2 * b := by rw [Int.natCast_mul, Int.natCast_add, Int.mul_assoc, Int.add_mul, Int.mul_add]; simp
    rw [x3]
    generalize (i : Int) * b = P
    omega
  · rw [if_neg h, Nat.min_eq_right (by omega), he _ (by omega)]
    have : n - 1 = i := by omega
    rw [this, x1, x2]
    generalize (i : Int) * b = P
    omega

end Go.Proofs.YtkkhgdkgbhdfaakGreatDoor.Lap

/-
  The numbers of chapter 5: how many rows of so many numbers and pulses there are. No program here.
-/
namespace Go.Proofs.YtkkhgdkgbhdfaakGreatDoor.Cnt
open Go.Proofs.YtkkhgdkgbhdfaakGreatDoor.Tre Go.Proofs.YtkkhgdkgbhdfaakGreatDoor.Lap
set_option linter.unusedVariables false

/-- Of one pulse more. -/
def more (f : Nat → Int) : Nat → Int
  | 0 => 0
  | n + 1 => more f n + f (n + 1) + f n
/-- How many rows there are, of k pulses and n numbers. -/
def V : Nat → Nat → Int
  | 0, _ => 1
  | k + 1, n => more (V k) n
/-- .. of n from 0 to 6. -/
def cts (k : Nat) : List Int := upto (V k) 7

theorem V_zero (n : Nat) : V 0 n = 1 := rfl
theorem V_none (k : Nat) : V (k + 1) 0 = 0 := rfl
theorem V_sum (k n : Nat) : V (k + 1) (n + 1) = V (k + 1) n + V k (n + 1) + V k n := rfl
theorem V_in : ∀ k n : Nat, k < 9 → n < 7 → 0 ≤ V k n ∧ V k n ≤ 20256 := by
  have h : ∀ k : Nat, k < 9 → ∀ n : Nat, n < 7 → 0 ≤ V k n ∧ V k n ≤ 20256 := by decide +kernel
  exact fun k n hk hn => h k hk n hn
theorem V_turns : ∀ k n : Nat, k < 7 → n < 7 → (k : Int) * V k n = (n : Int) * V n k := by
  have h : ∀ k : Nat, k < 7 → ∀ n : Nat, n < 7 → (k : Int) * V k n = (n : Int) * V n k := by decide +kernel
  exact fun k n hk hn => h k hk n hn
theorem V_one : ∀ n : Nat, n < 7 → V 1 n = 2 * (n : Int) := by decide +kernel
theorem V_single : ∀ k : Nat, k < 9 → V k 1 = if k = 0 then 1 else 2 := by decide +kernel
theorem V_fact : V 2 3 = 18 := by decide +kernel

theorem cts_length (k : Nat) : (cts k).length = 7 := upto_length _ _
theorem cts_at (k : Nat) {n : Nat} (h : n < 7) : at0 (cts k) n = V k n := upto_at _ h
theorem cts_zero : cts 0 = List.replicate 7 1 := rfl
/-- The first is 0 already. -/
theorem mid_one (k : Nat) : mid (V (k + 1)) (fun _ => 0) 7 1 = List.replicate 7 0 := by
  refine eq_of_at (by rw [mid_length]; rfl) fun i hi => ?_
  rw [mid_length] at hi
  unfold mid
  rw [upto_at _ hi]
  have hr : at0 (List.replicate 7 0) i = 0 := by unfold at0; rw [List.getElem?_replicate, if_pos hi]; rfl
  rw [hr]
  by_cases h : i < 1
  · obtain rfl : i = 0 := by omega
    rfl
  · rw [if_neg h]
theorem mid_lt (f g : Nat → Int) {n j i : Nat} (h : i < n) (hj : i < j) : at0 (mid f g n j) i = f i := by unfold mid; rw [upto_at _ h, if_pos hj]

/-- The least number of bits. -/
def Least (m : Int) (b : Nat) : Prop := m ≤ 2 ^ b ∧ ∀ i, i < b → (2 : Int) ^ i < m
theorem Least.one {m : Int} {b c : Nat} (h : Least m b) (k : Least m c) : b = c := by
  rcases Nat.lt_trichotomy b c with e | e | e
  · have := k.2 b e; have := h.1; omega
  · exact e
  · have := h.2 c e; have := k.1; omega
theorem Least.le {m : Int} {b : Nat} (h : Least m b) (hm : m ≤ 20256) : b ≤ 15 := by
  rcases Nat.lt_or_ge 15 b with e | e
  · have := h.2 15 e
    omega
  · exact e

/-- As the document's own answer goes: of one number more, whatever that is. -/
def sumF (f : Nat → Int) : Nat → Int
  | 0 => 0
  | j + 1 => sumF f j + f j
theorem V_more (j n : Nat) : V j (n + 1) = V j n + 2 * sumF (fun i => V i n) j := by
  induction j with
  | zero => rfl
  | succ j ih => rw [V_sum, ih]; simp only [sumF]; omega

theorem pow_in : ∀ j : Nat, j < 16 → (1 : Int) ≤ 2 ^ j ∧ (2 : Int) ^ j ≤ 32768 := by decide +kernel

end Go.Proofs.YtkkhgdkgbhdfaakGreatDoor.Cnt

/-
  The numbers of chapter 6: how many rows are ahead of one. No program here.
-/
namespace Go.Proofs.YtkkhgdkgbhdfaakGreatDoor.Pls
open Go.Proofs.YtkkhgdkgbhdfaakGreatDoor.Tre Go.Proofs.YtkkhgdkgbhdfaakGreatDoor.Cnt
set_option linter.unusedVariables false

/-- How far all numbers are from 0. -/
def loud : List Int → Nat
  | [] => 0
  | x :: r => x.natAbs + loud r
theorem loud_append (l m : List Int) : loud (l ++ m) = loud l + loud m := by
  induction l with
  | nil => simp [loud]
  | cons x r ih => simp only [List.cons_append, loud, ih]; omega

/-- How many rows begin with s - L, of L pulses, m numbers behind it. -/
def rows (m L s : Nat) : Int := V (L - ((s : Int) - (L : Int)).natAbs) m
/-- .. with a lesser one. -/
def ahead (m L s : Nat) : Int := sumF (rows m L) s
theorem ahead_zero (m L : Nat) : ahead m L 0 = 0 := rfl
theorem ahead_succ (m L s : Nat) : ahead m L (s + 1) = ahead m L s + rows m L s := rfl
theorem ahead_all {m L : Nat} (hm : m < 6) (hL : L < 9) : ahead m L (2 * L + 1) = V L (m + 1) := by
  have h : ∀ m : Nat, m < 6 → ∀ L : Nat, L < 9 → ahead m L (2 * L + 1) = V L (m + 1) := by decide +kernel
  exact h m hm L hL
theorem rows_in {m L s : Nat} (hm : m < 7) (hL : L < 9) : 0 ≤ rows m L s ∧ rows m L s ≤ 20256 := V_in _ _ (by omega) hm
theorem rows_first (m L : Nat) : rows m L 0 = 1 := by unfold rows; rw [show L - (((0 : Nat) : Int) - (L : Int)).natAbs = 0 by omega, V_zero]
theorem rows_last (m L : Nat) : rows m L (2 * L) = 1 := by unfold rows; rw [show L - (((2 * L : Nat) : Int) - (L : Int)).natAbs = 0 by omega, V_zero]
theorem ahead_mono {m L s t : Nat} (hm : m < 7) (hL : L < 9) (h : s ≤ t) : ahead m L s ≤ ahead m L t := by
  induction t with
  | zero => rw [show s = 0 by omega]; exact Int.le_refl _
  | succ t ih =>
    rcases Nat.lt_or_ge t s with h1 | h1
    · rw [show s = t + 1 by omega]; exact Int.le_refl _
    · have := ih h1
      have := (rows_in (s := t) hm hL).1
      rw [ahead_succ]; omega
theorem ahead_in {m L s : Nat} (hm : m < 6) (hL : L < 9) (hs : s ≤ 2 * L + 1) : 0 ≤ ahead m L s ∧ ahead m L s ≤ 20256 := by
  have h1 := ahead_mono (m := m) (L := L) (s := 0) (t := s) (by omega) hL (Nat.zero_le _)
  have h2 := ahead_mono (m := m) (L := L) (s := s) (t := 2 * L + 1) (by omega) hL hs
  rw [ahead_all hm hL] at h2
  rw [ahead_zero] at h1
  have := (V_in L (m + 1) hL (by omega)).2
  omega
theorem rows_at {m L : Nat} {x : Int} (h : x.natAbs ≤ L) : rows m L (x + (L : Int)).toNat = V (L - x.natAbs) m := by
  unfold rows
  rw [show (((x + (L : Int)).toNat : Nat) : Int) - (L : Int) = x by omega]

/-- How many rows of L pulses are ahead. -/
def rk : List Int → Nat → Int
  | [], _ => 0
  | x :: r, L => ahead r.length L (x + (L : Int)).toNat + rk r (L - x.natAbs)

theorem rk_in : ∀ (l : List Int), l.length ≤ 6 → loud l ≤ 8 → 0 ≤ rk l (loud l) ∧ rk l (loud l) < V (loud l) l.length := by
  intro l
  induction l with
  | nil => intro _ _; simp [rk, loud, V_zero]
  | cons x r ih =>
    intro h1 h2
    simp only [List.length_cons] at h1
    obtain ⟨L, hL⟩ : ∃ L, L = loud (x :: r) := ⟨_, rfl⟩
    have hL' : L = x.natAbs + loud r := hL
    rw [← hL] at h2 ⊢
    have i := ih (by omega) (by omega)
    have e : L - x.natAbs = loud r := by omega
    have hr := rows_at (m := r.length) (L := L) (x := x) (by omega)
    have hin := ahead_in (m := r.length) (L := L) (s := (x + (L : Int)).toNat) (by omega) (by omega) (by omega)
    have hm := ahead_mono (m := r.length) (L := L) (s := (x + (L : Int)).toNat + 1) (t := 2 * L + 1) (by omega) (by omega) (by omega)
    rw [ahead_all (by omega) (by omega), ahead_succ, hr, e] at hm
    simp only [rk, List.length_cons, e]
    omega

/-- .. in parts: what is ahead of a row, by its first number. -/
theorem rk_parts {x : Int} {r : List Int} (h1 : r.length ≤ 5) (h2 : loud (x :: r) ≤ 8) :
    ahead r.length (loud (x :: r)) (x + (loud (x :: r) : Int)).toNat ≤ rk (x :: r) (loud (x :: r)) ∧ rk (x :: r) (loud (x :: r)) < ahead r.length (loud (x :: r)) ((x + (loud (x :: r) : Int)).toNat + 1) := by
  have hL' : loud (x :: r) = x.natAbs + loud r := rfl
  have i := rk_in r (by omega) (by omega)
  have e : loud (x :: r) - x.natAbs = loud r := by omega
  have hr := rows_at (m := r.length) (L := loud (x :: r)) (x := x) (by omega)
  rw [ahead_succ, hr]
  simp only [rk, e]
  omega

theorem rk_less {x y : Int} {r t : List Int} (h1 : r.length ≤ 5) (hl : t.length = r.length) (h2 : loud (x :: r) ≤ 8) (hk : loud (y :: t) = loud (x :: r)) (h : x < y) :
    rk (x :: r) (loud (x :: r)) < rk (y :: t) (loud (x :: r)) := by
  have a := (rk_parts h1 h2).2
  have b := (rk_parts (x := y) (r := t) (by omega) (by omega)).1
  rw [hk, hl] at b
  have hx : loud (x :: r) = x.natAbs + loud r := rfl
  have hm := ahead_mono (m := r.length) (L := loud (x :: r)) (s := (x + (loud (x :: r) : Int)).toNat + 1) (t := (y + (loud (x :: r) : Int)).toNat) (by omega) (by omega) (by omega)
  omega

/-- Two rows of as many numbers and pulses that are the same up to a place, and differ there. -/
theorem rk_order : ∀ (p : List Int) (x y : Int) (r t : List Int), (p ++ x :: r).length ≤ 6 → t.length = r.length → loud (p ++ x :: r) ≤ 8 → loud (p ++ y :: t) = loud (p ++ x :: r) → x < y →
    rk (p ++ x :: r) (loud (p ++ x :: r)) < rk (p ++ y :: t) (loud (p ++ x :: r)) := by
  intro p
  induction p with
  | nil => intro x y r t h1 hl h2 hk h; exact rk_less (by simpa using h1) hl h2 hk h
  | cons z p ih =>
    intro x y r t h1 hl h2 hk h
    have e1 : loud (z :: p ++ x :: r) = z.natAbs + loud (p ++ x :: r) := rfl
    have e2 : loud (z :: p ++ y :: t) = z.natAbs + loud (p ++ y :: t) := rfl
    have i := ih x y r t (by simp at h1 ⊢; omega) hl (by omega) (by omega) h
    have e3 : loud (z :: p ++ x :: r) - z.natAbs = loud (p ++ x :: r) := by omega
    have e4 : (p ++ y :: t).length = (p ++ x :: r).length := by simp [hl]
    show rk (z :: (p ++ x :: r)) _ < rk (z :: (p ++ y :: t)) _
    simp only [rk, e3, e4]
    omega

theorem rk_one : ∀ (l m : List Int), l.length ≤ 6 → m.length = l.length → loud l ≤ 8 → loud m = loud l → rk m (loud l) = rk l (loud l) → m = l := by
  intro l
  induction l with
  | nil => intro m _ h _ _ _; exact List.length_eq_zero_iff.1 h
  | cons x r ih =>
    intro m h1 hl h2 hk hr
    cases m with
    | nil => simp at hl
    | cons y t =>
      have hl' : t.length = r.length := by simpa using hl
      have h1' : r.length ≤ 5 := by simp at h1; omega
      rcases Int.lt_trichotomy x y with h | h | h
      · have := rk_less h1' hl' h2 hk h; omega
      · subst h
        have e1 : loud (x :: r) = x.natAbs + loud r := rfl
        have e2 : loud (x :: t) = x.natAbs + loud t := rfl
        have e3 : loud (x :: r) - x.natAbs = loud r := by omega
        simp only [rk, e3, hl'] at hr
        rw [ih t (by omega) hl' (by omega) (by omega) (by omega)]
      · have := rk_less (by omega) hl'.symm (by omega) hk.symm h
        rw [hk] at this; omega

/-- The first of all, and the last. -/
theorem first_of {x : Int} {r : List Int} (h1 : r.length ≤ 5) (h2 : loud (x :: r) ≤ 8) (h : rk (x :: r) (loud (x :: r)) = 0) : x = -(loud (x :: r) : Int) := by
  have a := (rk_parts h1 h2).1
  have hL : loud (x :: r) = x.natAbs + loud r := rfl
  rcases Nat.eq_zero_or_pos (x + (loud (x :: r) : Int)).toNat with e | e
  · omega
  · have hm := ahead_mono (m := r.length) (L := loud (x :: r)) (s := 1) (t := (x + (loud (x :: r) : Int)).toNat) (by omega) (by omega) e
    have h3 : ahead r.length (loud (x :: r)) 1 = 1 := by rw [ahead_succ, ahead_zero, rows_first]; rfl
    omega
theorem last_of {x : Int} {r : List Int} (h1 : r.length ≤ 5) (h2 : loud (x :: r) ≤ 8) (h : rk (x :: r) (loud (x :: r)) = V (loud (x :: r)) (r.length + 1) - 1) : x = (loud (x :: r) : Int) := by
  have a := (rk_parts h1 h2).2
  have hL : loud (x :: r) = x.natAbs + loud r := rfl
  rcases Nat.lt_or_ge (x + (loud (x :: r) : Int)).toNat (2 * loud (x :: r)) with e | e
  · have hm := ahead_mono (m := r.length) (L := loud (x :: r)) (s := (x + (loud (x :: r) : Int)).toNat + 1) (t := 2 * loud (x :: r)) (by omega) (by omega) e
    have h3 := ahead_all (m := r.length) (L := loud (x :: r)) (by omega) (by omega)
    rw [ahead_succ, rows_last] at h3
    omega
  · omega

/-- The row of a rank. -/
def Is (n k : Nat) (rank : Int) (l : List Int) : Prop := l.length = n ∧ loud l = k ∧ rk l k = rank
theorem Is.one {n k : Nat} {rank : Int} {l m : List Int} (hn : n ≤ 6) (hk : k ≤ 8) (h : Is n k rank l) (g : Is n k rank m) : m = l := by
  obtain ⟨rfl, rfl, rfl⟩ := h
  obtain ⟨g1, g2, g3⟩ := g
  exact rk_one l m hn g1 hk g2 g3

/-- What is still wanted behind l: numbers of L pulses, r of such ahead of them. -/
def Wants (n k : Nat) (rank : Int) (l : List Int) (L : Nat) (r : Int) : Prop := ∀ m, Is (n - l.length) L r m → Is n k rank (l ++ m)
theorem wants_all (n k : Nat) (rank : Int) : Wants n k rank [] k rank := fun m h => by simpa using h
theorem is_cons {b L s : Nat} {r : Int} {m : List Int} (hs : s ≤ 2 * L) (h : Is b (L - ((s : Int) - (L : Int)).natAbs) (r - ahead b L s) m) : Is (b + 1) L r (((s : Int) - (L : Int)) :: m) := by
  obtain ⟨h1, h2, h3⟩ := h
  subst h1
  refine ⟨by simp, ?_, ?_⟩
  · simp only [loud, h2]; omega
  · simp only [rk]
    rw [show ((s : Int) - (L : Int) + (L : Int)).toNat = s by omega, h3]
    omega
theorem Wants.step {n k : Nat} {rank : Int} {l : List Int} {b L s : Nat} {r : Int} (h : Wants n k rank l L r) (hb : n - l.length = b + 1) (hs : s ≤ 2 * L) :
    Wants n k rank (l ++ [(s : Int) - (L : Int)]) (L - ((s : Int) - (L : Int)).natAbs) (r - ahead b L s) := by
  intro m hm
  have e : n - (l ++ [(s : Int) - (L : Int)]).length = b := by simp; omega
  rw [e] at hm
  have := h _ (by rw [hb]; exact is_cons hs hm)
  simpa using this
theorem Wants.done {n k : Nat} {rank : Int} {l : List Int} {L : Nat} {r : Int} (h : Wants n k rank l L r) (hl : l.length = n) (hL : L ≤ 8) (h0 : 0 ≤ r) (h1 : r < V L 0) : Is n k rank l := by
  have hz : L = 0 ∧ r = 0 := by
    cases L with
    | zero => rw [V_zero] at h1; omega
    | succ L => rw [V_none] at h1; omega
  obtain ⟨rfl, rfl⟩ := hz
  have := h [] ⟨by simp; omega, rfl, rfl⟩
  simpa using this

/-- What of a row's rank is still wanted at a place. -/
theorem rk_drop {l : List Int} {i : Nat} (hi : i < l.length) : loud (l.drop i) = (at0 l i).natAbs + loud (l.drop (i + 1)) ∧
    rk (l.drop i) (loud (l.drop i)) = ahead (l.length - 1 - i) (loud (l.drop i)) (at0 l i + (loud (l.drop i) : Int)).toNat + rk (l.drop (i + 1)) (loud (l.drop (i + 1))) := by
  have e : l.drop i = at0 l i :: l.drop (i + 1) := by
    rw [List.drop_eq_getElem_cons hi]
    simp [at0, hi]
  have e1 : loud (l.drop i) = (at0 l i).natAbs + loud (l.drop (i + 1)) := by rw [e]; rfl
  refine ⟨e1, ?_⟩
  have e2 : rk (l.drop i) (loud (l.drop i)) = rk (at0 l i :: l.drop (i + 1)) (loud (l.drop i)) := by rw [← e]
  rw [e2]
  simp only [rk, List.length_drop]
  rw [show l.length - (i + 1) = l.length - 1 - i by omega, show loud (l.drop i) - (at0 l i).natAbs = loud (l.drop (i + 1)) by omega]

/-- Where two rows first differ. -/
theorem cut_at {l : List Int} {i : Nat} (hi : i < l.length) : l = l.take i ++ at0 l i :: l.drop (i + 1) := by
  have e : l.drop i = at0 l i :: l.drop (i + 1) := by
    rw [List.drop_eq_getElem_cons hi]
    simp [at0, hi]
  rw [← e, List.take_append_drop]
theorem first_diff {n k : Nat} {a b : Int} {l m : List Int} {i : Nat} (hn : n ≤ 6) (hk : k ≤ 8) (hl : Is n k a l) (hm : Is n k b m) (hi : i < n) (h : l.take i = m.take i) (hd : at0 l i < at0 m i) : a < b := by
  obtain ⟨l1, l2, l3⟩ := hl
  obtain ⟨m1, m2, m3⟩ := hm
  have e1 := cut_at (l := l) (i := i) (by omega)
  have e2 := cut_at (l := m) (i := i) (by omega)
  rw [← h] at e2
  have ho := rk_order (l.take i) (at0 l i) (at0 m i) (l.drop (i + 1)) (m.drop (i + 1)) (by rw [← e1]; omega) (by rw [List.length_drop, List.length_drop]; omega) (by rw [← e1]; omega) (by rw [← e1, ← e2]; omega) hd
  rw [← e1, ← e2, l2, l3, m3] at ho
  exact ho
theorem Is.rank {n k : Nat} {a b : Int} {l : List Int} (hl : Is n k a l) (hm : Is n k b l) : a = b := hl.2.2.symm.trans hm.2.2
theorem Is.self (l : List Int) : Is l.length (loud l) (rk l (loud l)) l := ⟨rfl, rfl, rfl⟩

theorem Is.first {n k : Nat} {l : List Int} (hn : n ≤ 6) (hk : k ≤ 8) (h0 : 0 < n) (h : Is n k 0 l) : at0 l 0 = -(k : Int) := by
  obtain ⟨rfl, rfl, h3⟩ := h
  cases l with
  | nil => simp at h0
  | cons x r => exact first_of (by simp at hn; omega) hk h3
theorem Is.last {n k : Nat} {l : List Int} (hn : n ≤ 6) (hk : k ≤ 8) (h0 : 0 < n) (h : Is n k (V k n - 1) l) : at0 l 0 = (k : Int) := by
  obtain ⟨rfl, rfl, h3⟩ := h
  cases l with
  | nil => simp at h0
  | cons x r => exact last_of (by simp at hn; omega) hk h3

end Go.Proofs.YtkkhgdkgbhdfaakGreatDoor.Pls

/-
  The numbers of chapter 7: k pulses as near as may be to numbers. No program here.
-/
namespace Go.Proofs.YtkkhgdkgbhdfaakGreatDoor.Nea
open Go.Proofs.YtkkhgdkgbhdfaakGreatDoor.Tre Go.Proofs.YtkkhgdkgbhdfaakGreatDoor.Pls
set_option linter.unusedVariables false

/-- All together. -/
def tot (f : Nat → Nat) : Nat → Nat
  | 0 => 0
  | n + 1 => tot f n + f n
theorem tot_congr {f g : Nat → Nat} {n : Nat} (h : ∀ i, i < n → f i = g i) : tot f n = tot g n := by
  induction n with
  | zero => rfl
  | succ n ih => simp only [tot, ih fun i hi => h i (by omega), h n (by omega)]
theorem tot_add (f g : Nat → Nat) (n : Nat) : tot (fun i => f i + g i) n = tot f n + tot g n := by
  induction n with
  | zero => rfl
  | succ n ih => simp only [tot, ih]; omega
theorem tot_mul (c : Nat) (f : Nat → Nat) (n : Nat) : tot (fun i => c * f i) n = c * tot f n := by
  induction n with
  | zero => rfl
  | succ n ih => simp only [tot, ih, Nat.mul_add]
theorem tot_le {f g : Nat → Nat} {n : Nat} (h : ∀ i, i < n → f i ≤ g i) : tot f n ≤ tot g n := by
  induction n with
  | zero => exact Nat.le_refl _
  | succ n ih => have := ih fun i hi => h i (by omega); have := h n (by omega); simp only [tot]; omega
theorem tot_const (c n : Nat) : tot (fun _ => c) n = c * n := by
  induction n with
  | zero => rfl
  | succ n ih => simp only [tot, ih, Nat.mul_add]; omega
theorem tot_none (n : Nat) : tot (fun _ => 0) n = 0 := by rw [tot_const, Nat.zero_mul]
theorem tot_at (c : Nat) {i n : Nat} (h : i < n) : tot (fun j => if j = i then c else 0) n = c := by
  induction n with
  | zero => omega
  | succ n ih =>
    simp only [tot]
    by_cases e : i < n
    · rw [ih e, if_neg (by omega)]; rfl
    · obtain rfl : i = n := by omega
      rw [if_pos rfl, tot_congr (g := fun _ => 0) fun j hj => by rw [if_neg (by omega)], tot_none]; omega
theorem tot_one {f : Nat → Nat} {n i : Nat} (h : i < n) : f i ≤ tot f n := by
  have := tot_le (f := fun j => if j = i then f i else 0) (g := f) (n := n) fun j _ => by
    by_cases e : j = i
    · rw [if_pos e, e]; exact Nat.le_refl _
    · rw [if_neg e]; exact Nat.zero_le _
  rwa [tot_at _ h] at this
theorem tot_zero {f : Nat → Nat} {n : Nat} (h : tot f n = 0) : ∀ i, i < n → f i = 0 := fun i hi => by
  have := tot_one (f := f) hi; omega

theorem loud_to (l : List Int) : ∀ k, k ≤ l.length → loud (l.take k) = tot (fun i => (at0 l i).natAbs) k := by
  intro k
  induction k with
  | zero => intro _; rfl
  | succ k ih =>
    intro h
    rw [List.take_succ_eq_append_getElem (by omega : k < l.length), loud_append, ih (by omega)]
    have e : at0 l k = l[k]'(by omega) := by simp [at0, show k < l.length by omega]
    simp [loud, tot, e]
theorem loud_tot (l : List Int) : loud l = tot (fun i => (at0 l i).natAbs) l.length := by
  have := loud_to l l.length (Nat.le_refl _)
  rwa [List.take_length] at this

/-- How many. -/
def one (b : Bool) : Nat := if b then 1 else 0
def cnt (g : Nat → Bool) (n : Nat) : Nat := tot (fun i => one (g i)) n
theorem cnt_le (g : Nat → Bool) (n : Nat) : cnt g n ≤ n := by
  have := tot_le (f := fun i => one (g i)) (g := fun _ => 1) (n := n) fun i _ => by unfold one; split <;> omega
  rw [tot_const] at this
  unfold cnt; omega
theorem cnt_none {g : Nat → Bool} {n : Nat} (h : cnt g n = 0) : ∀ i, i < n → g i = false := fun i hi => by
  have := tot_zero h i hi
  cases e : g i with
  | false => rfl
  | true => rw [e] at this; simp [one] at this
theorem cnt_free {g : Nat → Bool} {n : Nat} (h : cnt g n < n) : ∃ i, i < n ∧ g i = false := by
  induction n with
  | zero => omega
  | succ n ih =>
    cases e : g n with
    | false => exact ⟨n, by omega, e⟩
    | true =>
      have : cnt g (n + 1) = cnt g n + 1 := by simp [cnt, tot, one, e]
      obtain ⟨i, hi, hg⟩ := ih (by omega)
      exact ⟨i, by omega, hg⟩
/-- One more. -/
def with1 (g : Nat → Bool) (b : Nat) (i : Nat) : Bool := g i || decide (i = b)
theorem one_with {g : Nat → Bool} {b : Nat} (h : g b = false) (i : Nat) : one (with1 g b i) = one (g i) + (if i = b then 1 else 0) := by
  unfold with1
  by_cases e : i = b
  · subst e; rw [h]; simp [one]
  · simp [one, e]
theorem cnt_with {g : Nat → Bool} {b n : Nat} (hb : b < n) (h : g b = false) : cnt (with1 g b) n = cnt g n + 1 := by
  unfold cnt
  rw [tot_congr fun i _ => one_with h i, tot_add, tot_at 1 hb]
theorem cnt_all {g h : Nat → Bool} {n : Nat} (e : cnt g n = cnt h n) (hi : ∀ i, i < n → g i = true → h i = true) : ∀ i, i < n → g i = h i := by
  induction n with
  | zero => intro i hi; omega
  | succ n ih =>
    have l1 : cnt g n ≤ cnt h n := tot_le fun i hi' => by
      cases eg : g i with
      | false => simp [one]
      | true => rw [hi i (by omega) eg]; exact Nat.le_refl _
    have e1 : cnt g (n + 1) = cnt g n + one (g n) := rfl
    have e2 : cnt h (n + 1) = cnt h n + one (h n) := rfl
    have l2 : one (g n) ≤ one (h n) := by
      cases eg : g n with
      | false => simp [one]
      | true => rw [hi n (by omega) eg]; exact Nat.le_refl _
    intro i hin
    rcases Nat.lt_or_ge i n with h1 | h1
    · exact ih (by omega) (fun j hj => hi j (by omega)) i h1
    · obtain rfl : i = n := by omega
      have e3 : one (g i) = one (h i) := by omega
      cases eg : g i <;> cases eh : h i <;> simp [one, eg, eh] at e3 ⊢

/-- Who comes first: of a greater rest; of several the first. -/
def Beats (r : Nat → Nat) (i j : Nat) : Prop := r j < r i ∨ (r j = r i ∧ i < j)
/-- So many of the greatest rests. -/
def Pick (r : Nat → Nat) (n m : Nat) (g : Nat → Bool) : Prop := cnt g n = m ∧ ∀ i j, i < n → j < n → g i = true → g j = false → Beats r i j
theorem Pick.one {r : Nat → Nat} {n m : Nat} {g h : Nat → Bool} (hg : Pick r n m g) (hh : Pick r n m h) : ∀ i, i < n → g i = h i := by
  by_cases a : ∀ i, i < n → g i = true → h i = true
  · exact cnt_all (hg.1.trans hh.1.symm) a
  · by_cases b : ∀ i, i < n → h i = true → g i = true
    · exact fun i hi => (cnt_all (hh.1.trans hg.1.symm) b i hi).symm
    · obtain ⟨i, hi, gi, hi'⟩ : ∃ i, i < n ∧ g i = true ∧ h i = false := by
        apply Classical.byContradiction
        intro hn
        exact a fun i hi e => by
          cases e' : h i with
          | true => rfl
          | false => exact absurd ⟨i, hi, e, e'⟩ hn
      obtain ⟨j, hj, hj', gj⟩ : ∃ j, j < n ∧ h j = true ∧ g j = false := by
        apply Classical.byContradiction
        intro hn
        exact b fun i hi e => by
          cases e' : g i with
          | true => rfl
          | false => exact absurd ⟨i, hi, e, e'⟩ hn
      have h1 := hg.2 i j hi hj gi gj
      have h2 := hh.2 j i hj hi hj' hi'
      unfold Beats at h1 h2
      omega
theorem pick_zero (r : Nat → Nat) (n : Nat) : Pick r n 0 fun _ => false := ⟨tot_none n, fun _ _ _ _ h => by cases h⟩
/-- The best of those that have none. -/
def Best (r : Nat → Nat) (g : Nat → Bool) (t b : Nat) : Prop := b < t ∧ g b = false ∧ ∀ i, i < t → g i = false → i = b ∨ Beats r b i
theorem Pick.more {r : Nat → Nat} {n m b : Nat} {g : Nat → Bool} (h : Pick r n m g) (hb : Best r g n b) : Pick r n (m + 1) (with1 g b) := by
  refine ⟨by rw [cnt_with hb.1 hb.2.1, h.1], fun i j hi hj gi gj => ?_⟩
  have gj' : g j = false ∧ j ≠ b := by simpa [with1] using gj
  have gi' : g i = true ∨ i = b := by simpa [with1] using gi
  rcases gi' with e | rfl
  · exact h.2 i j hi hj e gj'.1
  · rcases hb.2.2 j hj gj'.1 with e | e
    · exact absurd e gj'.2
    · exact e
theorem best_first {r : Nat → Nat} {g : Nat → Bool} {t : Nat} (hn : ∀ i, i < t → g i = true) (h : g t = false) : Best r g (t + 1) t :=
  ⟨by omega, h, fun i hi e => by
    rcases Nat.lt_or_ge i t with h1 | h1
    · rw [hn i h1] at e; cases e
    · exact Or.inl (by omega)⟩
theorem Best.new {r : Nat → Nat} {g : Nat → Bool} {t b : Nat} (hb : Best r g t b) (h : g t = false) (hr : r b < r t) : Best r g (t + 1) t := by
  refine ⟨by omega, h, fun i hi e => ?_⟩
  rcases Nat.lt_or_ge i t with h1 | h1
  · refine Or.inr ?_
    rcases hb.2.2 i h1 e with rfl | e'
    · exact Or.inl hr
    · unfold Beats at e' ⊢; omega
  · exact Or.inl (by omega)
theorem Best.old {r : Nat → Nat} {g : Nat → Bool} {t b : Nat} (hb : Best r g t b) (h : g t = true ∨ r t ≤ r b) : Best r g (t + 1) b := by
  refine ⟨by have := hb.1; omega, hb.2.1, fun i hi e => ?_⟩
  rcases Nat.lt_or_ge i t with h1 | h1
  · exact hb.2.2 i h1 e
  · obtain rfl : i = t := by omega
    rcases h with h | h
    · rw [h] at e; cases e
    · refine Or.inr ?_
      have := hb.1
      unfold Beats; omega

/-- The shares of k pulses, what is certain of each, what is left of each, and how many pulses nobody has. -/
def sh (v : List Int) (k i : Nat) : Nat := k * (at0 v i).natAbs
def qt (v : List Int) (k i : Nat) : Nat := sh v k i / loud v
def rt (v : List Int) (k i : Nat) : Nat := sh v k i % loud v
def lft (v : List Int) (k : Nat) : Nat := k - tot (qt v k) v.length

theorem sh_eq (v : List Int) (k i : Nat) : sh v k i = loud v * qt v k i + rt v k i := (Nat.div_add_mod _ _).symm
theorem sh_tot (v : List Int) (k : Nat) : tot (sh v k) v.length = k * loud v := by
  unfold sh
  rw [tot_mul, ← loud_tot]
theorem rt_lt {v : List Int} (k i : Nat) (h : 0 < loud v) : rt v k i < loud v := Nat.mod_lt _ h
theorem parts (v : List Int) (k : Nat) : loud v * tot (qt v k) v.length + tot (rt v k) v.length = k * loud v := by
  rw [← sh_tot, ← tot_mul, ← tot_add]
  exact tot_congr fun i _ => (sh_eq v k i).symm
theorem qt_le {v : List Int} (k : Nat) (h : k = 0 ∨ 0 < loud v) : tot (qt v k) v.length ≤ k := by
  rcases h with rfl | h
  · rw [tot_congr (g := fun _ => 0) fun i _ => by simp [qt, sh], tot_none]; exact Nat.le_refl _
  · have := parts v k
    rw [Nat.mul_comm k] at this
    exact Nat.le_of_mul_le_mul_left (by omega : loud v * tot (qt v k) v.length ≤ loud v * k) h
theorem rests (v : List Int) (k : Nat) (h : k = 0 ∨ 0 < loud v) : tot (rt v k) v.length = loud v * lft v k ∧ tot (qt v k) v.length + lft v k = k := by
  have h1 := qt_le k h
  have h2 : tot (qt v k) v.length + lft v k = k := by unfold lft; omega
  refine ⟨?_, h2⟩
  have h3 := parts v k
  rw [Nat.mul_comm k] at h3
  have h4 : loud v * k = loud v * tot (qt v k) v.length + loud v * lft v k := by rw [← Nat.mul_add, h2]
  omega
theorem lft_le {v : List Int} (k : Nat) (h : k = 0 ∨ 0 < loud v) : lft v k ≤ v.length := by
  rcases h with rfl | h
  · simp [lft]
  · have h1 := (rests v k (Or.inr h)).1
    have h2 := tot_le (f := rt v k) (g := fun _ => loud v) (n := v.length) fun i _ => Nat.le_of_lt (rt_lt k i h)
    rw [tot_const, h1] at h2
    exact Nat.le_of_mul_le_mul_left h2 h
/-- None goes to a 0. -/
theorem pick_pos {v : List Int} {k : Nat} {g : Nat → Bool} (h : k = 0 ∨ 0 < loud v) (hp : Pick (rt v k) v.length (lft v k) g) {i : Nat} (hi : i < v.length) (hg : g i = true) : 0 < rt v k i := by
  rcases h with rfl | h
  · have h0 : lft v 0 = 0 := by simp [lft]
    rw [h0] at hp
    rw [cnt_none hp.1 i hi] at hg; cases hg
  · apply Classical.byContradiction
    intro hn
    have h0 : rt v k i = 0 := by omega
    have h1 := tot_le (f := fun j => rt v k j + (if j = i then loud v else 0)) (g := fun j => loud v * one (g j)) (n := v.length) fun j hj => by
      by_cases e : j = i
      · subst e; rw [if_pos rfl, h0, hg]; simp [one]
      · rw [if_neg e]
        cases eg : g j with
        | true => have := rt_lt k j h; simp [one]; omega
        | false =>
          have := hp.2 i j hi hj hg eg
          unfold Beats at this
          simp [one]; omega
    rw [tot_add, tot_at _ hi, tot_mul, (rests v k (Or.inr h)).1] at h1
    have h2 : tot (fun j => one (g j)) v.length = lft v k := hp.1
    rw [h2] at h1
    omega

/-- The pulses. -/
def res (v : List Int) (k : Nat) (g : Nat → Bool) (i : Nat) : Int := (at0 v i).sign * ((qt v k i + one (g i) : Nat) : Int)
def Near (v : List Int) (k : Nat) (l : List Int) : Prop := ∃ g, Pick (rt v k) v.length (lft v k) g ∧ l = upto (res v k g) v.length
theorem Near.one {v : List Int} {k : Nat} {l m : List Int} (h : Near v k l) (h' : Near v k m) : l = m := by
  obtain ⟨g, hg, rfl⟩ := h
  obtain ⟨g', hg', rfl⟩ := h'
  exact upto_congr fun i hi => by unfold res; rw [hg.one hg' i hi]
theorem Near.len {v : List Int} {k : Nat} {l : List Int} (h : Near v k l) : l.length = v.length := by
  obtain ⟨g, hg, rfl⟩ := h
  exact upto_length _ _
theorem res_abs {v : List Int} {k : Nat} {g : Nat → Bool} (h : k = 0 ∨ 0 < loud v) (hp : Pick (rt v k) v.length (lft v k) g) {i : Nat} (hi : i < v.length) : (res v k g i).natAbs = qt v k i + one (g i) := by
  unfold res
  rw [Int.natAbs_mul, Int.natAbs_natCast]
  by_cases e : at0 v i = 0
  · have e1 : qt v k i = 0 := by simp [qt, sh, e]
    have e2 : rt v k i = 0 := by simp [rt, sh, e]
    have e3 : g i = false := by
      cases eg : g i with
      | false => rfl
      | true => have := pick_pos h hp hi eg; omega
    rw [e1, e3]; simp [one]
  · rw [Int.natAbs_sign_of_ne_zero e, Nat.one_mul]
theorem Near.loud {v : List Int} {k : Nat} {l : List Int} (h : Near v k l) (hk : k = 0 ∨ 0 < loud v) : loud l = k := by
  obtain ⟨g, hg, rfl⟩ := h
  rw [loud_tot, upto_length, tot_congr (g := fun i => qt v k i + Nea.one (g i)) fun i hi => by rw [upto_at _ hi, res_abs hk hg hi], tot_add]
  have := (rests v k hk).2
  have h2 : tot (fun j => Nea.one (g j)) v.length = lft v k := hg.1
  omega
theorem Near.sign {v : List Int} {k : Nat} {l : List Int} (h : Near v k l) {i : Nat} (hi : i < v.length) : (at0 l i < 0 → at0 v i < 0) ∧ (0 < at0 l i → 0 < at0 v i) := by
  obtain ⟨g, hg, rfl⟩ := h
  rw [upto_at _ hi]
  unfold res
  obtain ⟨N, hN⟩ : ∃ N, qt v k i + Nea.one (g i) = N := ⟨_, rfl⟩
  rw [hN]
  rcases Int.lt_trichotomy (at0 v i) 0 with e | e | e
  · rw [Int.sign_eq_neg_one_of_neg e]; omega
  · rw [e]; simp
  · rw [Int.sign_eq_one_of_pos e]; omega

/-- How far. -/
def far1 (v : List Int) (k : Nat) (p : List Int) (i : Nat) : Nat := ((k : Int) * at0 v i - (loud v : Int) * at0 p i).natAbs
def far (v : List Int) (k : Nat) (p : List Int) : Nat := tot (far1 v k p) v.length

theorem bound {r : Nat → Nat} {g : Nat → Bool} (M : Nat) : ∀ n, (∀ i, i < n → r i ≤ M) → ∃ c, c ≤ M ∧ (∀ j, j < n → g j = false → r j ≤ c) ∧ ∀ x : Nat, (∀ j, j < n → g j = false → r j ≤ x) → c ≤ x := by
  intro n
  induction n with
  | zero => intro _; exact ⟨0, Nat.zero_le _, fun j hj => by omega, fun x _ => Nat.zero_le _⟩
  | succ n ih =>
    intro hM
    obtain ⟨c, c1, c2, c3⟩ := ih fun i hi => hM i (by omega)
    cases e : g n with
    | true =>
      refine ⟨c, c1, fun j hj hg => ?_, fun x hx => c3 x fun j hj => hx j (by omega)⟩
      rcases Nat.lt_or_ge j n with h | h
      · exact c2 j h hg
      · obtain rfl : j = n := by omega
        rw [e] at hg; cases hg
    | false =>
      refine ⟨max c (r n), Nat.max_le.2 ⟨c1, hM n (by omega)⟩, fun j hj hg => ?_, fun x hx => Nat.max_le.2 ⟨c3 x fun j hj => hx j (by omega), hx n (by omega) e⟩⟩
      rcases Nat.lt_or_ge j n with h | h
      · exact Nat.le_trans (c2 j h hg) (Nat.le_max_left _ _)
      · obtain rfl : j = n := by omega
        exact Nat.le_max_right _ _

/-- One number: no other number of pulses is nearer, a pulse's price paid. -/
theorem near1 (M q r c y g : Int) (r0 : 0 ≤ r) (r1 : r < M) (c0 : 0 ≤ c) (c1 : c ≤ M) (hg : (g = 1 ∧ c ≤ r) ∨ (g = 0 ∧ r ≤ c)) :
    ((M * q + r - M * (q + g)).natAbs : Int) + (M - 2 * c) * (y - (q + g)) ≤ ((M * q + r - M * y).natAbs : Int) := by
  obtain ⟨t, rfl⟩ : ∃ t, y = q + t := ⟨y - q, by omega⟩
  have e1 : M * q + r - M * (q + g) = r - M * g := by rw [Int.mul_add]; omega
  have e2 : M * q + r - M * (q + t) = r - M * t := by rw [Int.mul_add]; omega
  have e3 : (M - 2 * c) * (q + t - (q + g)) = M * t - M * g - 2 * (c * t) + 2 * (c * g) := by
    rw [show q + t - (q + g) = t - g by omega, Int.sub_mul, Int.mul_sub, Int.mul_sub, Int.mul_assoc, Int.mul_assoc]; omega
  rw [e1, e2, e3]
  rcases (by omega : 0 < t ∨ t ≤ 0) with h | h
  · have p1 : 0 ≤ M * (t - 1) := Int.mul_nonneg (by omega) (by omega)
    have p2 : 0 ≤ c * (t - 1) := Int.mul_nonneg c0 (by omega)
    rw [Int.mul_sub, Int.mul_one] at p1 p2
    rcases hg with ⟨rfl, hg⟩ | ⟨rfl, hg⟩
    · rw [Int.mul_one, Int.mul_one]; omega
    · rw [Int.mul_zero, Int.mul_zero]; omega
  · have p1 : 0 ≤ (M - c) * (-t) := Int.mul_nonneg (by omega) (by omega)
    have p2 : 0 ≤ c * (-t) := Int.mul_nonneg c0 (by omega)
    rw [Int.sub_mul, Int.mul_neg, Int.mul_neg] at p1
    rw [Int.mul_neg] at p2
    rcases hg with ⟨rfl, hg⟩ | ⟨rfl, hg⟩
    · rw [Int.mul_one, Int.mul_one]; omega
    · rw [Int.mul_zero, Int.mul_zero]; omega

theorem abs_sub (M x y : Int) (hM : 0 ≤ M) (k : Int) (hk : 0 ≤ k) : (k * (x.natAbs : Int) - M * (y.natAbs : Int)).natAbs ≤ (k * x - M * y).natAbs := by
  have e1 : k * (x.natAbs : Int) = ((k * x).natAbs : Int) := by rw [Int.natAbs_mul, Int.natCast_mul, Int.natAbs_of_nonneg hk]
  have e2 : M * (y.natAbs : Int) = ((M * y).natAbs : Int) := by rw [Int.natAbs_mul, Int.natCast_mul, Int.natAbs_of_nonneg hM]
  rw [e1, e2]
  omega
theorem abs_sub_same (M x y : Int) (hM : 0 ≤ M) (k : Int) (hk : 0 ≤ k) (h : (y < 0 → x < 0) ∧ (0 < y → 0 < x)) : (k * (x.natAbs : Int) - M * (y.natAbs : Int)).natAbs = (k * x - M * y).natAbs := by
  rcases Int.lt_trichotomy y 0 with e | e | e
  · have hx := h.1 e
    rw [show (x.natAbs : Int) = -x by omega, show (y.natAbs : Int) = -y by omega, Int.mul_neg, Int.mul_neg]; omega
  · subst e
    have e1 : k * (x.natAbs : Int) = ((k * x).natAbs : Int) := by rw [Int.natAbs_mul, Int.natCast_mul, Int.natAbs_of_nonneg hk]
    rw [e1]; simp
  · have hx := h.2 e
    rw [show (x.natAbs : Int) = x by omega, show (y.natAbs : Int) = y by omega]

/-- NONE IS NEARER. -/
theorem Near.best {v : List Int} {k : Nat} {l q : List Int} (h : Near v k l) (hk : k = 0 ∨ 0 < Pls.loud v) (hq : q.length = v.length) (hl : Pls.loud q = k) : far v k l ≤ far v k q := by
  rcases Nat.eq_zero_or_pos (Pls.loud v) with hM | hM
  · have : ∀ i, i < v.length → at0 v i = 0 := fun i hi => by
      rw [loud_tot] at hM
      have := tot_zero hM i hi
      omega
    rw [show far v k l = 0 from by
      unfold far
      rw [tot_congr (g := fun _ => 0) fun i hi => by unfold far1; rw [hM, this i hi]; simp, tot_none]]
    exact Nat.zero_le _
  · have hll := h.loud hk
    have hsg := fun i hi => h.sign (i := i) hi
    have hlen := h.len
    obtain ⟨g, hg, rfl⟩ := h
    obtain ⟨c, c1, c2, c3⟩ := bound (r := rt v k) (g := g) (Pls.loud v) v.length fun i _ => Nat.le_of_lt (rt_lt k i hM)
    have hone : ∀ i, i < v.length → (far1 v k (upto (res v k g) v.length) i : Int) + ((Pls.loud v : Int) - 2 * (c : Int)) * ((at0 q i).natAbs : Int) ≤ (far1 v k q i : Int) + ((Pls.loud v : Int) - 2 * (c : Int)) * ((at0 (upto (res v k g) v.length) i).natAbs : Int) := by
      intro i hi
      have s1 := abs_sub_same (Pls.loud v) (at0 v i) (at0 (upto (res v k g) v.length) i) (by omega) k (by omega) (hsg i hi)
      have s2 := abs_sub (Pls.loud v) (at0 v i) (at0 q i) (by omega) k (by omega)
      have s3 : (at0 (upto (res v k g) v.length) i).natAbs = qt v k i + Nea.one (g i) := by rw [upto_at _ hi, res_abs hk hg hi]
      have s4 : (k : Int) * ((at0 v i).natAbs : Int) = (Pls.loud v : Int) * (qt v k i : Int) + (rt v k i : Int) := by
        have := sh_eq v k i
        unfold sh at this
        rw [← Int.natCast_mul, this]; simp
      have s5 := near1 (Pls.loud v) (qt v k i) (rt v k i) c ((at0 q i).natAbs : Int) (Nea.one (g i) : Int) (by omega) (by have := rt_lt k i hM; omega) (by omega) (by omega) (by
        cases eg : g i with
        | true => exact Or.inl ⟨by simp [Nea.one], by
            have := c3 (rt v k i) fun j hj ej => by
              have := hg.2 i j hi hj eg ej
              unfold Beats at this; omega
            omega⟩
        | false => exact Or.inr ⟨by simp [Nea.one], by have := c2 i hi eg; omega⟩)
      unfold far1
      rw [← s1, s3, s4]
      rw [s4] at s2
      rw [Int.mul_sub] at s5
      rw [show ((qt v k i + Nea.one (g i) : Nat) : Int) = (qt v k i : Int) + (Nea.one (g i) : Int) by omega]
      omega
    have hsum : ∀ n, n ≤ v.length → (tot (far1 v k (upto (res v k g) v.length)) n : Int) + ((Pls.loud v : Int) - 2 * (c : Int)) * (tot (fun i => (at0 q i).natAbs) n : Int) ≤ (tot (far1 v k q) n : Int) + ((Pls.loud v : Int) - 2 * (c : Int)) * (tot (fun i => (at0 (upto (res v k g) v.length) i).natAbs) n : Int) := by
      intro n
      induction n with
      | zero => intro _; simp [tot]
      | succ n ih =>
        intro hn
        have i1 := ih (by omega)
        have i2 := hone n (by omega)
        simp only [tot, Int.natCast_add, Int.mul_add]
        omega
    have hs := hsum v.length (Nat.le_refl _)
    have q1 : tot (fun i => (at0 q i).natAbs) v.length = k := by rw [← hq, ← loud_tot, hl]
    have q2 : tot (fun i => (at0 (upto (res v k g) v.length) i).natAbs) v.length = k := by
      have := loud_tot (upto (res v k g) v.length)
      rw [hll, hlen] at this
      exact this.symm
    rw [q1, q2] at hs
    unfold far
    omega

/-- WHAT IS A WHOLE ROW ALREADY IS ITS OWN. -/
theorem at0_map (by_ : Int) (p : List Int) (i : Nat) : at0 (p.map (by_ * ·)) i = by_ * at0 p i := by
  unfold at0
  rw [List.getElem?_map]
  cases p[i]? with
  | none => simp
  | some x => rfl
theorem loud_map (c : Nat) (p : List Int) : Pls.loud (p.map ((c : Int) * ·)) = c * Pls.loud p := by
  rw [loud_tot, loud_tot p, List.length_map, ← tot_mul]
  exact tot_congr fun i _ => by rw [at0_map, Int.natAbs_mul]; simp
theorem whole_sh (c : Nat) (p : List Int) (i : Nat) (hc : 0 < c) (hk : 0 < Pls.loud p) : qt (p.map ((c : Int) * ·)) (Pls.loud p) i = (at0 p i).natAbs ∧ rt (p.map ((c : Int) * ·)) (Pls.loud p) i = 0 := by
  unfold qt rt sh
  rw [loud_map, at0_map, Int.natAbs_mul, Int.natAbs_natCast, ← Nat.mul_assoc, Nat.mul_comm (Pls.loud p) c, Nat.mul_div_cancel_left _ (Nat.mul_pos hc hk), Nat.mul_mod_right]
  exact ⟨rfl, rfl⟩
theorem whole {c : Nat} {p l : List Int} (hc : 0 < c) (hk : 0 < Pls.loud p) (h : Near (p.map ((c : Int) * ·)) (Pls.loud p) l) : l = p := by
  obtain ⟨g, hg, rfl⟩ := h
  have h0 : lft (p.map ((c : Int) * ·)) (Pls.loud p) = 0 := by
    unfold lft
    rw [tot_congr (g := fun i => (at0 p i).natAbs) fun i _ => (whole_sh c p i hc hk).1, List.length_map, ← loud_tot]; omega
  rw [h0] at hg
  refine eq_of_at (by rw [upto_length, List.length_map]) fun i hi => ?_
  rw [upto_length] at hi
  rw [upto_at _ hi]
  unfold res
  rw [cnt_none hg.1 i hi, (whole_sh c p i hc hk).1, at0_map, Int.sign_mul, Int.sign_natCast_of_ne_zero (by omega), Int.one_mul]
  simp [Nea.one, Int.sign_mul_natAbs]
theorem whole_far (c : Nat) (p : List Int) : far (p.map ((c : Int) * ·)) (Pls.loud p) p = 0 := by
  unfold far
  rw [tot_congr (g := fun _ => 0) fun i _ => by
    unfold far1
    rw [loud_map, at0_map, Int.natCast_mul, ← Int.mul_assoc, Int.mul_comm (Pls.loud p : Int) c]
    simp, tot_none]

end Go.Proofs.YtkkhgdkgbhdfaakGreatDoor.Nea

/-
  How loud the first numbers are; the fault of a row of pulses. No program here.
-/
namespace Go.Proofs.YtkkhgdkgbhdfaakGreatDoor.Pls
open Go.Proofs.YtkkhgdkgbhdfaakGreatDoor.Tre Go.Proofs.YtkkhgdkgbhdfaakGreatDoor.Cnt
set_option linter.unusedVariables false

theorem loud_step {l : List Int} {k : Nat} (hk : k < l.length) : loud (l.take (k + 1)) = loud (l.take k) + l[k].natAbs := by
  rw [List.take_succ_eq_append_getElem hk, loud_append]
  simp [loud]
theorem loud_in {b : Nat} {l : List Int} (h : In (b : Int) l) : loud l ≤ b * l.length := by
  induction l with
  | nil => simp [loud]
  | cons x r ih =>
    have h1 := h x (by simp)
    have h2 := ih fun n hn => h n (by simp [hn])
    simp only [loud, List.length_cons, Nat.mul_add]
    omega

/-- The fault of a row: 0 where there is none. -/
def fault (l : List Int) : Int := if 6 < l.length then 4 else if l.any (out 8) = true then 1 else if 8 < loud l then 4 else 0
theorem fault_ok {l : List Int} (h : fault l = 0) : l.length ≤ 6 ∧ In 8 l ∧ loud l ≤ 8 := by
  unfold fault at h
  split at h
  · omega
  · split at h
    · omega
    · split at h
      · omega
      · rename_i h1 h2 h3
        exact ⟨by omega, in_of_any (by simpa using h2), by omega⟩
theorem fault_none {l : List Int} (h1 : l.length ≤ 6) (h2 : In 8 l) (h3 : loud l ≤ 8) : fault l = 0 := by
  unfold fault
  rw [if_neg (by omega), if_neg (by rw [any_of_in h2]; simp), if_neg (by omega)]
theorem loud_all {b : Int} {l : List Int} (h : (loud l : Int) ≤ b) : In b l := by
  intro n hn
  induction l with
  | nil => cases hn
  | cons x r ih =>
    simp only [loud] at h
    rcases List.mem_cons.1 hn with rfl | hn'
    · omega
    · exact ih (by omega) hn'
theorem is_right {n k : Nat} {rank : Int} {l : List Int} (hn : n ≤ 6) (hk : k ≤ 8) (h : Is n k rank l) : fault l = 0 := by
  obtain ⟨rfl, rfl, _⟩ := h
  exact fault_none hn (loud_all (by omega)) hk

end Go.Proofs.YtkkhgdkgbhdfaakGreatDoor.Pls

/-
  The numbers of chapter 15: a tank, its turns. No program here.
-/
namespace Go.Proofs.YtkkhgdkgbhdfaakGreatDoor.Tnk
open Go.Proofs.YtkkhgdkgbhdfaakGreatDoor.Tre
set_option linter.unusedVariables false

/-- A tank that may be. -/
def Ok (S E H : Int) : Prop := 0 ≤ S ∧ S ≤ 1000000 ∧ 0 ≤ E ∧ E ≤ S ∧ 0 ≤ H ∧ H ≤ S
instance (S E H : Int) : Decidable (Ok S E H) := by unfold Ok; infer_instance
def tankF (S E H : Int) : Int := if Ok S E H then 0 else 1
/-- How many may go. -/
def may (S E H : Int) : Int := if S < H + E then S else H + E
/-- The fault of a turn. -/
def turnF (S E H b : Int) : Int := if Ok S E H then (if b < 0 ∨ 1000000 < b then 1 else if may S E H < b then 8 else 0) else 1
theorem may_in {S E H : Int} (h : Ok S E H) : 0 ≤ may S E H ∧ may S E H ≤ S := by
  obtain ⟨h1, h2, h3, h4, h5, h6⟩ := h
  unfold may
  split <;> omega
theorem turnF_zero {S E H b : Int} : turnF S E H b = 0 ↔ Ok S E H ∧ 0 ≤ b ∧ b ≤ 1000000 ∧ b ≤ may S E H := by
  unfold turnF
  constructor
  · intro h
    split at h
    · split at h
      · omega
      · split at h
        · omega
        · rename_i h1 h2 h3
          exact ⟨h1, by omega, by omega, by omega⟩
    · omega
  · intro ⟨h1, h2, h3, h4⟩
    rw [if_pos h1, if_neg (by omega), if_neg (by omega)]
theorem turn_ok {S E H b : Int} (h : turnF S E H b = 0) : Ok S E (may S E H - b) := by
  obtain ⟨h1, h2, h3, h4⟩ := turnF_zero.1 h
  have := may_in h1
  obtain ⟨k1, k2, k3, k4, k5, k6⟩ := h1
  exact ⟨k1, k2, k3, k4, by omega, by omega⟩
/-- Turn by turn: the fault, and how many are there at last. -/
def rn (S E : Int) : Int → List Int → Int × Int
  | H, [] => (0, H)
  | H, b :: l => if turnF S E H b = 0 then rn S E (may S E H - b) l else (turnF S E H b, 0)
def runF (S E H : Int) (l : List Int) : Int := if 60 < l.length then 4 else if Ok S E H then (rn S E H l).1 else 1
/-- How many are there behind the first j turns. -/
def hs (S E H : Int) (l : List Int) : Nat → Int
  | 0 => H
  | j + 1 => may S E (hs S E H l j) - at0 l j
/-- The turns from i on, k of them, added up. -/
def sums (l : List Int) (i : Nat) : Nat → Int
  | 0 => 0
  | k + 1 => sums l i k + at0 l (i + k)
theorem rn_hs {S E : Int} {l : List Int} {H : Int} (h : Ok S E H) (hz : (rn S E H l).1 = 0) : (∀ j, j < l.length → turnF S E (hs S E H l j) (at0 l j) = 0) ∧ (rn S E H l).2 = hs S E H l l.length := by
  induction l generalizing H with
  | nil => exact ⟨fun j hj => by simp at hj, rfl⟩
  | cons b l ih =>
    rw [rn] at hz ⊢
    by_cases ht : turnF S E H b = 0
    · rw [if_pos ht] at hz ⊢
      obtain ⟨h1, h2⟩ := ih (turn_ok ht) hz
      have key : ∀ j, hs S E H (b :: l) (j + 1) = hs S E (may S E H - b) l j := by
        intro j
        induction j with
        | zero => rfl
        | succ j ihj => rw [hs, ihj, hs]; rfl
      refine ⟨fun j hj => ?_, ?_⟩
      · cases j with
        | zero => exact ht
        | succ j =>
          rw [key]
          exact h1 j (by simpa using hj)
      · rw [List.length_cons, key, h2]
    · rw [if_neg ht] at hz
      exact absurd hz ht
theorem hs_ok {S E : Int} {l : List Int} {H : Int} (h : Ok S E H) (hz : ∀ j, j < l.length → turnF S E (hs S E H l j) (at0 l j) = 0) {j : Nat} (hj : j ≤ l.length) : Ok S E (hs S E H l j) := by
  cases j with
  | zero => exact h
  | succ j => exact turn_ok (hz j (by omega))
/-- No more goes than there was, and came. -/
theorem sums_le {S E : Int} {l : List Int} {H : Int} (h : Ok S E H) (hz : ∀ j, j < l.length → turnF S E (hs S E H l j) (at0 l j) = 0) {i k : Nat} (hk : i + k ≤ l.length) : sums l i k + hs S E H l (i + k) ≤ hs S E H l i + k * E := by
  induction k with
  | zero => simp [sums]
  | succ k ih =>
    have h1 := ih (by omega)
    have h2 : hs S E H l (i + (k + 1)) = may S E (hs S E H l (i + k)) - at0 l (i + k) := rfl
    have h3 : may S E (hs S E H l (i + k)) ≤ hs S E H l (i + k) + E := by unfold may; split <;> omega
    have h4 : ((k + 1 : Nat) : Int) * E = k * E + E := by rw [Int.natCast_add, Int.add_mul]; simp
    rw [sums, h4, h2]
    omega
theorem holds {S E : Int} {l : List Int} {H : Int} (h : Ok S E H) (hz : ∀ j, j < l.length → turnF S E (hs S E H l j) (at0 l j) = 0) {i k : Nat} (hk : i + k ≤ l.length) : sums l i k ≤ S + k * E := by
  have h1 := sums_le h hz hk
  have h2 := (hs_ok h hz hk).2.2.2.2.1
  have h3 := (hs_ok h hz (show i ≤ l.length by omega)).2.2.2.2.2
  omega
/-- As much as comes may go, for ever. -/
theorem even {S E : Int} (h : Ok S E (S - E)) (n : Nat) : rn S E (S - E) (List.replicate n E) = (0, S - E) := by
  induction n with
  | zero => rfl
  | succ n ih =>
    obtain ⟨h1, h2, h3, h4, h5, h6⟩ := h
    have hm : may S E (S - E) = S := by unfold may; rw [if_neg (by omega)]; omega
    have ht : turnF S E (S - E) E = 0 := turnF_zero.2 ⟨⟨h1, h2, h3, h4, h5, h6⟩, h3, by omega, by rw [hm]; exact h4⟩
    rw [List.replicate_succ, rn, if_pos ht, hm]
    exact ih

/-- What a turn tells of a tank. -/
def tS (S E H b : Int) : Int := if turnF S E H b = 0 then S else 0
def tE (S E H b : Int) : Int := if turnF S E H b = 0 then E else 0
def tH (S E H b : Int) : Int := if turnF S E H b = 0 then may S E H - b else 0
def mayN (S E H : Int) : Int := if tankF S E H = 0 then may S E H else 0
def lastN (S E H : Int) (l : List Int) : Int := if runF S E H l = 0 then (rn S E H l).2 else 0
theorem tankF_zero {S E H : Int} : tankF S E H = 0 ↔ Ok S E H := by
  unfold tankF
  constructor
  · intro h
    split at h
    · assumption
    · omega
  · intro h
    rw [if_pos h]
theorem tankF_in (S E H : Int) : tankF S E H = 0 ∨ tankF S E H = 1 := by
  unfold tankF
  split <;> omega
theorem turnF_in (S E H b : Int) : turnF S E H b = 0 ∨ turnF S E H b = 1 ∨ turnF S E H b = 8 := by
  unfold turnF
  split
  · split
    · omega
    · split <;> omega
  · omega
theorem turn_is {S E H b : Int} (h : turnF S E H b = 0) : tS S E H b = S ∧ tE S E H b = E ∧ tH S E H b = may S E H - b := by
  unfold tS tE tH
  rw [if_pos h, if_pos h, if_pos h]
  exact ⟨rfl, rfl, rfl⟩
theorem turn_no {S E H b : Int} (h : turnF S E H b ≠ 0) : tS S E H b = 0 ∧ tE S E H b = 0 ∧ tH S E H b = 0 := by
  unfold tS tE tH
  rw [if_neg h, if_neg h, if_neg h]
  exact ⟨rfl, rfl, rfl⟩
/-- Turn by turn, from where one is. -/
def from_ (S E H : Int) (l : List Int) (j : Nat) : Int × Int := rn S E H (l.drop j)
theorem from_step {S E H : Int} {l : List Int} {j : Nat} (hj : j < l.length) : from_ S E H l j = if turnF S E H (at0 l j) = 0 then from_ S E (may S E H - at0 l j) l (j + 1) else (turnF S E H (at0 l j), 0) := by
  unfold from_
  have e : at0 l j = l[j] := by simp [at0, hj]
  rw [List.drop_eq_getElem_cons hj, rn, e]
theorem from_end (S E H : Int) (l : List Int) : from_ S E H l l.length = (0, H) := by
  unfold from_
  rw [List.drop_length]
  rfl
theorem from_zero (S E H : Int) (l : List Int) : from_ S E H l 0 = rn S E H l := rfl

theorem runF_zero {S E H : Int} {l : List Int} (h : runF S E H l = 0) : l.length ≤ 60 ∧ Ok S E H ∧ (rn S E H l).1 = 0 := by
  unfold runF at h
  split at h
  · omega
  · split at h
    · rename_i h1 h2
      exact ⟨by omega, h2, h⟩
    · omega
/-- What Run tells of turns that all go. -/
theorem run_holds {S E H : Int} {l : List Int} (h : runF S E H l = 0) : (∀ j, j < l.length → 0 ≤ at0 l j ∧ at0 l j ≤ 1000000) ∧ (∀ i k, i + k ≤ l.length → sums l i k ≤ S + k * E) ∧ 0 ≤ lastN S E H l ∧ lastN S E H l ≤ S := by
  obtain ⟨h1, h2, h3⟩ := runF_zero h
  obtain ⟨h4, h5⟩ := rn_hs h2 h3
  have h6 := hs_ok h2 h4 (Nat.le_refl l.length)
  refine ⟨fun j hj => ?_, fun i k hk => holds h2 h4 hk, ?_, ?_⟩
  · obtain ⟨_, e1, e2, _⟩ := turnF_zero.1 (h4 j hj)
    exact ⟨e1, e2⟩
  · unfold lastN
    rw [if_pos h, h5]
    exact h6.2.2.2.2.1
  · unfold lastN
    rw [if_pos h, h5]
    exact h6.2.2.2.2.2
theorem sums_nonneg {l : List Int} (h : ∀ j, j < l.length → 0 ≤ at0 l j ∧ at0 l j ≤ 1000000) {i k : Nat} (hk : i + k ≤ l.length) : 0 ≤ sums l i k ∧ sums l i k ≤ 1000000 * k := by
  induction k with
  | zero => simp [sums]
  | succ k ih =>
    have h1 := ih (by omega)
    have h2 := h (i + k) (by omega)
    rw [sums]
    omega
/-- As much as may go goes, and one more does not. -/
theorem turn_may {S E H : Int} (h : Ok S E H) : turnF S E H (may S E H) = 0 ∧ (turnF S E H (may S E H + 1) = 8 ∨ (turnF S E H (may S E H + 1) = 1 ∧ may S E H = 1000000)) := by
  have hm := may_in h
  have h9 := h.2.1
  refine ⟨turnF_zero.2 ⟨h, hm.1, by omega, Int.le_refl _⟩, ?_⟩
  unfold turnF
  rw [if_pos h]
  by_cases h1 : 1000000 < may S E H + 1
  · rw [if_pos (Or.inr h1)]
    exact Or.inr ⟨rfl, by omega⟩
  · rw [if_neg (by omega), if_pos (by omega)]
    exact Or.inl rfl

end Go.Proofs.YtkkhgdkgbhdfaakGreatDoor.Tnk

/-
  The numbers of chapter 10, as lists: sums, the greatest, shares that are Total in all. No program here.
-/
namespace Go.Proofs.YtkkhgdkgbhdfaakGreatDoor.Scl
open Go.Proofs.YtkkhgdkgbhdfaakGreatDoor.Tre
set_option linter.unusedVariables false

/-- The first j, added up; all of them. -/
def pfx (l : List Int) : Nat → Int
  | 0 => 0
  | j + 1 => pfx l j + at0 l j
def tot (l : List Int) : Int := pfx l l.length

theorem pfx_congr {l m : List Int} {j : Nat} (h : ∀ i, i < j → at0 l i = at0 m i) : pfx l j = pfx m j := by
  induction j with
  | zero => rfl
  | succ j ih => rw [pfx, pfx, ih fun i hi => h i (by omega), h j (by omega)]
theorem at0_take {l : List Int} {i k : Nat} (h : i < k) : at0 (l.take k) i = at0 l i := by simp [at0, h]
theorem tot_take (l : List Int) {k : Nat} (h : k ≤ l.length) : tot (l.take k) = pfx l k := by
  unfold tot
  rw [List.length_take, Nat.min_eq_left h]
  exact pfx_congr fun i hi => at0_take hi
theorem at0_set {l : List Int} {i j : Nat} {x : Int} (hj : j < l.length) : at0 (l.set j x) i = if i = j then x else at0 l i := by
  unfold at0
  rw [List.getElem?_set]
  by_cases e : j = i
  · subst e; simp [hj]
  · rw [if_neg e, if_neg (fun h => e h.symm)]
theorem pfx_set {l : List Int} {j : Nat} {x : Int} (hj : j < l.length) (k : Nat) : pfx (l.set j x) k = pfx l k + if j < k then x - at0 l j else 0 := by
  induction k with
  | zero => simp [pfx]
  | succ k ih =>
    rw [pfx, pfx, ih, at0_set hj]
    by_cases e : k = j
    · subst e; simp; omega
    · rw [if_neg e]
      by_cases h : j < k
      · rw [if_pos h, if_pos (by omega)]; omega
      · rw [if_neg h, if_neg (by omega)]; omega
theorem tot_set {l : List Int} {j : Nat} {x : Int} (hj : j < l.length) : tot (l.set j x) = tot l + (x - at0 l j) := by
  unfold tot
  rw [List.length_set, pfx_set hj, if_pos hj]
theorem pfx_mono {l : List Int} {n : Nat} (h : ∀ i, i < n → 0 ≤ at0 l i) {i j : Nat} (hij : i ≤ j) (hj : j ≤ n) : pfx l i ≤ pfx l j := by
  induction j with
  | zero => obtain rfl : i = 0 := by omega
            exact Int.le_refl _
  | succ j ih =>
    by_cases e : i = j + 1
    · rw [e]; exact Int.le_refl _
    · have := ih (by omega) (by omega)
      have := h j (by omega)
      rw [pfx]; omega
theorem pfx_nonneg {l : List Int} {n : Nat} (h : ∀ i, i < n → 0 ≤ at0 l i) {j : Nat} (hj : j ≤ n) : 0 ≤ pfx l j := pfx_mono h (Nat.zero_le j) hj
/-- Each is no more than all. -/
theorem at_le_tot {l : List Int} (h : ∀ i, i < l.length → 0 ≤ at0 l i) {i : Nat} (hi : i < l.length) : at0 l i ≤ tot l := by
  have h1 := pfx_mono h (i := i + 1) (j := l.length) (by omega) (Nat.le_refl _)
  have h2 := pfx_nonneg h (j := i) (by omega)
  rw [pfx] at h1
  unfold tot
  omega
theorem pfx_le {l : List Int} {b : Int} {n : Nat} (h : ∀ i, i < n → at0 l i ≤ b) {j : Nat} (hj : j ≤ n) : pfx l j ≤ b * j := by
  induction j with
  | zero => simp [pfx]
  | succ j ih =>
    have h1 := ih (by omega)
    have h2 := h j (by omega)
    have e : b * ((j + 1 : Nat) : Int) = b * j + b := by rw [Int.natCast_add, Int.mul_add]; simp
    rw [pfx, e]; omega

/-- The place of the greatest of the first j, of several the first. -/
def bst (l : List Int) : Nat → Nat
  | 0 => 0
  | j + 1 => if at0 l (bst l j) < at0 l j then j else bst l j
/-- b is the place of the greatest, of several the first. -/
def IsBest (l : List Int) (b : Nat) : Prop := b < l.length ∧ (∀ i, i < l.length → at0 l i ≤ at0 l b) ∧ ∀ i, i < b → at0 l i < at0 l b
theorem IsBest.one {l : List Int} {b c : Nat} (h : IsBest l b) (k : IsBest l c) : b = c := by
  rcases Nat.lt_trichotomy b c with h1 | h1 | h1
  · have := k.2.2 b h1; have := h.2.1 c k.1; omega
  · exact h1
  · have := h.2.2 c h1; have := k.2.1 b h.1; omega
theorem bst_lt (l : List Int) (j : Nat) : bst l j < j ∨ (j = 0 ∧ bst l j = 0) := by
  induction j with
  | zero => exact Or.inr ⟨rfl, rfl⟩
  | succ j ih =>
    left
    rw [bst]
    split
    · omega
    · omega
theorem bst_is (l : List Int) (j : Nat) (hj : 0 < j) : (∀ i, i < j → at0 l i ≤ at0 l (bst l j)) ∧ ∀ i, i < bst l j → at0 l i < at0 l (bst l j) := by
  induction j with
  | zero => omega
  | succ j ih =>
    by_cases h0 : j = 0
    · subst h0
      have e : bst l 1 = 0 := by simp [bst]
      rw [e]
      exact ⟨fun i hi => by obtain rfl : i = 0 := by omega
                            exact Int.le_refl _, fun i hi => by omega⟩
    · obtain ⟨i1, i2⟩ := ih (by omega)
      rw [bst]
      split
      · rename_i h
        exact ⟨fun i hi => by
          by_cases e : i = j
          · rw [e]; exact Int.le_refl _
          · have := i1 i (by omega); omega, fun i hi => by have := i1 i hi; omega⟩
      · rename_i h
        exact ⟨fun i hi => by
          by_cases e : i = j
          · rw [e]; omega
          · exact i1 i (by omega), i2⟩
theorem bst_best (l : List Int) (h : 0 < l.length) : IsBest l (bst l l.length) := by
  obtain ⟨h1, h2⟩ := bst_is l l.length h
  rcases bst_lt l l.length with h3 | ⟨h3, _⟩
  · exact ⟨h3, h1, h2⟩
  · omega

/-- One step towards Total: the greatest is one less, or one more. -/
def nxt (l : List Int) : List Int := l.set (bst l l.length) (at0 l (bst l l.length) + if 256 < tot l then -1 else 1)
def run : Nat → List Int → List Int
  | 0, l => l
  | k + 1, l => run k (nxt l)
/-- Till they are Total. -/
def fit (l : List Int) : List Int := run (tot l - 256).natAbs l

/-- None is below 0, not all are 0, and there are not too many. -/
def Good (l : List Int) : Prop := l.length ≤ 40 ∧ (∀ i, i < l.length → 0 ≤ at0 l i) ∧ 0 < tot l
theorem Good.pos {l : List Int} (h : Good l) : 0 < l.length := by
  rcases Nat.eq_zero_or_pos l.length with e | e
  · have := h.2.2
    unfold tot at this
    rw [e] at this
    simp [pfx] at this
  · exact e
/-- The greatest is more than 0; and if they are more than Total, more than 1. -/
theorem Good.best {l : List Int} (h : Good l) {b : Nat} (hb : IsBest l b) : 1 ≤ at0 l b ∧ (256 < tot l → 2 ≤ at0 l b) := by
  have h1 := pfx_le (b := at0 l b) hb.2.1 (Nat.le_refl _)
  have h2 : tot l ≤ at0 l b * l.length := h1
  have h3 := h.2.2
  have h4 : (l.length : Int) ≤ 40 := by have := h.1; omega
  have hp := h.pos
  have h0 := h.2.1 b hb.1
  refine ⟨?_, fun h5 => ?_⟩
  · rcases Int.lt_or_le (at0 l b) 1 with e | e
    · have e0 : at0 l b = 0 := by omega
      rw [e0] at h2; simp at h2; omega
    · exact e
  · rcases Int.lt_or_le (at0 l b) 2 with e | e
    · have : at0 l b * (l.length : Int) ≤ 1 * (l.length : Int) := Int.mul_le_mul_of_nonneg_right (by omega) (by omega)
      omega
    · exact e
theorem nxt_is {l : List Int} {b : Nat} (h : IsBest l b) : nxt l = l.set b (at0 l b + if 256 < tot l then -1 else 1) := by
  have e := IsBest.one (bst_best l (Nat.lt_of_le_of_lt (Nat.zero_le _) h.1)) h
  unfold nxt
  rw [e]
theorem nxt_length (l : List Int) : (nxt l).length = l.length := by unfold nxt; rw [List.length_set]
theorem nxt_tot {l : List Int} (h : Good l) : tot (nxt l) = tot l + if 256 < tot l then -1 else 1 := by
  have hb := bst_best l h.pos
  rw [nxt_is hb, tot_set hb.1]; omega
theorem nxt_good {l : List Int} (h : Good l) : Good (nxt l) := by
  have hb := bst_best l h.pos
  obtain ⟨b1, b2⟩ := h.best hb
  refine ⟨by rw [nxt_length]; exact h.1, fun i hi => ?_, ?_⟩
  · rw [nxt_length] at hi
    rw [nxt_is hb, at0_set hb.1]
    split
    · split <;> omega
    · exact h.2.1 i hi
  · rw [nxt_tot h]
    have := h.2.2
    split <;> omega
/-- Who has a share keeps one; who has none gets none. -/
theorem nxt_zero {l : List Int} (h : Good l) {i : Nat} (hi : i < l.length) : (0 < at0 (nxt l) i ↔ 0 < at0 l i) := by
  have hb := bst_best l h.pos
  obtain ⟨b1, b2⟩ := h.best hb
  rw [nxt_is hb, at0_set hb.1]
  split
  · rename_i e
    rw [e]
    split
    · rename_i h1
      have := b2 h1
      omega
    · omega
  · exact Iff.rfl
theorem nxt_less {l : List Int} (h : Good l) (hne : tot l ≠ 256) : (tot (nxt l) - 256).natAbs + 1 = (tot l - 256).natAbs := by
  rw [nxt_tot h]
  split <;> omega
theorem fit_done {l : List Int} (h : tot l = 256) : fit l = l := by unfold fit; rw [h]; rfl
theorem fit_next {l : List Int} (h : Good l) (hne : tot l ≠ 256) : fit (nxt l) = fit l := by
  unfold fit
  rw [← nxt_less h hne, run]
theorem fit_is {P : List Int → Prop} (hP : ∀ l, Good l → P l → P (nxt l)) {l : List Int} (h : Good l) (h0 : P l) : P (fit l) ∧ Good (fit l) ∧ tot (fit l) = 256 := by
  have key : ∀ k l, Good l → P l → (tot l - 256).natAbs = k → P (fit l) ∧ Good (fit l) ∧ tot (fit l) = 256 := by
    intro k
    induction k with
    | zero =>
      intro l h h0 hk
      have e : tot l = 256 := by omega
      rw [fit_done e]
      exact ⟨h0, h, e⟩
    | succ k ih =>
      intro l h h0 hk
      have hne : tot l ≠ 256 := by omega
      rw [← fit_next h hne]
      exact ih _ (nxt_good h) (hP l h h0) (by have := nxt_less h hne; omega)
  exact key _ l h h0 rfl
theorem fit_length {l : List Int} (h : Good l) : (fit l).length = l.length := (fit_is (P := fun m => m.length = l.length) (fun m _ hm => by rw [nxt_length]; exact hm) h rfl).1
theorem fit_tot {l : List Int} (h : Good l) : tot (fit l) = 256 := (fit_is (P := fun _ => True) (fun _ _ _ => trivial) h trivial).2.2
theorem fit_good {l : List Int} (h : Good l) : Good (fit l) := (fit_is (P := fun _ => True) (fun _ _ _ => trivial) h trivial).2.1
theorem fit_zero {l : List Int} (h : Good l) {i : Nat} (hi : i < l.length) : (0 < at0 (fit l) i ↔ 0 < at0 l i) :=
  (fit_is (P := fun m => m.length = l.length ∧ (0 < at0 m i ↔ 0 < at0 l i)) (fun m hm ⟨h1, h2⟩ => ⟨by rw [nxt_length]; exact h1, (nxt_zero hm (by omega)).trans h2⟩) h ⟨rfl, Iff.rfl⟩).1.2

/-- A count's share, ahead of the steps; and those of all. -/
def shr (all c : Int) : Int := if c ≤ 0 then 0 else if c * 256 / all = 0 then 1 else c * 256 / all
def base (c : List Int) : List Int := upto (fun i => shr (tot c) (at0 c i)) c.length
def scale (c : List Int) : List Int := fit (base c)
/-- The fault of counts: 0 where there is none. -/
def wrong (n : Int) : Bool := decide (n < 0) || decide (1000000 < n)
def cf (c : List Int) : Int := if c.length = 0 then 5 else if 40 < c.length then 4 else if c.any wrong = true then 1 else if tot c = 0 then 5 else 0

theorem wrong_no {n : Int} (h : wrong n = false) : 0 ≤ n ∧ n ≤ 1000000 := by simp [wrong] at h; omega
theorem cf_ok {c : List Int} (h : cf c = 0) : 0 < c.length ∧ c.length ≤ 40 ∧ (∀ i, i < c.length → 0 ≤ at0 c i ∧ at0 c i ≤ 1000000) ∧ 0 < tot c := by
  unfold cf at h
  split at h
  · omega
  · split at h
    · omega
    · split at h
      · omega
      · split at h
        · omega
        · rename_i h1 h2 h3 h4
          have h5 : ∀ i, i < c.length → 0 ≤ at0 c i ∧ at0 c i ≤ 1000000 := fun i hi => by
            have e : at0 c i = c[i] := by simp [at0, hi]
            rw [e]
            have h6 : c.any wrong = false := by simpa using h3
            exact wrong_no (by simpa using List.any_eq_false.1 h6 _ (List.getElem_mem hi))
          have h7 := pfx_nonneg (l := c) (fun i hi => (h5 i hi).1) (Nat.le_refl _)
          exact ⟨by omega, by omega, h5, by unfold tot at *; omega⟩
theorem base_length (c : List Int) : (base c).length = c.length := upto_length _ _
theorem base_at (c : List Int) {i : Nat} (h : i < c.length) : at0 (base c) i = shr (tot c) (at0 c i) := upto_at _ h
theorem shr_in {all c : Int} (h0 : 0 ≤ c) (h1 : c ≤ all) : 0 ≤ shr all c ∧ shr all c ≤ 256 ∧ (0 < shr all c ↔ 0 < c) := by
  unfold shr
  split
  · exact ⟨by omega, by omega, by omega⟩
  · rename_i h2
    have hp : 0 < all := by omega
    have h3 : 0 ≤ c * 256 / all := Int.ediv_nonneg (by omega) (by omega)
    have h4 : c * 256 / all ≤ 256 := by
      have h5 : c * 256 / all < 257 := (Int.ediv_lt_iff_lt_mul hp).2 (by omega)
      omega
    split
    · exact ⟨by omega, by omega, by omega⟩
    · exact ⟨by omega, by omega, by omega⟩
theorem base_good {c : List Int} (h : cf c = 0) : Good (base c) := by
  obtain ⟨h1, h2, h3, h4⟩ := cf_ok h
  have hn : ∀ i, i < (base c).length → 0 ≤ at0 (base c) i := fun i hi => by
    rw [base_length] at hi
    rw [base_at c hi]
    exact (shr_in (h3 i hi).1 (at_le_tot (fun i hi => (h3 i hi).1) hi)).1
  refine ⟨by rw [base_length]; exact h2, hn, ?_⟩
  -- one was counted, and has a share
  have key : ∃ i, i < c.length ∧ 0 < at0 c i := by
    by_cases hh : ∃ i, i < c.length ∧ 0 < at0 c i
    · exact hh
    · have h5 := pfx_le (l := c) (b := 0) (n := c.length) (fun i hi => by
        rcases Int.lt_or_le 0 (at0 c i) with e | e
        · exact absurd ⟨i, hi, e⟩ hh
        · exact e) (Nat.le_refl _)
      simp at h5
      unfold tot at h4
      omega
  obtain ⟨i, hi, hp⟩ := key
  have h5 := at_le_tot hn (i := i) (by rw [base_length]; exact hi)
  rw [base_at c hi] at h5
  have h6 := ((shr_in (h3 i hi).1 (at_le_tot (fun i hi => (h3 i hi).1) hi)).2.2).2 hp
  omega
/-- All together Total; who was counted has a share, and no other. -/
theorem scale_is {c : List Int} (h : cf c = 0) : (scale c).length = c.length ∧ tot (scale c) = 256 ∧ (∀ i, i < c.length → 0 ≤ at0 (scale c) i) ∧ ∀ i, i < c.length → (0 < at0 (scale c) i ↔ 0 < at0 c i) := by
  have hg := base_good h
  obtain ⟨h1, h2, h3, h4⟩ := cf_ok h
  have hl : (scale c).length = c.length := by unfold scale; rw [fit_length hg, base_length]
  refine ⟨hl, fit_tot hg, fun i hi => (fit_good hg).2.1 i (by rw [fit_length hg, base_length]; exact hi), fun i hi => ?_⟩
  unfold scale
  rw [fit_zero hg (by rw [base_length]; exact hi), base_at c hi]
  exact (shr_in (h3 i hi).1 (at_le_tot (fun i hi => (h3 i hi).1) hi)).2.2

/-- Are shares right? -/
def right (f : List Int) : Prop := 1 ≤ f.length ∧ f.length ≤ 40 ∧ (∀ i, i < f.length → 0 ≤ at0 f i) ∧ tot f = 256
/-- Whose a place is. -/
def IsAt (f : List Int) (at' : Int) (k : Nat) : Prop := k < f.length ∧ pfx f k ≤ at' ∧ at' < pfx f k + at0 f k
theorem IsAt.one {f : List Int} (h : ∀ i, i < f.length → 0 ≤ at0 f i) {p : Int} {j k : Nat} (hj : IsAt f p j) (hk : IsAt f p k) : j = k := by
  rcases Nat.lt_trichotomy j k with e | e | e
  · have h1 := pfx_mono h (i := j + 1) (j := k) (by omega) (by have := hk.1; omega)
    rw [pfx] at h1
    have := hj.2.2; have := hk.2.1; omega
  · exact e
  · have h1 := pfx_mono h (i := k + 1) (j := j) (by omega) (by have := hj.1; omega)
    rw [pfx] at h1
    have := hk.2.2; have := hj.2.1; omega
theorem is_at {f : List Int} {p : Int} (h0 : 0 ≤ p) (h1 : p < tot f) : ∃ k, IsAt f p k := by
  have key : ∀ n, n ≤ f.length → p < pfx f n → ∃ k, IsAt f p k := by
    intro n
    induction n with
    | zero => intro _ h; simp [pfx] at h; omega
    | succ n ih =>
      intro hn h
      by_cases h2 : p < pfx f n
      · exact ih (by omega) h2
      · rw [pfx] at h
        exact ⟨n, by omega, by omega, h⟩
  exact key f.length (Nat.le_refl _) h1

end Go.Proofs.YtkkhgdkgbhdfaakGreatDoor.Scl

/-
  The numbers of chapter 11: signs as bytes, there and back; how many bytes. No program here.
-/
namespace Go.Proofs.YtkkhgdkgbhdfaakGreatDoor.Hrn
open Go.Proofs.YtkkhgdkgbhdfaakGreatDoor.Tre Go.Proofs.YtkkhgdkgbhdfaakGreatDoor.Scl
set_option linter.unusedVariables false

/-- From Least to below 256 times as much. -/
def Mid (x : Int) : Prop := 65536 ≤ x ∧ x < 16777216
/-- A low byte is taken off, if so; and which. -/
def ren (F x : Int) : Int := if 65536 * F ≤ x then x / 256 else x
def offb (F x : Int) : List Int := if 65536 * F ≤ x then [x % 256] else []
def put (f : List Int) (s : Nat) (x : Int) : Int := ren (at0 f s) x / at0 f s * 256 + ren (at0 f s) x % at0 f s + pfx f s
/-- The last sign first, onto a number and bytes. -/
def enc (f : List Int) : List Int → Int × List Int → Int × List Int
  | [], z => z
  | s :: l, z => (put f s.toNat (enc f l z).1, offb (at0 f s.toNat) (enc f l z).1 ++ (enc f l z).2)
def three (x : Int) : List Int := [x / 65536, x / 256 % 256, x % 256]
def code (f l : List Int) : List Int := three (enc f l (65536, [])).1 ++ (enc f l (65536, [])).2

/-- There is such a sign, and it has a share. -/
def Sgn (f : List Int) (s : Int) : Prop := 0 ≤ s ∧ s < (f.length : Int) ∧ 0 < at0 f s.toNat
def Signs (f l : List Int) : Prop := ∀ s ∈ l, Sgn f s

theorem share_in {f : List Int} (hf : right f) {s : Nat} (h : s < f.length) (hp : 0 < at0 f s) : 1 ≤ at0 f s ∧ at0 f s ≤ 256 ∧ 0 ≤ pfx f s ∧ pfx f s + at0 f s ≤ 256 := by
  obtain ⟨h1, h2, h3, h4⟩ := hf
  have a1 := at_le_tot h3 h
  have a2 := pfx_nonneg h3 (j := s) (by omega)
  have a3 := pfx_mono h3 (i := s + 1) (j := f.length) (by omega) (Nat.le_refl _)
  rw [pfx] at a3
  unfold tot at h4 a1
  omega
theorem ren_in {F x : Int} (h1 : 1 ≤ F) (h2 : F ≤ 256) (hx : Mid x) : 256 * F ≤ ren F x ∧ ren F x < 65536 * F := by
  obtain ⟨x1, x2⟩ := hx
  unfold ren
  split <;> omega
/-- What a step is made of. -/
theorem put_parts {f : List Int} (hf : right f) {s : Nat} (h : s < f.length) (hp : 0 < at0 f s) {x : Int} (hx : Mid x) :
    256 ≤ ren (at0 f s) x / at0 f s ∧ ren (at0 f s) x / at0 f s < 65536 ∧ 0 ≤ ren (at0 f s) x % at0 f s ∧ ren (at0 f s) x % at0 f s < at0 f s := by
  obtain ⟨a1, a2, a3, a4⟩ := share_in hf h hp
  obtain ⟨r1, r2⟩ := ren_in a1 a2 hx
  exact ⟨(Int.le_ediv_iff_mul_le hp).2 r1, (Int.ediv_lt_iff_lt_mul hp).2 r2, Int.emod_nonneg _ (by omega), Int.emod_lt_of_pos _ hp⟩
theorem put_in {f : List Int} (hf : right f) {s : Nat} (h : s < f.length) (hp : 0 < at0 f s) {x : Int} (hx : Mid x) : Mid (put f s x) := by
  obtain ⟨a1, a2, a3, a4⟩ := share_in hf h hp
  obtain ⟨q1, q2, q3, q4⟩ := put_parts hf h hp hx
  unfold put Mid
  omega
theorem put_div {f : List Int} (hf : right f) {s : Nat} (h : s < f.length) (hp : 0 < at0 f s) {x : Int} (hx : Mid x) :
    put f s x / 256 = ren (at0 f s) x / at0 f s ∧ put f s x % 256 = ren (at0 f s) x % at0 f s + pfx f s := by
  obtain ⟨a1, a2, a3, a4⟩ := share_in hf h hp
  obtain ⟨q1, q2, q3, q4⟩ := put_parts hf h hp hx
  unfold put
  omega
theorem enc_in {f : List Int} (hf : right f) {l : List Int} (hl : Signs f l) {z : Int × List Int} (hz : Mid z.1) : Mid (enc f l z).1 := by
  induction l with
  | nil => exact hz
  | cons s l ih =>
    have hs := hl s (by simp)
    exact put_in hf (by have := hs.1; have := hs.2.1; omega) hs.2.2 (ih fun t ht => hl t (by simp [ht]))
theorem enc_append (f l m : List Int) (z : Int × List Int) : enc f (l ++ m) z = enc f l (enc f m z) := by
  induction l with
  | nil => rfl
  | cons s l ih => simp only [List.cons_append, enc, ih]
/-- Bytes. -/
def Byts (l : List Int) : Prop := ∀ b ∈ l, 0 ≤ b ∧ b < 256
theorem offb_byts (F x : Int) : Byts (offb F x) := by
  intro b hb
  unfold offb at hb
  split at hb
  · simp at hb; omega
  · simp at hb
theorem enc_byts (f l : List Int) {z : Int × List Int} (hz : Byts z.2) : Byts (enc f l z).2 := by
  induction l with
  | nil => exact hz
  | cons s l ih =>
    intro b hb
    rcases List.mem_append.1 hb with h | h
    · exact offb_byts _ _ b h
    · exact ih b h

/-- Bytes are read, till the number is not below Least. -/
def fill : List Int → Int → Option (Int × List Int)
  | [], x => if 65536 ≤ x then some (x, []) else none
  | b :: r, x => if 65536 ≤ x then some (x, b :: r) else fill r (x * 256 + b)
/-- Whose a place is, of the first n. -/
def scan (f : List Int) (p : Int) : Nat → Nat
  | 0 => 0
  | n + 1 => if pfx f n ≤ p ∧ p < pfx f n + at0 f n then n else scan f p n
def sg (f : List Int) (p : Int) : Nat := scan f p f.length
theorem scan_is {f : List Int} {p : Int} {n k : Nat} (h : k < n) (h1 : pfx f k ≤ p) (h2 : p < pfx f k + at0 f k) : scan f p n < n ∧ pfx f (scan f p n) ≤ p ∧ p < pfx f (scan f p n) + at0 f (scan f p n) := by
  induction n with
  | zero => omega
  | succ n ih =>
    rw [scan]
    split
    · rename_i h3
      exact ⟨by omega, h3.1, h3.2⟩
    · rename_i h3
      by_cases e : k = n
      · subst e; exact absurd ⟨h1, h2⟩ h3
      · obtain ⟨i1, i2⟩ := ih (by omega)
        exact ⟨by omega, i2⟩
theorem sg_is {f : List Int} (hf : right f) {p : Int} (h0 : 0 ≤ p) (h9 : p < 256) : IsAt f p (sg f p) := by
  obtain ⟨k, k1, k2, k3⟩ := is_at (f := f) h0 (by rw [hf.2.2.2]; exact h9)
  exact scan_is k1 k2 k3
theorem sg_one {f : List Int} (hf : right f) {p : Int} (h0 : 0 ≤ p) (h9 : p < 256) {k : Nat} (hk : IsAt f p k) : sg f p = k := IsAt.one hf.2.2.1 (sg_is hf h0 h9) hk
theorem isAt_sgn {f : List Int} {p : Int} {k : Nat} (h : IsAt f p k) : Sgn f (k : Int) := by
  obtain ⟨h1, h2, h3⟩ := h
  exact ⟨by omega, by omega, by rw [Int.toNat_natCast]; omega⟩
/-- What is left of a number when its sign is read. -/
def got (f : List Int) (x : Int) : Int := x / 256 * at0 f (sg f (x % 256)) + x % 256 - pfx f (sg f (x % 256))
def dec (f : List Int) : Nat → Int → List Int → Option (List Int × Int × List Int)
  | 0, x, r => some ([], x, r)
  | n + 1, x, r => match fill r (got f x) with
    | none => none
    | some z => (dec f n z.1 z.2).map fun q => ((sg f (x % 256) : Int) :: q.1, q.2)

theorem got_in {f : List Int} (hf : right f) {x : Int} (h0 : 0 ≤ x) (h9 : x < 16777216) : 0 ≤ got f x ∧ got f x < 16777216 := by
  have hk := sg_is hf (p := x % 256) (by omega) (by omega)
  unfold got
  generalize sg f (x % 256) = k at *
  obtain ⟨k1, k2, k3⟩ := hk
  obtain ⟨a1, a2, a3, a4⟩ := share_in hf k1 (by omega)
  have m0 : 0 ≤ x / 256 * at0 f k := Int.mul_nonneg (by omega) (by omega)
  have m1 : x / 256 * at0 f k ≤ x / 256 * 256 := Int.mul_le_mul_of_nonneg_left a2 (by omega)
  omega
theorem fill_in {r : List Int} (hr : Byts r) {x y : Int} {r' : List Int} (h0 : 0 ≤ x) (h9 : x < 16777216) (h : fill r x = some (y, r')) : Mid y ∧ Byts r' := by
  induction r generalizing x with
  | nil =>
    unfold fill at h
    split at h
    · cases h; exact ⟨⟨by assumption, h9⟩, hr⟩
    · cases h
  | cons b r ih =>
    unfold fill at h
    split at h
    · cases h; exact ⟨⟨by assumption, h9⟩, hr⟩
    · have := hr b (by simp)
      exact ih (fun c hc => hr c (by simp [hc])) (by omega) (by omega) h
theorem fill_enough (r : List Int) {x : Int} (h : 65536 ≤ x) : fill r x = some (x, r) := by cases r <;> simp [fill, h]
theorem fill_one (b : Int) (r : List Int) {x : Int} (h : x < 65536) (h2 : 65536 ≤ x * 256 + b) : fill (b :: r) x = some (x * 256 + b, r) := by
  rw [fill, if_neg (by omega), fill_enough r h2]

/-- A sign that was put is read again. -/
theorem dec_one {f : List Int} (hf : right f) {s : Nat} (h : s < f.length) (hp : 0 < at0 f s) {x : Int} (hx : Mid x) (r : List Int) :
    sg f (put f s x % 256) = s ∧ fill (offb (at0 f s) x ++ r) (got f (put f s x)) = some (x, r) := by
  obtain ⟨a1, a2, a3, a4⟩ := share_in hf h hp
  obtain ⟨q1, q2, q3, q4⟩ := put_parts hf h hp hx
  obtain ⟨d1, d2⟩ := put_div hf h hp hx
  have hs : sg f (put f s x % 256) = s := sg_one hf (by omega) (by omega) ⟨h, by omega, by omega⟩
  refine ⟨hs, ?_⟩
  have hg : got f (put f s x) = ren (at0 f s) x := by
    unfold got
    rw [hs, d1, d2]
    have := Int.ediv_mul_add_emod (ren (at0 f s) x) (at0 f s)
    omega
  rw [hg]
  obtain ⟨x1, x2⟩ := hx
  unfold offb ren
  split
  · rw [List.cons_append, List.nil_append, fill_one _ _ (by omega) (by omega)]
    congr 2
    omega
  · rw [List.nil_append, fill_enough _ x1]
/-- What was put is read: signs come back. -/
theorem dec_enc {f : List Int} (hf : right f) {l : List Int} (hl : Signs f l) {z : Int × List Int} (hz : Mid z.1) : dec f l.length (enc f l z).1 (enc f l z).2 = some (l, z) := by
  induction l with
  | nil => rfl
  | cons s l ih =>
    have hs := hl s (by simp)
    have hl' : Signs f l := fun t ht => hl t (by simp [ht])
    obtain ⟨e1, e2⟩ := dec_one hf (s := s.toNat) (by have := hs.1; have := hs.2.1; omega) hs.2.2 (enc_in hf hl' hz) (enc f l z).2
    rw [List.length_cons, enc, dec]
    simp only
    rw [e2]
    simp only
    rw [ih hl', e1]
    have := hs.1
    simp
    omega
/-- So many signs are read, each with a share. -/
theorem dec_len {f : List Int} (hf : right f) {n : Nat} {x y : Int} {r r' l : List Int} (h0 : 0 ≤ x) (h9 : x < 16777216) (hr : Byts r) (h : dec f n x r = some (l, y, r')) : l.length = n ∧ Signs f l := by
  induction n generalizing x r l with
  | zero => cases h; exact ⟨rfl, fun s hs => by simp at hs⟩
  | succ n ih =>
    rw [dec] at h
    cases hfl : fill r (got f x) with
    | none => rw [hfl] at h; cases h
    | some z =>
      rw [hfl] at h
      simp only at h
      obtain ⟨g1, g2⟩ := got_in hf h0 h9
      obtain ⟨m1, m2⟩ := fill_in hr g1 g2 (y := z.1) (r' := z.2) hfl
      obtain ⟨⟨q1, q2⟩, hq, e⟩ := Option.map_eq_some_iff.1 h
      obtain ⟨rfl, rfl⟩ := Prod.mk.inj e
      obtain ⟨i1, i2⟩ := ih (by have := m1.1; omega) m1.2 m2 (l := q1) hq
      refine ⟨by rw [List.length_cons, i1], fun t ht => ?_⟩
      rcases List.mem_cons.1 ht with e | e
      · rw [e]; exact isAt_sgn (sg_is hf (by omega) (by omega))
      · exact i2 t e
/-- What is read of a number that is great enough is put again. -/
theorem enc_dec {f : List Int} (hf : right f) {n : Nat} {x y : Int} {r r' l : List Int} (hx : Mid x) (hr : Byts r) (h : dec f n x r = some (l, y, r')) : Mid y ∧ enc f l (y, r') = (x, r) := by
  induction n generalizing x r l with
  | zero => cases h; exact ⟨hx, rfl⟩
  | succ n ih =>
    rw [dec] at h
    cases hfl : fill r (got f x) with
    | none => rw [hfl] at h; cases h
    | some z =>
      rw [hfl] at h
      simp only at h
      have h0 : 0 ≤ x := by have := hx.1; omega
      obtain ⟨g1, g2⟩ := got_in hf h0 hx.2
      obtain ⟨m1, m2⟩ := fill_in hr g1 g2 (y := z.1) (r' := z.2) hfl
      obtain ⟨⟨q1, q2⟩, hq, e⟩ := Option.map_eq_some_iff.1 h
      obtain ⟨rfl, rfl⟩ := Prod.mk.inj e
      obtain ⟨i1, i2⟩ := ih m1 m2 (l := q1) hq
      refine ⟨i1, ?_⟩
      rw [enc, i2]
      simp only
      rw [Int.toNat_natCast]
      have hk := sg_is hf (p := x % 256) (by omega) (by omega)
      unfold got at hfl
      generalize hs : sg f (x % 256) = k at *
      obtain ⟨k1, k2, k3⟩ := hk
      have hp : 0 < at0 f k := by omega
      obtain ⟨a1, a2, a3, a4⟩ := share_in hf k1 hp
      obtain ⟨x1, x2⟩ := hx
      -- the number ahead of the bytes
      obtain ⟨Q, hQ⟩ : ∃ Q, x / 256 = Q := ⟨_, rfl⟩
      obtain ⟨m, hm⟩ : ∃ m, x % 256 - pfx f k = m := ⟨_, rfl⟩
      have hq1 : 256 ≤ Q := by omega
      have hq2 : Q < 65536 := by omega
      have n1 : 256 * at0 f k ≤ Q * at0 f k := Int.mul_le_mul_of_nonneg_right hq1 (by omega)
      have n2 : Q * at0 f k ≤ 65535 * at0 f k := Int.mul_le_mul_of_nonneg_right (by omega) (by omega)
      have ey : x / 256 * at0 f k + x % 256 - pfx f k = Q * at0 f k + m := by rw [hQ]; omega
      rw [ey] at hfl
      have hdiv : (Q * at0 f k + m) / at0 f k = Q := by
        rw [Int.add_comm, Int.add_mul_ediv_right _ _ (by omega), Int.ediv_eq_zero_of_lt (by omega) (by omega)]; omega
      have hmod : (Q * at0 f k + m) % at0 f k = m := by
        rw [Int.add_comm, Int.add_mul_emod_self_right, Int.emod_eq_of_lt (by omega) (by omega)]
      generalize hY : Q * at0 f k + m = Y at *
      have key : ren (at0 f k) z.1 = Y ∧ offb (at0 f k) z.1 ++ z.2 = r := by
        by_cases hlt : 65536 ≤ Y
        · rw [fill_enough r hlt] at hfl
          cases hfl
          unfold ren offb
          rw [if_neg (by simp only; omega), if_neg (by simp only; omega)]
          exact ⟨rfl, rfl⟩
        · cases r with
          | nil => rw [fill, if_neg hlt] at hfl; cases hfl
          | cons b r =>
            have hb := hr b (by simp)
            rw [fill_one b r (by omega) (by omega)] at hfl
            cases hfl
            unfold ren offb
            rw [if_pos (by simp only; omega), if_pos (by simp only; omega)]
            refine ⟨by simp only; omega, ?_⟩
            have : (Y * 256 + b) % 256 = b := by omega
            simp only [this, List.cons_append, List.nil_append]
      rw [key.2]
      unfold put
      rw [key.1, hdiv, hmod]
      congr 1
      omega

/-- A number is that of its three bytes. -/
theorem three_is {x : Int} (h : Mid x) : x / 65536 * 65536 + x / 256 % 256 * 256 + x % 256 = x := by omega
theorem three_byts {x : Int} (h : Mid x) : Byts (three x) := by
  obtain ⟨h1, h2⟩ := h
  intro b hb
  simp [three] at hb
  omega
theorem three_of {a b c : Int} (ha : 0 ≤ a ∧ a < 256) (hb : 0 ≤ b ∧ b < 256) (hc : 0 ≤ c ∧ c < 256) : three (a * 65536 + b * 256 + c) = [a, b, c] := by
  unfold three
  congr 1
  · omega
  · congr 1
    · omega
    · congr 1; omega
theorem least : Mid 65536 := ⟨by omega, by omega⟩
theorem code_byts {f l : List Int} (hf : right f) (hl : Signs f l) : Byts (code f l) := by
  intro b hb
  rcases List.mem_append.1 hb with h | h
  · exact three_byts (enc_in hf hl least) b h
  · exact enc_byts f l (z := (65536, [])) (fun c hc => by simp at hc) b h

/-- l are the n signs of these bytes. -/
def IsRow (f bs : List Int) (n : Nat) (l : List Int) : Prop := l.length = n ∧ Signs f l ∧ code f l = bs
/-- The bytes of a row tell it. -/
theorem code_dec {f l : List Int} (hf : right f) (hl : Signs f l) : ∃ x r, code f l = three x ++ r ∧ Mid x ∧ Byts r ∧ dec f l.length x r = some (l, 65536, []) :=
  ⟨_, _, rfl, enc_in hf hl least, enc_byts f l (fun c hc => by simp at hc), dec_enc hf hl least⟩
theorem three_inj {x y : Int} {r s : List Int} (hx : Mid x) (hy : Mid y) (h : three x ++ r = three y ++ s) : x = y ∧ r = s := by
  simp [three] at h
  have a := three_is hx
  have b := three_is hy
  obtain ⟨h1, h2, h3, h4⟩ := h
  rw [h1, h2, h3] at a
  exact ⟨by omega, h4⟩
theorem IsRow.one {f bs : List Int} (hf : right f) {n : Nat} {l m : List Int} (h : IsRow f bs n l) (k : IsRow f bs n m) : l = m := by
  obtain ⟨x, r, e1, hx, _, d1⟩ := code_dec hf h.2.1
  obtain ⟨y, s, e2, hy, _, d2⟩ := code_dec hf k.2.1
  obtain ⟨rfl, rfl⟩ := three_inj hx hy (by rw [← e1, ← e2, h.2.2, k.2.2])
  rw [h.1] at d1
  rw [k.1, d1] at d2
  cases d2
  rfl
/-- Read of three bytes and the rest, and put again: it is so just where it is a row. -/
theorem row_iff {f : List Int} (hf : right f) {a b c : Int} {r : List Int} (hb : Byts (a :: b :: c :: r)) {n : Nat} {l : List Int} :
    IsRow f (a :: b :: c :: r) n l ↔ dec f n (a * 65536 + b * 256 + c) r = some (l, 65536, []) ∧ code f l = a :: b :: c :: r := by
  have ha := hb a (by simp)
  have hb' := hb b (by simp)
  have hc := hb c (by simp)
  constructor
  · intro h
    obtain ⟨x, s, e1, hx, _, d1⟩ := code_dec hf h.2.1
    rw [h.2.2, h.1] at *
    have e2 : three (a * 65536 + b * 256 + c) ++ r = three x ++ s := by rw [three_of ha hb' hc, ← e1]; rfl
    have e3 : a * 65536 + b * 256 + c = x := by
      have := three_is hx
      rw [three_of ha hb' hc] at e2
      simp [three] at e2
      omega
    rw [e3] at e2 ⊢
    rw [List.append_cancel_left e2]
    exact ⟨d1, rfl⟩
  · rintro ⟨h1, h2⟩
    obtain ⟨i1, i2⟩ := dec_len hf (by omega) (by omega) (fun x hx => hb x (by simp [hx])) h1
    exact ⟨i1, i2, h2⟩
/-- .. or where the number is great enough at first. -/
theorem row_iff' {f : List Int} (hf : right f) {a b c : Int} {r : List Int} (hb : Byts (a :: b :: c :: r)) {n : Nat} {l : List Int} :
    IsRow f (a :: b :: c :: r) n l ↔ dec f n (a * 65536 + b * 256 + c) r = some (l, 65536, []) ∧ 65536 ≤ a * 65536 + b * 256 + c := by
  have ha := hb a (by simp)
  have hb' := hb b (by simp)
  have hc := hb c (by simp)
  rw [row_iff hf hb]
  constructor
  · rintro ⟨h1, h2⟩
    refine ⟨h1, ?_⟩
    obtain ⟨i1, i2⟩ := dec_len hf (by omega) (by omega) (fun x hx => hb x (by simp [hx])) h1
    obtain ⟨x, s, e1, hx, _, d1⟩ := code_dec hf i2
    rw [h2] at e1
    have := three_is hx
    have := hx.1
    simp [three] at e1
    omega
  · rintro ⟨h1, h2⟩
    refine ⟨h1, ?_⟩
    obtain ⟨_, e⟩ := enc_dec hf ⟨h2, by omega⟩ (fun x hx => hb x (by simp [hx])) h1
    unfold code
    rw [e]
    simp only
    rw [three_of ha hb' hc]
    rfl
theorem row_short {f bs : List Int} {n : Nat} {l : List Int} (h : bs.length < 3) : ¬ IsRow f bs n l := fun k => by
  have := k.2.2
  rw [← this] at h
  simp [code, three] at h
  omega

/-- Of one sign more it is none, where no share is Total. -/
theorem row_more {f l m : List Int} (hf : right f) (hl : Signs f l) (hno : ∀ i, i < f.length → at0 f i ≠ 256) (h : IsRow f (code f l) (l.length + 1) m) : False := by
  obtain ⟨h1, h2, h3⟩ := h
  have e0 : m.take l.length ++ m.drop l.length = m := List.take_append_drop _ _
  have hd : (m.drop l.length).length = 1 := by rw [List.length_drop]; omega
  obtain ⟨s, hs⟩ : ∃ s, m.drop l.length = [s] := by
    match hm : m.drop l.length, hd with
    | [s], _ => exact ⟨s, rfl⟩
  rw [hs] at e0
  have hsg : Sgn f s := h2 s (by rw [← e0]; simp)
  have hm' : Signs f (m.take l.length) := fun t ht => h2 t (List.mem_of_mem_take ht)
  have ht : (m.take l.length).length = l.length := by rw [List.length_take]; omega
  have hs1 : Signs f [s] := fun t ht => by simp at ht; rw [ht]; exact hsg
  have hM : Mid (enc f [s] (65536, [])).1 := enc_in hf hs1 least
  have d1 := dec_enc hf hl (z := (65536, [])) least
  have d2 := dec_enc hf hm' (z := enc f [s] (65536, [])) hM
  rw [← enc_append, e0, ht] at d2
  have e1 := three_inj (enc_in hf h2 least) (enc_in hf hl least) (show three _ ++ _ = three _ ++ _ from h3)
  rw [e1.1, e1.2, d1] at d2
  have e2 : enc f [s] (65536, []) = (65536, []) := by
    have := Option.some.inj d2
    exact (Prod.mk.inj this).2.symm
  simp only [enc] at e2
  obtain ⟨p1, p2⟩ := Prod.mk.inj e2
  have hF := share_in hf (s := s.toNat) (by have := hsg.1; have := hsg.2.1; omega) hsg.2.2
  have hne := hno s.toNat (by have := hsg.1; have := hsg.2.1; omega)
  obtain ⟨a1, a2, a3, a4⟩ := hF
  unfold put ren at p1
  rw [if_neg (by
    intro hh
    unfold offb at p2
    rw [if_pos hh] at p2
    simp at p2)] at p1
  have q1 : 257 ≤ 65536 / at0 f s.toNat := (Int.le_ediv_iff_mul_le (by omega)).2 (by omega)
  have q2 : 0 ≤ 65536 % at0 f s.toNat := Int.emod_nonneg _ (by omega)
  omega

/-- How many bits a share needs. -/
def nb (F : Int) : Nat := if 256 ≤ F then 0 else if 128 ≤ F then 1 else if 64 ≤ F then 2 else if 32 ≤ F then 3 else if 16 ≤ F then 4 else if 8 ≤ F then 5 else if 4 ≤ F then 6 else if 2 ≤ F then 7 else 8
theorem nb_is {F : Int} (h : 1 ≤ F) : 256 ≤ F * 2 ^ nb F := by
  unfold nb
  repeat' split
  all_goals (simp only [Int.reducePow]; omega)
theorem nb_le (F : Int) : nb F ≤ 8 := by
  unfold nb
  repeat' split
  all_goals omega
def need (f : List Int) : List Int → Nat
  | [] => 0
  | s :: l => nb (at0 f s.toNat) + need f l
theorem need_append (f l m : List Int) : need f (l ++ m) = need f l + need f m := by
  induction l with
  | nil => simp [need]
  | cons s l ih => rw [List.cons_append, need, need, ih]; omega
theorem need_le (f l : List Int) : need f l ≤ 8 * l.length := by
  induction l with
  | nil => simp [need]
  | cons s l ih => rw [need, List.length_cons]; have := nb_le (at0 f s.toNat); omega
theorem pow_pos' {a : Int} (h : 0 < a) (n : Nat) : 0 < a ^ n := Int.pow_pos h

/-- A step makes the number greater by no more than the bits say, and a little. -/
theorem put_bits {f : List Int} (hf : right f) {s : Nat} (h : s < f.length) (hp : 0 < at0 f s) {x : Int} (hx : Mid x) : 256 * put f s x ≤ 257 * 2 ^ nb (at0 f s) * ren (at0 f s) x := by
  obtain ⟨a1, a2, a3, a4⟩ := share_in hf h hp
  obtain ⟨q1, q2, q3, q4⟩ := put_parts hf h hp hx
  have hd := Int.ediv_mul_add_emod (ren (at0 f s) x) (at0 f s)
  have hb := nb_is a1
  unfold put
  generalize ren (at0 f s) x = R at *
  generalize R / at0 f s = q at *
  generalize R % at0 f s = m at *
  generalize at0 f s = F at *
  generalize (2 : Int) ^ nb F = B at *
  have hB : 0 ≤ B := by
    rcases Int.lt_or_le B 0 with e | e
    · have := Int.mul_nonpos_of_nonneg_of_nonpos (show (0 : Int) ≤ F by omega) (show B ≤ 0 by omega)
      omega
    · exact e
  have h1 : q * 256 ≤ q * (F * B) := Int.mul_le_mul_of_nonneg_left hb (by omega)
  have h2 : q * (F * B) ≤ R * B := by
    rw [← Int.mul_assoc]
    exact Int.mul_le_mul_of_nonneg_right (by omega) hB
  have h3 : 257 * B * R = 257 * (R * B) := by rw [Int.mul_assoc, Int.mul_comm B R]
  rw [h3]
  omega
theorem off_less {F x : Int} (h0 : 0 ≤ x) (r : List Int) : (256 : Int) ^ (offb F x ++ r).length * ren F x ≤ 256 ^ r.length * x := by
  unfold offb ren
  split
  · rw [List.cons_append, List.nil_append, List.length_cons, Int.pow_succ, Int.mul_assoc]
    exact Int.mul_le_mul_of_nonneg_left (by omega) (Int.le_of_lt (pow_pos' (by omega) _))
  · rw [List.nil_append]; exact Int.le_refl _
theorem enc_bits {f : List Int} (hf : right f) {l : List Int} (hl : Signs f l) :
    (256 : Int) ^ l.length * (256 ^ (enc f l (65536, [])).2.length * (enc f l (65536, [])).1) ≤ 65536 * (2 ^ need f l * 257 ^ l.length) := by
  induction l with
  | nil => simp [enc, need]
  | cons s l ih =>
    have hs := hl s (by simp)
    have hl' : Signs f l := fun t ht => hl t (by simp [ht])
    have hi := ih hl'
    have hM := enc_in hf hl' (z := (65536, [])) least
    rw [enc, need, List.length_cons]
    simp only
    generalize enc f l (65536, []) = z at *
    have b1 := put_bits hf (s := s.toNat) (by have := hs.1; have := hs.2.1; omega) hs.2.2 hM
    have b2 := off_less (F := at0 f s.toNat) (x := z.1) (by have := hM.1; omega) z.2
    generalize put f s.toNat z.1 = P at *
    generalize ren (at0 f s.toNat) z.1 = R at *
    generalize (offb (at0 f s.toNat) z.1 ++ z.2).length = K at *
    rw [Int.pow_succ, Int.pow_succ, Int.pow_add]
    have pB : (0 : Int) < 2 ^ nb (at0 f s.toNat) := pow_pos' (by omega) _
    have pN : (0 : Int) < 256 ^ l.length := pow_pos' (by omega) _
    have pK : (0 : Int) < 256 ^ K := pow_pos' (by omega) _
    generalize (2 : Int) ^ nb (at0 f s.toNat) = B at *
    generalize (256 : Int) ^ l.length = A at *
    generalize (256 : Int) ^ K = D at *
    generalize (256 : Int) ^ z.2.length = E at *
    generalize (2 : Int) ^ need f l = G at *
    generalize (257 : Int) ^ l.length = H at *
    calc A * 256 * (D * P) = A * (D * (256 * P)) := by ac_rfl
      _ ≤ A * (D * (257 * B * R)) := Int.mul_le_mul_of_nonneg_left (Int.mul_le_mul_of_nonneg_left b1 (Int.le_of_lt pK)) (Int.le_of_lt pN)
      _ = A * (257 * B * (D * R)) := by ac_rfl
      _ ≤ A * (257 * B * (E * z.1)) := Int.mul_le_mul_of_nonneg_left (Int.mul_le_mul_of_nonneg_left b2 (by omega)) (Int.le_of_lt pN)
      _ = 257 * B * (A * (E * z.1)) := by ac_rfl
      _ ≤ 257 * B * (65536 * (G * H)) := Int.mul_le_mul_of_nonneg_left hi (by omega)
      _ = 65536 * (B * G * (H * 257)) := by ac_rfl
theorem pows {n : Nat} (h : n ≤ 60) : (257 : Int) ^ n < 2 * 256 ^ n := by
  have key : ∀ k : Nat, k ≤ 60 → (257 : Int) ^ k < 2 * 256 ^ k := by decide +kernel
  exact key n h
/-- No more bytes than told. -/
theorem code_len {f l : List Int} (hf : right f) (hl : Signs f l) (h60 : l.length ≤ 60) : 3 ≤ (code f l).length ∧ (code f l).length ≤ 3 + need f l / 8 := by
  have e : (code f l).length = 3 + (enc f l (65536, [])).2.length := by simp [code, three]; omega
  refine ⟨by omega, ?_⟩
  have hb := enc_bits hf hl
  have hM := (enc_in hf hl (z := (65536, [])) least).1
  have hp := pows h60
  rw [e]
  generalize (enc f l (65536, [])).2.length = K at *
  generalize (enc f l (65536, [])).1 = x at *
  generalize need f l = S at *
  have pN : (0 : Int) < 256 ^ l.length := pow_pos' (by omega) _
  have pK : (0 : Int) < 256 ^ K := pow_pos' (by omega) _
  have pS : (0 : Int) < 2 ^ S := pow_pos' (by omega) _
  have h1 : (256 : Int) ^ l.length * (256 ^ K * 65536) ≤ 65536 * (2 ^ S * 257 ^ l.length) :=
    Int.le_trans (Int.mul_le_mul_of_nonneg_left (Int.mul_le_mul_of_nonneg_left hM (Int.le_of_lt pK)) (Int.le_of_lt pN)) hb
  have h2 : (256 : Int) ^ l.length * 256 ^ K < 256 ^ l.length * (2 ^ S * 2) := by
    have e1 : (256 : Int) ^ l.length * (256 ^ K * 65536) = 65536 * (256 ^ l.length * 256 ^ K) := by ac_rfl
    have e2 : (2 : Int) ^ S * 257 ^ l.length < 2 ^ S * (2 * 256 ^ l.length) := Int.mul_lt_mul_of_pos_left hp pS
    have e3 : (2 : Int) ^ S * (2 * 256 ^ l.length) = 256 ^ l.length * (2 ^ S * 2) := by ac_rfl
    omega
  have h3 : (256 : Int) ^ K < 2 ^ S * 2 := Int.lt_of_mul_lt_mul_left h2 (Int.le_of_lt pN)
  have h4 : (2 : Int) ^ (8 * K) < 2 ^ (S + 1) := by
    rw [Int.pow_succ, Int.pow_mul]
    exact h3
  have h5 : (2 : Nat) ^ (8 * K) < 2 ^ (S + 1) := by exact_mod_cast h4
  have h6 : 8 * K < S + 1 := (Nat.pow_lt_pow_iff_right (by omega)).1 h5
  omega

end Go.Proofs.YtkkhgdkgbhdfaakGreatDoor.Hrn

/-
  Places in order of the greatest rests, by insertion. No program here.
-/
namespace Go.Proofs.YtkkhgdkgbhdfaakGreatDoor.Nea
open Go.Proofs.YtkkhgdkgbhdfaakGreatDoor.Tre Go.Proofs.YtkkhgdkgbhdfaakGreatDoor.Pls
set_option linter.unusedVariables false

/-- Each place once. -/
def Bij (s : Nat → Nat) (n : Nat) : Prop := (∀ t, t < n → s t < n) ∧ (∀ a b, a < n → b < n → s a = s b → a = b) ∧ ∀ i, i < n → ∃ t, t < n ∧ s t = i
def swp (s : Nat → Nat) (j t : Nat) : Nat := if t = j then s (j + 1) else if t = j + 1 then s j else s t
theorem swp_l (s : Nat → Nat) (j : Nat) : swp s j j = s (j + 1) := by simp [swp]
theorem swp_r (s : Nat → Nat) (j : Nat) : swp s j (j + 1) = s j := by simp [swp]
theorem swp_o (s : Nat → Nat) {j t : Nat} (h : t ≠ j) (h' : t ≠ j + 1) : swp s j t = s t := by simp [swp, h, h']
theorem Bij.swap {s : Nat → Nat} {n j : Nat} (h : Bij s n) (hj : j + 1 < n) : Bij (swp s j) n := by
  obtain ⟨h1, h2, h3⟩ := h
  refine ⟨fun t ht => ?_, fun a b ha hb e => ?_, fun i hi => ?_⟩
  · unfold swp; split
    · exact h1 _ hj
    · split
      · exact h1 _ (by omega)
      · exact h1 _ ht
  · have q1 := h2 j (j + 1) (by omega) hj
    have q2 := h2 a j ha (by omega)
    have q3 := h2 a (j + 1) ha hj
    have q4 := h2 b j hb (by omega)
    have q5 := h2 b (j + 1) hb hj
    have q6 := h2 a b ha hb
    unfold swp at e
    split at e <;> split at e <;> (try split at e) <;> (try split at e) <;> omega
  · obtain ⟨t, ht, e⟩ := h3 i hi
    by_cases e1 : t = j
    · exact ⟨j + 1, hj, by rw [swp_r, ← e1, e]⟩
    · by_cases e2 : t = j + 1
      · exact ⟨j, by omega, by rw [swp_l, ← e2, e]⟩
      · exact ⟨t, ht, by rw [swp_o s e1 e2, e]⟩

/-- The first i are in order, the others stand where they stood. -/
def Ins (r : Nat → Nat) (s : Nat → Nat) (n i : Nat) : Prop := Bij s n ∧ (∀ t, i ≤ t → t < n → s t = t) ∧ (∀ t, t < i → s t < i) ∧ ∀ a b, a < b → b < i → Beats r (s a) (s b)
/-- .. and i is on its way, at place j. -/
def InsJ (r : Nat → Nat) (s : Nat → Nat) (n i j : Nat) : Prop := i < n ∧ j ≤ i ∧ Bij s n ∧ (∀ t, i < t → t < n → s t = t) ∧ s j = i ∧ (∀ t, t ≤ i → t ≠ j → s t < i) ∧
  (∀ a b, a < b → b ≤ i → a ≠ j → b ≠ j → Beats r (s a) (s b)) ∧ ∀ t, j < t → t ≤ i → Beats r i (s t)
theorem ins_start (r : Nat → Nat) (n : Nat) : Ins r (fun t => t) n 1 :=
  ⟨⟨fun t h => h, fun a b _ _ e => e, fun i hi => ⟨i, hi, rfl⟩⟩, fun t _ _ => rfl, fun t h => h, fun a b h1 h2 => by omega⟩
theorem Ins.go {r s : Nat → Nat} {n i : Nat} (h : Ins r s n i) (hi : i < n) : InsJ r s n i i := by
  obtain ⟨h1, h2, h3, h4⟩ := h
  exact ⟨hi, Nat.le_refl _, h1, fun t ht => h2 t (by omega), h2 i (Nat.le_refl _) hi, fun t ht hn => h3 t (by omega), fun a b hab hb _ hn => h4 a b hab (by omega), fun t a b => by omega⟩
theorem InsJ.step {r s : Nat → Nat} {n i j : Nat} (h : InsJ r s n i (j + 1)) (hr : r (s j) < r (s (j + 1))) : InsJ r (swp s j) n i j := by
  obtain ⟨h1, h2, h3, h4, h5, h6, h7, h8⟩ := h
  rw [h5] at hr
  refine ⟨h1, by omega, h3.swap (by omega), fun t ht htn => ?_, by rw [swp_l, h5], fun t ht hn => ?_, fun a b hab hb ha hb' => ?_, fun t ht ht' => ?_⟩
  · rw [swp_o s (by omega) (by omega)]; exact h4 t ht htn
  · by_cases e : t = j + 1
    · rw [e, swp_r]; exact h6 j (by omega) (by omega)
    · rw [swp_o s hn e]; exact h6 t ht e
  · by_cases e : a = j + 1
    · rw [e, swp_r, swp_o s hb' (by omega)]; exact h7 j b (by omega) hb (by omega) (by omega)
    · rw [swp_o s ha e]
      by_cases e' : b = j + 1
      · rw [e', swp_r]; exact h7 a j (by omega) (by omega) e (by omega)
      · rw [swp_o s hb' e']; exact h7 a b hab hb e e'
  · by_cases e : t = j + 1
    · rw [e, swp_r]; exact Or.inl hr
    · rw [swp_o s (by omega) e]; exact h8 t (by omega) ht'
theorem InsJ.stop {r s : Nat → Nat} {n i j : Nat} (h : InsJ r s n i j) (hr : j = 0 ∨ r (s j) ≤ r (s (j - 1))) : Ins r s n (i + 1) := by
  obtain ⟨h1, h2, h3, h4, h5, h6, h7, h8⟩ := h
  have hlast : ∀ a, a < j → Beats r (s a) i := by
    intro a ha
    rcases hr with rfl | hr
    · omega
    · have k1 : Beats r (s (j - 1)) i := by
        have := h6 (j - 1) (by omega) (by omega)
        rw [h5] at hr
        unfold Beats; omega
      by_cases e : a = j - 1
      · rw [e]; exact k1
      · have k2 := h7 a (j - 1) (by omega) (by omega) (by omega) (by omega)
        unfold Beats at *; omega
  refine ⟨h3, fun t ht => h4 t (by omega), fun t ht => ?_, fun a b hab hb => ?_⟩
  · by_cases e : t = j
    · rw [e, h5]; omega
    · have := h6 t (by omega) e; omega
  · by_cases e : a = j
    · subst e; rw [h5]; exact h8 b hab (by omega)
    · by_cases e' : b = j
      · subst e'; rw [h5]; exact hlast a hab
      · exact h7 a b hab (by omega) e e'

/-- Who is among the first m. -/
def gt (s : Nat → Nat) (m i : Nat) : Bool := (List.range m).any fun t => s t == i
theorem gt_zero (s : Nat → Nat) (i : Nat) : gt s 0 i = false := rfl
theorem gt_succ (s : Nat → Nat) (m i : Nat) : gt s (m + 1) i = with1 (gt s m) (s m) i := by
  unfold gt with1
  rw [List.range_succ, List.any_append]
  congr 1
  simp only [List.any_cons, List.any_nil, Bool.or_false]
  by_cases e : s m = i
  · simp [e]
  · have e' : ¬ i = s m := fun h => e h.symm
    simp [e, e']
theorem gt_no {s : Nat → Nat} {m i : Nat} : gt s m i = false ↔ ∀ t, t < m → s t ≠ i := by simp [gt]
theorem gt_best {r s : Nat → Nat} {n m : Nat} (h : Ins r s n n) (hm : m < n) : Best r (gt s m) n (s m) := by
  obtain ⟨⟨h1, h2, h3⟩, _, _, h4⟩ := h
  refine ⟨h1 m hm, gt_no.2 fun t ht e => ?_, fun i hi hg => ?_⟩
  · have := h2 t m (by omega) hm e; omega
  · obtain ⟨t, ht, rfl⟩ := h3 i hi
    have hn := gt_no.1 hg
    by_cases e : t = m
    · exact Or.inl (by rw [e])
    · exact Or.inr (h4 m t (by rcases Nat.lt_or_ge t m with k | k; exact absurd rfl (hn t k); omega) ht)
theorem gt_pick {r s : Nat → Nat} {n : Nat} (h : Ins r s n n) : ∀ m, m ≤ n → Pick r n m (gt s m) := by
  intro m
  induction m with
  | zero => intro _; exact pick_zero r n
  | succ m ih =>
    intro hm
    have := (ih (by omega)).more (gt_best h hm)
    have e : gt s (m + 1) = with1 (gt s m) (s m) := funext (gt_succ s m)
    rw [e]; exact this

theorem upto_set (f : Nat → Int) {n j : Nat} (x : Int) : (upto f n).set j x = upto (fun t => if t = j then x else f t) n := by
  refine eq_of_at (by rw [List.length_set, upto_length, upto_length]) fun i hi => ?_
  rw [List.length_set, upto_length] at hi
  rw [upto_at _ hi]
  unfold at0
  rw [List.getElem?_set]
  by_cases e : i = j
  · subst e; simp [upto_length, hi]
  · rw [if_neg (fun h => e h.symm), if_neg e]
    exact upto_at f hi
theorem swp_set (s : Nat → Nat) {n j : Nat} {x y : Int} (hx : (s j : Int) = x) (hy : (s (j + 1) : Int) = y) : ((upto (fun t => (s t : Int)) n).set (j + 1) x).set j y = upto (fun t => (swp s j t : Int)) n := by
  rw [upto_set, upto_set]
  refine upto_congr fun t _ => ?_
  unfold swp
  by_cases e : t = j
  · rw [if_pos e, if_pos e, hy]
  · rw [if_neg e, if_neg e]
    by_cases e' : t = j + 1
    · rw [if_pos e', if_pos e', hx]
    · rw [if_neg e', if_neg e']

end Go.Proofs.YtkkhgdkgbhdfaakGreatDoor.Nea

/-
  hornref1's Far, alone: by its contract.
-/
namespace Go.Proofs.YtkkhgdkgbhdfaakGreatDoor.Gai
open Go.RowKit
set_option linter.unusedVariables false

theorem refFar1 (n : Int) (w : World) (h0 : -1000000 ≤ n) (h1 : n ≤ 1000000) :
    Calls Tryz.prog 60 #[.int .i64 n] w fun e w' => e = .returned (.int .i64 (n.natAbs : Int)) ∧ w' = w := by
  by_cases h : n < 0
  all_goals
    go_enter Tryz.func60, Tryz.ntmps60
    go_wp2
    go_ret
    exact ⟨ret_int (by omega), rfl⟩

end Go.Proofs.YtkkhgdkgbhdfaakGreatDoor.Gai
