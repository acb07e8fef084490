/-
  Words for slices of integers in memory, for all walks of this seat.
-/
import Derived.Test.YthkibjhhlcfceajGreatDoorRows
import Derived.WalkKit
import Derived.WalkLawsBesides
import Derived.Below
import Derived.Carry
namespace Go.Proofs.YthkibjhhlcfceajGreatDoor
open Go.RowKit
set_option linter.unusedVariables false

/-- The elements l lie where a slice's address says. -/
def Row (w : World) (a : Option Addr) (l : List Int) : Prop :=
  l = [] ∨ ∃ b off, a = some ⟨b, off, none⟩ ∧ b < w.heap.size ∧ ∀ j, j < l.length → w.cell? ⟨b, off + j, none⟩ = some (.int .i64 (l.getD j 0))

theorem Row.below {w w' : World} {a : Option Addr} {l : List Int} (h : Row w a l) (hb : Below w.heap.size w w') : Row w' a l := by
  rcases h with h | ⟨b, off, ha, hlt, hc⟩
  · exact Or.inl h
  · exact Or.inr ⟨b, off, ha, Nat.lt_of_lt_of_le hlt hb.size, fun j hj => (hb.cell (p := ⟨b, off + j, none⟩) hlt).trans (hc j hj)⟩

theorem Row.at {w : World} {a : Option Addr} {l : List Int} (h : Row w a l) {k : Nat} (hk : k < l.length) :
    ∃ b off, a = some ⟨b, off, none⟩ ∧ b < w.heap.size ∧ ∀ j, j < l.length → w.cell? ⟨b, off + j, none⟩ = some (.int .i64 (l.getD j 0)) := by
  rcases h with h | h
  · subst h; exact absurd hk (by simp)
  · exact h

theorem Below.chain {a b c : World} (h : Below a.heap.size a b) (k : Below b.heap.size b c) : Below a.heap.size a c := h.trans (k.mono h.size)

theorem hide {p : Prop} (h : p) : Hid p := h
theorem unhide {p : Prop} (h : Hid p) : p := h

theorem ret_int {k : IntKind} {a b : Int} (h : a = b) : Ending.returned (.int k a) = .returned (.int k b) := by rw [h]

end Go.Proofs.YthkibjhhlcfceajGreatDoor

/-
  The numbers of chapter 3, as lists: sums' halves and differences, level by level, and back. No program here.
-/
namespace Go.Proofs.YthkibjhhlcfceajGreatDoor.Tre
set_option linter.unusedVariables false

/-- What there is at a place, 0 where there is none. -/
def at0 (l : List Int) (i : Nat) : Int := l[i]?.getD 0
/-- Each is within a bound. -/
def In (b : Int) (l : List Int) : Prop := ∀ n ∈ l, -b ≤ n ∧ n ≤ b

theorem In.at {b : Int} {l : List Int} (h : In b l) (hb : 0 ≤ b) (i : Nat) : -b ≤ at0 l i ∧ at0 l i ≤ b := by
  unfold at0
  by_cases hi : i < l.length
  · rw [List.getElem?_eq_getElem hi]; exact h _ (List.getElem_mem hi)
  · rw [List.getElem?_eq_none (by omega)]; simp; omega
theorem In.mono {b c : Int} {l : List Int} (h : In b l) (hb : b ≤ c) : In c l := fun n hn => by have := h n hn; omega
theorem In.take {b : Int} {l : List Int} (h : In b l) (k : Nat) : In b (l.take k) := fun n hn => h n (List.mem_of_mem_take hn)
theorem In.drop {b : Int} {l : List Int} (h : In b l) (k : Nat) : In b (l.drop k) := fun n hn => h n (List.mem_of_mem_drop hn)
theorem In.append {b : Int} {l m : List Int} (h : In b l) (k : In b m) : In b (l ++ m) := fun n hn => (List.mem_append.1 hn).elim (h n) (k n)

/-- f 0, .., f (k - 1). -/
def upto (f : Nat → Int) (k : Nat) : List Int := (List.range k).map f
theorem upto_succ (f : Nat → Int) (k : Nat) : upto f (k + 1) = upto f k ++ [f k] := by simp [upto, List.range_succ]
theorem upto_length (f : Nat → Int) (k : Nat) : (upto f k).length = k := by simp [upto]
theorem upto_at (f : Nat → Int) {k i : Nat} (h : i < k) : at0 (upto f k) i = f i := by simp [at0, upto, h]
theorem upto_congr {f g : Nat → Int} {k : Nat} (h : ∀ i, i < k → f i = g i) : upto f k = upto g k := List.map_congr_left fun i hi => h i (List.mem_range.1 hi)
theorem upto_in {b : Int} {f : Nat → Int} {k : Nat} (h : ∀ i, i < k → -b ≤ f i ∧ f i ≤ b) : In b (upto f k) := fun n hn => by
  obtain ⟨i, hi, rfl⟩ := List.mem_map.1 hn
  exact h i (List.mem_range.1 hi)
theorem eq_upto (l : List Int) : l = upto (at0 l) l.length := by
  apply List.ext_getElem
  · simp [upto]
  · intro i h1 h2; simp [upto, at0, h1]
theorem eq_of_at {l m : List Int} (hl : l.length = m.length) (h : ∀ i, i < l.length → at0 l i = at0 m i) : l = m := by
  rw [eq_upto l, eq_upto m, ← hl]
  exact upto_congr h

/-- f 0, g 0, f 1, g 1, .. -/
def flat (f g : Nat → Int) (n : Nat) : List Int := (List.range n).flatMap fun i => [f i, g i]
theorem flat_succ (f g : Nat → Int) (n : Nat) : flat f g (n + 1) = flat f g n ++ [f n, g n] := by simp [flat, List.range_succ]
theorem flat_length (f g : Nat → Int) (n : Nat) : (flat f g n).length = 2 * n := by
  induction n with
  | zero => rfl
  | succ n ih => rw [flat_succ, List.length_append, ih]; simp; omega
theorem at0_left {l m : List Int} {i : Nat} (h : i < l.length) : at0 (l ++ m) i = at0 l i := by simp [at0, List.getElem?_append_left h]
theorem at0_right {l m : List Int} (i : Nat) : at0 (l ++ m) (l.length + i) = at0 m i := by simp [at0, List.getElem?_append_right]
theorem flat_at (f g : Nat → Int) (n i : Nat) (h : i < n) : at0 (flat f g n) (2 * i) = f i ∧ at0 (flat f g n) (2 * i + 1) = g i := by
  induction n with
  | zero => omega
  | succ n ih =>
    rw [flat_succ]
    by_cases hi : i < n
    · rw [at0_left (by rw [flat_length]; omega), at0_left (by rw [flat_length]; omega)]
      exact ih hi
    · obtain rfl : i = n := by omega
      have e1 := at0_right (l := flat f g i) (m := [f i, g i]) 0
      have e2 := at0_right (l := flat f g i) (m := [f i, g i]) 1
      rw [flat_length] at e1 e2
      exact ⟨e1, e2⟩
theorem flat_congr {f g f' g' : Nat → Int} {n : Nat} (h : ∀ i, i < n → f i = f' i ∧ g i = g' i) : flat f g n = flat f' g' n := by
  induction n with
  | zero => rfl
  | succ n ih => rw [flat_succ, flat_succ, ih fun i hi => h i (by omega), (h n (by omega)).1, (h n (by omega)).2]
theorem flat_in {b : Int} {f g : Nat → Int} {n : Nat} (h : ∀ i, i < n → (-b ≤ f i ∧ f i ≤ b) ∧ (-b ≤ g i ∧ g i ≤ b)) : In b (flat f g n) := by
  induction n with
  | zero => intro x hx; cases hx
  | succ n ih =>
    rw [flat_succ]
    refine (ih fun i hi => h i (by omega)).append fun x hx => ?_
    have := h n (by omega)
    simp at hx
    rcases hx with rfl | rfl
    · exact this.1
    · exact this.2
theorem flat_of {l : List Int} {n : Nat} (h : l.length = 2 * n) : flat (fun i => at0 l (2 * i)) (fun i => at0 l (2 * i + 1)) n = l := by
  refine eq_of_at (by rw [flat_length, h]) fun i hi => ?_
  rw [flat_length] at hi
  have hk := flat_at (fun i => at0 l (2 * i)) (fun i => at0 l (2 * i + 1)) n (i / 2) (by omega)
  rcases Nat.mod_two_eq_zero_or_one i with hm | hm
  · have e : 2 * (i / 2) = i := by omega
    rw [e] at hk; exact hk.1
  · have e : 2 * (i / 2) + 1 = i := by omega
    rw [e] at hk; exact hk.2

/-- Of each two, one behind the other: the sum's half, and the difference. -/
def sumAt (l : List Int) (i : Nat) : Int := (at0 l (2 * i) + at0 l (2 * i + 1)) / 2
def difAt (l : List Int) (i : Nat) : Int := at0 l (2 * i) - at0 l (2 * i + 1)
def sums (l : List Int) : List Int := upto (sumAt l) (l.length / 2)
def difs (l : List Int) : List Int := upto (difAt l) (l.length / 2)
/-- So many levels forward. -/
def tree : Nat → List Int → List Int
  | 0, l => l
  | k + 1, l => tree k (sums l) ++ difs l
/-- Of a half and a difference the two. -/
def oneAt (s d : List Int) (i : Nat) : Int := at0 s i + (at0 d i + 1) / 2
def twoAt (s d : List Int) (i : Nat) : Int := at0 s i + (at0 d i + 1) / 2 - at0 d i
def joins (s d : List Int) : List Int := flat (oneAt s d) (twoAt s d) s.length
/-- Is a number beyond a bound? -/
def out (b n : Int) : Bool := decide (n < -b) || decide (b < n)
/-- So many levels back; none where a number on the way is beyond 4000. -/
def back : Nat → List Int → Option (List Int)
  | 0, l => some l
  | k + 1, l => match back k (l.take (l.length / 2)) with
    | none => none
    | some s => if (joins s (l.drop (l.length / 2))).any (out 4000) = true then none else some (joins s (l.drop (l.length / 2)))

theorem out_no {b n : Int} (h : out b n = false) : -b ≤ n ∧ n ≤ b := by simp [out] at h; omega
theorem out_false {b n : Int} (h : -b ≤ n ∧ n ≤ b) : out b n = false := by simp [out]; omega
theorem in_of_any {b : Int} {l : List Int} (h : l.any (out b) = false) : In b l := fun n hn => out_no (by simpa using List.any_eq_false.1 h n hn)
theorem any_of_in {b : Int} {l : List Int} (h : In b l) : l.any (out b) = false := by
  apply List.any_eq_false.2
  intro n hn
  simpa using out_false (h n hn)

theorem sums_length (l : List Int) : (sums l).length = l.length / 2 := upto_length _ _
theorem difs_length (l : List Int) : (difs l).length = l.length / 2 := upto_length _ _
theorem joins_length (s d : List Int) : (joins s d).length = 2 * s.length := flat_length _ _ _
theorem sums_in {l : List Int} {b : Int} (hb : 0 ≤ b) (h : In b l) : In b (sums l) := upto_in fun i _ => by
  have h1 := h.at hb (2 * i)
  have h2 := h.at hb (2 * i + 1)
  unfold sumAt; omega
theorem difs_in {l : List Int} {b : Int} (hb : 0 ≤ b) (h : In b l) : In (2 * b) (difs l) := upto_in fun i _ => by
  have h1 := h.at hb (2 * i)
  have h2 := h.at hb (2 * i + 1)
  unfold difAt; omega

theorem half_dvd {k n : Nat} (h : 2 ^ (k + 1) ∣ n) : 2 ^ k ∣ n / 2 ∧ n = 2 * (n / 2) := by
  obtain ⟨q, rfl⟩ := h
  have e : 2 ^ (k + 1) * q = 2 * (2 ^ k * q) := by rw [Nat.pow_succ]; simp [Nat.mul_comm, Nat.mul_left_comm]
  rw [e, Nat.mul_div_cancel_left _ (by omega)]
  exact ⟨⟨q, rfl⟩, rfl⟩

theorem tree_length (k : Nat) (l : List Int) (h : 2 ^ k ∣ l.length) : (tree k l).length = l.length := by
  induction k generalizing l with
  | zero => rfl
  | succ k ih =>
    have hh := half_dvd h
    rw [tree, List.length_append, ih _ (by rw [sums_length]; exact hh.1), sums_length, difs_length]
    omega
theorem tree_in (k : Nat) (l : List Int) (h : In 1000 l) : In 2000 (tree k l) := by
  induction k generalizing l with
  | zero => exact h.mono (by omega)
  | succ k ih => exact (ih _ (sums_in (by omega) h)).append (difs_in (by omega) h)

theorem joins_back {l : List Int} (h : l.length = 2 * (l.length / 2)) : joins (sums l) (difs l) = l := by
  have e : joins (sums l) (difs l) = flat (fun i => at0 l (2 * i)) (fun i => at0 l (2 * i + 1)) (l.length / 2) := by
    unfold joins
    rw [sums_length]
    refine flat_congr fun i hi => ?_
    unfold oneAt twoAt sums difs
    rw [upto_at _ hi, upto_at _ hi]
    unfold sumAt difAt
    omega
  rw [e, flat_of h]
theorem sums_joins {s d : List Int} : sums (joins s d) = s := by
  unfold sums
  rw [joins_length, Nat.mul_div_cancel_left _ (by omega : 0 < 2)]
  refine (upto_congr fun i hi => ?_).trans (eq_upto s).symm
  have := flat_at (oneAt s d) (twoAt s d) s.length i hi
  unfold sumAt joins
  rw [this.1, this.2]
  unfold oneAt twoAt
  omega
theorem difs_joins {s d : List Int} (h : s.length = d.length) : difs (joins s d) = d := by
  unfold difs
  rw [joins_length, Nat.mul_div_cancel_left _ (by omega : 0 < 2), h]
  refine (upto_congr fun i hi => ?_).trans (eq_upto d).symm
  have := flat_at (oneAt s d) (twoAt s d) s.length i (by omega)
  unfold difAt joins
  rw [this.1, this.2]
  unfold oneAt twoAt
  omega

theorem back_length (k : Nat) (l x : List Int) (h : 2 ^ k ∣ l.length) (hx : back k l = some x) : x.length = l.length := by
  induction k generalizing l x with
  | zero => cases hx; rfl
  | succ k ih =>
    have hh := half_dvd h
    unfold back at hx
    have hlen : (l.take (l.length / 2)).length = l.length / 2 := by rw [List.length_take]; omega
    cases hs : back k (l.take (l.length / 2)) with
    | none => rw [hs] at hx; cases hx
    | some s =>
      rw [hs] at hx
      dsimp only at hx
      split at hx
      · cases hx
      · cases hx
        rw [joins_length, ih _ s (by rw [hlen]; exact hh.1) hs, hlen]
        omega

/-- Any come back. -/
theorem back_tree (k : Nat) (l : List Int) (h : 2 ^ k ∣ l.length) (hl : In 1000 l) : back k (tree k l) = some l := by
  induction k generalizing l with
  | zero => rfl
  | succ k ih =>
    have hh := half_dvd h
    have hd : 2 ^ k ∣ (sums l).length := by rw [sums_length]; exact hh.1
    have ht : (tree k (sums l)).length = l.length / 2 := by rw [tree_length k _ hd, sums_length]
    have hlen : (tree (k + 1) l).length = l.length := tree_length _ _ h
    unfold back
    rw [hlen]
    have e1 : (tree (k + 1) l).take (l.length / 2) = tree k (sums l) := by
      show (tree k (sums l) ++ difs l).take _ = _
      rw [← ht, List.take_left]
    have e2 : (tree (k + 1) l).drop (l.length / 2) = difs l := by
      show (tree k (sums l) ++ difs l).drop _ = _
      rw [← ht, List.drop_left]
    rw [e1, e2, ih _ hd (sums_in (by omega) hl)]
    dsimp only
    rw [joins_back hh.2, if_neg (by rw [any_of_in (hl.mono (by omega))]; simp)]

/-- What came back, forward, is what it was. -/
theorem tree_back (k : Nat) (l x : List Int) (h : 2 ^ k ∣ l.length) (hx : back k l = some x) : tree k x = l := by
  induction k generalizing l x with
  | zero => cases hx; rfl
  | succ k ih =>
    have hh := half_dvd h
    have hlen : (l.take (l.length / 2)).length = l.length / 2 := by rw [List.length_take]; omega
    unfold back at hx
    cases hs : back k (l.take (l.length / 2)) with
    | none => rw [hs] at hx; cases hx
    | some s =>
      rw [hs] at hx
      dsimp only at hx
      split at hx
      · cases hx
      · cases hx
        have hsl := back_length k _ s (by rw [hlen]; exact hh.1) hs
        have hdl : (l.drop (l.length / 2)).length = l.length / 2 := by rw [List.length_drop]; omega
        rw [tree, sums_joins, difs_joins (by rw [hsl, hlen, hdl]), ih _ s (by rw [hlen]; exact hh.1) hs, List.take_append_drop]

/-- What is all alike has no differences. -/
theorem sums_alike (n : Nat) (c : Int) : sums (List.replicate (2 * n) c) = List.replicate n c := by
  refine eq_of_at (by rw [sums_length]; simp) fun i hi => ?_
  rw [sums_length, List.length_replicate, Nat.mul_div_cancel_left _ (by omega : 0 < 2)] at hi
  unfold sums
  rw [upto_at _ (by simp; omega)]
  unfold sumAt at0
  simp [hi, show 2 * i < 2 * n by omega, show 2 * i + 1 < 2 * n by omega]
  omega
theorem difs_alike (n : Nat) (c : Int) : difs (List.replicate (2 * n) c) = List.replicate n 0 := by
  refine eq_of_at (by rw [difs_length]; simp) fun i hi => ?_
  rw [difs_length, List.length_replicate, Nat.mul_div_cancel_left _ (by omega : 0 < 2)] at hi
  unfold difs
  rw [upto_at _ (by simp; omega)]
  unfold difAt at0
  simp [hi, show 2 * i < 2 * n by omega, show 2 * i + 1 < 2 * n by omega]
theorem tree_alike (k n : Nat) (c : Int) (h : 2 ^ k ∣ n) : tree k (List.replicate n c) = List.replicate (n / 2 ^ k) c ++ List.replicate (n - n / 2 ^ k) 0 := by
  induction k generalizing n with
  | zero => simp [tree]
  | succ k ih =>
    have hh := half_dvd h
    have e : n / 2 ^ (k + 1) = n / 2 / 2 ^ k := by rw [Nat.pow_succ, Nat.mul_comm, Nat.div_div_eq_div_mul]
    rw [tree]
    have h1 : sums (List.replicate n c) = List.replicate (n / 2) c := by rw [hh.2, sums_alike, Nat.mul_div_cancel_left _ (by omega : 0 < 2)]
    have h2 : difs (List.replicate n c) = List.replicate (n / 2) 0 := by rw [hh.2, difs_alike, Nat.mul_div_cancel_left _ (by omega : 0 < 2)]
    rw [h1, h2, ih _ hh.1, List.append_assoc, List.replicate_append_replicate, e]
    have hle : n / 2 / 2 ^ k ≤ n / 2 := Nat.div_le_self _ _
    congr 2
    omega

end Go.Proofs.YthkibjhhlcfceajGreatDoor.Tre

/-
  The numbers of chapter 4, as lists: over the edges, and back. No program here.
-/
namespace Go.Proofs.YthkibjhhlcfceajGreatDoor.Lap
open Go.Proofs.YthkibjhhlcfceajGreatDoor.Tre
set_option linter.unusedVariables false

/-- The numbers at even places, and at odd ones. -/
def ev (l : List Int) : List Int := upto (fun i => at0 l (2 * i)) (l.length / 2)
def od (l : List Int) : List Int := upto (fun i => at0 l (2 * i + 1)) (l.length / 2)
/-- What an odd one is held to be, by the even ones beside it; the fourth part of the differences beside an even one. -/
def gs (e : List Int) (i : Nat) : Int := (at0 e i + at0 e (min (i + 1) (e.length - 1))) / 2
def lf (d : List Int) (i : Nat) : Int := (at0 d (i - 1) + at0 d i + 2) / 4
def difF (e d : List Int) (i : Nat) : Int := at0 d i - gs e i
def styF (e d : List Int) (i : Nat) : Int := at0 e i + lf d i
def evF (s d : List Int) (i : Nat) : Int := at0 s i - lf d i
def odF (e d : List Int) (i : Nat) : Int := at0 d i + gs e i
def dif (l : List Int) : List Int := upto (difF (ev l) (od l)) (l.length / 2)
def sty (l : List Int) : List Int := upto (styF (ev l) (dif l)) (l.length / 2)
/-- Over the edges. -/
def lap (l : List Int) : List Int := sty l ++ dif l
def fr (l : List Int) : List Int := l.take (l.length / 2)
def bk (l : List Int) : List Int := l.drop (l.length / 2)
def evs (l : List Int) : List Int := upto (evF (fr l) (bk l)) (l.length / 2)
def ods (l : List Int) : List Int := upto (odF (evs l) (bk l)) (l.length / 2)
/-- .. and back. -/
def unlap (l : List Int) : List Int := flat (at0 (evs l)) (at0 (ods l)) (l.length / 2)

theorem ev_length (l : List Int) : (ev l).length = l.length / 2 := upto_length _ _
theorem od_length (l : List Int) : (od l).length = l.length / 2 := upto_length _ _
theorem dif_length (l : List Int) : (dif l).length = l.length / 2 := upto_length _ _
theorem sty_length (l : List Int) : (sty l).length = l.length / 2 := upto_length _ _
theorem evs_length (l : List Int) : (evs l).length = l.length / 2 := upto_length _ _
theorem ods_length (l : List Int) : (ods l).length = l.length / 2 := upto_length _ _
theorem fr_length (l : List Int) : (fr l).length = l.length / 2 := by unfold fr; rw [List.length_take]; omega
theorem bk_length {l : List Int} (h : l.length = 2 * (l.length / 2)) : (bk l).length = l.length / 2 := by unfold bk; rw [List.length_drop]; omega
theorem lap_length {l : List Int} (h : l.length = 2 * (l.length / 2)) : (lap l).length = l.length := by unfold lap; rw [List.length_append, sty_length, dif_length]; omega
theorem unlap_length {l : List Int} (h : l.length = 2 * (l.length / 2)) : (unlap l).length = l.length := by unfold unlap; rw [flat_length]; omega

theorem ev_in {b : Int} (hb : 0 ≤ b) {l : List Int} (h : In b l) : In b (ev l) := upto_in fun i _ => h.at hb _
theorem od_in {b : Int} (hb : 0 ≤ b) {l : List Int} (h : In b l) : In b (od l) := upto_in fun i _ => h.at hb _
theorem gs_in {b : Int} (hb : 0 ≤ b) {e : List Int} (h : In b e) (i : Nat) : -b ≤ gs e i ∧ gs e i ≤ b := by
  have h1 := h.at hb i
  have h2 := h.at hb (min (i + 1) (e.length - 1))
  unfold gs; omega
theorem lf_in {b : Int} (hb : 0 ≤ b) {d : List Int} (h : In (2 * b) d) (i : Nat) : -b ≤ lf d i ∧ lf d i ≤ b := by
  have h1 := h.at (by omega) (i - 1)
  have h2 := h.at (by omega) i
  unfold lf; omega
theorem dif_in {b : Int} (hb : 0 ≤ b) {l : List Int} (h : In b l) : In (2 * b) (dif l) := upto_in fun i _ => by
  have h1 := gs_in hb (ev_in hb h) i
  have h2 := (od_in hb h).at hb i
  unfold difF; omega
theorem sty_in {b : Int} (hb : 0 ≤ b) {l : List Int} (h : In b l) : In (2 * b) (sty l) := upto_in fun i _ => by
  have h1 := lf_in hb (dif_in hb h) i
  have h2 := (ev_in hb h).at hb i
  unfold styF; omega
theorem lap_in {b : Int} (hb : 0 ≤ b) {l : List Int} (h : In b l) : In (2 * b) (lap l) := (sty_in hb h).append (dif_in hb h)
theorem evs_in {b : Int} (hb : 0 ≤ b) {l : List Int} (h : In (2 * b) l) : In (3 * b) (evs l) := upto_in fun i _ => by
  have h1 := lf_in hb (h.drop (l.length / 2)) i
  have h2 := (h.take (l.length / 2)).at (by omega) i
  unfold evF fr bk; omega

/-- The first j as by f, the rest as by g. -/
def mid (f g : Nat → Int) (n j : Nat) : List Int := upto (fun i => if i < j then f i else g i) n
theorem mid_length (f g : Nat → Int) (n j : Nat) : (mid f g n j).length = n := upto_length _ _
theorem mid_zero (f g : Nat → Int) (n : Nat) : mid f g n 0 = upto g n := upto_congr fun i _ => by simp
theorem mid_all (f g : Nat → Int) (n : Nat) : mid f g n n = upto f n := upto_congr fun i hi => by simp [hi]
theorem mid_at (f g : Nat → Int) {n j : Nat} (h : j < n) : at0 (mid f g n j) j = g j := by unfold mid; rw [upto_at _ h]; simp
theorem mid_set (f g : Nat → Int) {n j : Nat} (h : j < n) : (mid f g n j).set j (f j) = mid f g n (j + 1) := by
  refine eq_of_at (by rw [List.length_set, mid_length, mid_length]) fun i hi => ?_
  rw [List.length_set, mid_length] at hi
  by_cases e : j = i
  · subst e
    have : at0 ((mid f g n j).set j (f j)) j = f j := by unfold at0; rw [List.getElem?_set_self (by rw [mid_length]; exact h)]; rfl
    rw [this]; unfold mid; rw [upto_at _ h]; simp
  · have : at0 ((mid f g n j).set j (f j)) i = at0 (mid f g n j) i := by unfold at0; rw [List.getElem?_set_ne e]
    rw [this]; unfold mid; rw [upto_at _ hi, upto_at _ hi]
    by_cases h3 : i < j
    · rw [if_pos h3, if_pos (by omega)]
    · rw [if_neg h3, if_neg (by omega)]

theorem fr_lap (l : List Int) (h : l.length = 2 * (l.length / 2)) : fr (lap l) = sty l := by
  unfold fr; rw [lap_length h, ← sty_length l]; unfold lap; rw [List.take_left]
theorem bk_lap (l : List Int) (h : l.length = 2 * (l.length / 2)) : bk (lap l) = dif l := by
  unfold bk; rw [lap_length h, ← sty_length l]; unfold lap; rw [List.drop_left]
theorem evs_lap (l : List Int) (h : l.length = 2 * (l.length / 2)) : evs (lap l) = ev l := by
  unfold evs
  rw [fr_lap l h, bk_lap l h, lap_length h, eq_upto (ev l), ev_length]
  refine upto_congr fun i hi => ?_
  unfold evF sty
  rw [upto_at _ hi]
  unfold styF
  omega
theorem ods_lap (l : List Int) (h : l.length = 2 * (l.length / 2)) : ods (lap l) = od l := by
  unfold ods
  rw [evs_lap l h, bk_lap l h, lap_length h, eq_upto (od l), od_length]
  refine upto_congr fun i hi => ?_
  unfold odF dif
  rw [upto_at _ hi]
  unfold difF
  omega
/-- Any come back. -/
theorem unlap_lap {l : List Int} (h : l.length = 2 * (l.length / 2)) : unlap (lap l) = l := by
  unfold unlap
  rw [evs_lap l h, ods_lap l h, lap_length h]
  refine Eq.trans (flat_congr fun i hi => ?_) (flat_of h)
  unfold ev od
  rw [upto_at _ hi, upto_at _ hi]
  exact ⟨rfl, rfl⟩

theorem half_twice (n : Nat) : 2 * n / 2 = n := Nat.mul_div_cancel_left _ (by omega)
theorem ev_unlap (m : List Int) : ev (unlap m) = evs m := by
  unfold ev
  have e : (unlap m).length / 2 = m.length / 2 := by unfold unlap; rw [flat_length, half_twice]
  rw [e, eq_upto (evs m), evs_length]
  refine upto_congr fun i hi => ?_
  unfold unlap
  exact (flat_at _ _ _ _ hi).1
theorem od_unlap (m : List Int) : od (unlap m) = ods m := by
  unfold od
  have e : (unlap m).length / 2 = m.length / 2 := by unfold unlap; rw [flat_length, half_twice]
  rw [e, eq_upto (ods m), ods_length]
  refine upto_congr fun i hi => ?_
  unfold unlap
  exact (flat_at _ _ _ _ hi).2
theorem dif_unlap {m : List Int} (h : m.length = 2 * (m.length / 2)) : dif (unlap m) = bk m := by
  unfold dif
  rw [ev_unlap, od_unlap, unlap_length h, eq_upto (bk m), bk_length h]
  refine upto_congr fun i hi => ?_
  unfold difF ods
  rw [upto_at _ hi]
  unfold odF
  omega
theorem sty_unlap {m : List Int} (h : m.length = 2 * (m.length / 2)) : sty (unlap m) = fr m := by
  unfold sty
  rw [ev_unlap, dif_unlap h, unlap_length h, eq_upto (fr m), fr_length]
  refine upto_congr fun i hi => ?_
  unfold styF evs
  rw [upto_at _ hi]
  unfold evF
  omega
/-- What came back, forward, is what it was. -/
theorem lap_unlap {m : List Int} (h : m.length = 2 * (m.length / 2)) : lap (unlap m) = m := by
  unfold lap
  rw [sty_unlap h, dif_unlap h]
  exact List.take_append_drop _ _

/-- What is flat stays so. -/
theorem at0_rep {n i : Nat} {c : Int} (h : i < n) : at0 (List.replicate n c) i = c := by simp [at0, h]
theorem ev_flat (n : Nat) (c : Int) : ev (List.replicate (2 * n) c) = List.replicate n c := by
  refine eq_of_at (by rw [ev_length, List.length_replicate, List.length_replicate, half_twice]) fun i hi => ?_
  rw [ev_length, List.length_replicate, half_twice] at hi
  unfold ev
  rw [List.length_replicate, half_twice, upto_at _ hi, at0_rep hi, at0_rep (by omega)]
theorem dif_flat (n : Nat) (c : Int) : dif (List.replicate (2 * n) c) = List.replicate n 0 := by
  refine eq_of_at (by rw [dif_length, List.length_replicate, List.length_replicate, half_twice]) fun i hi => ?_
  rw [dif_length, List.length_replicate, half_twice] at hi
  unfold dif
  rw [ev_flat, List.length_replicate, half_twice, upto_at _ hi, at0_rep hi]
  unfold difF gs od
  rw [List.length_replicate, List.length_replicate, half_twice, upto_at _ hi, at0_rep (by omega), at0_rep hi, at0_rep (by omega)]
  omega
theorem sty_flat (n : Nat) (c : Int) : sty (List.replicate (2 * n) c) = List.replicate n c := by
  refine eq_of_at (by rw [sty_length, List.length_replicate, List.length_replicate, half_twice]) fun i hi => ?_
  rw [sty_length, List.length_replicate, half_twice] at hi
  unfold sty
  rw [ev_flat, dif_flat, List.length_replicate, half_twice, upto_at _ hi, at0_rep hi]
  unfold styF lf
  rw [at0_rep hi, at0_rep hi, at0_rep (by omega)]
  omega
theorem lap_flat (n : Nat) (c : Int) : lap (List.replicate (2 * n) c) = List.replicate n c ++ List.replicate n 0 := by
  unfold lap; rw [sty_flat, dif_flat]

/-- Of what rises evenly only the last difference is not 0. -/
def rise (a b : Int) (k : Nat) : List Int := upto (fun i => a + i * b) k
theorem rise_dif (a b : Int) (n i : Nat) (hi : i < n) : at0 (lap (rise a b (2 * n))) (n + i) = if i + 1 < n then 0 else b := by
  have hl : (rise a b (2 * n)).length = 2 * n := upto_length _ _
  have hs : (sty (rise a b (2 * n))).length = n := by rw [sty_length, hl, half_twice]
  have e : at0 (lap (rise a b (2 * n))) (n + i) = at0 (dif (rise a b (2 * n))) i := by
    have := at0_right (l := sty (rise a b (2 * n))) (m := dif (rise a b (2 * n))) i
    rw [hs] at this; exact this
  rw [e]
  unfold dif
  rw [hl, half_twice, upto_at _ hi]
  have he : ∀ j, j < n → at0 (ev (rise a b (2 * n))) j = a + (2 * j : Nat) * b := by
    intro j hj
    unfold ev
    rw [hl, half_twice, upto_at _ hj]
    unfold rise
    rw [upto_at _ (by omega)]
  have ho : at0 (od (rise a b (2 * n))) i = a + (2 * i + 1 : Nat) * b := by
    unfold od
    rw [hl, half_twice, upto_at _ hi]
    unfold rise
    rw [upto_at _ (by omega)]
  unfold difF gs
  rw [ho, he i hi, ev_length, hl, half_twice]
  have x1 : ((2 * i : Nat) : Int) * b = 2 * ((i : Int) * b) := by rw [Int.natCast_mul, Int.mul_assoc]; rfl
  have x2 : ((2 * i + 1 : Nat) : Int) * b = 2 * ((i : Int) * b) + b := by rw [Int.natCast_add, Int.add_mul, x1]; simp
  by_cases h : i + 1 < n
  · rw [if_pos h, Nat.min_eq_left (by omega), he _ h, x1, x2]
    have x3 : ((2 * (i + 1) : Nat) : Int) * b = 2 * ((i : Int) * b) + 2 * b := by rw [Int.natCast_mul, Int.natCast_add, Int.mul_assoc, Int.add_mul, Int.mul_add]; simp
    rw [x3]
    generalize (i : Int) * b = P
    omega
  · rw [if_neg h, Nat.min_eq_right (by omega), he _ (by omega)]
    have : n - 1 = i := by omega
    rw [this, x1, x2]
    generalize (i : Int) * b = P
    omega

end Go.Proofs.YthkibjhhlcfceajGreatDoor.Lap

/-
  The numbers of chapter 5: how many rows of so many numbers and pulses there are. No program here.
-/
namespace Go.Proofs.YthkibjhhlcfceajGreatDoor.Cnt
open Go.Proofs.YthkibjhhlcfceajGreatDoor.Tre Go.Proofs.YthkibjhhlcfceajGreatDoor.Lap
set_option linter.unusedVariables false

/-- Of one pulse more. -/
def more (f : Nat → Int) : Nat → Int
  | 0 => 0
  | n + 1 => more f n + f (n + 1) + f n
/-- How many rows there are, of k pulses and n numbers. -/
def V : Nat → Nat → Int
  | 0, _ => 1
  | k + 1, n => more (V k) n
/-- .. of n from 0 to 6. -/
def cts (k : Nat) : List Int := upto (V k) 7

theorem V_zero (n : Nat) : V 0 n = 1 := rfl
theorem V_none (k : Nat) : V (k + 1) 0 = 0 := rfl
theorem V_sum (k n : Nat) : V (k + 1) (n + 1) = V (k + 1) n + V k (n + 1) + V k n := rfl
theorem V_in : ∀ k n : Nat, k < 9 → n < 7 → 0 ≤ V k n ∧ V k n ≤ 20256 := by
  have h : ∀ k : Nat, k < 9 → ∀ n : Nat, n < 7 → 0 ≤ V k n ∧ V k n ≤ 20256 := by decide +kernel
  exact fun k n hk hn => h k hk n hn
theorem V_turns : ∀ k n : Nat, k < 7 → n < 7 → (k : Int) * V k n = (n : Int) * V n k := by
  have h : ∀ k : Nat, k < 7 → ∀ n : Nat, n < 7 → (k : Int) * V k n = (n : Int) * V n k := by decide +kernel
  exact fun k n hk hn => h k hk n hn
theorem V_one : ∀ n : Nat, n < 7 → V 1 n = 2 * (n : Int) := by decide +kernel
theorem V_single : ∀ k : Nat, k < 9 → V k 1 = if k = 0 then 1 else 2 := by decide +kernel
theorem V_fact : V 2 3 = 18 := by decide +kernel

theorem cts_length (k : Nat) : (cts k).length = 7 := upto_length _ _
theorem cts_at (k : Nat) {n : Nat} (h : n < 7) : at0 (cts k) n = V k n := upto_at _ h
theorem cts_zero : cts 0 = List.replicate 7 1 := rfl
/-- The first is 0 already. -/
theorem mid_one (k : Nat) : mid (V (k + 1)) (fun _ => 0) 7 1 = List.replicate 7 0 := by
  refine eq_of_at (by rw [mid_length]; rfl) fun i hi => ?_
  rw [mid_length] at hi
  unfold mid
  rw [upto_at _ hi]
  have hr : at0 (List.replicate 7 0) i = 0 := by unfold at0; rw [List.getElem?_replicate, if_pos hi]; rfl
  rw [hr]
  by_cases h : i < 1
  · obtain rfl : i = 0 := by omega
    rfl
  · rw [if_neg h]
theorem mid_lt (f g : Nat → Int) {n j i : Nat} (h : i < n) (hj : i < j) : at0 (mid f g n j) i = f i := by unfold mid; rw [upto_at _ h, if_pos hj]

/-- The least number of bits. -/
def Least (m : Int) (b : Nat) : Prop := m ≤ 2 ^ b ∧ ∀ i, i < b → (2 : Int) ^ i < m
theorem Least.one {m : Int} {b c : Nat} (h : Least m b) (k : Least m c) : b = c := by
  rcases Nat.lt_trichotomy b c with e | e | e
  · have := k.2 b e; have := h.1; omega
  · exact e
  · have := h.2 c e; have := k.1; omega
theorem Least.le {m : Int} {b : Nat} (h : Least m b) (hm : m ≤ 20256) : b ≤ 15 := by
  rcases Nat.lt_or_ge 15 b with e | e
  · have := h.2 15 e
    omega
  · exact e

/-- As the document's own answer goes: of one number more, whatever that is. -/
def sumF (f : Nat → Int) : Nat → Int
  | 0 => 0
  | j + 1 => sumF f j + f j
theorem V_more (j n : Nat) : V j (n + 1) = V j n + 2 * sumF (fun i => V i n) j := by
  induction j with
  | zero => rfl
  | succ j ih => rw [V_sum, ih]; simp only [sumF]; omega

theorem pow_in : ∀ j : Nat, j < 16 → (1 : Int) ≤ 2 ^ j ∧ (2 : Int) ^ j ≤ 32768 := by decide +kernel

end Go.Proofs.YthkibjhhlcfceajGreatDoor.Cnt

/-
  A slice of slices of integers in memory, for all walks of this seat.
-/
namespace Go.Proofs.YthkibjhhlcfceajGreatDoor
open Go.RowKit
set_option linter.unusedVariables false

/-- The row at a place (none behind the last). -/
def rowAt (ll : List (List Int)) (r : Nat) : List Int := ll.getD r []
theorem rowAt_get {ll : List (List Int)} {r : Nat} (h : r < ll.length) : rowAt ll r = ll[r] := by simp [rowAt, h]

/-- One cell holds a slice of these integers. -/
def Cel (w : World) (p : Addr) (l : List Int) : Prop :=
  ∃ A C, w.cell? p = some (.slice A l.length C) ∧ (A = none → C = 0) ∧ l.length ≤ C ∧ C ≤ 9223372036854775807 ∧ Row w A l

/-- The rows lie where a slice's address says. -/
def Rws (w : World) (a : Option Addr) (ll : List (List Int)) : Prop :=
  ll = [] ∨ ∃ b off, a = some ⟨b, off, none⟩ ∧ b < w.heap.size ∧ ∀ r, r < ll.length → Cel w ⟨b, off + r, none⟩ (rowAt ll r)

theorem Cel.below {w w' : World} {p : Addr} {l : List Int} (h : Cel w p l) (hp : p.block < w.heap.size) (hb : Below w.heap.size w w') : Cel w' p l := by
  obtain ⟨A, C, h1, h2, h3, h4, h5⟩ := h
  exact ⟨A, C, (hb.cell hp).trans h1, h2, h3, h4, h5.below hb⟩
theorem Rws.below {w w' : World} {a : Option Addr} {ll : List (List Int)} (h : Rws w a ll) (hb : Below w.heap.size w w') : Rws w' a ll := by
  rcases h with h | ⟨b, off, ha, hlt, hc⟩
  · exact Or.inl h
  · exact Or.inr ⟨b, off, ha, Nat.lt_of_lt_of_le hlt hb.size, fun r hr => (hc r hr).below hlt hb⟩
theorem Rws.at {w : World} {a : Option Addr} {ll : List (List Int)} (h : Rws w a ll) {k : Nat} (hk : k < ll.length) :
    ∃ b off, a = some ⟨b, off, none⟩ ∧ b < w.heap.size ∧ ∀ r, r < ll.length → Cel w ⟨b, off + r, none⟩ (rowAt ll r) := by
  rcases h with h | h
  · subst h; exact absurd hk (by simp)
  · exact h

end Go.Proofs.YthkibjhhlcfceajGreatDoor

/-
  The numbers of chapter 9, as lists: sizes, what they have in all, numbers cut apart, and joined. No program here.
-/
namespace Go.Proofs.YthkibjhhlcfceajGreatDoor.Bnd
open Go.Proofs.YthkibjhhlcfceajGreatDoor.Tre
set_option linter.unusedVariables false

/-- No size. -/
def bad (n : Int) : Bool := decide (n < 1) || decide (6 < n)
/-- How many numbers the first j bands have. -/
def pre (s : List Int) : Nat → Nat
  | 0 => 0
  | j + 1 => pre s j + (at0 s j).toNat
def total (s : List Int) : Nat := pre s s.length
/-- The fault of sizes: 0 where there is none. -/
def bf (s : List Int) : Int := if s.length = 0 then 5 else if 8 < s.length then 4 else if s.any bad = true then 1 else if 32 < total s then 4 else 0
/-- Band j, and all. -/
def cutAt (l s : List Int) (j : Nat) : List Int := (l.drop (pre s j)).take (at0 s j).toNat
def cuts (l s : List Int) : List (List Int) := (List.range s.length).map (cutAt l s)
/-- As many bands, each of its size. -/
def Shaped (ll : List (List Int)) (s : List Int) : Prop := ll.length = s.length ∧ ∀ i, i < s.length → ((rowAt ll i).length : Int) = at0 s i
/-- All sizes are such. -/
def Sizes (s : List Int) : Prop := ∀ i, i < s.length → 1 ≤ at0 s i ∧ at0 s i ≤ 6

theorem bad_no {n : Int} (h : bad n = false) : 1 ≤ n ∧ n ≤ 6 := by simp [bad] at h; omega
theorem at_get {s : List Int} {i : Nat} (h : i < s.length) : at0 s i = s[i] := by simp [at0, h]
theorem bf_ok {s : List Int} (h : bf s = 0) : 0 < s.length ∧ s.length ≤ 8 ∧ Sizes s ∧ total s ≤ 32 := by
  unfold bf at h
  split at h
  · omega
  · split at h
    · omega
    · split at h
      · omega
      · split at h
        · omega
        · rename_i h1 h2 h3 h4
          refine ⟨by omega, by omega, fun i hi => ?_, by omega⟩
          rw [at_get hi]
          have h5 : s.any bad = false := by simpa using h3
          exact bad_no (by simpa using List.any_eq_false.1 h5 _ (List.getElem_mem hi))
theorem any_bad_no {s : List Int} (h : Sizes s) : s.any bad = false := by
  apply List.any_eq_false.2
  intro n hn
  obtain ⟨i, hi, rfl⟩ := List.getElem_of_mem hn
  have := h i hi
  rw [at_get hi] at this
  simp [bad]; omega
theorem bf_of {s : List Int} (h0 : 0 < s.length) (h8 : s.length ≤ 8) (h1 : Sizes s) (h2 : total s ≤ 32) : bf s = 0 := by
  unfold bf
  rw [if_neg (by omega), if_neg (by omega), if_neg (by rw [any_bad_no h1]; simp), if_neg (by omega)]

theorem pre_le (s : List Int) {i j : Nat} (h : i ≤ j) : pre s i ≤ pre s j := by
  induction j with
  | zero => obtain rfl : i = 0 := by omega
            exact Nat.le_refl _
  | succ j ih =>
    by_cases e : i = j + 1
    · rw [e]; exact Nat.le_refl _
    · have := ih (by omega)
      simp only [pre]; omega
theorem pre_succ (s : List Int) (j : Nat) : pre s (j + 1) = pre s j + (at0 s j).toNat := rfl
theorem pre_total (s : List Int) {j : Nat} (h : j ≤ s.length) : pre s j ≤ total s := pre_le s h
/-- .. where all are sizes: no more than six times as many. -/
theorem pre_six {s : List Int} (h : Sizes s) {j : Nat} (hj : j ≤ s.length) : pre s j ≤ 6 * j := by
  induction j with
  | zero => exact Nat.le_refl _
  | succ j ih =>
    have := ih (by omega)
    have := h j (by omega)
    simp only [pre]; omega
theorem total_pos {s : List Int} (h : Sizes s) (h0 : 0 < s.length) : 0 < total s := by
  have h1 := pre_total s (j := 1) h0
  have h2 := h 0 h0
  simp only [pre] at h1
  omega

theorem cuts_length (l s : List Int) : (cuts l s).length = s.length := by simp [cuts]
theorem cuts_at (l s : List Int) {j : Nat} (h : j < s.length) : rowAt (cuts l s) j = cutAt l s j := by simp [rowAt, cuts, h]
theorem cutAt_length {l s : List Int} (hs : total s = l.length) {j : Nat} (h : j < s.length) : (cutAt l s j).length = (at0 s j).toNat := by
  have := pre_total s (j := j + 1) h
  rw [pre_succ] at this
  unfold cutAt
  rw [List.length_take, List.length_drop]
  omega
theorem shaped_cuts {l s : List Int} (h1 : Sizes s) (hs : total s = l.length) : Shaped (cuts l s) s := by
  refine ⟨cuts_length l s, fun i hi => ?_⟩
  rw [cuts_at l s hi, cutAt_length hs hi]
  have := h1 i hi
  omega

theorem take_succ_rows {ll : List (List Int)} {j : Nat} (h : j < ll.length) : ll.take (j + 1) = ll.take j ++ [rowAt ll j] := by
  rw [List.take_succ_eq_append_getElem h, rowAt_get h]
theorem flat_step {ll : List (List Int)} {j : Nat} (h : j < ll.length) : (ll.take (j + 1)).flatten = (ll.take j).flatten ++ rowAt ll j := by
  rw [take_succ_rows h, List.flatten_append]; simp
theorem flat_le (ll : List (List Int)) (j : Nat) : (ll.take j).flatten.length ≤ ll.flatten.length := by
  conv => rhs; rw [← List.take_append_drop j ll, List.flatten_append, List.length_append]
  omega

/-- Cut, and joined: the first j. -/
theorem cuts_take (l s : List Int) {j : Nat} (h : j ≤ s.length) : ((cuts l s).take j).flatten = l.take (pre s j) := by
  induction j with
  | zero => simp [pre]
  | succ j ih =>
    rw [flat_step (by rw [cuts_length]; omega), ih (by omega), cuts_at l s (by omega), pre_succ, List.take_add]
    rfl
theorem join_cuts {l s : List Int} (hs : total s = l.length) : (cuts l s).flatten = l := by
  have := cuts_take l s (Nat.le_refl s.length)
  rw [List.take_of_length_le (by rw [cuts_length]; exact Nat.le_refl _)] at this
  rw [this]
  exact List.take_of_length_le (by show l.length ≤ total s; omega)

theorem Shaped.pre {ll : List (List Int)} {s : List Int} (h : Shaped ll s) {j : Nat} (hj : j ≤ s.length) : (ll.take j).flatten.length = pre s j := by
  induction j with
  | zero => simp [Bnd.pre]
  | succ j ih =>
    rw [flat_step (by rw [h.1]; omega), List.length_append, ih (by omega), pre_succ]
    have := h.2 j (by omega)
    omega
theorem Shaped.total {ll : List (List Int)} {s : List Int} (h : Shaped ll s) : ll.flatten.length = total s := by
  have := h.pre (Nat.le_refl s.length)
  rw [List.take_of_length_le (by rw [h.1]; exact Nat.le_refl _)] at this
  exact this
/-- Joined, and cut. -/
theorem cuts_join {ll : List (List Int)} {s : List Int} (h : Shaped ll s) : cuts ll.flatten s = ll := by
  apply List.ext_getElem
  · rw [cuts_length, h.1]
  · intro j h1 h2
    rw [cuts_length] at h1
    have e := cuts_at ll.flatten s h1
    rw [rowAt_get (by rw [cuts_length]; exact h1)] at e
    rw [e, ← rowAt_get h2]
    have h3 : ll.flatten = (ll.take j).flatten ++ (rowAt ll j ++ (ll.drop (j + 1)).flatten) := by
      conv => lhs; rw [← List.take_append_drop (j + 1) ll, List.flatten_append, flat_step h2]
      rw [List.append_assoc]
    unfold cutAt
    rw [h3, ← h.pre (by omega), List.drop_left]
    have h4 := h.2 j h1
    have h5 : (at0 s j).toNat = (rowAt ll j).length := by omega
    rw [h5, List.take_left]

/-- Whether bands are of such a shape can be told; where they are as many and yet not, at one first place. -/
theorem shaped_or (ll : List (List Int)) (s : List Int) : ll.length ≠ s.length ∨ Shaped ll s ∨ (ll.length = s.length ∧ ∃ k, k < s.length ∧ ((rowAt ll k).length : Int) ≠ at0 s k ∧ ∀ i, i < k → ((rowAt ll i).length : Int) = at0 s i) := by
  by_cases h : ll.length = s.length
  · refine Or.inr ?_
    have key : ∀ n, n ≤ s.length → (∀ i, i < n → ((rowAt ll i).length : Int) = at0 s i) ∨ ∃ k, k < n ∧ ((rowAt ll k).length : Int) ≠ at0 s k ∧ ∀ i, i < k → ((rowAt ll i).length : Int) = at0 s i := by
      intro n
      induction n with
      | zero => exact fun _ => Or.inl fun i hi => by omega
      | succ n ih =>
        intro hn
        rcases ih (by omega) with h1 | ⟨k, h1, h2, h3⟩
        · by_cases h2 : ((rowAt ll n).length : Int) = at0 s n
          · refine Or.inl fun i hi => ?_
            by_cases e : i = n
            · rw [e]; exact h2
            · exact h1 i (by omega)
          · exact Or.inr ⟨n, by omega, h2, h1⟩
        · exact Or.inr ⟨k, by omega, h2, h3⟩
    rcases key s.length (Nat.le_refl _) with h1 | ⟨k, h1, h2, h3⟩
    · exact Or.inl ⟨h, h1⟩
    · exact Or.inr ⟨h, k, h1, h2, h3⟩
  · exact Or.inl h

end Go.Proofs.YthkibjhhlcfceajGreatDoor.Bnd

/-
  The numbers of chapter 14: what pulses cost, who gets one. No program here.
-/
namespace Go.Proofs.YthkibjhhlcfceajGreatDoor.Shr
open Go.Proofs.YthkibjhhlcfceajGreatDoor.Tre Go.Proofs.YthkibjhhlcfceajGreatDoor.Cnt Go.Proofs.YthkibjhhlcfceajGreatDoor.Bnd
set_option linter.unusedVariables false

/-- How many bits so many numbers of so many pulses need. -/
def Bt (k n : Nat) : Nat := ((List.range 15).find? fun b => decide (V k n ≤ 2 ^ b)).getD 15
theorem Bt_is {k n : Nat} (hk : k ≤ 8) (hn : n ≤ 6) : Least (V k n) (Bt k n) := by
  have key : ∀ k : Nat, k < 9 → ∀ n : Nat, n < 7 → V k n ≤ 2 ^ Bt k n ∧ ∀ i : Nat, i < Bt k n → (2 : Int) ^ i < V k n := by decide +kernel
  exact key k (by omega) n (by omega)
theorem Bt_le {k n : Nat} (hk : k ≤ 8) (hn : n ≤ 6) : Bt k n ≤ 15 := by
  have key : ∀ k : Nat, k < 9 → ∀ n : Nat, n < 7 → Bt k n ≤ 15 := by decide +kernel
  exact key k (by omega) n (by omega)
theorem Bt_zero {n : Nat} (hn : n ≤ 6) : Bt 0 n = 0 := by
  have key : ∀ n : Nat, n < 7 → Bt 0 n = 0 := by decide +kernel
  exact key n (by omega)

/-- What the first j bands cost; all. -/
def cs (s p : List Int) : Nat → Nat
  | 0 => 0
  | j + 1 => cs s p j + Bt (at0 p j).toNat (at0 s j).toNat
def cost (s p : List Int) : Nat := cs s p s.length
/-- Pulses that may be. -/
def Pls (p : List Int) : Prop := ∀ i, i < p.length → 0 ≤ at0 p i ∧ at0 p i ≤ 8
theorem cs_le {s p : List Int} (hs : Sizes s) (hp : Pls p) (hl : p.length = s.length) {j : Nat} (hj : j ≤ s.length) : cs s p j ≤ 15 * j := by
  induction j with
  | zero => exact Nat.le_refl _
  | succ j ih =>
    have h1 := ih (by omega)
    have h2 := hs j (by omega)
    have h3 := hp j (by omega)
    have h4 := Bt_le (k := (at0 p j).toNat) (n := (at0 s j).toNat) (by omega) (by omega)
    simp only [cs]
    omega
theorem cs_zeros {s : List Int} (hs : Sizes s) {j : Nat} (hj : j ≤ s.length) : cs s (upto (fun _ => 0) s.length) j = 0 := by
  induction j with
  | zero => rfl
  | succ j ih =>
    have h2 := hs j (by omega)
    simp only [cs]
    rw [ih (by omega), upto_at _ (by omega), Nat.zero_add]
    exact Bt_zero (n := (at0 s j).toNat) (by omega)
theorem cost_zeros {s : List Int} (hs : Sizes s) : cost s (upto (fun _ => 0) s.length) = 0 := cs_zeros hs (Nat.le_refl _)

/-- One pulse more. -/
def inc (o : List Int) (i : Nat) : List Int := o.set i (at0 o i + 1)
theorem inc_length (o : List Int) (i : Nat) : (inc o i).length = o.length := by simp [inc]
theorem inc_at {o : List Int} {i : Nat} (h : i < o.length) : at0 (inc o i) i = at0 o i + 1 := by simp [inc, at0, h]
theorem inc_other {o : List Int} {i j : Nat} (h : j ≠ i) : at0 (inc o i) j = at0 o j := by
  have h' : ¬ i = j := fun e => h e.symm
  simp [inc, at0, h']
theorem inc_dec {o : List Int} {i : Nat} : (inc o i).set i (at0 o i) = o := by
  refine eq_of_at (by simp [inc]) fun k hk => ?_
  have hk' : k < o.length := by simpa [inc] using hk
  by_cases e : k = i
  · subst e; simp [inc, at0, hk']
  · have h' : ¬ i = k := fun h => e h.symm
    simp [inc, at0, h']

/-- A band may get one more. -/
def Can (s d o : List Int) (B : Int) (i : Nat) : Prop := at0 d i ≠ 0 ∧ at0 o i ≠ 8 ∧ (cost s (inc o i) : Int) ≤ B
/-- One is louder by the square of one more than its pulses than another. -/
def Over (d o : List Int) (i b : Nat) : Prop := at0 d b * (at0 o i + 1) * (at0 o i + 1) < at0 d i * (at0 o b + 1) * (at0 o b + 1)
instance (s d o : List Int) (B : Int) (i : Nat) : Decidable (Can s d o B i) := by unfold Can; infer_instance
instance (d o : List Int) (i b : Nat) : Decidable (Over d o i b) := by unfold Over; infer_instance
/-- Who of the first j gets one. -/
def bst (s d o : List Int) (B : Int) : Nat → Option Nat
  | 0 => none
  | j + 1 => if Can s d o B j then (match bst s d o B j with | none => some j | some b => if Over d o j b then some j else some b) else bst s d o B j
theorem bst_lt {s d o : List Int} {B : Int} {j b : Nat} (h : bst s d o B j = some b) : b < j ∧ Can s d o B b := by
  induction j with
  | zero => simp [bst] at h
  | succ j ih =>
    rw [bst] at h
    split at h
    · rename_i hc
      split at h
      · cases h; exact ⟨by omega, hc⟩
      · rename_i c e
        split at h
        · cases h; exact ⟨by omega, hc⟩
        · cases h
          have := ih e
          exact ⟨by omega, this.2⟩
    · have := ih h
      exact ⟨by omega, this.2⟩
theorem bst_none {s d o : List Int} {B : Int} {j : Nat} (h : bst s d o B j = none) : ∀ i, i < j → ¬ Can s d o B i := by
  induction j with
  | zero => intro i hi; omega
  | succ j ih =>
    rw [bst] at h
    split at h
    · split at h
      · cases h
      · split at h <;> cases h
    · rename_i hc
      intro i hi
      by_cases e : i = j
      · rw [e]; exact hc
      · exact ih h i (by omega)
/-- Again and again. -/
def go (s d : List Int) (B : Int) : Nat → List Int → List Int
  | 0, o => o
  | f + 1, o => match bst s d o B s.length with
    | none => o
    | some b => go s d B f (inc o b)
def share (s d : List Int) (B : Int) : List Int := go s d B 100 (upto (fun _ => 0) s.length)

/-- What holds of the pulses all the way. -/
structure Inv (s d : List Int) (B : Int) (o : List Int) : Prop where
  len : o.length = s.length
  pls : Pls o
  low : ∀ i, i < o.length → at0 d i = 0 → at0 o i = 0
  cst : (cost s o : Int) ≤ B
/-- All pulses together. -/
def sm (o : List Int) : Nat → Int
  | 0 => 0
  | j + 1 => sm o j + at0 o j
theorem sm_le {o : List Int} (h : Pls o) {j : Nat} (hj : j ≤ o.length) : 0 ≤ sm o j ∧ sm o j ≤ 8 * j := by
  induction j with
  | zero => exact ⟨Int.le_refl _, Int.le_refl _⟩
  | succ j ih =>
    have h1 := ih (by omega)
    have h2 := h j (by omega)
    simp only [sm]
    omega
theorem sm_inc {o : List Int} {b : Nat} {j : Nat} (hj : j ≤ o.length) : sm (inc o b) j = sm o j + if b < j then 1 else 0 := by
  induction j with
  | zero => rfl
  | succ j ih =>
    have h1 := ih (by omega)
    simp only [sm]
    rw [h1]
    by_cases e : j = b
    · subst e
      rw [inc_at (by omega), if_neg (by omega), if_pos (by omega)]
      omega
    · rw [inc_other e]
      by_cases e2 : b < j
      · rw [if_pos e2, if_pos (by omega)]; omega
      · rw [if_neg e2, if_neg (by omega)]; omega
theorem inv_zero {s d : List Int} {B : Int} (hs : Sizes s) (hB : 0 ≤ B) : Inv s d B (upto (fun _ => 0) s.length) :=
  ⟨upto_length _ _, fun i hi => by rw [upto_length] at hi; rw [upto_at _ hi]; omega, fun i hi _ => by rw [upto_length] at hi; exact upto_at _ hi, by rw [cost_zeros hs]; exact hB⟩
theorem inv_inc {s d : List Int} {B : Int} {o : List Int} (h : Inv s d B o) {b : Nat} (hb : b < s.length) (hc : Can s d o B b) : Inv s d B (inc o b) := by
  have hl := h.len
  refine ⟨by rw [inc_length]; exact hl, fun i hi => ?_, fun i hi h0 => ?_, hc.2.2⟩
  · rw [inc_length] at hi
    by_cases e : i = b
    · subst e
      rw [inc_at hi]
      have := h.pls i hi
      have := hc.2.1
      omega
    · rw [inc_other e]; exact h.pls i hi
  · rw [inc_length] at hi
    by_cases e : i = b
    · subst e; exact absurd h0 hc.1
    · rw [inc_other e]; exact h.low i hi h0
/-- In the end no one may get one more. -/
theorem go_end {s d : List Int} {B : Int} (h8 : s.length ≤ 8) {f : Nat} {o : List Int} (h : Inv s d B o) (hf : 64 < sm o o.length + f) : Inv s d B (go s d B f o) ∧ bst s d (go s d B f o) B s.length = none := by
  induction f generalizing o with
  | zero =>
    have := sm_le h.pls (Nat.le_refl _)
    have := h.len
    omega
  | succ f ih =>
    rw [go]
    cases hb : bst s d o B s.length with
    | none => exact ⟨h, hb⟩
    | some b =>
      obtain ⟨h1, h2⟩ := bst_lt hb
      have hl := h.len
      refine ih (inv_inc h h1 h2) ?_
      rw [inc_length, sm_inc (Nat.le_refl _), if_pos (by omega)]
      omega
theorem sm_zeros (n : Nat) (j : Nat) (hj : j ≤ n) : sm (upto (fun _ => 0) n) j = 0 := by
  induction j with
  | zero => rfl
  | succ j ih => simp only [sm]; rw [ih (by omega), upto_at _ (by omega)]; rfl
theorem share_is {s d : List Int} {B : Int} (hs : Sizes s) (h8 : s.length ≤ 8) (hB : 0 ≤ B) : Inv s d B (share s d B) ∧ ∀ i, i < s.length → ¬ Can s d (share s d B) B i := by
  have h := go_end (d := d) (f := 100) h8 (inv_zero (d := d) hs hB) (by rw [upto_length, sm_zeros _ _ (Nat.le_refl _)]; omega)
  exact ⟨h.1, bst_none h.2⟩
/-- Another row of loudness that parts nothing otherwise gives the same. -/
theorem bst_same {s d e o : List Int} {B : Int} {n : Nat} (h0 : ∀ i, i < n → (at0 d i = 0 ↔ at0 e i = 0)) (h1 : ∀ i b, i < n → b < n → (Over d o i b ↔ Over e o i b)) {j : Nat} (hj : j ≤ n) : bst s d o B j = bst s e o B j := by
  induction j with
  | zero => rfl
  | succ j ih =>
    have hc : Can s d o B j ↔ Can s e o B j := by unfold Can; rw [Ne, Ne, h0 j (by omega)]
    rw [bst, bst, ih (by omega)]
    by_cases hcc : Can s d o B j
    · rw [if_pos hcc, if_pos (hc.1 hcc)]
      cases hb : bst s e o B j with
      | none => rfl
      | some b =>
        have hlt := (bst_lt hb).1
        have ho := h1 j b (by omega) (by omega)
        by_cases hoo : Over d o j b
        · simp only [if_pos hoo, if_pos (ho.1 hoo)]
        · simp only [if_neg hoo, if_neg (mt ho.2 hoo)]
    · rw [if_neg hcc, if_neg (mt hc.2 hcc)]
theorem go_same {s d e : List Int} {B : Int} (h0 : ∀ i, i < s.length → (at0 d i = 0 ↔ at0 e i = 0)) (h1 : ∀ o i b, i < s.length → b < s.length → (Over d o i b ↔ Over e o i b)) (f : Nat) (o : List Int) : go s d B f o = go s e B f o := by
  induction f generalizing o with
  | zero => rfl
  | succ f ih =>
    rw [go, go, bst_same h0 (h1 o) (Nat.le_refl _)]
    cases bst s e o B s.length with
    | none => rfl
    | some b => exact ih _
def twice (d : List Int) : List Int := upto (fun i => 2 * at0 d i) d.length
theorem share_twice {s d : List Int} {B : Int} (hl : d.length = s.length) : share s (twice d) B = share s d B := by
  unfold share
  refine go_same (fun i hi => ?_) (fun o i b hi hb => ?_) _ _
  · unfold twice
    rw [upto_at _ (by omega)]
    omega
  · unfold Over twice
    rw [upto_at _ (by omega), upto_at _ (by omega)]
    have e1 : 2 * at0 d b * (at0 o i + 1) * (at0 o i + 1) = 2 * (at0 d b * (at0 o i + 1) * (at0 o i + 1)) := by rw [Int.mul_assoc, Int.mul_assoc, Int.mul_assoc]
    have e2 : 2 * at0 d i * (at0 o b + 1) * (at0 o b + 1) = 2 * (at0 d i * (at0 o b + 1) * (at0 o b + 1)) := by rw [Int.mul_assoc, Int.mul_assoc, Int.mul_assoc]
    rw [e1, e2]
    omega
/-- Where all is silent none gets a pulse. -/
theorem share_silent {s d : List Int} {B : Int} (h : ∀ i, i < s.length → at0 d i = 0) : share s d B = upto (fun _ => 0) s.length := by
  unfold share
  have hb : ∀ o j, j ≤ s.length → bst s d o B j = none := by
    intro o j hj
    induction j with
    | zero => rfl
    | succ j ih =>
      rw [bst, if_neg (fun hc => hc.1 (h j (by omega)))]
      exact ih (by omega)
  rw [show (100 : Nat) = 99 + 1 from rfl, go, hb _ _ (Nat.le_refl _)]

/-- Who gets one, as a number: below 0 where no one does. -/
def bv : Option Nat → Int
  | none => -1
  | some b => b
theorem bst_can {s d o : List Int} {B : Int} {j : Nat} (h : ¬ Can s d o B j) : bst s d o B (j + 1) = bst s d o B j := by rw [bst, if_neg h]
theorem bst_first {s d o : List Int} {B : Int} {j : Nat} (h : Can s d o B j) (hb : bst s d o B j = none) : bst s d o B (j + 1) = some j := by rw [bst, if_pos h, hb]
theorem bst_over {s d o : List Int} {B : Int} {j b : Nat} (h : Can s d o B j) (hb : bst s d o B j = some b) (ho : Over d o j b) : bst s d o B (j + 1) = some j := by
  rw [bst, if_pos h, hb]
  simp only [if_pos ho]
theorem bst_stay {s d o : List Int} {B : Int} {j b : Nat} (h : Can s d o B j) (hb : bst s d o B j = some b) (ho : ¬ Over d o j b) : bst s d o B (j + 1) = some b := by
  rw [bst, if_pos h, hb]
  simp only [if_neg ho]
theorem go_none {s d o : List Int} {B : Int} {f : Nat} (h : bst s d o B s.length = none) : go s d B f o = o := by
  cases f with
  | zero => rfl
  | succ f => rw [go, h]
theorem go_some {s d o : List Int} {B : Int} {f b : Nat} (h : bst s d o B s.length = some b) : go s d B (f + 1) o = go s d B f (inc o b) := by rw [go, h]
theorem inc_pls {o : List Int} (h : Pls o) {j : Nat} (hj : j < o.length) (h8 : at0 o j ≠ 8) : Pls (inc o j) := fun i hi => by
  rw [inc_length] at hi
  by_cases e : i = j
  · subst e
    rw [inc_at hi]
    have := h i hi
    omega
  · rw [inc_other e]; exact h i hi

/-- One pulse more costs so many bits more. -/
def pr (n k : Nat) : Int := (Bt (k + 1) n : Int) - (Bt k n : Int)
theorem pr_in {n k : Nat} (hn : n ≤ 6) (hk : k < 8) : -15 ≤ pr n k ∧ pr n k ≤ 15 := by
  have h1 := Bt_le (k := k) (n := n) (by omega) hn
  have h2 := Bt_le (k := k + 1) (n := n) (by omega) hn
  unfold pr
  omega
theorem cs_inc {s o : List Int} {i : Nat} (hi : i < o.length) (h0 : 0 ≤ at0 o i) (j : Nat) : (cs s (inc o i) j : Int) = cs s o j + if i < j then pr (at0 s i).toNat (at0 o i).toNat else 0 := by
  induction j with
  | zero => rfl
  | succ j ih =>
    simp only [cs]
    rw [Int.natCast_add, ih, Int.natCast_add]
    by_cases e : j = i
    · subst e
      rw [inc_at hi, if_neg (by omega), if_pos (by omega), show (at0 o j + 1).toNat = (at0 o j).toNat + 1 by omega]
      unfold pr
      omega
    · rw [inc_other e]
      by_cases e2 : i < j
      · rw [if_pos e2, if_pos (by omega)]; omega
      · rw [if_neg e2, if_neg (by omega)]; omega
theorem cost_inc {s o : List Int} {i : Nat} (hi : i < o.length) (hs : i < s.length) (h0 : 0 ≤ at0 o i) : (cost s (inc o i) : Int) = cost s o + pr (at0 s i).toNat (at0 o i).toNat := by
  unfold cost
  rw [cs_inc hi h0, if_pos hs]
/-- Where all have as many as may be no one may get one more. -/
theorem sm_full {o : List Int} (h : Pls o) {j : Nat} (hj : j ≤ o.length) (e : sm o j = 8 * j) : ∀ i, i < j → at0 o i = 8 := by
  induction j with
  | zero => intro i hi; omega
  | succ j ih =>
    have h1 := sm_le h (j := j) (by omega)
    have h2 := h j (by omega)
    simp only [sm] at e
    intro i hi
    by_cases e2 : i = j
    · rw [e2]; omega
    · exact ih (by omega) (by omega) i (by omega)
theorem bst_full {s d o : List Int} {B : Int} {j : Nat} (h : ∀ i, i < j → at0 o i = 8) : bst s d o B j = none := by
  induction j with
  | zero => rfl
  | succ j ih =>
    rw [bst, if_neg (fun hc => hc.2.1 (h j (by omega)))]
    exact ih (fun i hi => h i (by omega))
/-- Loudness that may be. -/
def lou (n : Int) : Bool := decide (n < 0) || decide (8000 < n)
def noP (n : Int) : Bool := decide (n < 0) || decide (8 < n)
def Lds (d : List Int) : Prop := ∀ i, i < d.length → 0 ≤ at0 d i ∧ at0 d i ≤ 8000
/-- The faults. -/
def costF (s p : List Int) : Int := if bf s = 0 then (if p.length = s.length then (if p.any noP = true then 1 else 0) else 3) else bf s
def ofF (s d : List Int) (B : Int) : Int := if bf s = 0 then (if d.length = s.length then (if d.any lou = true then 1 else if B < 0 ∨ 400 < B then 1 else 0) else 3) else bf s
theorem any_no {p : Int → Bool} {q : Int → Prop} (h : ∀ x, p x = false ↔ q x) {l : List Int} : l.any p = false ↔ ∀ i, i < l.length → q (at0 l i) := by
  rw [List.any_eq_false]
  constructor
  · intro k i hi
    have e : at0 l i = l[i] := by simp [at0, hi]
    rw [e]
    exact (h _).1 (by simpa using k _ (List.getElem_mem hi))
  · intro k x hx
    obtain ⟨i, hi, rfl⟩ := List.getElem_of_mem hx
    have e : at0 l i = l[i] := by simp [at0, hi]
    have := k i hi
    rw [e] at this
    simpa using (h _).2 this
theorem noP_any {p : List Int} : p.any noP = false ↔ Pls p := any_no (p := noP) (q := fun x => 0 ≤ x ∧ x ≤ 8) (fun x => by simp [noP])
theorem lou_any {d : List Int} : d.any lou = false ↔ Lds d := any_no (p := lou) (q := fun x => 0 ≤ x ∧ x ≤ 8000) (fun x => by simp [lou])
theorem costF_zero {s p : List Int} : costF s p = 0 ↔ bf s = 0 ∧ p.length = s.length ∧ Pls p := by
  unfold costF
  constructor
  · intro h
    split at h
    · split at h
      · split at h
        · omega
        · rename_i h1 h2 h3
          exact ⟨h1, h2, noP_any.1 (Bool.eq_false_iff.2 h3)⟩
      · omega
    · rename_i h1; exact absurd h h1
  · intro ⟨h1, h2, h3⟩
    rw [if_pos h1, if_pos h2, if_neg (by rw [noP_any.2 h3]; simp)]
theorem ofF_zero {s d : List Int} {B : Int} : ofF s d B = 0 ↔ bf s = 0 ∧ d.length = s.length ∧ Lds d ∧ 0 ≤ B ∧ B ≤ 400 := by
  unfold ofF
  constructor
  · intro h
    split at h
    · split at h
      · split at h
        · omega
        · split at h
          · omega
          · rename_i h1 h2 h3 h4
            exact ⟨h1, h2, lou_any.1 (Bool.eq_false_iff.2 h3), by omega, by omega⟩
      · omega
    · rename_i h1; exact absurd h h1
  · intro ⟨h1, h2, h3, h4, h5⟩
    rw [if_pos h1, if_pos h2, if_neg (by rw [lou_any.2 h3]; simp), if_neg (by omega)]

end Go.Proofs.YthkibjhhlcfceajGreatDoor.Shr

/-
  The numbers of chapter 6: how many rows are ahead of one. No program here.
-/
namespace Go.Proofs.YthkibjhhlcfceajGreatDoor.Pls
open Go.Proofs.YthkibjhhlcfceajGreatDoor.Tre Go.Proofs.YthkibjhhlcfceajGreatDoor.Cnt
set_option linter.unusedVariables false

/-- How far all numbers are from 0. -/
def loud : List Int → Nat
  | [] => 0
  | x :: r => x.natAbs + loud r
theorem loud_append (l m : List Int) : loud (l ++ m) = loud l + loud m := by
  induction l with
  | nil => simp [loud]
  | cons x r ih => simp only [List.cons_append, loud, ih]; omega

/-- How many rows begin with s - L, of L pulses, m numbers behind it. -/
def rows (m L s : Nat) : Int := V (L - ((s : Int) - (L : Int)).natAbs) m
/-- .. with a lesser one. -/
def ahead (m L s : Nat) : Int := sumF (rows m L) s
theorem ahead_zero (m L : Nat) : ahead m L 0 = 0 := rfl
theorem ahead_succ (m L s : Nat) : ahead m L (s + 1) = ahead m L s + rows m L s := rfl
theorem ahead_all {m L : Nat} (hm : m < 6) (hL : L < 9) : ahead m L (2 * L + 1) = V L (m + 1) := by
  have h : ∀ m : Nat, m < 6 → ∀ L : Nat, L < 9 → ahead m L (2 * L + 1) = V L (m + 1) := by decide +kernel
  exact h m hm L hL
theorem rows_in {m L s : Nat} (hm : m < 7) (hL : L < 9) : 0 ≤ rows m L s ∧ rows m L s ≤ 20256 := V_in _ _ (by omega) hm
theorem rows_first (m L : Nat) : rows m L 0 = 1 := by unfold rows; rw [show L - (((0 : Nat) : Int) - (L : Int)).natAbs = 0 by omega, V_zero]
theorem rows_last (m L : Nat) : rows m L (2 * L) = 1 := by unfold rows; rw [show L - (((2 * L : Nat) : Int) - (L : Int)).natAbs = 0 by omega, V_zero]
theorem ahead_mono {m L s t : Nat} (hm : m < 7) (hL : L < 9) (h : s ≤ t) : ahead m L s ≤ ahead m L t := by
  induction t with
  | zero => rw [show s = 0 by omega]; exact Int.le_refl _
  | succ t ih =>
    rcases Nat.lt_or_ge t s with h1 | h1
    · rw [show s = t + 1 by omega]; exact Int.le_refl _
    · have := ih h1
      have := (rows_in (s := t) hm hL).1
      rw [ahead_succ]; omega
theorem ahead_in {m L s : Nat} (hm : m < 6) (hL : L < 9) (hs : s ≤ 2 * L + 1) : 0 ≤ ahead m L s ∧ ahead m L s ≤ 20256 := by
  have h1 := ahead_mono (m := m) (L := L) (s := 0) (t := s) (by omega) hL (Nat.zero_le _)
  have h2 := ahead_mono (m := m) (L := L) (s := s) (t := 2 * L + 1) (by omega) hL hs
  rw [ahead_all hm hL] at h2
  rw [ahead_zero] at h1
  have := (V_in L (m + 1) hL (by omega)).2
  omega
theorem rows_at {m L : Nat} {x : Int} (h : x.natAbs ≤ L) : rows m L (x + (L : Int)).toNat = V (L - x.natAbs) m := by
  unfold rows
  rw [show (((x + (L : Int)).toNat : Nat) : Int) - (L : Int) = x by omega]

/-- How many rows of L pulses are ahead. -/
def rk : List Int → Nat → Int
  | [], _ => 0
  | x :: r, L => ahead r.length L (x + (L : Int)).toNat + rk r (L - x.natAbs)

theorem rk_in : ∀ (l : List Int), l.length ≤ 6 → loud l ≤ 8 → 0 ≤ rk l (loud l) ∧ rk l (loud l) < V (loud l) l.length := by
  intro l
  induction l with
  | nil => intro _ _; simp [rk, loud, V_zero]
  | cons x r ih =>
    intro h1 h2
    simp only [List.length_cons] at h1
    obtain ⟨L, hL⟩ : ∃ L, L = loud (x :: r) := ⟨_, rfl⟩
    have hL' : L = x.natAbs + loud r := hL
    rw [← hL] at h2 ⊢
    have i := ih (by omega) (by omega)
    have e : L - x.natAbs = loud r := by omega
    have hr := rows_at (m := r.length) (L := L) (x := x) (by omega)
    have hin := ahead_in (m := r.length) (L := L) (s := (x + (L : Int)).toNat) (by omega) (by omega) (by omega)
    have hm := ahead_mono (m := r.length) (L := L) (s := (x + (L : Int)).toNat + 1) (t := 2 * L + 1) (by omega) (by omega) (by omega)
    rw [ahead_all (by omega) (by omega), ahead_succ, hr, e] at hm
    simp only [rk, List.length_cons, e]
    omega

/-- .. in parts: what is ahead of a row, by its first number. -/
theorem rk_parts {x : Int} {r : List Int} (h1 : r.length ≤ 5) (h2 : loud (x :: r) ≤ 8) :
    ahead r.length (loud (x :: r)) (x + (loud (x :: r) : Int)).toNat ≤ rk (x :: r) (loud (x :: r)) ∧ rk (x :: r) (loud (x :: r)) < ahead r.length (loud (x :: r)) ((x + (loud (x :: r) : Int)).toNat + 1) := by
  have hL' : loud (x :: r) = x.natAbs + loud r := rfl
  have i := rk_in r (by omega) (by omega)
  have e : loud (x :: r) - x.natAbs = loud r := by omega
  have hr := rows_at (m := r.length) (L := loud (x :: r)) (x := x) (by omega)
  rw [ahead_succ, hr]
  simp only [rk, e]
  omega

theorem rk_less {x y : Int} {r t : List Int} (h1 : r.length ≤ 5) (hl : t.length = r.length) (h2 : loud (x :: r) ≤ 8) (hk : loud (y :: t) = loud (x :: r)) (h : x < y) :
    rk (x :: r) (loud (x :: r)) < rk (y :: t) (loud (x :: r)) := by
  have a := (rk_parts h1 h2).2
  have b := (rk_parts (x := y) (r := t) (by omega) (by omega)).1
  rw [hk, hl] at b
  have hx : loud (x :: r) = x.natAbs + loud r := rfl
  have hm := ahead_mono (m := r.length) (L := loud (x :: r)) (s := (x + (loud (x :: r) : Int)).toNat + 1) (t := (y + (loud (x :: r) : Int)).toNat) (by omega) (by omega) (by omega)
  omega

/-- Two rows of as many numbers and pulses that are the same up to a place, and differ there. -/
theorem rk_order : ∀ (p : List Int) (x y : Int) (r t : List Int), (p ++ x :: r).length ≤ 6 → t.length = r.length → loud (p ++ x :: r) ≤ 8 → loud (p ++ y :: t) = loud (p ++ x :: r) → x < y →
    rk (p ++ x :: r) (loud (p ++ x :: r)) < rk (p ++ y :: t) (loud (p ++ x :: r)) := by
  intro p
  induction p with
  | nil => intro x y r t h1 hl h2 hk h; exact rk_less (by simpa using h1) hl h2 hk h
  | cons z p ih =>
    intro x y r t h1 hl h2 hk h
    have e1 : loud (z :: p ++ x :: r) = z.natAbs + loud (p ++ x :: r) := rfl
    have e2 : loud (z :: p ++ y :: t) = z.natAbs + loud (p ++ y :: t) := rfl
    have i := ih x y r t (by simp at h1 ⊢; omega) hl (by omega) (by omega) h
    have e3 : loud (z :: p ++ x :: r) - z.natAbs = loud (p ++ x :: r) := by omega
    have e4 : (p ++ y :: t).length = (p ++ x :: r).length := by simp [hl]
    show rk (z :: (p ++ x :: r)) _ < rk (z :: (p ++ y :: t)) _
    simp only [rk, e3, e4]
    omega

theorem rk_one : ∀ (l m : List Int), l.length ≤ 6 → m.length = l.length → loud l ≤ 8 → loud m = loud l → rk m (loud l) = rk l (loud l) → m = l := by
  intro l
  induction l with
  | nil => intro m _ h _ _ _; exact List.length_eq_zero_iff.1 h
  | cons x r ih =>
    intro m h1 hl h2 hk hr
    cases m with
    | nil => simp at hl
    | cons y t =>
      have hl' : t.length = r.length := by simpa using hl
      have h1' : r.length ≤ 5 := by simp at h1; omega
      rcases Int.lt_trichotomy x y with h | h | h
      · have := rk_less h1' hl' h2 hk h; omega
      · subst h
        have e1 : loud (x :: r) = x.natAbs + loud r := rfl
        have e2 : loud (x :: t) = x.natAbs + loud t := rfl
        have e3 : loud (x :: r) - x.natAbs = loud r := by omega
        simp only [rk, e3, hl'] at hr
        rw [ih t (by omega) hl' (by omega) (by omega) (by omega)]
      · have := rk_less (by omega) hl'.symm (by omega) hk.symm h
        rw [hk] at this; omega

/-- The first of all, and the last. -/
theorem first_of {x : Int} {r : List Int} (h1 : r.length ≤ 5) (h2 : loud (x :: r) ≤ 8) (h : rk (x :: r) (loud (x :: r)) = 0) : x = -(loud (x :: r) : Int) := by
  have a := (rk_parts h1 h2).1
  have hL : loud (x :: r) = x.natAbs + loud r := rfl
  rcases Nat.eq_zero_or_pos (x + (loud (x :: r) : Int)).toNat with e | e
  · omega
  · have hm := ahead_mono (m := r.length) (L := loud (x :: r)) (s := 1) (t := (x + (loud (x :: r) : Int)).toNat) (by omega) (by omega) e
    have h3 : ahead r.length (loud (x :: r)) 1 = 1 := by rw [ahead_succ, ahead_zero, rows_first]; rfl
    omega
theorem last_of {x : Int} {r : List Int} (h1 : r.length ≤ 5) (h2 : loud (x :: r) ≤ 8) (h : rk (x :: r) (loud (x :: r)) = V (loud (x :: r)) (r.length + 1) - 1) : x = (loud (x :: r) : Int) := by
  have a := (rk_parts h1 h2).2
  have hL : loud (x :: r) = x.natAbs + loud r := rfl
  rcases Nat.lt_or_ge (x + (loud (x :: r) : Int)).toNat (2 * loud (x :: r)) with e | e
  · have hm := ahead_mono (m := r.length) (L := loud (x :: r)) (s := (x + (loud (x :: r) : Int)).toNat + 1) (t := 2 * loud (x :: r)) (by omega) (by omega) e
    have h3 := ahead_all (m := r.length) (L := loud (x :: r)) (by omega) (by omega)
    rw [ahead_succ, rows_last] at h3
    omega
  · omega

/-- The row of a rank. -/
def Is (n k : Nat) (rank : Int) (l : List Int) : Prop := l.length = n ∧ loud l = k ∧ rk l k = rank
theorem Is.one {n k : Nat} {rank : Int} {l m : List Int} (hn : n ≤ 6) (hk : k ≤ 8) (h : Is n k rank l) (g : Is n k rank m) : m = l := by
  obtain ⟨rfl, rfl, rfl⟩ := h
  obtain ⟨g1, g2, g3⟩ := g
  exact rk_one l m hn g1 hk g2 g3

/-- What is still wanted behind l: numbers of L pulses, r of such ahead of them. -/
def Wants (n k : Nat) (rank : Int) (l : List Int) (L : Nat) (r : Int) : Prop := ∀ m, Is (n - l.length) L r m → Is n k rank (l ++ m)
theorem wants_all (n k : Nat) (rank : Int) : Wants n k rank [] k rank := fun m h => by simpa using h
theorem is_cons {b L s : Nat} {r : Int} {m : List Int} (hs : s ≤ 2 * L) (h : Is b (L - ((s : Int) - (L : Int)).natAbs) (r - ahead b L s) m) : Is (b + 1) L r (((s : Int) - (L : Int)) :: m) := by
  obtain ⟨h1, h2, h3⟩ := h
  subst h1
  refine ⟨by simp, ?_, ?_⟩
  · simp only [loud, h2]; omega
  · simp only [rk]
    rw [show ((s : Int) - (L : Int) + (L : Int)).toNat = s by omega, h3]
    omega
theorem Wants.step {n k : Nat} {rank : Int} {l : List Int} {b L s : Nat} {r : Int} (h : Wants n k rank l L r) (hb : n - l.length = b + 1) (hs : s ≤ 2 * L) :
    Wants n k rank (l ++ [(s : Int) - (L : Int)]) (L - ((s : Int) - (L : Int)).natAbs) (r - ahead b L s) := by
  intro m hm
  have e : n - (l ++ [(s : Int) - (L : Int)]).length = b := by simp; omega
  rw [e] at hm
  have := h _ (by rw [hb]; exact is_cons hs hm)
  simpa using this
theorem Wants.done {n k : Nat} {rank : Int} {l : List Int} {L : Nat} {r : Int} (h : Wants n k rank l L r) (hl : l.length = n) (hL : L ≤ 8) (h0 : 0 ≤ r) (h1 : r < V L 0) : Is n k rank l := by
  have hz : L = 0 ∧ r = 0 := by
    cases L with
    | zero => rw [V_zero] at h1; omega
    | succ L => rw [V_none] at h1; omega
  obtain ⟨rfl, rfl⟩ := hz
  have := h [] ⟨by simp; omega, rfl, rfl⟩
  simpa using this

/-- What of a row's rank is still wanted at a place. -/
theorem rk_drop {l : List Int} {i : Nat} (hi : i < l.length) : loud (l.drop i) = (at0 l i).natAbs + loud (l.drop (i + 1)) ∧
    rk (l.drop i) (loud (l.drop i)) = ahead (l.length - 1 - i) (loud (l.drop i)) (at0 l i + (loud (l.drop i) : Int)).toNat + rk (l.drop (i + 1)) (loud (l.drop (i + 1))) := by
  have e : l.drop i = at0 l i :: l.drop (i + 1) := by
    rw [List.drop_eq_getElem_cons hi]
    simp [at0, hi]
  have e1 : loud (l.drop i) = (at0 l i).natAbs + loud (l.drop (i + 1)) := by rw [e]; rfl
  refine ⟨e1, ?_⟩
  have e2 : rk (l.drop i) (loud (l.drop i)) = rk (at0 l i :: l.drop (i + 1)) (loud (l.drop i)) := by rw [← e]
  rw [e2]
  simp only [rk, List.length_drop]
  rw [show l.length - (i + 1) = l.length - 1 - i by omega, show loud (l.drop i) - (at0 l i).natAbs = loud (l.drop (i + 1)) by omega]

/-- Where two rows first differ. -/
theorem cut_at {l : List Int} {i : Nat} (hi : i < l.length) : l = l.take i ++ at0 l i :: l.drop (i + 1) := by
  have e : l.drop i = at0 l i :: l.drop (i + 1) := by
    rw [List.drop_eq_getElem_cons hi]
    simp [at0, hi]
  rw [← e, List.take_append_drop]
theorem first_diff {n k : Nat} {a b : Int} {l m : List Int} {i : Nat} (hn : n ≤ 6) (hk : k ≤ 8) (hl : Is n k a l) (hm : Is n k b m) (hi : i < n) (h : l.take i = m.take i) (hd : at0 l i < at0 m i) : a < b := by
  obtain ⟨l1, l2, l3⟩ := hl
  obtain ⟨m1, m2, m3⟩ := hm
  have e1 := cut_at (l := l) (i := i) (by omega)
  have e2 := cut_at (l := m) (i := i) (by omega)
  rw [← h] at e2
  have ho := rk_order (l.take i) (at0 l i) (at0 m i) (l.drop (i + 1)) (m.drop (i + 1)) (by rw [← e1]; omega) (by rw [List.length_drop, List.length_drop]; omega) (by rw [← e1]; omega) (by rw [← e1, ← e2]; omega) hd
  rw [← e1, ← e2, l2, l3, m3] at ho
  exact ho
theorem Is.rank {n k : Nat} {a b : Int} {l : List Int} (hl : Is n k a l) (hm : Is n k b l) : a = b := hl.2.2.symm.trans hm.2.2
theorem Is.self (l : List Int) : Is l.length (loud l) (rk l (loud l)) l := ⟨rfl, rfl, rfl⟩

theorem Is.first {n k : Nat} {l : List Int} (hn : n ≤ 6) (hk : k ≤ 8) (h0 : 0 < n) (h : Is n k 0 l) : at0 l 0 = -(k : Int) := by
  obtain ⟨rfl, rfl, h3⟩ := h
  cases l with
  | nil => simp at h0
  | cons x r => exact first_of (by simp at hn; omega) hk h3
theorem Is.last {n k : Nat} {l : List Int} (hn : n ≤ 6) (hk : k ≤ 8) (h0 : 0 < n) (h : Is n k (V k n - 1) l) : at0 l 0 = (k : Int) := by
  obtain ⟨rfl, rfl, h3⟩ := h
  cases l with
  | nil => simp at h0
  | cons x r => exact last_of (by simp at hn; omega) hk h3

end Go.Proofs.YthkibjhhlcfceajGreatDoor.Pls
