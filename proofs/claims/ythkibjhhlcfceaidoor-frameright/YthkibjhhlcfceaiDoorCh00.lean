/-
  Words for slices of integers in memory, for all walks of this seat.
-/
import Derived.Test.YthkibjhhlcfceaiDoorRows
import Derived.WalkKit
import Derived.WalkLawsBesides
import Derived.Below
import Derived.Carry
namespace Go.Proofs.YthkibjhhlcfceaiDoor
open Go.RowKit
set_option linter.unusedVariables false

/-- The elements l lie where a slice's address says. -/
def Row (w : World) (a : Option Addr) (l : List Int) : Prop :=
  l = [] ∨ ∃ b off, a = some ⟨b, off, none⟩ ∧ b < w.heap.size ∧ ∀ j, j < l.length → w.cell? ⟨b, off + j, none⟩ = some (.int .i64 (l.getD j 0))

theorem Row.below {w w' : World} {a : Option Addr} {l : List Int} (h : Row w a l) (hb : Below w.heap.size w w') : Row w' a l := by
  rcases h with h | ⟨b, off, ha, hlt, hc⟩
  · exact Or.inl h
  · exact Or.inr ⟨b, off, ha, Nat.lt_of_lt_of_le hlt hb.size, fun j hj => (hb.cell (p := ⟨b, off + j, none⟩) hlt).trans (hc j hj)⟩

theorem Row.at {w : World} {a : Option Addr} {l : List Int} (h : Row w a l) {k : Nat} (hk : k < l.length) :
    ∃ b off, a = some ⟨b, off, none⟩ ∧ b < w.heap.size ∧ ∀ j, j < l.length → w.cell? ⟨b, off + j, none⟩ = some (.int .i64 (l.getD j 0)) := by
  rcases h with h | h
  · subst h; exact absurd hk (by simp)
  · exact h

theorem Below.chain {a b c : World} (h : Below a.heap.size a b) (k : Below b.heap.size b c) : Below a.heap.size a c := h.trans (k.mono h.size)

theorem hide {p : Prop} (h : p) : Hid p := h
theorem unhide {p : Prop} (h : Hid p) : p := h

theorem ret_int {k : IntKind} {a b : Int} (h : a = b) : Ending.returned (.int k a) = .returned (.int k b) := by rw [h]

end Go.Proofs.YthkibjhhlcfceaiDoor

/-
  The numbers of chapter 3, as lists: sums' halves and differences, level by level, and back. No program here.
-/
namespace Go.Proofs.YthkibjhhlcfceaiDoor.Tre
set_option linter.unusedVariables false

/-- What there is at a place, 0 where there is none. -/
def at0 (l : List Int) (i : Nat) : Int := l[i]?.getD 0
/-- Each is within a bound. -/
def In (b : Int) (l : List Int) : Prop := ∀ n ∈ l, -b ≤ n ∧ n ≤ b

theorem In.at {b : Int} {l : List Int} (h : In b l) (hb : 0 ≤ b) (i : Nat) : -b ≤ at0 l i ∧ at0 l i ≤ b := by
  unfold at0
  by_cases hi : i < l.length
  · rw [List.getElem?_eq_getElem hi]; exact h _ (List.getElem_mem hi)
  · rw [List.getElem?_eq_none (by omega)]; simp; omega
theorem In.mono {b c : Int} {l : List Int} (h : In b l) (hb : b ≤ c) : In c l := fun n hn => by have := h n hn; omega
theorem In.take {b : Int} {l : List Int} (h : In b l) (k : Nat) : In b (l.take k) := fun n hn => h n (List.mem_of_mem_take hn)
theorem In.drop {b : Int} {l : List Int} (h : In b l) (k : Nat) : In b (l.drop k) := fun n hn => h n (List.mem_of_mem_drop hn)
theorem In.append {b : Int} {l m : List Int} (h : In b l) (k : In b m) : In b (l ++ m) := fun n hn => (List.mem_append.1 hn).elim (h n) (k n)

/-- f 0, .., f (k - 1). -/
def upto (f : Nat → Int) (k : Nat) : List Int := (List.range k).map f
theorem upto_succ (f : Nat → Int) (k : Nat) : upto f (k + 1) = upto f k ++ [f k] := by simp [upto, List.range_succ]
theorem upto_length (f : Nat → Int) (k : Nat) : (upto f k).length = k := by simp [upto]
theorem upto_at (f : Nat → Int) {k i : Nat} (h : i < k) : at0 (upto f k) i = f i := by simp [at0, upto, h]
theorem upto_congr {f g : Nat → Int} {k : Nat} (h : ∀ i, i < k → f i = g i) : upto f k = upto g k := List.map_congr_left fun i hi => h i (List.mem_range.1 hi)
theorem upto_in {b : Int} {f : Nat → Int} {k : Nat} (h : ∀ i, i < k → -b ≤ f i ∧ f i ≤ b) : In b (upto f k) := fun n hn => by
  obtain ⟨i, hi, rfl⟩ := List.mem_map.1 hn
  exact h i (List.mem_range.1 hi)
theorem eq_upto (l : List Int) : l = upto (at0 l) l.length := by
  apply List.ext_getElem
  · simp [upto]
  · intro i h1 h2; simp [upto, at0, h1]
theorem eq_of_at {l m : List Int} (hl : l.length = m.length) (h : ∀ i, i < l.length → at0 l i = at0 m i) : l = m := by
  rw [eq_upto l, eq_upto m, ← hl]
  exact upto_congr h

/-- f 0, g 0, f 1, g 1, .. -/
def flat (f g : Nat → Int) (n : Nat) : List Int := (List.range n).flatMap fun i => [f i, g i]
theorem flat_succ (f g : Nat → Int) (n : Nat) : flat f g (n + 1) = flat f g n ++ [f n, g n] := by simp [flat, List.range_succ]
theorem flat_length (f g : Nat → Int) (n : Nat) : (flat f g n).length = 2 * n := by
  induction n with
  | zero => rfl
  | succ n ih => rw [flat_succ, List.length_append, ih]; simp; omega
theorem at0_left {l m : List Int} {i : Nat} (h : i < l.length) : at0 (l ++ m) i = at0 l i := by simp [at0, List.getElem?_append_left h]
theorem at0_right {l m : List Int} (i : Nat) : at0 (l ++ m) (l.length + i) = at0 m i := by simp [at0, List.getElem?_append_right]
theorem flat_at (f g : Nat → Int) (n i : Nat) (h : i < n) : at0 (flat f g n) (2 * i) = f i ∧ at0 (flat f g n) (2 * i + 1) = g i := by
  induction n with
  | zero => omega
  | succ n ih =>
    rw [flat_succ]
    by_cases hi : i < n
    · rw [at0_left (by rw [flat_length]; omega), at0_left (by rw [flat_length]; omega)]
      exact ih hi
    · obtain rfl : i = n := by omega
      have e1 := at0_right (l := flat f g i) (m := [f i, g i]) 0
      have e2 := at0_right (l := flat f g i) (m := [f i, g i]) 1
      rw [flat_length] at e1 e2
      exact ⟨e1, e2⟩
theorem flat_congr {f g f' g' : Nat → Int} {n : Nat} (h : ∀ i, i < n → f i = f' i ∧ g i = g' i) : flat f g n = flat f' g' n := by
  induction n with
  | zero => rfl
  | succ n ih => rw [flat_succ, flat_succ, ih fun i hi => h i (by omega), (h n (by omega)).1, (h n (by omega)).2]
theorem flat_in {b : Int} {f g : Nat → Int} {n : Nat} (h : ∀ i, i < n → (-b ≤ f i ∧ f i ≤ b) ∧ (-b ≤ g i ∧ g i ≤ b)) : In b (flat f g n) := by
  induction n with
  | zero => intro x hx; cases hx
  | succ n ih =>
    rw [flat_succ]
    refine (ih fun i hi => h i (by omega)).append fun x hx => ?_
    have := h n (by omega)
    simp at hx
    rcases hx with rfl | rfl
    · exact this.1
    · exact this.2
theorem flat_of {l : List Int} {n : Nat} (h : l.length = 2 * n) : flat (fun i => at0 l (2 * i)) (fun i => at0 l (2 * i + 1)) n = l := by
  refine eq_of_at (by rw [flat_length, h]) fun i hi => ?_
  rw [flat_length] at hi
  have hk := flat_at (fun i => at0 l (2 * i)) (fun i => at0 l (2 * i + 1)) n (i / 2) (by omega)
  rcases Nat.mod_two_eq_zero_or_one i with hm | hm
  · have e : 2 * (i / 2) = i := by omega
    rw [e] at hk; exact hk.1
  · have e : 2 * (i / 2) + 1 = i := by omega
    rw [e] at hk; exact hk.2

/-- Of each two, one behind the other: the sum's half, and the difference. -/
def sumAt (l : List Int) (i : Nat) : Int := (at0 l (2 * i) + at0 l (2 * i + 1)) / 2
def difAt (l : List Int) (i : Nat) : Int := at0 l (2 * i) - at0 l (2 * i + 1)
def sums (l : List Int) : List Int := upto (sumAt l) (l.length / 2)
def difs (l : List Int) : List Int := upto (difAt l) (l.length / 2)
/-- So many levels forward. -/
def tree : Nat → List Int → List Int
  | 0, l => l
  | k + 1, l => tree k (sums l) ++ difs l
/-- Of a half and a difference the two. -/
def oneAt (s d : List Int) (i : Nat) : Int := at0 s i + (at0 d i + 1) / 2
def twoAt (s d : List Int) (i : Nat) : Int := at0 s i + (at0 d i + 1) / 2 - at0 d i
def joins (s d : List Int) : List Int := flat (oneAt s d) (twoAt s d) s.length
/-- Is a number beyond a bound? -/
def out (b n : Int) : Bool := decide (n < -b) || decide (b < n)
/-- So many levels back; none where a number on the way is beyond 4000. -/
def back : Nat → List Int → Option (List Int)
  | 0, l => some l
  | k + 1, l => match back k (l.take (l.length / 2)) with
    | none => none
    | some s => if (joins s (l.drop (l.length / 2))).any (out 4000) = true then none else some (joins s (l.drop (l.length / 2)))

theorem out_no {b n : Int} (h : out b n = false) : -b ≤ n ∧ n ≤ b := by simp [out] at h; omega
theorem out_false {b n : Int} (h : -b ≤ n ∧ n ≤ b) : out b n = false := by simp [out]; omega
theorem in_of_any {b : Int} {l : List Int} (h : l.any (out b) = false) : In b l := fun n hn => out_no (by simpa using List.any_eq_false.1 h n hn)
theorem any_of_in {b : Int} {l : List Int} (h : In b l) : l.any (out b) = false := by
  apply List.any_eq_false.2
  intro n hn
  simpa using out_false (h n hn)

theorem sums_length (l : List Int) : (sums l).length = l.length / 2 := upto_length _ _
theorem difs_length (l : List Int) : (difs l).length = l.length / 2 := upto_length _ _
theorem joins_length (s d : List Int) : (joins s d).length = 2 * s.length := flat_length _ _ _
theorem sums_in {l : List Int} {b : Int} (hb : 0 ≤ b) (h : In b l) : In b (sums l) := upto_in fun i _ => by
  have h1 := h.at hb (2 * i)
  have h2 := h.at hb (2 * i + 1)
  unfold sumAt; omega
theorem difs_in {l : List Int} {b : Int} (hb : 0 ≤ b) (h : In b l) : In (2 * b) (difs l) := upto_in fun i _ => by
  have h1 := h.at hb (2 * i)
  have h2 := h.at hb (2 * i + 1)
  unfold difAt; omega

theorem half_dvd {k n : Nat} (h : 2 ^ (k + 1) ∣ n) : 2 ^ k ∣ n / 2 ∧ n = 2 * (n / 2) := by
  obtain ⟨q, rfl⟩ := h
  have e : 2 ^ (k + 1) * q = 2 * (2 ^ k * q) := by rw [Nat.pow_succ]; simp [Nat.mul_comm, Nat.mul_left_comm]
  rw [e, Nat.mul_div_cancel_left _ (by omega)]
  exact ⟨⟨q, rfl⟩, rfl⟩

theorem tree_length (k : Nat) (l : List Int) (h : 2 ^ k ∣ l.length) : (tree k l).length = l.length := by
  induction k generalizing l with
  | zero => rfl
  | succ k ih =>
    have hh := half_dvd h
    rw [tree, List.length_append, ih _ (by rw [sums_length]; exact hh.1), sums_length, difs_length]
    omega
theorem tree_in (k : Nat) (l : List Int) (h : In 1000 l) : In 2000 (tree k l) := by
  induction k generalizing l with
  | zero => exact h.mono (by omega)
  | succ k ih => exact (ih _ (sums_in (by omega) h)).append (difs_in (by omega) h)

theorem joins_back {l : List Int} (h : l.length = 2 * (l.length / 2)) : joins (sums l) (difs l) = l := by
  have e : joins (sums l) (difs l) = flat (fun i => at0 l (2 * i)) (fun i => at0 l (2 * i + 1)) (l.length / 2) := by
    unfold joins
    rw [sums_length]
    refine flat_congr fun i hi => ?_
    unfold oneAt twoAt sums difs
    rw [upto_at _ hi, upto_at _ hi]
    unfold sumAt difAt
    omega
  rw [e, flat_of h]
theorem sums_joins {s d : List Int} : sums (joins s d) = s := by
  unfold sums
  rw [joins_length, Nat.mul_div_cancel_left _ (by omega : 0 < 2)]
  refine (upto_congr fun i hi => ?_).trans (eq_upto s).symm
  have := flat_at (oneAt s d) (twoAt s d) s.length i hi
  unfold sumAt joins
  rw [this.1, this.2]
  unfold oneAt twoAt
  omega
theorem difs_joins {s d : List Int} (h : s.length = d.length) : difs (joins s d) = d := by
  unfold difs
  rw [joins_length, Nat.mul_div_cancel_left _ (by omega : 0 < 2), h]
  refine (upto_congr fun i hi => ?_).trans (eq_upto d).symm
  have := flat_at (oneAt s d) (twoAt s d) s.length i (by omega)
  unfold difAt joins
  rw [this.1, this.2]
  unfold oneAt twoAt
  omega

theorem back_length (k : Nat) (l x : List Int) (h : 2 ^ k ∣ l.length) (hx : back k l = some x) : x.length = l.length := by
  induction k generalizing l x with
  | zero => cases hx; rfl
  | succ k ih =>
    have hh := half_dvd h
    unfold back at hx
    have hlen : (l.take (l.length / 2)).length = l.length / 2 := by rw [List.length_take]; omega
    cases hs : back k (l.take (l.length / 2)) with
    | none => rw [hs] at hx; cases hx
    | some s =>
      rw [hs] at hx
      dsimp only at hx
      split at hx
      · cases hx
      · cases hx
        rw [joins_length, ih _ s (by rw [hlen]; exact hh.1) hs, hlen]
        omega

/-- Any come back. -/
theorem back_tree (k : Nat) (l : List Int) (h : 2 ^ k ∣ l.length) (hl : In 1000 l) : back k (tree k l) = some l := by
  induction k generalizing l with
  | zero => rfl
  | succ k ih =>
    have hh := half_dvd h
    have hd : 2 ^ k ∣ (sums l).length := by rw [sums_length]; exact hh.1
    have ht : (tree k (sums l)).length = l.length / 2 := by rw [tree_length k _ hd, sums_length]
    have hlen : (tree (k + 1) l).length = l.length := tree_length _ _ h
    unfold back
    rw [hlen]
    have e1 : (tree (k + 1) l).take (l.length / 2) = tree k (sums l) := by
      show (tree k (sums l) ++ difs l).take _ = _
      rw [← ht, List.take_left]
    have e2 : (tree (k + 1) l).drop (l.length / 2) = difs l := by
      show (tree k (sums l) ++ difs l).drop _ = _
      rw [← ht, List.drop_left]
    rw [e1, e2, ih _ hd (sums_in (by omega) hl)]
    dsimp only
    rw [joins_back hh.2, if_neg (by rw [any_of_in (hl.mono (by omega))]; simp)]

/-- What came back, forward, is what it was. -/
theorem tree_back (k : Nat) (l x : List Int) (h : 2 ^ k ∣ l.length) (hx : back k l = some x) : tree k x = l := by
  induction k generalizing l x with
  | zero => cases hx; rfl
  | succ k ih =>
    have hh := half_dvd h
    have hlen : (l.take (l.length / 2)).length = l.length / 2 := by rw [List.length_take]; omega
    unfold back at hx
    cases hs : back k (l.take (l.length / 2)) with
    | none => rw [hs] at hx; cases hx
    | some s =>
      rw [hs] at hx
      dsimp only at hx
      split at hx
      · cases hx
      · cases hx
        have hsl := back_length k _ s (by rw [hlen]; exact hh.1) hs
        have hdl : (l.drop (l.length / 2)).length = l.length / 2 := by rw [List.length_drop]; omega
        rw [tree, sums_joins, difs_joins (by rw [hsl, hlen, hdl]), ih _ s (by rw [hlen]; exact hh.1) hs, List.take_append_drop]

/-- What is all alike has no differences. -/
theorem sums_alike (n : Nat) (c : Int) : sums (List.replicate (2 * n) c) = List.replicate n c := by
  refine eq_of_at (by rw [sums_length]; simp) fun i hi => ?_
  rw [sums_length, List.length_replicate, Nat.mul_div_cancel_left _ (by omega : 0 < 2)] at hi
  unfold sums
  rw [upto_at _ (by simp; omega)]
  unfold sumAt at0
  simp [hi, show 2 * i < 2 * n by omega, show 2 * i + 1 < 2 * n by omega]
  omega
theorem difs_alike (n : Nat) (c : Int) : difs (List.replicate (2 * n) c) = List.replicate n 0 := by
  refine eq_of_at (by rw [difs_length]; simp) fun i hi => ?_
  rw [difs_length, List.length_replicate, Nat.mul_div_cancel_left _ (by omega : 0 < 2)] at hi
  unfold difs
  rw [upto_at _ (by simp; omega)]
  unfold difAt at0
  simp [hi, show 2 * i < 2 * n by omega, show 2 * i + 1 < 2 * n by omega]
theorem tree_alike (k n : Nat) (c : Int) (h : 2 ^ k ∣ n) : tree k (List.replicate n c) = List.replicate (n / 2 ^ k) c ++ List.replicate (n - n / 2 ^ k) 0 := by
  induction k generalizing n with
  | zero => simp [tree]
  | succ k ih =>
    have hh := half_dvd h
    have e : n / 2 ^ (k + 1) = n / 2 / 2 ^ k := by rw [Nat.pow_succ, Nat.mul_comm, Nat.div_div_eq_div_mul]
    rw [tree]
    have h1 : sums (List.replicate n c) = List.replicate (n / 2) c := by rw [hh.2, sums_alike, Nat.mul_div_cancel_left _ (by omega : 0 < 2)]
    have h2 : difs (List.replicate n c) = List.replicate (n / 2) 0 := by rw [hh.2, difs_alike, Nat.mul_div_cancel_left _ (by omega : 0 < 2)]
    rw [h1, h2, ih _ hh.1, List.append_assoc, List.replicate_append_replicate, e]
    have hle : n / 2 / 2 ^ k ≤ n / 2 := Nat.div_le_self _ _
    congr 2
    omega

end Go.Proofs.YthkibjhhlcfceaiDoor.Tre

/-
  The numbers of chapter 4, as lists: over the edges, and back. No program here.
-/
namespace Go.Proofs.YthkibjhhlcfceaiDoor.Lap
open Go.Proofs.YthkibjhhlcfceaiDoor.Tre
set_option linter.unusedVariables false

/-- The numbers at even places, and at odd ones. -/
def ev (l : List Int) : List Int := upto (fun i => at0 l (2 * i)) (l.length / 2)
def od (l : List Int) : List Int := upto (fun i => at0 l (2 * i + 1)) (l.length / 2)
/-- What an odd one is held to be, by the even ones beside it; the fourth part of the differences beside an even one. -/
def gs (e : List Int) (i : Nat) : Int := (at0 e i + at0 e (min (i + 1) (e.length - 1))) / 2
def lf (d : List Int) (i : Nat) : Int := (at0 d (i - 1) + at0 d i + 2) / 4
def difF (e d : List Int) (i : Nat) : Int := at0 d i - gs e i
def styF (e d : List Int) (i : Nat) : Int := at0 e i + lf d i
def evF (s d : List Int) (i : Nat) : Int := at0 s i - lf d i
def odF (e d : List Int) (i : Nat) : Int := at0 d i + gs e i
def dif (l : List Int) : List Int := upto (difF (ev l) (od l)) (l.length / 2)
def sty (l : List Int) : List Int := upto (styF (ev l) (dif l)) (l.length / 2)
/-- Over the edges. -/
def lap (l : List Int) : List Int := sty l ++ dif l
def fr (l : List Int) : List Int := l.take (l.length / 2)
def bk (l : List Int) : List Int := l.drop (l.length / 2)
def evs (l : List Int) : List Int := upto (evF (fr l) (bk l)) (l.length / 2)
def ods (l : List Int) : List Int := upto (odF (evs l) (bk l)) (l.length / 2)
/-- .. and back. -/
def unlap (l : List Int) : List Int := flat (at0 (evs l)) (at0 (ods l)) (l.length / 2)

theorem ev_length (l : List Int) : (ev l).length = l.length / 2 := upto_length _ _
theorem od_length (l : List Int) : (od l).length = l.length / 2 := upto_length _ _
theorem dif_length (l : List Int) : (dif l).length = l.length / 2 := upto_length _ _
theorem sty_length (l : List Int) : (sty l).length = l.length / 2 := upto_length _ _
theorem evs_length (l : List Int) : (evs l).length = l.length / 2 := upto_length _ _
theorem ods_length (l : List Int) : (ods l).length = l.length / 2 := upto_length _ _
theorem fr_length (l : List Int) : (fr l).length = l.length / 2 := by unfold fr; rw [List.length_take]; omega
theorem bk_length {l : List Int} (h : l.length = 2 * (l.length / 2)) : (bk l).length = l.length / 2 := by unfold bk; rw [List.length_drop]; omega
theorem lap_length {l : List Int} (h : l.length = 2 * (l.length / 2)) : (lap l).length = l.length := by unfold lap; rw [List.length_append, sty_length, dif_length]; omega
theorem unlap_length {l : List Int} (h : l.length = 2 * (l.length / 2)) : (unlap l).length = l.length := by unfold unlap; rw [flat_length]; omega

theorem ev_in {b : Int} (hb : 0 ≤ b) {l : List Int} (h : In b l) : In b (ev l) := upto_in fun i _ => h.at hb _
theorem od_in {b : Int} (hb : 0 ≤ b) {l : List Int} (h : In b l) : In b (od l) := upto_in fun i _ => h.at hb _
theorem gs_in {b : Int} (hb : 0 ≤ b) {e : List Int} (h : In b e) (i : Nat) : -b ≤ gs e i ∧ gs e i ≤ b := by
  have h1 := h.at hb i
  have h2 := h.at hb (min (i + 1) (e.length - 1))
  unfold gs; omega
theorem lf_in {b : Int} (hb : 0 ≤ b) {d : List Int} (h : In (2 * b) d) (i : Nat) : -b ≤ lf d i ∧ lf d i ≤ b := by
  have h1 := h.at (by omega) (i - 1)
  have h2 := h.at (by omega) i
  unfold lf; omega
theorem dif_in {b : Int} (hb : 0 ≤ b) {l : List Int} (h : In b l) : In (2 * b) (dif l) := upto_in fun i _ => by
  have h1 := gs_in hb (ev_in hb h) i
  have h2 := (od_in hb h).at hb i
  unfold difF; omega
theorem sty_in {b : Int} (hb : 0 ≤ b) {l : List Int} (h : In b l) : In (2 * b) (sty l) := upto_in fun i _ => by
  have h1 := lf_in hb (dif_in hb h) i
  have h2 := (ev_in hb h).at hb i
  unfold styF; omega
theorem lap_in {b : Int} (hb : 0 ≤ b) {l : List Int} (h : In b l) : In (2 * b) (lap l) := (sty_in hb h).append (dif_in hb h)
theorem evs_in {b : Int} (hb : 0 ≤ b) {l : List Int} (h : In (2 * b) l) : In (3 * b) (evs l) := upto_in fun i _ => by
  have h1 := lf_in hb (h.drop (l.length / 2)) i
  have h2 := (h.take (l.length / 2)).at (by omega) i
  unfold evF fr bk; omega

/-- The first j as by f, the rest as by g. -/
def mid (f g : Nat → Int) (n j : Nat) : List Int := upto (fun i => if i < j then f i else g i) n
theorem mid_length (f g : Nat → Int) (n j : Nat) : (mid f g n j).length = n := upto_length _ _
theorem mid_zero (f g : Nat → Int) (n : Nat) : mid f g n 0 = upto g n := upto_congr fun i _ => by simp
theorem mid_all (f g : Nat → Int) (n : Nat) : mid f g n n = upto f n := upto_congr fun i hi => by simp [hi]
theorem mid_at (f g : Nat → Int) {n j : Nat} (h : j < n) : at0 (mid f g n j) j = g j := by unfold mid; rw [upto_at _ h]; simp
theorem mid_set (f g : Nat → Int) {n j : Nat} (h : j < n) : (mid f g n j).set j (f j) = mid f g n (j + 1) := by
  refine eq_of_at (by rw [List.length_set, mid_length, mid_length]) fun i hi => ?_
  rw [List.length_set, mid_length] at hi
  by_cases e : j = i
  · subst e
    have : at0 ((mid f g n j).set j (f j)) j = f j := by unfold at0; rw [List.getElem?_set_self (by rw [mid_length]; exact h)]; rfl
    rw [this]; unfold mid; rw [upto_at _ h]; simp
  · have : at0 ((mid f g n j).set j (f j)) i = at0 (mid f g n j) i := by unfold at0; rw [List.getElem?_set_ne e]
    rw [this]; unfold mid; rw [upto_at _ hi, upto_at _ hi]
    by_cases h3 : i < j
    · rw [if_pos h3, if_pos (by omega)]
    · rw [if_neg h3, if_neg (by omega)]

theorem fr_lap (l : List Int) (h : l.length = 2 * (l.length / 2)) : fr (lap l) = sty l := by
  unfold fr; rw [lap_length h, ← sty_length l]; unfold lap; rw [List.take_left]
theorem bk_lap (l : List Int) (h : l.length = 2 * (l.length / 2)) : bk (lap l) = dif l := by
  unfold bk; rw [lap_length h, ← sty_length l]; unfold lap; rw [List.drop_left]
theorem evs_lap (l : List Int) (h : l.length = 2 * (l.length / 2)) : evs (lap l) = ev l := by
  unfold evs
  rw [fr_lap l h, bk_lap l h, lap_length h, eq_upto (ev l), ev_length]
  refine upto_congr fun i hi => ?_
  unfold evF sty
  rw [upto_at _ hi]
  unfold styF
  omega
theorem ods_lap (l : List Int) (h : l.length = 2 * (l.length / 2)) : ods (lap l) = od l := by
  unfold ods
  rw [evs_lap l h, bk_lap l h, lap_length h, eq_upto (od l), od_length]
  refine upto_congr fun i hi => ?_
  unfold odF dif
  rw [upto_at _ hi]
  unfold difF
  omega
/-- Any come back. -/
theorem unlap_lap {l : List Int} (h : l.length = 2 * (l.length / 2)) : unlap (lap l) = l := by
  unfold unlap
  rw [evs_lap l h, ods_lap l h, lap_length h]
  refine Eq.trans (flat_congr fun i hi => ?_) (flat_of h)
  unfold ev od
  rw [upto_at _ hi, upto_at _ hi]
  exact ⟨rfl, rfl⟩

theorem half_twice (n : Nat) : 2 * n / 2 = n := Nat.mul_div_cancel_left _ (by omega)
theorem ev_unlap (m : List Int) : ev (unlap m) = evs m := by
  unfold ev
  have e : (unlap m).length / 2 = m.length / 2 := by unfold unlap; rw [flat_length, half_twice]
  rw [e, eq_upto (evs m), evs_length]
  refine upto_congr fun i hi => ?_
  unfold unlap
  exact (flat_at _ _ _ _ hi).1
theorem od_unlap (m : List Int) : od (unlap m) = ods m := by
  unfold od
  have e : (unlap m).length / 2 = m.length / 2 := by unfold unlap; rw [flat_length, half_twice]
  rw [e, eq_upto (ods m), ods_length]
  refine upto_congr fun i hi => ?_
  unfold unlap
  exact (flat_at _ _ _ _ hi).2
theorem dif_unlap {m : List Int} (h : m.length = 2 * (m.length / 2)) : dif (unlap m) = bk m := by
  unfold dif
  rw [ev_unlap, od_unlap, unlap_length h, eq_upto (bk m), bk_length h]
  refine upto_congr fun i hi => ?_
  unfold difF ods
  rw [upto_at _ hi]
  unfold odF
  omega
theorem sty_unlap {m : List Int} (h : m.length = 2 * (m.length / 2)) : sty (unlap m) = fr m := by
  unfold sty
  rw [ev_unlap, dif_unlap h, unlap_length h, eq_upto (fr m), fr_length]
  refine upto_congr fun i hi => ?_
  unfold styF evs
  rw [upto_at _ hi]
  unfold evF
  omega
/-- What came back, forward, is what it was. -/
theorem lap_unlap {m : List Int} (h : m.length = 2 * (m.length / 2)) : lap (unlap m) = m := by
  unfold lap
  rw [sty_unlap h, dif_unlap h]
  exact List.take_append_drop _ _

/-- What is flat stays so. -/
theorem at0_rep {n i : Nat} {c : Int} (h : i < n) : at0 (List.replicate n c) i = c := by simp [at0, h]
theorem ev_flat (n : Nat) (c : Int) : ev (List.replicate (2 * n) c) = List.replicate n c := by
  refine eq_of_at (by rw [ev_length, List.length_replicate, List.length_replicate, half_twice]) fun i hi => ?_
  rw [ev_length, List.length_replicate, half_twice] at hi
  unfold ev
  rw [List.length_replicate, half_twice, upto_at _ hi, at0_rep hi, at0_rep (by omega)]
theorem dif_flat (n : Nat) (c : Int) : dif (List.replicate (2 * n) c) = List.replicate n 0 := by
  refine eq_of_at (by rw [dif_length, List.length_replicate, List.length_replicate, half_twice]) fun i hi => ?_
  rw [dif_length, List.length_replicate, half_twice] at hi
  unfold dif
  rw [ev_flat, List.length_replicate, half_twice, upto_at _ hi, at0_rep hi]
  unfold difF gs od
  rw [List.length_replicate, List.length_replicate, half_twice, upto_at _ hi, at0_rep (by omega), at0_rep hi, at0_rep (by omega)]
  omega
theorem sty_flat (n : Nat) (c : Int) : sty (List.replicate (2 * n) c) = List.replicate n c := by
  refine eq_of_at (by rw [sty_length, List.length_replicate, List.length_replicate, half_twice]) fun i hi => ?_
  rw [sty_length, List.length_replicate, half_twice] at hi
  unfold sty
  rw [ev_flat, dif_flat, List.length_replicate, half_twice, upto_at _ hi, at0_rep hi]
  unfold styF lf
  rw [at0_rep hi, at0_rep hi, at0_rep (by omega)]
  omega
theorem lap_flat (n : Nat) (c : Int) : lap (List.replicate (2 * n) c) = List.replicate n c ++ List.replicate n 0 := by
  unfold lap; rw [sty_flat, dif_flat]

/-- Of what rises evenly only the last difference is not 0. -/
def rise (a b : Int) (k : Nat) : List Int := upto (fun i => a + i * b) k
theorem rise_dif (a b : Int) (n i : Nat) (hi : i < n) : at0 (lap (rise a b (2 * n))) (n + i) = if i + 1 < n then 0 else b := by
  have hl : (rise a b (2 * n)).length = 2 * n := upto_length _ _
  have hs : (sty (rise a b (2 * n))).length = n := by rw [sty_length, hl, half_twice]
  have e : at0 (lap (rise a b (2 * n))) (n + i) = at0 (dif (rise a b (2 * n))) i := by
    have := at0_right (l := sty (rise a b (2 * n))) (m := dif (rise a b (2 * n))) i
    rw [hs] at this; exact this
  rw [e]
  unfold dif
  rw [hl, half_twice, upto_at _ hi]
  have he : ∀ j, j < n → at0 (ev (rise a b (2 * n))) j = a + (2 * j : Nat) * b := by
    intro j hj
    unfold ev
    rw [hl, half_twice, upto_at _ hj]
    unfold rise
    rw [upto_at _ (by omega)]
  have ho : at0 (od (rise a b (2 * n))) i = a + (2 * i + 1 : Nat) * b := by
    unfold od
    rw [hl, half_twice, upto_at _ hi]
    unfold rise
    rw [upto_at _ (by omega)]
  unfold difF gs
  rw [ho, he i hi, ev_length, hl, half_twice]
  have x1 : ((2 * i : Nat) : Int) * b = 2 * ((i : Int) * b) := by rw [Int.natCast_mul, Int.mul_assoc]; rfl
  have x2 : ((2 * i + 1 : Nat) : Int) * b = 2 * ((i : Int) * b) + b := by rw [Int.natCast_add, Int.add_mul, x1]; simp
  by_cases h : i + 1 < n
  · rw [if_pos h, Nat.min_eq_left (by omega), he _ h, x1, x2]
    have x3 : ((2 * (i + 1) : Nat) : Int) * b = 2 * ((i : Int) * b) + 2 * b := by rw [Int.natCast_mul, Int.natCast_add, Int.mul_assoc, Int.add_mul, Int.mul_add]; simp
    rw [x3]
    generalize (i : Int) * b = P
    omega
  · rw [if_neg h, Nat.min_eq_right (by omega), he _ (by omega)]
    have : n - 1 = i := by omega
    rw [this, x1, x2]
    generalize (i : Int) * b = P
    omega

end Go.Proofs.YthkibjhhlcfceaiDoor.Lap
