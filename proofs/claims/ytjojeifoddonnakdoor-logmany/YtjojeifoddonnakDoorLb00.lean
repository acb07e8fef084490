/-
  Words for slices of integers in memory, for all walks of this seat.
-/
import Derived.Test.YtjojeifoddonnakDoorRows
import Derived.WalkKit
import Derived.WalkLawsBesides
import Derived.Below
import Derived.Carry
namespace Go.Proofs.YtjojeifoddonnakDoor
open Go.RowKit
set_option linter.unusedVariables false

/-- The elements l lie where a slice's address says. -/
def Row (w : World) (a : Option Addr) (l : List Int) : Prop :=
  l = [] ∨ ∃ b off, a = some ⟨b, off, none⟩ ∧ b < w.heap.size ∧ ∀ j, j < l.length → w.cell? ⟨b, off + j, none⟩ = some (.int .i64 (l.getD j 0))

theorem Row.below {w w' : World} {a : Option Addr} {l : List Int} (h : Row w a l) (hb : Below w.heap.size w w') : Row w' a l := by
  rcases h with h | ⟨b, off, ha, hlt, hc⟩
  · exact Or.inl h
  · exact Or.inr ⟨b, off, ha, Nat.lt_of_lt_of_le hlt hb.size, fun j hj => (hb.cell (p := ⟨b, off + j, none⟩) hlt).trans (hc j hj)⟩

theorem Row.at {w : World} {a : Option Addr} {l : List Int} (h : Row w a l) {k : Nat} (hk : k < l.length) :
    ∃ b off, a = some ⟨b, off, none⟩ ∧ b < w.heap.size ∧ ∀ j, j < l.length → w.cell? ⟨b, off + j, none⟩ = some (.int .i64 (l.getD j 0)) := by
  rcases h with h | h
  · subst h; exact absurd hk (by simp)
  · exact h

theorem Below.chain {a b c : World} (h : Below a.heap.size a b) (k : Below b.heap.size b c) : Below a.heap.size a c := h.trans (k.mono h.size)

theorem hide {p : Prop} (h : p) : Hid p := h
theorem unhide {p : Prop} (h : Hid p) : p := h

theorem ret_int {k : IntKind} {a b : Int} (h : a = b) : Ending.returned (.int k a) = .returned (.int k b) := by rw [h]

end Go.Proofs.YtjojeifoddonnakDoor

/-
  The numbers of chapter 3, as lists: sums' halves and differences, level by level, and back. No program here.
-/
namespace Go.Proofs.YtjojeifoddonnakDoor.Tre
set_option linter.unusedVariables false

/-- What there is at a place, 0 where there is none. -/
def at0 (l : List Int) (i : Nat) : Int := l[i]?.getD 0
/-- Each is within a bound. -/
def In (b : Int) (l : List Int) : Prop := ∀ n ∈ l, -b ≤ n ∧ n ≤ b

theorem In.at {b : Int} {l : List Int} (h : In b l) (hb : 0 ≤ b) (i : Nat) : -b ≤ at0 l i ∧ at0 l i ≤ b := by
  unfold at0
  by_cases hi : i < l.length
  · rw [List.getElem?_eq_getElem hi]; exact h _ (List.getElem_mem hi)
  · rw [List.getElem?_eq_none (by omega)]; simp; omega
theorem In.mono {b c : Int} {l : List Int} (h : In b l) (hb : b ≤ c) : In c l := fun n hn => by have := h n hn; omega
theorem In.take {b : Int} {l : List Int} (h : In b l) (k : Nat) : In b (l.take k) := fun n hn => h n (List.mem_of_mem_take hn)
theorem In.drop {b : Int} {l : List Int} (h : In b l) (k : Nat) : In b (l.drop k) := fun n hn => h n (List.mem_of_mem_drop hn)
theorem In.append {b : Int} {l m : List Int} (h : In b l) (k : In b m) : In b (l ++ m) := fun n hn => (List.mem_append.1 hn).elim (h n) (k n)

/-- f 0, .., f (k - 1). -/
def upto (f : Nat → Int) (k : Nat) : List Int := (List.range k).map f
theorem upto_succ (f : Nat → Int) (k : Nat) : upto f (k + 1) = upto f k ++ [f k] := by simp [upto, List.range_succ]
theorem upto_length (f : Nat → Int) (k : Nat) : (upto f k).length = k := by simp [upto]
theorem upto_at (f : Nat → Int) {k i : Nat} (h : i < k) : at0 (upto f k) i = f i := by simp [at0, upto, h]
theorem upto_congr {f g : Nat → Int} {k : Nat} (h : ∀ i, i < k → f i = g i) : upto f k = upto g k := List.map_congr_left fun i hi => h i (List.mem_range.1 hi)
theorem upto_in {b : Int} {f : Nat → Int} {k : Nat} (h : ∀ i, i < k → -b ≤ f i ∧ f i ≤ b) : In b (upto f k) := fun n hn => by
  obtain ⟨i, hi, rfl⟩ := List.mem_map.1 hn
  exact h i (List.mem_range.1 hi)
theorem eq_upto (l : List Int) : l = upto (at0 l) l.length := by
  apply List.ext_getElem
  · simp [upto]
  · intro i h1 h2; simp [upto, at0, h1]
theorem eq_of_at {l m : List Int} (hl : l.length = m.length) (h : ∀ i, i < l.length → at0 l i = at0 m i) : l = m := by
  rw [eq_upto l, eq_upto m, ← hl]
  exact upto_congr h

/-- f 0, g 0, f 1, g 1, .. -/
def flat (f g : Nat → Int) (n : Nat) : List Int := (List.range n).flatMap fun i => [f i, g i]
theorem flat_succ (f g : Nat → Int) (n : Nat) : flat f g (n + 1) = flat f g n ++ [f n, g n] := by simp [flat, List.range_succ]
theorem flat_length (f g : Nat → Int) (n : Nat) : (flat f g n).length = 2 * n := by
  induction n with
  | zero => rfl
  | succ n ih => rw [flat_succ, List.length_append, ih]; simp; omega
theorem at0_left {l m : List Int} {i : Nat} (h : i < l.length) : at0 (l ++ m) i = at0 l i := by simp [at0, List.getElem?_append_left h]
theorem at0_right {l m : List Int} (i : Nat) : at0 (l ++ m) (l.length + i) = at0 m i := by simp [at0, List.getElem?_append_right]
theorem flat_at (f g : Nat → Int) (n i : Nat) (h : i < n) : at0 (flat f g n) (2 * i) = f i ∧ at0 (flat f g n) (2 * i + 1) = g i := by
  induction n with
  | zero => omega
  | succ n ih =>
    rw [flat_succ]
    by_cases hi : i < n
    · rw [at0_left (by rw [flat_length]; omega), at0_left (by rw [flat_length]; omega)]
      exact ih hi
    · obtain rfl : i = n := by omega
      have e1 := at0_right (l := flat f g i) (m := [f i, g i]) 0
      have e2 := at0_right (l := flat f g i) (m := [f i, g i]) 1
      rw [flat_length] at e1 e2
      exact ⟨e1, e2⟩
theorem flat_congr {f g f' g' : Nat → Int} {n : Nat} (h : ∀ i, i < n → f i = f' i ∧ g i = g' i) : flat f g n = flat f' g' n := by
  induction n with
  | zero => rfl
  | succ n ih => rw [flat_succ, flat_succ, ih fun i hi => h i (by omega), (h n (by omega)).1, (h n (by omega)).2]
theorem flat_in {b : Int} {f g : Nat → Int} {n : Nat} (h : ∀ i, i < n → (-b ≤ f i ∧ f i ≤ b) ∧ (-b ≤ g i ∧ g i ≤ b)) : In b (flat f g n) := by
  induction n with
  | zero => intro x hx; cases hx
  | succ n ih =>
    rw [flat_succ]
    refine (ih fun i hi => h i (by omega)).append fun x hx => ?_
    have := h n (by omega)
    simp at hx
    rcases hx with rfl | rfl
    · exact this.1
    · exact this.2
theorem flat_of {l : List Int} {n : Nat} (h : l.length = 2 * n) : flat (fun i => at0 l (2 * i)) (fun i => at0 l (2 * i + 1)) n = l := by
  refine eq_of_at (by rw [flat_length, h]) fun i hi => ?_
  rw [flat_length] at hi
  have hk := flat_at (fun i => at0 l (2 * i)) (fun i => at0 l (2 * i + 1)) n (i / 2) (by omega)
  rcases Nat.mod_two_eq_zero_or_one i with hm | hm
  · have e : 2 * (i / 2) = i := by omega
    rw [e] at hk; exact hk.1
  · have e : 2 * (i / 2) + 1 = i := by omega
    rw [e] at hk; exact hk.2

/-- Of each two, one behind the other: the sum's half, and the difference. -/
def sumAt (l : List Int) (i : Nat) : Int := (at0 l (2 * i) + at0 l (2 * i + 1)) / 2
def difAt (l : List Int) (i : Nat) : Int := at0 l (2 * i) - at0 l (2 * i + 1)
def sums (l : List Int) : List Int := upto (sumAt l) (l.length / 2)
def difs (l : List Int) : List Int := upto (difAt l) (l.length / 2)
/-- So many levels forward. -/
def tree : Nat → List Int → List Int
  | 0, l => l
  | k + 1, l => tree k (sums l) ++ difs l
/-- Of a half and a difference the two. -/
def oneAt (s d : List Int) (i : Nat) : Int := at0 s i + (at0 d i + 1) / 2
def twoAt (s d : List Int) (i : Nat) : Int := at0 s i + (at0 d i + 1) / 2 - at0 d i
def joins (s d : List Int) : List Int := flat (oneAt s d) (twoAt s d) s.length
/-- Is a number beyond a bound? -/
def out (b n : Int) : Bool := decide (n < -b) || decide (b < n)
/-- So many levels back; none where a number on the way is beyond 4000. -/
def back : Nat → List Int → Option (List Int)
  | 0, l => some l
  | k + 1, l => match back k (l.take (l.length / 2)) with
    | none => none
    | some s => if (joins s (l.drop (l.length / 2))).any (out 4000) = true then none else some (joins s (l.drop (l.length / 2)))

theorem out_no {b n : Int} (h : out b n = false) : -b ≤ n ∧ n ≤ b := by simp [out] at h; omega
theorem out_false {b n : Int} (h : -b ≤ n ∧ n ≤ b) : out b n = false := by simp [out]; omega
theorem in_of_any {b : Int} {l : List Int} (h : l.any (out b) = false) : In b l := fun n hn => out_no (by simpa using List.any_eq_false.1 h n hn)
theorem any_of_in {b : Int} {l : List Int} (h : In b l) : l.any (out b) = false := by
  apply List.any_eq_false.2
  intro n hn
  simpa using out_false (h n hn)

theorem sums_length (l : List Int) : (sums l).length = l.length / 2 := upto_length _ _
theorem difs_length (l : List Int) : (difs l).length = l.length / 2 := upto_length _ _
theorem joins_length (s d : List Int) : (joins s d).length = 2 * s.length := flat_length _ _ _
theorem sums_in {l : List Int} {b : Int} (hb : 0 ≤ b) (h : In b l) : In b (sums l) := upto_in fun i _ => by
  have h1 := h.at hb (2 * i)
  have h2 := h.at hb (2 * i + 1)
  unfold sumAt; omega
theorem difs_in {l : List Int} {b : Int} (hb : 0 ≤ b) (h : In b l) : In (2 * b) (difs l) := upto_in fun i _ => by
  have h1 := h.at hb (2 * i)
  have h2 := h.at hb (2 * i + 1)
  unfold difAt; omega

theorem half_dvd {k n : Nat} (h : 2 ^ (k + 1) ∣ n) : 2 ^ k ∣ n / 2 ∧ n = 2 * (n / 2) := by
  obtain ⟨q, rfl⟩ := h
  have e : 2 ^ (k + 1) * q = 2 * (2 ^ k * q) := by rw [Nat.pow_succ]; simp [Nat.mul_comm, Nat.mul_left_comm]
  rw [e, Nat.mul_div_cancel_left _ (by omega)]
  exact ⟨⟨q, rfl⟩, rfl⟩

theorem tree_length (k : Nat) (l : List Int) (h : 2 ^ k ∣ l.length) : (tree k l).length = l.length := by
  induction k generalizing l with
  | zero => rfl
  | succ k ih =>
    have hh := half_dvd h
    rw [tree, List.length_append, ih _ (by rw [sums_length]; exact hh.1), sums_length, difs_length]
    omega
theorem tree_in (k : Nat) (l : List Int) (h : In 1000 l) : In 2000 (tree k l) := by
  induction k generalizing l with
  | zero => exact h.mono (by omega)
  | succ k ih => exact (ih _ (sums_in (by omega) h)).append (difs_in (by omega) h)

theorem joins_back {l : List Int} (h : l.length = 2 * (l.length / 2)) : joins (sums l) (difs l) = l := by
  have e : joins (sums l) (difs l) = flat (fun i => at0 l (2 * i)) (fun i => at0 l (2 * i + 1)) (l.length / 2) := by
    unfold joins
    rw [sums_length]
    refine flat_congr fun i hi => ?_
    unfold oneAt twoAt sums difs
    rw [upto_at _ hi, upto_at _ hi]
    unfold sumAt difAt
    omega
  rw [e, flat_of h]
theorem sums_joins {s d : List Int} : sums (joins s d) = s := by
  unfold sums
  rw [joins_length, Nat.mul_div_cancel_left _ (by omega : 0 < 2)]
  refine (upto_congr fun i hi => ?_).trans (eq_upto s).symm
  have := flat_at (oneAt s d) (twoAt s d) s.length i hi
  unfold sumAt joins
  rw [this.1, this.2]
  unfold oneAt twoAt
  omega
theorem difs_joins {s d : List Int} (h : s.length = d.length) : difs (joins s d) = d := by
  unfold difs
  rw [joins_length, Nat.mul_div_cancel_left _ (by omega : 0 < 2), h]
  refine (upto_congr fun i hi => ?_).trans (eq_upto d).symm
  have := flat_at (oneAt s d) (twoAt s d) s.length i (by omega)
  unfold difAt joins
  rw [this.1, this.2]
  unfold oneAt twoAt
  omega

theorem back_length (k : Nat) (l x : List Int) (h : 2 ^ k ∣ l.length) (hx : back k l = some x) : x.length = l.length := by
  induction k generalizing l x with
  | zero => cases hx; rfl
  | succ k ih =>
    have hh := half_dvd h
    unfold back at hx
    have hlen : (l.take (l.length / 2)).length = l.length / 2 := by rw [List.length_take]; omega
    cases hs : back k (l.take (l.length / 2)) with
    | none => rw [hs] at hx; cases hx
    | some s =>
      rw [hs] at hx
      dsimp only at hx
      split at hx
      · cases hx
      · cases hx
        rw [joins_length, ih _ s (by rw [hlen]; exact hh.1) hs, hlen]
        omega

/-- Any come back. -/
theorem back_tree (k : Nat) (l : List Int) (h : 2 ^ k ∣ l.length) (hl : In 1000 l) : back k (tree k l) = some l := by
  induction k generalizing l with
  | zero => rfl
  | succ k ih =>
    have hh := half_dvd h
    have hd : 2 ^ k ∣ (sums l).length := by rw [sums_length]; exact hh.1
    have ht : (tree k (sums l)).length = l.length / 2 := by rw [tree_length k _ hd, sums_length]
    have hlen : (tree (k + 1) l).length = l.length := tree_length _ _ h
    unfold back
    rw [hlen]
    have e1 : (tree (k + 1) l).take (l.length / 2) = tree k (sums l) := by
      show (tree k (sums l) ++ difs l).take _ = _
      rw [← ht, List.take_left]
    have e2 : (tree (k + 1) l).drop (l.length / 2) = difs l := by
      show (tree k (sums l) ++ difs l).drop _ = _
      rw [← ht, List.drop_left]
    rw [e1, e2, ih _ hd (sums_in (by omega) hl)]
    dsimp only
    rw [joins_back hh.2, if_neg (by rw [any_of_in (hl.mono (by omega))]; simp)]

/-- What came back, forward, is what it was. -/
theorem tree_back (k : Nat) (l x : List Int) (h : 2 ^ k ∣ l.length) (hx : back k l = some x) : tree k x = l := by
  induction k generalizing l x with
  | zero => cases hx; rfl
  | succ k ih =>
    have hh := half_dvd h
    have hlen : (l.take (l.length / 2)).length = l.length / 2 := by rw [List.length_take]; omega
    unfold back at hx
    cases hs : back k (l.take (l.length / 2)) with
    | none => rw [hs] at hx; cases hx
    | some s =>
      rw [hs] at hx
      dsimp only at hx
      split at hx
      · cases hx
      · cases hx
        have hsl := back_length k _ s (by rw [hlen]; exact hh.1) hs
        have hdl : (l.drop (l.length / 2)).length = l.length / 2 := by rw [List.length_drop]; omega
        rw [tree, sums_joins, difs_joins (by rw [hsl, hlen, hdl]), ih _ s (by rw [hlen]; exact hh.1) hs, List.take_append_drop]

/-- What is all alike has no differences. -/
theorem sums_alike (n : Nat) (c : Int) : sums (List.replicate (2 * n) c) = List.replicate n c := by
  refine eq_of_at (by rw [sums_length]; simp) fun i hi => ?_
  rw [sums_length, List.length_replicate, Nat.mul_div_cancel_left _ (by omega : 0 < 2)] at hi
  unfold sums
  rw [upto_at _ (by simp; omega)]
  unfold sumAt at0
  simp [hi, show 2 * i < 2 * n by omega, show 2 * i + 1 < 2 * n by omega]
  omega
theorem difs_alike (n : Nat) (c : Int) : difs (List.replicate (2 * n) c) = List.replicate n 0 := by
  refine eq_of_at (by rw [difs_length]; simp) fun i hi => ?_
  rw [difs_length, List.length_replicate, Nat.mul_div_cancel_left _ (by omega : 0 < 2)] at hi
  unfold difs
  rw [upto_at _ (by simp; omega)]
  unfold difAt at0
  simp [hi, show 2 * i < 2 * n by omega, show 2 * i + 1 < 2 * n by omega]
theorem tree_alike (k n : Nat) (c : Int) (h : 2 ^ k ∣ n) : tree k (List.replicate n c) = List.replicate (n / 2 ^ k) c ++ List.replicate (n - n / 2 ^ k) 0 := by
  induction k generalizing n with
  | zero => simp [tree]
  | succ k ih =>
    have hh := half_dvd h
    have e : n / 2 ^ (k + 1) = n / 2 / 2 ^ k := by rw [Nat.pow_succ, Nat.mul_comm, Nat.div_div_eq_div_mul]
    rw [tree]
    have h1 : sums (List.replicate n c) = List.replicate (n / 2) c := by rw [hh.2, sums_alike, Nat.mul_div_cancel_left _ (by omega : 0 < 2)]
    have h2 : difs (List.replicate n c) = List.replicate (n / 2) 0 := by rw [hh.2, difs_alike, Nat.mul_div_cancel_left _ (by omega : 0 < 2)]
    rw [h1, h2, ih _ hh.1, List.append_assoc, List.replicate_append_replicate, e]
    have hle : n / 2 / 2 ^ k ≤ n / 2 := Nat.div_le_self _ _
    congr 2
    omega

end Go.Proofs.YtjojeifoddonnakDoor.Tre

/-
  The numbers of chapter 4, as lists: over the edges, and back. No program here.
-/
namespace Go.Proofs.YtjojeifoddonnakDoor.Lap
open Go.Proofs.YtjojeifoddonnakDoor.Tre
set_option linter.unusedVariables false

/-- The numbers at even places, and at odd ones. -/
def ev (l : List Int) : List Int := upto (fun i => at0 l (2 * i)) (l.length / 2)
def od (l : List Int) : List Int := upto (fun i => at0 l (2 * i + 1)) (l.length / 2)
/-- What an odd one is held to be, by the even ones beside it; the fourth part of the differences beside an even one. -/
def gs (e : List Int) (i : Nat) : Int := (at0 e i + at0 e (min (i + 1) (e.length - 1))) / 2
def lf (d : List Int) (i : Nat) : Int := (at0 d (i - 1) + at0 d i + 2) / 4
def difF (e d : List Int) (i : Nat) : Int := at0 d i - gs e i
def styF (e d : List Int) (i : Nat) : Int := at0 e i + lf d i
def evF (s d : List Int) (i : Nat) : Int := at0 s i - lf d i
def odF (e d : List Int) (i : Nat) : Int := at0 d i + gs e i
def dif (l : List Int) : List Int := upto (difF (ev l) (od l)) (l.length / 2)
def sty (l : List Int) : List Int := upto (styF (ev l) (dif l)) (l.length / 2)
/-- Over the edges. -/
def lap (l : List Int) : List Int := sty l ++ dif l
def fr (l : List Int) : List Int := l.take (l.length / 2)
def bk (l : List Int) : List Int := l.drop (l.length / 2)
def evs (l : List Int) : List Int := upto (evF (fr l) (bk l)) (l.length / 2)
def ods (l : List Int) : List Int := upto (odF (evs l) (bk l)) (l.length / 2)
/-- .. and back. -/
def unlap (l : List Int) : List Int := flat (at0 (evs l)) (at0 (ods l)) (l.length / 2)

theorem ev_length (l : List Int) : (ev l).length = l.length / 2 := upto_length _ _
theorem od_length (l : List Int) : (od l).length = l.length / 2 := upto_length _ _
theorem dif_length (l : List Int) : (dif l).length = l.length / 2 := upto_length _ _
theorem sty_length (l : List Int) : (sty l).length = l.length / 2 := upto_length _ _
theorem evs_length (l : List Int) : (evs l).length = l.length / 2 := upto_length _ _
theorem ods_length (l : List Int) : (ods l).length = l.length / 2 := upto_length _ _
theorem fr_length (l : List Int) : (fr l).length = l.length / 2 := by unfold fr; rw [List.length_take]; omega
theorem bk_length {l : List Int} (h : l.length = 2 * (l.length / 2)) : (bk l).length = l.length / 2 := by unfold bk; rw [List.length_drop]; omega
theorem lap_length {l : List Int} (h : l.length = 2 * (l.length / 2)) : (lap l).length = l.length := by unfold lap; rw [List.length_append, sty_length, dif_length]; omega
theorem unlap_length {l : List Int} (h : l.length = 2 * (l.length / 2)) : (unlap l).length = l.length := by unfold unlap; rw [flat_length]; omega

theorem ev_in {b : Int} (hb : 0 ≤ b) {l : List Int} (h : In b l) : In b (ev l) := upto_in fun i _ => h.at hb _
theorem od_in {b : Int} (hb : 0 ≤ b) {l : List Int} (h : In b l) : In b (od l) := upto_in fun i _ => h.at hb _
theorem gs_in {b : Int} (hb : 0 ≤ b) {e : List Int} (h : In b e) (i : Nat) : -b ≤ gs e i ∧ gs e i ≤ b := by
  have h1 := h.at hb i
  have h2 := h.at hb (min (i + 1) (e.length - 1))
  unfold gs; omega
theorem lf_in {b : Int} (hb : 0 ≤ b) {d : List Int} (h : In (2 * b) d) (i : Nat) : -b ≤ lf d i ∧ lf d i ≤ b := by
  have h1 := h.at (by omega) (i - 1)
  have h2 := h.at (by omega) i
  unfold lf; omega
theorem dif_in {b : Int} (hb : 0 ≤ b) {l : List Int} (h : In b l) : In (2 * b) (dif l) := upto_in fun i _ => by
  have h1 := gs_in hb (ev_in hb h) i
  have h2 := (od_in hb h).at hb i
  unfold difF; omega
theorem sty_in {b : Int} (hb : 0 ≤ b) {l : List Int} (h : In b l) : In (2 * b) (sty l) := upto_in fun i _ => by
  have h1 := lf_in hb (dif_in hb h) i
  have h2 := (ev_in hb h).at hb i
  unfold styF; omega
theorem lap_in {b : Int} (hb : 0 ≤ b) {l : List Int} (h : In b l) : In (2 * b) (lap l) := (sty_in hb h).append (dif_in hb h)
theorem evs_in {b : Int} (hb : 0 ≤ b) {l : List Int} (h : In (2 * b) l) : In (3 * b) (evs l) := upto_in fun i _ => by
  have h1 := lf_in hb (h.drop (l.length / 2)) i
  have h2 := (h.take (l.length / 2)).at (by omega) i
  unfold evF fr bk; omega

/-- The first j as by f, the rest as by g. -/
def mid (f g : Nat → Int) (n j : Nat) : List Int := upto (fun i => if i < j then f i else g i) n
theorem mid_length (f g : Nat → Int) (n j : Nat) : (mid f g n j).length = n := upto_length _ _
theorem mid_zero (f g : Nat → Int) (n : Nat) : mid f g n 0 = upto g n := upto_congr fun i _ => by simp
theorem mid_all (f g : Nat → Int) (n : Nat) : mid f g n n = upto f n := upto_congr fun i hi => by simp [hi]
theorem mid_at (f g : Nat → Int) {n j : Nat} (h : j < n) : at0 (mid f g n j) j = g j := by unfold mid; rw [upto_at _ h]; simp
theorem mid_set (f g : Nat → Int) {n j : Nat} (h : j < n) : (mid f g n j).set j (f j) = mid f g n (j + 1) := by
  refine eq_of_at (by rw [List.length_set, mid_length, mid_length]) fun i hi => ?_
  rw [List.length_set, mid_length] at hi
  by_cases e : j = i
  · subst e
    have : at0 ((mid f g n j).set j (f j)) j = f j := by unfold at0; rw [List.getElem?_set_self (by rw [mid_length]; exact h)]; rfl
    rw [this]; unfold mid; rw [upto_at _ h]; simp
  · have : at0 ((mid f g n j).set j (f j)) i = at0 (mid f g n j) i := by unfold at0; rw [List.getElem?_set_ne e]
    rw [this]; unfold mid; rw [upto_at _ hi, upto_at _ hi]
    by_cases h3 : i < j
    · rw [if_pos h3, if_pos (by omega)]
    · rw [if_neg h3, if_neg (by omega)]

theorem fr_lap (l : List Int) (h : l.length = 2 * (l.length / 2)) : fr (lap l) = sty l := by
  unfold fr; rw [lap_length h, ← sty_length l]; unfold lap; rw [List.take_left]
theorem bk_lap (l : List Int) (h : l.length = 2 * (l.length / 2)) : bk (lap l) = dif l := by
  unfold bk; rw [lap_length h, ← sty_length l]; unfold lap; rw [List.drop_left]
theorem evs_lap (l : List Int) (h : l.length = 2 * (l.length / 2)) : evs (lap l) = ev l := by
  unfold evs
  rw [fr_lap l h, bk_lap l h, lap_length h, eq_upto (ev l), ev_length]
  refine upto_congr fun i hi => ?_
  unfold evF sty
  rw [upto_at _ hi]
  unfold styF
  omega
theorem ods_lap (l : List Int) (h : l.length = 2 * (l.length / 2)) : ods (lap l) = od l := by
  unfold ods
  rw [evs_lap l h, bk_lap l h, lap_length h, eq_upto (od l), od_length]
  refine upto_congr fun i hi => ?_
  unfold odF dif
  rw [upto_at _ hi]
  unfold difF
  omega
/-- Any come back. -/
theorem unlap_lap {l : List Int} (h : l.length = 2 * (l.length / 2)) : unlap (lap l) = l := by
  unfold unlap
  rw [evs_lap l h, ods_lap l h, lap_length h]
  refine Eq.trans (flat_congr fun i hi => ?_) (flat_of h)
  unfold ev od
  rw [upto_at _ hi, upto_at _ hi]
  exact ⟨rfl, rfl⟩

theorem half_twice (n : Nat) : 2 * n / 2 = n := Nat.mul_div_cancel_left _ (by omega)
theorem ev_unlap (m : List Int) : ev (unlap m) = evs m := by
  unfold ev
  have e : (unlap m).length / 2 = m.length / 2 := by unfold unlap; rw [flat_length, half_twice]
  rw [e, eq_upto (evs m), evs_length]
  refine upto_congr fun i hi => ?_
  unfold unlap
  exact (flat_at _ _ _ _ hi).1
theorem od_unlap (m : List Int) : od (unlap m) = ods m := by
  unfold od
  have e : (unlap m).length / 2 = m.length / 2 := by unfold unlap; rw [flat_length, half_twice]
  rw [e, eq_upto (ods m), ods_length]
  refine upto_congr fun i hi => ?_
  unfold unlap
  exact (flat_at _ _ _ _ hi).2
theorem dif_unlap {m : List Int} (h : m.length = 2 * (m.length / 2)) : dif (unlap m) = bk m := by
  unfold dif
  rw [ev_unlap, od_unlap, unlap_length h, eq_upto (bk m), bk_length h]
  refine upto_congr fun i hi => ?_
  unfold difF ods
  rw [upto_at _ hi]
  unfold odF
  omega
theorem sty_unlap {m : List Int} (h : m.length = 2 * (m.length / 2)) : sty (unlap m) = fr m := by
  unfold sty
  rw [ev_unlap, dif_unlap h, unlap_length h, eq_upto (fr m), fr_length]
  refine upto_congr fun i hi => ?_
  unfold styF evs
  rw [upto_at _ hi]
  unfold evF
  omega
/-- What came back, forward, is what it was. -/
theorem lap_unlap {m : List Int} (h : m.length = 2 * (m.length / 2)) : lap (unlap m) = m := by
  unfold lap
  rw [sty_unlap h, dif_unlap h]
  exact List.take_append_drop _ _

/-- What is flat stays so. -/
theorem at0_rep {n i : Nat} {c : Int} (h : i < n) : at0 (List.replicate n c) i = c := by simp [at0, h]
theorem ev_flat (n : Nat) (c : Int) : ev (List.replicate (2 * n) c) = List.replicate n c := by
  refine eq_of_at (by rw [ev_length, List.length_replicate, List.length_replicate, half_twice]) fun i hi => ?_
  rw [ev_length, List.length_replicate, half_twice] at hi
  unfold ev
  rw [List.length_replicate, half_twice, upto_at _ hi, at0_rep hi, at0_rep (by omega)]
theorem dif_flat (n : Nat) (c : Int) : dif (List.replicate (2 * n) c) = List.replicate n 0 := by
  refine eq_of_at (by rw [dif_length, List.length_replicate, List.length_replicate, half_twice]) fun i hi => ?_
  rw [dif_length, List.length_replicate, half_twice] at hi
  unfold dif
  rw [ev_flat, List.length_replicate, half_twice, upto_at _ hi, at0_rep hi]
  unfold difF gs od
  rw [List.length_replicate, List.length_replicate, half_twice, upto_at _ hi, at0_rep (by omega), at0_rep hi, at0_rep (by omega)]
  omega
theorem sty_flat (n : Nat) (c : Int) : sty (List.replicate (2 * n) c) = List.replicate n c := by
  refine eq_of_at (by rw [sty_length, List.length_replicate, List.length_replicate, half_twice]) fun i hi => ?_
  rw [sty_length, List.length_replicate, half_twice] at hi
  unfold sty
  rw [ev_flat, dif_flat, List.length_replicate, half_twice, upto_at _ hi, at0_rep hi]
  unfold styF lf
  rw [at0_rep hi, at0_rep hi, at0_rep (by omega)]
  omega
theorem lap_flat (n : Nat) (c : Int) : lap (List.replicate (2 * n) c) = List.replicate n c ++ List.replicate n 0 := by
  unfold lap; rw [sty_flat, dif_flat]

/-- Of what rises evenly only the last difference is not 0. -/
def rise (a b : Int) (k : Nat) : List Int := upto (fun i => a + i * b) k
theorem rise_dif (a b : Int) (n i : Nat) (hi : i < n) : at0 (lap (rise a b (2 * n))) (n + i) = if i + 1 < n then 0 else b := by
  have hl : (rise a b (2 * n)).length = 2 * n := upto_length _ _
  have hs : (sty (rise a b (2 * n))).length = n := by rw [sty_length, hl, half_twice]
  have e : at0 (lap (rise a b (2 * n))) (n + i) = at0 (dif (rise a b (2 * n))) i := by
    have := at0_right (l := sty (rise a b (2 * n))) (m := dif (rise a b (2 * n))) i
    rw [hs] at this; exact this
  rw [e]
  unfold dif
  rw [hl, half_twice, upto_at _ hi]
  have he : ∀ j, j < n → at0 (ev (rise a b (2 * n))) j = a + (2 * j : Nat) * b := by
    intro j hj
    unfold ev
    rw [hl, half_twice, upto_at _ hj]
    unfold rise
    rw [upto_at _ (by omega)]
  have ho : at0 (od (rise a b (2 * n))) i = a + (2 * i + 1 : Nat) * b := by
    unfold od
    rw [hl, half_twice, upto_at _ hi]
    unfold rise
    rw [upto_at _ (by omega)]
  unfold difF gs
  rw [ho, he i hi, ev_length, hl, half_twice]
  have x1 : ((2 * i : Nat) : Int) * b = 2 * ((i : Int) * b) := by rw [Int.natCast_mul, Int.mul_assoc]; rfl
  have x2 : ((2 * i + 1 : Nat) : Int) * b = 2 * ((i : Int) * b) + b := by rw [Int.natCast_add, Int.add_mul, x1]; simp
  by_cases h : i + 1 < n
  · rw [if_pos h, Nat.min_eq_left (by omega), he _ h, x1, x2]
    have x3 : ((2 * (i + 1) : Nat) : Int) * b = 2 * ((i : Int) * b) + 2 * b := by rw [Int.natCast_mul, Int.natCast_add, Int.mul_assoc, Int.add_mul, Int.mul_add]; simp
    rw [x3]
    generalize (i : Int) * b = P
    omega
  · rw [if_neg h, Nat.min_eq_right (by omega), he _ (by omega)]
    have : n - 1 = i := by omega
    rw [this, x1, x2]
    generalize (i : Int) * b = P
    omega

end Go.Proofs.YtjojeifoddonnakDoor.Lap

/-
  The numbers of chapter 5: how many rows of so many numbers and pulses there are. No program here.
-/
namespace Go.Proofs.YtjojeifoddonnakDoor.Cnt
open Go.Proofs.YtjojeifoddonnakDoor.Tre Go.Proofs.YtjojeifoddonnakDoor.Lap
set_option linter.unusedVariables false

/-- Of one pulse more. -/
def more (f : Nat → Int) : Nat → Int
  | 0 => 0
  | n + 1 => more f n + f (n + 1) + f n
/-- How many rows there are, of k pulses and n numbers. -/
def V : Nat → Nat → Int
  | 0, _ => 1
  | k + 1, n => more (V k) n
/-- .. of n from 0 to 6. -/
def cts (k : Nat) : List Int := upto (V k) 7

theorem V_zero (n : Nat) : V 0 n = 1 := rfl
theorem V_none (k : Nat) : V (k + 1) 0 = 0 := rfl
theorem V_sum (k n : Nat) : V (k + 1) (n + 1) = V (k + 1) n + V k (n + 1) + V k n := rfl
theorem V_in : ∀ k n : Nat, k < 9 → n < 7 → 0 ≤ V k n ∧ V k n ≤ 20256 := by
  have h : ∀ k : Nat, k < 9 → ∀ n : Nat, n < 7 → 0 ≤ V k n ∧ V k n ≤ 20256 := by decide +kernel
  exact fun k n hk hn => h k hk n hn
theorem V_turns : ∀ k n : Nat, k < 7 → n < 7 → (k : Int) * V k n = (n : Int) * V n k := by
  have h : ∀ k : Nat, k < 7 → ∀ n : Nat, n < 7 → (k : Int) * V k n = (n : Int) * V n k := by decide +kernel
  exact fun k n hk hn => h k hk n hn
theorem V_one : ∀ n : Nat, n < 7 → V 1 n = 2 * (n : Int) := by decide +kernel
theorem V_single : ∀ k : Nat, k < 9 → V k 1 = if k = 0 then 1 else 2 := by decide +kernel
theorem V_fact : V 2 3 = 18 := by decide +kernel

theorem cts_length (k : Nat) : (cts k).length = 7 := upto_length _ _
theorem cts_at (k : Nat) {n : Nat} (h : n < 7) : at0 (cts k) n = V k n := upto_at _ h
theorem cts_zero : cts 0 = List.replicate 7 1 := rfl
/-- The first is 0 already. -/
theorem mid_one (k : Nat) : mid (V (k + 1)) (fun _ => 0) 7 1 = List.replicate 7 0 := by
  refine eq_of_at (by rw [mid_length]; rfl) fun i hi => ?_
  rw [mid_length] at hi
  unfold mid
  rw [upto_at _ hi]
  have hr : at0 (List.replicate 7 0) i = 0 := by unfold at0; rw [List.getElem?_replicate, if_pos hi]; rfl
  rw [hr]
  by_cases h : i < 1
  · obtain rfl : i = 0 := by omega
    rfl
  · rw [if_neg h]
theorem mid_lt (f g : Nat → Int) {n j i : Nat} (h : i < n) (hj : i < j) : at0 (mid f g n j) i = f i := by unfold mid; rw [upto_at _ h, if_pos hj]

/-- The least number of bits. -/
def Least (m : Int) (b : Nat) : Prop := m ≤ 2 ^ b ∧ ∀ i, i < b → (2 : Int) ^ i < m
theorem Least.one {m : Int} {b c : Nat} (h : Least m b) (k : Least m c) : b = c := by
  rcases Nat.lt_trichotomy b c with e | e | e
  · have := k.2 b e; have := h.1; omega
  · exact e
  · have := h.2 c e; have := k.1; omega
theorem Least.le {m : Int} {b : Nat} (h : Least m b) (hm : m ≤ 20256) : b ≤ 15 := by
  rcases Nat.lt_or_ge 15 b with e | e
  · have := h.2 15 e
    omega
  · exact e

/-- As the document's own answer goes: of one number more, whatever that is. -/
def sumF (f : Nat → Int) : Nat → Int
  | 0 => 0
  | j + 1 => sumF f j + f j
theorem V_more (j n : Nat) : V j (n + 1) = V j n + 2 * sumF (fun i => V i n) j := by
  induction j with
  | zero => rfl
  | succ j ih => rw [V_sum, ih]; simp only [sumF]; omega

theorem pow_in : ∀ j : Nat, j < 16 → (1 : Int) ≤ 2 ^ j ∧ (2 : Int) ^ j ≤ 32768 := by decide +kernel

end Go.Proofs.YtjojeifoddonnakDoor.Cnt

/-
  A slice of slices of integers in memory, for all walks of this seat.
-/
namespace Go.Proofs.YtjojeifoddonnakDoor
open Go.RowKit
set_option linter.unusedVariables false

/-- The row at a place (none behind the last). -/
def rowAt (ll : List (List Int)) (r : Nat) : List Int := ll.getD r []
theorem rowAt_get {ll : List (List Int)} {r : Nat} (h : r < ll.length) : rowAt ll r = ll[r] := by simp [rowAt, h]

/-- One cell holds a slice of these integers. -/
def Cel (w : World) (p : Addr) (l : List Int) : Prop :=
  ∃ A C, w.cell? p = some (.slice A l.length C) ∧ (A = none → C = 0) ∧ l.length ≤ C ∧ C ≤ 9223372036854775807 ∧ Row w A l

/-- The rows lie where a slice's address says. -/
def Rws (w : World) (a : Option Addr) (ll : List (List Int)) : Prop :=
  ll = [] ∨ ∃ b off, a = some ⟨b, off, none⟩ ∧ b < w.heap.size ∧ ∀ r, r < ll.length → Cel w ⟨b, off + r, none⟩ (rowAt ll r)

theorem Cel.below {w w' : World} {p : Addr} {l : List Int} (h : Cel w p l) (hp : p.block < w.heap.size) (hb : Below w.heap.size w w') : Cel w' p l := by
  obtain ⟨A, C, h1, h2, h3, h4, h5⟩ := h
  exact ⟨A, C, (hb.cell hp).trans h1, h2, h3, h4, h5.below hb⟩
theorem Rws.below {w w' : World} {a : Option Addr} {ll : List (List Int)} (h : Rws w a ll) (hb : Below w.heap.size w w') : Rws w' a ll := by
  rcases h with h | ⟨b, off, ha, hlt, hc⟩
  · exact Or.inl h
  · exact Or.inr ⟨b, off, ha, Nat.lt_of_lt_of_le hlt hb.size, fun r hr => (hc r hr).below hlt hb⟩
theorem Rws.at {w : World} {a : Option Addr} {ll : List (List Int)} (h : Rws w a ll) {k : Nat} (hk : k < ll.length) :
    ∃ b off, a = some ⟨b, off, none⟩ ∧ b < w.heap.size ∧ ∀ r, r < ll.length → Cel w ⟨b, off + r, none⟩ (rowAt ll r) := by
  rcases h with h | h
  · subst h; exact absurd hk (by simp)
  · exact h

end Go.Proofs.YtjojeifoddonnakDoor

/-
  The numbers of chapter 9, as lists: sizes, what they have in all, numbers cut apart, and joined. No program here.
-/
namespace Go.Proofs.YtjojeifoddonnakDoor.Bnd
open Go.Proofs.YtjojeifoddonnakDoor.Tre
set_option linter.unusedVariables false

/-- No size. -/
def bad (n : Int) : Bool := decide (n < 1) || decide (6 < n)
/-- How many numbers the first j bands have. -/
def pre (s : List Int) : Nat → Nat
  | 0 => 0
  | j + 1 => pre s j + (at0 s j).toNat
def total (s : List Int) : Nat := pre s s.length
/-- The fault of sizes: 0 where there is none. -/
def bf (s : List Int) : Int := if s.length = 0 then 5 else if 8 < s.length then 4 else if s.any bad = true then 1 else if 32 < total s then 4 else 0
/-- Band j, and all. -/
def cutAt (l s : List Int) (j : Nat) : List Int := (l.drop (pre s j)).take (at0 s j).toNat
def cuts (l s : List Int) : List (List Int) := (List.range s.length).map (cutAt l s)
/-- As many bands, each of its size. -/
def Shaped (ll : List (List Int)) (s : List Int) : Prop := ll.length = s.length ∧ ∀ i, i < s.length → ((rowAt ll i).length : Int) = at0 s i
/-- All sizes are such. -/
def Sizes (s : List Int) : Prop := ∀ i, i < s.length → 1 ≤ at0 s i ∧ at0 s i ≤ 6

theorem bad_no {n : Int} (h : bad n = false) : 1 ≤ n ∧ n ≤ 6 := by simp [bad] at h; omega
theorem at_get {s : List Int} {i : Nat} (h : i < s.length) : at0 s i = s[i] := by simp [at0, h]
theorem bf_ok {s : List Int} (h : bf s = 0) : 0 < s.length ∧ s.length ≤ 8 ∧ Sizes s ∧ total s ≤ 32 := by
  unfold bf at h
  split at h
  · omega
  · split at h
    · omega
    · split at h
      · omega
      · split at h
        · omega
        · rename_i h1 h2 h3 h4
          refine ⟨by omega, by omega, fun i hi => ?_, by omega⟩
          rw [at_get hi]
          have h5 : s.any bad = false := by simpa using h3
          exact bad_no (by simpa using List.any_eq_false.1 h5 _ (List.getElem_mem hi))
theorem any_bad_no {s : List Int} (h : Sizes s) : s.any bad = false := by
  apply List.any_eq_false.2
  intro n hn
  obtain ⟨i, hi, rfl⟩ := List.getElem_of_mem hn
  have := h i hi
  rw [at_get hi] at this
  simp [bad]; omega
theorem bf_of {s : List Int} (h0 : 0 < s.length) (h8 : s.length ≤ 8) (h1 : Sizes s) (h2 : total s ≤ 32) : bf s = 0 := by
  unfold bf
  rw [if_neg (by omega), if_neg (by omega), if_neg (by rw [any_bad_no h1]; simp), if_neg (by omega)]

theorem pre_le (s : List Int) {i j : Nat} (h : i ≤ j) : pre s i ≤ pre s j := by
  induction j with
  | zero => obtain rfl : i = 0 := by omega
            exact Nat.le_refl _
  | succ j ih =>
    by_cases e : i = j + 1
    · rw [e]; exact Nat.le_refl _
    · have := ih (by omega)
      simp only [pre]; omega
theorem pre_succ (s : List Int) (j : Nat) : pre s (j + 1) = pre s j + (at0 s j).toNat := rfl
theorem pre_total (s : List Int) {j : Nat} (h : j ≤ s.length) : pre s j ≤ total s := pre_le s h
/-- .. where all are sizes: no more than six times as many. -/
theorem pre_six {s : List Int} (h : Sizes s) {j : Nat} (hj : j ≤ s.length) : pre s j ≤ 6 * j := by
  induction j with
  | zero => exact Nat.le_refl _
  | succ j ih =>
    have := ih (by omega)
    have := h j (by omega)
    simp only [pre]; omega
theorem total_pos {s : List Int} (h : Sizes s) (h0 : 0 < s.length) : 0 < total s := by
  have h1 := pre_total s (j := 1) h0
  have h2 := h 0 h0
  simp only [pre] at h1
  omega

theorem cuts_length (l s : List Int) : (cuts l s).length = s.length := by simp [cuts]
theorem cuts_at (l s : List Int) {j : Nat} (h : j < s.length) : rowAt (cuts l s) j = cutAt l s j := by simp [rowAt, cuts, h]
theorem cutAt_length {l s : List Int} (hs : total s = l.length) {j : Nat} (h : j < s.length) : (cutAt l s j).length = (at0 s j).toNat := by
  have := pre_total s (j := j + 1) h
  rw [pre_succ] at this
  unfold cutAt
  rw [List.length_take, List.length_drop]
  omega
theorem shaped_cuts {l s : List Int} (h1 : Sizes s) (hs : total s = l.length) : Shaped (cuts l s) s := by
  refine ⟨cuts_length l s, fun i hi => ?_⟩
  rw [cuts_at l s hi, cutAt_length hs hi]
  have := h1 i hi
  omega

theorem take_succ_rows {ll : List (List Int)} {j : Nat} (h : j < ll.length) : ll.take (j + 1) = ll.take j ++ [rowAt ll j] := by
  rw [List.take_succ_eq_append_getElem h, rowAt_get h]
theorem flat_step {ll : List (List Int)} {j : Nat} (h : j < ll.length) : (ll.take (j + 1)).flatten = (ll.take j).flatten ++ rowAt ll j := by
  rw [take_succ_rows h, List.flatten_append]; simp
theorem flat_le (ll : List (List Int)) (j : Nat) : (ll.take j).flatten.length ≤ ll.flatten.length := by
  conv => rhs; rw [← List.take_append_drop j ll, List.flatten_append, List.length_append]
  omega

/-- Cut, and joined: the first j. -/
theorem cuts_take (l s : List Int) {j : Nat} (h : j ≤ s.length) : ((cuts l s).take j).flatten = l.take (pre s j) := by
  induction j with
  | zero => simp [pre]
  | succ j ih =>
    rw [flat_step (by rw [cuts_length]; omega), ih (by omega), cuts_at l s (by omega), pre_succ, List.take_add]
    rfl
theorem join_cuts {l s : List Int} (hs : total s = l.length) : (cuts l s).flatten = l := by
  have := cuts_take l s (Nat.le_refl s.length)
  rw [List.take_of_length_le (by rw [cuts_length]; exact Nat.le_refl _)] at this
  rw [this]
  exact List.take_of_length_le (by show l.length ≤ total s; omega)

theorem Shaped.pre {ll : List (List Int)} {s : List Int} (h : Shaped ll s) {j : Nat} (hj : j ≤ s.length) : (ll.take j).flatten.length = pre s j := by
  induction j with
  | zero => simp [Bnd.pre]
  | succ j ih =>
    rw [flat_step (by rw [h.1]; omega), List.length_append, ih (by omega), pre_succ]
    have := h.2 j (by omega)
    omega
theorem Shaped.total {ll : List (List Int)} {s : List Int} (h : Shaped ll s) : ll.flatten.length = total s := by
  have := h.pre (Nat.le_refl s.length)
  rw [List.take_of_length_le (by rw [h.1]; exact Nat.le_refl _)] at this
  exact this
/-- Joined, and cut. -/
theorem cuts_join {ll : List (List Int)} {s : List Int} (h : Shaped ll s) : cuts ll.flatten s = ll := by
  apply List.ext_getElem
  · rw [cuts_length, h.1]
  · intro j h1 h2
    rw [cuts_length] at h1
    have e := cuts_at ll.flatten s h1
    rw [rowAt_get (by rw [cuts_length]; exact h1)] at e
    rw [e, ← rowAt_get h2]
    have h3 : ll.flatten = (ll.take j).flatten ++ (rowAt ll j ++ (ll.drop (j + 1)).flatten) := by
      conv => lhs; rw [← List.take_append_drop (j + 1) ll, List.flatten_append, flat_step h2]
      rw [List.append_assoc]
    unfold cutAt
    rw [h3, ← h.pre (by omega), List.drop_left]
    have h4 := h.2 j h1
    have h5 : (at0 s j).toNat = (rowAt ll j).length := by omega
    rw [h5, List.take_left]

/-- Whether bands are of such a shape can be told; where they are as many and yet not, at one first place. -/
theorem shaped_or (ll : List (List Int)) (s : List Int) : ll.length ≠ s.length ∨ Shaped ll s ∨ (ll.length = s.length ∧ ∃ k, k < s.length ∧ ((rowAt ll k).length : Int) ≠ at0 s k ∧ ∀ i, i < k → ((rowAt ll i).length : Int) = at0 s i) := by
  by_cases h : ll.length = s.length
  · refine Or.inr ?_
    have key : ∀ n, n ≤ s.length → (∀ i, i < n → ((rowAt ll i).length : Int) = at0 s i) ∨ ∃ k, k < n ∧ ((rowAt ll k).length : Int) ≠ at0 s k ∧ ∀ i, i < k → ((rowAt ll i).length : Int) = at0 s i := by
      intro n
      induction n with
      | zero => exact fun _ => Or.inl fun i hi => by omega
      | succ n ih =>
        intro hn
        rcases ih (by omega) with h1 | ⟨k, h1, h2, h3⟩
        · by_cases h2 : ((rowAt ll n).length : Int) = at0 s n
          · refine Or.inl fun i hi => ?_
            by_cases e : i = n
            · rw [e]; exact h2
            · exact h1 i (by omega)
          · exact Or.inr ⟨n, by omega, h2, h1⟩
        · exact Or.inr ⟨k, by omega, h2, h3⟩
    rcases key s.length (Nat.le_refl _) with h1 | ⟨k, h1, h2, h3⟩
    · exact Or.inl ⟨h, h1⟩
    · exact Or.inr ⟨h, k, h1, h2, h3⟩
  · exact Or.inl h

end Go.Proofs.YtjojeifoddonnakDoor.Bnd

/-
  The numbers of chapter 14: what pulses cost, who gets one. No program here.
-/
namespace Go.Proofs.YtjojeifoddonnakDoor.Shr
open Go.Proofs.YtjojeifoddonnakDoor.Tre Go.Proofs.YtjojeifoddonnakDoor.Cnt Go.Proofs.YtjojeifoddonnakDoor.Bnd
set_option linter.unusedVariables false

/-- How many bits so many numbers of so many pulses need. -/
def Bt (k n : Nat) : Nat := ((List.range 15).find? fun b => decide (V k n ≤ 2 ^ b)).getD 15
theorem Bt_is {k n : Nat} (hk : k ≤ 8) (hn : n ≤ 6) : Least (V k n) (Bt k n) := by
  have key : ∀ k : Nat, k < 9 → ∀ n : Nat, n < 7 → V k n ≤ 2 ^ Bt k n ∧ ∀ i : Nat, i < Bt k n → (2 : Int) ^ i < V k n := by decide +kernel
  exact key k (by omega) n (by omega)
theorem Bt_le {k n : Nat} (hk : k ≤ 8) (hn : n ≤ 6) : Bt k n ≤ 15 := by
  have key : ∀ k : Nat, k < 9 → ∀ n : Nat, n < 7 → Bt k n ≤ 15 := by decide +kernel
  exact key k (by omega) n (by omega)
theorem Bt_zero {n : Nat} (hn : n ≤ 6) : Bt 0 n = 0 := by
  have key : ∀ n : Nat, n < 7 → Bt 0 n = 0 := by decide +kernel
  exact key n (by omega)

/-- What the first j bands cost; all. -/
def cs (s p : List Int) : Nat → Nat
  | 0 => 0
  | j + 1 => cs s p j + Bt (at0 p j).toNat (at0 s j).toNat
def cost (s p : List Int) : Nat := cs s p s.length
/-- Pulses that may be. -/
def Pls (p : List Int) : Prop := ∀ i, i < p.length → 0 ≤ at0 p i ∧ at0 p i ≤ 8
theorem cs_le {s p : List Int} (hs : Sizes s) (hp : Pls p) (hl : p.length = s.length) {j : Nat} (hj : j ≤ s.length) : cs s p j ≤ 15 * j := by
  induction j with
  | zero => exact Nat.le_refl _
  | succ j ih =>
    have h1 := ih (by omega)
    have h2 := hs j (by omega)
    have h3 := hp j (by omega)
    have h4 := Bt_le (k := (at0 p j).toNat) (n := (at0 s j).toNat) (by omega) (by omega)
    simp only [cs]
    omega
theorem cs_zeros {s : List Int} (hs : Sizes s) {j : Nat} (hj : j ≤ s.length) : cs s (upto (fun _ => 0) s.length) j = 0 := by
  induction j with
  | zero => rfl
  | succ j ih =>
    have h2 := hs j (by omega)
    simp only [cs]
    rw [ih (by omega), upto_at _ (by omega), Nat.zero_add]
    exact Bt_zero (n := (at0 s j).toNat) (by omega)
theorem cost_zeros {s : List Int} (hs : Sizes s) : cost s (upto (fun _ => 0) s.length) = 0 := cs_zeros hs (Nat.le_refl _)

/-- One pulse more. -/
def inc (o : List Int) (i : Nat) : List Int := o.set i (at0 o i + 1)
theorem inc_length (o : List Int) (i : Nat) : (inc o i).length = o.length := by simp [inc]
theorem inc_at {o : List Int} {i : Nat} (h : i < o.length) : at0 (inc o i) i = at0 o i + 1 := by simp [inc, at0, h]
theorem inc_other {o : List Int} {i j : Nat} (h : j ≠ i) : at0 (inc o i) j = at0 o j := by
  have h' : ¬ i = j := fun e => h e.symm
  simp [inc, at0, h']
theorem inc_dec {o : List Int} {i : Nat} : (inc o i).set i (at0 o i) = o := by
  refine eq_of_at (by simp [inc]) fun k hk => ?_
  have hk' : k < o.length := by simpa [inc] using hk
  by_cases e : k = i
  · subst e; simp [inc, at0, hk']
  · have h' : ¬ i = k := fun h => e h.symm
    simp [inc, at0, h']

/-- A band may get one more. -/
def Can (s d o : List Int) (B : Int) (i : Nat) : Prop := at0 d i ≠ 0 ∧ at0 o i ≠ 8 ∧ (cost s (inc o i) : Int) ≤ B
/-- One is louder by the square of one more than its pulses than another. -/
def Over (d o : List Int) (i b : Nat) : Prop := at0 d b * (at0 o i + 1) * (at0 o i + 1) < at0 d i * (at0 o b + 1) * (at0 o b + 1)
instance (s d o : List Int) (B : Int) (i : Nat) : Decidable (Can s d o B i) := by unfold Can; infer_instance
instance (d o : List Int) (i b : Nat) : Decidable (Over d o i b) := by unfold Over; infer_instance
/-- Who of the first j gets one. -/
def bst (s d o : List Int) (B : Int) : Nat → Option Nat
  | 0 => none
  | j + 1 => if Can s d o B j then (match bst s d o B j with | none => some j | some b => if Over d o j b then some j else some b) else bst s d o B j
theorem bst_lt {s d o : List Int} {B : Int} {j b : Nat} (h : bst s d o B j = some b) : b < j ∧ Can s d o B b := by
  induction j with
  | zero => simp [bst] at h
  | succ j ih =>
    rw [bst] at h
    split at h
    · rename_i hc
      split at h
      · cases h; exact ⟨by omega, hc⟩
      · rename_i c e
        split at h
        · cases h; exact ⟨by omega, hc⟩
        · cases h
          have := ih e
          exact ⟨by omega, this.2⟩
    · have := ih h
      exact ⟨by omega, this.2⟩
theorem bst_none {s d o : List Int} {B : Int} {j : Nat} (h : bst s d o B j = none) : ∀ i, i < j → ¬ Can s d o B i := by
  induction j with
  | zero => intro i hi; omega
  | succ j ih =>
    rw [bst] at h
    split at h
    · split at h
      · cases h
      · split at h <;> cases h
    · rename_i hc
      intro i hi
      by_cases e : i = j
      · rw [e]; exact hc
      · exact ih h i (by omega)
/-- Again and again. -/
def go (s d : List Int) (B : Int) : Nat → List Int → List Int
  | 0, o => o
  | f + 1, o => match bst s d o B s.length with
    | none => o
    | some b => go s d B f (inc o b)
def share (s d : List Int) (B : Int) : List Int := go s d B 100 (upto (fun _ => 0) s.length)

/-- What holds of the pulses all the way. -/
structure Inv (s d : List Int) (B : Int) (o : List Int) : Prop where
  len : o.length = s.length
  pls : Pls o
  low : ∀ i, i < o.length → at0 d i = 0 → at0 o i = 0
  cst : (cost s o : Int) ≤ B
/-- All pulses together. -/
def sm (o : List Int) : Nat → Int
  | 0 => 0
  | j + 1 => sm o j + at0 o j
theorem sm_le {o : List Int} (h : Pls o) {j : Nat} (hj : j ≤ o.length) : 0 ≤ sm o j ∧ sm o j ≤ 8 * j := by
  induction j with
  | zero => exact ⟨Int.le_refl _, Int.le_refl _⟩
  | succ j ih =>
    have h1 := ih (by omega)
    have h2 := h j (by omega)
    simp only [sm]
    omega
theorem sm_inc {o : List Int} {b : Nat} {j : Nat} (hj : j ≤ o.length) : sm (inc o b) j = sm o j + if b < j then 1 else 0 := by
  induction j with
  | zero => rfl
  | succ j ih =>
    have h1 := ih (by omega)
    simp only [sm]
    rw [h1]
    by_cases e : j = b
    · subst e
      rw [inc_at (by omega), if_neg (by omega), if_pos (by omega)]
      omega
    · rw [inc_other e]
      by_cases e2 : b < j
      · rw [if_pos e2, if_pos (by omega)]; omega
      · rw [if_neg e2, if_neg (by omega)]; omega
theorem inv_zero {s d : List Int} {B : Int} (hs : Sizes s) (hB : 0 ≤ B) : Inv s d B (upto (fun _ => 0) s.length) :=
  ⟨upto_length _ _, fun i hi => by rw [upto_length] at hi; rw [upto_at _ hi]; omega, fun i hi _ => by rw [upto_length] at hi; exact upto_at _ hi, by rw [cost_zeros hs]; exact hB⟩
theorem inv_inc {s d : List Int} {B : Int} {o : List Int} (h : Inv s d B o) {b : Nat} (hb : b < s.length) (hc : Can s d o B b) : Inv s d B (inc o b) := by
  have hl := h.len
  refine ⟨by rw [inc_length]; exact hl, fun i hi => ?_, fun i hi h0 => ?_, hc.2.2⟩
  · rw [inc_length] at hi
    by_cases e : i = b
    · subst e
      rw [inc_at hi]
      have := h.pls i hi
      have := hc.2.1
      omega
    · rw [inc_other e]; exact h.pls i hi
  · rw [inc_length] at hi
    by_cases e : i = b
    · subst e; exact absurd h0 hc.1
    · rw [inc_other e]; exact h.low i hi h0
/-- In the end no one may get one more. -/
theorem go_end {s d : List Int} {B : Int} (h8 : s.length ≤ 8) {f : Nat} {o : List Int} (h : Inv s d B o) (hf : 64 < sm o o.length + f) : Inv s d B (go s d B f o) ∧ bst s d (go s d B f o) B s.length = none := by
  induction f generalizing o with
  | zero =>
    have := sm_le h.pls (Nat.le_refl _)
    have := h.len
    omega
  | succ f ih =>
    rw [go]
    cases hb : bst s d o B s.length with
    | none => exact ⟨h, hb⟩
    | some b =>
      obtain ⟨h1, h2⟩ := bst_lt hb
      have hl := h.len
      refine ih (inv_inc h h1 h2) ?_
      rw [inc_length, sm_inc (Nat.le_refl _), if_pos (by omega)]
      omega
theorem sm_zeros (n : Nat) (j : Nat) (hj : j ≤ n) : sm (upto (fun _ => 0) n) j = 0 := by
  induction j with
  | zero => rfl
  | succ j ih => simp only [sm]; rw [ih (by omega), upto_at _ (by omega)]; rfl
theorem share_is {s d : List Int} {B : Int} (hs : Sizes s) (h8 : s.length ≤ 8) (hB : 0 ≤ B) : Inv s d B (share s d B) ∧ ∀ i, i < s.length → ¬ Can s d (share s d B) B i := by
  have h := go_end (d := d) (f := 100) h8 (inv_zero (d := d) hs hB) (by rw [upto_length, sm_zeros _ _ (Nat.le_refl _)]; omega)
  exact ⟨h.1, bst_none h.2⟩
/-- Another row of loudness that parts nothing otherwise gives the same. -/
theorem bst_same {s d e o : List Int} {B : Int} {n : Nat} (h0 : ∀ i, i < n → (at0 d i = 0 ↔ at0 e i = 0)) (h1 : ∀ i b, i < n → b < n → (Over d o i b ↔ Over e o i b)) {j : Nat} (hj : j ≤ n) : bst s d o B j = bst s e o B j := by
  induction j with
  | zero => rfl
  | succ j ih =>
    have hc : Can s d o B j ↔ Can s e o B j := by unfold Can; rw [Ne, Ne, h0 j (by omega)]
    rw [bst, bst, ih (by omega)]
    by_cases hcc : Can s d o B j
    · rw [if_pos hcc, if_pos (hc.1 hcc)]
      cases hb : bst s e o B j with
      | none => rfl
      | some b =>
        have hlt := (bst_lt hb).1
        have ho := h1 j b (by omega) (by omega)
        by_cases hoo : Over d o j b
        · simp only [if_pos hoo, if_pos (ho.1 hoo)]
        · simp only [if_neg hoo, if_neg (mt ho.2 hoo)]
    · rw [if_neg hcc, if_neg (mt hc.2 hcc)]
theorem go_same {s d e : List Int} {B : Int} (h0 : ∀ i, i < s.length → (at0 d i = 0 ↔ at0 e i = 0)) (h1 : ∀ o i b, i < s.length → b < s.length → (Over d o i b ↔ Over e o i b)) (f : Nat) (o : List Int) : go s d B f o = go s e B f o := by
  induction f generalizing o with
  | zero => rfl
  | succ f ih =>
    rw [go, go, bst_same h0 (h1 o) (Nat.le_refl _)]
    cases bst s e o B s.length with
    | none => rfl
    | some b => exact ih _
def twice (d : List Int) : List Int := upto (fun i => 2 * at0 d i) d.length
theorem share_twice {s d : List Int} {B : Int} (hl : d.length = s.length) : share s (twice d) B = share s d B := by
  unfold share
  refine go_same (fun i hi => ?_) (fun o i b hi hb => ?_) _ _
  · unfold twice
    rw [upto_at _ (by omega)]
    omega
  · unfold Over twice
    rw [upto_at _ (by omega), upto_at _ (by omega)]
    have e1 : 2 * at0 d b * (at0 o i + 1) * (at0 o i + 1) = 2 * (at0 d b * (at0 o i + 1) * (at0 o i + 1)) := by rw [Int.mul_assoc, Int.mul_assoc, Int.mul_assoc]
    have e2 : 2 * at0 d i * (at0 o b + 1) * (at0 o b + 1) = 2 * (at0 d i * (at0 o b + 1) * (at0 o b + 1)) := by rw [Int.mul_assoc, Int.mul_assoc, Int.mul_assoc]
    rw [e1, e2]
    omega
/-- Where all is silent none gets a pulse. -/
theorem share_silent {s d : List Int} {B : Int} (h : ∀ i, i < s.length → at0 d i = 0) : share s d B = upto (fun _ => 0) s.length := by
  unfold share
  have hb : ∀ o j, j ≤ s.length → bst s d o B j = none := by
    intro o j hj
    induction j with
    | zero => rfl
    | succ j ih =>
      rw [bst, if_neg (fun hc => hc.1 (h j (by omega)))]
      exact ih (by omega)
  rw [show (100 : Nat) = 99 + 1 from rfl, go, hb _ _ (Nat.le_refl _)]

/-- Who gets one, as a number: below 0 where no one does. -/
def bv : Option Nat → Int
  | none => -1
  | some b => b
theorem bst_can {s d o : List Int} {B : Int} {j : Nat} (h : ¬ Can s d o B j) : bst s d o B (j + 1) = bst s d o B j := by rw [bst, if_neg h]
theorem bst_first {s d o : List Int} {B : Int} {j : Nat} (h : Can s d o B j) (hb : bst s d o B j = none) : bst s d o B (j + 1) = some j := by rw [bst, if_pos h, hb]
theorem bst_over {s d o : List Int} {B : Int} {j b : Nat} (h : Can s d o B j) (hb : bst s d o B j = some b) (ho : Over d o j b) : bst s d o B (j + 1) = some j := by
  rw [bst, if_pos h, hb]
  simp only [if_pos ho]
theorem bst_stay {s d o : List Int} {B : Int} {j b : Nat} (h : Can s d o B j) (hb : bst s d o B j = some b) (ho : ¬ Over d o j b) : bst s d o B (j + 1) = some b := by
  rw [bst, if_pos h, hb]
  simp only [if_neg ho]
theorem go_none {s d o : List Int} {B : Int} {f : Nat} (h : bst s d o B s.length = none) : go s d B f o = o := by
  cases f with
  | zero => rfl
  | succ f => rw [go, h]
theorem go_some {s d o : List Int} {B : Int} {f b : Nat} (h : bst s d o B s.length = some b) : go s d B (f + 1) o = go s d B f (inc o b) := by rw [go, h]
theorem inc_pls {o : List Int} (h : Pls o) {j : Nat} (hj : j < o.length) (h8 : at0 o j ≠ 8) : Pls (inc o j) := fun i hi => by
  rw [inc_length] at hi
  by_cases e : i = j
  · subst e
    rw [inc_at hi]
    have := h i hi
    omega
  · rw [inc_other e]; exact h i hi

/-- One pulse more costs so many bits more. -/
def pr (n k : Nat) : Int := (Bt (k + 1) n : Int) - (Bt k n : Int)
theorem pr_in {n k : Nat} (hn : n ≤ 6) (hk : k < 8) : -15 ≤ pr n k ∧ pr n k ≤ 15 := by
  have h1 := Bt_le (k := k) (n := n) (by omega) hn
  have h2 := Bt_le (k := k + 1) (n := n) (by omega) hn
  unfold pr
  omega
theorem cs_inc {s o : List Int} {i : Nat} (hi : i < o.length) (h0 : 0 ≤ at0 o i) (j : Nat) : (cs s (inc o i) j : Int) = cs s o j + if i < j then pr (at0 s i).toNat (at0 o i).toNat else 0 := by
  induction j with
  | zero => rfl
  | succ j ih =>
    simp only [cs]
    rw [Int.natCast_add, ih, Int.natCast_add]
    by_cases e : j = i
    · subst e
      rw [inc_at hi, if_neg (by omega), if_pos (by omega), show (at0 o j + 1).toNat = (at0 o j).toNat + 1 by omega]
      unfold pr
      omega
    · rw [inc_other e]
      by_cases e2 : i < j
      · rw [if_pos e2, if_pos (by omega)]; omega
      · rw [if_neg e2, if_neg (by omega)]; omega
theorem cost_inc {s o : List Int} {i : Nat} (hi : i < o.length) (hs : i < s.length) (h0 : 0 ≤ at0 o i) : (cost s (inc o i) : Int) = cost s o + pr (at0 s i).toNat (at0 o i).toNat := by
  unfold cost
  rw [cs_inc hi h0, if_pos hs]
/-- Where all have as many as may be no one may get one more. -/
theorem sm_full {o : List Int} (h : Pls o) {j : Nat} (hj : j ≤ o.length) (e : sm o j = 8 * j) : ∀ i, i < j → at0 o i = 8 := by
  induction j with
  | zero => intro i hi; omega
  | succ j ih =>
    have h1 := sm_le h (j := j) (by omega)
    have h2 := h j (by omega)
    simp only [sm] at e
    intro i hi
    by_cases e2 : i = j
    · rw [e2]; omega
    · exact ih (by omega) (by omega) i (by omega)
theorem bst_full {s d o : List Int} {B : Int} {j : Nat} (h : ∀ i, i < j → at0 o i = 8) : bst s d o B j = none := by
  induction j with
  | zero => rfl
  | succ j ih =>
    rw [bst, if_neg (fun hc => hc.2.1 (h j (by omega)))]
    exact ih (fun i hi => h i (by omega))
/-- Loudness that may be. -/
def lou (n : Int) : Bool := decide (n < 0) || decide (8000 < n)
def noP (n : Int) : Bool := decide (n < 0) || decide (8 < n)
def Lds (d : List Int) : Prop := ∀ i, i < d.length → 0 ≤ at0 d i ∧ at0 d i ≤ 8000
/-- The faults. -/
def costF (s p : List Int) : Int := if bf s = 0 then (if p.length = s.length then (if p.any noP = true then 1 else 0) else 3) else bf s
def ofF (s d : List Int) (B : Int) : Int := if bf s = 0 then (if d.length = s.length then (if d.any lou = true then 1 else if B < 0 ∨ 400 < B then 1 else 0) else 3) else bf s
theorem any_no {p : Int → Bool} {q : Int → Prop} (h : ∀ x, p x = false ↔ q x) {l : List Int} : l.any p = false ↔ ∀ i, i < l.length → q (at0 l i) := by
  rw [List.any_eq_false]
  constructor
  · intro k i hi
    have e : at0 l i = l[i] := by simp [at0, hi]
    rw [e]
    exact (h _).1 (by simpa using k _ (List.getElem_mem hi))
  · intro k x hx
    obtain ⟨i, hi, rfl⟩ := List.getElem_of_mem hx
    have e : at0 l i = l[i] := by simp [at0, hi]
    have := k i hi
    rw [e] at this
    simpa using (h _).2 this
theorem noP_any {p : List Int} : p.any noP = false ↔ Pls p := any_no (p := noP) (q := fun x => 0 ≤ x ∧ x ≤ 8) (fun x => by simp [noP])
theorem lou_any {d : List Int} : d.any lou = false ↔ Lds d := any_no (p := lou) (q := fun x => 0 ≤ x ∧ x ≤ 8000) (fun x => by simp [lou])
theorem costF_zero {s p : List Int} : costF s p = 0 ↔ bf s = 0 ∧ p.length = s.length ∧ Pls p := by
  unfold costF
  constructor
  · intro h
    split at h
    · split at h
      · split at h
        · omega
        · rename_i h1 h2 h3
          exact ⟨h1, h2, noP_any.1 (Bool.eq_false_iff.2 h3)⟩
      · omega
    · rename_i h1; exact absurd h h1
  · intro ⟨h1, h2, h3⟩
    rw [if_pos h1, if_pos h2, if_neg (by rw [noP_any.2 h3]; simp)]
theorem ofF_zero {s d : List Int} {B : Int} : ofF s d B = 0 ↔ bf s = 0 ∧ d.length = s.length ∧ Lds d ∧ 0 ≤ B ∧ B ≤ 400 := by
  unfold ofF
  constructor
  · intro h
    split at h
    · split at h
      · split at h
        · omega
        · split at h
          · omega
          · rename_i h1 h2 h3 h4
            exact ⟨h1, h2, lou_any.1 (Bool.eq_false_iff.2 h3), by omega, by omega⟩
      · omega
    · rename_i h1; exact absurd h h1
  · intro ⟨h1, h2, h3, h4, h5⟩
    rw [if_pos h1, if_pos h2, if_neg (by rw [lou_any.2 h3]; simp), if_neg (by omega)]

end Go.Proofs.YtjojeifoddonnakDoor.Shr

/-
  The numbers of chapter 6: how many rows are ahead of one. No program here.
-/
namespace Go.Proofs.YtjojeifoddonnakDoor.Pls
open Go.Proofs.YtjojeifoddonnakDoor.Tre Go.Proofs.YtjojeifoddonnakDoor.Cnt
set_option linter.unusedVariables false

/-- How far all numbers are from 0. -/
def loud : List Int → Nat
  | [] => 0
  | x :: r => x.natAbs + loud r
theorem loud_append (l m : List Int) : loud (l ++ m) = loud l + loud m := by
  induction l with
  | nil => simp [loud]
  | cons x r ih => simp only [List.cons_append, loud, ih]; omega

/-- How many rows begin with s - L, of L pulses, m numbers behind it. -/
def rows (m L s : Nat) : Int := V (L - ((s : Int) - (L : Int)).natAbs) m
/-- .. with a lesser one. -/
def ahead (m L s : Nat) : Int := sumF (rows m L) s
theorem ahead_zero (m L : Nat) : ahead m L 0 = 0 := rfl
theorem ahead_succ (m L s : Nat) : ahead m L (s + 1) = ahead m L s + rows m L s := rfl
theorem ahead_all {m L : Nat} (hm : m < 6) (hL : L < 9) : ahead m L (2 * L + 1) = V L (m + 1) := by
  have h : ∀ m : Nat, m < 6 → ∀ L : Nat, L < 9 → ahead m L (2 * L + 1) = V L (m + 1) := by decide +kernel
  exact h m hm L hL
theorem rows_in {m L s : Nat} (hm : m < 7) (hL : L < 9) : 0 ≤ rows m L s ∧ rows m L s ≤ 20256 := V_in _ _ (by omega) hm
theorem rows_first (m L : Nat) : rows m L 0 = 1 := by unfold rows; rw [show L - (((0 : Nat) : Int) - (L : Int)).natAbs = 0 by omega, V_zero]
theorem rows_last (m L : Nat) : rows m L (2 * L) = 1 := by unfold rows; rw [show L - (((2 * L : Nat) : Int) - (L : Int)).natAbs = 0 by omega, V_zero]
theorem ahead_mono {m L s t : Nat} (hm : m < 7) (hL : L < 9) (h : s ≤ t) : ahead m L s ≤ ahead m L t := by
  induction t with
  | zero => rw [show s = 0 by omega]; exact Int.le_refl _
  | succ t ih =>
    rcases Nat.lt_or_ge t s with h1 | h1
    · rw [show s = t + 1 by omega]; exact Int.le_refl _
    · have := ih h1
      have := (rows_in (s := t) hm hL).1
      rw [ahead_succ]; omega
theorem ahead_in {m L s : Nat} (hm : m < 6) (hL : L < 9) (hs : s ≤ 2 * L + 1) : 0 ≤ ahead m L s ∧ ahead m L s ≤ 20256 := by
  have h1 := ahead_mono (m := m) (L := L) (s := 0) (t := s) (by omega) hL (Nat.zero_le _)
  have h2 := ahead_mono (m := m) (L := L) (s := s) (t := 2 * L + 1) (by omega) hL hs
  rw [ahead_all hm hL] at h2
  rw [ahead_zero] at h1
  have := (V_in L (m + 1) hL (by omega)).2
  omega
theorem rows_at {m L : Nat} {x : Int} (h : x.natAbs ≤ L) : rows m L (x + (L : Int)).toNat = V (L - x.natAbs) m := by
  unfold rows
  rw [show (((x + (L : Int)).toNat : Nat) : Int) - (L : Int) = x by omega]

/-- How many rows of L pulses are ahead. -/
def rk : List Int → Nat → Int
  | [], _ => 0
  | x :: r, L => ahead r.length L (x + (L : Int)).toNat + rk r (L - x.natAbs)

theorem rk_in : ∀ (l : List Int), l.length ≤ 6 → loud l ≤ 8 → 0 ≤ rk l (loud l) ∧ rk l (loud l) < V (loud l) l.length := by
  intro l
  induction l with
  | nil => intro _ _; simp [rk, loud, V_zero]
  | cons x r ih =>
    intro h1 h2
    simp only [List.length_cons] at h1
    obtain ⟨L, hL⟩ : ∃ L, L = loud (x :: r) := ⟨_, rfl⟩
    have hL' : L = x.natAbs + loud r := hL
    rw [← hL] at h2 ⊢
    have i := ih (by omega) (by omega)
    have e : L - x.natAbs = loud r := by omega
    have hr := rows_at (m := r.length) (L := L) (x := x) (by omega)
    have hin := ahead_in (m := r.length) (L := L) (s := (x + (L : Int)).toNat) (by omega) (by omega) (by omega)
    have hm := ahead_mono (m := r.length) (L := L) (s := (x + (L : Int)).toNat + 1) (t := 2 * L + 1) (by omega) (by omega) (by omega)
    rw [ahead_all (by omega) (by omega), ahead_succ, hr, e] at hm
    simp only [rk, List.length_cons, e]
    omega

/-- .. in parts: what is ahead of a row, by its first number. -/
theorem rk_parts {x : Int} {r : List Int} (h1 : r.length ≤ 5) (h2 : loud (x :: r) ≤ 8) :
    ahead r.length (loud (x :: r)) (x + (loud (x :: r) : Int)).toNat ≤ rk (x :: r) (loud (x :: r)) ∧ rk (x :: r) (loud (x :: r)) < ahead r.length (loud (x :: r)) ((x + (loud (x :: r) : Int)).toNat + 1) := by
  have hL' : loud (x :: r) = x.natAbs + loud r := rfl
  have i := rk_in r (by omega) (by omega)
  have e : loud (x :: r) - x.natAbs = loud r := by omega
  have hr := rows_at (m := r.length) (L := loud (x :: r)) (x := x) (by omega)
  rw [ahead_succ, hr]
  simp only [rk, e]
  omega

theorem rk_less {x y : Int} {r t : List Int} (h1 : r.length ≤ 5) (hl : t.length = r.length) (h2 : loud (x :: r) ≤ 8) (hk : loud (y :: t) = loud (x :: r)) (h : x < y) :
    rk (x :: r) (loud (x :: r)) < rk (y :: t) (loud (x :: r)) := by
  have a := (rk_parts h1 h2).2
  have b := (rk_parts (x := y) (r := t) (by omega) (by omega)).1
  rw [hk, hl] at b
  have hx : loud (x :: r) = x.natAbs + loud r := rfl
  have hm := ahead_mono (m := r.length) (L := loud (x :: r)) (s := (x + (loud (x :: r) : Int)).toNat + 1) (t := (y + (loud (x :: r) : Int)).toNat) (by omega) (by omega) (by omega)
  omega

/-- Two rows of as many numbers and pulses that are the same up to a place, and differ there. -/
theorem rk_order : ∀ (p : List Int) (x y : Int) (r t : List Int), (p ++ x :: r).length ≤ 6 → t.length = r.length → loud (p ++ x :: r) ≤ 8 → loud (p ++ y :: t) = loud (p ++ x :: r) → x < y →
    rk (p ++ x :: r) (loud (p ++ x :: r)) < rk (p ++ y :: t) (loud (p ++ x :: r)) := by
  intro p
  induction p with
  | nil => intro x y r t h1 hl h2 hk h; exact rk_less (by simpa using h1) hl h2 hk h
  | cons z p ih =>
    intro x y r t h1 hl h2 hk h
    have e1 : loud (z :: p ++ x :: r) = z.natAbs + loud (p ++ x :: r) := rfl
    have e2 : loud (z :: p ++ y :: t) = z.natAbs + loud (p ++ y :: t) := rfl
    have i := ih x y r t (by simp at h1 ⊢; omega) hl (by omega) (by omega) h
    have e3 : loud (z :: p ++ x :: r) - z.natAbs = loud (p ++ x :: r) := by omega
    have e4 : (p ++ y :: t).length = (p ++ x :: r).length := by simp [hl]
    show rk (z :: (p ++ x :: r)) _ < rk (z :: (p ++ y :: t)) _
    simp only [rk, e3, e4]
    omega

theorem rk_one : ∀ (l m : List Int), l.length ≤ 6 → m.length = l.length → loud l ≤ 8 → loud m = loud l → rk m (loud l) = rk l (loud l) → m = l := by
  intro l
  induction l with
  | nil => intro m _ h _ _ _; exact List.length_eq_zero_iff.1 h
  | cons x r ih =>
    intro m h1 hl h2 hk hr
    cases m with
    | nil => simp at hl
    | cons y t =>
      have hl' : t.length = r.length := by simpa using hl
      have h1' : r.length ≤ 5 := by simp at h1; omega
      rcases Int.lt_trichotomy x y with h | h | h
      · have := rk_less h1' hl' h2 hk h; omega
      · subst h
        have e1 : loud (x :: r) = x.natAbs + loud r := rfl
        have e2 : loud (x :: t) = x.natAbs + loud t := rfl
        have e3 : loud (x :: r) - x.natAbs = loud r := by omega
        simp only [rk, e3, hl'] at hr
        rw [ih t (by omega) hl' (by omega) (by omega) (by omega)]
      · have := rk_less (by omega) hl'.symm (by omega) hk.symm h
        rw [hk] at this; omega

/-- The first of all, and the last. -/
theorem first_of {x : Int} {r : List Int} (h1 : r.length ≤ 5) (h2 : loud (x :: r) ≤ 8) (h : rk (x :: r) (loud (x :: r)) = 0) : x = -(loud (x :: r) : Int) := by
  have a := (rk_parts h1 h2).1
  have hL : loud (x :: r) = x.natAbs + loud r := rfl
  rcases Nat.eq_zero_or_pos (x + (loud (x :: r) : Int)).toNat with e | e
  · omega
  · have hm := ahead_mono (m := r.length) (L := loud (x :: r)) (s := 1) (t := (x + (loud (x :: r) : Int)).toNat) (by omega) (by omega) e
    have h3 : ahead r.length (loud (x :: r)) 1 = 1 := by rw [ahead_succ, ahead_zero, rows_first]; rfl
    omega
theorem last_of {x : Int} {r : List Int} (h1 : r.length ≤ 5) (h2 : loud (x :: r) ≤ 8) (h : rk (x :: r) (loud (x :: r)) = V (loud (x :: r)) (r.length + 1) - 1) : x = (loud (x :: r) : Int) := by
  have a := (rk_parts h1 h2).2
  have hL : loud (x :: r) = x.natAbs + loud r := rfl
  rcases Nat.lt_or_ge (x + (loud (x :: r) : Int)).toNat (2 * loud (x :: r)) with e | e
  · have hm := ahead_mono (m := r.length) (L := loud (x :: r)) (s := (x + (loud (x :: r) : Int)).toNat + 1) (t := 2 * loud (x :: r)) (by omega) (by omega) e
    have h3 := ahead_all (m := r.length) (L := loud (x :: r)) (by omega) (by omega)
    rw [ahead_succ, rows_last] at h3
    omega
  · omega

/-- The row of a rank. -/
def Is (n k : Nat) (rank : Int) (l : List Int) : Prop := l.length = n ∧ loud l = k ∧ rk l k = rank
theorem Is.one {n k : Nat} {rank : Int} {l m : List Int} (hn : n ≤ 6) (hk : k ≤ 8) (h : Is n k rank l) (g : Is n k rank m) : m = l := by
  obtain ⟨rfl, rfl, rfl⟩ := h
  obtain ⟨g1, g2, g3⟩ := g
  exact rk_one l m hn g1 hk g2 g3

/-- What is still wanted behind l: numbers of L pulses, r of such ahead of them. -/
def Wants (n k : Nat) (rank : Int) (l : List Int) (L : Nat) (r : Int) : Prop := ∀ m, Is (n - l.length) L r m → Is n k rank (l ++ m)
theorem wants_all (n k : Nat) (rank : Int) : Wants n k rank [] k rank := fun m h => by simpa using h
theorem is_cons {b L s : Nat} {r : Int} {m : List Int} (hs : s ≤ 2 * L) (h : Is b (L - ((s : Int) - (L : Int)).natAbs) (r - ahead b L s) m) : Is (b + 1) L r (((s : Int) - (L : Int)) :: m) := by
  obtain ⟨h1, h2, h3⟩ := h
  subst h1
  refine ⟨by simp, ?_, ?_⟩
  · simp only [loud, h2]; omega
  · simp only [rk]
    rw [show ((s : Int) - (L : Int) + (L : Int)).toNat = s by omega, h3]
    omega
theorem Wants.step {n k : Nat} {rank : Int} {l : List Int} {b L s : Nat} {r : Int} (h : Wants n k rank l L r) (hb : n - l.length = b + 1) (hs : s ≤ 2 * L) :
    Wants n k rank (l ++ [(s : Int) - (L : Int)]) (L - ((s : Int) - (L : Int)).natAbs) (r - ahead b L s) := by
  intro m hm
  have e : n - (l ++ [(s : Int) - (L : Int)]).length = b := by simp; omega
  rw [e] at hm
  have := h _ (by rw [hb]; exact is_cons hs hm)
  simpa using this
theorem Wants.done {n k : Nat} {rank : Int} {l : List Int} {L : Nat} {r : Int} (h : Wants n k rank l L r) (hl : l.length = n) (hL : L ≤ 8) (h0 : 0 ≤ r) (h1 : r < V L 0) : Is n k rank l := by
  have hz : L = 0 ∧ r = 0 := by
    cases L with
    | zero => rw [V_zero] at h1; omega
    | succ L => rw [V_none] at h1; omega
  obtain ⟨rfl, rfl⟩ := hz
  have := h [] ⟨by simp; omega, rfl, rfl⟩
  simpa using this

/-- What of a row's rank is still wanted at a place. -/
theorem rk_drop {l : List Int} {i : Nat} (hi : i < l.length) : loud (l.drop i) = (at0 l i).natAbs + loud (l.drop (i + 1)) ∧
    rk (l.drop i) (loud (l.drop i)) = ahead (l.length - 1 - i) (loud (l.drop i)) (at0 l i + (loud (l.drop i) : Int)).toNat + rk (l.drop (i + 1)) (loud (l.drop (i + 1))) := by
  have e : l.drop i = at0 l i :: l.drop (i + 1) := by
    rw [List.drop_eq_getElem_cons hi]
    simp [at0, hi]
  have e1 : loud (l.drop i) = (at0 l i).natAbs + loud (l.drop (i + 1)) := by rw [e]; rfl
  refine ⟨e1, ?_⟩
  have e2 : rk (l.drop i) (loud (l.drop i)) = rk (at0 l i :: l.drop (i + 1)) (loud (l.drop i)) := by rw [← e]
  rw [e2]
  simp only [rk, List.length_drop]
  rw [show l.length - (i + 1) = l.length - 1 - i by omega, show loud (l.drop i) - (at0 l i).natAbs = loud (l.drop (i + 1)) by omega]

/-- Where two rows first differ. -/
theorem cut_at {l : List Int} {i : Nat} (hi : i < l.length) : l = l.take i ++ at0 l i :: l.drop (i + 1) := by
  have e : l.drop i = at0 l i :: l.drop (i + 1) := by
    rw [List.drop_eq_getElem_cons hi]
    simp [at0, hi]
  rw [← e, List.take_append_drop]
theorem first_diff {n k : Nat} {a b : Int} {l m : List Int} {i : Nat} (hn : n ≤ 6) (hk : k ≤ 8) (hl : Is n k a l) (hm : Is n k b m) (hi : i < n) (h : l.take i = m.take i) (hd : at0 l i < at0 m i) : a < b := by
  obtain ⟨l1, l2, l3⟩ := hl
  obtain ⟨m1, m2, m3⟩ := hm
  have e1 := cut_at (l := l) (i := i) (by omega)
  have e2 := cut_at (l := m) (i := i) (by omega)
  rw [← h] at e2
  have ho := rk_order (l.take i) (at0 l i) (at0 m i) (l.drop (i + 1)) (m.drop (i + 1)) (by rw [← e1]; omega) (by rw [List.length_drop, List.length_drop]; omega) (by rw [← e1]; omega) (by rw [← e1, ← e2]; omega) hd
  rw [← e1, ← e2, l2, l3, m3] at ho
  exact ho
theorem Is.rank {n k : Nat} {a b : Int} {l : List Int} (hl : Is n k a l) (hm : Is n k b l) : a = b := hl.2.2.symm.trans hm.2.2
theorem Is.self (l : List Int) : Is l.length (loud l) (rk l (loud l)) l := ⟨rfl, rfl, rfl⟩

theorem Is.first {n k : Nat} {l : List Int} (hn : n ≤ 6) (hk : k ≤ 8) (h0 : 0 < n) (h : Is n k 0 l) : at0 l 0 = -(k : Int) := by
  obtain ⟨rfl, rfl, h3⟩ := h
  cases l with
  | nil => simp at h0
  | cons x r => exact first_of (by simp at hn; omega) hk h3
theorem Is.last {n k : Nat} {l : List Int} (hn : n ≤ 6) (hk : k ≤ 8) (h0 : 0 < n) (h : Is n k (V k n - 1) l) : at0 l 0 = (k : Int) := by
  obtain ⟨rfl, rfl, h3⟩ := h
  cases l with
  | nil => simp at h0
  | cons x r => exact last_of (by simp at hn; omega) hk h3

end Go.Proofs.YtjojeifoddonnakDoor.Pls

/-
  The numbers of chapter 7: k pulses as near as may be to numbers. No program here.
-/
namespace Go.Proofs.YtjojeifoddonnakDoor.Nea
open Go.Proofs.YtjojeifoddonnakDoor.Tre Go.Proofs.YtjojeifoddonnakDoor.Pls
set_option linter.unusedVariables false

/-- All together. -/
def tot (f : Nat → Nat) : Nat → Nat
  | 0 => 0
  | n + 1 => tot f n + f n
theorem tot_congr {f g : Nat → Nat} {n : Nat} (h : ∀ i, i < n → f i = g i) : tot f n = tot g n := by
  induction n with
  | zero => rfl
  | succ n ih => simp only [tot, ih fun i hi => h i (by omega), h n (by omega)]
theorem tot_add (f g : Nat → Nat) (n : Nat) : tot (fun i => f i + g i) n = tot f n + tot g n := by
  induction n with
  | zero => rfl
  | succ n ih => simp only [tot, ih]; omega
theorem tot_mul (c : Nat) (f : Nat → Nat) (n : Nat) : tot (fun i => c * f i) n = c * tot f n := by
  induction n with
  | zero => rfl
  | succ n ih => simp only [tot, ih, Nat.mul_add]
theorem tot_le {f g : Nat → Nat} {n : Nat} (h : ∀ i, i < n → f i ≤ g i) : tot f n ≤ tot g n := by
  induction n with
  | zero => exact Nat.le_refl _
  | succ n ih => have := ih fun i hi => h i (by omega); have := h n (by omega); simp only [tot]; omega
theorem tot_const (c n : Nat) : tot (fun _ => c) n = c * n := by
  induction n with
  | zero => rfl
  | succ n ih => simp only [tot, ih, Nat.mul_add]; omega
theorem tot_none (n : Nat) : tot (fun _ => 0) n = 0 := by rw [tot_const, Nat.zero_mul]
theorem tot_at (c : Nat) {i n : Nat} (h : i < n) : tot (fun j => if j = i then c else 0) n = c := by
  induction n with
  | zero => omega
  | succ n ih =>
    simp only [tot]
    by_cases e : i < n
    · rw [ih e, if_neg (by omega)]; rfl
    · obtain rfl : i = n := by omega
      rw [if_pos rfl, tot_congr (g := fun _ => 0) fun j hj => by rw [if_neg (by omega)], tot_none]; omega
theorem tot_one {f : Nat → Nat} {n i : Nat} (h : i < n) : f i ≤ tot f n := by
  have := tot_le (f := fun j => if j = i then f i else 0) (g := f) (n := n) fun j _ => by
    by_cases e : j = i
    · rw [if_pos e, e]; exact Nat.le_refl _
    · rw [if_neg e]; exact Nat.zero_le _
  rwa [tot_at _ h] at this
theorem tot_zero {f : Nat → Nat} {n : Nat} (h : tot f n = 0) : ∀ i, i < n → f i = 0 := fun i hi => by
  have := tot_one (f := f) hi; omega

theorem loud_to (l : List Int) : ∀ k, k ≤ l.length → loud (l.take k) = tot (fun i => (at0 l i).natAbs) k := by
  intro k
  induction k with
  | zero => intro _; rfl
  | succ k ih =>
    intro h
    rw [List.take_succ_eq_append_getElem (by omega : k < l.length), loud_append, ih (by omega)]
    have e : at0 l k = l[k]'(by omega) := by simp [at0, show k < l.length by omega]
    simp [loud, tot, e]
theorem loud_tot (l : List Int) : loud l = tot (fun i => (at0 l i).natAbs) l.length := by
  have := loud_to l l.length (Nat.le_refl _)
  rwa [List.take_length] at this

/-- How many. -/
def one (b : Bool) : Nat := if b then 1 else 0
def cnt (g : Nat → Bool) (n : Nat) : Nat := tot (fun i => one (g i)) n
theorem cnt_le (g : Nat → Bool) (n : Nat) : cnt g n ≤ n := by
  have := tot_le (f := fun i => one (g i)) (g := fun _ => 1) (n := n) fun i _ => by unfold one; split <;> omega
  rw [tot_const] at this
  unfold cnt; omega
theorem cnt_none {g : Nat → Bool} {n : Nat} (h : cnt g n = 0) : ∀ i, i < n → g i = false := fun i hi => by
  have := tot_zero h i hi
  cases e : g i with
  | false => rfl
  | true => rw [e] at this; simp [one] at this
theorem cnt_free {g : Nat → Bool} {n : Nat} (h : cnt g n < n) : ∃ i, i < n ∧ g i = false := by
  induction n with
  | zero => omega
  | succ n ih =>
    cases e : g n with
    | false => exact ⟨n, by omega, e⟩
    | true =>
      have : cnt g (n + 1) = cnt g n + 1 := by simp [cnt, tot, one, e]
      obtain ⟨i, hi, hg⟩ := ih (by omega)
      exact ⟨i, by omega, hg⟩
/-- One more. -/
def with1 (g : Nat → Bool) (b : Nat) (i : Nat) : Bool := g i || decide (i = b)
theorem one_with {g : Nat → Bool} {b : Nat} (h : g b = false) (i : Nat) : one (with1 g b i) = one (g i) + (if i = b then 1 else 0) := by
  unfold with1
  by_cases e : i = b
  · subst e; rw [h]; simp [one]
  · simp [one, e]
theorem cnt_with {g : Nat → Bool} {b n : Nat} (hb : b < n) (h : g b = false) : cnt (with1 g b) n = cnt g n + 1 := by
  unfold cnt
  rw [tot_congr fun i _ => one_with h i, tot_add, tot_at 1 hb]
theorem cnt_all {g h : Nat → Bool} {n : Nat} (e : cnt g n = cnt h n) (hi : ∀ i, i < n → g i = true → h i = true) : ∀ i, i < n → g i = h i := by
  induction n with
  | zero => intro i hi; omega
  | succ n ih =>
    have l1 : cnt g n ≤ cnt h n := tot_le fun i hi' => by
      cases eg : g i with
      | false => simp [one]
      | true => rw [hi i (by omega) eg]; exact Nat.le_refl _
    have e1 : cnt g (n + 1) = cnt g n + one (g n) := rfl
    have e2 : cnt h (n + 1) = cnt h n + one (h n) := rfl
    have l2 : one (g n) ≤ one (h n) := by
      cases eg : g n with
      | false => simp [one]
      | true => rw [hi n (by omega) eg]; exact Nat.le_refl _
    intro i hin
    rcases Nat.lt_or_ge i n with h1 | h1
    · exact ih (by omega) (fun j hj => hi j (by omega)) i h1
    · obtain rfl : i = n := by omega
      have e3 : one (g i) = one (h i) := by omega
      cases eg : g i <;> cases eh : h i <;> simp [one, eg, eh] at e3 ⊢

/-- Who comes first: of a greater rest; of several the first. -/
def Beats (r : Nat → Nat) (i j : Nat) : Prop := r j < r i ∨ (r j = r i ∧ i < j)
/-- So many of the greatest rests. -/
def Pick (r : Nat → Nat) (n m : Nat) (g : Nat → Bool) : Prop := cnt g n = m ∧ ∀ i j, i < n → j < n → g i = true → g j = false → Beats r i j
theorem Pick.one {r : Nat → Nat} {n m : Nat} {g h : Nat → Bool} (hg : Pick r n m g) (hh : Pick r n m h) : ∀ i, i < n → g i = h i := by
  by_cases a : ∀ i, i < n → g i = true → h i = true
  · exact cnt_all (hg.1.trans hh.1.symm) a
  · by_cases b : ∀ i, i < n → h i = true → g i = true
    · exact fun i hi => (cnt_all (hh.1.trans hg.1.symm) b i hi).symm
    · obtain ⟨i, hi, gi, hi'⟩ : ∃ i, i < n ∧ g i = true ∧ h i = false := by
        apply Classical.byContradiction
        intro hn
        exact a fun i hi e => by
          cases e' : h i with
          | true => rfl
          | false => exact absurd ⟨i, hi, e, e'⟩ hn
      obtain ⟨j, hj, hj', gj⟩ : ∃ j, j < n ∧ h j = true ∧ g j = false := by
        apply Classical.byContradiction
        intro hn
        exact b fun i hi e => by
          cases e' : g i with
          | true => rfl
          | false => exact absurd ⟨i, hi, e, e'⟩ hn
      have h1 := hg.2 i j hi hj gi gj
      have h2 := hh.2 j i hj hi hj' hi'
      unfold Beats at h1 h2
      omega
theorem pick_zero (r : Nat → Nat) (n : Nat) : Pick r n 0 fun _ => false := ⟨tot_none n, fun _ _ _ _ h => by cases h⟩
/-- The best of those that have none. -/
def Best (r : Nat → Nat) (g : Nat → Bool) (t b : Nat) : Prop := b < t ∧ g b = false ∧ ∀ i, i < t → g i = false → i = b ∨ Beats r b i
theorem Pick.more {r : Nat → Nat} {n m b : Nat} {g : Nat → Bool} (h : Pick r n m g) (hb : Best r g n b) : Pick r n (m + 1) (with1 g b) := by
  refine ⟨by rw [cnt_with hb.1 hb.2.1, h.1], fun i j hi hj gi gj => ?_⟩
  have gj' : g j = false ∧ j ≠ b := by simpa [with1] using gj
  have gi' : g i = true ∨ i = b := by simpa [with1] using gi
  rcases gi' with e | rfl
  · exact h.2 i j hi hj e gj'.1
  · rcases hb.2.2 j hj gj'.1 with e | e
    · exact absurd e gj'.2
    · exact e
theorem best_first {r : Nat → Nat} {g : Nat → Bool} {t : Nat} (hn : ∀ i, i < t → g i = true) (h : g t = false) : Best r g (t + 1) t :=
  ⟨by omega, h, fun i hi e => by
    rcases Nat.lt_or_ge i t with h1 | h1
    · rw [hn i h1] at e; cases e
    · exact Or.inl (by omega)⟩
theorem Best.new {r : Nat → Nat} {g : Nat → Bool} {t b : Nat} (hb : Best r g t b) (h : g t = false) (hr : r b < r t) : Best r g (t + 1) t := by
  refine ⟨by omega, h, fun i hi e => ?_⟩
  rcases Nat.lt_or_ge i t with h1 | h1
  · refine Or.inr ?_
    rcases hb.2.2 i h1 e with rfl | e'
    · exact Or.inl hr
    · unfold Beats at e' ⊢; omega
  · exact Or.inl (by omega)
theorem Best.old {r : Nat → Nat} {g : Nat → Bool} {t b : Nat} (hb : Best r g t b) (h : g t = true ∨ r t ≤ r b) : Best r g (t + 1) b := by
  refine ⟨by have := hb.1; omega, hb.2.1, fun i hi e => ?_⟩
  rcases Nat.lt_or_ge i t with h1 | h1
  · exact hb.2.2 i h1 e
  · obtain rfl : i = t := by omega
    rcases h with h | h
    · rw [h] at e; cases e
    · refine Or.inr ?_
      have := hb.1
      unfold Beats; omega

/-- The shares of k pulses, what is certain of each, what is left of each, and how many pulses nobody has. -/
def sh (v : List Int) (k i : Nat) : Nat := k * (at0 v i).natAbs
def qt (v : List Int) (k i : Nat) : Nat := sh v k i / loud v
def rt (v : List Int) (k i : Nat) : Nat := sh v k i % loud v
def lft (v : List Int) (k : Nat) : Nat := k - tot (qt v k) v.length

theorem sh_eq (v : List Int) (k i : Nat) : sh v k i = loud v * qt v k i + rt v k i := (Nat.div_add_mod _ _).symm
theorem sh_tot (v : List Int) (k : Nat) : tot (sh v k) v.length = k * loud v := by
  unfold sh
  rw [tot_mul, ← loud_tot]
theorem rt_lt {v : List Int} (k i : Nat) (h : 0 < loud v) : rt v k i < loud v := Nat.mod_lt _ h
theorem parts (v : List Int) (k : Nat) : loud v * tot (qt v k) v.length + tot (rt v k) v.length = k * loud v := by
  rw [← sh_tot, ← tot_mul, ← tot_add]
  exact tot_congr fun i _ => (sh_eq v k i).symm
theorem qt_le {v : List Int} (k : Nat) (h : k = 0 ∨ 0 < loud v) : tot (qt v k) v.length ≤ k := by
  rcases h with rfl | h
  · rw [tot_congr (g := fun _ => 0) fun i _ => by simp [qt, sh], tot_none]; exact Nat.le_refl _
  · have := parts v k
    rw [Nat.mul_comm k] at this
    exact Nat.le_of_mul_le_mul_left (by omega : loud v * tot (qt v k) v.length ≤ loud v * k) h
theorem rests (v : List Int) (k : Nat) (h : k = 0 ∨ 0 < loud v) : tot (rt v k) v.length = loud v * lft v k ∧ tot (qt v k) v.length + lft v k = k := by
  have h1 := qt_le k h
  have h2 : tot (qt v k) v.length + lft v k = k := by unfold lft; omega
  refine ⟨?_, h2⟩
  have h3 := parts v k
  rw [Nat.mul_comm k] at h3
  have h4 : loud v * k = loud v * tot (qt v k) v.length + loud v * lft v k := by rw [← Nat.mul_add, h2]
  omega
theorem lft_le {v : List Int} (k : Nat) (h : k = 0 ∨ 0 < loud v) : lft v k ≤ v.length := by
  rcases h with rfl | h
  · simp [lft]
  · have h1 := (rests v k (Or.inr h)).1
    have h2 := tot_le (f := rt v k) (g := fun _ => loud v) (n := v.length) fun i _ => Nat.le_of_lt (rt_lt k i h)
    rw [tot_const, h1] at h2
    exact Nat.le_of_mul_le_mul_left h2 h
/-- None goes to a 0. -/
theorem pick_pos {v : List Int} {k : Nat} {g : Nat → Bool} (h : k = 0 ∨ 0 < loud v) (hp : Pick (rt v k) v.length (lft v k) g) {i : Nat} (hi : i < v.length) (hg : g i = true) : 0 < rt v k i := by
  rcases h with rfl | h
  · have h0 : lft v 0 = 0 := by simp [lft]
    rw [h0] at hp
    rw [cnt_none hp.1 i hi] at hg; cases hg
  · apply Classical.byContradiction
    intro hn
    have h0 : rt v k i = 0 := by omega
    have h1 := tot_le (f := fun j => rt v k j + (if j = i then loud v else 0)) (g := fun j => loud v * one (g j)) (n := v.length) fun j hj => by
      by_cases e : j = i
      · subst e; rw [if_pos rfl, h0, hg]; simp [one]
      · rw [if_neg e]
        cases eg : g j with
        | true => have := rt_lt k j h; simp [one]; omega
        | false =>
          have := hp.2 i j hi hj hg eg
          unfold Beats at this
          simp [one]; omega
    rw [tot_add, tot_at _ hi, tot_mul, (rests v k (Or.inr h)).1] at h1
    have h2 : tot (fun j => one (g j)) v.length = lft v k := hp.1
    rw [h2] at h1
    omega

/-- The pulses. -/
def res (v : List Int) (k : Nat) (g : Nat → Bool) (i : Nat) : Int := (at0 v i).sign * ((qt v k i + one (g i) : Nat) : Int)
def Near (v : List Int) (k : Nat) (l : List Int) : Prop := ∃ g, Pick (rt v k) v.length (lft v k) g ∧ l = upto (res v k g) v.length
theorem Near.one {v : List Int} {k : Nat} {l m : List Int} (h : Near v k l) (h' : Near v k m) : l = m := by
  obtain ⟨g, hg, rfl⟩ := h
  obtain ⟨g', hg', rfl⟩ := h'
  exact upto_congr fun i hi => by unfold res; rw [hg.one hg' i hi]
theorem Near.len {v : List Int} {k : Nat} {l : List Int} (h : Near v k l) : l.length = v.length := by
  obtain ⟨g, hg, rfl⟩ := h
  exact upto_length _ _
theorem res_abs {v : List Int} {k : Nat} {g : Nat → Bool} (h : k = 0 ∨ 0 < loud v) (hp : Pick (rt v k) v.length (lft v k) g) {i : Nat} (hi : i < v.length) : (res v k g i).natAbs = qt v k i + one (g i) := by
  unfold res
  rw [Int.natAbs_mul, Int.natAbs_natCast]
  by_cases e : at0 v i = 0
  · have e1 : qt v k i = 0 := by simp [qt, sh, e]
    have e2 : rt v k i = 0 := by simp [rt, sh, e]
    have e3 : g i = false := by
      cases eg : g i with
      | false => rfl
      | true => have := pick_pos h hp hi eg; omega
    rw [e1, e3]; simp [one]
  · rw [Int.natAbs_sign_of_ne_zero e, Nat.one_mul]
theorem Near.loud {v : List Int} {k : Nat} {l : List Int} (h : Near v k l) (hk : k = 0 ∨ 0 < loud v) : loud l = k := by
  obtain ⟨g, hg, rfl⟩ := h
  rw [loud_tot, upto_length, tot_congr (g := fun i => qt v k i + Nea.one (g i)) fun i hi => by rw [upto_at _ hi, res_abs hk hg hi], tot_add]
  have := (rests v k hk).2
  have h2 : tot (fun j => Nea.one (g j)) v.length = lft v k := hg.1
  omega
theorem Near.sign {v : List Int} {k : Nat} {l : List Int} (h : Near v k l) {i : Nat} (hi : i < v.length) : (at0 l i < 0 → at0 v i < 0) ∧ (0 < at0 l i → 0 < at0 v i) := by
  obtain ⟨g, hg, rfl⟩ := h
  rw [upto_at _ hi]
  unfold res
  obtain ⟨N, hN⟩ : ∃ N, qt v k i + Nea.one (g i) = N := ⟨_, rfl⟩
  rw [hN]
  rcases Int.lt_trichotomy (at0 v i) 0 with e | e | e
  · rw [Int.sign_eq_neg_one_of_neg e]; omega
  · rw [e]; simp
  · rw [Int.sign_eq_one_of_pos e]; omega

/-- How far. -/
def far1 (v : List Int) (k : Nat) (p : List Int) (i : Nat) : Nat := ((k : Int) * at0 v i - (loud v : Int) * at0 p i).natAbs
def far (v : List Int) (k : Nat) (p : List Int) : Nat := tot (far1 v k p) v.length

theorem bound {r : Nat → Nat} {g : Nat → Bool} (M : Nat) : ∀ n, (∀ i, i < n → r i ≤ M) → ∃ c, c ≤ M ∧ (∀ j, j < n → g j = false → r j ≤ c) ∧ ∀ x : Nat, (∀ j, j < n → g j = false → r j ≤ x) → c ≤ x := by
  intro n
  induction n with
  | zero => intro _; exact ⟨0, Nat.zero_le _, fun j hj => by omega, fun x _ => Nat.zero_le _⟩
  | succ n ih =>
    intro hM
    obtain ⟨c, c1, c2, c3⟩ := ih fun i hi => hM i (by omega)
    cases e : g n with
    | true =>
      refine ⟨c, c1, fun j hj hg => ?_, fun x hx => c3 x fun j hj => hx j (by omega)⟩
      rcases Nat.lt_or_ge j n with h | h
      · exact c2 j h hg
      · obtain rfl : j = n := by omega
        rw [e] at hg; cases hg
    | false =>
      refine ⟨max c (r n), Nat.max_le.2 ⟨c1, hM n (by omega)⟩, fun j hj hg => ?_, fun x hx => Nat.max_le.2 ⟨c3 x fun j hj => hx j (by omega), hx n (by omega) e⟩⟩
      rcases Nat.lt_or_ge j n with h | h
      · exact Nat.le_trans (c2 j h hg) (Nat.le_max_left _ _)
      · obtain rfl : j = n := by omega
        exact Nat.le_max_right _ _

/-- One number: no other number of pulses is nearer, a pulse's price paid. -/
theorem near1 (M q r c y g : Int) (r0 : 0 ≤ r) (r1 : r < M) (c0 : 0 ≤ c) (c1 : c ≤ M) (hg : (g = 1 ∧ c ≤ r) ∨ (g = 0 ∧ r ≤ c)) :
    ((M * q + r - M * (q + g)).natAbs : Int) + (M - 2 * c) * (y - (q + g)) ≤ ((M * q + r - M * y).natAbs : Int) := by
  obtain ⟨t, rfl⟩ : ∃ t, y = q + t := ⟨y - q, by omega⟩
  have e1 : M * q + r - M * (q + g) = r - M * g := by rw [Int.mul_add]; omega
  have e2 : M * q + r - M * (q + t) = r - M * t := by rw [Int.mul_add]; omega
  have e3 : (M - 2 * c) * (q + t - (q + g)) = M * t - M * g - 2 * (c * t) + 2 * (c * g) := by
    rw [show q + t - (q + g) = t - g by omega, Int.sub_mul, Int.mul_sub, Int.mul_sub, Int.mul_assoc, Int.mul_assoc]; omega
  rw [e1, e2, e3]
  rcases (by omega : 0 < t ∨ t ≤ 0) with h | h
  · have p1 : 0 ≤ M * (t - 1) := Int.mul_nonneg (by omega) (by omega)
    have p2 : 0 ≤ c * (t - 1) := Int.mul_nonneg c0 (by omega)
    rw [Int.mul_sub, Int.mul_one] at p1 p2
    rcases hg with ⟨rfl, hg⟩ | ⟨rfl, hg⟩
    · rw [Int.mul_one, Int.mul_one]; omega
    · rw [Int.mul_zero, Int.mul_zero]; omega
  · have p1 : 0 ≤ (M - c) * (-t) := Int.mul_nonneg (by omega) (by omega)
    have p2 : 0 ≤ c * (-t) := Int.mul_nonneg c0 (by omega)
    rw [Int.sub_mul, Int.mul_neg, Int.mul_neg] at p1
    rw [Int.mul_neg] at p2
    rcases hg with ⟨rfl, hg⟩ | ⟨rfl, hg⟩
    · rw [Int.mul_one, Int.mul_one]; omega
    · rw [Int.mul_zero, Int.mul_zero]; omega

theorem abs_sub (M x y : Int) (hM : 0 ≤ M) (k : Int) (hk : 0 ≤ k) : (k * (x.natAbs : Int) - M * (y.natAbs : Int)).natAbs ≤ (k * x - M * y).natAbs := by
  have e1 : k * (x.natAbs : Int) = ((k * x).natAbs : Int) := by rw [Int.natAbs_mul, Int.natCast_mul, Int.natAbs_of_nonneg hk]
  have e2 : M * (y.natAbs : Int) = ((M * y).natAbs : Int) := by rw [Int.natAbs_mul, Int.natCast_mul, Int.natAbs_of_nonneg hM]
  rw [e1, e2]
  omega
theorem abs_sub_same (M x y : Int) (hM : 0 ≤ M) (k : Int) (hk : 0 ≤ k) (h : (y < 0 → x < 0) ∧ (0 < y → 0 < x)) : (k * (x.natAbs : Int) - M * (y.natAbs : Int)).natAbs = (k * x - M * y).natAbs := by
  rcases Int.lt_trichotomy y 0 with e | e | e
  · have hx := h.1 e
    rw [show (x.natAbs : Int) = -x by omega, show (y.natAbs : Int) = -y by omega, Int.mul_neg, Int.mul_neg]; omega
  · subst e
    have e1 : k * (x.natAbs : Int) = ((k * x).natAbs : Int) := by rw [Int.natAbs_mul, Int.natCast_mul, Int.natAbs_of_nonneg hk]
    rw [e1]; simp
  · have hx := h.2 e
    rw [show (x.natAbs : Int) = x by omega, show (y.natAbs : Int) = y by omega]

/-- NONE IS NEARER. -/
theorem Near.best {v : List Int} {k : Nat} {l q : List Int} (h : Near v k l) (hk : k = 0 ∨ 0 < Pls.loud v) (hq : q.length = v.length) (hl : Pls.loud q = k) : far v k l ≤ far v k q := by
  rcases Nat.eq_zero_or_pos (Pls.loud v) with hM | hM
  · have : ∀ i, i < v.length → at0 v i = 0 := fun i hi => by
      rw [loud_tot] at hM
      have := tot_zero hM i hi
      omega
    rw [show far v k l = 0 from by
      unfold far
      rw [tot_congr (g := fun _ => 0) fun i hi => by unfold far1; rw [hM, this i hi]; simp, tot_none]]
    exact Nat.zero_le _
  · have hll := h.loud hk
    have hsg := fun i hi => h.sign (i := i) hi
    have hlen := h.len
    obtain ⟨g, hg, rfl⟩ := h
    obtain ⟨c, c1, c2, c3⟩ := bound (r := rt v k) (g := g) (Pls.loud v) v.length fun i _ => Nat.le_of_lt (rt_lt k i hM)
    have hone : ∀ i, i < v.length → (far1 v k (upto (res v k g) v.length) i : Int) + ((Pls.loud v : Int) - 2 * (c : Int)) * ((at0 q i).natAbs : Int) ≤ (far1 v k q i : Int) + ((Pls.loud v : Int) - 2 * (c : Int)) * ((at0 (upto (res v k g) v.length) i).natAbs : Int) := by
      intro i hi
      have s1 := abs_sub_same (Pls.loud v) (at0 v i) (at0 (upto (res v k g) v.length) i) (by omega) k (by omega) (hsg i hi)
      have s2 := abs_sub (Pls.loud v) (at0 v i) (at0 q i) (by omega) k (by omega)
      have s3 : (at0 (upto (res v k g) v.length) i).natAbs = qt v k i + Nea.one (g i) := by rw [upto_at _ hi, res_abs hk hg hi]
      have s4 : (k : Int) * ((at0 v i).natAbs : Int) = (Pls.loud v : Int) * (qt v k i : Int) + (rt v k i : Int) := by
        have := sh_eq v k i
        unfold sh at this
        rw [← Int.natCast_mul, this]; simp
      have s5 := near1 (Pls.loud v) (qt v k i) (rt v k i) c ((at0 q i).natAbs : Int) (Nea.one (g i) : Int) (by omega) (by have := rt_lt k i hM; omega) (by omega) (by omega) (by
        cases eg : g i with
        | true => exact Or.inl ⟨by simp [Nea.one], by
            have := c3 (rt v k i) fun j hj ej => by
              have := hg.2 i j hi hj eg ej
              unfold Beats at this; omega
            omega⟩
        | false => exact Or.inr ⟨by simp [Nea.one], by have := c2 i hi eg; omega⟩)
      unfold far1
      rw [← s1, s3, s4]
      rw [s4] at s2
      rw [Int.mul_sub] at s5
      rw [show ((qt v k i + Nea.one (g i) : Nat) : Int) = (qt v k i : Int) + (Nea.one (g i) : Int) by omega]
      omega
    have hsum : ∀ n, n ≤ v.length → (tot (far1 v k (upto (res v k g) v.length)) n : Int) + ((Pls.loud v : Int) - 2 * (c : Int)) * (tot (fun i => (at0 q i).natAbs) n : Int) ≤ (tot (far1 v k q) n : Int) + ((Pls.loud v : Int) - 2 * (c : Int)) * (tot (fun i => (at0 (upto (res v k g) v.length) i).natAbs) n : Int) := by
      intro n
      induction n with
      | zero => intro _; simp [tot]
      | succ n ih =>
        intro hn
        have i1 := ih (by omega)
        have i2 := hone n (by omega)
        simp only [tot, Int.natCast_add, Int.mul_add]
        omega
    have hs := hsum v.length (Nat.le_refl _)
    have q1 : tot (fun i => (at0 q i).natAbs) v.length = k := by rw [← hq, ← loud_tot, hl]
    have q2 : tot (fun i => (at0 (upto (res v k g) v.length) i).natAbs) v.length = k := by
      have := loud_tot (upto (res v k g) v.length)
      rw [hll, hlen] at this
      exact this.symm
    rw [q1, q2] at hs
    unfold far
    omega

/-- WHAT IS A WHOLE ROW ALREADY IS ITS OWN. -/
theorem at0_map (by_ : Int) (p : List Int) (i : Nat) : at0 (p.map (by_ * ·)) i = by_ * at0 p i := by
  unfold at0
  rw [List.getElem?_map]
  cases p[i]? with
  | none => simp
  | some x => rfl
theorem loud_map (c : Nat) (p : List Int) : Pls.loud (p.map ((c : Int) * ·)) = c * Pls.loud p := by
  rw [loud_tot, loud_tot p, List.length_map, ← tot_mul]
  exact tot_congr fun i _ => by rw [at0_map, Int.natAbs_mul]; simp
theorem whole_sh (c : Nat) (p : List Int) (i : Nat) (hc : 0 < c) (hk : 0 < Pls.loud p) : qt (p.map ((c : Int) * ·)) (Pls.loud p) i = (at0 p i).natAbs ∧ rt (p.map ((c : Int) * ·)) (Pls.loud p) i = 0 := by
  unfold qt rt sh
  rw [loud_map, at0_map, Int.natAbs_mul, Int.natAbs_natCast, ← Nat.mul_assoc, Nat.mul_comm (Pls.loud p) c, Nat.mul_div_cancel_left _ (Nat.mul_pos hc hk), Nat.mul_mod_right]
  exact ⟨rfl, rfl⟩
theorem whole {c : Nat} {p l : List Int} (hc : 0 < c) (hk : 0 < Pls.loud p) (h : Near (p.map ((c : Int) * ·)) (Pls.loud p) l) : l = p := by
  obtain ⟨g, hg, rfl⟩ := h
  have h0 : lft (p.map ((c : Int) * ·)) (Pls.loud p) = 0 := by
    unfold lft
    rw [tot_congr (g := fun i => (at0 p i).natAbs) fun i _ => (whole_sh c p i hc hk).1, List.length_map, ← loud_tot]; omega
  rw [h0] at hg
  refine eq_of_at (by rw [upto_length, List.length_map]) fun i hi => ?_
  rw [upto_length] at hi
  rw [upto_at _ hi]
  unfold res
  rw [cnt_none hg.1 i hi, (whole_sh c p i hc hk).1, at0_map, Int.sign_mul, Int.sign_natCast_of_ne_zero (by omega), Int.one_mul]
  simp [Nea.one, Int.sign_mul_natAbs]
theorem whole_far (c : Nat) (p : List Int) : far (p.map ((c : Int) * ·)) (Pls.loud p) p = 0 := by
  unfold far
  rw [tot_congr (g := fun _ => 0) fun i _ => by
    unfold far1
    rw [loud_map, at0_map, Int.natCast_mul, ← Int.mul_assoc, Int.mul_comm (Pls.loud p : Int) c]
    simp, tot_none]

end Go.Proofs.YtjojeifoddonnakDoor.Nea

/-
  How loud the first numbers are; the fault of a row of pulses. No program here.
-/
namespace Go.Proofs.YtjojeifoddonnakDoor.Pls
open Go.Proofs.YtjojeifoddonnakDoor.Tre Go.Proofs.YtjojeifoddonnakDoor.Cnt
set_option linter.unusedVariables false

theorem loud_step {l : List Int} {k : Nat} (hk : k < l.length) : loud (l.take (k + 1)) = loud (l.take k) + l[k].natAbs := by
  rw [List.take_succ_eq_append_getElem hk, loud_append]
  simp [loud]
theorem loud_in {b : Nat} {l : List Int} (h : In (b : Int) l) : loud l ≤ b * l.length := by
  induction l with
  | nil => simp [loud]
  | cons x r ih =>
    have h1 := h x (by simp)
    have h2 := ih fun n hn => h n (by simp [hn])
    simp only [loud, List.length_cons, Nat.mul_add]
    omega

/-- The fault of a row: 0 where there is none. -/
def fault (l : List Int) : Int := if 6 < l.length then 4 else if l.any (out 8) = true then 1 else if 8 < loud l then 4 else 0
theorem fault_ok {l : List Int} (h : fault l = 0) : l.length ≤ 6 ∧ In 8 l ∧ loud l ≤ 8 := by
  unfold fault at h
  split at h
  · omega
  · split at h
    · omega
    · split at h
      · omega
      · rename_i h1 h2 h3
        exact ⟨by omega, in_of_any (by simpa using h2), by omega⟩
theorem fault_none {l : List Int} (h1 : l.length ≤ 6) (h2 : In 8 l) (h3 : loud l ≤ 8) : fault l = 0 := by
  unfold fault
  rw [if_neg (by omega), if_neg (by rw [any_of_in h2]; simp), if_neg (by omega)]
theorem loud_all {b : Int} {l : List Int} (h : (loud l : Int) ≤ b) : In b l := by
  intro n hn
  induction l with
  | nil => cases hn
  | cons x r ih =>
    simp only [loud] at h
    rcases List.mem_cons.1 hn with rfl | hn'
    · omega
    · exact ih (by omega) hn'
theorem is_right {n k : Nat} {rank : Int} {l : List Int} (hn : n ≤ 6) (hk : k ≤ 8) (h : Is n k rank l) : fault l = 0 := by
  obtain ⟨rfl, rfl, _⟩ := h
  exact fault_none hn (loud_all (by omega)) hk

end Go.Proofs.YtjojeifoddonnakDoor.Pls

/-
  The numbers of chapter 13: numbers in so many bits, bits as bytes. No program here.
-/
namespace Go.Proofs.YtjojeifoddonnakDoor.Wid
open Go.Proofs.YtjojeifoddonnakDoor.Tre Go.Proofs.YtjojeifoddonnakDoor.Bnd
set_option linter.unusedVariables false

theorem two_pos (n : Nat) : (0 : Int) < 2 ^ n := Int.pow_pos (by omega)
theorem two_succ (n : Nat) : (2 : Int) ^ (n + 1) = 2 * 2 ^ n := by rw [Int.pow_succ]; omega
/-- In so many bits, the high ones first. -/
def bin : Nat → Int → List Int
  | 0, _ => []
  | w + 1, n => n / 2 ^ w :: bin w (n % 2 ^ w)
/-- The number of bits, behind a number. -/
def num : Int → List Int → Int
  | n, [] => n
  | n, b :: l => num (2 * n + b) l
/-- Bits. -/
def Bit (l : List Int) : Prop := ∀ b ∈ l, b = 0 ∨ b = 1

theorem bin_length (w : Nat) (n : Int) : (bin w n).length = w := by
  induction w generalizing n with
  | zero => rfl
  | succ w ih => rw [bin, List.length_cons, ih]
theorem div_bit {w : Nat} {n : Int} (h0 : 0 ≤ n) (h1 : n < 2 ^ (w + 1)) : n / 2 ^ w = 0 ∨ n / 2 ^ w = 1 := by
  have hp := two_pos w
  rw [two_succ] at h1
  have h2 : 0 ≤ n / 2 ^ w := Int.ediv_nonneg h0 (by omega)
  have h3 : n / 2 ^ w < 2 := (Int.ediv_lt_iff_lt_mul hp).2 (by omega)
  omega
theorem mod_in {w : Nat} (n : Int) : 0 ≤ n % 2 ^ w ∧ n % 2 ^ w < 2 ^ w := ⟨Int.emod_nonneg _ (by have := two_pos w; omega), Int.emod_lt_of_pos _ (two_pos w)⟩
theorem bin_bit {w : Nat} {n : Int} (h0 : 0 ≤ n) (h1 : n < 2 ^ w) : Bit (bin w n) := by
  induction w generalizing n with
  | zero => intro b hb; simp [bin] at hb
  | succ w ih =>
    intro b hb
    rw [bin] at hb
    rcases List.mem_cons.1 hb with e | e
    · rw [e]; exact div_bit h0 h1
    · exact ih (mod_in n).1 (mod_in n).2 b e
theorem num_step (n : Int) (l : List Int) : num n l = n * 2 ^ l.length + num 0 l := by
  induction l generalizing n with
  | nil => simp [num]
  | cons b l ih =>
    rw [num, num, ih (2 * n + b), ih (2 * 0 + b), List.length_cons, two_succ]
    have e1 : (2 * n + b) * 2 ^ l.length = n * (2 * 2 ^ l.length) + b * 2 ^ l.length := by
      rw [Int.add_mul, Int.mul_comm 2 n, Int.mul_assoc]
    have e2 : (2 * 0 + b) * 2 ^ l.length = b * 2 ^ l.length := by simp
    rw [e1, e2]
    omega
theorem num_append (n : Int) (l m : List Int) : num n (l ++ m) = num (num n l) m := by
  induction l generalizing n with
  | nil => rfl
  | cons b l ih => rw [List.cons_append, num, num, ih]
theorem num_bin {w : Nat} {n : Int} (h0 : 0 ≤ n) (h1 : n < 2 ^ w) : num 0 (bin w n) = n := by
  induction w generalizing n with
  | zero => simp [bin, num]; simp at h1; omega
  | succ w ih =>
    rw [bin, num, num_step, ih (mod_in n).1 (mod_in n).2, bin_length]
    have := Int.emod_add_mul_ediv n (2 ^ w)
    have e : (2 * 0 + n / 2 ^ w) * 2 ^ w = 2 ^ w * (n / 2 ^ w) := by rw [Int.mul_comm]; simp
    omega
theorem num_in {l : List Int} (h : Bit l) : 0 ≤ num 0 l ∧ num 0 l < 2 ^ l.length := by
  induction l with
  | nil => simp [num]
  | cons b l ih =>
    have h1 := ih fun c hc => h c (by simp [hc])
    have hb := h b (by simp)
    rw [num, num_step, List.length_cons, two_succ]
    have e : (2 * 0 + b) * 2 ^ l.length = b * 2 ^ l.length := by simp
    rw [e]
    rcases hb with rfl | rfl
    · simp; omega
    · simp; omega
theorem bin_num {l : List Int} (h : Bit l) : bin l.length (num 0 l) = l := by
  induction l with
  | nil => rfl
  | cons b l ih =>
    have h1 := num_in (l := l) fun c hc => h c (by simp [hc])
    have h2 := ih fun c hc => h c (by simp [hc])
    have hp := two_pos l.length
    have e : num 0 (b :: l) = num 0 l + 2 ^ l.length * b := by
      rw [num, num_step]
      have e : (2 * 0 + b) * 2 ^ l.length = 2 ^ l.length * b := by rw [Int.mul_comm]; simp
      omega
    have e1 : num 0 (b :: l) / 2 ^ l.length = b := by
      rw [e, Int.add_mul_ediv_left _ _ (by omega), Int.ediv_eq_zero_of_lt h1.1 h1.2]
      omega
    have e2 : num 0 (b :: l) % 2 ^ l.length = num 0 l := by
      rw [e, Int.add_mul_emod_self_left, Int.emod_eq_of_lt h1.1 h1.2]
    rw [List.length_cons, bin, e1, e2, h2]
theorem bit_take {l : List Int} (h : Bit l) (k : Nat) : Bit (l.take k) := fun b hb => h b (List.mem_of_mem_take hb)
theorem bit_drop {l : List Int} (h : Bit l) (k : Nat) : Bit (l.drop k) := fun b hb => h b (List.mem_of_mem_drop hb)
theorem bit_at {l : List Int} (h : Bit l) (i : Nat) : at0 l i = 0 ∨ at0 l i = 1 := by
  by_cases hi : i < l.length
  · have e : at0 l i = l[i] := by simp [at0, hi]
    rw [e]; exact h _ (List.getElem_mem hi)
  · left; simp [at0, List.getElem?_eq_none (Nat.le_of_not_lt hi)]

/-- A number goes into its width. -/
def Fit (n w : Int) : Prop := 0 ≤ w ∧ w ≤ 20 ∧ 0 ≤ n ∧ n < 2 ^ w.toNat
/-- Widths that may be. -/
def Wds (ws : List Int) : Prop := ∀ i, i < ws.length → 0 ≤ at0 ws i ∧ at0 ws i ≤ 20
/-- Each number in its bits. -/
def bins (l ws : List Int) : List (List Int) := (List.range ws.length).map fun i => bin (at0 ws i).toNat (at0 l i)
def puts (l ws : List Int) : List Int := (bins l ws).flatten
theorem bins_length (l ws : List Int) : (bins l ws).length = ws.length := by simp [bins]
theorem bins_at (l ws : List Int) {i : Nat} (h : i < ws.length) : rowAt (bins l ws) i = bin (at0 ws i).toNat (at0 l i) := by simp [rowAt, bins, h]
theorem bins_shaped {ws : List Int} (l : List Int) (h : Wds ws) : Shaped (bins l ws) ws := by
  refine ⟨bins_length l ws, fun i hi => ?_⟩
  rw [bins_at l ws hi, bin_length]
  have := h i hi
  omega
/-- .. the first j numbers. -/
def putUp (l ws : List Int) (j : Nat) : List Int := ((bins l ws).take j).flatten
theorem putUp_zero (l ws : List Int) : putUp l ws 0 = [] := rfl
theorem putUp_step (l ws : List Int) {j : Nat} (h : j < ws.length) : putUp l ws (j + 1) = putUp l ws j ++ bin (at0 ws j).toNat (at0 l j) := by
  unfold putUp
  rw [flat_step (by rw [bins_length]; exact h), bins_at l ws h]
theorem putUp_all (l ws : List Int) : putUp l ws ws.length = puts l ws := by
  unfold putUp puts
  rw [List.take_of_length_le (by rw [bins_length]; exact Nat.le_refl _)]
theorem putUp_length {ws : List Int} (l : List Int) (h : Wds ws) {j : Nat} (hj : j ≤ ws.length) : (putUp l ws j).length = pre ws j := (bins_shaped l h).pre hj
theorem puts_length {ws : List Int} (l : List Int) (h : Wds ws) : (puts l ws).length = total ws := (bins_shaped l h).total
theorem puts_bit {l ws : List Int} (h : ∀ i, i < ws.length → Fit (at0 l i) (at0 ws i)) : Bit (puts l ws) := by
  intro b hb
  unfold puts at hb
  obtain ⟨r, hr, hb⟩ := List.mem_flatten.1 hb
  obtain ⟨i, hi, rfl⟩ := List.mem_map.1 hr
  obtain ⟨h1, h2, h3, h4⟩ := h i (List.mem_range.1 hi)
  exact bin_bit h3 h4 b hb

/-- The numbers of bits. -/
def gets (bs ws : List Int) : List Int := upto (fun i => num 0 (cutAt bs ws i)) ws.length
theorem gets_length (bs ws : List Int) : (gets bs ws).length = ws.length := upto_length _ _
/-- Put, and got. -/
theorem gets_puts {l ws : List Int} (hl : l.length = ws.length) (h : ∀ i, i < ws.length → Fit (at0 l i) (at0 ws i)) : gets (puts l ws) ws = l := by
  have hs : Wds ws := fun i hi => ⟨(h i hi).1, (h i hi).2.1⟩
  refine eq_of_at (by rw [gets_length, hl]) fun i hi => ?_
  rw [gets_length] at hi
  unfold gets
  rw [upto_at _ hi]
  have e := cuts_at (puts l ws) ws hi
  unfold puts at e ⊢
  rw [cuts_join (bins_shaped l hs)] at e
  rw [← e, bins_at l ws hi]
  obtain ⟨h1, h2, h3, h4⟩ := h i hi
  exact num_bin h3 h4
/-- Got, and put. -/
theorem gets_fit {bs ws : List Int} (hb : Bit bs) (hs : Wds ws) {i : Nat} (hi : i < ws.length) (ht : total ws = bs.length) : Fit (at0 (gets bs ws) i) (at0 ws i) := by
  have h1 := num_in (l := cutAt bs ws i) (bit_take (bit_drop hb _) _)
  rw [cutAt_length ht hi] at h1
  unfold gets
  rw [upto_at _ hi]
  exact ⟨(hs i hi).1, (hs i hi).2, h1.1, h1.2⟩
theorem puts_gets {bs ws : List Int} (hb : Bit bs) (hs : Wds ws) (ht : total ws = bs.length) : puts (gets bs ws) ws = bs := by
  have e : bins (gets bs ws) ws = cuts bs ws := by
    unfold bins cuts
    apply List.map_congr_left
    intro i hi
    have hi := List.mem_range.1 hi
    unfold gets
    rw [upto_at _ hi, ← cutAt_length ht hi]
    exact bin_num (bit_take (bit_drop hb _) _)
  unfold puts
  rw [e]
  exact join_cuts ht

/-- Eight of bits (noughts behind the last ones), and their byte. -/
def eight (bs : List Int) (i : Nat) : List Int := upto (fun k => at0 bs (8 * i + k)) 8
def oct (bs : List Int) : List Int := upto (fun i => num 0 (eight bs i)) ((bs.length + 7) / 8)
theorem eight_length (bs : List Int) (i : Nat) : (eight bs i).length = 8 := upto_length _ _
theorem eight_bit {bs : List Int} (h : Bit bs) (i : Nat) : Bit (eight bs i) := by
  intro b hb
  obtain ⟨k, hk, rfl⟩ := List.mem_map.1 hb
  exact bit_at h _
theorem oct_length (bs : List Int) : (oct bs).length = (bs.length + 7) / 8 := upto_length _ _
theorem oct_in {bs : List Int} (h : Bit bs) : ∀ b ∈ oct bs, 0 ≤ b ∧ b < 256 := by
  intro b hb
  obtain ⟨i, hi, rfl⟩ := List.mem_map.1 hb
  have := num_in (eight_bit h i)
  rw [eight_length] at this
  exact ⟨this.1, by have h2 := this.2; omega⟩
/-- All bits of bytes. -/
def opnF (b : List Int) (j : Nat) : Int := at0 (bin 8 (at0 b (j / 8))) (j % 8)
def opn (b : List Int) : List Int := upto (opnF b) (8 * b.length)
theorem opn_length (b : List Int) : (opn b).length = 8 * b.length := upto_length _ _
theorem opn_bit {b : List Int} (h : ∀ x ∈ b, 0 ≤ x ∧ x < 256) : Bit (opn b) := by
  intro x hx
  obtain ⟨j, hj, rfl⟩ := List.mem_map.1 hx
  have hj := List.mem_range.1 hj
  unfold opnF
  apply bit_at
  have e : at0 b (j / 8) = b[j / 8]'(by omega) := by
    have : j / 8 < b.length := by omega
    simp [at0, this]
  have h2 := h _ (List.getElem_mem (show j / 8 < b.length by omega))
  rw [e]
  exact bin_bit h2.1 (by have := h2.2; omega)
theorem opnF_at (b : List Int) (i k : Nat) (hk : k < 8) : opnF b (8 * i + k) = at0 (bin 8 (at0 b i)) k := by
  unfold opnF
  rw [show (8 * i + k) / 8 = i by omega, show (8 * i + k) % 8 = k by omega]
/-- What is behind the last ones is nought. -/
theorem at0_none {l : List Int} {i : Nat} (h : l.length ≤ i) : at0 l i = 0 := by simp [at0, List.getElem?_eq_none h]
theorem opn_oct {bs : List Int} (h : Bit bs) (j : Nat) (hj : j < 8 * ((bs.length + 7) / 8)) : opnF (oct bs) j = at0 bs j := by
  have hi : j / 8 < (bs.length + 7) / 8 := by omega
  unfold opnF
  have e : at0 (oct bs) (j / 8) = num 0 (eight bs (j / 8)) := by unfold oct; rw [upto_at _ hi]
  have e2 := bin_num (eight_bit h (j / 8))
  rw [eight_length] at e2
  rw [e, e2]
  unfold eight
  rw [upto_at _ (show j % 8 < 8 by omega)]
  congr 1
  omega
theorem take_upto (f : Nat → Int) {n k : Nat} (h : k ≤ n) : (upto f n).take k = upto f k := by
  refine eq_of_at (by rw [List.length_take, upto_length, upto_length]; omega) fun i hi => ?_
  rw [List.length_take, upto_length] at hi
  rw [upto_at _ (by omega)]
  have e : at0 ((upto f n).take k) i = at0 (upto f n) i := by simp [at0, show i < k by omega]
  rw [e, upto_at _ (by omega)]
/-- Bits of the bytes of bits. -/
theorem bits_oct {bs : List Int} (h : Bit bs) : (opn (oct bs)).take bs.length = bs := by
  unfold opn
  rw [oct_length, take_upto _ (by omega)]
  refine eq_of_at (by rw [upto_length]) fun i hi => ?_
  rw [upto_length] at hi
  rw [upto_at _ hi]
  exact opn_oct h i (by omega)
/-- Bytes of the bits of bytes. -/
theorem oct_bits {b : List Int} (hb : ∀ x ∈ b, 0 ≤ x ∧ x < 256) {n : Nat} (hn : b.length = (n + 7) / 8) (h : ∀ j, n ≤ j → j < 8 * b.length → opnF b j ≠ 1) : oct ((opn b).take n) = b := by
  have hlen : ((opn b).take n).length = n := by rw [List.length_take, opn_length]; omega
  refine eq_of_at (by rw [oct_length, hlen, hn]) fun i hi => ?_
  rw [oct_length, hlen] at hi
  unfold oct
  rw [hlen, upto_at _ hi]
  have hib : i < b.length := by omega
  have e : eight ((opn b).take n) i = bin 8 (at0 b i) := by
    refine eq_of_at (by rw [eight_length, bin_length]) fun k hk => ?_
    rw [eight_length] at hk
    unfold eight
    rw [upto_at _ hk, ← opnF_at b i k hk]
    by_cases hx : 8 * i + k < n
    · have e : at0 ((opn b).take n) (8 * i + k) = at0 (opn b) (8 * i + k) := by simp [at0, hx]
      rw [e]
      unfold opn
      exact upto_at _ (by omega)
    · rw [at0_none (by rw [hlen]; omega)]
      have h1 := h (8 * i + k) (by omega) (by omega)
      have h2 := bit_at (opn_bit hb) (8 * i + k)
      unfold opn at h2
      rw [upto_at _ (by omega)] at h2
      omega
  have e2 : at0 b i = b[i] := by simp [at0, hib]
  have h2 := hb _ (List.getElem_mem hib)
  rw [e]
  exact num_bin (by rw [e2]; exact h2.1) (by rw [e2]; have := h2.2; omega)

/-- Neither 0 nor 1. -/
def nob (b : Int) : Bool := decide (b < 0) || decide (1 < b)
/-- The fault of bits. -/
def bsF (bs : List Int) : Int := if 400 < bs.length then 4 else if bs.any nob = true then 1 else 0
theorem nob_any {bs : List Int} : bs.any nob = false ↔ Bit bs := by
  rw [List.any_eq_false]
  constructor
  · intro h b hb
    have := h b hb
    simp [nob] at this
    omega
  · intro h b hb
    have := h b hb
    simp [nob]
    omega
theorem bsF_zero {bs : List Int} : bsF bs = 0 ↔ bs.length ≤ 400 ∧ Bit bs := by
  unfold bsF
  constructor
  · intro h
    split at h
    · omega
    · split at h
      · omega
      · rename_i h1 h2
        exact ⟨by omega, nob_any.1 (by simpa using h2)⟩
  · intro ⟨h1, h2⟩
    rw [if_neg (by omega), if_neg (by rw [nob_any.2 h2]; simp)]
theorem bsF_in (bs : List Int) : bsF bs = 0 ∨ bsF bs = 1 ∨ bsF bs = 4 := by
  unfold bsF
  split
  · omega
  · split <;> omega
instance (n w : Int) : Decidable (Fit n w) := by unfold Fit; infer_instance
/-- The fault of numbers and widths, one by one. -/
def pf : List Int → List Int → Int
  | n :: l, w :: ws => if Fit n w then pf l ws else 1
  | _, _ => 0
theorem pf_in (l ws : List Int) : pf l ws = 0 ∨ pf l ws = 1 := by
  induction l generalizing ws with
  | nil => cases ws <;> exact Or.inl rfl
  | cons n l ih =>
    cases ws with
    | nil => exact Or.inl rfl
    | cons w ws =>
      rw [pf]
      split
      · exact ih ws
      · exact Or.inr rfl
theorem pf_zero {l ws : List Int} (hl : l.length = ws.length) : pf l ws = 0 ↔ ∀ i, i < ws.length → Fit (at0 l i) (at0 ws i) := by
  induction l generalizing ws with
  | nil =>
    cases ws with
    | nil => exact ⟨fun _ i hi => by simp at hi, fun _ => rfl⟩
    | cons w ws => simp at hl
  | cons n l ih =>
    cases ws with
    | nil => simp at hl
    | cons w ws =>
      have hl' : l.length = ws.length := by simpa using hl
      rw [pf]
      constructor
      · intro h
        split at h
        · rename_i h1
          intro i hi
          cases i with
          | zero => simpa [at0] using h1
          | succ i =>
            have := (ih hl').1 h i (by simpa using hi)
            simpa [at0] using this
        · omega
      · intro h
        have h0 := h 0 (by simp)
        rw [if_pos (by simpa [at0] using h0)]
        exact (ih hl').2 fun i hi => by
          have := h (i + 1) (by simpa using hi)
          simpa [at0] using this
/-- The fault of Put. -/
def putF (l ws : List Int) : Int := if l.length = ws.length then (if pf l ws = 0 then (if 400 < (puts l ws).length then 4 else 0) else 1) else 3
theorem putF_in (l ws : List Int) : putF l ws = 0 ∨ putF l ws = 1 ∨ putF l ws = 3 ∨ putF l ws = 4 := by
  unfold putF
  split
  · split
    · split <;> omega
    · omega
  · omega
theorem putF_zero {l ws : List Int} : putF l ws = 0 ↔ l.length = ws.length ∧ (∀ i, i < ws.length → Fit (at0 l i) (at0 ws i)) ∧ (puts l ws).length ≤ 400 := by
  unfold putF
  constructor
  · intro h
    split at h
    · split at h
      · split at h
        · omega
        · rename_i h1 h2 h3
          exact ⟨h1, (pf_zero h1).1 h2, by omega⟩
      · omega
    · omega
  · intro ⟨h1, h2, h3⟩
    rw [if_pos h1, if_pos ((pf_zero h1).2 h2), if_neg (by omega)]
/-- The fault of widths; of Get. -/
def now (w : Int) : Bool := decide (w < 0) || decide (20 < w)
theorem now_any {ws : List Int} : ws.any now = false ↔ Wds ws := by
  rw [List.any_eq_false]
  constructor
  · intro h i hi
    have e : at0 ws i = ws[i] := by simp [at0, hi]
    have := h _ (List.getElem_mem hi)
    rw [e]
    simp [now] at this
    omega
  · intro h b hb
    obtain ⟨i, hi, rfl⟩ := List.getElem_of_mem hb
    have e : at0 ws i = ws[i] := by simp [at0, hi]
    have := h i hi
    rw [e] at this
    simp [now]
    omega
def getF (bs ws : List Int) : Int := if bsF bs = 0 then (if ws.any now = true then 1 else if total ws = bs.length then 0 else 3) else bsF bs
theorem getF_in (bs ws : List Int) : getF bs ws = 0 ∨ getF bs ws = 1 ∨ getF bs ws = 3 ∨ getF bs ws = 4 := by
  have := bsF_in bs
  unfold getF
  split
  · split
    · omega
    · split <;> omega
  · omega
theorem getF_zero {bs ws : List Int} : getF bs ws = 0 ↔ (bs.length ≤ 400 ∧ Bit bs) ∧ Wds ws ∧ total ws = bs.length := by
  unfold getF
  constructor
  · intro h
    split at h
    · rename_i h0
      split at h
      · omega
      · rename_i h1
        split at h
        · rename_i h2
          exact ⟨bsF_zero.1 h0, now_any.1 (by simpa using h1), h2⟩
        · omega
    · omega
  · intro ⟨h1, h2, h3⟩
    rw [if_pos (bsF_zero.2 h1), if_neg (by rw [now_any.2 h2]; simp), if_pos h3]
/-- The fault of bytes that are to be so many bits. -/
def btF (b : List Int) (n : Int) : Int := if n < 0 ∨ 400 < n then 1 else if (b.length : Int) ≠ (n + 7) / 8 then 3 else if ((opn b).drop n.toNat).any (fun x => x == 1) = true then 2 else 0
theorem btF_in (b : List Int) (n : Int) : btF b n = 0 ∨ btF b n = 1 ∨ btF b n = 2 ∨ btF b n = 3 := by
  unfold btF
  split
  · omega
  · split
    · omega
    · split <;> omega
theorem btF_zero {b : List Int} {n : Nat} : btF b n = 0 ↔ n ≤ 400 ∧ b.length = (n + 7) / 8 ∧ ∀ j, n ≤ j → j < 8 * b.length → opnF b j ≠ 1 := by
  unfold btF
  have key : ((opn b).drop n).any (fun x => x == 1) = false ↔ ∀ j, n ≤ j → j < 8 * b.length → opnF b j ≠ 1 := by
    rw [List.any_eq_false]
    constructor
    · intro h j h1 h2
      have hl : j < (opn b).length := by rw [opn_length]; exact h2
      have e : at0 (opn b) j = (opn b)[j] := by simp [at0, hl]
      have e2 : at0 (opn b) j = opnF b j := by unfold opn; exact upto_at _ h2
      have hm : (opn b)[j] ∈ (opn b).drop n := by
        rw [List.mem_iff_getElem]
        refine ⟨j - n, by rw [List.length_drop]; omega, ?_⟩
        rw [List.getElem_drop]
        congr 1
        omega
      have := h _ hm
      rw [← e, e2] at this
      simpa using this
    · intro h x hx
      obtain ⟨k, hk, rfl⟩ := List.getElem_of_mem hx
      rw [List.getElem_drop]
      rw [List.length_drop, opn_length] at hk
      have hl : n + k < (opn b).length := by rw [opn_length]; omega
      have e : at0 (opn b) (n + k) = (opn b)[n + k] := by simp [at0, hl]
      have e2 : at0 (opn b) (n + k) = opnF b (n + k) := by unfold opn; exact upto_at _ (by omega)
      rw [← e, e2]
      have := h (n + k) (by omega) (by omega)
      simpa using this
  constructor
  · intro h
    split at h
    · omega
    · split at h
      · omega
      · split at h
        · omega
        · rename_i h1 h2 h3
          refine ⟨by omega, by omega, key.1 ?_⟩
          rw [Int.toNat_natCast] at h3
          exact Bool.eq_false_iff.2 h3
  · intro ⟨h1, h2, h3⟩
    rw [if_neg (by omega), if_neg (by omega), if_neg ?_]
    rw [Int.toNat_natCast, key.2 h3]
    simp

end Go.Proofs.YtjojeifoddonnakDoor.Wid

/-
  The numbers of chapter 10, as lists: sums, the greatest, shares that are Total in all. No program here.
-/
namespace Go.Proofs.YtjojeifoddonnakDoor.Scl
open Go.Proofs.YtjojeifoddonnakDoor.Tre
set_option linter.unusedVariables false

/-- The first j, added up; all of them. -/
def pfx (l : List Int) : Nat → Int
  | 0 => 0
  | j + 1 => pfx l j + at0 l j
def tot (l : List Int) : Int := pfx l l.length

theorem pfx_congr {l m : List Int} {j : Nat} (h : ∀ i, i < j → at0 l i = at0 m i) : pfx l j = pfx m j := by
  induction j with
  | zero => rfl
  | succ j ih => rw [pfx, pfx, ih fun i hi => h i (by omega), h j (by omega)]
theorem at0_take {l : List Int} {i k : Nat} (h : i < k) : at0 (l.take k) i = at0 l i := by simp [at0, h]
theorem tot_take (l : List Int) {k : Nat} (h : k ≤ l.length) : tot (l.take k) = pfx l k := by
  unfold tot
  rw [List.length_take, Nat.min_eq_left h]
  exact pfx_congr fun i hi => at0_take hi
theorem at0_set {l : List Int} {i j : Nat} {x : Int} (hj : j < l.length) : at0 (l.set j x) i = if i = j then x else at0 l i := by
  unfold at0
  rw [List.getElem?_set]
  by_cases e : j = i
  · subst e; simp [hj]
  · rw [if_neg e, if_neg (fun h => e h.symm)]
theorem pfx_set {l : List Int} {j : Nat} {x : Int} (hj : j < l.length) (k : Nat) : pfx (l.set j x) k = pfx l k + if j < k then x - at0 l j else 0 := by
  induction k with
  | zero => simp [pfx]
  | succ k ih =>
    rw [pfx, pfx, ih, at0_set hj]
    by_cases e : k = j
    · subst e; simp; omega
    · rw [if_neg e]
      by_cases h : j < k
      · rw [if_pos h, if_pos (by omega)]; omega
      · rw [if_neg h, if_neg (by omega)]; omega
theorem tot_set {l : List Int} {j : Nat} {x : Int} (hj : j < l.length) : tot (l.set j x) = tot l + (x - at0 l j) := by
  unfold tot
  rw [List.length_set, pfx_set hj, if_pos hj]
theorem pfx_mono {l : List Int} {n : Nat} (h : ∀ i, i < n → 0 ≤ at0 l i) {i j : Nat} (hij : i ≤ j) (hj : j ≤ n) : pfx l i ≤ pfx l j := by
  induction j with
  | zero => obtain rfl : i = 0 := by omega
            exact Int.le_refl _
  | succ j ih =>
    by_cases e : i = j + 1
    · rw [e]; exact Int.le_refl _
    · have := ih (by omega) (by omega)
      have := h j (by omega)
      rw [pfx]; omega
theorem pfx_nonneg {l : List Int} {n : Nat} (h : ∀ i, i < n → 0 ≤ at0 l i) {j : Nat} (hj : j ≤ n) : 0 ≤ pfx l j := pfx_mono h (Nat.zero_le j) hj
/-- Each is no more than all. -/
theorem at_le_tot {l : List Int} (h : ∀ i, i < l.length → 0 ≤ at0 l i) {i : Nat} (hi : i < l.length) : at0 l i ≤ tot l := by
  have h1 := pfx_mono h (i := i + 1) (j := l.length) (by omega) (Nat.le_refl _)
  have h2 := pfx_nonneg h (j := i) (by omega)
  rw [pfx] at h1
  unfold tot
  omega
theorem pfx_le {l : List Int} {b : Int} {n : Nat} (h : ∀ i, i < n → at0 l i ≤ b) {j : Nat} (hj : j ≤ n) : pfx l j ≤ b * j := by
  induction j with
  | zero => simp [pfx]
  | succ j ih =>
    have h1 := ih (by omega)
    have h2 := h j (by omega)
    have e : b * ((j + 1 : Nat) : Int) = b * j + b := by rw [Int.natCast_add, Int.mul_add]; simp
    rw [pfx, e]; omega

/-- The place of the greatest of the first j, of several the first. -/
def bst (l : List Int) : Nat → Nat
  | 0 => 0
  | j + 1 => if at0 l (bst l j) < at0 l j then j else bst l j
/-- b is the place of the greatest, of several the first. -/
def IsBest (l : List Int) (b : Nat) : Prop := b < l.length ∧ (∀ i, i < l.length → at0 l i ≤ at0 l b) ∧ ∀ i, i < b → at0 l i < at0 l b
theorem IsBest.one {l : List Int} {b c : Nat} (h : IsBest l b) (k : IsBest l c) : b = c := by
  rcases Nat.lt_trichotomy b c with h1 | h1 | h1
  · have := k.2.2 b h1; have := h.2.1 c k.1; omega
  · exact h1
  · have := h.2.2 c h1; have := k.2.1 b h.1; omega
theorem bst_lt (l : List Int) (j : Nat) : bst l j < j ∨ (j = 0 ∧ bst l j = 0) := by
  induction j with
  | zero => exact Or.inr ⟨rfl, rfl⟩
  | succ j ih =>
    left
    rw [bst]
    split
    · omega
    · omega
theorem bst_is (l : List Int) (j : Nat) (hj : 0 < j) : (∀ i, i < j → at0 l i ≤ at0 l (bst l j)) ∧ ∀ i, i < bst l j → at0 l i < at0 l (bst l j) := by
  induction j with
  | zero => omega
  | succ j ih =>
    by_cases h0 : j = 0
    · subst h0
      have e : bst l 1 = 0 := by simp [bst]
      rw [e]
      exact ⟨fun i hi => by obtain rfl : i = 0 := by omega
                            exact Int.le_refl _, fun i hi => by omega⟩
    · obtain ⟨i1, i2⟩ := ih (by omega)
      rw [bst]
      split
      · rename_i h
        exact ⟨fun i hi => by
          by_cases e : i = j
          · rw [e]; exact Int.le_refl _
          · have := i1 i (by omega); omega, fun i hi => by have := i1 i hi; omega⟩
      · rename_i h
        exact ⟨fun i hi => by
          by_cases e : i = j
          · rw [e]; omega
          · exact i1 i (by omega), i2⟩
theorem bst_best (l : List Int) (h : 0 < l.length) : IsBest l (bst l l.length) := by
  obtain ⟨h1, h2⟩ := bst_is l l.length h
  rcases bst_lt l l.length with h3 | ⟨h3, _⟩
  · exact ⟨h3, h1, h2⟩
  · omega

/-- One step towards Total: the greatest is one less, or one more. -/
def nxt (l : List Int) : List Int := l.set (bst l l.length) (at0 l (bst l l.length) + if 256 < tot l then -1 else 1)
def run : Nat → List Int → List Int
  | 0, l => l
  | k + 1, l => run k (nxt l)
/-- Till they are Total. -/
def fit (l : List Int) : List Int := run (tot l - 256).natAbs l

/-- None is below 0, not all are 0, and there are not too many. -/
def Good (l : List Int) : Prop := l.length ≤ 40 ∧ (∀ i, i < l.length → 0 ≤ at0 l i) ∧ 0 < tot l
theorem Good.pos {l : List Int} (h : Good l) : 0 < l.length := by
  rcases Nat.eq_zero_or_pos l.length with e | e
  · have := h.2.2
    unfold tot at this
    rw [e] at this
    simp [pfx] at this
  · exact e
/-- The greatest is more than 0; and if they are more than Total, more than 1. -/
theorem Good.best {l : List Int} (h : Good l) {b : Nat} (hb : IsBest l b) : 1 ≤ at0 l b ∧ (256 < tot l → 2 ≤ at0 l b) := by
  have h1 := pfx_le (b := at0 l b) hb.2.1 (Nat.le_refl _)
  have h2 : tot l ≤ at0 l b * l.length := h1
  have h3 := h.2.2
  have h4 : (l.length : Int) ≤ 40 := by have := h.1; omega
  have hp := h.pos
  have h0 := h.2.1 b hb.1
  refine ⟨?_, fun h5 => ?_⟩
  · rcases Int.lt_or_le (at0 l b) 1 with e | e
    · have e0 : at0 l b = 0 := by omega
      rw [e0] at h2; simp at h2; omega
    · exact e
  · rcases Int.lt_or_le (at0 l b) 2 with e | e
    · have : at0 l b * (l.length : Int) ≤ 1 * (l.length : Int) := Int.mul_le_mul_of_nonneg_right (by omega) (by omega)
      omega
    · exact e
theorem nxt_is {l : List Int} {b : Nat} (h : IsBest l b) : nxt l = l.set b (at0 l b + if 256 < tot l then -1 else 1) := by
  have e := IsBest.one (bst_best l (Nat.lt_of_le_of_lt (Nat.zero_le _) h.1)) h
  unfold nxt
  rw [e]
theorem nxt_length (l : List Int) : (nxt l).length = l.length := by unfold nxt; rw [List.length_set]
theorem nxt_tot {l : List Int} (h : Good l) : tot (nxt l) = tot l + if 256 < tot l then -1 else 1 := by
  have hb := bst_best l h.pos
  rw [nxt_is hb, tot_set hb.1]; omega
theorem nxt_good {l : List Int} (h : Good l) : Good (nxt l) := by
  have hb := bst_best l h.pos
  obtain ⟨b1, b2⟩ := h.best hb
  refine ⟨by rw [nxt_length]; exact h.1, fun i hi => ?_, ?_⟩
  · rw [nxt_length] at hi
    rw [nxt_is hb, at0_set hb.1]
    split
    · split <;> omega
    · exact h.2.1 i hi
  · rw [nxt_tot h]
    have := h.2.2
    split <;> omega
/-- Who has a share keeps one; who has none gets none. -/
theorem nxt_zero {l : List Int} (h : Good l) {i : Nat} (hi : i < l.length) : (0 < at0 (nxt l) i ↔ 0 < at0 l i) := by
  have hb := bst_best l h.pos
  obtain ⟨b1, b2⟩ := h.best hb
  rw [nxt_is hb, at0_set hb.1]
  split
  · rename_i e
    rw [e]
    split
    · rename_i h1
      have := b2 h1
      omega
    · omega
  · exact Iff.rfl
theorem nxt_less {l : List Int} (h : Good l) (hne : tot l ≠ 256) : (tot (nxt l) - 256).natAbs + 1 = (tot l - 256).natAbs := by
  rw [nxt_tot h]
  split <;> omega
theorem fit_done {l : List Int} (h : tot l = 256) : fit l = l := by unfold fit; rw [h]; rfl
theorem fit_next {l : List Int} (h : Good l) (hne : tot l ≠ 256) : fit (nxt l) = fit l := by
  unfold fit
  rw [← nxt_less h hne, run]
theorem fit_is {P : List Int → Prop} (hP : ∀ l, Good l → P l → P (nxt l)) {l : List Int} (h : Good l) (h0 : P l) : P (fit l) ∧ Good (fit l) ∧ tot (fit l) = 256 := by
  have key : ∀ k l, Good l → P l → (tot l - 256).natAbs = k → P (fit l) ∧ Good (fit l) ∧ tot (fit l) = 256 := by
    intro k
    induction k with
    | zero =>
      intro l h h0 hk
      have e : tot l = 256 := by omega
      rw [fit_done e]
      exact ⟨h0, h, e⟩
    | succ k ih =>
      intro l h h0 hk
      have hne : tot l ≠ 256 := by omega
      rw [← fit_next h hne]
      exact ih _ (nxt_good h) (hP l h h0) (by have := nxt_less h hne; omega)
  exact key _ l h h0 rfl
theorem fit_length {l : List Int} (h : Good l) : (fit l).length = l.length := (fit_is (P := fun m => m.length = l.length) (fun m _ hm => by rw [nxt_length]; exact hm) h rfl).1
theorem fit_tot {l : List Int} (h : Good l) : tot (fit l) = 256 := (fit_is (P := fun _ => True) (fun _ _ _ => trivial) h trivial).2.2
theorem fit_good {l : List Int} (h : Good l) : Good (fit l) := (fit_is (P := fun _ => True) (fun _ _ _ => trivial) h trivial).2.1
theorem fit_zero {l : List Int} (h : Good l) {i : Nat} (hi : i < l.length) : (0 < at0 (fit l) i ↔ 0 < at0 l i) :=
  (fit_is (P := fun m => m.length = l.length ∧ (0 < at0 m i ↔ 0 < at0 l i)) (fun m hm ⟨h1, h2⟩ => ⟨by rw [nxt_length]; exact h1, (nxt_zero hm (by omega)).trans h2⟩) h ⟨rfl, Iff.rfl⟩).1.2

/-- A count's share, ahead of the steps; and those of all. -/
def shr (all c : Int) : Int := if c ≤ 0 then 0 else if c * 256 / all = 0 then 1 else c * 256 / all
def base (c : List Int) : List Int := upto (fun i => shr (tot c) (at0 c i)) c.length
def scale (c : List Int) : List Int := fit (base c)
/-- The fault of counts: 0 where there is none. -/
def wrong (n : Int) : Bool := decide (n < 0) || decide (1000000 < n)
def cf (c : List Int) : Int := if c.length = 0 then 5 else if 40 < c.length then 4 else if c.any wrong = true then 1 else if tot c = 0 then 5 else 0

theorem wrong_no {n : Int} (h : wrong n = false) : 0 ≤ n ∧ n ≤ 1000000 := by simp [wrong] at h; omega
theorem cf_ok {c : List Int} (h : cf c = 0) : 0 < c.length ∧ c.length ≤ 40 ∧ (∀ i, i < c.length → 0 ≤ at0 c i ∧ at0 c i ≤ 1000000) ∧ 0 < tot c := by
  unfold cf at h
  split at h
  · omega
  · split at h
    · omega
    · split at h
      · omega
      · split at h
        · omega
        · rename_i h1 h2 h3 h4
          have h5 : ∀ i, i < c.length → 0 ≤ at0 c i ∧ at0 c i ≤ 1000000 := fun i hi => by
            have e : at0 c i = c[i] := by simp [at0, hi]
            rw [e]
            have h6 : c.any wrong = false := by simpa using h3
            exact wrong_no (by simpa using List.any_eq_false.1 h6 _ (List.getElem_mem hi))
          have h7 := pfx_nonneg (l := c) (fun i hi => (h5 i hi).1) (Nat.le_refl _)
          exact ⟨by omega, by omega, h5, by unfold tot at *; omega⟩
theorem base_length (c : List Int) : (base c).length = c.length := upto_length _ _
theorem base_at (c : List Int) {i : Nat} (h : i < c.length) : at0 (base c) i = shr (tot c) (at0 c i) := upto_at _ h
theorem shr_in {all c : Int} (h0 : 0 ≤ c) (h1 : c ≤ all) : 0 ≤ shr all c ∧ shr all c ≤ 256 ∧ (0 < shr all c ↔ 0 < c) := by
  unfold shr
  split
  · exact ⟨by omega, by omega, by omega⟩
  · rename_i h2
    have hp : 0 < all := by omega
    have h3 : 0 ≤ c * 256 / all := Int.ediv_nonneg (by omega) (by omega)
    have h4 : c * 256 / all ≤ 256 := by
      have h5 : c * 256 / all < 257 := (Int.ediv_lt_iff_lt_mul hp).2 (by omega)
      omega
    split
    · exact ⟨by omega, by omega, by omega⟩
    · exact ⟨by omega, by omega, by omega⟩
theorem base_good {c : List Int} (h : cf c = 0) : Good (base c) := by
  obtain ⟨h1, h2, h3, h4⟩ := cf_ok h
  have hn : ∀ i, i < (base c).length → 0 ≤ at0 (base c) i := fun i hi => by
    rw [base_length] at hi
    rw [base_at c hi]
    exact (shr_in (h3 i hi).1 (at_le_tot (fun i hi => (h3 i hi).1) hi)).1
  refine ⟨by rw [base_length]; exact h2, hn, ?_⟩
  -- one was counted, and has a share
  have key : ∃ i, i < c.length ∧ 0 < at0 c i := by
    by_cases hh : ∃ i, i < c.length ∧ 0 < at0 c i
    · exact hh
    · have h5 := pfx_le (l := c) (b := 0) (n := c.length) (fun i hi => by
        rcases Int.lt_or_le 0 (at0 c i) with e | e
        · exact absurd ⟨i, hi, e⟩ hh
        · exact e) (Nat.le_refl _)
      simp at h5
      unfold tot at h4
      omega
  obtain ⟨i, hi, hp⟩ := key
  have h5 := at_le_tot hn (i := i) (by rw [base_length]; exact hi)
  rw [base_at c hi] at h5
  have h6 := ((shr_in (h3 i hi).1 (at_le_tot (fun i hi => (h3 i hi).1) hi)).2.2).2 hp
  omega
/-- All together Total; who was counted has a share, and no other. -/
theorem scale_is {c : List Int} (h : cf c = 0) : (scale c).length = c.length ∧ tot (scale c) = 256 ∧ (∀ i, i < c.length → 0 ≤ at0 (scale c) i) ∧ ∀ i, i < c.length → (0 < at0 (scale c) i ↔ 0 < at0 c i) := by
  have hg := base_good h
  obtain ⟨h1, h2, h3, h4⟩ := cf_ok h
  have hl : (scale c).length = c.length := by unfold scale; rw [fit_length hg, base_length]
  refine ⟨hl, fit_tot hg, fun i hi => (fit_good hg).2.1 i (by rw [fit_length hg, base_length]; exact hi), fun i hi => ?_⟩
  unfold scale
  rw [fit_zero hg (by rw [base_length]; exact hi), base_at c hi]
  exact (shr_in (h3 i hi).1 (at_le_tot (fun i hi => (h3 i hi).1) hi)).2.2

/-- Are shares right? -/
def right (f : List Int) : Prop := 1 ≤ f.length ∧ f.length ≤ 40 ∧ (∀ i, i < f.length → 0 ≤ at0 f i) ∧ tot f = 256
/-- Whose a place is. -/
def IsAt (f : List Int) (at' : Int) (k : Nat) : Prop := k < f.length ∧ pfx f k ≤ at' ∧ at' < pfx f k + at0 f k
theorem IsAt.one {f : List Int} (h : ∀ i, i < f.length → 0 ≤ at0 f i) {p : Int} {j k : Nat} (hj : IsAt f p j) (hk : IsAt f p k) : j = k := by
  rcases Nat.lt_trichotomy j k with e | e | e
  · have h1 := pfx_mono h (i := j + 1) (j := k) (by omega) (by have := hk.1; omega)
    rw [pfx] at h1
    have := hj.2.2; have := hk.2.1; omega
  · exact e
  · have h1 := pfx_mono h (i := k + 1) (j := j) (by omega) (by have := hj.1; omega)
    rw [pfx] at h1
    have := hk.2.2; have := hj.2.1; omega
theorem is_at {f : List Int} {p : Int} (h0 : 0 ≤ p) (h1 : p < tot f) : ∃ k, IsAt f p k := by
  have key : ∀ n, n ≤ f.length → p < pfx f n → ∃ k, IsAt f p k := by
    intro n
    induction n with
    | zero => intro _ h; simp [pfx] at h; omega
    | succ n ih =>
      intro hn h
      by_cases h2 : p < pfx f n
      · exact ih (by omega) h2
      · rw [pfx] at h
        exact ⟨n, by omega, by omega, h⟩
  exact key f.length (Nat.le_refl _) h1

end Go.Proofs.YtjojeifoddonnakDoor.Scl
