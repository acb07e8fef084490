/-
  The numbers of chapter 4, as lists: over the edges, and back. No program here.
-/
import Derived.Test.YthkibjhhlcfceaiGreatDoorPk00
import Derived.Test.YthkibjhhlcfceaiGreatDoorPk01
namespace Go.Proofs.YthkibjhhlcfceaiGreatDoor.Lap
open Go.Proofs.YthkibjhhlcfceaiGreatDoor.Tre
set_option linter.unusedVariables false

/-- The numbers at even places, and at odd ones. -/
def ev (l : List Int) : List Int := upto (fun i => at0 l (2 * i)) (l.length / 2)
def od (l : List Int) : List Int := upto (fun i => at0 l (2 * i + 1)) (l.length / 2)
/-- What an odd one is held to be, by the even ones beside it; the fourth part of the differences beside an even one. -/
def gs (e : List Int) (i : Nat) : Int := (at0 e i + at0 e (min (i + 1) (e.length - 1))) / 2
def lf (d : List Int) (i : Nat) : Int := (at0 d (i - 1) + at0 d i + 2) / 4
def difF (e d : List Int) (i : Nat) : Int := at0 d i - gs e i
def styF (e d : List Int) (i : Nat) : Int := at0 e i + lf d i
def evF (s d : List Int) (i : Nat) : Int := at0 s i - lf d i
def odF (e d : List Int) (i : Nat) : Int := at0 d i + gs e i
def dif (l : List Int) : List Int := upto (difF (ev l) (od l)) (l.length / 2)
def sty (l : List Int) : List Int := upto (styF (ev l) (dif l)) (l.length / 2)
/-- Over the edges. -/
def lap (l : List Int) : List Int := sty l ++ dif l
def fr (l : List Int) : List Int := l.take (l.length / 2)
def bk (l : List Int) : List Int := l.drop (l.length / 2)
def evs (l : List Int) : List Int := upto (evF (fr l) (bk l)) (l.length / 2)
def ods (l : List Int) : List Int := upto (odF (evs l) (bk l)) (l.length / 2)
/-- .. and back. -/
def unlap (l : List Int) : List Int := flat (at0 (evs l)) (at0 (ods l)) (l.length / 2)

theorem ev_length (l : List Int) : (ev l).length = l.length / 2 := upto_length _ _
theorem od_length (l : List Int) : (od l).length = l.length / 2 := upto_length _ _
theorem dif_length (l : List Int) : (dif l).length = l.length / 2 := upto_length _ _
theorem sty_length (l : List Int) : (sty l).length = l.length / 2 := upto_length _ _
theorem evs_length (l : List Int) : (evs l).length = l.length / 2 := upto_length _ _
theorem ods_length (l : List Int) : (ods l).length = l.length / 2 := upto_length _ _
theorem fr_length (l : List Int) : (fr l).length = l.length / 2 := by unfold fr; rw [List.length_take]; omega
theorem bk_length {l : List Int} (h : l.length = 2 * (l.length / 2)) : (bk l).length = l.length / 2 := by unfold bk; rw [List.length_drop]; omega
theorem lap_length {l : List Int} (h : l.length = 2 * (l.length / 2)) : (lap l).length = l.length := by unfold lap; rw [List.length_append, sty_length, dif_length]; omega
theorem unlap_length {l : List Int} (h : l.length = 2 * (l.length / 2)) : (unlap l).length = l.length := by unfold unlap; rw [flat_length]; omega

theorem ev_in {b : Int} (hb : 0 ≤ b) {l : List Int} (h : In b l) : In b (ev l) := upto_in fun i _ => h.at hb _
theorem od_in {b : Int} (hb : 0 ≤ b) {l : List Int} (h : In b l) : In b (od l) := upto_in fun i _ => h.at hb _
theorem gs_in {b : Int} (hb : 0 ≤ b) {e : List Int} (h : In b e) (i : Nat) : -b ≤ gs e i ∧ gs e i ≤ b := by
  have h1 := h.at hb i
  have h2 := h.at hb (min (i + 1) (e.length - 1))
  unfold gs; omega
theorem lf_in {b : Int} (hb : 0 ≤ b) {d : List Int} (h : In (2 * b) d) (i : Nat) : -b ≤ lf d i ∧ lf d i ≤ b := by
  have h1 := h.at (by omega) (i - 1)
  have h2 := h.at (by omega) i
  unfold lf; omega
theorem dif_in {b : Int} (hb : 0 ≤ b) {l : List Int} (h : In b l) : In (2 * b) (dif l) := upto_in fun i _ => by
  have h1 := gs_in hb (ev_in hb h) i
  have h2 := (od_in hb h).at hb i
  unfold difF; omega
theorem sty_in {b : Int} (hb : 0 ≤ b) {l : List Int} (h : In b l) : In (2 * b) (sty l) := upto_in fun i _ => by
  have h1 := lf_in hb (dif_in hb h) i
  have h2 := (ev_in hb h).at hb i
  unfold styF; omega
theorem lap_in {b : Int} (hb : 0 ≤ b) {l : List Int} (h : In b l) : In (2 * b) (lap l) := (sty_in hb h).append (dif_in hb h)
theorem evs_in {b : Int} (hb : 0 ≤ b) {l : List Int} (h : In (2 * b) l) : In (3 * b) (evs l) := upto_in fun i _ => by
  have h1 := lf_in hb (h.drop (l.length / 2)) i
  have h2 := (h.take (l.length / 2)).at (by omega) i
  unfold evF fr bk; omega

/-- The first j as by f, the rest as by g. -/
def mid (f g : Nat → Int) (n j : Nat) : List Int := upto (fun i => if i < j then f i else g i) n
theorem mid_length (f g : Nat → Int) (n j : Nat) : (mid f g n j).length = n := upto_length _ _
theorem mid_zero (f g : Nat → Int) (n : Nat) : mid f g n 0 = upto g n := upto_congr fun i _ => by simp
theorem mid_all (f g : Nat → Int) (n : Nat) : mid f g n n = upto f n := upto_congr fun i hi => by simp [hi]
theorem mid_at (f g : Nat → Int) {n j : Nat} (h : j < n) : at0 (mid f g n j) j = g j := by unfold mid; rw [upto_at _ h]; simp
theorem mid_set (f g : Nat → Int) {n j : Nat} (h : j < n) : (mid f g n j).set j (f j) = mid f g n (j + 1) := by
  refine eq_of_at (by rw [List.length_set, mid_length, mid_length]) fun i hi => ?_
  rw [List.length_set, mid_length] at hi
  by_cases e : j = i
  · subst e
    have : at0 ((mid f g n j).set j (f j)) j = f j := by unfold at0; rw [List.getElem?_set_self (by rw [mid_length]; exact h)]; rfl
    rw [this]; unfold mid; rw [upto_at _ h]; simp
  · have : at0 ((mid f g n j).set j (f j)) i = at0 (mid f g n j) i := by unfold at0; rw [List.getElem?_set_ne e]
    rw [this]; unfold mid; rw [upto_at _ hi, upto_at _ hi]
    by_cases h3 : i < j
    · rw [if_pos h3, if_pos (by omega)]
    · rw [if_neg h3, if_neg (by omega)]

theorem fr_lap (l : List Int) (h : l.length = 2 * (l.length / 2)) : fr (lap l) = sty l := by
  unfold fr; rw [lap_length h, ← sty_length l]; unfold lap; rw [List.take_left]
theorem bk_lap (l : List Int) (h : l.length = 2 * (l.length / 2)) : bk (lap l) = dif l := by
  unfold bk; rw [lap_length h, ← sty_length l]; unfold lap; rw [List.drop_left]
theorem evs_lap (l : List Int) (h : l.length = 2 * (l.length / 2)) : evs (lap l) = ev l := by
  unfold evs
  rw [fr_lap l h, bk_lap l h, lap_length h, eq_upto (ev l), ev_length]
  refine upto_congr fun i hi => ?_
  unfold evF sty
  rw [upto_at _ hi]
  unfold styF
  omega
theorem ods_lap (l : List Int) (h : l.length = 2 * (l.length / 2)) : ods (lap l) = od l := by
  unfold ods
  rw [evs_lap l h, bk_lap l h, lap_length h, eq_upto (od l), od_length]
  refine upto_congr fun i hi => ?_
  unfold odF dif
  rw [upto_at _ hi]
  unfold difF
  omega
/-- Any come back. -/
theorem unlap_lap {l : List Int} (h : l.length = 2 * (l.length / 2)) : unlap (lap l) = l := by
  unfold unlap
  rw [evs_lap l h, ods_lap l h, lap_length h]
  refine Eq.trans (flat_congr fun i hi => ?_) (flat_of h)
  unfold ev od
  rw [upto_at _ hi, upto_at _ hi]
  exact ⟨rfl, rfl⟩

theorem half_twice (n : Nat) : 2 * n / 2 = n := Nat.mul_div_cancel_left _ (by omega)
theorem ev_unlap (m : List Int) : ev (unlap m) = evs m := by
  unfold ev
  have e : (unlap m).length / 2 = m.length / 2 := by unfold unlap; rw [flat_length, half_twice]
  rw [e, eq_upto (evs m), evs_length]
  refine upto_congr fun i hi => ?_
  unfold unlap
  exact (flat_at _ _ _ _ hi).1
theorem od_unlap (m : List Int) : od (unlap m) = ods m := by
  unfold od
  have e : (unlap m).length / 2 = m.length / 2 := by unfold unlap; rw [flat_length, half_twice]
  rw [e, eq_upto (ods m), ods_length]
  refine upto_congr fun i hi => ?_
  unfold unlap
  exact (flat_at _ _ _ _ hi).2
theorem dif_unlap {m : List Int} (h : m.length = 2 * (m.length / 2)) : dif (unlap m) = bk m := by
  unfold dif
  rw [ev_unlap, od_unlap, unlap_length h, eq_upto (bk m), bk_length h]
  refine upto_congr fun i hi => ?_
  unfold difF ods
  rw [upto_at _ hi]
  unfold odF
  omega
theorem sty_unlap {m : List Int} (h : m.length = 2 * (m.length / 2)) : sty (unlap m) = fr m := by
  unfold sty
  rw [ev_unlap, dif_unlap h, unlap_length h, eq_upto (fr m), fr_length]
  refine upto_congr fun i hi => ?_
  unfold styF evs
  rw [upto_at _ hi]
  unfold evF
  omega
/-- What came back, forward, is what it was. -/
theorem lap_unlap {m : List Int} (h : m.length = 2 * (m.length / 2)) : lap (unlap m) = m := by
  unfold lap
  rw [sty_unlap h, dif_unlap h]
  exact List.take_append_drop _ _

/-- What is flat stays so. -/
theorem at0_rep {n i : Nat} {c : Int} (h : i < n) : at0 (List.replicate n c) i = c := by simp [at0, h]
theorem ev_flat (n : Nat) (c : Int) : ev (List.replicate (2 * n) c) = List.replicate n c := by
  refine eq_of_at (by rw [ev_length, List.length_replicate, List.length_replicate, half_twice]) fun i hi => ?_
  rw [ev_length, List.length_replicate, half_twice] at hi
  unfold ev
  rw [List.length_replicate, half_twice, upto_at _ hi, at0_rep hi, at0_rep (by omega)]
theorem dif_flat (n : Nat) (c : Int) : dif (List.replicate (2 * n) c) = List.replicate n 0 := by
  refine eq_of_at (by rw [dif_length, List.length_replicate, List.length_replicate, half_twice]) fun i hi => ?_
  rw [dif_length, List.length_replicate, half_twice] at hi
  unfold dif
  rw [ev_flat, List.length_replicate, half_twice, upto_at _ hi, at0_rep hi]
  unfold difF gs od
  rw [List.length_replicate, List.length_replicate, half_twice, upto_at _ hi, at0_rep (by omega), at0_rep hi, at0_rep (by omega)]
  omega
theorem sty_flat (n : Nat) (c : Int) : sty (List.replicate (2 * n) c) = List.replicate n c := by
  refine eq_of_at (by rw [sty_length, List.length_replicate, List.length_replicate, half_twice]) fun i hi => ?_
  rw [sty_length, List.length_replicate, half_twice] at hi
  unfold sty
  rw [ev_flat, dif_flat, List.length_replicate, half_twice, upto_at _ hi, at0_rep hi]
  unfold styF lf
  rw [at0_rep hi, at0_rep hi, at0_rep (by omega)]
  omega
theorem lap_flat (n : Nat) (c : Int) : lap (List.replicate (2 * n) c) = List.replicate n c ++ List.replicate n 0 := by
  unfold lap; rw [sty_flat, dif_flat]

/-- Of what rises evenly only the last difference is not 0. -/
def rise (a b : Int) (k : Nat) : List Int := upto (fun i => a + i * b) k
theorem rise_dif (a b : Int) (n i : Nat) (hi : i < n) : at0 (lap (rise a b (2 * n))) (n + i) = if i + 1 < n then 0 else b := by
  have hl : (rise a b (2 * n)).length = 2 * n := upto_length _ _
  have hs : (sty (rise a b (2 * n))).length = n := by rw [sty_length, hl, half_twice]
  have e : at0 (lap (rise a b (2 * n))) (n + i) = at0 (dif (rise a b (2 * n))) i := by
    have := at0_right (l := sty (rise a b (2 * n))) (m := dif (rise a b (2 * n))) i
    rw [hs] at this; exact this
  rw [e]
  unfold dif
  rw [hl, half_twice, upto_at _ hi]
  have he : ∀ j, j < n → at0 (ev (rise a b (2 * n))) j = a + (2 * j : Nat) * b := by
    intro j hj
    unfold ev
    rw [hl, half_twice, upto_at _ hj]
    unfold rise
    rw [upto_at _ (by omega)]
  have ho : at0 (od (rise a b (2 * n))) i = a + (2 * i + 1 : Nat) * b := by
    unfold od
    rw [hl, half_twice, upto_at _ hi]
    unfold rise
    rw [upto_at _ (by omega)]
  unfold difF gs
  rw [ho, he i hi, ev_length, hl, half_twice]
  have x1 : ((2 * i : Nat) : Int) * b = 2 * ((i : Int) * b) := by rw [Int.natCast_mul, Int.mul_assoc]; rfl
  have x2 : ((2 * i + 1 : Nat) : Int) * b = 2 * ((i : Int) * b) + b := by rw [Int.natCast_add, Int.add_mul, x1]; simp
  by_cases h : i + 1 < n
  · rw [if_pos h, Nat.min_eq_left (by omega), he _ h, x1, x2]
    have x3 : ((2 * (i + 1) : Nat) : Int) * b = 2 * ((i : Int) * b) + 2 * b := by rw [Int.natCast_mul, Int.natCast_add, Int.mul_assoc, Int.add_mul, Int.mul_add]; simp
    rw [x3]
    generalize (i : Int) * b = P
    omega
  · rw [if_neg h, Nat.min_eq_right (by omega), he _ (by omega)]
    have : n - 1 = i := by omega
    rw [this, x1, x2]
    generalize (i : Int) * b = P
    omega

end Go.Proofs.YthkibjhhlcfceaiGreatDoor.Lap

/-
  The numbers of chapter 5: how many rows of so many numbers and pulses there are. No program here.
-/
namespace Go.Proofs.YthkibjhhlcfceaiGreatDoor.Cnt
open Go.Proofs.YthkibjhhlcfceaiGreatDoor.Tre Go.Proofs.YthkibjhhlcfceaiGreatDoor.Lap
set_option linter.unusedVariables false

/-- Of one pulse more. -/
def more (f : Nat → Int) : Nat → Int
  | 0 => 0
  | n + 1 => more f n + f (n + 1) + f n
/-- How many rows there are, of k pulses and n numbers. -/
def V : Nat → Nat → Int
  | 0, _ => 1
  | k + 1, n => more (V k) n
/-- .. of n from 0 to 6. -/
def cts (k : Nat) : List Int := upto (V k) 7

theorem V_zero (n : Nat) : V 0 n = 1 := rfl
theorem V_none (k : Nat) : V (k + 1) 0 = 0 := rfl
theorem V_sum (k n : Nat) : V (k + 1) (n + 1) = V (k + 1) n + V k (n + 1) + V k n := rfl
theorem V_in : ∀ k n : Nat, k < 9 → n < 7 → 0 ≤ V k n ∧ V k n ≤ 20256 := by
  have h : ∀ k : Nat, k < 9 → ∀ n : Nat, n < 7 → 0 ≤ V k n ∧ V k n ≤ 20256 := by decide +kernel
  exact fun k n hk hn => h k hk n hn
theorem V_turns : ∀ k n : Nat, k < 7 → n < 7 → (k : Int) * V k n = (n : Int) * V n k := by
  have h : ∀ k : Nat, k < 7 → ∀ n : Nat, n < 7 → (k : Int) * V k n = (n : Int) * V n k := by decide +kernel
  exact fun k n hk hn => h k hk n hn
theorem V_one : ∀ n : Nat, n < 7 → V 1 n = 2 * (n : Int) := by decide +kernel
theorem V_single : ∀ k : Nat, k < 9 → V k 1 = if k = 0 then 1 else 2 := by decide +kernel
theorem V_fact : V 2 3 = 18 := by decide +kernel

theorem cts_length (k : Nat) : (cts k).length = 7 := upto_length _ _
theorem cts_at (k : Nat) {n : Nat} (h : n < 7) : at0 (cts k) n = V k n := upto_at _ h
theorem cts_zero : cts 0 = List.replicate 7 1 := rfl
/-- The first is 0 already. -/
theorem mid_one (k : Nat) : mid (V (k + 1)) (fun _ => 0) 7 1 = List.replicate 7 0 := by
  refine eq_of_at (by rw [mid_length]; rfl) fun i hi => ?_
  rw [mid_length] at hi
  unfold mid
  rw [upto_at _ hi]
  have hr : at0 (List.replicate 7 0) i = 0 := by unfold at0; rw [List.getElem?_replicate, if_pos hi]; rfl
  rw [hr]
  by_cases h : i < 1
  · obtain rfl : i = 0 := by omega
    rfl
  · rw [if_neg h]
theorem mid_lt (f g : Nat → Int) {n j i : Nat} (h : i < n) (hj : i < j) : at0 (mid f g n j) i = f i := by unfold mid; rw [upto_at _ h, if_pos hj]

/-- The least number of bits. -/
def Least (m : Int) (b : Nat) : Prop := m ≤ 2 ^ b ∧ ∀ i, i < b → (2 : Int) ^ i < m
theorem Least.one {m : Int} {b c : Nat} (h : Least m b) (k : Least m c) : b = c := by
  rcases Nat.lt_trichotomy b c with e | e | e
  · have := k.2 b e; have := h.1; omega
  · exact e
  · have := h.2 c e; have := k.1; omega
theorem Least.le {m : Int} {b : Nat} (h : Least m b) (hm : m ≤ 20256) : b ≤ 15 := by
  rcases Nat.lt_or_ge 15 b with e | e
  · have := h.2 15 e
    omega
  · exact e

/-- As the document's own answer goes: of one number more, whatever that is. -/
def sumF (f : Nat → Int) : Nat → Int
  | 0 => 0
  | j + 1 => sumF f j + f j
theorem V_more (j n : Nat) : V j (n + 1) = V j n + 2 * sumF (fun i => V i n) j := by
  induction j with
  | zero => rfl
  | succ j ih => rw [V_sum, ih]; simp only [sumF]; omega

theorem pow_in : ∀ j : Nat, j < 16 → (1 : Int) ≤ 2 ^ j ∧ (2 : Int) ^ j ≤ 32768 := by decide +kernel

end Go.Proofs.YthkibjhhlcfceaiGreatDoor.Cnt

/-
  The numbers of chapter 14: what pulses cost, who gets one. No program here.
-/
namespace Go.Proofs.YthkibjhhlcfceaiGreatDoor.Shr
open Go.Proofs.YthkibjhhlcfceaiGreatDoor.Tre Go.Proofs.YthkibjhhlcfceaiGreatDoor.Cnt Go.Proofs.YthkibjhhlcfceaiGreatDoor.Bnd
set_option linter.unusedVariables false

/-- How many bits so many numbers of so many pulses need. -/
def Bt (k n : Nat) : Nat := ((List.range 15).find? fun b => decide (V k n ≤ 2 ^ b)).getD 15
theorem Bt_is {k n : Nat} (hk : k ≤ 8) (hn : n ≤ 6) : Least (V k n) (Bt k n) := by
  have key : ∀ k : Nat, k < 9 → ∀ n : Nat, n < 7 → V k n ≤ 2 ^ Bt k n ∧ ∀ i : Nat, i < Bt k n → (2 : Int) ^ i < V k n := by decide +kernel
  exact key k (by omega) n (by omega)
theorem Bt_le {k n : Nat} (hk : k ≤ 8) (hn : n ≤ 6) : Bt k n ≤ 15 := by
  have key : ∀ k : Nat, k < 9 → ∀ n : Nat, n < 7 → Bt k n ≤ 15 := by decide +kernel
  exact key k (by omega) n (by omega)
theorem Bt_zero {n : Nat} (hn : n ≤ 6) : Bt 0 n = 0 := by
  have key : ∀ n : Nat, n < 7 → Bt 0 n = 0 := by decide +kernel
  exact key n (by omega)

/-- What the first j bands cost; all. -/
def cs (s p : List Int) : Nat → Nat
  | 0 => 0
  | j + 1 => cs s p j + Bt (at0 p j).toNat (at0 s j).toNat
def cost (s p : List Int) : Nat := cs s p s.length
/-- Pulses that may be. -/
def Pls (p : List Int) : Prop := ∀ i, i < p.length → 0 ≤ at0 p i ∧ at0 p i ≤ 8
theorem cs_le {s p : List Int} (hs : Sizes s) (hp : Pls p) (hl : p.length = s.length) {j : Nat} (hj : j ≤ s.length) : cs s p j ≤ 15 * j := by
  induction j with
  | zero => exact Nat.le_refl _
  | succ j ih =>
    have h1 := ih (by omega)
    have h2 := hs j (by omega)
    have h3 := hp j (by omega)
    have h4 := Bt_le (k := (at0 p j).toNat) (n := (at0 s j).toNat) (by omega) (by omega)
    simp only [cs]
    omega
theorem cs_zeros {s : List Int} (hs : Sizes s) {j : Nat} (hj : j ≤ s.length) : cs s (upto (fun _ => 0) s.length) j = 0 := by
  induction j with
  | zero => rfl
  | succ j ih =>
    have h2 := hs j (by omega)
    simp only [cs]
    rw [ih (by omega), upto_at _ (by omega), Nat.zero_add]
    exact Bt_zero (n := (at0 s j).toNat) (by omega)
theorem cost_zeros {s : List Int} (hs : Sizes s) : cost s (upto (fun _ => 0) s.length) = 0 := cs_zeros hs (Nat.le_refl _)

/-- One pulse more. -/
def inc (o : List Int) (i : Nat) : List Int := o.set i (at0 o i + 1)
theorem inc_length (o : List Int) (i : Nat) : (inc o i).length = o.length := by simp [inc]
theorem inc_at {o : List Int} {i : Nat} (h : i < o.length) : at0 (inc o i) i = at0 o i + 1 := by simp [inc, at0, h]
theorem inc_other {o : List Int} {i j : Nat} (h : j ≠ i) : at0 (inc o i) j = at0 o j := by
  have h' : ¬ i = j := fun e => h e.symm
  simp [inc, at0, h']
theorem inc_dec {o : List Int} {i : Nat} : (inc o i).set i (at0 o i) = o := by
  refine eq_of_at (by simp [inc]) fun k hk => ?_
  have hk' : k < o.length := by simpa [inc] using hk
  by_cases e : k = i
  · subst e; simp [inc, at0, hk']
  · have h' : ¬ i = k := fun h => e h.symm
    simp [inc, at0, h']

/-- A band may get one more. -/
def Can (s d o : List Int) (B : Int) (i : Nat) : Prop := at0 d i ≠ 0 ∧ at0 o i ≠ 8 ∧ (cost s (inc o i) : Int) ≤ B
/-- One is louder by the square of one more than its pulses than another. -/
def Over (d o : List Int) (i b : Nat) : Prop := at0 d b * (at0 o i + 1) * (at0 o i + 1) < at0 d i * (at0 o b + 1) * (at0 o b + 1)
instance (s d o : List Int) (B : Int) (i : Nat) : Decidable (Can s d o B i) := by unfold Can; infer_instance
instance (d o : List Int) (i b : Nat) : Decidable (Over d o i b) := by unfold Over; infer_instance
/-- Who of the first j gets one. -/
def bst (s d o : List Int) (B : Int) : Nat → Option Nat
  | 0 => none
  | j + 1 => if Can s d o B j then (match bst s d o B j with | none => some j | some b => if Over d o j b then some j else some b) else bst s d o B j
theorem bst_lt {s d o : List Int} {B : Int} {j b : Nat} (h : bst s d o B j = some b) : b < j ∧ Can s d o B b := by
  induction j with
  | zero => simp [bst] at h
  | succ j ih =>
    rw [bst] at h
    split at h
    · rename_i hc
      split at h
      · cases h; exact ⟨by omega, hc⟩
      · rename_i c e
        split at h
        · cases h; exact ⟨by omega, hc⟩
        · cases h
          have := ih e
          exact ⟨by omega, this.2⟩
    · have := ih h
      exact ⟨by omega, this.2⟩
theorem bst_none {s d o : List Int} {B : Int} {j : Nat} (h : bst s d o B j = none) : ∀ i, i < j → ¬ Can s d o B i := by
  induction j with
  | zero => intro i hi; omega
  | succ j ih =>
    rw [bst] at h
    split at h
    · split at h
      · cases h
      · split at h <;> cases h
    · rename_i hc
      intro i hi
      by_cases e : i = j
      · rw [e]; exact hc
      · exact ih h i (by omega)
/-- Again and again. -/
def go (s d : List Int) (B : Int) : Nat → List Int → List Int
  | 0, o => o
  | f + 1, o => match bst s d o B s.length with
    | none => o
    | some b => go s d B f (inc o b)
def share (s d : List Int) (B : Int) : List Int := go s d B 100 (upto (fun _ => 0) s.length)

/-- What holds of the pulses all the way. -/
structure Inv (s d : List Int) (B : Int) (o : List Int) : Prop where
  len : o.length = s.length
  pls : Pls o
  low : ∀ i, i < o.length → at0 d i = 0 → at0 o i = 0
  cst : (cost s o : Int) ≤ B
/-- All pulses together. -/
def sm (o : List Int) : Nat → Int
  | 0 => 0
  | j + 1 => sm o j + at0 o j
theorem sm_le {o : List Int} (h : Pls o) {j : Nat} (hj : j ≤ o.length) : 0 ≤ sm o j ∧ sm o j ≤ 8 * j := by
  induction j with
  | zero => exact ⟨Int.le_refl _, Int.le_refl _⟩
  | succ j ih =>
    have h1 := ih (by omega)
    have h2 := h j (by omega)
    simp only [sm]
    omega
theorem sm_inc {o : List Int} {b : Nat} {j : Nat} (hj : j ≤ o.length) : sm (inc o b) j = sm o j + if b < j then 1 else 0 := by
  induction j with
  | zero => rfl
  | succ j ih =>
    have h1 := ih (by omega)
    simp only [sm]
    rw [h1]
    by_cases e : j = b
    · subst e
      rw [inc_at (by omega), if_neg (by omega), if_pos (by omega)]
      omega
    · rw [inc_other e]
      by_cases e2 : b < j
      · rw [if_pos e2, if_pos (by omega)]; omega
      · rw [if_neg e2, if_neg (by omega)]; omega
theorem inv_zero {s d : List Int} {B : Int} (hs : Sizes s) (hB : 0 ≤ B) : Inv s d B (upto (fun _ => 0) s.length) :=
  ⟨upto_length _ _, fun i hi => by rw [upto_length] at hi; rw [upto_at _ hi]; omega, fun i hi _ => by rw [upto_length] at hi; exact upto_at _ hi, by rw [cost_zeros hs]; exact hB⟩
theorem inv_inc {s d : List Int} {B : Int} {o : List Int} (h : Inv s d B o) {b : Nat} (hb : b < s.length) (hc : Can s d o B b) : Inv s d B (inc o b) := by
  have hl := h.len
  refine ⟨by rw [inc_length]; exact hl, fun i hi => ?_, fun i hi h0 => ?_, hc.2.2⟩
  · rw [inc_length] at hi
    by_cases e : i = b
    · subst e
      rw [inc_at hi]
      have := h.pls i hi
      have := hc.2.1
      omega
    · rw [inc_other e]; exact h.pls i hi
  · rw [inc_length] at hi
    by_cases e : i = b
    · subst e; exact absurd h0 hc.1
    · rw [inc_other e]; exact h.low i hi h0
/-- In the end no one may get one more. -/
theorem go_end {s d : List Int} {B : Int} (h8 : s.length ≤ 8) {f : Nat} {o : List Int} (h : Inv s d B o) (hf : 64 < sm o o.length + f) : Inv s d B (go s d B f o) ∧ bst s d (go s d B f o) B s.length = none := by
  induction f generalizing o with
  | zero =>
    have := sm_le h.pls (Nat.le_refl _)
    have := h.len
    omega
  | succ f ih =>
    rw [go]
    cases hb : bst s d o B s.length with
    | none => exact ⟨h, hb⟩
    | some b =>
      obtain ⟨h1, h2⟩ := bst_lt hb
      have hl := h.len
      refine ih (inv_inc h h1 h2) ?_
      rw [inc_length, sm_inc (Nat.le_refl _), if_pos (by omega)]
      omega
theorem sm_zeros (n : Nat) (j : Nat) (hj : j ≤ n) : sm (upto (fun _ => 0) n) j = 0 := by
  induction j with
  | zero => rfl
  | succ j ih => simp only [sm]; rw [ih (by omega), upto_at _ (by omega)]; rfl
theorem share_is {s d : List Int} {B : Int} (hs : Sizes s) (h8 : s.length ≤ 8) (hB : 0 ≤ B) : Inv s d B (share s d B) ∧ ∀ i, i < s.length → ¬ Can s d (share s d B) B i := by
  have h := go_end (d := d) (f := 100) h8 (inv_zero (d := d) hs hB) (by rw [upto_length, sm_zeros _ _ (Nat.le_refl _)]; omega)
  exact ⟨h.1, bst_none h.2⟩
/-- Another row of loudness that parts nothing otherwise gives the same. -/
theorem bst_same {s d e o : List Int} {B : Int} {n : Nat} (h0 : ∀ i, i < n → (at0 d i = 0 ↔ at0 e i = 0)) (h1 : ∀ i b, i < n → b < n → (Over d o i b ↔ Over e o i b)) {j : Nat} (hj : j ≤ n) : bst s d o B j = bst s e o B j := by
  induction j with
  | zero => rfl
  | succ j ih =>
    have hc : Can s d o B j ↔ Can s e o B j := by unfold Can; rw [Ne, Ne, h0 j (by omega)]
    rw [bst, bst, ih (by omega)]
    by_cases hcc : Can s d o B j
    · rw [if_pos hcc, if_pos (hc.1 hcc)]
      cases hb : bst s e o B j with
      | none => rfl
      | some b =>
        have hlt := (bst_lt hb).1
        have ho := h1 j b (by omega) (by omega)
        by_cases hoo : Over d o j b
        · simp only [if_pos hoo, if_pos (ho.1 hoo)]
        · simp only [if_neg hoo, if_neg (mt ho.2 hoo)]
    · rw [if_neg hcc, if_neg (mt hc.2 hcc)]
theorem go_same {s d e : List Int} {B : Int} (h0 : ∀ i, i < s.length → (at0 d i = 0 ↔ at0 e i = 0)) (h1 : ∀ o i b, i < s.length → b < s.length → (Over d o i b ↔ Over e o i b)) (f : Nat) (o : List Int) : go s d B f o = go s e B f o := by
  induction f generalizing o with
  | zero => rfl
  | succ f ih =>
    rw [go, go, bst_same h0 (h1 o) (Nat.le_refl _)]
    cases bst s e o B s.length with
    | none => rfl
    | some b => exact ih _
def twice (d : List Int) : List Int := upto (fun i => 2 * at0 d i) d.length
theorem share_twice {s d : List Int} {B : Int} (hl : d.length = s.length) : share s (twice d) B = share s d B := by
  unfold share
  refine go_same (fun i hi => ?_) (fun o i b hi hb => ?_) _ _
  · unfold twice
    rw [upto_at _ (by omega)]
    omega
  · unfold Over twice
    rw [upto_at _ (by omega), upto_at _ (by omega)]
    have e1 : 2 * at0 d b * (at0 o i + 1) * (at0 o i + 1) = 2 * (at0 d b * (at0 o i + 1) * (at0 o i + 1)) := by rw [Int.mul_assoc, Int.mul_assoc, Int.mul_assoc]
    have e2 : 2 * at0 d i * (at0 o b + 1) * (at0 o b + 1) = 2 * (at0 d i * (at0 o b + 1) * (at0 o b + 1)) := by rw [Int.mul_assoc, Int.mul_assoc, Int.mul_assoc]
    rw [e1, e2]
    omega
/-- Where all is silent none gets a pulse. -/
theorem share_silent {s d : List Int} {B : Int} (h : ∀ i, i < s.length → at0 d i = 0) : share s d B = upto (fun _ => 0) s.length := by
  unfold share
  have hb : ∀ o j, j ≤ s.length → bst s d o B j = none := by
    intro o j hj
    induction j with
    | zero => rfl
    | succ j ih =>
      rw [bst, if_neg (fun hc => hc.1 (h j (by omega)))]
      exact ih (by omega)
  rw [show (100 : Nat) = 99 + 1 from rfl, go, hb _ _ (Nat.le_refl _)]

/-- Who gets one, as a number: below 0 where no one does. -/
def bv : Option Nat → Int
  | none => -1
  | some b => b
theorem bst_can {s d o : List Int} {B : Int} {j : Nat} (h : ¬ Can s d o B j) : bst s d o B (j + 1) = bst s d o B j := by rw [bst, if_neg h]
theorem bst_first {s d o : List Int} {B : Int} {j : Nat} (h : Can s d o B j) (hb : bst s d o B j = none) : bst s d o B (j + 1) = some j := by rw [bst, if_pos h, hb]
theorem bst_over {s d o : List Int} {B : Int} {j b : Nat} (h : Can s d o B j) (hb : bst s d o B j = some b) (ho : Over d o j b) : bst s d o B (j + 1) = some j := by
  rw [bst, if_pos h, hb]
  simp only [if_pos ho]
theorem bst_stay {s d o : List Int} {B : Int} {j b : Nat} (h : Can s d o B j) (hb : bst s d o B j = some b) (ho : ¬ Over d o j b) : bst s d o B (j + 1) = some b := by
  rw [bst, if_pos h, hb]
  simp only [if_neg ho]
theorem go_none {s d o : List Int} {B : Int} {f : Nat} (h : bst s d o B s.length = none) : go s d B f o = o := by
  cases f with
  | zero => rfl
  | succ f => rw [go, h]
theorem go_some {s d o : List Int} {B : Int} {f b : Nat} (h : bst s d o B s.length = some b) : go s d B (f + 1) o = go s d B f (inc o b) := by rw [go, h]
theorem inc_pls {o : List Int} (h : Pls o) {j : Nat} (hj : j < o.length) (h8 : at0 o j ≠ 8) : Pls (inc o j) := fun i hi => by
  rw [inc_length] at hi
  by_cases e : i = j
  · subst e
    rw [inc_at hi]
    have := h i hi
    omega
  · rw [inc_other e]; exact h i hi

/-- One pulse more costs so many bits more. -/
def pr (n k : Nat) : Int := (Bt (k + 1) n : Int) - (Bt k n : Int)
theorem pr_in {n k : Nat} (hn : n ≤ 6) (hk : k < 8) : -15 ≤ pr n k ∧ pr n k ≤ 15 := by
  have h1 := Bt_le (k := k) (n := n) (by omega) hn
  have h2 := Bt_le (k := k + 1) (n := n) (by omega) hn
  unfold pr
  omega
theorem cs_inc {s o : List Int} {i : Nat} (hi : i < o.length) (h0 : 0 ≤ at0 o i) (j : Nat) : (cs s (inc o i) j : Int) = cs s o j + if i < j then pr (at0 s i).toNat (at0 o i).toNat else 0 := by
  induction j with
  | zero => rfl
  | succ j ih =>
    simp only [cs]
    rw [Int.natCast_add, ih, Int.natCast_add]
    by_cases e : j = i
    · subst e
      rw [inc_at hi, if_neg (by omega), if_pos (by omega), show (at0 o j + 1).toNat = (at0 o j).toNat + 1 by omega]
      unfold pr
      omega
    · rw [inc_other e]
      by_cases e2 : i < j
      · rw [if_pos e2, if_pos (by omega)]; omega
      · rw [if_neg e2, if_neg (by omega)]; omega
theorem cost_inc {s o : List Int} {i : Nat} (hi : i < o.length) (hs : i < s.length) (h0 : 0 ≤ at0 o i) : (cost s (inc o i) : Int) = cost s o + pr (at0 s i).toNat (at0 o i).toNat := by
  unfold cost
  rw [cs_inc hi h0, if_pos hs]
/-- Where all have as many as may be no one may get one more. -/
theorem sm_full {o : List Int} (h : Pls o) {j : Nat} (hj : j ≤ o.length) (e : sm o j = 8 * j) : ∀ i, i < j → at0 o i = 8 := by
  induction j with
  | zero => intro i hi; omega
  | succ j ih =>
    have h1 := sm_le h (j := j) (by omega)
    have h2 := h j (by omega)
    simp only [sm] at e
    intro i hi
    by_cases e2 : i = j
    · rw [e2]; omega
    · exact ih (by omega) (by omega) i (by omega)
theorem bst_full {s d o : List Int} {B : Int} {j : Nat} (h : ∀ i, i < j → at0 o i = 8) : bst s d o B j = none := by
  induction j with
  | zero => rfl
  | succ j ih =>
    rw [bst, if_neg (fun hc => hc.2.1 (h j (by omega)))]
    exact ih (fun i hi => h i (by omega))
/-- Loudness that may be. -/
def lou (n : Int) : Bool := decide (n < 0) || decide (8000 < n)
def noP (n : Int) : Bool := decide (n < 0) || decide (8 < n)
def Lds (d : List Int) : Prop := ∀ i, i < d.length → 0 ≤ at0 d i ∧ at0 d i ≤ 8000
/-- The faults. -/
def costF (s p : List Int) : Int := if bf s = 0 then (if p.length = s.length then (if p.any noP = true then 1 else 0) else 3) else bf s
def ofF (s d : List Int) (B : Int) : Int := if bf s = 0 then (if d.length = s.length then (if d.any lou = true then 1 else if B < 0 ∨ 400 < B then 1 else 0) else 3) else bf s
theorem any_no {p : Int → Bool} {q : Int → Prop} (h : ∀ x, p x = false ↔ q x) {l : List Int} : l.any p = false ↔ ∀ i, i < l.length → q (at0 l i) := by
  rw [List.any_eq_false]
  constructor
  · intro k i hi
    have e : at0 l i = l[i] := by simp [at0, hi]
    rw [e]
    exact (h _).1 (by simpa using k _ (List.getElem_mem hi))
  · intro k x hx
    obtain ⟨i, hi, rfl⟩ := List.getElem_of_mem hx
    have e : at0 l i = l[i] := by simp [at0, hi]
    have := k i hi
    rw [e] at this
    simpa using (h _).2 this
theorem noP_any {p : List Int} : p.any noP = false ↔ Pls p := any_no (p := noP) (q := fun x => 0 ≤ x ∧ x ≤ 8) (fun x => by simp [noP])
theorem lou_any {d : List Int} : d.any lou = false ↔ Lds d := any_no (p := lou) (q := fun x => 0 ≤ x ∧ x ≤ 8000) (fun x => by simp [lou])
theorem costF_zero {s p : List Int} : costF s p = 0 ↔ bf s = 0 ∧ p.length = s.length ∧ Pls p := by
  unfold costF
  constructor
  · intro h
    split at h
    · split at h
      · split at h
        · omega
        · rename_i h1 h2 h3
          exact ⟨h1, h2, noP_any.1 (Bool.eq_false_iff.2 h3)⟩
      · omega
    · rename_i h1; exact absurd h h1
  · intro ⟨h1, h2, h3⟩
    rw [if_pos h1, if_pos h2, if_neg (by rw [noP_any.2 h3]; simp)]
theorem ofF_zero {s d : List Int} {B : Int} : ofF s d B = 0 ↔ bf s = 0 ∧ d.length = s.length ∧ Lds d ∧ 0 ≤ B ∧ B ≤ 400 := by
  unfold ofF
  constructor
  · intro h
    split at h
    · split at h
      · split at h
        · omega
        · split at h
          · omega
          · rename_i h1 h2 h3 h4
            exact ⟨h1, h2, lou_any.1 (Bool.eq_false_iff.2 h3), by omega, by omega⟩
      · omega
    · rename_i h1; exact absurd h h1
  · intro ⟨h1, h2, h3, h4, h5⟩
    rw [if_pos h1, if_pos h2, if_neg (by rw [lou_any.2 h3]; simp), if_neg (by omega)]

end Go.Proofs.YthkibjhhlcfceaiGreatDoor.Shr
