/-
  The numbers of chapter 5: how many rows of so many numbers and pulses there are. No program here.
-/
import Derived.Test.YthkibjhhlcfceaiCh01
import Derived.Deep.QuietTactic
import Derived.BigQuiet
namespace Go.Proofs.Ythkibjhhlcfceai.Cnt
open Go.Proofs.Ythkibjhhlcfceai.Tre Go.Proofs.Ythkibjhhlcfceai.Lap
set_option linter.unusedVariables false

/-- Of one pulse more. -/
def more (f : Nat → Int) : Nat → Int
  | 0 => 0
  | n + 1 => more f n + f (n + 1) + f n
/-- How many rows there are, of k pulses and n numbers. -/
def V : Nat → Nat → Int
  | 0, _ => 1
  | k + 1, n => more (V k) n
/-- .. of n from 0 to 6. -/
def cts (k : Nat) : List Int := upto (V k) 7

theorem V_zero (n : Nat) : V 0 n = 1 := rfl
theorem V_none (k : Nat) : V (k + 1) 0 = 0 := rfl
theorem V_sum (k n : Nat) : V (k + 1) (n + 1) = V (k + 1) n + V k (n + 1) + V k n := rfl
theorem V_in : ∀ k n : Nat, k < 9 → n < 7 → 0 ≤ V k n ∧ V k n ≤ 20256 := by
  have h : ∀ k : Nat, k < 9 → ∀ n : Nat, n < 7 → 0 ≤ V k n ∧ V k n ≤ 20256 := by decide +kernel
  exact fun k n hk hn => h k hk n hn
theorem V_turns : ∀ k n : Nat, k < 7 → n < 7 → (k : Int) * V k n = (n : Int) * V n k := by
  have h : ∀ k : Nat, k < 7 → ∀ n : Nat, n < 7 → (k : Int) * V k n = (n : Int) * V n k := by decide +kernel
  exact fun k n hk hn => h k hk n hn
theorem V_one : ∀ n : Nat, n < 7 → V 1 n = 2 * (n : Int) := by decide +kernel
theorem V_single : ∀ k : Nat, k < 9 → V k 1 = if k = 0 then 1 else 2 := by decide +kernel
theorem V_fact : V 2 3 = 18 := by decide +kernel

theorem cts_length (k : Nat) : (cts k).length = 7 := upto_length _ _
theorem cts_at (k : Nat) {n : Nat} (h : n < 7) : at0 (cts k) n = V k n := upto_at _ h
theorem cts_zero : cts 0 = List.replicate 7 1 := rfl
/-- The first is 0 already. -/
theorem mid_one (k : Nat) : mid (V (k + 1)) (fun _ => 0) 7 1 = List.replicate 7 0 := by
  refine eq_of_at (by rw [mid_length]; rfl) fun i hi => ?_
  rw [mid_length] at hi
  unfold mid
  rw [upto_at _ hi]
  have hr : at0 (List.replicate 7 0) i = 0 := by unfold at0; rw [List.getElem?_replicate, if_pos hi]; rfl
  rw [hr]
  by_cases h : i < 1
  · obtain rfl : i = 0 := by omega
    rfl
  · rw [if_neg h]
theorem mid_lt (f g : Nat → Int) {n j i : Nat} (h : i < n) (hj : i < j) : at0 (mid f g n j) i = f i := by unfold mid; rw [upto_at _ h, if_pos hj]

/-- The least number of bits. -/
def Least (m : Int) (b : Nat) : Prop := m ≤ 2 ^ b ∧ ∀ i, i < b → (2 : Int) ^ i < m
theorem Least.one {m : Int} {b c : Nat} (h : Least m b) (k : Least m c) : b = c := by
  rcases Nat.lt_trichotomy b c with e | e | e
  · have := k.2 b e; have := h.1; omega
  · exact e
  · have := h.2 c e; have := k.1; omega
theorem Least.le {m : Int} {b : Nat} (h : Least m b) (hm : m ≤ 20256) : b ≤ 15 := by
  rcases Nat.lt_or_ge 15 b with e | e
  · have := h.2 15 e
    omega
  · exact e

/-- As the document's own answer goes: of one number more, whatever that is. -/
def sumF (f : Nat → Int) : Nat → Int
  | 0 => 0
  | j + 1 => sumF f j + f j
theorem V_more (j n : Nat) : V j (n + 1) = V j n + 2 * sumF (fun i => V i n) j := by
  induction j with
  | zero => rfl
  | succ j ih => rw [V_sum, ih]; simp only [sumF]; omega

theorem pow_in : ∀ j : Nat, j < 16 → (1 : Int) ≤ 2 ^ j ∧ (2 : Int) ^ j ≤ 32768 := by decide +kernel

end Go.Proofs.Ythkibjhhlcfceai.Cnt

/-
  The numbers of chapter 6: how many rows are ahead of one. No program here.
-/
namespace Go.Proofs.Ythkibjhhlcfceai.Pls
open Go.Proofs.Ythkibjhhlcfceai.Tre Go.Proofs.Ythkibjhhlcfceai.Cnt
set_option linter.unusedVariables false

/-- How far all numbers are from 0. -/
def loud : List Int → Nat
  | [] => 0
  | x :: r => x.natAbs + loud r
theorem loud_append (l m : List Int) : loud (l ++ m) = loud l + loud m := by
  induction l with
  | nil => simp [loud]
  | cons x r ih => simp only [List.cons_append, loud, ih]; omega

/-- How many rows begin with s - L, of L pulses, m numbers behind it. -/
def rows (m L s : Nat) : Int := V (L - ((s : Int) - (L : Int)).natAbs) m
/-- .. with a lesser one. -/
def ahead (m L s : Nat) : Int := sumF (rows m L) s
theorem ahead_zero (m L : Nat) : ahead m L 0 = 0 := rfl
theorem ahead_succ (m L s : Nat) : ahead m L (s + 1) = ahead m L s + rows m L s := rfl
theorem ahead_all {m L : Nat} (hm : m < 6) (hL : L < 9) : ahead m L (2 * L + 1) = V L (m + 1) := by
  have h : ∀ m : Nat, m < 6 → ∀ L : Nat, L < 9 → ahead m L (2 * L + 1) = V L (m + 1) := by decide +kernel
  exact h m hm L hL
theorem rows_in {m L s : Nat} (hm : m < 7) (hL : L < 9) : 0 ≤ rows m L s ∧ rows m L s ≤ 20256 := V_in _ _ (by omega) hm
theorem rows_first (m L : Nat) : rows m L 0 = 1 := by unfold rows; rw [show L - (((0 : Nat) : Int) - (L : Int)).natAbs = 0 by omega, V_zero]
theorem rows_last (m L : Nat) : rows m L (2 * L) = 1 := by unfold rows; rw [show L - (((2 * L : Nat) : Int) - (L : Int)).natAbs = 0 by omega, V_zero]
theorem ahead_mono {m L s t : Nat} (hm : m < 7) (hL : L < 9) (h : s ≤ t) : ahead m L s ≤ ahead m L t := by
  induction t with
  | zero => rw [show s = 0 by omega]; exact Int.le_refl _
  | succ t ih =>
    rcases Nat.lt_or_ge t s with h1 | h1
    · rw [show s = t + 1 by omega]; exact Int.le_refl _
    · have := ih h1
      have := (rows_in (s := t) hm hL).1
      rw [ahead_succ]; omega
theorem ahead_in {m L s : Nat} (hm : m < 6) (hL : L < 9) (hs : s ≤ 2 * L + 1) : 0 ≤ ahead m L s ∧ ahead m L s ≤ 20256 := by
  have h1 := ahead_mono (m := m) (L := L) (s := 0) (t := s) (by omega) hL (Nat.zero_le _)
  have h2 := ahead_mono (m := m) (L := L) (s := s) (t := 2 * L + 1) (by omega) hL hs
  rw [ahead_all hm hL] at h2
  rw [ahead_zero] at h1
  have := (V_in L (m + 1) hL (by omega)).2
  omega
theorem rows_at {m L : Nat} {x : Int} (h : x.natAbs ≤ L) : rows m L (x + (L : Int)).toNat = V (L - x.natAbs) m := by
  unfold rows
  rw [show (((x + (L : Int)).toNat : Nat) : Int) - (L : Int) = x by omega]

/-- How many rows of L pulses are ahead. -/
def rk : List Int → Nat → Int
  | [], _ => 0
  | x :: r, L => ahead r.length L (x + (L : Int)).toNat + rk r (L - x.natAbs)

theorem rk_in : ∀ (l : List Int), l.length ≤ 6 → loud l ≤ 8 → 0 ≤ rk l (loud l) ∧ rk l (loud l) < V (loud l) l.length := by
  intro l
  induction l with
  | nil => intro _ _; simp [rk, loud, V_zero]
  | cons x r ih =>
    intro h1 h2
    simp only [List.length_cons] at h1
    obtain ⟨L, hL⟩ : ∃ L, L = loud (x :: r) := ⟨_, rfl⟩
    have hL' : L = x.natAbs + loud r := hL
    rw [← hL] at h2 ⊢
    have i := ih (by omega) (by omega)
    have e : L - x.natAbs = loud r := by omega
    have hr := rows_at (m := r.length) (L := L) (x := x) (by omega)
    have hin := ahead_in (m := r.length) (L := L) (s := (x + (L : Int)).toNat) (by omega) (by omega) (by omega)
    have hm := ahead_mono (m := r.length) (L := L) (s := (x + (L : Int)).toNat + 1) (t := 2 * L + 1) (by omega) (by omega) (by omega)
    rw [ahead_all (by omega) (by omega), ahead_succ, hr, e] at hm
    simp only [rk, List.length_cons, e]
    omega

/-- .. in parts: what is ahead of a row, by its first number. -/
theorem rk_parts {x : Int} {r : List Int} (h1 : r.length ≤ 5) (h2 : loud (x :: r) ≤ 8) :
    ahead r.length (loud (x :: r)) (x + (loud (x :: r) : Int)).toNat ≤ rk (x :: r) (loud (x :: r)) ∧ rk (x :: r) (loud (x :: r)) < ahead r.length (loud (x :: r)) ((x + (loud (x :: r) : Int)).toNat + 1) := by
  have hL' : loud (x :: r) = x.natAbs + loud r := rfl
  have i := rk_in r (by omega) (by omega)
  have e : loud (x :: r) - x.natAbs = loud r := by omega
  have hr := rows_at (m := r.length) (L := loud (x :: r)) (x := x) (by omega)
  rw [ahead_succ, hr]
  simp only [rk, e]
  omega

theorem rk_less {x y : Int} {r t : List Int} (h1 : r.length ≤ 5) (hl : t.length = r.length) (h2 : loud (x :: r) ≤ 8) (hk : loud (y :: t) = loud (x :: r)) (h : x < y) :
    rk (x :: r) (loud (x :: r)) < rk (y :: t) (loud (x :: r)) := by
  have a := (rk_parts h1 h2).2
  have b := (rk_parts (x := y) (r := t) (by omega) (by omega)).1
  rw [hk, hl] at b
  have hx : loud (x :: r) = x.natAbs + loud r := rfl
  have hm := ahead_mono (m := r.length) (L := loud (x :: r)) (s := (x + (loud (x :: r) : Int)).toNat + 1) (t := (y + (loud (x :: r) : Int)).toNat) (by omega) (by omega) (by omega)
  omega

/-- Two rows of as many numbers and pulses that are the same up to a place, and differ there. -/
theorem rk_order : ∀ (p : List Int) (x y : Int) (r t : List Int), (p ++ x :: r).length ≤ 6 → t.length = r.length → loud (p ++ x :: r) ≤ 8 → loud (p ++ y :: t) = loud (p ++ x :: r) → x < y →
    rk (p ++ x :: r) (loud (p ++ x :: r)) < rk (p ++ y :: t) (loud (p ++ x :: r)) := by
  intro p
  induction p with
  | nil => intro x y r t h1 hl h2 hk h; exact rk_less (by simpa using h1) hl h2 hk h
  | cons z p ih =>
    intro x y r t h1 hl h2 hk h
    have e1 : loud (z :: p ++ x :: r) = z.natAbs + loud (p ++ x :: r) := rfl
    have e2 : loud (z :: p ++ y :: t) = z.natAbs + loud (p ++ y :: t) := rfl
    have i := ih x y r t (by simp at h1 ⊢; omega) hl (by omega) (by omega) h
    have e3 : loud (z :: p ++ x :: r) - z.natAbs = loud (p ++ x :: r) := by omega
    have e4 : (p ++ y :: t).length = (p ++ x :: r).length := by simp [hl]
    show rk (z :: (p ++ x :: r)) _ < rk (z :: (p ++ y :: t)) _
    simp only [rk, e3, e4]
    omega

theorem rk_one : ∀ (l m : List Int), l.length ≤ 6 → m.length = l.length → loud l ≤ 8 → loud m = loud l → rk m (loud l) = rk l (loud l) → m = l := by
  intro l
  induction l with
  | nil => intro m _ h _ _ _; exact List.length_eq_zero_iff.1 h
  | cons x r ih =>
    intro m h1 hl h2 hk hr
    cases m with
    | nil => simp at hl
    | cons y t =>
      have hl' : t.length = r.length := by simpa using hl
      have h1' : r.length ≤ 5 := by simp at h1; omega
      rcases Int.lt_trichotomy x y with h | h | h
      · have := rk_less h1' hl' h2 hk h; omega
      · subst h
        have e1 : loud (x :: r) = x.natAbs + loud r := rfl
        have e2 : loud (x :: t) = x.natAbs + loud t := rfl
        have e3 : loud (x :: r) - x.natAbs = loud r := by omega
        simp only [rk, e3, hl'] at hr
        rw [ih t (by omega) hl' (by omega) (by omega) (by omega)]
      · have := rk_less (by omega) hl'.symm (by omega) hk.symm h
        rw [hk] at this; omega

/-- The first of all, and the last. -/
theorem first_of {x : Int} {r : List Int} (h1 : r.length ≤ 5) (h2 : loud (x :: r) ≤ 8) (h : rk (x :: r) (loud (x :: r)) = 0) : x = -(loud (x :: r) : Int) := by
  have a := (rk_parts h1 h2).1
  have hL : loud (x :: r) = x.natAbs + loud r := rfl
  rcases Nat.eq_zero_or_pos (x + (loud (x :: r) : Int)).toNat with e | e
  · omega
  · have hm := ahead_mono (m := r.length) (L := loud (x :: r)) (s := 1) (t := (x + (loud (x :: r) : Int)).toNat) (by omega) (by omega) e
    have h3 : ahead r.length (loud (x :: r)) 1 = 1 := by rw [ahead_succ, ahead_zero, rows_first]; rfl
    omega
theorem last_of {x : Int} {r : List Int} (h1 : r.length ≤ 5) (h2 : loud (x :: r) ≤ 8) (h : rk (x :: r) (loud (x :: r)) = V (loud (x :: r)) (r.length + 1) - 1) : x = (loud (x :: r) : Int) := by
  have a := (rk_parts h1 h2).2
  have hL : loud (x :: r) = x.natAbs + loud r := rfl
  rcases Nat.lt_or_ge (x + (loud (x :: r) : Int)).toNat (2 * loud (x :: r)) with e | e
  · have hm := ahead_mono (m := r.length) (L := loud (x :: r)) (s := (x + (loud (x :: r) : Int)).toNat + 1) (t := 2 * loud (x :: r)) (by omega) (by omega) e
    have h3 := ahead_all (m := r.length) (L := loud (x :: r)) (by omega) (by omega)
    rw [ahead_succ, rows_last] at h3
    omega
  · omega

/-- The row of a rank. -/
def Is (n k : Nat) (rank : Int) (l : List Int) : Prop := l.length = n ∧ loud l = k ∧ rk l k = rank
theorem Is.one {n k : Nat} {rank : Int} {l m : List Int} (hn : n ≤ 6) (hk : k ≤ 8) (h : Is n k rank l) (g : Is n k rank m) : m = l := by
  obtain ⟨rfl, rfl, rfl⟩ := h
  obtain ⟨g1, g2, g3⟩ := g
  exact rk_one l m hn g1 hk g2 g3

/-- What is still wanted behind l: numbers of L pulses, r of such ahead of them. -/
def Wants (n k : Nat) (rank : Int) (l : List Int) (L : Nat) (r : Int) : Prop := ∀ m, Is (n - l.length) L r m → Is n k rank (l ++ m)
theorem wants_all (n k : Nat) (rank : Int) : Wants n k rank [] k rank := fun m h => by simpa using h
theorem is_cons {b L s : Nat} {r : Int} {m : List Int} (hs : s ≤ 2 * L) (h : Is b (L - ((s : Int) - (L : Int)).natAbs) (r - ahead b L s) m) : Is (b + 1) L r (((s : Int) - (L : Int)) :: m) := by
  obtain ⟨h1, h2, h3⟩ := h
  subst h1
  refine ⟨by simp, ?_, ?_⟩
  · simp only [loud, h2]; omega
  · simp only [rk]
    rw [show ((s : Int) - (L : Int) + (L : Int)).toNat = s by omega, h3]
    omega
theorem Wants.step {n k : Nat} {rank : Int} {l : List Int} {b L s : Nat} {r : Int} (h : Wants n k rank l L r) (hb : n - l.length = b + 1) (hs : s ≤ 2 * L) :
    Wants n k rank (l ++ [(s : Int) - (L : Int)]) (L - ((s : Int) - (L : Int)).natAbs) (r - ahead b L s) := by
  intro m hm
  have e : n - (l ++ [(s : Int) - (L : Int)]).length = b := by simp; omega
  rw [e] at hm
  have := h _ (by rw [hb]; exact is_cons hs hm)
  simpa using this
theorem Wants.done {n k : Nat} {rank : Int} {l : List Int} {L : Nat} {r : Int} (h : Wants n k rank l L r) (hl : l.length = n) (hL : L ≤ 8) (h0 : 0 ≤ r) (h1 : r < V L 0) : Is n k rank l := by
  have hz : L = 0 ∧ r = 0 := by
    cases L with
    | zero => rw [V_zero] at h1; omega
    | succ L => rw [V_none] at h1; omega
  obtain ⟨rfl, rfl⟩ := hz
  have := h [] ⟨by simp; omega, rfl, rfl⟩
  simpa using this

/-- What of a row's rank is still wanted at a place. -/
theorem rk_drop {l : List Int} {i : Nat} (hi : i < l.length) : loud (l.drop i) = (at0 l i).natAbs + loud (l.drop (i + 1)) ∧
    rk (l.drop i) (loud (l.drop i)) = ahead (l.length - 1 - i) (loud (l.drop i)) (at0 l i + (loud (l.drop i) : Int)).toNat + rk (l.drop (i + 1)) (loud (l.drop (i + 1))) := by
  have e : l.drop i = at0 l i :: l.drop (i + 1) := by
    rw [List.drop_eq_getElem_cons hi]
    simp [at0, hi]
  have e1 : loud (l.drop i) = (at0 l i).natAbs + loud (l.drop (i + 1)) := by rw [e]; rfl
  refine ⟨e1, ?_⟩
  have e2 : rk (l.drop i) (loud (l.drop i)) = rk (at0 l i :: l.drop (i + 1)) (loud (l.drop i)) := by rw [← e]
  rw [e2]
  simp only [rk, List.length_drop]
  rw [show l.length - (i + 1) = l.length - 1 - i by omega, show loud (l.drop i) - (at0 l i).natAbs = loud (l.drop (i + 1)) by omega]

/-- Where two rows first differ. -/
theorem cut_at {l : List Int} {i : Nat} (hi : i < l.length) : l = l.take i ++ at0 l i :: l.drop (i + 1) := by
  have e : l.drop i = at0 l i :: l.drop (i + 1) := by
    rw [List.drop_eq_getElem_cons hi]
    simp [at0, hi]
  rw [← e, List.take_append_drop]
theorem first_diff {n k : Nat} {a b : Int} {l m : List Int} {i : Nat} (hn : n ≤ 6) (hk : k ≤ 8) (hl : Is n k a l) (hm : Is n k b m) (hi : i < n) (h : l.take i = m.take i) (hd : at0 l i < at0 m i) : a < b := by
  obtain ⟨l1, l2, l3⟩ := hl
  obtain ⟨m1, m2, m3⟩ := hm
  have e1 := cut_at (l := l) (i := i) (by omega)
  have e2 := cut_at (l := m) (i := i) (by omega)
  rw [← h] at e2
  have ho := rk_order (l.take i) (at0 l i) (at0 m i) (l.drop (i + 1)) (m.drop (i + 1)) (by rw [← e1]; omega) (by rw [List.length_drop, List.length_drop]; omega) (by rw [← e1]; omega) (by rw [← e1, ← e2]; omega) hd
  rw [← e1, ← e2, l2, l3, m3] at ho
  exact ho
theorem Is.rank {n k : Nat} {a b : Int} {l : List Int} (hl : Is n k a l) (hm : Is n k b l) : a = b := hl.2.2.symm.trans hm.2.2
theorem Is.self (l : List Int) : Is l.length (loud l) (rk l (loud l)) l := ⟨rfl, rfl, rfl⟩

theorem Is.first {n k : Nat} {l : List Int} (hn : n ≤ 6) (hk : k ≤ 8) (h0 : 0 < n) (h : Is n k 0 l) : at0 l 0 = -(k : Int) := by
  obtain ⟨rfl, rfl, h3⟩ := h
  cases l with
  | nil => simp at h0
  | cons x r => exact first_of (by simp at hn; omega) hk h3
theorem Is.last {n k : Nat} {l : List Int} (hn : n ≤ 6) (hk : k ≤ 8) (h0 : 0 < n) (h : Is n k (V k n - 1) l) : at0 l 0 = (k : Int) := by
  obtain ⟨rfl, rfl, h3⟩ := h
  cases l with
  | nil => simp at h0
  | cons x r => exact last_of (by simp at hn; omega) hk h3

end Go.Proofs.Ythkibjhhlcfceai.Pls

/-
  sound.Distance: by its contract.
-/
namespace Go.Proofs.Ythkibjhhlcfceai.Pls
open Go.RowKit
set_option linter.unusedVariables false

theorem dist (n : Int) (w : World) (h0 : -1000000 ≤ n) (h1 : n ≤ 1000000) :
    Calls Try.prog 47 #[.int .i64 n] w fun e w' => e = .returned (.int .i64 (n.natAbs : Int)) ∧ w = w' := by
  go_enter Try.func47, Try.ntmps47
  go_wp2
  all_goals (go_ret; exact ⟨ret_int (by omega), rfl⟩)

end Go.Proofs.Ythkibjhhlcfceai.Pls
