/-
  The numbers of chapter 14: what pulses cost, who gets one. No program here.
-/
import Derived.Test.YthkibjhhlcfceaiDoorCh01
namespace Go.Proofs.YthkibjhhlcfceaiDoor.Shr
open Go.Proofs.YthkibjhhlcfceaiDoor.Tre Go.Proofs.YthkibjhhlcfceaiDoor.Cnt Go.Proofs.YthkibjhhlcfceaiDoor.Bnd
set_option linter.unusedVariables false

/-- How many bits so many numbers of so many pulses need. -/
def Bt (k n : Nat) : Nat := ((List.range 15).find? fun b => decide (V k n ≤ 2 ^ b)).getD 15
theorem Bt_is {k n : Nat} (hk : k ≤ 8) (hn : n ≤ 6) : Least (V k n) (Bt k n) := by
  have key : ∀ k : Nat, k < 9 → ∀ n : Nat, n < 7 → V k n ≤ 2 ^ Bt k n ∧ ∀ i : Nat, i < Bt k n → (2 : Int) ^ i < V k n := by decide +kernel
  exact key k (by omega) n (by omega)
theorem Bt_le {k n : Nat} (hk : k ≤ 8) (hn : n ≤ 6) : Bt k n ≤ 15 := by
  have key : ∀ k : Nat, k < 9 → ∀ n : Nat, n < 7 → Bt k n ≤ 15 := by decide +kernel
  exact key k (by omega) n (by omega)
theorem Bt_zero {n : Nat} (hn : n ≤ 6) : Bt 0 n = 0 := by
  have key : ∀ n : Nat, n < 7 → Bt 0 n = 0 := by decide +kernel
  exact key n (by omega)

/-- What the first j bands cost; all. -/
def cs (s p : List Int) : Nat → Nat
  | 0 => 0
  | j + 1 => cs s p j + Bt (at0 p j).toNat (at0 s j).toNat
def cost (s p : List Int) : Nat := cs s p s.length
/-- Pulses that may be. -/
def Pls (p : List Int) : Prop := ∀ i, i < p.length → 0 ≤ at0 p i ∧ at0 p i ≤ 8
theorem cs_le {s p : List Int} (hs : Sizes s) (hp : Pls p) (hl : p.length = s.length) {j : Nat} (hj : j ≤ s.length) : cs s p j ≤ 15 * j := by
  induction j with
  | zero => exact Nat.le_refl _
  | succ j ih =>
    have h1 := ih (by omega)
    have h2 := hs j (by omega)
    have h3 := hp j (by omega)
    have h4 := Bt_le (k := (at0 p j).toNat) (n := (at0 s j).toNat) (by omega) (by omega)
    simp only [cs]
    omega
theorem cs_zeros {s : List Int} (hs : Sizes s) {j : Nat} (hj : j ≤ s.length) : cs s (upto (fun _ => 0) s.length) j = 0 := by
  induction j with
  | zero => rfl
  | succ j ih =>
    have h2 := hs j (by omega)
    simp only [cs]
    rw [ih (by omega), upto_at _ (by omega), Nat.zero_add]
    exact Bt_zero (n := (at0 s j).toNat) (by omega)
theorem cost_zeros {s : List Int} (hs : Sizes s) : cost s (upto (fun _ => 0) s.length) = 0 := cs_zeros hs (Nat.le_refl _)

/-- One pulse more. -/
def inc (o : List Int) (i : Nat) : List Int := o.set i (at0 o i + 1)
theorem inc_length (o : List Int) (i : Nat) : (inc o i).length = o.length := by simp [inc]
theorem inc_at {o : List Int} {i : Nat} (h : i < o.length) : at0 (inc o i) i = at0 o i + 1 := by simp [inc, at0, h]
theorem inc_other {o : List Int} {i j : Nat} (h : j ≠ i) : at0 (inc o i) j = at0 o j := by
  have h' : ¬ i = j := fun e => h e.symm
  simp [inc, at0, h']
theorem inc_dec {o : List Int} {i : Nat} : (inc o i).set i (at0 o i) = o := by
  refine eq_of_at (by simp [inc]) fun k hk => ?_
  have hk' : k < o.length := by simpa [inc] using hk
  by_cases e : k = i
  · subst e; simp [inc, at0, hk']
  · have h' : ¬ i = k := fun h => e h.symm
    simp [inc, at0, h']

/-- A band may get one more. -/
def Can (s d o : List Int) (B : Int) (i : Nat) : Prop := at0 d i ≠ 0 ∧ at0 o i ≠ 8 ∧ (cost s (inc o i) : Int) ≤ B
/-- One is louder by the square of one more than its pulses than another. -/
def Over (d o : List Int) (i b : Nat) : Prop := at0 d b * (at0 o i + 1) * (at0 o i + 1) < at0 d i * (at0 o b + 1) * (at0 o b + 1)
instance (s d o : List Int) (B : Int) (i : Nat) : Decidable (Can s d o B i) := by unfold Can; infer_instance
instance (d o : List Int) (i b : Nat) : Decidable (Over d o i b) := by unfold Over; infer_instance
/-- Who of the first j gets one. -/
def bst (s d o : List Int) (B : Int) : Nat → Option Nat
  | 0 => none
  | j + 1 => if Can s d o B j then (match bst s d o B j with | none => some j | some b => if Over d o j b then some j else some b) else bst s d o B j
theorem bst_lt {s d o : List Int} {B : Int} {j b : Nat} (h : bst s d o B j = some b) : b < j ∧ Can s d o B b := by
  induction j with
  | zero => simp [bst] at h
  | succ j ih =>
    rw [bst] at h
    split at h
    · rename_i hc
      split at h
      · cases h; exact ⟨by omega, hc⟩
      · rename_i c e
        split at h
        · cases h; exact ⟨by omega, hc⟩
        · cases h
          have := ih e
          exact ⟨by omega, this.2⟩
    · have := ih h
      exact ⟨by omega, this.2⟩
theorem bst_none {s d o : List Int} {B : Int} {j : Nat} (h : bst s d o B j = none) : ∀ i, i < j → ¬ Can s d o B i := by
  induction j with
  | zero => intro i hi; omega
  | succ j ih =>
    rw [bst] at h
    split at h
    · split at h
      · cases h
      · split at h <;> cases h
    · rename_i hc
      intro i hi
      by_cases e : i = j
      · rw [e]; exact hc
      · exact ih h i (by omega)
/-- Again and again. -/
def go (s d : List Int) (B : Int) : Nat → List Int → List Int
  | 0, o => o
  | f + 1, o => match bst s d o B s.length with
    | none => o
    | some b => go s d B f (inc o b)
def share (s d : List Int) (B : Int) : List Int := go s d B 100 (upto (fun _ => 0) s.length)

/-- What holds of the pulses all the way. -/
structure Inv (s d : List Int) (B : Int) (o : List Int) : Prop where
  len : o.length = s.length
  pls : Pls o
  low : ∀ i, i < o.length → at0 d i = 0 → at0 o i = 0
  cst : (cost s o : Int) ≤ B
/-- All pulses together. -/
def sm (o : List Int) : Nat → Int
  | 0 => 0
  | j + 1 => sm o j + at0 o j
theorem sm_le {o : List Int} (h : Pls o) {j : Nat} (hj : j ≤ o.length) : 0 ≤ sm o j ∧ sm o j ≤ 8 * j := by
  induction j with
  | zero => exact ⟨Int.le_refl _, Int.le_refl _⟩
  | succ j ih =>
    have h1 := ih (by omega)
    have h2 := h j (by omega)
    simp only [sm]
    omega
theorem sm_inc {o : List Int} {b : Nat} {j : Nat} (hj : j ≤ o.length) : sm (inc o b) j = sm o j + if b < j then 1 else 0 := by
  induction j with
  | zero => rfl
  | succ j ih =>
    have h1 := ih (by omega)
    simp only [sm]
    rw [h1]
    by_cases e : j = b
    · subst e
      rw [inc_at (by omega), if_neg (by omega), if_pos (by omega)]
      omega
    · rw [inc_other e]
      by_cases e2 : b < j
      · rw [if_pos e2, if_pos (by omega)]; omega
      · rw [if_neg e2, if_neg (by omega)]; omega
theorem inv_zero {s d : List Int} {B : Int} (hs : Sizes s) (hB : 0 ≤ B) : Inv s d B (upto (fun _ => 0) s.length) :=
  ⟨upto_length _ _, fun i hi => by rw [upto_length] at hi; rw [upto_at _ hi]; omega, fun i hi _ => by rw [upto_length] at hi; exact upto_at _ hi, by rw [cost_zeros hs]; exact hB⟩
theorem inv_inc {s d : List Int} {B : Int} {o : List Int} (h : Inv s d B o) {b : Nat} (hb : b < s.length) (hc : Can s d o B b) : Inv s d B (inc o b) := by
  have hl := h.len
  refine ⟨by rw [inc_length]; exact hl, fun i hi => ?_, fun i hi h0 => ?_, hc.2.2⟩
  · rw [inc_length] at hi
    by_cases e : i = b
    · subst e
      rw [inc_at hi]
      have := h.pls i hi
      have := hc.2.1
      omega
    · rw [inc_other e]; exact h.pls i hi
  · rw [inc_length] at hi
    by_cases e : i = b
    · subst e; exact absurd h0 hc.1
    · rw [inc_other e]; exact h.low i hi h0
/-- In the end no one may get one more. -/
theorem go_end {s d : List Int} {B : Int} (h8 : s.length ≤ 8) {f : Nat} {o : List Int} (h : Inv s d B o) (hf : 64 < sm o o.length + f) : Inv s d B (go s d B f o) ∧ bst s d (go s d B f o) B s.length = none := by
  induction f generalizing o with
  | zero =>
    have := sm_le h.pls (Nat.le_refl _)
    have := h.len
    omega
  | succ f ih =>
    rw [go]
    cases hb : bst s d o B s.length with
    | none => exact ⟨h, hb⟩
    | some b =>
      obtain ⟨h1, h2⟩ := bst_lt hb
      have hl := h.len
      refine ih (inv_inc h h1 h2) ?_
      rw [inc_length, sm_inc (Nat.le_refl _), if_pos (by omega)]
      omega
theorem sm_zeros (n : Nat) (j : Nat) (hj : j ≤ n) : sm (upto (fun _ => 0) n) j = 0 := by
  induction j with
  | zero => rfl
  | succ j ih => simp only [sm]; rw [ih (by omega), upto_at _ (by omega)]; rfl
theorem share_is {s d : List Int} {B : Int} (hs : Sizes s) (h8 : s.length ≤ 8) (hB : 0 ≤ B) : Inv s d B (share s d B) ∧ ∀ i, i < s.length → ¬ Can s d (share s d B) B i := by
  have h := go_end (d := d) (f := 100) h8 (inv_zero (d := d) hs hB) (by rw [upto_length, sm_zeros _ _ (Nat.le_refl _)]; omega)
  exact ⟨h.1, bst_none h.2⟩
/-- Another row of loudness that parts nothing otherwise gives the same. -/
theorem bst_same {s d e o : List Int} {B : Int} {n : Nat} (h0 : ∀ i, i < n → (at0 d i = 0 ↔ at0 e i = 0)) (h1 : ∀ i b, i < n → b < n → (Over d o i b ↔ Over e o i b)) {j : Nat} (hj : j ≤ n) : bst s d o B j = bst s e o B j := by
  induction j with
  | zero => rfl
  | succ j ih =>
    have hc : Can s d o B j ↔ Can s e o B j := by unfold Can; rw [Ne, Ne, h0 j (by omega)]
    rw [bst, bst, ih (by omega)]
    by_cases hcc : Can s d o B j
    · rw [if_pos hcc, if_pos (hc.1 hcc)]
      cases hb : bst s e o B j with
      | none => rfl
      | some b =>
        have hlt := (bst_lt hb).1
        have ho := h1 j b (by omega) (by omega)
        by_cases hoo : Over d o j b
        · simp only [if_pos hoo, if_pos (ho.1 hoo)]
        · simp only [if_neg hoo, if_neg (mt ho.2 hoo)]
    · rw [if_neg hcc, if_neg (mt hc.2 hcc)]
theorem go_same {s d e : List Int} {B : Int} (h0 : ∀ i, i < s.length → (at0 d i = 0 ↔ at0 e i = 0)) (h1 : ∀ o i b, i < s.length → b < s.length → (Over d o i b ↔ Over e o i b)) (f : Nat) (o : List Int) : go s d B f o = go s e B f o := by
  induction f generalizing o with
  | zero => rfl
  | succ f ih =>
    rw [go, go, bst_same h0 (h1 o) (Nat.le_refl _)]
    cases bst s e o B s.length with
    | none => rfl
    | some b => exact ih _
def twice (d : List Int) : List Int := upto (fun i => 2 * at0 d i) d.length
theorem share_twice {s d : List Int} {B : Int} (hl : d.length = s.length) : share s (twice d) B = share s d B := by
  unfold share
  refine go_same (fun i hi => ?_) (fun o i b hi hb => ?_) _ _
  · unfold twice
    rw [upto_at _ (by omega)]
    omega
  · unfold Over twice
    rw [upto_at _ (by omega), upto_at _ (by omega)]
    have e1 : 2 * at0 d b * (at0 o i + 1) * (at0 o i + 1) = 2 * (at0 d b * (at0 o i + 1) * (at0 o i + 1)) := by rw [Int.mul_assoc, Int.mul_assoc, Int.mul_assoc]
    have e2 : 2 * at0 d i * (at0 o b + 1) * (at0 o b + 1) = 2 * (at0 d i * (at0 o b + 1) * (at0 o b + 1)) := by rw [Int.mul_assoc, Int.mul_assoc, Int.mul_assoc]
    rw [e1, e2]
    omega
/-- Where all is silent none gets a pulse. -/
theorem share_silent {s d : List Int} {B : Int} (h : ∀ i, i < s.length → at0 d i = 0) : share s d B = upto (fun _ => 0) s.length := by
  unfold share
  have hb : ∀ o j, j ≤ s.length → bst s d o B j = none := by
    intro o j hj
    induction j with
    | zero => rfl
    | succ j ih =>
      rw [bst, if_neg (fun hc => hc.1 (h j (by omega)))]
      exact ih (by omega)
  rw [show (100 : Nat) = 99 + 1 from rfl, go, hb _ _ (Nat.le_refl _)]

/-- Who gets one, as a number: below 0 where no one does. -/
def bv : Option Nat → Int
  | none => -1
  | some b => b
theorem bst_can {s d o : List Int} {B : Int} {j : Nat} (h : ¬ Can s d o B j) : bst s d o B (j + 1) = bst s d o B j := by rw [bst, if_neg h]
theorem bst_first {s d o : List Int} {B : Int} {j : Nat} (h : Can s d o B j) (hb : bst s d o B j = none) : bst s d o B (j + 1) = some j := by rw [bst, if_pos h, hb]
theorem bst_over {s d o : List Int} {B : Int} {j b : Nat} (h : Can s d o B j) (hb : bst s d o B j = some b) (ho : Over d o j b) : bst s d o B (j + 1) = some j := by
  rw [bst, if_pos h, hb]
  simp only [if_pos ho]
theorem bst_stay {s d o : List Int} {B : Int} {j b : Nat} (h : Can s d o B j) (hb : bst s d o B j = some b) (ho : ¬ Over d o j b) : bst s d o B (j + 1) = some b := by
  rw [bst, if_pos h, hb]
  simp only [if_neg ho]
theorem go_none {s d o : List Int} {B : Int} {f : Nat} (h : bst s d o B s.length = none) : go s d B f o = o := by
  cases f with
  | zero => rfl
  | succ f => rw [go, h]
theorem go_some {s d o : List Int} {B : Int} {f b : Nat} (h : bst s d o B s.length = some b) : go s d B (f + 1) o = go s d B f (inc o b) := by rw [go, h]
theorem inc_pls {o : List Int} (h : Pls o) {j : Nat} (hj : j < o.length) (h8 : at0 o j ≠ 8) : Pls (inc o j) := fun i hi => by
  rw [inc_length] at hi
  by_cases e : i = j
  · subst e
    rw [inc_at hi]
    have := h i hi
    omega
  · rw [inc_other e]; exact h i hi

/-- One pulse more costs so many bits more. -/
def pr (n k : Nat) : Int := (Bt (k + 1) n : Int) - (Bt k n : Int)
theorem pr_in {n k : Nat} (hn : n ≤ 6) (hk : k < 8) : -15 ≤ pr n k ∧ pr n k ≤ 15 := by
  have h1 := Bt_le (k := k) (n := n) (by omega) hn
  have h2 := Bt_le (k := k + 1) (n := n) (by omega) hn
  unfold pr
  omega
theorem cs_inc {s o : List Int} {i : Nat} (hi : i < o.length) (h0 : 0 ≤ at0 o i) (j : Nat) : (cs s (inc o i) j : Int) = cs s o j + if i < j then pr (at0 s i).toNat (at0 o i).toNat else 0 := by
  induction j with
  | zero => rfl
  | succ j ih =>
    simp only [cs]
    rw [Int.natCast_add, ih, Int.natCast_add]
    by_cases e : j = i
    · subst e
      rw [inc_at hi, if_neg (by omega), if_pos (by omega), show (at0 o j + 1).toNat = (at0 o j).toNat + 1 by omega]
      unfold pr
      omega
    · rw [inc_other e]
      by_cases e2 : i < j
      · rw [if_pos e2, if_pos (by omega)]; omega
      · rw [if_neg e2, if_neg (by omega)]; omega
theorem cost_inc {s o : List Int} {i : Nat} (hi : i < o.length) (hs : i < s.length) (h0 : 0 ≤ at0 o i) : (cost s (inc o i) : Int) = cost s o + pr (at0 s i).toNat (at0 o i).toNat := by
  unfold cost
  rw [cs_inc hi h0, if_pos hs]
/-- Where all have as many as may be no one may get one more. -/
theorem sm_full {o : List Int} (h : Pls o) {j : Nat} (hj : j ≤ o.length) (e : sm o j = 8 * j) : ∀ i, i < j → at0 o i = 8 := by
  induction j with
  | zero => intro i hi; omega
  | succ j ih =>
    have h1 := sm_le h (j := j) (by omega)
    have h2 := h j (by omega)
    simp only [sm] at e
    intro i hi
    by_cases e2 : i = j
    · rw [e2]; omega
    · exact ih (by omega) (by omega) i (by omega)
theorem bst_full {s d o : List Int} {B : Int} {j : Nat} (h : ∀ i, i < j → at0 o i = 8) : bst s d o B j = none := by
  induction j with
  | zero => rfl
  | succ j ih =>
    rw [bst, if_neg (fun hc => hc.2.1 (h j (by omega)))]
    exact ih (fun i hi => h i (by omega))
/-- Loudness that may be. -/
def lou (n : Int) : Bool := decide (n < 0) || decide (8000 < n)
def noP (n : Int) : Bool := decide (n < 0) || decide (8 < n)
def Lds (d : List Int) : Prop := ∀ i, i < d.length → 0 ≤ at0 d i ∧ at0 d i ≤ 8000
/-- The faults. -/
def costF (s p : List Int) : Int := if bf s = 0 then (if p.length = s.length then (if p.any noP = true then 1 else 0) else 3) else bf s
def ofF (s d : List Int) (B : Int) : Int := if bf s = 0 then (if d.length = s.length then (if d.any lou = true then 1 else if B < 0 ∨ 400 < B then 1 else 0) else 3) else bf s
theorem any_no {p : Int → Bool} {q : Int → Prop} (h : ∀ x, p x = false ↔ q x) {l : List Int} : l.any p = false ↔ ∀ i, i < l.length → q (at0 l i) := by
  rw [List.any_eq_false]
  constructor
  · intro k i hi
    have e : at0 l i = l[i] := by simp [at0, hi]
    rw [e]
    exact (h _).1 (by simpa using k _ (List.getElem_mem hi))
  · intro k x hx
    obtain ⟨i, hi, rfl⟩ := List.getElem_of_mem hx
    have e : at0 l i = l[i] := by simp [at0, hi]
    have := k i hi
    rw [e] at this
    simpa using (h _).2 this
theorem noP_any {p : List Int} : p.any noP = false ↔ Pls p := any_no (p := noP) (q := fun x => 0 ≤ x ∧ x ≤ 8) (fun x => by simp [noP])
theorem lou_any {d : List Int} : d.any lou = false ↔ Lds d := any_no (p := lou) (q := fun x => 0 ≤ x ∧ x ≤ 8000) (fun x => by simp [lou])
theorem costF_zero {s p : List Int} : costF s p = 0 ↔ bf s = 0 ∧ p.length = s.length ∧ Pls p := by
  unfold costF
  constructor
  · intro h
    split at h
    · split at h
      · split at h
        · omega
        · rename_i h1 h2 h3
          exact ⟨h1, h2, noP_any.1 (Bool.eq_false_iff.2 h3)⟩
      · omega
    · rename_i h1; exact absurd h h1
  · intro ⟨h1, h2, h3⟩
    rw [if_pos h1, if_pos h2, if_neg (by rw [noP_any.2 h3]; simp)]
theorem ofF_zero {s d : List Int} {B : Int} : ofF s d B = 0 ↔ bf s = 0 ∧ d.length = s.length ∧ Lds d ∧ 0 ≤ B ∧ B ≤ 400 := by
  unfold ofF
  constructor
  · intro h
    split at h
    · split at h
      · split at h
        · omega
        · split at h
          · omega
          · rename_i h1 h2 h3 h4
            exact ⟨h1, h2, lou_any.1 (Bool.eq_false_iff.2 h3), by omega, by omega⟩
      · omega
    · rename_i h1; exact absurd h h1
  · intro ⟨h1, h2, h3, h4, h5⟩
    rw [if_pos h1, if_pos h2, if_neg (by rw [lou_any.2 h3]; simp), if_neg (by omega)]

end Go.Proofs.YthkibjhhlcfceaiDoor.Shr

/-
  The numbers of chapter 6: how many rows are ahead of one. No program here.
-/
namespace Go.Proofs.YthkibjhhlcfceaiDoor.Pls
open Go.Proofs.YthkibjhhlcfceaiDoor.Tre Go.Proofs.YthkibjhhlcfceaiDoor.Cnt
set_option linter.unusedVariables false

/-- How far all numbers are from 0. -/
def loud : List Int → Nat
  | [] => 0
  | x :: r => x.natAbs + loud r
theorem loud_append (l m : List Int) : loud (l ++ m) = loud l + loud m := by
  induction l with
  | nil => simp [loud]
  | cons x r ih => simp only [List.cons_append, loud, ih]; omega

/-- How many rows begin with s - L, of L pulses, m numbers behind it. -/
def rows (m L s : Nat) : Int := V (L - ((s : Int) - (L : Int)).natAbs) m
/-- .. with a lesser one. -/
def ahead (m L s : Nat) : Int := sumF (rows m L) s
theorem ahead_zero (m L : Nat) : ahead m L 0 = 0 := rfl
theorem ahead_succ (m L s : Nat) : ahead m L (s + 1) = ahead m L s + rows m L s := rfl
theorem ahead_all {m L : Nat} (hm : m < 6) (hL : L < 9) : ahead m L (2 * L + 1) = V L (m + 1) := by
  have h : ∀ m : Nat, m < 6 → ∀ L : Nat, L < 9 → ahead m L (2 * L + 1) = V L (m + 1) := by decide +kernel
  exact h m hm L hL
theorem rows_in {m L s : Nat} (hm : m < 7) (hL : L < 9) : 0 ≤ rows m L s ∧ rows m L s ≤ 20256 := V_in _ _ (by omega) hm
theorem rows_first (m L : Nat) : rows m L 0 = 1 := by unfold rows; rw [show L - (((0 : Nat) : Int) - (L : Int)).natAbs = 0 by omega, V_zero]
theorem rows_last (m L : Nat) : rows m L (2 * L) = 1 := by unfold rows; rw [show L - (((2 * L : Nat) : Int) - (L : Int)).natAbs = 0 by omega, V_zero]
theorem ahead_mono {m L s t : Nat} (hm : m < 7) (hL : L < 9) (h : s ≤ t) : ahead m L s ≤ ahead m L t := by
  induction t with
  | zero => rw [show s = 0 by omega]; exact Int.le_refl _
  | succ t ih =>
    rcases Nat.lt_or_ge t s with h1 | h1
    · rw [show s = t + 1 by omega]; exact Int.le_refl _
    · have := ih h1
      have := (rows_in (s := t) hm hL).1
      rw [ahead_succ]; omega
theorem ahead_in {m L s : Nat} (hm : m < 6) (hL : L < 9) (hs : s ≤ 2 * L + 1) : 0 ≤ ahead m L s ∧ ahead m L s ≤ 20256 := by
  have h1 := ahead_mono (m := m) (L := L) (s := 0) (t := s) (by omega) hL (Nat.zero_le _)
  have h2 := ahead_mono (m := m) (L := L) (s := s) (t := 2 * L + 1) (by omega) hL hs
  rw [ahead_all hm hL] at h2
  rw [ahead_zero] at h1
  have := (V_in L (m + 1) hL (by omega)).2
  omega
theorem rows_at {m L : Nat} {x : Int} (h : x.natAbs ≤ L) : rows m L (x + (L : Int)).toNat = V (L - x.natAbs) m := by
  unfold rows
  rw [show (((x + (L : Int)).toNat : Nat) : Int) - (L : Int) = x by omega]

/-- How many rows of L pulses are ahead. -/
def rk : List Int → Nat → Int
  | [], _ => 0
  | x :: r, L => ahead r.length L (x + (L : Int)).toNat + rk r (L - x.natAbs)

theorem rk_in : ∀ (l : List Int), l.length ≤ 6 → loud l ≤ 8 → 0 ≤ rk l (loud l) ∧ rk l (loud l) < V (loud l) l.length := by
  intro l
  induction l with
  | nil => intro _ _; simp [rk, loud, V_zero]
  | cons x r ih =>
    intro h1 h2
    simp only [List.length_cons] at h1
    obtain ⟨L, hL⟩ : ∃ L, L = loud (x :: r) := ⟨_, rfl⟩
    have hL' : L = x.natAbs + loud r := hL
    rw [← hL] at h2 ⊢
    have i := ih (by omega) (by omega)
    have e : L - x.natAbs = loud r := by omega
    have hr := rows_at (m := r.length) (L := L) (x := x) (by omega)
    have hin := ahead_in (m := r.length) (L := L) (s := (x + (L : Int)).toNat) (by omega) (by omega) (by omega)
    have hm := ahead_mono (m := r.length) (L := L) (s := (x + (L : Int)).toNat + 1) (t := 2 * L + 1) (by omega) (by omega) (by omega)
    rw [ahead_all (by omega) (by omega), ahead_succ, hr, e] at hm
    simp only [rk, List.length_cons, e]
    omega

/-- .. in parts: what is ahead of a row, by its first number. -/
theorem rk_parts {x : Int} {r : List Int} (h1 : r.length ≤ 5) (h2 : loud (x :: r) ≤ 8) :
    ahead r.length (loud (x :: r)) (x + (loud (x :: r) : Int)).toNat ≤ rk (x :: r) (loud (x :: r)) ∧ rk (x :: r) (loud (x :: r)) < ahead r.length (loud (x :: r)) ((x + (loud (x :: r) : Int)).toNat + 1) := by
  have hL' : loud (x :: r) = x.natAbs + loud r := rfl
  have i := rk_in r (by omega) (by omega)
  have e : loud (x :: r) - x.natAbs = loud r := by omega
  have hr := rows_at (m := r.length) (L := loud (x :: r)) (x := x) (by omega)
  rw [ahead_succ, hr]
  simp only [rk, e]
  omega

theorem rk_less {x y : Int} {r t : List Int} (h1 : r.length ≤ 5) (hl : t.length = r.length) (h2 : loud (x :: r) ≤ 8) (hk : loud (y :: t) = loud (x :: r)) (h : x < y) :
    rk (x :: r) (loud (x :: r)) < rk (y :: t) (loud (x :: r)) := by
  have a := (rk_parts h1 h2).2
  have b := (rk_parts (x := y) (r := t) (by omega) (by omega)).1
  rw [hk, hl] at b
  have hx : loud (x :: r) = x.natAbs + loud r := rfl
  have hm := ahead_mono (m := r.length) (L := loud (x :: r)) (s := (x + (loud (x :: r) : Int)).toNat + 1) (t := (y + (loud (x :: r) : Int)).toNat) (by omega) (by omega) (by omega)
  omega

/-- Two rows of as many numbers and pulses that are the same up to a place, and differ there. -/
theorem rk_order : ∀ (p : List Int) (x y : Int) (r t : List Int), (p ++ x :: r).length ≤ 6 → t.length = r.length → loud (p ++ x :: r) ≤ 8 → loud (p ++ y :: t) = loud (p ++ x :: r) → x < y →
    rk (p ++ x :: r) (loud (p ++ x :: r)) < rk (p ++ y :: t) (loud (p ++ x :: r)) := by
  intro p
  induction p with
  | nil => intro x y r t h1 hl h2 hk h; exact rk_less (by simpa using h1) hl h2 hk h
  | cons z p ih =>
    intro x y r t h1 hl h2 hk h
    have e1 : loud (z :: p ++ x :: r) = z.natAbs + loud (p ++ x :: r) := rfl
    have e2 : loud (z :: p ++ y :: t) = z.natAbs + loud (p ++ y :: t) := rfl
    have i := ih x y r t (by simp at h1 ⊢; omega) hl (by omega) (by omega) h
    have e3 : loud (z :: p ++ x :: r) - z.natAbs = loud (p ++ x :: r) := by omega
    have e4 : (p ++ y :: t).length = (p ++ x :: r).length := by simp [hl]
    show rk (z :: (p ++ x :: r)) _ < rk (z :: (p ++ y :: t)) _
    simp only [rk, e3, e4]
    omega

theorem rk_one : ∀ (l m : List Int), l.length ≤ 6 → m.length = l.length → loud l ≤ 8 → loud m = loud l → rk m (loud l) = rk l (loud l) → m = l := by
  intro l
  induction l with
  | nil => intro m _ h _ _ _; exact List.length_eq_zero_iff.1 h
  | cons x r ih =>
    intro m h1 hl h2 hk hr
    cases m with
    | nil => simp at hl
    | cons y t =>
      have hl' : t.length = r.length := by simpa using hl
      have h1' : r.length ≤ 5 := by simp at h1; omega
      rcases Int.lt_trichotomy x y with h | h | h
      · have := rk_less h1' hl' h2 hk h; omega
      · subst h
        have e1 : loud (x :: r) = x.natAbs + loud r := rfl
        have e2 : loud (x :: t) = x.natAbs + loud t := rfl
        have e3 : loud (x :: r) - x.natAbs = loud r := by omega
        simp only [rk, e3, hl'] at hr
        rw [ih t (by omega) hl' (by omega) (by omega) (by omega)]
      · have := rk_less (by omega) hl'.symm (by omega) hk.symm h
        rw [hk] at this; omega

/-- The first of all, and the last. -/
theorem first_of {x : Int} {r : List Int} (h1 : r.length ≤ 5) (h2 : loud (x :: r) ≤ 8) (h : rk (x :: r) (loud (x :: r)) = 0) : x = -(loud (x :: r) : Int) := by
  have a := (rk_parts h1 h2).1
  have hL : loud (x :: r) = x.natAbs + loud r := rfl
  rcases Nat.eq_zero_or_pos (x + (loud (x :: r) : Int)).toNat with e | e
  · omega
  · have hm := ahead_mono (m := r.length) (L := loud (x :: r)) (s := 1) (t := (x + (loud (x :: r) : Int)).toNat) (by omega) (by omega) e
    have h3 : ahead r.length (loud (x :: r)) 1 = 1 := by rw [ahead_succ, ahead_zero, rows_first]; rfl
    omega
theorem last_of {x : Int} {r : List Int} (h1 : r.length ≤ 5) (h2 : loud (x :: r) ≤ 8) (h : rk (x :: r) (loud (x :: r)) = V (loud (x :: r)) (r.length + 1) - 1) : x = (loud (x :: r) : Int) := by
  have a := (rk_parts h1 h2).2
  have hL : loud (x :: r) = x.natAbs + loud r := rfl
  rcases Nat.lt_or_ge (x + (loud (x :: r) : Int)).toNat (2 * loud (x :: r)) with e | e
  · have hm := ahead_mono (m := r.length) (L := loud (x :: r)) (s := (x + (loud (x :: r) : Int)).toNat + 1) (t := 2 * loud (x :: r)) (by omega) (by omega) e
    have h3 := ahead_all (m := r.length) (L := loud (x :: r)) (by omega) (by omega)
    rw [ahead_succ, rows_last] at h3
    omega
  · omega

/-- The row of a rank. -/
def Is (n k : Nat) (rank : Int) (l : List Int) : Prop := l.length = n ∧ loud l = k ∧ rk l k = rank
theorem Is.one {n k : Nat} {rank : Int} {l m : List Int} (hn : n ≤ 6) (hk : k ≤ 8) (h : Is n k rank l) (g : Is n k rank m) : m = l := by
  obtain ⟨rfl, rfl, rfl⟩ := h
  obtain ⟨g1, g2, g3⟩ := g
  exact rk_one l m hn g1 hk g2 g3

/-- What is still wanted behind l: numbers of L pulses, r of such ahead of them. -/
def Wants (n k : Nat) (rank : Int) (l : List Int) (L : Nat) (r : Int) : Prop := ∀ m, Is (n - l.length) L r m → Is n k rank (l ++ m)
theorem wants_all (n k : Nat) (rank : Int) : Wants n k rank [] k rank := fun m h => by simpa using h
theorem is_cons {b L s : Nat} {r : Int} {m : List Int} (hs : s ≤ 2 * L) (h : Is b (L - ((s : Int) - (L : Int)).natAbs) (r - ahead b L s) m) : Is (b + 1) L r (((s : Int) - (L : Int)) :: m) := by
  obtain ⟨h1, h2, h3⟩ := h
  subst h1
  refine ⟨by simp, ?_, ?_⟩
  · simp only [loud, h2]; omega
  · simp only [rk]
    rw [show ((s : Int) - (L : Int) + (L : Int)).toNat = s by omega, h3]
    omega
theorem Wants.step {n k : Nat} {rank : Int} {l : List Int} {b L s : Nat} {r : Int} (h : Wants n k rank l L r) (hb : n - l.length = b + 1) (hs : s ≤ 2 * L) :
    Wants n k rank (l ++ [(s : Int) - (L : Int)]) (L - ((s : Int) - (L : Int)).natAbs) (r - ahead b L s) := by
  intro m hm
  have e : n - (l ++ [(s : Int) - (L : Int)]).length = b := by simp; omega
  rw [e] at hm
  have := h _ (by rw [hb]; exact is_cons hs hm)
  simpa using this
theorem Wants.done {n k : Nat} {rank : Int} {l : List Int} {L : Nat} {r : Int} (h : Wants n k rank l L r) (hl : l.length = n) (hL : L ≤ 8) (h0 : 0 ≤ r) (h1 : r < V L 0) : Is n k rank l := by
  have hz : L = 0 ∧ r = 0 := by
    cases L with
    | zero => rw [V_zero] at h1; omega
    | succ L => rw [V_none] at h1; omega
  obtain ⟨rfl, rfl⟩ := hz
  have := h [] ⟨by simp; omega, rfl, rfl⟩
  simpa using this

/-- What of a row's rank is still wanted at a place. -/
theorem rk_drop {l : List Int} {i : Nat} (hi : i < l.length) : loud (l.drop i) = (at0 l i).natAbs + loud (l.drop (i + 1)) ∧
    rk (l.drop i) (loud (l.drop i)) = ahead (l.length - 1 - i) (loud (l.drop i)) (at0 l i + (loud (l.drop i) : Int)).toNat + rk (l.drop (i + 1)) (loud (l.drop (i + 1))) := by
  have e : l.drop i = at0 l i :: l.drop (i + 1) := by
    rw [List.drop_eq_getElem_cons hi]
    simp [at0, hi]
  have e1 : loud (l.drop i) = (at0 l i).natAbs + loud (l.drop (i + 1)) := by rw [e]; rfl
  refine ⟨e1, ?_⟩
  have e2 : rk (l.drop i) (loud (l.drop i)) = rk (at0 l i :: l.drop (i + 1)) (loud (l.drop i)) := by rw [← e]
  rw [e2]
  simp only [rk, List.length_drop]
  rw [show l.length - (i + 1) = l.length - 1 - i by omega, show loud (l.drop i) - (at0 l i).natAbs = loud (l.drop (i + 1)) by omega]

/-- Where two rows first differ. -/
theorem cut_at {l : List Int} {i : Nat} (hi : i < l.length) : l = l.take i ++ at0 l i :: l.drop (i + 1) := by
  have e : l.drop i = at0 l i :: l.drop (i + 1) := by
    rw [List.drop_eq_getElem_cons hi]
    simp [at0, hi]
  rw [← e, List.take_append_drop]
theorem first_diff {n k : Nat} {a b : Int} {l m : List Int} {i : Nat} (hn : n ≤ 6) (hk : k ≤ 8) (hl : Is n k a l) (hm : Is n k b m) (hi : i < n) (h : l.take i = m.take i) (hd : at0 l i < at0 m i) : a < b := by
  obtain ⟨l1, l2, l3⟩ := hl
  obtain ⟨m1, m2, m3⟩ := hm
  have e1 := cut_at (l := l) (i := i) (by omega)
  have e2 := cut_at (l := m) (i := i) (by omega)
  rw [← h] at e2
  have ho := rk_order (l.take i) (at0 l i) (at0 m i) (l.drop (i + 1)) (m.drop (i + 1)) (by rw [← e1]; omega) (by rw [List.length_drop, List.length_drop]; omega) (by rw [← e1]; omega) (by rw [← e1, ← e2]; omega) hd
  rw [← e1, ← e2, l2, l3, m3] at ho
  exact ho
theorem Is.rank {n k : Nat} {a b : Int} {l : List Int} (hl : Is n k a l) (hm : Is n k b l) : a = b := hl.2.2.symm.trans hm.2.2
theorem Is.self (l : List Int) : Is l.length (loud l) (rk l (loud l)) l := ⟨rfl, rfl, rfl⟩

theorem Is.first {n k : Nat} {l : List Int} (hn : n ≤ 6) (hk : k ≤ 8) (h0 : 0 < n) (h : Is n k 0 l) : at0 l 0 = -(k : Int) := by
  obtain ⟨rfl, rfl, h3⟩ := h
  cases l with
  | nil => simp at h0
  | cons x r => exact first_of (by simp at hn; omega) hk h3
theorem Is.last {n k : Nat} {l : List Int} (hn : n ≤ 6) (hk : k ≤ 8) (h0 : 0 < n) (h : Is n k (V k n - 1) l) : at0 l 0 = (k : Int) := by
  obtain ⟨rfl, rfl, h3⟩ := h
  cases l with
  | nil => simp at h0
  | cons x r => exact last_of (by simp at hn; omega) hk h3

end Go.Proofs.YthkibjhhlcfceaiDoor.Pls

/-
  The numbers of chapter 7: k pulses as near as may be to numbers. No program here.
-/
namespace Go.Proofs.YthkibjhhlcfceaiDoor.Nea
open Go.Proofs.YthkibjhhlcfceaiDoor.Tre Go.Proofs.YthkibjhhlcfceaiDoor.Pls
set_option linter.unusedVariables false

/-- All together. -/
def tot (f : Nat → Nat) : Nat → Nat
  | 0 => 0
  | n + 1 => tot f n + f n
theorem tot_congr {f g : Nat → Nat} {n : Nat} (h : ∀ i, i < n → f i = g i) : tot f n = tot g n := by
  induction n with
  | zero => rfl
  | succ n ih => simp only [tot, ih fun i hi => h i (by omega), h n (by omega)]
theorem tot_add (f g : Nat → Nat) (n : Nat) : tot (fun i => f i + g i) n = tot f n + tot g n := by
  induction n with
  | zero => rfl
  | succ n ih => simp only [tot, ih]; omega
theorem tot_mul (c : Nat) (f : Nat → Nat) (n : Nat) : tot (fun i => c * f i) n = c * tot f n := by
  induction n with
  | zero => rfl
  | succ n ih => simp only [tot, ih, Nat.mul_add]
theorem tot_le {f g : Nat → Nat} {n : Nat} (h : ∀ i, i < n → f i ≤ g i) : tot f n ≤ tot g n := by
  induction n with
  | zero => exact Nat.le_refl _
  | succ n ih => have := ih fun i hi => h i (by omega); have := h n (by omega); simp only [tot]; omega
theorem tot_const (c n : Nat) : tot (fun _ => c) n = c * n := by
  induction n with
  | zero => rfl
  | succ n ih => simp only [tot, ih, Nat.mul_add]; omega
theorem tot_none (n : Nat) : tot (fun _ => 0) n = 0 := by rw [tot_const, Nat.zero_mul]
theorem tot_at (c : Nat) {i n : Nat} (h : i < n) : tot (fun j => if j = i then c else 0) n = c := by
  induction n with
  | zero => omega
  | succ n ih =>
    simp only [tot]
    by_cases e : i < n
    · rw [ih e, if_neg (by omega)]; rfl
    · obtain rfl : i = n := by omega
      rw [if_pos rfl, tot_congr (g := fun _ => 0) fun j hj => by rw [if_neg (by omega)], tot_none]; omega
theorem tot_one {f : Nat → Nat} {n i : Nat} (h : i < n) : f i ≤ tot f n := by
  have := tot_le (f := fun j => if j = i then f i else 0) (g := f) (n := n) fun j _ => by
    by_cases e : j = i
    · rw [if_pos e, e]; exact Nat.le_refl _
    · rw [if_neg e]; exact Nat.zero_le _
  rwa [tot_at _ h] at this
theorem tot_zero {f : Nat → Nat} {n : Nat} (h : tot f n = 0) : ∀ i, i < n → f i = 0 := fun i hi => by
  have := tot_one (f := f) hi; omega

theorem loud_to (l : List Int) : ∀ k, k ≤ l.length → loud (l.take k) = tot (fun i => (at0 l i).natAbs) k := by
  intro k
  induction k with
  | zero => intro _; rfl
  | succ k ih =>
    intro h
    rw [List.take_succ_eq_append_getElem (by omega : k < l.length), loud_append, ih (by omega)]
    have e : at0 l k = l[k]'(by omega) := by simp [at0, show k < l.length by omega]
    simp [loud, tot, e]
theorem loud_tot (l : List Int) : loud l = tot (fun i => (at0 l i).natAbs) l.length := by
  have := loud_to l l.length (Nat.le_refl _)
  rwa [List.take_length] at this

/-- How many. -/
def one (b : Bool) : Nat := if b then 1 else 0
def cnt (g : Nat → Bool) (n : Nat) : Nat := tot (fun i => one (g i)) n
theorem cnt_le (g : Nat → Bool) (n : Nat) : cnt g n ≤ n := by
  have := tot_le (f := fun i => one (g i)) (g := fun _ => 1) (n := n) fun i _ => by unfold one; split <;> omega
  rw [tot_const] at this
  unfold cnt; omega
theorem cnt_none {g : Nat → Bool} {n : Nat} (h : cnt g n = 0) : ∀ i, i < n → g i = false := fun i hi => by
  have := tot_zero h i hi
  cases e : g i with
  | false => rfl
  | true => rw [e] at this; simp [one] at this
theorem cnt_free {g : Nat → Bool} {n : Nat} (h : cnt g n < n) : ∃ i, i < n ∧ g i = false := by
  induction n with
  | zero => omega
  | succ n ih =>
    cases e : g n with
    | false => exact ⟨n, by omega, e⟩
    | true =>
      have : cnt g (n + 1) = cnt g n + 1 := by simp [cnt, tot, one, e]
      obtain ⟨i, hi, hg⟩ := ih (by omega)
      exact ⟨i, by omega, hg⟩
/-- One more. -/
def with1 (g : Nat → Bool) (b : Nat) (i : Nat) : Bool := g i || decide (i = b)
theorem one_with {g : Nat → Bool} {b : Nat} (h : g b = false) (i : Nat) : one (with1 g b i) = one (g i) + (if i = b then 1 else 0) := by
  unfold with1
  by_cases e : i = b
  · subst e; rw [h]; simp [one]
  · simp [one, e]
theorem cnt_with {g : Nat → Bool} {b n : Nat} (hb : b < n) (h : g b = false) : cnt (with1 g b) n = cnt g n + 1 := by
  unfold cnt
  rw [tot_congr fun i _ => one_with h i, tot_add, tot_at 1 hb]
theorem cnt_all {g h : Nat → Bool} {n : Nat} (e : cnt g n = cnt h n) (hi : ∀ i, i < n → g i = true → h i = true) : ∀ i, i < n → g i = h i := by
  induction n with
  | zero => intro i hi; omega
  | succ n ih =>
    have l1 : cnt g n ≤ cnt h n := tot_le fun i hi' => by
      cases eg : g i with
      | false => simp [one]
      | true => rw [hi i (by omega) eg]; exact Nat.le_refl _
    have e1 : cnt g (n + 1) = cnt g n + one (g n) := rfl
    have e2 : cnt h (n + 1) = cnt h n + one (h n) := rfl
    have l2 : one (g n) ≤ one (h n) := by
      cases eg : g n with
      | false => simp [one]
      | true => rw [hi n (by omega) eg]; exact Nat.le_refl _
    intro i hin
    rcases Nat.lt_or_ge i n with h1 | h1
    · exact ih (by omega) (fun j hj => hi j (by omega)) i h1
    · obtain rfl : i = n := by omega
      have e3 : one (g i) = one (h i) := by omega
      cases eg : g i <;> cases eh : h i <;> simp [one, eg, eh] at e3 ⊢

/-- Who comes first: of a greater rest; of several the first. -/
def Beats (r : Nat → Nat) (i j : Nat) : Prop := r j < r i ∨ (r j = r i ∧ i < j)
/-- So many of the greatest rests. -/
def Pick (r : Nat → Nat) (n m : Nat) (g : Nat → Bool) : Prop := cnt g n = m ∧ ∀ i j, i < n → j < n → g i = true → g j = false → Beats r i j
theorem Pick.one {r : Nat → Nat} {n m : Nat} {g h : Nat → Bool} (hg : Pick r n m g) (hh : Pick r n m h) : ∀ i, i < n → g i = h i := by
  by_cases a : ∀ i, i < n → g i = true → h i = true
  · exact cnt_all (hg.1.trans hh.1.symm) a
  · by_cases b : ∀ i, i < n → h i = true → g i = true
    · exact fun i hi => (cnt_all (hh.1.trans hg.1.symm) b i hi).symm
    · obtain ⟨i, hi, gi, hi'⟩ : ∃ i, i < n ∧ g i = true ∧ h i = false := by
        apply Classical.byContradiction
        intro hn
        exact a fun i hi e => by
          cases e' : h i with
          | true => rfl
          | false => exact absurd ⟨i, hi, e, e'⟩ hn
      obtain ⟨j, hj, hj', gj⟩ : ∃ j, j < n ∧ h j = true ∧ g j = false := by
        apply Classical.byContradiction
        intro hn
        exact b fun i hi e => by
          cases e' : g i with
          | true => rfl
          | false => exact absurd ⟨i, hi, e, e'⟩ hn
      have h1 := hg.2 i j hi hj gi gj
      have h2 := hh.2 j i hj hi hj' hi'
      unfold Beats at h1 h2
      omega
theorem pick_zero (r : Nat → Nat) (n : Nat) : Pick r n 0 fun _ => false := ⟨tot_none n, fun _ _ _ _ h => by cases h⟩
/-- The best of those that have none. -/
def Best (r : Nat → Nat) (g : Nat → Bool) (t b : Nat) : Prop := b < t ∧ g b = false ∧ ∀ i, i < t → g i = false → i = b ∨ Beats r b i
theorem Pick.more {r : Nat → Nat} {n m b : Nat} {g : Nat → Bool} (h : Pick r n m g) (hb : Best r g n b) : Pick r n (m + 1) (with1 g b) := by
  refine ⟨by rw [cnt_with hb.1 hb.2.1, h.1], fun i j hi hj gi gj => ?_⟩
  have gj' : g j = false ∧ j ≠ b := by simpa [with1] using gj
  have gi' : g i = true ∨ i = b := by simpa [with1] using gi
  rcases gi' with e | rfl
  · exact h.2 i j hi hj e gj'.1
  · rcases hb.2.2 j hj gj'.1 with e | e
    · exact absurd e gj'.2
    · exact e
theorem best_first {r : Nat → Nat} {g : Nat → Bool} {t : Nat} (hn : ∀ i, i < t → g i = true) (h : g t = false) : Best r g (t + 1) t :=
  ⟨by omega, h, fun i hi e => by
    rcases Nat.lt_or_ge i t with h1 | h1
    · rw [hn i h1] at e; cases e
    · exact Or.inl (by omega)⟩
theorem Best.new {r : Nat → Nat} {g : Nat → Bool} {t b : Nat} (hb : Best r g t b) (h : g t = false) (hr : r b < r t) : Best r g (t + 1) t := by
  refine ⟨by omega, h, fun i hi e => ?_⟩
  rcases Nat.lt_or_ge i t with h1 | h1
  · refine Or.inr ?_
    rcases hb.2.2 i h1 e with rfl | e'
    · exact Or.inl hr
    · unfold Beats at e' ⊢; omega
  · exact Or.inl (by omega)
theorem Best.old {r : Nat → Nat} {g : Nat → Bool} {t b : Nat} (hb : Best r g t b) (h : g t = true ∨ r t ≤ r b) : Best r g (t + 1) b := by
  refine ⟨by have := hb.1; omega, hb.2.1, fun i hi e => ?_⟩
  rcases Nat.lt_or_ge i t with h1 | h1
  · exact hb.2.2 i h1 e
  · obtain rfl : i = t := by omega
    rcases h with h | h
    · rw [h] at e; cases e
    · refine Or.inr ?_
      have := hb.1
      unfold Beats; omega

/-- The shares of k pulses, what is certain of each, what is left of each, and how many pulses nobody has. -/
def sh (v : List Int) (k i : Nat) : Nat := k * (at0 v i).natAbs
def qt (v : List Int) (k i : Nat) : Nat := sh v k i / loud v
def rt (v : List Int) (k i : Nat) : Nat := sh v k i % loud v
def lft (v : List Int) (k : Nat) : Nat := k - tot (qt v k) v.length

theorem sh_eq (v : List Int) (k i : Nat) : sh v k i = loud v * qt v k i + rt v k i := (Nat.div_add_mod _ _).symm
theorem sh_tot (v : List Int) (k : Nat) : tot (sh v k) v.length = k * loud v := by
  unfold sh
  rw [tot_mul, ← loud_tot]
theorem rt_lt {v : List Int} (k i : Nat) (h : 0 < loud v) : rt v k i < loud v := Nat.mod_lt _ h
theorem parts (v : List Int) (k : Nat) : loud v * tot (qt v k) v.length + tot (rt v k) v.length = k * loud v := by
  rw [← sh_tot, ← tot_mul, ← tot_add]
  exact tot_congr fun i _ => (sh_eq v k i).symm
theorem qt_le {v : List Int} (k : Nat) (h : k = 0 ∨ 0 < loud v) : tot (qt v k) v.length ≤ k := by
  rcases h with rfl | h
  · rw [tot_congr (g := fun _ => 0) fun i _ => by simp [qt, sh], tot_none]; exact Nat.le_refl _
  · have := parts v k
    rw [Nat.mul_comm k] at this
    exact Nat.le_of_mul_le_mul_left (by omega : loud v * tot (qt v k) v.length ≤ loud v * k) h
theorem rests (v : List Int) (k : Nat) (h : k = 0 ∨ 0 < loud v) : tot (rt v k) v.length = loud v * lft v k ∧ tot (qt v k) v.length + lft v k = k := by
  have h1 := qt_le k h
  have h2 : tot (qt v k) v.length + lft v k = k := by unfold lft; omega
  refine ⟨?_, h2⟩
  have h3 := parts v k
  rw [Nat.mul_comm k] at h3
  have h4 : loud v * k = loud v * tot (qt v k) v.length + loud v * lft v k := by rw [← Nat.mul_add, h2]
  omega
theorem lft_le {v : List Int} (k : Nat) (h : k = 0 ∨ 0 < loud v) : lft v k ≤ v.length := by
  rcases h with rfl | h
  · simp [lft]
  · have h1 := (rests v k (Or.inr h)).1
    have h2 := tot_le (f := rt v k) (g := fun _ => loud v) (n := v.length) fun i _ => Nat.le_of_lt (rt_lt k i h)
    rw [tot_const, h1] at h2
    exact Nat.le_of_mul_le_mul_left h2 h
/-- None goes to a 0. -/
theorem pick_pos {v : List Int} {k : Nat} {g : Nat → Bool} (h : k = 0 ∨ 0 < loud v) (hp : Pick (rt v k) v.length (lft v k) g) {i : Nat} (hi : i < v.length) (hg : g i = true) : 0 < rt v k i := by
  rcases h with rfl | h
  · have h0 : lft v 0 = 0 := by simp [lft]
    rw [h0] at hp
    rw [cnt_none hp.1 i hi] at hg; cases hg
  · apply Classical.byContradiction
    intro hn
    have h0 : rt v k i = 0 := by omega
    have h1 := tot_le (f := fun j => rt v k j + (if j = i then loud v else 0)) (g := fun j => loud v * one (g j)) (n := v.length) fun j hj => by
      by_cases e : j = i
      · subst e; rw [if_pos rfl, h0, hg]; simp [one]
      · rw [if_neg e]
        cases eg : g j with
        | true => have := rt_lt k j h; simp [one]; omega
        | false =>
          have := hp.2 i j hi hj hg eg
          unfold Beats at this
          simp [one]; omega
    rw [tot_add, tot_at _ hi, tot_mul, (rests v k (Or.inr h)).1] at h1
    have h2 : tot (fun j => one (g j)) v.length = lft v k := hp.1
    rw [h2] at h1
    omega

/-- The pulses. -/
def res (v : List Int) (k : Nat) (g : Nat → Bool) (i : Nat) : Int := (at0 v i).sign * ((qt v k i + one (g i) : Nat) : Int)
def Near (v : List Int) (k : Nat) (l : List Int) : Prop := ∃ g, Pick (rt v k) v.length (lft v k) g ∧ l = upto (res v k g) v.length
theorem Near.one {v : List Int} {k : Nat} {l m : List Int} (h : Near v k l) (h' : Near v k m) : l = m := by
  obtain ⟨g, hg, rfl⟩ := h
  obtain ⟨g', hg', rfl⟩ := h'
  exact upto_congr fun i hi => by unfold res; rw [hg.one hg' i hi]
theorem Near.len {v : List Int} {k : Nat} {l : List Int} (h : Near v k l) : l.length = v.length := by
  obtain ⟨g, hg, rfl⟩ := h
  exact upto_length _ _
theorem res_abs {v : List Int} {k : Nat} {g : Nat → Bool} (h : k = 0 ∨ 0 < loud v) (hp : Pick (rt v k) v.length (lft v k) g) {i : Nat} (hi : i < v.length) : (res v k g i).natAbs = qt v k i + one (g i) := by
  unfold res
  rw [Int.natAbs_mul, Int.natAbs_natCast]
  by_cases e : at0 v i = 0
  · have e1 : qt v k i = 0 := by simp [qt, sh, e]
    have e2 : rt v k i = 0 := by simp [rt, sh, e]
    have e3 : g i = false := by
      cases eg : g i with
      | false => rfl
      | true => have := pick_pos h hp hi eg; omega
    rw [e1, e3]; simp [one]
  · rw [Int.natAbs_sign_of_ne_zero e, Nat.one_mul]
theorem Near.loud {v : List Int} {k : Nat} {l : List Int} (h : Near v k l) (hk : k = 0 ∨ 0 < loud v) : loud l = k := by
  obtain ⟨g, hg, rfl⟩ := h
  rw [loud_tot, upto_length, tot_congr (g := fun i => qt v k i + Nea.one (g i)) fun i hi => by rw [upto_at _ hi, res_abs hk hg hi], tot_add]
  have := (rests v k hk).2
  have h2 : tot (fun j => Nea.one (g j)) v.length = lft v k := hg.1
  omega
theorem Near.sign {v : List Int} {k : Nat} {l : List Int} (h : Near v k l) {i : Nat} (hi : i < v.length) : (at0 l i < 0 → at0 v i < 0) ∧ (0 < at0 l i → 0 < at0 v i) := by
  obtain ⟨g, hg, rfl⟩ := h
  rw [upto_at _ hi]
  unfold res
  obtain ⟨N, hN⟩ : ∃ N, qt v k i + Nea.one (g i) = N := ⟨_, rfl⟩
  rw [hN]
  rcases Int.lt_trichotomy (at0 v i) 0 with e | e | e
  · rw [Int.sign_eq_neg_one_of_neg e]; omega
  · rw [e]; simp
  · rw [Int.sign_eq_one_of_pos e]; omega

/-- How far. -/
def far1 (v : List Int) (k : Nat) (p : List Int) (i : Nat) : Nat := ((k : Int) * at0 v i - (loud v : Int) * at0 p i).natAbs
def far (v : List Int) (k : Nat) (p : List Int) : Nat := tot (far1 v k p) v.length

theorem bound {r : Nat → Nat} {g : Nat → Bool} (M : Nat) : ∀ n, (∀ i, i < n → r i ≤ M) → ∃ c, c ≤ M ∧ (∀ j, j < n → g j = false → r j ≤ c) ∧ ∀ x : Nat, (∀ j, j < n → g j = false → r j ≤ x) → c ≤ x := by
  intro n
  induction n with
  | zero => intro _; exact ⟨0, Nat.zero_le _, fun j hj => by omega, fun x _ => Nat.zero_le _⟩
  | succ n ih =>
    intro hM
    obtain ⟨c, c1, c2, c3⟩ := ih fun i hi => hM i (by omega)
    cases e : g n with
    | true =>
      refine ⟨c, c1, fun j hj hg => ?_, fun x hx => c3 x fun j hj => hx j (by omega)⟩
      rcases Nat.lt_or_ge j n with h | h
      · exact c2 j h hg
      · obtain rfl : j = n := by omega
        rw [e] at hg; cases hg
    | false =>
      refine ⟨max c (r n), Nat.max_le.2 ⟨c1, hM n (by omega)⟩, fun j hj hg => ?_, fun x hx => Nat.max_le.2 ⟨c3 x fun j hj => hx j (by omega), hx n (by omega) e⟩⟩
      rcases Nat.lt_or_ge j n with h | h
      · exact Nat.le_trans (c2 j h hg) (Nat.le_max_left _ _)
      · obtain rfl : j = n := by omega
        exact Nat.le_max_right _ _

/-- One number: no other number of pulses is nearer, a pulse's price paid. -/
theorem near1 (M q r c y g : Int) (r0 : 0 ≤ r) (r1 : r < M) (c0 : 0 ≤ c) (c1 : c ≤ M) (hg : (g = 1 ∧ c ≤ r) ∨ (g = 0 ∧ r ≤ c)) :
    ((M * q + r - M * (q + g)).natAbs : Int) + (M - 2 * c) * (y - (q + g)) ≤ ((M * q + r - M * y).natAbs : Int) := by
  obtain ⟨t, rfl⟩ : ∃ t, y = q + t := ⟨y - q, by omega⟩
  have e1 : M * q + r - M * (q + g) = r - M * g := by rw [Int.mul_add]; omega
  have e2 : M * q + r - M * (q + t) = r - M * t := by rw [Int.mul_add]; omega
  have e3 : (M - 2 * c) * (q + t - (q + g)) = M * t - M * g - 2 * (c * t) + 2 * (c * g) := by
    rw [show q + t - (q + g) = t - g by omega, Int.sub_mul, Int.mul_sub, Int.mul_sub, Int.mul_assoc, Int.mul_assoc]; omega
  rw [e1, e2, e3]
  rcases (by omega : 0 < t ∨ t ≤ 0) with h | h
  · have p1 : 0 ≤ M * (t - 1) := Int.mul_nonneg (by omega) (by omega)
    have p2 : 0 ≤ c * (t - 1) := Int.mul_nonneg c0 (by omega)
    rw [Int.mul_sub, Int.mul_one] at p1 p2
    rcases hg with ⟨rfl, hg⟩ | ⟨rfl, hg⟩
    · rw [Int.mul_one, Int.mul_one]; omega
    · rw [Int.mul_zero, Int.mul_zero]; omega
  · have p1 : 0 ≤ (M - c) * (-t) := Int.mul_nonneg (by omega) (by omega)
    have p2 : 0 ≤ c * (-t) := Int.mul_nonneg c0 (by omega)
    rw [Int.sub_mul, Int.mul_neg, Int.mul_neg] at p1
    rw [Int.mul_neg] at p2
    rcases hg with ⟨rfl, hg⟩ | ⟨rfl, hg⟩
    · rw [Int.mul_one, Int.mul_one]; omega
    · rw [Int.mul_zero, Int.mul_zero]; omega

theorem abs_sub (M x y : Int) (hM : 0 ≤ M) (k : Int) (hk : 0 ≤ k) : (k * (x.natAbs : Int) - M * (y.natAbs : Int)).natAbs ≤ (k * x - M * y).natAbs := by
  have e1 : k * (x.natAbs : Int) = ((k * x).natAbs : Int) := by rw [Int.natAbs_mul, Int.natCast_mul, Int.natAbs_of_nonneg hk]
  have e2 : M * (y.natAbs : Int) = ((M * y).natAbs : Int) := by rw [Int.natAbs_mul, Int.natCast_mul, Int.natAbs_of_nonneg hM]
  rw [e1, e2]
  omega
theorem abs_sub_same (M x y : Int) (hM : 0 ≤ M) (k : Int) (hk : 0 ≤ k) (h : (y < 0 → x < 0) ∧ (0 < y → 0 < x)) : (k * (x.natAbs : Int) - M * (y.natAbs : Int)).natAbs = (k * x - M * y).natAbs := by
  rcases Int.lt_trichotomy y 0 with e | e | e
  · have hx := h.1 e
    rw [show (x.natAbs : Int) = -x by omega, show (y.natAbs : Int) = -y by omega, Int.mul_neg, Int.mul_neg]; omega
  · subst e
    have e1 : k * (x.natAbs : Int) = ((k * x).natAbs : Int) := by rw [Int.natAbs_mul, Int.natCast_mul, Int.natAbs_of_nonneg hk]
    rw [e1]; simp
  · have hx := h.2 e
    rw [show (x.natAbs : Int) = x by omega, show (y.natAbs : Int) = y by omega]

/-- NONE IS NEARER. -/
theorem Near.best {v : List Int} {k : Nat} {l q : List Int} (h : Near v k l) (hk : k = 0 ∨ 0 < Pls.loud v) (hq : q.length = v.length) (hl : Pls.loud q = k) : far v k l ≤ far v k q := by
  rcases Nat.eq_zero_or_pos (Pls.loud v) with hM | hM
  · have : ∀ i, i < v.length → at0 v i = 0 := fun i hi => by
      rw [loud_tot] at hM
      have := tot_zero hM i hi
      omega
    rw [show far v k l = 0 from by
      unfold far
      rw [tot_congr (g := fun _ => 0) fun i hi => by unfold far1; rw [hM, this i hi]; simp, tot_none]]
    exact Nat.zero_le _
  · have hll := h.loud hk
    have hsg := fun i hi => h.sign (i := i) hi
    have hlen := h.len
    obtain ⟨g, hg, rfl⟩ := h
    obtain ⟨c, c1, c2, c3⟩ := bound (r := rt v k) (g := g) (Pls.loud v) v.length fun i _ => Nat.le_of_lt (rt_lt k i hM)
    have hone : ∀ i, i < v.length → (far1 v k (upto (res v k g) v.length) i : Int) + ((Pls.loud v : Int) - 2 * (c : Int)) * ((at0 q i).natAbs : Int) ≤ (far1 v k q i : Int) + ((Pls.loud v : Int) - 2 * (c : Int)) * ((at0 (upto (res v k g) v.length) i).natAbs : Int) := by
      intro i hi
      have s1 := abs_sub_same (Pls.loud v) (at0 v i) (at0 (upto (res v k g) v.length) i) (by omega) k (by omega) (hsg i hi)
      have s2 := abs_sub (Pls.loud v) (at0 v i) (at0 q i) (by omega) k (by omega)
      have s3 : (at0 (upto (res v k g) v.length) i).natAbs = qt v k i + Nea.one (g i) := by rw [upto_at _ hi, res_abs hk hg hi]
      have s4 : (k : Int) * ((at0 v i).natAbs : Int) = (Pls.loud v : Int) * (qt v k i : Int) + (rt v k i : Int) := by
        have := sh_eq v k i
        unfold sh at this
        rw [← Int.natCast_mul, this]; simp
      have s5 := near1 (Pls.loud v) (qt v k i) (rt v k i) c ((at0 q i).natAbs : Int) (Nea.one (g i) : Int) (by omega) (by have := rt_lt k i hM; omega) (by omega) (by omega) (by
        cases eg : g i with
        | true => exact Or.inl ⟨by simp [Nea.one], by
            have := c3 (rt v k i) fun j hj ej => by
              have := hg.2 i j hi hj eg ej
              unfold Beats at this; omega
            omega⟩
        | false => exact Or.inr ⟨by simp [Nea.one], by have := c2 i hi eg; omega⟩)
      unfold far1
      rw [← s1, s3, s4]
      rw [s4] at s2
      rw [Int.mul_sub] at s5
      rw [show ((qt v k i + Nea.one (g i) : Nat) : Int) = (qt v k i : Int) + (Nea.one (g i) : Int) by omega]
      omega
    have hsum : ∀ n, n ≤ v.length → (tot (far1 v k (upto (res v k g) v.length)) n : Int) + ((Pls.loud v : Int) - 2 * (c : Int)) * (tot (fun i => (at0 q i).natAbs) n : Int) ≤ (tot (far1 v k q) n : Int) + ((Pls.loud v : Int) - 2 * (c : Int)) * (tot (fun i => (at0 (upto (res v k g) v.length) i).natAbs) n : Int) := by
      intro n
      induction n with
      | zero => intro _; simp [tot]
      | succ n ih =>
        intro hn
        have i1 := ih (by omega)
        have i2 := hone n (by omega)
        simp only [tot, Int.natCast_add, Int.mul_add]
        omega
    have hs := hsum v.length (Nat.le_refl _)
    have q1 : tot (fun i => (at0 q i).natAbs) v.length = k := by rw [← hq, ← loud_tot, hl]
    have q2 : tot (fun i => (at0 (upto (res v k g) v.length) i).natAbs) v.length = k := by
      have := loud_tot (upto (res v k g) v.length)
      rw [hll, hlen] at this
      exact this.symm
    rw [q1, q2] at hs
    unfold far
    omega

/-- WHAT IS A WHOLE ROW ALREADY IS ITS OWN. -/
theorem at0_map (by_ : Int) (p : List Int) (i : Nat) : at0 (p.map (by_ * ·)) i = by_ * at0 p i := by
  unfold at0
  rw [List.getElem?_map]
  cases p[i]? with
  | none => simp
  | some x => rfl
theorem loud_map (c : Nat) (p : List Int) : Pls.loud (p.map ((c : Int) * ·)) = c * Pls.loud p := by
  rw [loud_tot, loud_tot p, List.length_map, ← tot_mul]
  exact tot_congr fun i _ => by rw [at0_map, Int.natAbs_mul]; simp
theorem whole_sh (c : Nat) (p : List Int) (i : Nat) (hc : 0 < c) (hk : 0 < Pls.loud p) : qt (p.map ((c : Int) * ·)) (Pls.loud p) i = (at0 p i).natAbs ∧ rt (p.map ((c : Int) * ·)) (Pls.loud p) i = 0 := by
  unfold qt rt sh
  rw [loud_map, at0_map, Int.natAbs_mul, Int.natAbs_natCast, ← Nat.mul_assoc, Nat.mul_comm (Pls.loud p) c, Nat.mul_div_cancel_left _ (Nat.mul_pos hc hk), Nat.mul_mod_right]
  exact ⟨rfl, rfl⟩
theorem whole {c : Nat} {p l : List Int} (hc : 0 < c) (hk : 0 < Pls.loud p) (h : Near (p.map ((c : Int) * ·)) (Pls.loud p) l) : l = p := by
  obtain ⟨g, hg, rfl⟩ := h
  have h0 : lft (p.map ((c : Int) * ·)) (Pls.loud p) = 0 := by
    unfold lft
    rw [tot_congr (g := fun i => (at0 p i).natAbs) fun i _ => (whole_sh c p i hc hk).1, List.length_map, ← loud_tot]; omega
  rw [h0] at hg
  refine eq_of_at (by rw [upto_length, List.length_map]) fun i hi => ?_
  rw [upto_length] at hi
  rw [upto_at _ hi]
  unfold res
  rw [cnt_none hg.1 i hi, (whole_sh c p i hc hk).1, at0_map, Int.sign_mul, Int.sign_natCast_of_ne_zero (by omega), Int.one_mul]
  simp [Nea.one, Int.sign_mul_natAbs]
theorem whole_far (c : Nat) (p : List Int) : far (p.map ((c : Int) * ·)) (Pls.loud p) p = 0 := by
  unfold far
  rw [tot_congr (g := fun _ => 0) fun i _ => by
    unfold far1
    rw [loud_map, at0_map, Int.natCast_mul, ← Int.mul_assoc, Int.mul_comm (Pls.loud p : Int) c]
    simp, tot_none]

end Go.Proofs.YthkibjhhlcfceaiDoor.Nea
