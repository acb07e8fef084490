/-
  The numbers of chapter 14: what pulses cost, who gets one. No program here.
-/
import Derived.Test.YtjnmogmagngenaiDoorCountMath
import Derived.Test.YtjnmogmagngenaiDoorBandMath
namespace Go.Proofs.YtjnmogmagngenaiDoor.Shr
open Go.Proofs.YtjnmogmagngenaiDoor.Tre Go.Proofs.YtjnmogmagngenaiDoor.Cnt Go.Proofs.YtjnmogmagngenaiDoor.Bnd
set_option linter.unusedVariables false

/-- How many bits so many numbers of so many pulses need. -/
def Bt (k n : Nat) : Nat := ((List.range 15).find? fun b => decide (V k n ≤ 2 ^ b)).getD 15
theorem Bt_is {k n : Nat} (hk : k ≤ 8) (hn : n ≤ 6) : Least (V k n) (Bt k n) := by
  have key : ∀ k : Nat, k < 9 → ∀ n : Nat, n < 7 → V k n ≤ 2 ^ Bt k n ∧ ∀ i : Nat, i < Bt k n → (2 : Int) ^ i < V k n := by decide +kernel
  exact key k (by omega) n (by omega)
theorem Bt_le {k n : Nat} (hk : k ≤ 8) (hn : n ≤ 6) : Bt k n ≤ 15 := by
  have key : ∀ k : Nat, k < 9 → ∀ n : Nat, n < 7 → Bt k n ≤ 15 := by decide +kernel
  exact key k (by omega) n (by omega)
theorem Bt_zero {n : Nat} (hn : n ≤ 6) : Bt 0 n = 0 := by
  have key : ∀ n : Nat, n < 7 → Bt 0 n = 0 := by decide +kernel
  exact key n (by omega)

/-- What the first j bands cost; all. -/
def cs (s p : List Int) : Nat → Nat
  | 0 => 0
  | j + 1 => cs s p j + Bt (at0 p j).toNat (at0 s j).toNat
def cost (s p : List Int) : Nat := cs s p s.length
/-- Pulses that may be. -/
def Pls (p : List Int) : Prop := ∀ i, i < p.length → 0 ≤ at0 p i ∧ at0 p i ≤ 8
theorem cs_le {s p : List Int} (hs : Sizes s) (hp : Pls p) (hl : p.length = s.length) {j : Nat} (hj : j ≤ s.length) : cs s p j ≤ 15 * j := by
  induction j with
  | zero => exact Nat.le_refl _
  | succ j ih =>
    have h1 := ih (by omega)
    have h2 := hs j (by omega)
    have h3 := hp j (by omega)
    have h4 := Bt_le (k := (at0 p j).toNat) (n := (at0 s j).toNat) (by omega) (by omega)
    simp only [cs]
    omega
theorem cs_zeros {s : List Int} (hs : Sizes s) {j : Nat} (hj : j ≤ s.length) : cs s (upto (fun _ => 0) s.length) j = 0 := by
  induction j with
  | zero => rfl
  | succ j ih =>
    have h2 := hs j (by omega)
    simp only [cs]
    rw [ih (by omega), upto_at _ (by omega), Nat.zero_add]
    exact Bt_zero (n := (at0 s j).toNat) (by omega)
theorem cost_zeros {s : List Int} (hs : Sizes s) : cost s (upto (fun _ => 0) s.length) = 0 := cs_zeros hs (Nat.le_refl _)

/-- One pulse more. -/
def inc (o : List Int) (i : Nat) : List Int := o.set i (at0 o i + 1)
theorem inc_length (o : List Int) (i : Nat) : (inc o i).length = o.length := by simp [inc]
theorem inc_at {o : List Int} {i : Nat} (h : i < o.length) : at0 (inc o i) i = at0 o i + 1 := by simp [inc, at0, h]
theorem inc_other {o : List Int} {i j : Nat} (h : j ≠ i) : at0 (inc o i) j = at0 o j := by
  have h' : ¬ i = j := fun e => h e.symm
  simp [inc, at0, h']
theorem inc_dec {o : List Int} {i : Nat} : (inc o i).set i (at0 o i) = o := by
  refine eq_of_at (by simp [inc]) fun k hk => ?_
  have hk' : k < o.length := by simpa [inc] using hk
  by_cases e : k = i
  · subst e; simp [inc, at0, hk']
  · have h' : ¬ i = k := fun h => e h.symm
    simp [inc, at0, h']

/-- A band may get one more. -/
def Can (s d o : List Int) (B : Int) (i : Nat) : Prop := at0 d i ≠ 0 ∧ at0 o i ≠ 8 ∧ (cost s (inc o i) : Int) ≤ B
/-- One is louder by the square of one more than its pulses than another. -/
def Over (d o : List Int) (i b : Nat) : Prop := at0 d b * (at0 o i + 1) * (at0 o i + 1) < at0 d i * (at0 o b + 1) * (at0 o b + 1)
instance (s d o : List Int) (B : Int) (i : Nat) : Decidable (Can s d o B i) := by unfold Can; infer_instance
instance (d o : List Int) (i b : Nat) : Decidable (Over d o i b) := by unfold Over; infer_instance
/-- Who of the first j gets one. -/
def bst (s d o : List Int) (B : Int) : Nat → Option Nat
  | 0 => none
  | j + 1 => if Can s d o B j then (match bst s d o B j with | none => some j | some b => if Over d o j b then some j else some b) else bst s d o B j
theorem bst_lt {s d o : List Int} {B : Int} {j b : Nat} (h : bst s d o B j = some b) : b < j ∧ Can s d o B b := by
  induction j with
  | zero => simp [bst] at h
  | succ j ih =>
    rw [bst] at h
    split at h
    · rename_i hc
      split at h
      · cases h; exact ⟨by omega, hc⟩
      · rename_i c e
        split at h
        · cases h; exact ⟨by omega, hc⟩
        · cases h
          have := ih e
          exact ⟨by omega, this.2⟩
    · have := ih h
      exact ⟨by omega, this.2⟩
theorem bst_none {s d o : List Int} {B : Int} {j : Nat} (h : bst s d o B j = none) : ∀ i, i < j → ¬ Can s d o B i := by
  induction j with
  | zero => intro i hi; omega
  | succ j ih =>
    rw [bst] at h
    split at h
    · split at h
      · cases h
      · split at h <;> cases h
    · rename_i hc
      intro i hi
      by_cases e : i = j
      · rw [e]; exact hc
      · exact ih h i (by omega)
/-- Again and again. -/
def go (s d : List Int) (B : Int) : Nat → List Int → List Int
  | 0, o => o
  | f + 1, o => match bst s d o B s.length with
    | none => o
    | some b => go s d B f (inc o b)
def share (s d : List Int) (B : Int) : List Int := go s d B 100 (upto (fun _ => 0) s.length)

/-- What holds of the pulses all the way. -/
structure Inv (s d : List Int) (B : Int) (o : List Int) : Prop where
  len : o.length = s.length
  pls : Pls o
  low : ∀ i, i < o.length → at0 d i = 0 → at0 o i = 0
  cst : (cost s o : Int) ≤ B
/-- All pulses together. -/
def sm (o : List Int) : Nat → Int
  | 0 => 0
  | j + 1 => sm o j + at0 o j
theorem sm_le {o : List Int} (h : Pls o) {j : Nat} (hj : j ≤ o.length) : 0 ≤ sm o j ∧ sm o j ≤ 8 * j := by
  induction j with
  | zero => exact ⟨Int.le_refl _, Int.le_refl _⟩
  | succ j ih =>
    have h1 := ih (by omega)
    have h2 := h j (by omega)
    simp only [sm]
    omega
theorem sm_inc {o : List Int} {b : Nat} {j : Nat} (hj : j ≤ o.length) : sm (inc o b) j = sm o j + if b < j then 1 else 0 := by
  induction j with
  | zero => rfl
  | succ j ih =>
    have h1 := ih (by omega)
    simp only [sm]
    rw [h1]
    by_cases e : j = b
    · subst e
      rw [inc_at (by omega), if_neg (by omega), if_pos (by omega)]
      omega
    · rw [inc_other e]
      by_cases e2 : b < j
      · rw [if_pos e2, if_pos (by omega)]; omega
      · rw [if_neg e2, if_neg (by omega)]; omega
theorem inv_zero {s d : List Int} {B : Int} (hs : Sizes s) (hB : 0 ≤ B) : Inv s d B (upto (fun _ => 0) s.length) :=
  ⟨upto_length _ _, fun i hi => by rw [upto_length] at hi; rw [upto_at _ hi]; omega, fun i hi _ => by rw [upto_length] at hi; exact upto_at _ hi, by rw [cost_zeros hs]; exact hB⟩
theorem inv_inc {s d : List Int} {B : Int} {o : List Int} (h : Inv s d B o) {b : Nat} (hb : b < s.length) (hc : Can s d o B b) : Inv s d B (inc o b) := by
  have hl := h.len
  refine ⟨by rw [inc_length]; exact hl, fun i hi => ?_, fun i hi h0 => ?_, hc.2.2⟩
  · rw [inc_length] at hi
    by_cases e : i = b
    · subst e
      rw [inc_at hi]
      have := h.pls i hi
      have := hc.2.1
      omega
    · rw [inc_other e]; exact h.pls i hi
  · rw [inc_length] at hi
    by_cases e : i = b
    · subst e; exact absurd h0 hc.1
    · rw [inc_other e]; exact h.low i hi h0
/-- In the end no one may get one more. -/
theorem go_end {s d : List Int} {B : Int} (h8 : s.length ≤ 8) {f : Nat} {o : List Int} (h : Inv s d B o) (hf : 64 < sm o o.length + f) : Inv s d B (go s d B f o) ∧ bst s d (go s d B f o) B s.length = none := by
  induction f generalizing o with
  | zero =>
    have := sm_le h.pls (Nat.le_refl _)
    have := h.len
    omega
  | succ f ih =>
    rw [go]
    cases hb : bst s d o B s.length with
    | none => exact ⟨h, hb⟩
    | some b =>
      obtain ⟨h1, h2⟩ := bst_lt hb
      have hl := h.len
      refine ih (inv_inc h h1 h2) ?_
      rw [inc_length, sm_inc (Nat.le_refl _), if_pos (by omega)]
      omega
theorem sm_zeros (n : Nat) (j : Nat) (hj : j ≤ n) : sm (upto (fun _ => 0) n) j = 0 := by
  induction j with
  | zero => rfl
  | succ j ih => simp only [sm]; rw [ih (by omega), upto_at _ (by omega)]; rfl
theorem share_is {s d : List Int} {B : Int} (hs : Sizes s) (h8 : s.length ≤ 8) (hB : 0 ≤ B) : Inv s d B (share s d B) ∧ ∀ i, i < s.length → ¬ Can s d (share s d B) B i := by
  have h := go_end (d := d) (f := 100) h8 (inv_zero (d := d) hs hB) (by rw [upto_length, sm_zeros _ _ (Nat.le_refl _)]; omega)
  exact ⟨h.1, bst_none h.2⟩
/-- Another row of loudness that parts nothing otherwise gives the same. -/
theorem bst_same {s d e o : List Int} {B : Int} {n : Nat} (h0 : ∀ i, i < n → (at0 d i = 0 ↔ at0 e i = 0)) (h1 : ∀ i b, i < n → b < n → (Over d o i b ↔ Over e o i b)) {j : Nat} (hj : j ≤ n) : bst s d o B j = bst s e o B j := by
  induction j with
  | zero => rfl
  | succ j ih =>
    have hc : Can s d o B j ↔ Can s e o B j := by unfold Can; rw [Ne, Ne, h0 j (by omega)]
    rw [bst, bst, ih (by omega)]
    by_cases hcc : Can s d o B j
    · rw [if_pos hcc, if_pos (hc.1 hcc)]
      cases hb : bst s e o B j with
      | none => rfl
      | some b =>
        have hlt := (bst_lt hb).1
        have ho := h1 j b (by omega) (by omega)
        by_cases hoo : Over d o j b
        · simp only [if_pos hoo, if_pos (ho.1 hoo)]
        · simp only [if_neg hoo, if_neg (mt ho.2 hoo)]
    · rw [if_neg hcc, if_neg (mt hc.2 hcc)]
theorem go_same {s d e : List Int} {B : Int} (h0 : ∀ i, i < s.length → (at0 d i = 0 ↔ at0 e i = 0)) (h1 : ∀ o i b, i < s.length → b < s.length → (Over d o i b ↔ Over e o i b)) (f : Nat) (o : List Int) : go s d B f o = go s e B f o := by
  induction f generalizing o with
  | zero => rfl
  | succ f ih =>
    rw [go, go, bst_same h0 (h1 o) (Nat.le_refl _)]
    cases bst s e o B s.length with
    | none => rfl
    | some b => exact ih _
def twice (d : List Int) : List Int := upto (fun i => 2 * at0 d i) d.length
theorem share_twice {s d : List Int} {B : Int} (hl : d.length = s.length) : share s (twice d) B = share s d B := by
  unfold share
  refine go_same (fun i hi => ?_) (fun o i b hi hb => ?_) _ _
  · unfold twice
    rw [upto_at _ (by omega)]
    omega
  · unfold Over twice
    rw [upto_at _ (by omega), upto_at _ (by omega)]
    have e1 : 2 * at0 d b * (at0 o i + 1) * (at0 o i + 1) = 2 * (at0 d b * (at0 o i + 1) * (at0 o i + 1)) := by rw [Int.mul_assoc, Int.mul_assoc, Int.mul_assoc]
    have e2 : 2 * at0 d i * (at0 o b + 1) * (at0 o b + 1) = 2 * (at0 d i * (at0 o b + 1) * (at0 o b + 1)) := by rw [Int.mul_assoc, Int.mul_assoc, Int.mul_assoc]
    rw [e1, e2]
    omega
/-- Where all is silent none gets a pulse. -/
theorem share_silent {s d : List Int} {B : Int} (h : ∀ i, i < s.length → at0 d i = 0) : share s d B = upto (fun _ => 0) s.length := by
  unfold share
  have hb : ∀ o j, j ≤ s.length → bst s d o B j = none := by
    intro o j hj
    induction j with
    | zero => rfl
    | succ j ih =>
      rw [bst, if_neg (fun hc => hc.1 (h j (by omega)))]
      exact ih (by omega)
  rw [show (100 : Nat) = 99 + 1 from rfl, go, hb _ _ (Nat.le_refl _)]

/-- Who gets one, as a number: below 0 where no one does. -/
def bv : Option Nat → Int
  | none => -1
  | some b => b
theorem bst_can {s d o : List Int} {B : Int} {j : Nat} (h : ¬ Can s d o B j) : bst s d o B (j + 1) = bst s d o B j := by rw [bst, if_neg h]
theorem bst_first {s d o : List Int} {B : Int} {j : Nat} (h : Can s d o B j) (hb : bst s d o B j = none) : bst s d o B (j + 1) = some j := by rw [bst, if_pos h, hb]
theorem bst_over {s d o : List Int} {B : Int} {j b : Nat} (h : Can s d o B j) (hb : bst s d o B j = some b) (ho : Over d o j b) : bst s d o B (j + 1) = some j := by
  rw [bst, if_pos h, hb]
  simp only [if_pos ho]
theorem bst_stay {s d o : List Int} {B : Int} {j b : Nat} (h : Can s d o B j) (hb : bst s d o B j = some b) (ho : ¬ Over d o j b) : bst s d o B (j + 1) = some b := by
  rw [bst, if_pos h, hb]
  simp only [if_neg ho]
theorem go_none {s d o : List Int} {B : Int} {f : Nat} (h : bst s d o B s.length = none) : go s d B f o = o := by
  cases f with
  | zero => rfl
  | succ f => rw [go, h]
theorem go_some {s d o : List Int} {B : Int} {f b : Nat} (h : bst s d o B s.length = some b) : go s d B (f + 1) o = go s d B f (inc o b) := by rw [go, h]
theorem inc_pls {o : List Int} (h : Pls o) {j : Nat} (hj : j < o.length) (h8 : at0 o j ≠ 8) : Pls (inc o j) := fun i hi => by
  rw [inc_length] at hi
  by_cases e : i = j
  · subst e
    rw [inc_at hi]
    have := h i hi
    omega
  · rw [inc_other e]; exact h i hi

/-- One pulse more costs so many bits more. -/
def pr (n k : Nat) : Int := (Bt (k + 1) n : Int) - (Bt k n : Int)
theorem pr_in {n k : Nat} (hn : n ≤ 6) (hk : k < 8) : -15 ≤ pr n k ∧ pr n k ≤ 15 := by
  have h1 := Bt_le (k := k) (n := n) (by omega) hn
  have h2 := Bt_le (k := k + 1) (n := n) (by omega) hn
  unfold pr
  omega
theorem cs_inc {s o : List Int} {i : Nat} (hi : i < o.length) (h0 : 0 ≤ at0 o i) (j : Nat) : (cs s (inc o i) j : Int) = cs s o j + if i < j then pr (at0 s i).toNat (at0 o i).toNat else 0 := by
  induction j with
  | zero => rfl
  | succ j ih =>
    simp only [cs]
    rw [Int.natCast_add, ih, Int.natCast_add]
    by_cases e : j = i
    · subst e
      rw [inc_at hi, if_neg (by omega), if_pos (by omega), show (at0 o j + 1).toNat = (at0 o j).toNat + 1 by omega]
      unfold pr
      omega
    · rw [inc_other e]
      by_cases e2 : i < j
      · rw [if_pos e2, if_pos (by omega)]; omega
      · rw [if_neg e2, if_neg (by omega)]; omega
theorem cost_inc {s o : List Int} {i : Nat} (hi : i < o.length) (hs : i < s.length) (h0 : 0 ≤ at0 o i) : (cost s (inc o i) : Int) = cost s o + pr (at0 s i).toNat (at0 o i).toNat := by
  unfold cost
  rw [cs_inc hi h0, if_pos hs]
/-- Where all have as many as may be no one may get one more. -/
theorem sm_full {o : List Int} (h : Pls o) {j : Nat} (hj : j ≤ o.length) (e : sm o j = 8 * j) : ∀ i, i < j → at0 o i = 8 := by
  induction j with
  | zero => intro i hi; omega
  | succ j ih =>
    have h1 := sm_le h (j := j) (by omega)
    have h2 := h j (by omega)
    simp only [sm] at e
    intro i hi
    by_cases e2 : i = j
    · rw [e2]; omega
    · exact ih (by omega) (by omega) i (by omega)
theorem bst_full {s d o : List Int} {B : Int} {j : Nat} (h : ∀ i, i < j → at0 o i = 8) : bst s d o B j = none := by
  induction j with
  | zero => rfl
  | succ j ih =>
    rw [bst, if_neg (fun hc => hc.2.1 (h j (by omega)))]
    exact ih (fun i hi => h i (by omega))
/-- Loudness that may be. -/
def lou (n : Int) : Bool := decide (n < 0) || decide (8000 < n)
def noP (n : Int) : Bool := decide (n < 0) || decide (8 < n)
def Lds (d : List Int) : Prop := ∀ i, i < d.length → 0 ≤ at0 d i ∧ at0 d i ≤ 8000
/-- The faults. -/
def costF (s p : List Int) : Int := if bf s = 0 then (if p.length = s.length then (if p.any noP = true then 1 else 0) else 3) else bf s
def ofF (s d : List Int) (B : Int) : Int := if bf s = 0 then (if d.length = s.length then (if d.any lou = true then 1 else if B < 0 ∨ 400 < B then 1 else 0) else 3) else bf s
theorem any_no {p : Int → Bool} {q : Int → Prop} (h : ∀ x, p x = false ↔ q x) {l : List Int} : l.any p = false ↔ ∀ i, i < l.length → q (at0 l i) := by
  rw [List.any_eq_false]
  constructor
  · intro k i hi
    have e : at0 l i = l[i] := by simp [at0, hi]
    rw [e]
    exact (h _).1 (by simpa using k _ (List.getElem_mem hi))
  · intro k x hx
    obtain ⟨i, hi, rfl⟩ := List.getElem_of_mem hx
    have e : at0 l i = l[i] := by simp [at0, hi]
    have := k i hi
    rw [e] at this
    simpa using (h _).2 this
theorem noP_any {p : List Int} : p.any noP = false ↔ Pls p := any_no (p := noP) (q := fun x => 0 ≤ x ∧ x ≤ 8) (fun x => by simp [noP])
theorem lou_any {d : List Int} : d.any lou = false ↔ Lds d := any_no (p := lou) (q := fun x => 0 ≤ x ∧ x ≤ 8000) (fun x => by simp [lou])
theorem costF_zero {s p : List Int} : costF s p = 0 ↔ bf s = 0 ∧ p.length = s.length ∧ Pls p := by
  unfold costF
  constructor
  · intro h
    split at h
    · split at h
      · split at h
        · omega
        · rename_i h1 h2 h3
          exact ⟨h1, h2, noP_any.1 (Bool.eq_false_iff.2 h3)⟩
      · omega
    · rename_i h1; exact absurd h h1
  · intro ⟨h1, h2, h3⟩
    rw [if_pos h1, if_pos h2, if_neg (by rw [noP_any.2 h3]; simp)]
theorem ofF_zero {s d : List Int} {B : Int} : ofF s d B = 0 ↔ bf s = 0 ∧ d.length = s.length ∧ Lds d ∧ 0 ≤ B ∧ B ≤ 400 := by
  unfold ofF
  constructor
  · intro h
    split at h
    · split at h
      · split at h
        · omega
        · split at h
          · omega
          · rename_i h1 h2 h3 h4
            exact ⟨h1, h2, lou_any.1 (Bool.eq_false_iff.2 h3), by omega, by omega⟩
      · omega
    · rename_i h1; exact absurd h h1
  · intro ⟨h1, h2, h3, h4, h5⟩
    rw [if_pos h1, if_pos h2, if_neg (by rw [lou_any.2 h3]; simp), if_neg (by omega)]

end Go.Proofs.YtjnmogmagngenaiDoor.Shr
