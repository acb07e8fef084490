/-
  The numbers of chapter 8: how loud, in few steps. No program here.
-/
import Derived.Test.YtkkhgdkgbhdfaakGreatDoorRa00
import Derived.Lib.BitFns
namespace Go.Proofs.YtkkhgdkgbhdfaakGreatDoor.Gai
set_option linter.unusedVariables false

/-- How loud a number is. -/
def gi (n : Nat) : Nat := if n = 0 then 0 else 1 + 4 * Nat.log2 n + (n - 2 ^ Nat.log2 n) * 4 / 2 ^ Nat.log2 n
/-- The middle of the numbers that are as loud. -/
def mid (g : Nat) : Nat := 2 ^ ((g - 1) / 4) + (2 * ((g - 1) % 4) + 1) * 2 ^ ((g - 1) / 4) / 8
def vl (g : Nat) : Nat := if g = 0 then 0 else mid g
/-- There is a number of that gain. -/
def vo (g : Nat) : Bool := Nat.ble (vl g) 8000 && Nat.beq (gi (vl g)) g

theorem gi_zero : gi 0 = 0 := rfl
theorem gi_is {n m q : Nat} (h0 : 2 ^ m ≤ n) (h1 : n < 2 ^ (m + 1)) (hq : (n - 2 ^ m) * 4 / 2 ^ m = q) : gi n = 1 + 4 * m + q := by
  have hp : 0 < 2 ^ m := Nat.two_pow_pos m
  have hn : n ≠ 0 := by omega
  have e : Nat.log2 n = m := (Nat.log2_eq_iff hn).2 ⟨h0, h1⟩
  unfold gi
  rw [if_neg hn, e, hq]
theorem log_is {n : Nat} (h : 0 < n) : ∃ m, 2 ^ m ≤ n ∧ n < 2 ^ (m + 1) :=
  ⟨Nat.log2 n, (Nat.log2_eq_iff (by omega)).1 rfl⟩
theorem log_in {n m : Nat} (h0 : 2 ^ m ≤ n) (h : n ≤ 8000) : m ≤ 12 := by
  rcases Nat.lt_or_ge m 13 with g | g
  · omega
  · have := Nat.pow_le_pow_right (show 0 < 2 by omega) g
    omega
/-- How many bits. -/
theorem len_is {n m : Nat} (h0 : 2 ^ m ≤ n) (h1 : n < 2 ^ (m + 1)) (h : n ≤ 8000) : Lib.bitLen n = m + 1 := by
  rw [Lib.bitLen_shift m n h0 (by omega)]
  have hp : 0 < 2 ^ m := Nat.two_pow_pos m
  have e : n / 2 ^ m = 1 := by
    rw [Nat.pow_succ] at h1
    exact Nat.div_eq_of_lt_le (by omega) (by omega)
  rw [e]; rfl

theorem vo_is {g : Nat} (h : vo g = true) : vl g ≤ 8000 ∧ gi (vl g) = g := by
  unfold vo at h
  rw [Bool.and_eq_true] at h
  exact ⟨Nat.le_of_ble_eq_true h.1, Nat.eq_of_beq_eq_true h.2⟩
theorem vo_not {g : Nat} (h : vo g = false) : 8000 < vl g ∨ (vl g ≤ 8000 ∧ gi (vl g) ≠ g) := by
  rcases Nat.lt_or_ge 8000 (vl g) with g1 | g1
  · exact Or.inl g1
  · refine Or.inr ⟨g1, fun e => ?_⟩
    unfold vo at h
    rw [Nat.ble_eq_true_of_le g1, e, Nat.beq_refl] at h
    cases h

def allOk (p : Nat → Bool) : Nat → Bool
  | 0 => true
  | n + 1 => p n && allOk p n
def blk (p : Nat → Bool) : Bool := allOk (fun a => allOk (fun b => p (100 * a + b)) 100) 81
theorem allOk_at {p : Nat → Bool} : ∀ {n}, allOk p n = true → ∀ i, i < n → p i = true
  | 0, _, i, hi => absurd hi (Nat.not_lt_zero _)
  | n + 1, h, i, hi => by
    simp only [allOk, Bool.and_eq_true] at h
    rcases Nat.lt_or_ge i n with g | g
    · exact allOk_at h.2 i g
    · obtain rfl : i = n := by omega
      exact h.1
theorem blk_at {p : Nat → Bool} (h : blk p = true) (n : Nat) (hn : n < 8100) : p n = true := by
  have h1 := allOk_at (allOk_at h (n / 100) (by omega)) (n % 100) (by omega)
  have e : 100 * (n / 100) + n % 100 = n := by omega
  rwa [e] at h1

theorem gi_all : blk (fun n => Nat.ble 8001 n || (vo (gi n) && Nat.ble (8 * (vl (gi n) - n)) n && Nat.ble (8 * (n - vl (gi n))) n && Nat.ble (gi n) 53)) = true := by decide +kernel
/-- WITHIN AN EIGHTH; and as loud. -/
theorem gi_near {n : Nat} (h : n ≤ 8000) : gi n ≤ 53 ∧ vo (gi n) = true ∧ 8 * (vl (gi n) - n) ≤ n ∧ 8 * (n - vl (gi n)) ≤ n := by
  have := blk_at gi_all n (by omega)
  rw [Bool.or_eq_true, Bool.and_eq_true, Bool.and_eq_true, Bool.and_eq_true] at this
  rcases this with g | ⟨⟨⟨g1, g2⟩, g3⟩, g4⟩
  · have := Nat.le_of_ble_eq_true g; omega
  · exact ⟨Nat.le_of_ble_eq_true g4, g1, Nat.le_of_ble_eq_true g2, Nat.le_of_ble_eq_true g3⟩
theorem twice_all : blk (fun n => Nat.ble n 0 || (Nat.ble 4001 n || Nat.beq (gi (2 * n)) (gi n + 4))) = true := by decide +kernel
/-- TWICE AS LOUD, FOUR STEPS. -/
theorem gi_twice {n : Nat} (h0 : 0 < n) (h : n ≤ 4000) : gi (2 * n) = gi n + 4 := by
  have := blk_at twice_all n (by omega)
  rw [Bool.or_eq_true, Bool.or_eq_true] at this
  rcases this with g | g | g
  · have := Nat.le_of_ble_eq_true g; omega
  · have := Nat.le_of_ble_eq_true g; omega
  · exact Nat.eq_of_beq_eq_true g
theorem up_all : blk (fun n => Nat.ble 8000 n || Nat.ble (gi n) (gi (n + 1))) = true := by decide +kernel
/-- A greater number is no less loud. -/
theorem gi_up {n m : Nat} (h : n ≤ m) (hm : m ≤ 8000) : gi n ≤ gi m := by
  induction m with
  | zero => obtain rfl : n = 0 := by omega
            exact Nat.le_refl _
  | succ m ih =>
    rcases Nat.lt_or_ge m n with g | g
    · obtain rfl : n = m + 1 := by omega
      exact Nat.le_refl _
    · have h1 := ih g (by omega)
      have := blk_at up_all m (by omega)
      rw [Bool.or_eq_true] at this
      rcases this with g | g
      · have := Nat.le_of_ble_eq_true g; omega
      · exact Nat.le_trans h1 (Nat.le_of_ble_eq_true g)

/-- The greatest power, and how many fourths of it. -/
theorem fourths {n p q : Nat} (hp : 0 < p) (h0 : q * p ≤ 4 * (n - p)) (h1 : 4 * (n - p) < (q + 1) * p) : (n - p) * 4 / p = q := by
  rw [Nat.mul_comm (n - p) 4]
  exact Nat.div_eq_of_lt_le h0 h1

end Go.Proofs.YtkkhgdkgbhdfaakGreatDoor.Gai

/-
  The sessions of chapter 20: what a line is answered, and what a text. No program here.
-/
namespace Go.Proofs.YtkkhgdkgbhdfaakGreatDoor.Ses
open Go.Proofs.YtkkhgdkgbhdfaakGreatDoor.Tre Go.Proofs.YtkkhgdkgbhdfaakGreatDoor.Cnt Go.Proofs.YtkkhgdkgbhdfaakGreatDoor.Pls Go.Proofs.YtkkhgdkgbhdfaakGreatDoor.Nea Go.Proofs.YtkkhgdkgbhdfaakGreatDoor.Gai Go.Proofs.YtkkhgdkgbhdfaakGreatDoor.Tnk
set_option linter.unusedVariables false

def kCount : List Int := [99, 111, 117, 110, 116]
def kRank : List Int := [114, 97, 110, 107]
def kRow : List Int := [114, 111, 119]
def kNear : List Int := [110, 101, 97, 114]
def kGain : List Int := [103, 97, 105, 110]
def kTurn : List Int := [116, 117, 114, 110]
def kMay : List Int := [109, 97, 121]
def bad : List Int := [98, 97, 100]
/-- Which word it is. -/
def kind (c : List Int) : Nat := if c = kCount then 1 else if c = kRank then 2 else if c = kRow then 3 else if c = kNear then 4 else if c = kGain then 5 else if c = kTurn then 6 else if c = kMay then 7 else 0
/-- How many numbers it wants; whether there may be more; from which on they may be below 0. -/
def many : Nat → Nat
  | 1 => 2
  | 2 => 1
  | 3 => 3
  | 4 => 2
  | 5 => 1
  | 6 => 1
  | _ => 0
def more : Nat → Bool
  | 2 => true
  | 4 => true
  | _ => false
def below : Nat → Nat
  | 2 => 0
  | 4 => 1
  | _ => 99
theorem kind_in (c : List Int) : kind c ≤ 7 := by
  unfold kind
  repeat' split
  all_goals omega
/-- The fault of 'near'. -/
def nearF (n : List Int) : Int := if 7 < n.length then 4 else if (n.drop 1).any (out 1000) = true then 1 else if 8 < at0 n 0 then 1 else if 0 < at0 n 0 ∧ loud (n.drop 1) = 0 then 5 else 0
/-- What the numbers of a word are answered; how many are in the tank then. -/
def Ans (k : Nat) (n : List Int) (H : Int) (o : List Int) (H' : Int) : Prop := match k with
  | 1 => H' = H ∧ o = if 6 < at0 n 0 ∨ 8 < at0 n 1 then name 1 else tell [V (at0 n 1).toNat (at0 n 0).toNat]
  | 2 => H' = H ∧ o = if fault n = 0 then tell [rk n (loud n)] else name (fault n)
  | 3 => H' = H ∧ (((6 < at0 n 0 ∨ 8 < at0 n 1 ∨ V (at0 n 1).toNat (at0 n 0).toNat ≤ at0 n 2) ∧ o = name 1) ∨ (at0 n 0 ≤ 6 ∧ at0 n 1 ≤ 8 ∧ at0 n 2 < V (at0 n 1).toNat (at0 n 0).toNat ∧ ∃ l, Is (at0 n 0).toNat (at0 n 1).toNat (at0 n 2) l ∧ o = tell l))
  | 4 => H' = H ∧ ((nearF n ≠ 0 ∧ o = name (nearF n)) ∨ (nearF n = 0 ∧ ∃ l, Near (n.drop 1) (at0 n 0).toNat l ∧ o = tell l))
  | 5 => H' = H ∧ o = if 8000 < at0 n 0 then name 1 else tell [(gi (at0 n 0).toNat : Int), (vl (gi (at0 n 0).toNat) : Int)]
  | 6 => (turnF 100 20 H (at0 n 0) ≠ 0 ∧ H' = H ∧ o = name (turnF 100 20 H (at0 n 0))) ∨ (turnF 100 20 H (at0 n 0) = 0 ∧ H' = may 100 20 H - at0 n 0 ∧ o = tell [H'])
  | _ => H' = H ∧ o = tell [may 100 20 H]
theorem Ans.one {k : Nat} {n : List Int} {H H1 H2 : Int} {o1 o2 : List Int} (h : Ans k n H o1 H1) (g : Ans k n H o2 H2) : o1 = o2 ∧ H1 = H2 := by
  unfold Ans at h g
  split at h
  · obtain ⟨h1, h2⟩ := h
    obtain ⟨g1, g2⟩ := g
    exact ⟨h2.trans g2.symm, h1.trans g1.symm⟩
  · obtain ⟨h1, h2⟩ := h
    obtain ⟨g1, g2⟩ := g
    exact ⟨h2.trans g2.symm, h1.trans g1.symm⟩
  · obtain ⟨h1, h2⟩ := h
    obtain ⟨g1, g2⟩ := g
    refine ⟨?_, h1.trans g1.symm⟩
    rcases h2 with ⟨ha, h2⟩ | ⟨ha, hb, hc, l, hl, h2⟩
    · rcases g2 with ⟨ga, g2⟩ | ⟨ga, gb, gc, l, gl, g2⟩
      · exact h2.trans g2.symm
      · exfalso; omega
    · rcases g2 with ⟨ga, g2⟩ | ⟨ga, gb, gc, m, gl, g2⟩
      · exfalso; omega
      · rw [h2, g2, Is.one (by omega) (by omega) hl gl]
  · obtain ⟨h1, h2⟩ := h
    obtain ⟨g1, g2⟩ := g
    refine ⟨?_, h1.trans g1.symm⟩
    rcases h2 with ⟨ha, h2⟩ | ⟨ha, l, hl, h2⟩
    · rcases g2 with ⟨ga, g2⟩ | ⟨ga, l, gl, g2⟩
      · exact h2.trans g2.symm
      · exact absurd ga ha
    · rcases g2 with ⟨ga, g2⟩ | ⟨ga, m, gl, g2⟩
      · exact absurd ha ga
      · rw [h2, g2, hl.one gl]
  · obtain ⟨h1, h2⟩ := h
    obtain ⟨g1, g2⟩ := g
    exact ⟨h2.trans g2.symm, h1.trans g1.symm⟩
  · rcases h with ⟨ha, h1, h2⟩ | ⟨ha, h1, h2⟩
    · rcases g with ⟨ga, g1, g2⟩ | ⟨ga, g1, g2⟩
      · exact ⟨h2.trans g2.symm, h1.trans g1.symm⟩
      · exact absurd ga ha
    · rcases g with ⟨ga, g1, g2⟩ | ⟨ga, g1, g2⟩
      · exact absurd ha ga
      · have e := h1.trans g1.symm
        exact ⟨by rw [h2, g2, e], e⟩
  · rename_i k' x1 x2 x3 x4 x5 x6
    have g' : H2 = H ∧ o2 = tell [may 100 20 H] := by
      split at g
      · exact absurd rfl x1
      · exact absurd rfl x2
      · exact absurd rfl x3
      · exact absurd rfl x4
      · exact absurd rfl x5
      · exact absurd rfl x6
      · exact g
    exact ⟨h.2.trans g'.2.symm, h.1.trans g'.1.symm⟩
/-- How long an answer is. -/
theorem Ans.length {k : Nat} {n : List Int} {H H' : Int} {o : List Int} (h : Ans k n H o H') : o.length ≤ 150 := by
  have hn := name_length
  have h1 : ∀ x, (tell [x]).length ≤ 150 := fun x => by have := tell_length [x]; simp at this; omega
  have h2 : ∀ x y, (tell [x, y]).length ≤ 150 := fun x y => by have := tell_length [x, y]; simp at this; omega
  unfold Ans at h
  split at h
  · rw [h.2]
    split
    · have := hn 1; omega
    · exact h1 _
  · rw [h.2]
    split
    · exact h1 _
    · have := hn (fault n); omega
  · rcases h.2 with ⟨_, h⟩ | ⟨ha, hb, hc, l, hl, h⟩
    · have := hn 1; rw [h]; omega
    · have := tell_length l
      have := hl.1
      rw [h]
      omega
  · rcases h.2 with ⟨_, h⟩ | ⟨ha, l, hl, h⟩
    · have := hn (nearF n); rw [h]; omega
    · have := tell_length l
      have h3 := hl.len
      have h4 : n.length ≤ 7 := by
        unfold nearF at ha
        split at ha
        · omega
        · omega
      rw [List.length_drop] at h3
      rw [h]
      omega
  · rw [h.2]
    split
    · have := hn 1; omega
    · exact h2 _ _
  · rcases h with ⟨_, _, h⟩ | ⟨_, _, h⟩
    · have := hn (turnF 100 20 H (at0 n 0)); rw [h]; omega
    · rw [h]; exact h1 _
  · rw [h.2]; exact h1 _
theorem name_asc (e : Int) : Asc (name e) := name_byts e
theorem Ans.asc {k : Nat} {n : List Int} {H H' : Int} {o : List Int} (h : Ans k n H o H') : Asc o := by
  unfold Ans at h
  split at h
  · rw [h.2]
    split
    · exact name_asc _
    · exact tell_asc _
  · rw [h.2]
    split
    · exact tell_asc _
    · exact name_asc _
  · rcases h.2 with ⟨_, h⟩ | ⟨ha, hb, hc, l, hl, h⟩
    · rw [h]; exact name_asc _
    · rw [h]; exact tell_asc _
  · rcases h.2 with ⟨_, h⟩ | ⟨ha, l, hl, h⟩
    · rw [h]; exact name_asc _
    · rw [h]; exact tell_asc _
  · rw [h.2]
    split
    · exact name_asc _
    · exact tell_asc _
  · rcases h with ⟨_, _, h⟩ | ⟨_, _, h⟩
    · rw [h]; exact name_asc _
    · rw [h]; exact tell_asc _
  · rw [h.2]; exact tell_asc _
theorem Ans.ok {k : Nat} {n : List Int} {H H' : Int} {o : List Int} (h : Ans k n H o H') (hk : Ok 100 20 H) : Ok 100 20 H' := by
  unfold Ans at h
  split at h
  · rw [h.1]; exact hk
  · rw [h.1]; exact hk
  · rw [h.1]; exact hk
  · rw [h.1]; exact hk
  · rw [h.1]; exact hk
  · rcases h with ⟨_, h, _⟩ | ⟨h0, h, _⟩
    · rw [h]; exact hk
    · rw [h]; exact turn_ok h0
  · rw [h.1]; exact hk

/-- The first word of a line, and the others. -/
def hd (l : List Int) : List Int := (cut 32 l).headD []
def tlw (l : List Int) : List (List Int) := (cut 32 l).drop 1
/-- Is it a line with its words? Its numbers. -/
def Reads (l : List Int) (n : List Int) : Prop := kind (hd l) ≠ 0 ∧ nms (below (kind (hd l))) 0 (tlw l) = some n ∧ many (kind (hd l)) ≤ n.length ∧ (many (kind (hd l)) < n.length → more (kind (hd l)) = true)
def Line (H : Int) (l : List Int) (o : List Int) (H' : Int) : Prop := ((∀ n, ¬ Reads l n) ∧ o = bad ∧ H' = H) ∨ ∃ n, Reads l n ∧ Ans (kind (hd l)) n H o H'
theorem Line.one {H H1 H2 : Int} {l o1 o2 : List Int} (h : Line H l o1 H1) (g : Line H l o2 H2) : o1 = o2 ∧ H1 = H2 := by
  rcases h with ⟨ha, h1, h2⟩ | ⟨n, hn, h⟩
  · rcases g with ⟨ga, g1, g2⟩ | ⟨m, gm, g⟩
    · exact ⟨h1.trans g1.symm, h2.trans g2.symm⟩
    · exact absurd gm (ha m)
  · rcases g with ⟨ga, g1, g2⟩ | ⟨m, gm, g⟩
    · exact absurd hn (ga n)
    · have e : n = m := by
        have := hn.2.1.symm.trans gm.2.1
        simpa using this
      subst e
      exact h.one g
theorem Line.length {H H' : Int} {l o : List Int} (h : Line H l o H') : o.length ≤ 150 := by
  rcases h with ⟨_, h1, _⟩ | ⟨n, _, h⟩
  · rw [h1]; simp [bad]
  · exact h.length
theorem Line.asc {H H' : Int} {l o : List Int} (h : Line H l o H') : Asc o := by
  rcases h with ⟨_, h1, _⟩ | ⟨n, _, h⟩
  · rw [h1]; intro b hb; simp [bad] at hb; omega
  · exact h.asc
theorem Line.ok {H H' : Int} {l o : List Int} (h : Line H l o H') (hk : Ok 100 20 H) : Ok 100 20 H' := by
  rcases h with ⟨_, _, h1⟩ | ⟨n, _, h⟩
  · rw [h1]; exact hk
  · exact h.ok hk
/-- Lines, one behind the other. -/
def Sess : Int → List (List Int) → List Int → Int → Prop
  | H, [], o, H' => o = [] ∧ H' = H
  | H, x :: r, o, H' => ∃ a H1 o', Line H x a H1 ∧ Sess H1 r o' H' ∧ o = a ++ 10 :: o'
theorem Sess.one {H H1 H2 : Int} {r : List (List Int)} {o1 o2 : List Int} (h : Sess H r o1 H1) (g : Sess H r o2 H2) : o1 = o2 ∧ H1 = H2 := by
  induction r generalizing H o1 o2 with
  | nil => exact ⟨h.1.trans g.1.symm, h.2.trans g.2.symm⟩
  | cons x r ih =>
    obtain ⟨a, K, p, h1, h2, h3⟩ := h
    obtain ⟨b, L, q, g1, g2, g3⟩ := g
    obtain ⟨rfl, rfl⟩ := h1.one g1
    obtain ⟨rfl, e⟩ := ih h2 g2
    exact ⟨h3.trans g3.symm, e⟩
theorem Sess.two {H H1 H2 : Int} {r s : List (List Int)} {o p : List Int} (h : Sess H r o H1) (g : Sess H1 s p H2) : Sess H (r ++ s) (o ++ p) H2 := by
  induction r generalizing H o with
  | nil =>
    obtain ⟨rfl, rfl⟩ := h
    exact g
  | cons x r ih =>
    obtain ⟨a, K, q, h1, h2, h3⟩ := h
    exact ⟨a, K, q ++ p, h1, ih h2, by rw [h3]; simp⟩
theorem Sess.next {H H1 H2 : Int} {r : List (List Int)} {x o a : List Int} (h : Sess H r o H1) (g : Line H1 x a H2) : Sess H (r ++ [x]) (o ++ (a ++ [10])) H2 := h.two ⟨a, H2, [], g, ⟨rfl, rfl⟩, rfl⟩
theorem Sess.length {H H' : Int} {r : List (List Int)} {o : List Int} (h : Sess H r o H') : o.length ≤ 151 * r.length := by
  induction r generalizing H o with
  | nil => rw [h.1]; simp
  | cons x r ih =>
    obtain ⟨a, K, q, h1, h2, h3⟩ := h
    have h4 := ih h2
    have h5 := h1.length
    rw [h3]
    simp
    omega
theorem Sess.asc {H H' : Int} {r : List (List Int)} {o : List Int} (h : Sess H r o H') : Asc o := by
  induction r generalizing H o with
  | nil => rw [h.1]; intro b hb; simp at hb
  | cons x r ih =>
    obtain ⟨a, K, q, h1, h2, h3⟩ := h
    rw [h3]
    refine h1.asc.append ?_
    intro b hb
    rcases List.mem_cons.1 hb with rfl | hb
    · omega
    · exact ih h2 b hb
theorem Sess.ok {H H' : Int} {r : List (List Int)} {o : List Int} (h : Sess H r o H') (hk : Ok 100 20 H) : Ok 100 20 H' := by
  induction r generalizing H o with
  | nil => rw [h.2]; exact hk
  | cons x r ih =>
    obtain ⟨a, K, q, h1, h2, h3⟩ := h
    exact ih h2 (h1.ok hk)
/-- The answers to a beginning are a beginning of the answers. -/
theorem Sess.begins {H H1 H2 : Int} {r s : List (List Int)} {o p : List Int} (h : Sess H r o H1) (g : Sess H (r ++ s) p H2) : ∃ q, p = o ++ q := by
  induction r generalizing H o p with
  | nil => exact ⟨p, by rw [h.1]; rfl⟩
  | cons x r ih =>
    obtain ⟨a, K, q, h1, h2, h3⟩ := h
    obtain ⟨b, L, t, g1, g2, g3⟩ := g
    obtain ⟨rfl, rfl⟩ := h1.one g1
    obtain ⟨u, e⟩ := ih h2 g2
    exact ⟨u, by rw [g3, e, h3]; simp⟩
def tooLong : List Int := [116, 111, 111, 32, 108, 111, 110, 103, 10]
/-- What a text is answered. -/
def Says (t o : List Int) : Prop := (3000 < t.length ∧ o = tooLong) ∨ (t.length ≤ 3000 ∧ ∃ H, Sess 100 (lines t) o H)
theorem Says.one {t o p : List Int} (h : Says t o) (g : Says t p) : o = p := by
  rcases h with ⟨h1, h2⟩ | ⟨h1, H, h2⟩
  · rcases g with ⟨g1, g2⟩ | ⟨g1, K, g2⟩
    · rw [h2, g2]
    · exfalso; omega
  · rcases g with ⟨g1, g2⟩ | ⟨g1, K, g2⟩
    · exfalso; omega
    · exact (h2.one g2).1
/-- Of a text that goes on behind a line. -/
theorem Says.begins {a b o p : List Int} (h : Says (a ++ [10]) o) (g : Says (a ++ 10 :: b) p) (hl : (a ++ 10 :: b).length ≤ 3000) : ∃ q, p = o ++ q := by
  rcases h with ⟨h1, _⟩ | ⟨h1, H, h2⟩
  · exfalso; simp at h1 hl; omega
  · rcases g with ⟨g1, g2⟩ | ⟨g1, K, g2⟩
    · exfalso; omega
    · rw [lines_end] at h2
      rw [lines_two] at g2
      exact h2.begins g2
theorem says_none : Says [] [] := Or.inr ⟨by simp, 100, by rw [lines_nil]; exact ⟨rfl, rfl⟩⟩

end Go.Proofs.YtkkhgdkgbhdfaakGreatDoor.Ses

/-
  Sessions that are known beforehand: a fixed one, and one of two turns. No program here.
-/
namespace Go.Proofs.YtkkhgdkgbhdfaakGreatDoor.Ses
open Go.Proofs.YtkkhgdkgbhdfaakGreatDoor.Tre Go.Proofs.YtkkhgdkgbhdfaakGreatDoor.Cnt Go.Proofs.YtkkhgdkgbhdfaakGreatDoor.Pls Go.Proofs.YtkkhgdkgbhdfaakGreatDoor.Nea Go.Proofs.YtkkhgdkgbhdfaakGreatDoor.Gai Go.Proofs.YtkkhgdkgbhdfaakGreatDoor.Tnk
set_option linter.unusedVariables false

instance (l n : List Int) : Decidable (Reads l n) := by unfold Reads; infer_instance
/-- The bytes of the fixed one, and of its answers. -/
def l1 : List Int := [99, 111, 117, 110, 116, 32, 51, 32, 50]
def l2 : List Int := [116, 117, 114, 110, 32, 55, 48]
def l3 : List Int := [102, 108, 121]
def l4 : List Int := [114, 97, 110, 107, 32, 48, 32, 45, 49]
def l5 : List Int := [109, 97, 121]
def l6 : List Int := [110, 101, 97, 114, 32, 52, 32, 53, 32, 45, 51, 32, 49]
def tFact : List Int := l1 ++ [10] ++ l2 ++ [10] ++ l3 ++ [10] ++ l4 ++ [10] ++ l5 ++ [10] ++ l6 ++ [10]
def oFact : List Int := [49, 56, 10, 51, 48, 10, 98, 97, 100, 10, 49, 10, 53, 48, 10, 50, 32, 45, 49, 32, 49, 10]
theorem fact_lines : lines tFact = [l1, l2, l3, l4, l5, l6] := by decide +kernel
theorem ok_all {H : Int} (h0 : 0 ≤ H) (h1 : H ≤ 100) : Ok 100 20 H := ⟨by omega, by omega, by omega, by omega, h0, h1⟩
theorem fact1 : Line 100 l1 [49, 56] 100 := Or.inr ⟨[3, 2], by decide +kernel, by
  have e : kind (hd l1) = 1 := by decide +kernel
  rw [e]
  exact ⟨rfl, by decide +kernel⟩⟩
theorem fact2 : Line 100 l2 [51, 48] 30 := Or.inr ⟨[70], by decide +kernel, by
  have e : kind (hd l2) = 6 := by decide +kernel
  have f : turnF 100 20 100 (at0 [70] 0) = 0 := by
    unfold turnF
    rw [if_pos (ok_all (by omega) (by omega))]
    decide +kernel
  rw [e]
  exact Or.inr ⟨f, by decide +kernel, by decide +kernel⟩⟩
theorem fact3 : Line 30 l3 bad 30 := Or.inl ⟨fun n h => h.1 (by decide +kernel), rfl, rfl⟩
theorem fact4 : Line 30 l4 [49] 30 := Or.inr ⟨[0, -1], by decide +kernel, by
  have e : kind (hd l4) = 2 := by decide +kernel
  rw [e]
  exact ⟨rfl, by decide +kernel⟩⟩
theorem fact5 : Line 30 l5 [53, 48] 30 := Or.inr ⟨[], by decide +kernel, by
  have e : kind (hd l5) = 7 := by decide +kernel
  rw [e]
  exact ⟨rfl, by decide +kernel⟩⟩
theorem near_fact : Near [5, -3, 1] 4 [2, -1, 1] := by
  refine ⟨fun i => decide (i = 2), ⟨by decide +kernel, ?_⟩, by decide +kernel⟩
  intro i j hi hj h1 h2
  have hi' : i = 2 := by simpa using h1
  have hj' : j ≠ 2 := by simpa using h2
  have hj3 : j < 3 := hj
  subst hi'
  left
  have : j = 0 ∨ j = 1 := by omega
  rcases this with rfl | rfl <;> decide +kernel
theorem fact6 : Line 30 l6 [50, 32, 45, 49, 32, 49] 30 := Or.inr ⟨[4, 5, -3, 1], by decide +kernel, by
  have e : kind (hd l6) = 4 := by decide +kernel
  rw [e]
  exact ⟨rfl, Or.inr ⟨by decide +kernel, [2, -1, 1], near_fact, by decide +kernel⟩⟩⟩
theorem fact_says : Says tFact oFact := Or.inr ⟨by decide +kernel, 30, by
  rw [fact_lines]
  exact ⟨_, _, _, fact1, ⟨_, _, _, fact2, ⟨_, _, _, fact3, ⟨_, _, _, fact4, ⟨_, _, _, fact5, ⟨_, _, _, fact6, ⟨rfl, rfl⟩, rfl⟩, rfl⟩, rfl⟩, rfl⟩, rfl⟩, rfl⟩⟩

/-- Digits are read as they are told. -/
theorem num_small : ∀ a, a < 102 → num (digits a) = some a := by decide +kernel
theorem digits_no {c : Int} (h : c < 48) (n : Nat) : ∀ b ∈ digits n, b ≠ c := fun b hb => by have := digits_in n b hb; omega
/-- The line of a turn. -/
def tLine (a : Nat) : List Int := kTurn ++ 32 :: digits a
theorem tLine_cut (a : Nat) : cut 32 (tLine a) = [kTurn, digits a] := by
  unfold tLine
  rw [cut_two, cut_none (l := digits a) (digits_no (by omega) a), cut_none (l := kTurn) (by decide +kernel)]
  rfl
theorem tLine_one (a : Nat) : ∀ b ∈ tLine a, b ≠ 10 := fun b hb => by
  rcases List.mem_append.1 hb with h | h
  · have : ∀ b ∈ kTurn, b ≠ 10 := by decide +kernel
    exact this b h
  · rcases List.mem_cons.1 h with rfl | h
    · omega
    · exact digits_no (by omega) a b h
theorem tLine_reads {a : Nat} (h : a < 102) : Reads (tLine a) [(a : Int)] := by
  have e1 : hd (tLine a) = kTurn := by unfold hd; rw [tLine_cut]; rfl
  have e2 : tlw (tLine a) = [digits a] := by unfold tlw; rw [tLine_cut]; rfl
  have e3 : kind kTurn = 6 := by decide +kernel
  unfold Reads
  rw [e1, e2, e3]
  refine ⟨by omega, ?_, by simp [many], by simp [many]⟩
  have e4 : wd (decide (below 6 ≤ 0)) (digits a) = some (a : Int) := by
    unfold wd
    rw [if_neg (by intro h; exact absurd h.1 (by decide)), num_small a h]
  simp only [nms, e4]
theorem tLine_kind (a : Nat) : kind (hd (tLine a)) = 6 := by
  have e1 : hd (tLine a) = kTurn := by unfold hd; rw [tLine_cut]; rfl
  rw [e1]
  decide +kernel
theorem tell_one {n : Int} (h : 0 ≤ n) : tell [n] = digits n.toNat := by
  have e : n.natAbs = n.toNat := by omega
  unfold tell tl1
  simp only [tls, List.append_nil]
  rw [if_neg (by omega), e]
  rfl
theorem turn_line {H : Int} (h0 : 0 ≤ H) (h1 : H ≤ 100) {a : Nat} (ha : a < 102) (hm : (a : Int) ≤ may 100 20 H) : Line H (tLine a) (digits (may 100 20 H - a).toNat) (may 100 20 H - a) := Or.inr ⟨_, tLine_reads ha, by
  rw [tLine_kind]
  refine Or.inr ⟨?_, rfl, (tell_one (by omega)).symm⟩
  show turnF 100 20 H (a : Int) = 0
  unfold turnF
  rw [if_pos (ok_all h0 h1), if_neg (by omega), if_neg (by omega)]⟩
theorem turn_low {H : Int} (h0 : 0 ≤ H) (h1 : H ≤ 100) {a : Nat} (ha : a < 102) (hm : may 100 20 H < a) : Line H (tLine a) (name 8) H := Or.inr ⟨_, tLine_reads ha, by
  have f : turnF 100 20 H (at0 [(a : Int)] 0) = 8 := by
    show turnF 100 20 H (a : Int) = 8
    unfold turnF
    rw [if_pos (ok_all h0 h1), if_neg (by omega), if_pos hm]
  rw [tLine_kind]
  exact Or.inl ⟨by rw [f]; omega, rfl, by rw [f]⟩⟩
theorem may_line {H : Int} (h0 : 0 ≤ H) (h1 : H ≤ 100) : Line H kMay (digits (may 100 20 H).toNat) H := Or.inr ⟨[], by decide +kernel, by
  have e : kind (hd kMay) = 7 := by decide +kernel
  have hm : 0 ≤ may 100 20 H := by unfold may; split <;> omega
  rw [e]
  exact ⟨rfl, (tell_one hm).symm⟩⟩
/-- Two turns, and what may go between. -/
def tTank (a b : Nat) : List Int := tLine a ++ 10 :: (kMay ++ 10 :: (tLine b ++ [10]))
theorem tTank_lines (a b : Nat) : lines (tTank a b) = [tLine a, kMay, tLine b] := by
  unfold tTank
  rw [lines_two, lines_two, lines_end, cut_none (tLine_one a), cut_none (tLine_one b), cut_none (l := kMay) (by decide +kernel)]
  rfl
theorem tLine_length (a : Nat) : (tLine a).length ≤ 30 := by
  have := digits_length a
  unfold tLine
  simp [kTurn]
  omega
/-- What is left, what may go, what the second one is answered. -/
def leftN (a : Nat) : Nat := 100 - a
def mayT (a : Nat) : Nat := if leftN a + 20 ≤ 100 then leftN a + 20 else 100
def lastO (a b : Nat) : List Int := if b ≤ mayT a then digits (mayT a - b) else name 8
def oTank (a b : Nat) : List Int := digits (leftN a) ++ 10 :: (digits (mayT a) ++ 10 :: (lastO a b ++ [10]))
theorem tank_says {a b : Nat} (ha : a ≤ 100) (hb : b ≤ 100) : Says (tTank a b) (oTank a b) := by
  have e1 : may 100 20 100 = 100 := by decide +kernel
  have e2 : may 100 20 (100 - (a : Int)) = (mayT a : Int) := by
    unfold may mayT leftN
    split <;> split <;> omega
  have h1 := turn_line (H := 100) (by omega) (by omega) (a := a) (by omega) (by omega)
  rw [e1] at h1
  have h2 := may_line (H := 100 - (a : Int)) (by omega) (by omega)
  rw [e2] at h2
  have f1 : (100 - (a : Int)).toNat = leftN a := by unfold leftN; omega
  rw [f1] at h1
  rw [Int.toNat_natCast] at h2
  have hl : (tTank a b).length ≤ 3000 := by
    have := tLine_length a
    have := tLine_length b
    unfold tTank
    simp [kMay]
    omega
  refine Or.inr ⟨hl, ?_⟩
  rw [tTank_lines]
  by_cases hc : b ≤ mayT a
  · have h3 := turn_line (H := 100 - (a : Int)) (by omega) (by omega) (a := b) (by omega) (by rw [e2]; omega)
    rw [e2] at h3
    have f2 : ((mayT a : Int) - (b : Int)).toNat = mayT a - b := by omega
    rw [f2] at h3
    refine ⟨_, _, _, _, h1, ⟨_, _, _, h2, ⟨_, _, _, h3, ⟨rfl, rfl⟩, rfl⟩, rfl⟩, ?_⟩
    unfold oTank lastO
    rw [if_pos hc]
  · have h3 := turn_low (H := 100 - (a : Int)) (by omega) (by omega) (a := b) (by omega) (by rw [e2]; omega)
    refine ⟨_, _, _, _, h1, ⟨_, _, _, h2, ⟨_, _, _, h3, ⟨rfl, rfl⟩, rfl⟩, rfl⟩, ?_⟩
    unfold oTank lastO
    rw [if_neg hc]
/-- The answers, cut at each line's end. -/
theorem last_one (a b : Nat) : ∀ x ∈ lastO a b, x ≠ 10 := by
  unfold lastO
  split
  · exact digits_no (by omega) _
  · decide +kernel
theorem oTank_cut (a b : Nat) : cut 10 (oTank a b) = [digits (leftN a), digits (mayT a), lastO a b, []] := by
  unfold oTank
  rw [cut_two, cut_two, cut_two, cut_none (digits_no (by omega) _), cut_none (digits_no (by omega) _), cut_none (last_one a b)]
  rfl
/-- One turn of too many. -/
def tLow : List Int := tLine 101 ++ [10]
theorem low_says : Says tLow (name 8 ++ [10]) := by
  have e1 : may 100 20 100 = 100 := by decide +kernel
  refine Or.inr ⟨by have := tLine_length 101; unfold tLow; simp; omega, 100, ?_⟩
  unfold tLow
  rw [lines_end, cut_none (tLine_one 101)]
  exact ⟨_, _, _, turn_low (H := 100) (by omega) (by omega) (a := 101) (by omega) (by rw [e1]; decide +kernel), ⟨rfl, rfl⟩, rfl⟩

end Go.Proofs.YtkkhgdkgbhdfaakGreatDoor.Ses

/-
  The middle of a gain's numbers, as it is reckoned. No program here.
-/
namespace Go.Proofs.YtkkhgdkgbhdfaakGreatDoor.Gai
open Go.RowKit
set_option linter.unusedVariables false

theorem mid_is {g : Nat} (h0 : 0 < g) (h1 : g ≤ 53) : ∃ m q P : Nat, Int.tdiv ((g : Int) - 1) 4 = (m : Int) ∧ Int.tmod ((g : Int) - 1) 4 = (q : Int) ∧ m ≤ 13 ∧ q ≤ 3 ∧ (2 : Int) ^ m = (P : Int) ∧ 0 < P ∧ P ≤ 8192 ∧
    Hid (mid g = P + (2 * q + 1) * P / 8) := by
  refine ⟨(g - 1) / 4, (g - 1) % 4, 2 ^ ((g - 1) / 4), ?_, ?_, by omega, by omega, by simp, Nat.two_pow_pos _, ?_, rfl⟩
  · rw [show (g : Int) - 1 = ((g - 1 : Nat) : Int) by omega]; rfl
  · rw [show (g : Int) - 1 = ((g - 1 : Nat) : Int) by omega]; rfl
  · exact Nat.pow_le_pow_right (j := 13) (by omega) (by omega)

end Go.Proofs.YtkkhgdkgbhdfaakGreatDoor.Gai

/-
  hornref1's Gain and Value: by their contracts.
-/
namespace Go.Proofs.YtkkhgdkgbhdfaakGreatDoor.Gai
open Go.RowKit
set_option linter.unusedVariables false

set_option maxHeartbeats 2000000 in
theorem refGain (n : Nat) (h : n ≤ 8000) (w : World) :
    Calls Tryz.prog 52 #[.int .i64 n] w fun e w' => e = .returned (.int .i64 (gi n)) ∧ w = w' := by
  rcases Nat.eq_zero_or_pos n with e | hn
  · subst e
    go_enter Tryz.func52, Tryz.ntmps52
    go_wp2
    go_ret
    exact ⟨rfl, rfl⟩
  · have hz : ((n : Int) == 0) = false := by simp; omega
    go_enter Tryz.func52, Tryz.ntmps52
    go_wp2
    go_loop [3, 4] (fun m p => ∃ M P : Nat, m = .int .i64 M ∧ p = .int .i64 P ∧ Hid (2 ^ M = P) ∧ M ≤ 12 ∧ 0 < P ∧ P ≤ n) (fun _ p => n - (intOf p).toNat)
    case atStart => exact ⟨0, 1, rfl, rfl, rfl, by omega, by omega, hn⟩
    case round =>
      obtain ⟨M, P, rfl, rfl, HP, hM, hp0, hp⟩ := hrel
      by_cases hlt : 2 * P ≤ n
      · have HP2 : Hid (2 ^ (M + 1) = 2 * P) := hide (by rw [Nat.pow_succ, unhide HP]; omega)
        have hM2 : M + 1 ≤ 12 := log_in (n := n) (by rw [unhide HP2]; exact hlt) h
        go_wp2
        go_round
        case rel => exact ⟨M + 1, 2 * P, by go_num, by go_num, HP2, hM2, by omega, hlt⟩
        case measure => simp [intOf]; omega
      · go_wp2
        go_loop [5] (fun q => ∃ Q : Nat, q = .int .i64 Q ∧ Q ≤ 3 ∧ Hid (Q * P ≤ 4 * (n - P))) (fun q => 3 - (intOf q).toNat)
        case atStart => exact ⟨0, rfl, by omega, by show 0 * P ≤ _; omega⟩
        case round =>
          obtain ⟨Q, rfl, hQ, HQ⟩ := hrel
          by_cases hq : (Q + 1) * P ≤ 4 * (n - P)
          · have hQ' : Q = 0 ∨ Q = 1 ∨ Q = 2 := by
              have : Q ≠ 3 := by rintro rfl; omega
              omega
            have HQ2 := hide hq
            rcases hQ' with rfl | rfl | rfl
            all_goals
              go_wp2
              go_round
              case rel => first | exact ⟨1, rfl, by omega, HQ2⟩ | exact ⟨2, rfl, by omega, HQ2⟩ | exact ⟨3, rfl, by omega, HQ2⟩
              case measure => simp [intOf]
          · have HE : Hid (gi n = 1 + 4 * M + Q) := hide (gi_is (by rw [unhide HP]; exact hp) (by rw [Nat.pow_succ, unhide HP]; omega) (by rw [unhide HP]; exact fourths hp0 (unhide HQ) (by omega)))
            have hQ' : Q = 0 ∨ Q = 1 ∨ Q = 2 ∨ Q = 3 := by omega
            rcases hQ' with rfl | rfl | rfl | rfl
            all_goals
              go_wp2
              go_ret
              exact ⟨ret_int (by rw [unhide HE]; omega), rfl⟩

/-- What hornref1's Value answers. -/
theorem refValue_far (g : Int) (w : World) (h : g < 0 ∨ (0 ≤ g ∧ 53 < g)) :
    Calls Tryz.prog 33 #[.int .i64 g] w fun e w' => e = .returned (.tuple #[.int .i64 0, .bool false]) ∧ w = w' := by
  rcases h with h | ⟨h, g⟩
  all_goals
    go_enter Tryz.func33, Tryz.ntmps33
    go_wp2
    go_ret2
    exact ⟨rfl, rfl⟩

theorem refValue_zero (w : World) :
    Calls Tryz.prog 33 #[.int .i64 0] w fun e w' => e = .returned (.tuple #[.int .i64 0, .bool true]) ∧ w = w' := by
  go_enter Tryz.func33, Tryz.ntmps33
  go_wp2
  go_ret2
  exact ⟨rfl, rfl⟩

/-- What may be of a gain. -/
def Way (g N : Nat) : Prop := (8000 < N ∧ Hid (vo g = false)) ∨ (N ≤ 8000 ∧ ∃ B : Nat, Hid (gi N = B) ∧ (((B : Int) == (g : Int)) = false ∧ Hid (vo g = false) ∨ B = g ∧ Hid (vo g = true ∧ vl g = N)))
theorem way {g : Nat} (hg : 0 < g) : Way g (mid g) := by
  have ev : vl g = mid g := by unfold vl; rw [if_neg (by omega)]
  cases h : vo g with
  | true =>
    obtain ⟨h1, h2⟩ := vo_is h
    rw [ev] at h1 h2
    exact Or.inr ⟨h1, g, h2, Or.inr ⟨rfl, h, ev⟩⟩
  | false =>
    have h1 := vo_not h
    rw [ev] at h1
    rcases h1 with h1 | ⟨h1, h2⟩
    · exact Or.inl ⟨h1, h⟩
    · exact Or.inr ⟨h1, _, rfl, Or.inl ⟨by simp; omega, h⟩⟩
/-- The answer. -/
def Ans (g : Nat) (e : Ending) : Prop := (Hid (vo g = true) ∧ e = .returned (.tuple #[.int .i64 (vl g), .bool true])) ∨ (Hid (vo g = false) ∧ e = .returned (.tuple #[.int .i64 0, .bool false]))

set_option maxHeartbeats 2000000 in
theorem refValue_some (g : Nat) (hg : 0 < g) (h : g ≤ 53) (w : World) :
    Calls Tryz.prog 33 #[.int .i64 g] w fun e w' => Ans g e ∧ w = w' := by
  obtain ⟨m, q, P, e1, e2, hm, hq, e3, hp, hp', HM⟩ := mid_is hg h
  have hz : ((g : Int) == 0) = false := by simp; omega
  have hwy := way hg
  have HE3 := hide e3
  obtain ⟨N, hN⟩ : ∃ N, mid g = N := ⟨_, rfl⟩
  have hN1 := unhide HM
  rw [hN] at hwy hN1
  have HN := hide hN1
  clear HM hN e3 hN1
  go_enter Tryz.func33, Tryz.ntmps33
  go_wp2
  go_loop [4, 5] (fun p i => ∃ j R : Nat, j ≤ m ∧ i = .int .i64 j ∧ p = .int .i64 R ∧ Hid (2 ^ j = R) ∧ R ≤ 8192) (fun _ i => m - (intOf i).toNat)
  case atStart => exact ⟨0, 1, Nat.zero_le _, rfl, rfl, rfl, by omega⟩
  case round =>
    obtain ⟨j, R, hj, rfl, rfl, HR, hR⟩ := hrel
    by_cases hlt : j < m
    · have HR2 : Hid (2 ^ (j + 1) = 2 * R) := hide (by rw [Nat.pow_succ, unhide HR]; omega)
      have hR2 : 2 * R ≤ 8192 := by
        rw [← unhide HR2]; exact Nat.pow_le_pow_right (j := 13) (by omega) (by omega)
      go_wp2
      go_round
      case rel => exact ⟨j + 1, 2 * R, by omega, by go_num, by go_num, HR2, hR2⟩
      case measure => simp [intOf]; omega
    · obtain rfl : j = m := by omega
      obtain rfl : R = P := by
        have e := unhide HE3
        rw [show (2 : Int) ^ j = ((2 ^ j : Nat) : Int) by simp, unhide HR] at e
        omega
      have hq' : q = 0 ∨ q = 1 ∨ q = 2 ∨ q = 3 := by omega
      rcases hwy with ⟨hw, HV⟩ | ⟨hw, B, HB, hwy⟩
      · rcases hq' with rfl | rfl | rfl | rfl
        all_goals
          first
            | have hX : (R : Int) + (R : Int) / 8 = (N : Int) := by have := unhide HN; omega
            | have hX : (R : Int) + 3 * (R : Int) / 8 = (N : Int) := by have := unhide HN; omega
            | have hX : (R : Int) + 5 * (R : Int) / 8 = (N : Int) := by have := unhide HN; omega
            | have hX : (R : Int) + 7 * (R : Int) / 8 = (N : Int) := by have := unhide HN; omega
          go_wp2
          go_ret2
          exact ⟨Or.inr ⟨HV, rfl⟩, rfl⟩
      · have hc := refGain N hw w
        rw [unhide HB] at hc
        have HC := hide hc
        clear hc
        rcases hwy with ⟨hne, HV⟩ | ⟨rfl, HV⟩
        · have hne' : ((B : Int) != (g : Int)) = true := by simp [bne, hne]
          rcases hq' with rfl | rfl | rfl | rfl
          all_goals
            first
              | have hX : (R : Int) + (R : Int) / 8 = (N : Int) := by have := unhide HN; omega
              | have hX : (R : Int) + 3 * (R : Int) / 8 = (N : Int) := by have := unhide HN; omega
              | have hX : (R : Int) + 5 * (R : Int) / 8 = (N : Int) := by have := unhide HN; omega
              | have hX : (R : Int) + 7 * (R : Int) / 8 = (N : Int) := by have := unhide HN; omega
            go_wp2_with fail
            refine (unhide HC).mono ?_
            rintro e w1 ⟨rfl, rfl⟩
            go_wp2
            go_ret2
            exact ⟨Or.inr ⟨HV, rfl⟩, rfl⟩
        · have hne : ((B : Int) == (B : Int)) = true := by simp
          have hv := (unhide HV).2
          rcases hq' with rfl | rfl | rfl | rfl
          all_goals
            first
              | have hX : (R : Int) + (R : Int) / 8 = (N : Int) := by have := unhide HN; omega
              | have hX : (R : Int) + 3 * (R : Int) / 8 = (N : Int) := by have := unhide HN; omega
              | have hX : (R : Int) + 5 * (R : Int) / 8 = (N : Int) := by have := unhide HN; omega
              | have hX : (R : Int) + 7 * (R : Int) / 8 = (N : Int) := by have := unhide HN; omega
            go_wp2_with fail
            refine (unhide HC).mono ?_
            rintro e w1 ⟨rfl, rfl⟩
            go_wp2
            go_ret2
            exact ⟨Or.inl ⟨(unhide HV).1, by rw [hv]; rfl⟩, rfl⟩

end Go.Proofs.YtkkhgdkgbhdfaakGreatDoor.Gai
