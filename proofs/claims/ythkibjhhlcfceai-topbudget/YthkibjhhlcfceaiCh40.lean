/-
  The numbers of chapter 15: a tank, its turns. No program here.
-/
import Derived.Test.YthkibjhhlcfceaiCh00
import Derived.RangeFuncBox
import Derived.Deep.WholeRow
import Derived.Laws.CopyOwn
import Derived.Deep.QuietTactic
import Derived.BigQuiet
import Derived.Test.YthkibjhhlcfceaiCh10
namespace Go.Proofs.Ythkibjhhlcfceai.Tnk
open Go.Proofs.Ythkibjhhlcfceai.Tre
set_option linter.unusedVariables false

/-- A tank that may be. -/
def Ok (S E H : Int) : Prop := 0 ≤ S ∧ S ≤ 1000000 ∧ 0 ≤ E ∧ E ≤ S ∧ 0 ≤ H ∧ H ≤ S
instance (S E H : Int) : Decidable (Ok S E H) := by unfold Ok; infer_instance
def tankF (S E H : Int) : Int := if Ok S E H then 0 else 1
/-- How many may go. -/
def may (S E H : Int) : Int := if S < H + E then S else H + E
/-- The fault of a turn. -/
def turnF (S E H b : Int) : Int := if Ok S E H then (if b < 0 ∨ 1000000 < b then 1 else if may S E H < b then 8 else 0) else 1
theorem may_in {S E H : Int} (h : Ok S E H) : 0 ≤ may S E H ∧ may S E H ≤ S := by
  obtain ⟨h1, h2, h3, h4, h5, h6⟩ := h
  unfold may
  split <;> omega
theorem turnF_zero {S E H b : Int} : turnF S E H b = 0 ↔ Ok S E H ∧ 0 ≤ b ∧ b ≤ 1000000 ∧ b ≤ may S E H := by
  unfold turnF
  constructor
  · intro h
    split at h
    · split at h
      · omega
      · split at h
        · omega
        · rename_i h1 h2 h3
          exact ⟨h1, by omega, by omega, by omega⟩
    · omega
  · intro ⟨h1, h2, h3, h4⟩
    rw [if_pos h1, if_neg (by omega), if_neg (by omega)]
theorem turn_ok {S E H b : Int} (h : turnF S E H b = 0) : Ok S E (may S E H - b) := by
  obtain ⟨h1, h2, h3, h4⟩ := turnF_zero.1 h
  have := may_in h1
  obtain ⟨k1, k2, k3, k4, k5, k6⟩ := h1
  exact ⟨k1, k2, k3, k4, by omega, by omega⟩
/-- Turn by turn: the fault, and how many are there at last. -/
def rn (S E : Int) : Int → List Int → Int × Int
  | H, [] => (0, H)
  | H, b :: l => if turnF S E H b = 0 then rn S E (may S E H - b) l else (turnF S E H b, 0)
def runF (S E H : Int) (l : List Int) : Int := if 60 < l.length then 4 else if Ok S E H then (rn S E H l).1 else 1
/-- How many are there behind the first j turns. -/
def hs (S E H : Int) (l : List Int) : Nat → Int
  | 0 => H
  | j + 1 => may S E (hs S E H l j) - at0 l j
/-- The turns from i on, k of them, added up. -/
def sums (l : List Int) (i : Nat) : Nat → Int
  | 0 => 0
  | k + 1 => sums l i k + at0 l (i + k)
theorem rn_hs {S E : Int} {l : List Int} {H : Int} (h : Ok S E H) (hz : (rn S E H l).1 = 0) : (∀ j, j < l.length → turnF S E (hs S E H l j) (at0 l j) = 0) ∧ (rn S E H l).2 = hs S E H l l.length := by
  induction l generalizing H with
  | nil => exact ⟨fun j hj => by simp at hj, rfl⟩
  | cons b l ih =>
    rw [rn] at hz ⊢
    by_cases ht : turnF S E H b = 0
    · rw [if_pos ht] at hz ⊢
      obtain ⟨h1, h2⟩ := ih (turn_ok ht) hz
      have key : ∀ j, hs S E H (b :: l) (j + 1) = hs S E (may S E H - b) l j := by
        intro j
        induction j with
        | zero => rfl
        | succ j ihj => rw [hs, ihj, hs]; rfl
      refine ⟨fun j hj => ?_, ?_⟩
      · cases j with
        | zero => exact ht
        | succ j =>
          rw [key]
          exact h1 j (by simpa using hj)
      · rw [List.length_cons, key, h2]
    · rw [if_neg ht] at hz
      exact absurd hz ht
theorem hs_ok {S E : Int} {l : List Int} {H : Int} (h : Ok S E H) (hz : ∀ j, j < l.length → turnF S E (hs S E H l j) (at0 l j) = 0) {j : Nat} (hj : j ≤ l.length) : Ok S E (hs S E H l j) := by
  cases j with
  | zero => exact h
  | succ j => exact turn_ok (hz j (by omega))
/-- No more goes than there was, and came. -/
theorem sums_le {S E : Int} {l : List Int} {H : Int} (h : Ok S E H) (hz : ∀ j, j < l.length → turnF S E (hs S E H l j) (at0 l j) = 0) {i k : Nat} (hk : i + k ≤ l.length) : sums l i k + hs S E H l (i + k) ≤ hs S E H l i + k * E := by
  induction k with
  | zero => simp [sums]
  | succ k ih =>
    have h1 := ih (by omega)
    have h2 : hs S E H l (i + (k + 1)) = may S E (hs S E H l (i + k)) - at0 l (i + k) := rfl
    have h3 : may S E (hs S E H l (i + k)) ≤ hs S E H l (i + k) + E := by unfold may; split <;> omega
    have h4 : ((k + 1 : Nat) : Int) * E = k * E + E := by rw [Int.natCast_add, Int.add_mul]; simp
    rw [sums, h4, h2]
    omega
theorem holds {S E : Int} {l : List Int} {H : Int} (h : Ok S E H) (hz : ∀ j, j < l.length → turnF S E (hs S E H l j) (at0 l j) = 0) {i k : Nat} (hk : i + k ≤ l.length) : sums l i k ≤ S + k * E := by
  have h1 := sums_le h hz hk
  have h2 := (hs_ok h hz hk).2.2.2.2.1
  have h3 := (hs_ok h hz (show i ≤ l.length by omega)).2.2.2.2.2
  omega
/-- As much as comes may go, for ever. -/
theorem even {S E : Int} (h : Ok S E (S - E)) (n : Nat) : rn S E (S - E) (List.replicate n E) = (0, S - E) := by
  induction n with
  | zero => rfl
  | succ n ih =>
    obtain ⟨h1, h2, h3, h4, h5, h6⟩ := h
    have hm : may S E (S - E) = S := by unfold may; rw [if_neg (by omega)]; omega
    have ht : turnF S E (S - E) E = 0 := turnF_zero.2 ⟨⟨h1, h2, h3, h4, h5, h6⟩, h3, by omega, by rw [hm]; exact h4⟩
    rw [List.replicate_succ, rn, if_pos ht, hm]
    exact ih

/-- What a turn tells of a tank. -/
def tS (S E H b : Int) : Int := if turnF S E H b = 0 then S else 0
def tE (S E H b : Int) : Int := if turnF S E H b = 0 then E else 0
def tH (S E H b : Int) : Int := if turnF S E H b = 0 then may S E H - b else 0
def mayN (S E H : Int) : Int := if tankF S E H = 0 then may S E H else 0
def lastN (S E H : Int) (l : List Int) : Int := if runF S E H l = 0 then (rn S E H l).2 else 0
theorem tankF_zero {S E H : Int} : tankF S E H = 0 ↔ Ok S E H := by
  unfold tankF
  constructor
  · intro h
    split at h
    · assumption
    · omega
  · intro h
    rw [if_pos h]
theorem tankF_in (S E H : Int) : tankF S E H = 0 ∨ tankF S E H = 1 := by
  unfold tankF
  split <;> omega
theorem turnF_in (S E H b : Int) : turnF S E H b = 0 ∨ turnF S E H b = 1 ∨ turnF S E H b = 8 := by
  unfold turnF
  split
  · split
    · omega
    · split <;> omega
  · omega
theorem turn_is {S E H b : Int} (h : turnF S E H b = 0) : tS S E H b = S ∧ tE S E H b = E ∧ tH S E H b = may S E H - b := by
  unfold tS tE tH
  rw [if_pos h, if_pos h, if_pos h]
  exact ⟨rfl, rfl, rfl⟩
theorem turn_no {S E H b : Int} (h : turnF S E H b ≠ 0) : tS S E H b = 0 ∧ tE S E H b = 0 ∧ tH S E H b = 0 := by
  unfold tS tE tH
  rw [if_neg h, if_neg h, if_neg h]
  exact ⟨rfl, rfl, rfl⟩
/-- Turn by turn, from where one is. -/
def from_ (S E H : Int) (l : List Int) (j : Nat) : Int × Int := rn S E H (l.drop j)
theorem from_step {S E H : Int} {l : List Int} {j : Nat} (hj : j < l.length) : from_ S E H l j = if turnF S E H (at0 l j) = 0 then from_ S E (may S E H - at0 l j) l (j + 1) else (turnF S E H (at0 l j), 0) := by
  unfold from_
  have e : at0 l j = l[j] := by simp [at0, hj]
  rw [List.drop_eq_getElem_cons hj, rn, e]
theorem from_end (S E H : Int) (l : List Int) : from_ S E H l l.length = (0, H) := by
  unfold from_
  rw [List.drop_length]
  rfl
theorem from_zero (S E H : Int) (l : List Int) : from_ S E H l 0 = rn S E H l := rfl

theorem runF_zero {S E H : Int} {l : List Int} (h : runF S E H l = 0) : l.length ≤ 60 ∧ Ok S E H ∧ (rn S E H l).1 = 0 := by
  unfold runF at h
  split at h
  · omega
  · split at h
    · rename_i h1 h2
      exact ⟨by omega, h2, h⟩
    · omega
/-- What Run tells of turns that all go. -/
theorem run_holds {S E H : Int} {l : List Int} (h : runF S E H l = 0) : (∀ j, j < l.length → 0 ≤ at0 l j ∧ at0 l j ≤ 1000000) ∧ (∀ i k, i + k ≤ l.length → sums l i k ≤ S + k * E) ∧ 0 ≤ lastN S E H l ∧ lastN S E H l ≤ S := by
  obtain ⟨h1, h2, h3⟩ := runF_zero h
  obtain ⟨h4, h5⟩ := rn_hs h2 h3
  have h6 := hs_ok h2 h4 (Nat.le_refl l.length)
  refine ⟨fun j hj => ?_, fun i k hk => holds h2 h4 hk, ?_, ?_⟩
  · obtain ⟨_, e1, e2, _⟩ := turnF_zero.1 (h4 j hj)
    exact ⟨e1, e2⟩
  · unfold lastN
    rw [if_pos h, h5]
    exact h6.2.2.2.2.1
  · unfold lastN
    rw [if_pos h, h5]
    exact h6.2.2.2.2.2
theorem sums_nonneg {l : List Int} (h : ∀ j, j < l.length → 0 ≤ at0 l j ∧ at0 l j ≤ 1000000) {i k : Nat} (hk : i + k ≤ l.length) : 0 ≤ sums l i k ∧ sums l i k ≤ 1000000 * k := by
  induction k with
  | zero => simp [sums]
  | succ k ih =>
    have h1 := ih (by omega)
    have h2 := h (i + k) (by omega)
    rw [sums]
    omega
/-- As much as may go goes, and one more does not. -/
theorem turn_may {S E H : Int} (h : Ok S E H) : turnF S E H (may S E H) = 0 ∧ (turnF S E H (may S E H + 1) = 8 ∨ (turnF S E H (may S E H + 1) = 1 ∧ may S E H = 1000000)) := by
  have hm := may_in h
  have h9 := h.2.1
  refine ⟨turnF_zero.2 ⟨h, hm.1, by omega, Int.le_refl _⟩, ?_⟩
  unfold turnF
  rw [if_pos h]
  by_cases h1 : 1000000 < may S E H + 1
  · rw [if_pos (Or.inr h1)]
    exact Or.inr ⟨rfl, by omega⟩
  · rw [if_neg (by omega), if_pos (by omega)]
    exact Or.inl rfl

end Go.Proofs.Ythkibjhhlcfceai.Tnk

/-
  A tank in memory: one block of three numbers.
-/
namespace Go.Proofs.Ythkibjhhlcfceai.Tnk
open Go.RowKit
open Go.Proofs.Ythkibjhhlcfceai.Tre
set_option linter.unusedVariables false

def Tk (W : World) (B : Nat) (S E H : Int) : Prop := W.heap[B]? = some (.cells #[.int .i64 S, .int .i64 E, .int .i64 H] 42 (0, 0))
section
variable {W W' : World} {B : Nat} {S E H : Int}
theorem Tk.lt (h : Tk W B S E H) : B < W.heap.size := (Array.getElem?_eq_some_iff.1 h).1
theorem Tk.c0 (h : Tk W B S E H) : W.cell? ⟨B, 0, none⟩ = some (.int .i64 S) := by simp [World.cell?, show W.heap[B]? = _ from h]
theorem Tk.c1 (h : Tk W B S E H) : W.cell? ⟨B, 1, none⟩ = some (.int .i64 E) := by simp [World.cell?, show W.heap[B]? = _ from h]
theorem Tk.c2 (h : Tk W B S E H) : W.cell? ⟨B, 2, none⟩ = some (.int .i64 H) := by simp [World.cell?, show W.heap[B]? = _ from h]
theorem Tk.fz (h : Tk W B S E H) (j : Nat) : W.frozen? ⟨B, j, none⟩ = false := by simp [World.frozen?, show W.heap[B]? = _ from h]
theorem Tk.new (W : World) (S E H : Int) : Tk (W.alloc (.cells #[.int .i64 S, .int .i64 E, .int .i64 H] 42)) W.heap.size S E H := World.alloc_heap_new W _
theorem Tk.kept {row : Option Nat} (h : Tk W B S E H) (hg : W.grownBy W' row) (hne : some B ≠ row) : Tk W' B S E H := (hg.block B h.lt hne).trans h
theorem Tk.alloc (h : Tk W B S E H) (o : Obj) : Tk (W.alloc o) B S E H := h.kept (World.grownBy_alloc W o none) (by simp)
theorem Tk.below {n : Nat} (h : Tk W B S E H) (hb : Below n W W') (hn : B < n) : Tk W' B S E H := (hb.block B hn).trans h
theorem Tk.other {B' j : Nat} (h : Tk W B S E H) (hne : B' ≠ B) (v : Value) : Tk (W.setCell ⟨B', j, none⟩ v) B S E H := by
  unfold Tk
  rw [Below.heap_setCell _ _ _ _ (fun e => hne e.symm)]
  exact h
theorem Tk.has (h : Tk W B S E H) (x : Int) : Tk (W.setCell ⟨B, 2, none⟩ (.int .i64 x)) B S E x := by
  unfold Tk
  rw [setCell_eq_setRow W B 2 _ _ _ _ h, setRow_heap W B _ _ _ _ h]
  rfl
theorem Tk.each (h : Tk W B S E H) (x : Int) : Tk (W.setCell ⟨B, 1, none⟩ (.int .i64 x)) B S x H := by
  unfold Tk
  rw [setCell_eq_setRow W B 1 _ _ _ _ h, setRow_heap W B _ _ _ _ h]
  rfl
theorem Tk.size (h : Tk W B S E H) (x : Int) : Tk (W.setCell ⟨B, 0, none⟩ (.int .i64 x)) B x E H := by
  unfold Tk
  rw [setCell_eq_setRow W B 0 _ _ _ _ h, setRow_heap W B _ _ _ _ h]
  rfl
theorem Tk.drew (h : Tk W B S E H) (n : Nat) : Tk (W.drewN n) B S E H := h
end

theorem info_tank : (Try.prog.info? 42).map (·.size) = some 3 := by kernel_rfl
theorem load_tank {W : World} {B : Nat} {S E H : Int} (h : Tk W B S E H) : (loadVar 42 ⟨B, 0, none⟩).run Try.prog W = .ok (.agg #[.int .i64 S, .int .i64 E, .int .i64 H]) W :=
  run_loadVar_row W B 42 42 #[.int .i64 S, .int .i64 E, .int .i64 H] (0, 0) _ h Try.underlying42 rfl info_tank
/-- What a function answers that has a tank in a box, and another thing. -/
theorem results_tank {fn : Func} {p u : Tmp} (h : fn.results = #[.cell p 42, .tmp u]) (tmps : Array Value) (w : World) (B : Nat) (S E H : Int) (hp : tmps.getD p undef = .pointer (some ⟨B, 0, none⟩)) (hk : Tk w B S E H) :
    (results fn tmps).run Try.prog w = .ok (.tuple #[.agg #[.int .i64 S, .int .i64 E, .int .i64 H], tmps.getD u undef]) w := by
  have hp' : tmps[p]?.getD undef = .pointer (some ⟨B, 0, none⟩) := by simpa using hp
  simp [results, h, hp', asAddr, load_tank hk]
/-- All three are stored. -/
theorem Tk.put {W : World} {B : Nat} {S E H : Int} (h : Tk W B S E H) (x y z : Int) : Tk (((W.setCell ⟨B, 0, none⟩ (.int .i64 x)).setCell ⟨B, 1, none⟩ (.int .i64 y)).setCell ⟨B, 2, none⟩ (.int .i64 z)) B x y z := ((h.size x).each y).has z
theorem below_put {n : Nat} {w W : World} (h : Below n w W) {B : Nat} (hB : n ≤ B) (u v x : Value) : Below n w (((W.setCell ⟨B, 0, none⟩ u).setCell ⟨B, 1, none⟩ v).setCell ⟨B, 2, none⟩ x) :=
  ((h.setCell (p := ⟨B, 0, none⟩) hB u).setCell (p := ⟨B, 1, none⟩) hB v).setCell (p := ⟨B, 2, none⟩) hB x

theorem Tk.aside {W : World} {B B' : Nat} {S E H : Int} (h : Tk W B S E H) (hne : B' ≠ B) (u v x : Value) : Tk (((W.setCell ⟨B', 0, none⟩ u).setCell ⟨B', 1, none⟩ v).setCell ⟨B', 2, none⟩ x) B S E H := ((h.other hne u).other hne v).other hne x

end Go.Proofs.Ythkibjhhlcfceai.Tnk

/-
  tank.outside, Check, May: by their contracts.
-/
namespace Go.Proofs.Ythkibjhhlcfceai.Tnk
open Go.RowKit
open Go.Proofs.Ythkibjhhlcfceai.Tre Go.Proofs.Ythkibjhhlcfceai.Ev
set_option linter.unusedVariables false

/-- A number is not from 0 to m. -/
def outs (n m : Int) : Bool := decide (n < 0) || decide (m < n)
theorem outs_no {n m : Int} : outs n m = false ↔ 0 ≤ n ∧ n ≤ m := by simp [outs]
theorem outs_yes {n m : Int} : outs n m = true ↔ n < 0 ∨ m < n := by simp [outs]

theorem outside (n m : Int) (w : World) : Calls Try.prog 45 #[.int .i64 n, .int .i64 m] w fun e w' => e = .returned (.bool (outs n m)) ∧ w' = w := by
  by_cases h1 : n < 0
  · have h3 : decide (n < 0) = true := by simpa using h1
    go_enter Try.func45, Try.ntmps45
    go_wp2
    go_ret
    exact ⟨by simp [outs, h3], rfl⟩
  · have h2 : decide (n < 0) = false := by simpa using h1
    go_enter Try.func45, Try.ntmps45
    go_wp2
    go_ret
    exact ⟨by simp [outs, h2], rfl⟩

set_option maxRecDepth 100000 in
set_option maxHeartbeats 4000000 in
theorem check (S E H : Int) (w : World) :
    Calls Try.prog 33 #[.agg #[.int .i64 S, .int .i64 E, .int .i64 H]] w fun e w' => e = .returned (errV (tankF S E H)) ∧ Below w.heap.size w w' := by
  have C1 := hide (fun W => outside S 1000000 W)
  have C2 := hide (fun W => outside E S W)
  have C3 := hide (fun W => outside H S W)
  have HN : Hid (outs S 1000000 = true ∨ outs E S = true ∨ outs H S = true → tankF S E H = 1) := hide (fun h => by
    unfold tankF
    rw [if_neg]
    intro hk
    obtain ⟨h1, h2, h3, h4, h5, h6⟩ := hk
    rw [outs_yes, outs_yes, outs_yes] at h
    omega)
  have HY : Hid (outs S 1000000 = false → outs E S = false → outs H S = false → tankF S E H = 0) := hide (fun h1 h2 h3 => by
    rw [outs_no] at h1 h2 h3
    exact tankF_zero.2 ⟨h1.1, h1.2, h2.1, h2.2, h3.1, h3.2⟩)
  obtain ⟨W0, hW0⟩ : ∃ W0, w.alloc (.cells #[.int .i64 S, .int .i64 E, .int .i64 H] 42) = W0 := ⟨_, rfl⟩
  have hb0 : Below w.heap.size w W0 := by rw [← hW0]; exact (Below.refl _ _).alloc (Nat.le_refl _) _
  have t0 : Tk W0 w.heap.size S E H := by rw [← hW0]; exact Tk.new w S E H
  have a0 := t0.c0
  have a1 := t0.c1
  have a2 := t0.c2
  obtain ⟨F, hF⟩ : ∃ F, tankF S E H = F := ⟨_, rfl⟩
  rw [hF] at HN HY ⊢
  clear hF t0
  cases h1 : outs S 1000000
  · rw [h1] at C1 HN HY
    clear h1
    cases h2 : outs E S
    · rw [h2] at C2 HN HY
      clear h2
      cases h3 : outs H S
      · rw [h3] at C3 HN HY
        clear h3
        have e0 := unhide HY rfl rfl rfl
        subst e0
        clear HN HY
        go_enter Try.func33, Try.ntmps33
        go_wp2_with fail
        refine (unhide C1 _).mono ?_
        rintro e w1 ⟨rfl, rfl⟩
        go_wp2_with fail
        refine (unhide C2 _).mono ?_
        rintro e w1 ⟨rfl, rfl⟩
        go_wp2_with fail
        refine (unhide C3 _).mono ?_
        rintro e w1 ⟨rfl, rfl⟩
        go_wp2
        go_ret
        exact ⟨rfl, hb0⟩
      · rw [h3] at C3 HN HY
        clear h3
        have e0 := unhide HN (by simp)
        subst e0
        clear HN HY
        go_enter Try.func33, Try.ntmps33
        go_wp2_with fail
        refine (unhide C1 _).mono ?_
        rintro e w1 ⟨rfl, rfl⟩
        go_wp2_with fail
        refine (unhide C2 _).mono ?_
        rintro e w1 ⟨rfl, rfl⟩
        go_wp2_with fail
        refine (unhide C3 _).mono ?_
        rintro e w1 ⟨rfl, rfl⟩
        go_wp2
        go_ret
        exact ⟨rfl, hb0⟩
    · rw [h2] at C2 HN HY
      clear h2
      have e0 := unhide HN (by simp)
      subst e0
      clear HN HY
      go_enter Try.func33, Try.ntmps33
      go_wp2_with fail
      refine (unhide C1 _).mono ?_
      rintro e w1 ⟨rfl, rfl⟩
      go_wp2_with fail
      refine (unhide C2 _).mono ?_
      rintro e w1 ⟨rfl, rfl⟩
      go_wp2
      go_ret
      exact ⟨rfl, hb0⟩
  · rw [h1] at C1 HN HY
    clear h1
    have e0 := unhide HN (by simp)
    subst e0
    clear HN HY
    go_enter Try.func33, Try.ntmps33
    go_wp2_with fail
    refine (unhide C1 _).mono ?_
    rintro e w1 ⟨rfl, rfl⟩
    go_wp2
    go_ret
    exact ⟨rfl, hb0⟩

set_option maxRecDepth 100000 in
set_option maxHeartbeats 4000000 in
theorem mayG (S E H : Int) (w : World) :
    Calls Try.prog 12 #[.agg #[.int .i64 S, .int .i64 E, .int .i64 H]] w fun e w' => e = .returned (.tuple #[.int .i64 (mayN S E H), errV (tankF S E H)]) ∧ Below w.heap.size w w' := by
  have CC := hide (fun W => check S E H W)
  obtain ⟨W0, hW0⟩ : ∃ W0, w.alloc (.cells #[.int .i64 S, .int .i64 E, .int .i64 H] 42) = W0 := ⟨_, rfl⟩
  have hb0 : Below w.heap.size w W0 := by rw [← hW0]; exact (Below.refl _ _).alloc (Nat.le_refl _) _
  have t0 : Tk W0 w.heap.size S E H := by rw [← hW0]; exact Tk.new w S E H
  have a0 := t0.c0
  have a1 := t0.c1
  have a2 := t0.c2
  by_cases hk : Ok S E H
  · have e0 : tankF S E H = 0 := tankF_zero.2 hk
    have e1 : mayN S E H = may S E H := by unfold mayN; rw [if_pos e0]
    rw [e0, errV_zero] at CC ⊢
    rw [e1]
    have HM : Hid (may S E H = if S < H + E then S else H + E) := hide rfl
    obtain ⟨M, hM⟩ : ∃ M, may S E H = M := ⟨_, rfl⟩
    rw [hM] at HM ⊢
    obtain ⟨k1, k2, k3, k4, k5, k6⟩ := hk
    obtain ⟨X, hX⟩ : ∃ X, H + E = X := ⟨_, rfl⟩
    have wx : IntKind.i64.wrap (H + E) = X := by rw [hX]; exact IntWalk.i64_in _ (by omega)
    rw [hX] at HM
    clear hX hM e0 e1 k3 k4 k5 k6 k1 k2
    by_cases hx : S < X
    · have em := unhide HM
      rw [if_pos hx] at em
      subst em
      have hx2 : ¬ X < M := by omega
      have hx3 : ¬ X ≤ M := by omega
      have d1 : decide (X < M) = false := by simpa using hx2
      have d2 : decide (M < X) = true := by simpa using hx
      clear HM
      go_enter Try.func12, Try.ntmps12
      go_wp2_with fail
      refine (unhide CC _).mono ?_
      rintro e w1 ⟨rfl, hb1⟩
      have t1 := t0.below hb1 t0.lt
      clear a0 a1 a2
      have a0 := t1.c0
      have a1 := t1.c1
      have a2 := t1.c2
      go_wp2
      go_ret2
      exact ⟨rfl, Below.chain hb0 hb1⟩
    · have em := unhide HM
      rw [if_neg hx] at em
      subst em
      have hx3 : M ≤ S := by omega
      have d2 : decide (S < M) = false := by simpa using hx
      clear HM
      go_enter Try.func12, Try.ntmps12
      go_wp2_with fail
      refine (unhide CC _).mono ?_
      rintro e w1 ⟨rfl, hb1⟩
      have t1 := t0.below hb1 t0.lt
      clear a0 a1 a2
      have a0 := t1.c0
      have a1 := t1.c1
      have a2 := t1.c2
      go_wp2
      go_ret2
      exact ⟨rfl, Below.chain hb0 hb1⟩
  · have e0 : tankF S E H = 1 := by unfold tankF; rw [if_neg hk]
    have e1 : mayN S E H = 0 := by unfold mayN; rw [if_neg (by omega)]
    rw [e0, errV_ne (by omega)] at CC ⊢
    rw [e1]
    clear hk e0 e1
    go_enter Try.func12, Try.ntmps12
    go_wp2_with fail
    refine (unhide CC _).mono ?_
    rintro e w1 ⟨rfl, hb1⟩
    go_wp2
    go_ret2
    exact ⟨rfl, Below.chain hb0 hb1⟩

end Go.Proofs.Ythkibjhhlcfceai.Tnk
