/-
  Parts of a frame that lie in memory behind a mark: no older block is among theirs.
-/
import Derived.Test.YtjnmogmagngenaiDoorPartBase
namespace Go.Proofs.YtjnmogmagngenaiDoor.Frm
open Go.RowKit
open Go.Proofs.YtjnmogmagngenaiDoor.Tre
set_option linter.unusedVariables false

/-- A row behind a mark. -/
def RowN (n : Nat) (w : World) (a : Option Addr) (l : List Int) : Prop :=
  l = [] ∨ ∃ b off, a = some ⟨b, off, none⟩ ∧ n ≤ b ∧ b < w.heap.size ∧ ∀ j, j < l.length → w.cell? ⟨b, off + j, none⟩ = some (.int .i64 (l.getD j 0))
theorem RowN.row {n : Nat} {w : World} {a : Option Addr} {l : List Int} (h : RowN n w a l) : Row w a l := by
  rcases h with h | ⟨b, off, e, _, hb, hc⟩
  · exact Or.inl h
  · exact Or.inr ⟨b, off, e, hb, hc⟩
theorem RowN.mono {n m : Nat} {w : World} {a : Option Addr} {l : List Int} (h : RowN n w a l) (hm : m ≤ n) : RowN m w a l := by
  rcases h with h | ⟨b, off, e, hn, hb, hc⟩
  · exact Or.inl h
  · exact Or.inr ⟨b, off, e, Nat.le_trans hm hn, hb, hc⟩
/-- What keeps all blocks but one keeps a row behind it. -/
theorem RowN.but {n c : Nat} {w w' : World} {a : Option Addr} {l : List Int} (h : RowN n w a l) (hg : w.grownBy w' (some c)) (hc : c < n) : RowN n w' a l := by
  rcases h with h | ⟨b, off, e, hn, hb, hcs⟩
  · exact Or.inl h
  · refine Or.inr ⟨b, off, e, hn, Nat.lt_of_lt_of_le hb hg.size, fun j hj => ?_⟩
    rw [World.cell?_of_block (a := ⟨b, off + j, none⟩) (hg.block b hb (fun e => by cases e; omega))]
    exact hcs j hj
theorem RowN.below {n : Nat} {w w' : World} {a : Option Addr} {l : List Int} (h : RowN n w a l) (hb : Below w.heap.size w w') : RowN n w' a l := by
  rcases h with h | ⟨b, off, e, hn, hb', hcs⟩
  · exact Or.inl h
  · exact Or.inr ⟨b, off, e, hn, Nat.lt_of_lt_of_le hb' hb.size, fun j hj => (hb.cell (p := ⟨b, off + j, none⟩) hb').trans (hcs j hj)⟩
theorem rowN_of {w : World} {base : Nat} {v : Value} {l : List Int} (h : Has w base v l) : ∃ a cap, v = .slice a l.length cap ∧ (a = none → cap = 0) ∧ l.length ≤ cap ∧ cap ≤ 9223372036854775807 ∧ RowN base w a l := by
  obtain ⟨A, C, e, h2, h3, h4, h5⟩ := h.sli
  refine ⟨A, C, e, h2, h3, h4, ?_⟩
  rcases h5 with h5 | ⟨b, off, ea, hb, hc⟩
  · exact Or.inl h5
  · refine Or.inr ⟨b, off, ea, ?_, hb, hc⟩
    subst ea
    exact (h.lt b (by rw [e]; rfl)).1

/-- A slice of integers in a cell, behind a mark. -/
def CelN (n : Nat) (w : World) (p : Addr) (l : List Int) : Prop := ∃ A C, w.cell? p = some (.slice A l.length C) ∧ (A = none → C = 0) ∧ l.length ≤ C ∧ C ≤ 9223372036854775807 ∧ RowN n w A l
def PtsN (n : Nat) (w : World) (a : Option Addr) (ps : List Prt) : Prop :=
  ps = [] ∨ ∃ b off, a = some ⟨b, off, none⟩ ∧ n ≤ b ∧ b < w.heap.size ∧ ∀ r, r < ps.length → w.cell? ⟨b, off + r * 2, none⟩ = some (.int .i64 (prt ps r).1) ∧ CelN n w ⟨b, off + r * 2 + 1, none⟩ (prt ps r).2
theorem PtsN.pts {n : Nat} {w : World} {a : Option Addr} {ps : List Prt} (h : PtsN n w a ps) : Pts w a ps := by
  rcases h with h | ⟨b, off, e, _, hb, hc⟩
  · exact Or.inl h
  · refine Or.inr ⟨b, off, e, hb, fun r hr => ⟨(hc r hr).1, ?_⟩⟩
    obtain ⟨A, C, h1, h2, h3, h4, h5⟩ := (hc r hr).2
    exact ⟨A, C, h1, h2, h3, h4, h5.row⟩
theorem PtsN.mono {n m : Nat} {w : World} {a : Option Addr} {ps : List Prt} (h : PtsN n w a ps) (hm : m ≤ n) : PtsN m w a ps := by
  rcases h with h | ⟨b, off, e, hn, hb, hc⟩
  · exact Or.inl h
  · refine Or.inr ⟨b, off, e, Nat.le_trans hm hn, hb, fun r hr => ⟨(hc r hr).1, ?_⟩⟩
    obtain ⟨A, C, h1, h2, h3, h4, h5⟩ := (hc r hr).2
    exact ⟨A, C, h1, h2, h3, h4, h5.mono hm⟩
theorem PtsN.below {n : Nat} {w w' : World} {a : Option Addr} {ps : List Prt} (h : PtsN n w a ps) (hb : Below w.heap.size w w') : PtsN n w' a ps := by
  rcases h with h | ⟨b, off, e, hn, hb', hc⟩
  · exact Or.inl h
  · refine Or.inr ⟨b, off, e, hn, Nat.lt_of_lt_of_le hb' hb.size, fun r hr => ⟨(hb.cell (p := ⟨b, off + r * 2, none⟩) hb').trans (hc r hr).1, ?_⟩⟩
    obtain ⟨A, C, h1, h2, h3, h4, h5⟩ := (hc r hr).2
    exact ⟨A, C, (hb.cell (p := ⟨b, off + r * 2 + 1, none⟩) hb').trans h1, h2, h3, h4, h5.below hb⟩
theorem PtsN.but {n c : Nat} {w w' : World} {a : Option Addr} {ps : List Prt} (h : PtsN n w a ps) (hg : w.grownBy w' (some c)) (hc' : c < n) : PtsN n w' a ps := by
  rcases h with h | ⟨b, off, e, hn, hb', hc⟩
  · exact Or.inl h
  · have hk : ∀ j, w'.cell? ⟨b, j, none⟩ = w.cell? ⟨b, j, none⟩ := fun j => World.cell?_of_block (a := ⟨b, j, none⟩) (hg.block b hb' (fun e => by cases e; omega))
    refine Or.inr ⟨b, off, e, hn, Nat.lt_of_lt_of_le hb' hg.size, fun r hr => ⟨(hk _).trans (hc r hr).1, ?_⟩⟩
    obtain ⟨A, C, h1, h2, h3, h4, h5⟩ := (hc r hr).2
    exact ⟨A, C, (hk _).trans h1, h2, h3, h4, h5.but hg hc'⟩
theorem PtsN.at {n : Nat} {w : World} {a : Option Addr} {ps : List Prt} (h : PtsN n w a ps) {k : Nat} (hk : k < ps.length) :
    ∃ b off, a = some ⟨b, off, none⟩ ∧ n ≤ b ∧ b < w.heap.size ∧ ∀ r, r < ps.length → w.cell? ⟨b, off + r * 2, none⟩ = some (.int .i64 (prt ps r).1) ∧ CelN n w ⟨b, off + r * 2 + 1, none⟩ (prt ps r).2 := by
  rcases h with h | h
  · subst h; exact absurd hk (by simp)
  · exact h
/-- A value that is a slice of these integers, behind a mark. -/
def SliN (n : Nat) (w : World) (V : Value) (l : List Int) : Prop := ∃ A C, V = .slice A l.length C ∧ (A = none → C = 0) ∧ l.length ≤ C ∧ C ≤ 9223372036854775807 ∧ RowN n w A l
theorem HasP.ptsN {w : World} {base : Nat} {v : Value} {qs : List (Int × Value)} {ps : List Prt} (h : HasP w base v qs) (hl : ps.length = qs.length) (hc : ∀ r, r < ps.length → ∃ V, qs[r]? = some ((prt ps r).1, V) ∧ SliN base w V (prt ps r).2) :
    ∃ a cap, v = .slice a ps.length cap ∧ PtsN base w a ps ∧ ps.length ≤ cap ∧ cap ≤ 9223372036854775807 := by
  have h' := h
  rcases h.2 with ⟨h1, h2⟩ | ⟨g, cap, cur, hv, hb, hg, hn, hm, _⟩
  · have e : ps = [] := List.length_eq_zero_iff.1 (by omega)
    subst e
    exact ⟨none, 0, h1, Or.inl rfl, Nat.le_refl _, by omega⟩
  · refine ⟨some ⟨g, 0, none⟩, cap, by rw [hl]; exact hv, ?_, by omega, by simpa [maxLen] using hm⟩
    by_cases hl0 : ps = []
    · exact Or.inl hl0
    · refine Or.inr ⟨g, 0, rfl, hb, (Array.getElem?_eq_some_iff.1 hg).1, fun j hj => ?_⟩
      subst hv
      obtain ⟨V, hV, A, C, s1, s2, s3, s4, s5⟩ := hc j hj
      obtain ⟨c0, c1⟩ := h'.get rfl hV
      rw [Nat.zero_add]
      exact ⟨c0, A, C, by rw [c1, s1], s2, s3, s4, s5⟩

end Go.Proofs.YtjnmogmagngenaiDoor.Frm
