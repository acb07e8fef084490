/-
  A slice of integers of this call's own: one number is read, or set.
-/
import Derived.Test.YthkibjhhlcfceaiCh03
import Derived.Test.YthkibjhhlcfceaiCh00
import Derived.Test.YthkibjhhlcfceaiCh02
import Derived.Test.YthkibjhhlcfceaiCh01
namespace Go.Proofs.Ythkibjhhlcfceai
open Go.RowKit
open Go.Proofs.Ythkibjhhlcfceai.Tre
set_option linter.unusedVariables false

/-- .. where it is none, and where it is one. -/
theorem Has.one {w : World} {base : Nat} {v : Value} {l : List Int} (h : Has w base v l) (h0 : 0 < l.length) : ∃ g c, v = .slice (some ⟨g, 0, none⟩) l.length c ∧ base ≤ g ∧ g < w.heap.size ∧ l.length ≤ c ∧ c ≤ 9223372036854775807 := by
  rcases h.2 with ⟨_, e⟩ | ⟨g, cap, cur, hv, hb, hg, hn, hm, _⟩
  · omega
  · exact ⟨g, cap, hv, hb, (Array.getElem?_eq_some_iff.1 hg).1, hn, by simpa [maxLen] using hm⟩
theorem Has.get {w : World} {base g n c : Nat} {l : List Int} (h : Has w base (.slice (some ⟨g, 0, none⟩) n c) l) {j : Nat} (hj : j < l.length) : w.cell? ⟨g, j, none⟩ = some (.int .i64 (at0 l j)) := by
  obtain ⟨a, cap, e, hr⟩ := h.row
  obtain ⟨b, off, e', hb, hcs⟩ := hr.at hj
  subst e'
  obtain ⟨e1, e2, e3⟩ := Value.slice.inj e
  cases e1
  have := hcs j hj
  rw [Nat.zero_add] at this
  rw [this, List.getD_eq_getElem?_getD]; rfl
theorem Has.put {w : World} {base g n c : Nat} {l : List Int} (h : Has w base (.slice (some ⟨g, 0, none⟩) n c) l) (j : Nat) (x : Int) :
    Has (w.setCell ⟨g, j, none⟩ (.int .i64 x)) base (.slice (some ⟨g, 0, none⟩) n c) (l.set j x) ∧ w.grownBy (w.setCell ⟨g, j, none⟩ (.int .i64 x)) (some g) := by
  obtain ⟨a, cap, e, _⟩ := h.row
  obtain ⟨e1, e2, e3⟩ := Value.slice.inj e
  subst e2
  have := World.ownsRow.stored h j (.int .i64 x)
  rw [← List.map_set] at this
  refine ⟨?_, this.2⟩
  unfold Has
  rw [List.length_set]
  exact this.1
theorem Has.frozen {w : World} {base g n c : Nat} {l : List Int} (h : Has w base (.slice (some ⟨g, 0, none⟩) n c) l) (j : Nat) : w.frozen? ⟨g, j, none⟩ = false := by
  obtain ⟨a, cap, e, _⟩ := h.row
  obtain ⟨e1, e2, e3⟩ := Value.slice.inj e
  subst e2
  exact World.ownsRow.frozenAt h j
/-- A number of one list is set: the other list stays. -/
theorem Has.beside {w w' : World} {base : Nat} {u v : Value} {m : List Int} {g n c : Nat} (hu : Has w base u m) (hv : v = .slice (some ⟨g, 0, none⟩) n c) (ho : Off u v) (hg : w.grownBy w' (some g)) : Has w' base u m := by
  refine hu.kept hg ?_
  unfold Off at ho
  rw [hv] at ho
  exact ho
theorem Has.inRow {w : World} {base : Nat} {v : Value} {l : List Int} (h : Has w base v l) {a : Option Addr} {n c : Nat} (e : v = .slice a n c) : n = l.length ∧ Row w a l := by
  obtain ⟨a', cap, e', hr⟩ := h.row
  rw [e] at e'
  obtain ⟨e1, e2, e3⟩ := Value.slice.inj e'
  subst e1 e2
  exact ⟨rfl, hr⟩

/-- One slice grows: another one stays, and does not lie in its row. -/
theorem apart {W w1 : World} {n₀ : Nat} {u v v' : Value} {m : List Int} (hu : Has W n₀ u m) (hg : W.grownBy w1 v.ownBlock) (hat : v'.ownBlock = v.ownBlock ∨ v'.ownBlock = some W.heap.size) (ho : Off u v) : Has w1 n₀ u m ∧ Off u v' := by
  refine ⟨hu.kept hg ho, ?_⟩
  rcases hat with e | e
  · unfold Off; rw [e]; exact ho
  · cases hb : u.ownBlock with
    | none => exact Or.inl hb
    | some k =>
      refine Or.inr ?_
      rw [e, hb]
      have := (hu.lt k hb).2
      intro hh
      cases hh
      omega
theorem off_nil (u : Value) : Off u (.slice none 0 0) := by
  cases h : u.ownBlock with
  | none => exact Or.inl h
  | some k => exact Or.inr (by rw [h]; intro e; cases e)
/-- The first of a row, and the rest. -/
theorem Row.take {w : World} {a : Option Addr} {l : List Int} (h : Row w a l) (k : Nat) : Row w a (l.take k) := by
  by_cases h0 : l.take k = []
  · exact Or.inl h0
  · have hp : 0 < (l.take k).length := List.length_pos_iff.2 h0
    rw [List.length_take] at hp
    obtain ⟨b, off, e, hb, hcs⟩ := h.at (k := 0) (by omega)
    refine Or.inr ⟨b, off, e, hb, fun j hj => ?_⟩
    rw [List.length_take] at hj
    rw [hcs j (by omega)]
    simp [List.getD_eq_getElem?_getD, show j < k by omega]
theorem Row.drop {w : World} {b off : Nat} {l : List Int} (h : Row w (some ⟨b, off, none⟩) l) (k : Nat) : Row w (some ⟨b, off + k, none⟩) (l.drop k) := by
  by_cases h0 : l.drop k = []
  · exact Or.inl h0
  · have hp : 0 < (l.drop k).length := List.length_pos_iff.2 h0
    rw [List.length_drop] at hp
    obtain ⟨b', off', e, hb, hcs⟩ := h.at (k := 0) (by omega)
    cases e
    refine Or.inr ⟨b, off + k, rfl, hb, fun j hj => ?_⟩
    rw [List.length_drop] at hj
    rw [Nat.add_assoc, hcs (k + j) (by omega)]
    simp [List.getD_eq_getElem?_getD]

end Go.Proofs.Ythkibjhhlcfceai

/-
  sound.sum of distances, sound.Distances of a few numbers: by their contracts.
-/
namespace Go.Proofs.Ythkibjhhlcfceai.Pls
open Go.RowKit
open Go.Proofs.Ythkibjhhlcfceai.Tre
set_option linter.unusedVariables false

set_option maxHeartbeats 400000 in
theorem sumL (a : Option Addr) (cap : Nat) (l : List Int) (w : World) (hl : l.length ≤ 32) (hi : In 4000 l) (hr : Row w a l) :
    Calls Try.prog 77 #[.slice a l.length cap, .func (.func 47) #[] #[]] w fun e w' => e = .returned (.int .i64 (loud l : Int)) ∧ w = w' := by
  go_enter Try.func77, Try.ntmps77
  go_wp2
  go_loop [5, 10] (fun t i => ∃ k t' : Nat, k ≤ l.length ∧ i = .int .i64 k ∧ t = .int .i64 t' ∧ Hid (t' = loud (l.take k)) ∧ t' ≤ 128000) (fun _ i => l.length - (intOf i).toNat)
  case atStart => exact ⟨0, 0, Nat.zero_le _, rfl, rfl, rfl, by omega⟩
  case round =>
    obtain ⟨k, t, hk, rfl, rfl, HT, ht⟩ := hrel
    by_cases hlt : k < l.length
    · obtain ⟨b, off, rfl, hb, hcs⟩ := hr.at hlt
      have hck := hcs k hlt
      clear hcs
      obtain ⟨e1, e2⟩ := hi _ (List.getElem_mem hlt)
      have HS : Hid (t + l[k].natAbs = loud (l.take (k + 1))) := hide (by rw [loud_step hlt, unhide HT])
      have HB : Hid (t + l[k].natAbs ≤ 128000) := hide (by
        have h1 := loud_in (b := 4000) (hi.take (k + 1))
        rw [← unhide HS] at h1
        have h2 := List.length_take_le (k + 1) l
        omega)
      have hn : l[k].natAbs ≤ 4000 := by omega
      go_wp2_with fail
      refine (dist l[k] w (by omega) (by omega)).mono ?_
      obtain ⟨d, hd⟩ : ∃ d, l[k].natAbs = d := ⟨_, rfl⟩
      rw [hd] at HS HB hn ⊢
      clear hd
      rintro e w' ⟨rfl, rfl⟩
      go_wp2
      go_round
      case rel => exact ⟨k + 1, t + d, by omega, by go_num, by go_num, HS, unhide HB⟩
      case measure => simp [intOf]; omega
    · go_wp2
      go_ret
      exact ⟨ret_int (by rw [unhide HT, List.take_of_length_le (by omega)]), rfl⟩

theorem dists (a : Option Addr) (cap : Nat) (l : List Int) (w : World) (hl : l.length ≤ 32) (hi : In 4000 l) (hr : Row w a l) :
    Calls Try.prog 51 #[.slice a l.length cap] w fun e w' => e = .returned (.int .i64 (loud l : Int)) ∧ w = w' := by
  go_enter Try.func51, Try.ntmps51
  go_wp2_with fail
  refine (sumL a cap l w hl hi hr).mono ?_
  rintro e w2 ⟨rfl, rfl⟩
  go_wp2
  go_ret
  exact ⟨rfl, rfl⟩

end Go.Proofs.Ythkibjhhlcfceai.Pls

/-
  sound.Loud of a few numbers: by their contracts.
-/
namespace Go.Proofs.Ythkibjhhlcfceai.Pls
open Go.RowKit
open Go.Proofs.Ythkibjhhlcfceai.Tre Go.Proofs.Ythkibjhhlcfceai.Lap
set_option linter.unusedVariables false

theorem loud_ok (a : Option Addr) (cap : Nat) (l : List Int) (w : World) (hl : l.length ≤ 32) (hi : In 1000 l) (hr : Row w a l) :
    Calls Try.prog 36 #[.slice a l.length cap] w fun e w' => e = .returned (.tuple #[.int .i64 (loud l : Int), .nilIface]) ∧ Below w.heap.size w w' := by
  go_enter Try.func36, Try.ntmps36
  go_wp2_with fail
  refine (snd_ok a cap l w hl hi hr).mono ?_
  rintro e w1 ⟨rfl, hb1⟩
  have hr1 := hr.below hb1
  go_wp2_with fail
  refine (dists a cap l w1 hl (hi.mono (by omega)) hr1).mono ?_
  rintro e w2 ⟨rfl, rfl⟩
  go_wp2
  go_ret2
  exact ⟨rfl, hb1⟩

end Go.Proofs.Ythkibjhhlcfceai.Pls
