/-
  append, as a step of a region that draws its order.
-/
import Derived.Test.YtephagojpnfhcajGreatDoorhp03
import Derived.Deep.RegionLaw
import Derived.Deep.QuietTactic
import Derived.BigQuiet
import Derived.Test.YtephagojpnfhcajGreatDoorhp00
import Derived.Test.YtephagojpnfhcajGreatDoorhp01
namespace Go.Proofs.YtephagojpnfhcajGreatDoor
open Go.RowKit
set_option linter.unusedVariables false

theorem step_app {ops : Array Oper} {o : Oper} {a : Act} {K : Act → World → Prop} {Q : Exit → Act → World → Prop} {E : Prop} (w : World) (hgd : o.guard = none) (s x : Operand)
    (ho : o.op = .call { callee := .builtin .append, args := #[s, x], argTypes := #[22, 22] }) (base : Nat) (v : Value) (l m : List Int) (ad : Option Addr) (cap : Nat) (hs : a.eval s = v) (hv : Has w base v l)
    (hx : a.eval x = .slice ad m.length cap) (hr : Row w ad m) (hlen : l.length + m.length ≤ 1000000) (hbase : base ≤ w.heap.size)
    (h : ∀ v' w', Has w' base v' (l ++ m) → w.grownBy w' v.ownBlock → (v'.ownBlock = v.ownBlock ∨ v'.ownBlock = some w.heap.size) → K (a.put o.dst v') w') :
    if Region.wanted o (yielded ops a.tmps) = true then Oper.wp Tryz.prog o a w K Q else E := by
  have hw : Region.wanted o (yielded ops a.tmps) = true := by simp [Region.wanted, hgd]
  rw [if_pos hw]
  obtain ⟨v', w', hrun, h2, h3, h4, _⟩ := run_app w base v l m o.type hv ad cap hr hlen hbase
  unfold Oper.wp
  simp [execOp, ho, resolve, invoke, builtin, hs, hx, hrun, Result.andThen]
  exact h v' w' h2 h3 h4

/-- Two slices do not lie in one row. -/
def Off (u v : Value) : Prop := u.ownBlock = none ∨ u.ownBlock ≠ v.ownBlock
theorem Off.symm {u v : Value} (h : Off u v) : Off v u := by
  unfold Off at *
  rcases h with h | h
  · by_cases hv : v.ownBlock = none
    · exact Or.inl hv
    · exact Or.inr (by rw [h]; exact hv)
  · exact Or.inr (Ne.symm h)

/-- 'x = append(x, ..)', x in no box: all that a walk owes behind it. -/
theorem stepped_plain {W w1 : World} {n₀ : Nat} {v v' : Value} {l l' : List Int} {tmp : Obj} (h : Has W n₀ v l) (hn : n₀ ≤ W.heap.size)
    (h' : Has w1 n₀ v' l') (hg : (W.alloc tmp).grownBy w1 v.ownBlock) (hat : v'.ownBlock = v.ownBlock ∨ v'.ownBlock = some (W.alloc tmp).heap.size) :
    Below n₀ W w1 ∧ (∀ u m, Has W n₀ u m → Off u v → Has w1 n₀ u m ∧ Off u v') := by
  refine ⟨((Below.refl n₀ W).alloc hn tmp).grown hg (by simp; omega) (fun j e => (h.lt j e).1), fun u m hu ha => ⟨(hu.alloc tmp).kept hg ha, ?_⟩⟩
  rcases hat with e | e
  · unfold Off; rw [e]; exact ha
  · cases hb : u.ownBlock with
    | none => exact Or.inl hb
    | some k =>
      refine Or.inr ?_
      rw [e, hb]
      have := (hu.lt k hb).2
      intro hh
      cases hh
      simp at this
      omega

end Go.Proofs.YtephagojpnfhcajGreatDoor

/-
  A slice of integers of this call's own: one number is read, or set.
-/
namespace Go.Proofs.YtephagojpnfhcajGreatDoor
open Go.RowKit
open Go.Proofs.YtephagojpnfhcajGreatDoor.Tre
set_option linter.unusedVariables false

/-- .. where it is none, and where it is one. -/
theorem Has.one {w : World} {base : Nat} {v : Value} {l : List Int} (h : Has w base v l) (h0 : 0 < l.length) : ∃ g c, v = .slice (some ⟨g, 0, none⟩) l.length c ∧ base ≤ g ∧ g < w.heap.size ∧ l.length ≤ c ∧ c ≤ 9223372036854775807 := by
  rcases h.2 with ⟨_, e⟩ | ⟨g, cap, cur, hv, hb, hg, hn, hm, _⟩
  · omega
  · exact ⟨g, cap, hv, hb, (Array.getElem?_eq_some_iff.1 hg).1, hn, by simpa [maxLen] using hm⟩
theorem Has.get {w : World} {base g n c : Nat} {l : List Int} (h : Has w base (.slice (some ⟨g, 0, none⟩) n c) l) {j : Nat} (hj : j < l.length) : w.cell? ⟨g, j, none⟩ = some (.int .i64 (at0 l j)) := by
  obtain ⟨a, cap, e, hr⟩ := h.row
  obtain ⟨b, off, e', hb, hcs⟩ := hr.at hj
  subst e'
  obtain ⟨e1, e2, e3⟩ := Value.slice.inj e
  cases e1
  have := hcs j hj
  rw [Nat.zero_add] at this
  rw [this, List.getD_eq_getElem?_getD]; rfl
theorem Has.put {w : World} {base g n c : Nat} {l : List Int} (h : Has w base (.slice (some ⟨g, 0, none⟩) n c) l) (j : Nat) (x : Int) :
    Has (w.setCell ⟨g, j, none⟩ (.int .i64 x)) base (.slice (some ⟨g, 0, none⟩) n c) (l.set j x) ∧ w.grownBy (w.setCell ⟨g, j, none⟩ (.int .i64 x)) (some g) := by
  obtain ⟨a, cap, e, _⟩ := h.row
  obtain ⟨e1, e2, e3⟩ := Value.slice.inj e
  subst e2
  have := World.ownsRow.stored h j (.int .i64 x)
  rw [← List.map_set] at this
  refine ⟨?_, this.2⟩
  unfold Has
  rw [List.length_set]
  exact this.1
theorem Has.frozen {w : World} {base g n c : Nat} {l : List Int} (h : Has w base (.slice (some ⟨g, 0, none⟩) n c) l) (j : Nat) : w.frozen? ⟨g, j, none⟩ = false := by
  obtain ⟨a, cap, e, _⟩ := h.row
  obtain ⟨e1, e2, e3⟩ := Value.slice.inj e
  subst e2
  exact World.ownsRow.frozenAt h j
/-- A number of one list is set: the other list stays. -/
theorem Has.beside {w w' : World} {base : Nat} {u v : Value} {m : List Int} {g n c : Nat} (hu : Has w base u m) (hv : v = .slice (some ⟨g, 0, none⟩) n c) (ho : Off u v) (hg : w.grownBy w' (some g)) : Has w' base u m := by
  refine hu.kept hg ?_
  unfold Off at ho
  rw [hv] at ho
  exact ho
theorem Has.inRow {w : World} {base : Nat} {v : Value} {l : List Int} (h : Has w base v l) {a : Option Addr} {n c : Nat} (e : v = .slice a n c) : n = l.length ∧ Row w a l := by
  obtain ⟨a', cap, e', hr⟩ := h.row
  rw [e] at e'
  obtain ⟨e1, e2, e3⟩ := Value.slice.inj e'
  subst e1 e2
  exact ⟨rfl, hr⟩

/-- One slice grows: another one stays, and does not lie in its row. -/
theorem apart {W w1 : World} {n₀ : Nat} {u v v' : Value} {m : List Int} (hu : Has W n₀ u m) (hg : W.grownBy w1 v.ownBlock) (hat : v'.ownBlock = v.ownBlock ∨ v'.ownBlock = some W.heap.size) (ho : Off u v) : Has w1 n₀ u m ∧ Off u v' := by
  refine ⟨hu.kept hg ho, ?_⟩
  rcases hat with e | e
  · unfold Off; rw [e]; exact ho
  · cases hb : u.ownBlock with
    | none => exact Or.inl hb
    | some k =>
      refine Or.inr ?_
      rw [e, hb]
      have := (hu.lt k hb).2
      intro hh
      cases hh
      omega
theorem off_nil (u : Value) : Off u (.slice none 0 0) := by
  cases h : u.ownBlock with
  | none => exact Or.inl h
  | some k => exact Or.inr (by rw [h]; intro e; cases e)
/-- The first of a row, and the rest. -/
theorem Row.take {w : World} {a : Option Addr} {l : List Int} (h : Row w a l) (k : Nat) : Row w a (l.take k) := by
  by_cases h0 : l.take k = []
  · exact Or.inl h0
  · have hp : 0 < (l.take k).length := List.length_pos_iff.2 h0
    rw [List.length_take] at hp
    obtain ⟨b, off, e, hb, hcs⟩ := h.at (k := 0) (by omega)
    refine Or.inr ⟨b, off, e, hb, fun j hj => ?_⟩
    rw [List.length_take] at hj
    rw [hcs j (by omega)]
    simp [List.getD_eq_getElem?_getD, show j < k by omega]
theorem Row.drop {w : World} {b off : Nat} {l : List Int} (h : Row w (some ⟨b, off, none⟩) l) (k : Nat) : Row w (some ⟨b, off + k, none⟩) (l.drop k) := by
  by_cases h0 : l.drop k = []
  · exact Or.inl h0
  · have hp : 0 < (l.drop k).length := List.length_pos_iff.2 h0
    rw [List.length_drop] at hp
    obtain ⟨b', off', e, hb, hcs⟩ := h.at (k := 0) (by omega)
    cases e
    refine Or.inr ⟨b, off + k, rfl, hb, fun j hj => ?_⟩
    rw [List.length_drop] at hj
    rw [Nat.add_assoc, hcs (k + j) (by omega)]
    simp [List.getD_eq_getElem?_getD]

end Go.Proofs.YtephagojpnfhcajGreatDoor

/-
  What keeps all blocks but those of a set.
-/
namespace Go.Proofs.YtephagojpnfhcajGreatDoor
open Go.RowKit
open Go.Proofs.YtephagojpnfhcajGreatDoor.Tre
set_option linter.unusedVariables false

/-- All blocks but those of a set are as they were. -/
structure Keeps (Q : Nat → Prop) (W W' : World) : Prop where
  os : W'.os = W.os
  tape : W'.tape = W.tape
  output : W'.output = W.output
  size : W.heap.size ≤ W'.heap.size
  block : ∀ k, k < W.heap.size → ¬ Q k → W'.heap[k]? = W.heap[k]?
theorem Keeps.of_below {Q : Nat → Prop} {W W' : World} (h : Below W.heap.size W W') : Keeps Q W W' := ⟨h.os, h.tape, h.output, h.size, fun k hk _ => h.block k hk⟩
theorem Keeps.below {Q : Nat → Prop} {n : Nat} {W W' : World} (h : Keeps Q W W') (hn : n ≤ W.heap.size) (hq : ∀ k, Q k → n ≤ k) : Below n W W' := ⟨h.os, h.tape, h.output, h.size, fun k hk => h.block k (by omega) (fun hQ => by have := hq k hQ; omega)⟩
theorem Keeps.has {Q : Nat → Prop} {base : Nat} {W W' : World} {v : Value} {l : List Int} (h : Keeps Q W W') (hv : Has W base v l) (hq : ∀ k, v.ownBlock = some k → ¬ Q k) : Has W' base v l := by
  refine ⟨hv.1, ?_⟩
  rcases hv.2 with hn | ⟨g, cap, cur, rfl, hbg, hgg, rest⟩
  · exact .inl hn
  · exact .inr ⟨g, cap, cur, rfl, hbg, (h.block g (Array.getElem?_eq_some_iff.1 hgg).1 (hq g rfl)).trans hgg, rest⟩

end Go.Proofs.YtephagojpnfhcajGreatDoor

/-
  A value that is a slice of these integers.
-/
namespace Go.Proofs.YtephagojpnfhcajGreatDoor
open Go.RowKit
open Go.Proofs.YtephagojpnfhcajGreatDoor.Tre
set_option linter.unusedVariables false

/-- A slice of these integers. -/
def Sli (w : World) (V : Value) (l : List Int) : Prop := ∃ A C, V = .slice A l.length C ∧ (A = none → C = 0) ∧ l.length ≤ C ∧ C ≤ 9223372036854775807 ∧ Row w A l

theorem Sli.below {w w' : World} {V : Value} {l : List Int} (h : Sli w V l) (hb : Below w.heap.size w w') : Sli w' V l := by
  obtain ⟨A, C, h1, h2, h3, h4, h5⟩ := h
  exact ⟨A, C, h1, h2, h3, h4, h5.below hb⟩
theorem Has.sli {w : World} {base : Nat} {v : Value} {l : List Int} (h : Has w base v l) : Sli w v l := by
  have h' := h
  obtain ⟨a, cap, rfl, hr⟩ := h.row
  rcases h'.2 with ⟨e, e0⟩ | ⟨g, c, cur, e, hb, hg, hn, hm, _⟩
  · obtain ⟨e1, e2, e3⟩ := Value.slice.inj e
    exact ⟨a, cap, rfl, fun _ => e3, by omega, by omega, hr⟩
  · obtain ⟨e1, e2, e3⟩ := Value.slice.inj e
    subst e1 e3
    exact ⟨_, _, rfl, fun h => (by cases h), hn, by simpa [maxLen] using hm, hr⟩
theorem cel_of {w : World} {p : Addr} {V : Value} {l : List Int} (h : w.cell? p = some V) (hs : Sli w V l) : Cel w p l := by
  obtain ⟨A, C, h1, h2, h3, h4, h5⟩ := hs
  exact ⟨A, C, by rw [h, h1], h2, h3, h4, h5⟩

end Go.Proofs.YtephagojpnfhcajGreatDoor

/-
  An error as a value that may be none; what a slice of this call's own has room for.
-/
namespace Go.Proofs.YtephagojpnfhcajGreatDoor.Ev
open Go.RowKit
open Go.Proofs.YtephagojpnfhcajGreatDoor.Tre
set_option linter.unusedVariables false

/-- An error as a value. -/
def errV (e : Int) : Value := if e = 0 then .nilIface else .iface 63 (.int .i64 e)
theorem errV_zero : errV 0 = .nilIface := rfl
theorem errV_ne {e : Int} (h : e ≠ 0) : errV e = .iface 63 (.int .i64 e) := by simp [errV, h]
/-- .. as a slice and a row, with its room. -/
theorem has_room {w : World} {base : Nat} {v : Value} {l : List Int} (h : Has w base v l) : ∃ a cap, v = .slice a l.length cap ∧ Row w a l ∧ l.length ≤ cap ∧ cap ≤ 9223372036854775807 := by
  obtain ⟨a, cap, e, hr⟩ := h.row
  rcases h.2 with ⟨h1, h2⟩ | ⟨g, c, cur, hv, hb, hg, hn, hm, _⟩
  · rw [h1] at e
    obtain ⟨e1, e2, e3⟩ := Value.slice.inj e
    exact ⟨a, cap, by rw [h1]; exact e, hr, by omega, by omega⟩
  · rw [hv] at e
    obtain ⟨e1, e2, e3⟩ := Value.slice.inj e
    subst e3
    exact ⟨a, c, by rw [hv]; exact e, hr, hn, by simpa [maxLen] using hm⟩
theorem guard_err (op : BinOp) (t : TypeId) (x : Operand) (E : Int) (w : World) : (eqGuard op t x (Operand.const Value.nilIface) (errV E) Value.nilIface).run Tryz.prog w = .ok () w := by
  unfold eqGuard errV
  by_cases h : E = 0
  · rw [if_pos h]
    cases op <;> simp [Sem.run_pure]
  · rw [if_neg h]
    cases op <;> simp [Sem.run_pure]
theorem neq_err (E : Int) (w : World) : (binOp BinOp.neq 25 (errV E) Value.nilIface).run Tryz.prog w = .ok (.bool (decide (E ≠ 0))) w := by
  unfold errV
  by_cases h : E = 0
  · rw [if_pos h]
    simp [h, go_sem]
  · rw [if_neg h]
    simp [h, go_sem]
theorem eql_err (E : Int) (w : World) : (binOp BinOp.eql 25 (errV E) Value.nilIface).run Tryz.prog w = .ok (.bool (decide (E = 0))) w := by
  unfold errV
  by_cases h : E = 0
  · rw [if_pos h]
    simp [h, go_sem]
  · rw [if_neg h]
    simp [h, go_sem]

end Go.Proofs.YtephagojpnfhcajGreatDoor.Ev

/-
  hornref1.Bits: by its contract.
-/
namespace Go.Proofs.YtephagojpnfhcajGreatDoor.Cnt
open Go.RowKit
set_option linter.unusedVariables false

set_option maxHeartbeats 4000000 in
theorem refBits (m : Int) (hm : m ≤ 20256) (w : World) :
    Calls Tryz.prog 90 #[.int .i64 m] w fun e w' => ∃ b : Nat, e = .returned (.int .i64 b) ∧ Least m b ∧ w = w' := by
  go_enter Tryz.func90, Tryz.ntmps90
  go_wp2
  go_loop [3, 4] (fun i p => ∃ (j : Nat) (P : Int), j ≤ 15 ∧ i = .int .i64 j ∧ p = .int .i64 P ∧ Hid (P = 2 ^ j) ∧ Hid (∀ i, i < j → (2 : Int) ^ i < m)) (fun i _ => 15 - (intOf i).toNat)
  case atStart => exact ⟨0, 1, by omega, rfl, rfl, rfl, fun i hi => absurd hi (by omega)⟩
  case round =>
    obtain ⟨j, P, hj, rfl, rfl, HP, H⟩ := hrel
    obtain ⟨p0, p1⟩ := pow_in j (by omega)
    rw [← unhide HP] at p0 p1
    by_cases hlt : P < m
    · have hj2 : j < 15 := by
        rcases Nat.lt_or_ge j 15 with h | h
        · exact h
        · obtain rfl : j = 15 := by omega
          have := unhide HP
          omega
      have H2 : Hid (∀ i, i < j + 1 → (2 : Int) ^ i < m) := hide (fun i hi => by
        rcases Nat.lt_or_ge i j with h | h
        · exact unhide H i h
        · obtain rfl : i = j := by omega
          rw [← unhide HP]; exact hlt)
      have H3 : Hid (2 * P = 2 ^ (j + 1)) := hide (by rw [unhide HP, Int.pow_succ]; omega)
      go_wp2
      go_round
      case rel => exact ⟨j + 1, 2 * P, by omega, by go_num, by go_num, H3, H2⟩
      case measure => simp [intOf]; omega
    · have hle : Hid (m ≤ (2 : Int) ^ j) := hide (by rw [← unhide HP]; omega)
      go_wp2
      go_ret
      exact ⟨j, rfl, ⟨unhide hle, unhide H⟩, rfl⟩

end Go.Proofs.YtephagojpnfhcajGreatDoor.Cnt

/-
  make of integers: zeros of this call's own.
-/
namespace Go.Proofs.YtephagojpnfhcajGreatDoor
open Go.RowKit
open Go.Proofs.YtephagojpnfhcajGreatDoor.Tre
set_option linter.unusedVariables false

theorem upto_zeros (n : Nat) : upto (fun _ => 0) n = List.replicate n 0 := by
  refine eq_of_at (by rw [upto_length, List.length_replicate]) fun i hi => ?_
  rw [upto_length] at hi
  rw [upto_at _ hi]
  simp [at0, hi]

theorem wpList_mk {ops : Array Oper} {rest : List Oper} {o : Oper} {a : Act} {Q : Exit → Act → World → Prop} (w : World) (hgd : o.guard = none) (s : Operand)
    (ho : o.op = .makeSlice 22 s s) (n : Nat) (hs : a.eval s = .int .i64 n) (hn : n ≤ 1000000)
    (h : ∀ w', Has w' w.heap.size (.slice (some ⟨w.heap.size, 0, none⟩) n n) (upto (fun _ => 0) n) → Below w.heap.size w w' → wpList Tryz.prog ops Q rest (a.put o.dst (.slice (some ⟨w.heap.size, 0, none⟩) n n)) w') :
    wpList Tryz.prog ops Q (o :: rest) a w := by
  obtain ⟨i0, hi, hz0, hz1, hz2⟩ := info_parts info_int
  refine wpList_make_full w hgd s s 22 ho w.heap.size 3 i0 (.int .i64 0) 1 Tryz.underlying22 hi hz0 hz1 _ _ _ _ n hs hs rfl rfl (by rw [hz2]; omega) (by unfold maxLen; omega) (Nat.le_refl _) ?_
  intro w2 hown hgrow
  rw [Nat.mul_one] at hown
  refine h w2 ?_ ((Below.refl _ _).grown hgrow (Nat.le_refl _) (by intro k hk; cases hk))
  unfold Has
  rw [upto_zeros, List.map_replicate, List.length_replicate, ← toList_madeCells_one]
  exact hown

end Go.Proofs.YtephagojpnfhcajGreatDoor

/-
  A list of this call's own of which the first are already new: one more is set.
-/
namespace Go.Proofs.YtephagojpnfhcajGreatDoor.Mid
open Go.RowKit
open Go.Proofs.YtephagojpnfhcajGreatDoor.Tre Go.Proofs.YtephagojpnfhcajGreatDoor.Lap
set_option linter.unusedVariables false

theorem row_cell {w : World} {a : Option Addr} {l : List Int} (h : Row w a l) (h0 : 0 < l.length) : ∃ b off, a = some ⟨b, off, none⟩ ∧ b < w.heap.size ∧ ∀ j, j < l.length → w.cell? ⟨b, off + j, none⟩ = some (.int .i64 (at0 l j)) := by
  obtain ⟨b, off, e, hb, hc⟩ := h.at h0
  exact ⟨b, off, e, hb, fun j hj => (hc j hj).trans (by rw [List.getD_eq_getElem?_getD]; rfl)⟩

theorem put_mid {wr : World} {base g n c j : Nat} {f f0 : Nat → Int} {X : Int} (h : Has wr base (.slice (some ⟨g, 0, none⟩) n c) (mid f f0 n j)) (hj : j < n) (hx : f j = X) (q : Nat) :
    Has ((wr.drewN q).setCell ⟨g, j, none⟩ (.int .i64 X)) base (.slice (some ⟨g, 0, none⟩) n c) (mid f f0 n (j + 1)) ∧
      (∀ u m, Has wr base u m → Off u (.slice (some ⟨g, 0, none⟩) n c) → Has ((wr.drewN q).setCell ⟨g, j, none⟩ (.int .i64 X)) base u m) ∧
      (∀ w, Below base w wr → base ≤ g → Below base w ((wr.drewN q).setCell ⟨g, j, none⟩ (.int .i64 X))) := by
  have h1 : Has (wr.drewN q) base (.slice (some ⟨g, 0, none⟩) n c) (mid f f0 n j) := h
  obtain ⟨h2, h3⟩ := h1.put j X
  refine ⟨?_, fun u m hu ho => ?_, fun w hb hg => ?_⟩
  · rw [← mid_set f f0 hj, hx]; exact h2
  · exact Has.beside (show Has (wr.drewN q) base u m from hu) rfl ho h3
  · exact Below.setCell (w := wr.drewN q) (p := ⟨g, j, none⟩) (hb.trans ⟨rfl, rfl, rfl, Nat.le_refl _, fun _ _ => rfl⟩) hg _

end Go.Proofs.YtephagojpnfhcajGreatDoor.Mid

/-
  hornref1's Far, Loud, Pulses: by their contracts.
-/
namespace Go.Proofs.YtephagojpnfhcajGreatDoor.Pls
open Go.RowKit
open Go.Proofs.YtephagojpnfhcajGreatDoor.Tre Go.Proofs.YtephagojpnfhcajGreatDoor.Mid
set_option linter.unusedVariables false

theorem refFar (n : Int) (w : World) (h0 : -1000000 ≤ n) (h1 : n ≤ 1000000) :
    Calls Tryz.prog 83 #[.int .i64 n] w fun e w' => e = .returned (.int .i64 (n.natAbs : Int)) ∧ w = w' := by
  by_cases h : n < 0
  · go_enter Tryz.func83, Tryz.ntmps83
    go_wp2
    go_ret
    exact ⟨ret_int (by omega), rfl⟩
  · go_enter Tryz.func83, Tryz.ntmps83
    go_wp2
    go_ret
    exact ⟨ret_int (by omega), rfl⟩

set_option maxHeartbeats 400000 in
theorem refLoudB (a : Option Addr) (cap : Nat) (l : List Int) (w : World) (hl : l.length ≤ 32) (hi : In 4000 l) (hr : Row w a l) :
    Calls Tryz.prog 126 #[.slice a l.length cap] w fun e w' => e = .returned (.int .i64 (loud l : Int)) ∧ w = w' := by
  go_enter Tryz.func126, Tryz.ntmps126
  go_wp2
  go_loop [3, 4] (fun t i => ∃ k t' : Nat, k ≤ l.length ∧ i = .int .i64 k ∧ t = .int .i64 t' ∧ Hid (t' = loud (l.take k)) ∧ t' ≤ 128000) (fun _ i => l.length - (intOf i).toNat)
  case atStart => exact ⟨0, 0, Nat.zero_le _, rfl, rfl, rfl, by omega⟩
  case round =>
    obtain ⟨k, t, hk, rfl, rfl, HT, ht⟩ := hrel
    by_cases hlt : k < l.length
    · obtain ⟨b, off, rfl, hb, hcs⟩ := hr.at hlt
      have hck := hcs k hlt
      clear hcs
      obtain ⟨e1, e2⟩ := hi _ (List.getElem_mem hlt)
      have HS : Hid (t + l[k].natAbs = loud (l.take (k + 1))) := hide (by rw [loud_step hlt, unhide HT])
      have HB : Hid (t + l[k].natAbs ≤ 128000) := hide (by
        have h1 := loud_in (b := 4000) (hi.take (k + 1))
        rw [← unhide HS] at h1
        have h2 := List.length_take_le (k + 1) l
        omega)
      have hn : l[k].natAbs ≤ 4000 := by omega
      go_wp2_with fail
      refine (refFar l[k] w (by omega) (by omega)).mono ?_
      obtain ⟨d, hd⟩ : ∃ d, l[k].natAbs = d := ⟨_, rfl⟩
      rw [hd] at HS HB hn ⊢
      clear hd
      rintro e w' ⟨rfl, rfl⟩
      go_wp2
      go_round
      case rel => exact ⟨k + 1, t + d, by omega, by go_num, by go_num, HS, unhide HB⟩
      case measure => simp [intOf]; omega
    · go_wp2
      go_ret
      exact ⟨ret_int (by rw [unhide HT, List.take_of_length_le (by omega)]), rfl⟩
theorem refLoud (a : Option Addr) (cap : Nat) (l : List Int) (w : World) (hl : l.length ≤ 32) (hi : In 1000 l) (hr : Row w a l) :
    Calls Tryz.prog 126 #[.slice a l.length cap] w fun e w' => e = .returned (.int .i64 (loud l : Int)) ∧ w = w' := refLoudB a cap l w hl (hi.mono (by omega)) hr

theorem refPulses_ok (a : Option Addr) (cap : Nat) (l : List Int) (w : World) (hr : Row w a l) (h : Hid (fault l = 0)) :
    Calls Tryz.prog 82 #[.slice a l.length cap] w fun e w' => e = .returned (.tuple #[.int .i64 (loud l : Int), .int .i64 0]) ∧ w = w' := by
  obtain ⟨h1, h2, h3⟩ := fault_ok (unhide h)
  have HA := hide (any_of_in h2)
  have hL := hide (refLoud a cap l w (by omega) (h2.mono (by omega)) hr)
  obtain ⟨k, hk⟩ : ∃ k, loud l = k := ⟨_, rfl⟩
  rw [hk] at hL h3 ⊢
  clear hk
  go_enter Tryz.func82, Tryz.ntmps82
  go_wp2_with fail
  refine (refAll 8 a cap l w (by omega) (by omega) (by omega) hr).mono ?_
  rw [unhide HA]
  rintro e w1 ⟨rfl, rfl⟩
  go_wp2_with fail
  refine (unhide hL).mono ?_
  rintro e w2 ⟨rfl, rfl⟩
  go_wp2
  go_ret2
  exact ⟨rfl, rfl⟩

theorem refPulses_no (a : Option Addr) (cap : Nat) (l : List Int) (w : World) (hl : l.length ≤ 9223372036854775807) (hr : Row w a l) (h : Hid (fault l ≠ 0)) :
    Calls Tryz.prog 82 #[.slice a l.length cap] w fun e w' => e = .returned (.tuple #[.int .i64 0, .int .i64 (fault l)]) ∧ w = w' := by
  by_cases h1 : 6 < l.length
  · have hv : fault l = 4 := by unfold fault; rw [if_pos h1]
    rw [hv]
    clear hv h
    go_enter Tryz.func82, Tryz.ntmps82
    go_wp2
    go_ret2
    exact ⟨rfl, rfl⟩
  · cases hany : l.any (out 8)
    · have h2 : In 8 l := in_of_any hany
      have hk : 8 < loud l := by
        rcases Nat.lt_or_ge 8 (loud l) with h' | h'
        · exact h'
        · exact absurd (fault_none (by omega) h2 h') (unhide h)
      have hv : fault l = 4 := by unfold fault; rw [if_neg h1, hany, if_neg (by simp), if_pos hk]
      rw [hv]
      have HA := hide hany
      have hle := loud_in (b := 8) h2
      have hL := hide (refLoud a cap l w (by omega) (h2.mono (by omega)) hr)
      have hl6 : loud l ≤ 48 := by omega
      obtain ⟨k, hk'⟩ : ∃ k, loud l = k := ⟨_, rfl⟩
      rw [hk'] at hL hk hl6
      clear hv h hany hk' hle h2
      go_enter Tryz.func82, Tryz.ntmps82
      go_wp2_with fail
      refine (refAll 8 a cap l w (by omega) (by omega) (by omega) hr).mono ?_
      rw [unhide HA]
      rintro e w1 ⟨rfl, rfl⟩
      go_wp2_with fail
      refine (unhide hL).mono ?_
      rintro e w2 ⟨rfl, rfl⟩
      go_wp2
      go_ret2
      exact ⟨rfl, rfl⟩
    · have hv : fault l = 1 := by unfold fault; rw [if_neg h1, hany, if_pos rfl]
      rw [hv]
      have HA := hide hany
      clear hv h hany
      go_enter Tryz.func82, Tryz.ntmps82
      go_wp2_with fail
      refine (refAll 8 a cap l w (by omega) (by omega) (by omega) hr).mono ?_
      rw [unhide HA]
      rintro e w1 ⟨rfl, rfl⟩
      go_wp2
      go_ret2
      exact ⟨rfl, rfl⟩

end Go.Proofs.YtephagojpnfhcajGreatDoor.Pls

/-
  hornref1.Bands: by its contract.
-/
namespace Go.Proofs.YtephagojpnfhcajGreatDoor.Bnd
open Go.RowKit
open Go.Proofs.YtephagojpnfhcajGreatDoor.Tre
set_option linter.unusedVariables false

theorem cell_band {w : World} {a : Option Addr} {l : List Int} (h : Row w a l) (h0 : 0 < l.length) : ∃ b off, a = some ⟨b, off, none⟩ ∧ b < w.heap.size ∧ ∀ j, j < l.length → w.cell? ⟨b, off + j, none⟩ = some (.int .i64 (at0 l j)) := by
  obtain ⟨b, off, e, hb, hc⟩ := h.at h0
  exact ⟨b, off, e, hb, fun j hj => (hc j hj).trans (by rw [List.getD_eq_getElem?_getD]; rfl)⟩
theorem same_below {w w' : World} (h : w' = w) : Below w.heap.size w w' := by rw [h]; exact Below.refl _ _

theorem bf_bad {s : List Int} {j : Nat} (h0 : s.length ≠ 0) (h8 : ¬ 8 < s.length) (hj : j < s.length) (hb : at0 s j < 1 ∨ 6 < at0 s j) : bf s = 1 := by
  have h : s.any bad = true := List.any_eq_true.2 ⟨s[j], List.getElem_mem hj, by rw [at_get hj] at hb; simp [bad]; omega⟩
  simp [bf, h0, h8, h]
/-- What Bands tells. -/
def told (s : List Int) : Ending := .returned (.tuple #[.int .i64 (if bf s = 0 then (total s : Int) else 0), .int .i64 (bf s)])

set_option maxHeartbeats 2000000 in
theorem refBands (a : Option Addr) (cap : Nat) (s : List Int) (w : World) (hl : s.length ≤ 9223372036854775807) (hr : Row w a s) :
    Calls Tryz.prog 44 #[.slice a s.length cap] w fun e w' => e = told s ∧ w' = w := by
  by_cases h0 : s.length = 0
  · have hv : told s = .returned (.tuple #[.int .i64 0, .int .i64 5]) := by simp [told, bf, h0]
    have hz : ((s.length : Int) == 0) = true := by simp [h0]
    rw [hv]
    clear hv
    go_enter Tryz.func44, Tryz.ntmps44
    go_wp2
    go_ret2
    exact ⟨rfl, rfl⟩
  · have hz : ((s.length : Int) == 0) = false := by rw [beq_eq_false_iff_ne]; omega
    by_cases h8 : 8 < s.length
    · have hv : told s = .returned (.tuple #[.int .i64 0, .int .i64 4]) := by simp [told, bf, h0, h8]
      rw [hv]
      clear hv h0
      go_enter Tryz.func44, Tryz.ntmps44
      go_wp2
      go_ret2
      exact ⟨rfl, rfl⟩
    · have HB : Hid (∀ j, j < s.length → (at0 s j < 1 ∨ 6 < at0 s j) → told s = .returned (.tuple #[.int .i64 0, .int .i64 1])) := hide (fun j hj hb => by
        have := bf_bad h0 h8 hj hb
        simp [told, this])
      have HE : Hid (Sizes s → told s = if 32 < total s then .returned (.tuple #[.int .i64 0, .int .i64 4]) else .returned (.tuple #[.int .i64 (total s : Int), .int .i64 0])) := hide (fun hsz => by
        have hany := any_bad_no hsz
        by_cases h : 32 < total s
        · rw [if_pos h]; simp [told, bf, h0, h8, hany, h]
        · rw [if_neg h]; simp [told, bf, h0, h8, hany, h])
      obtain ⟨N, hN⟩ : ∃ N, s.length = N := ⟨_, rfl⟩
      have HN := hide hN
      rw [hN] at hz h8 hl ⊢
      clear hN h0
      go_enter Tryz.func44, Tryz.ntmps44
      go_wp2
      go_loopw [4, 5] (fun t i wr => ∃ j T : Nat, j ≤ N ∧ i = .int .i64 j ∧ t = .int .i64 T ∧ Hid (T = pre s j) ∧ T ≤ 6 * j ∧ Hid (∀ r, r < j → 1 ≤ at0 s r ∧ at0 s r ≤ 6) ∧ w = wr) (fun _ i _ => N - (intOf i).toNat)
      case atStart => exact ⟨0, 0, Nat.zero_le _, rfl, rfl, rfl, by omega, hide (fun r hr => by omega), rfl⟩
      case round =>
        obtain ⟨j, T, hj, rfl, rfl, HT, hT, HS, rfl⟩ := hrel
        by_cases hlt : j < N
        · have hlt' : j < s.length := by rw [unhide HN]; exact hlt
          obtain ⟨b, off, rfl, hb, hc⟩ := cell_band hr (by omega)
          have c1 := hc j hlt'
          have HB2 := hide (unhide HB j hlt')
          have HP : Hid (pre s (j + 1) = T + (at0 s j).toNat) := hide (by rw [pre_succ, unhide HT])
          have HS2 : Hid (1 ≤ at0 s j → at0 s j ≤ 6 → ∀ r, r < j + 1 → 1 ≤ at0 s r ∧ at0 s r ≤ 6) := hide (fun h1 h2 r hr => by
            by_cases e : r = j
            · rw [e]; exact ⟨h1, h2⟩
            · exact unhide HS r (by omega))
          obtain ⟨X, hX⟩ : ∃ X, at0 s j = X := ⟨_, rfl⟩
          rw [hX] at c1 HB2 HP HS2
          clear hc hX hlt'
          by_cases hx1 : X < 1
          · have hd : decide (X < 1) = true := by simpa using hx1
            have hv := hide (unhide HB2 (Or.inl hx1))
            go_wp2
            go_ret2
            exact ⟨(unhide hv).symm, rfl⟩
          · have hd : decide (X < 1) = false := by simpa using hx1
            by_cases hx6 : 6 < X
            · have hd6 : decide (6 < X) = true := by simpa using hx6
              have hv := hide (unhide HB2 (Or.inr hx6))
              go_wp2
              go_ret2
              exact ⟨(unhide hv).symm, rfl⟩
            · have hd6 : decide (6 < X) = false := by simpa using hx6
              obtain ⟨Y, rfl⟩ : ∃ Y : Nat, X = Y := ⟨X.toNat, by omega⟩
              have hS3 := hide (unhide HS2 (by omega) (by omega))
              have hYY : ((Y : Int)).toNat = Y := by omega
              rw [hYY] at HP
              have h6 : T + Y ≤ 6 * (j + 1) := by omega
              have hj1 : j + 1 ≤ N := by omega
              clear hYY
              go_wp2
              go_roundw
              case rel => exact ⟨j + 1, T + Y, by omega, by go_num, by go_num, hide (unhide HP).symm, h6, hS3, by first | trivial | rfl⟩
              case measure => simp [intOf]; omega
        · obtain rfl : j = N := by omega
          have HT3 : Hid (total s = T) := hide (by rw [unhide HT, ← unhide HN]; rfl)
          have ht := unhide HE (fun i hi => unhide HS i (by rw [unhide HN] at hi; exact hi))
          rw [unhide HT3] at ht
          by_cases h : 32 < T
          · rw [if_pos h] at ht
            have HE2 := hide ht
            clear ht
            go_wp2
            go_ret2
            exact ⟨(unhide HE2).symm, rfl⟩
          · rw [if_neg h] at ht
            have HE2 := hide ht
            clear ht
            go_wp2
            go_ret2
            exact ⟨(unhide HE2).symm, rfl⟩

theorem refBands_ok (a : Option Addr) (cap : Nat) (s : List Int) (w : World) (hl : s.length ≤ 9223372036854775807) (hr : Row w a s) (h : Hid (bf s = 0)) :
    Calls Tryz.prog 44 #[.slice a s.length cap] w fun e w' => e = .returned (.tuple #[.int .i64 (total s : Int), .int .i64 0]) ∧ Below w.heap.size w w' := by
  have := refBands a cap s w hl hr
  unfold told at this
  rw [if_pos (unhide h), unhide h] at this
  exact this.mono fun e w' ⟨he, hw⟩ => ⟨he, same_below hw⟩
theorem refBands_no (a : Option Addr) (cap : Nat) (s : List Int) (w : World) (hl : s.length ≤ 9223372036854775807) (hr : Row w a s) (h : Hid (bf s ≠ 0)) :
    Calls Tryz.prog 44 #[.slice a s.length cap] w fun e w' => e = .returned (.tuple #[.int .i64 0, .int .i64 (bf s)]) ∧ Below w.heap.size w w' := by
  have := refBands a cap s w hl hr
  unfold told at this
  rw [if_neg (unhide h)] at this
  exact this.mono fun e w' ⟨he, hw⟩ => ⟨he, same_below hw⟩

end Go.Proofs.YtephagojpnfhcajGreatDoor.Bnd

/-
  A row's numbers, each in its cell.
-/
namespace Go.Proofs.YtephagojpnfhcajGreatDoor.Bnd
open Go.RowKit
open Go.Proofs.YtephagojpnfhcajGreatDoor.Tre
set_option linter.unusedVariables false

theorem cell_at {w : World} {a : Option Addr} {l : List Int} (h : Row w a l) (h0 : 0 < l.length) : ∃ b off, a = some ⟨b, off, none⟩ ∧ b < w.heap.size ∧ ∀ j, j < l.length → w.cell? ⟨b, off + j, none⟩ = some (.int .i64 (at0 l j)) := by
  obtain ⟨b, off, e, hb, hc⟩ := h.at h0
  exact ⟨b, off, e, hb, fun j hj => (hc j hj).trans (by rw [List.getD_eq_getElem?_getD]; rfl)⟩

end Go.Proofs.YtephagojpnfhcajGreatDoor.Bnd

/-
  Words for the contracts of chapter 10: cells of a row, sums that no integer is too small for, the fault of counts.
-/
namespace Go.Proofs.YtephagojpnfhcajGreatDoor.Scl
open Go.RowKit
open Go.Proofs.YtephagojpnfhcajGreatDoor.Tre
set_option linter.unusedVariables false

theorem cell_at {w : World} {a : Option Addr} {l : List Int} (h : Row w a l) (h0 : 0 < l.length) : ∃ b off, a = some ⟨b, off, none⟩ ∧ b < w.heap.size ∧ ∀ j, j < l.length → w.cell? ⟨b, off + j, none⟩ = some (.int .i64 (at0 l j)) := by
  obtain ⟨b, off, e, hb, hc⟩ := h.at h0
  exact ⟨b, off, e, hb, fun j hj => (hc j hj).trans (by rw [List.getD_eq_getElem?_getD]; rfl)⟩

/-- Sums of the first ones that no integer is too small for. -/
def Small (l : List Int) : Prop := ∀ j, j ≤ l.length → -1000000000 ≤ pfx l j ∧ pfx l j ≤ 1000000000
theorem small_of {l : List Int} (h : ∀ i, i < l.length → 0 ≤ at0 l i ∧ at0 l i ≤ 1000000) (h40 : l.length ≤ 40) : Small l := fun j hj => by
  have h1 := pfx_nonneg (l := l) (fun i hi => (h i hi).1) hj
  have h2 := pfx_le (l := l) (b := 1000000) (fun i hi => (h i hi).2) hj
  omega

theorem cf_bad {c : List Int} {j : Nat} (h0 : c.length ≠ 0) (h40 : ¬ 40 < c.length) (hj : j < c.length) (hb : at0 c j < 0 ∨ 1000000 < at0 c j) : cf c = 1 := by
  have e : at0 c j = c[j] := by simp [at0, hj]
  have h : c.any wrong = true := List.any_eq_true.2 ⟨c[j], List.getElem_mem hj, by rw [e] at hb; simp [wrong]; omega⟩
  simp [cf, h0, h40, h]
theorem cf_sum {c : List Int} (h0 : c.length ≠ 0) (h40 : ¬ 40 < c.length) (h : ∀ i, i < c.length → 0 ≤ at0 c i ∧ at0 c i ≤ 1000000) : cf c = if tot c = 0 then 5 else 0 := by
  have hany : c.any wrong = false := by
    apply List.any_eq_false.2
    intro n hn
    obtain ⟨i, hi, rfl⟩ := List.getElem_of_mem hn
    have := h i hi
    have e : at0 c i = c[i] := by simp [at0, hi]
    rw [e] at this
    simp [wrong]; omega
  simp [cf, h0, h40, hany]

end Go.Proofs.YtephagojpnfhcajGreatDoor.Scl

/-
  hornref2.Number: by its contract.
-/
namespace Go.Proofs.YtephagojpnfhcajGreatDoor.Wid
open Go.RowKit
open Go.Proofs.YtephagojpnfhcajGreatDoor.Tre Go.Proofs.YtephagojpnfhcajGreatDoor.Scl Go.Proofs.YtephagojpnfhcajGreatDoor.Bnd
set_option linter.unusedVariables false

theorem any_drop {p : Int → Bool} {l : List Int} {k : Nat} (h : k < l.length) : (l.drop k).any p = (p (at0 l k) || (l.drop (k + 1)).any p) := by
  rw [List.drop_eq_getElem_cons h, List.any_cons]
  have e : at0 l k = l[k] := by simp [at0, h]
  rw [e]

theorem num_take {l : List Int} {k : Nat} (h : k < l.length) : num 0 (l.take (k + 1)) = 2 * num 0 (l.take k) + at0 l k := by
  have e : at0 l k = l[k] := by simp [at0, h]
  rw [List.take_succ_eq_append_getElem h, num_append, e]
  rfl
theorem num_small {l : List Int} (h : Bit l) (h20 : l.length ≤ 20) (k : Nat) : 0 ≤ num 0 (l.take k) ∧ num 0 (l.take k) ≤ 1048576 := by
  have h1 := num_in (bit_take h k)
  have h2 : (2 : Int) ^ (l.take k).length ≤ 2 ^ 20 := by
    have hle : (l.take k).length ≤ 20 := by rw [List.length_take]; omega
    exact_mod_cast Nat.pow_le_pow_right (by omega : 0 < 2) hle
  exact ⟨h1.1, by omega⟩

set_option maxRecDepth 100000 in
set_option maxHeartbeats 4000000 in
theorem refNumber (a : Option Addr) (cap : Nat) (l : List Int) (w : World) (hr : Row w a l) (h20 : l.length ≤ 20) (hb : Hid (Bit l)) :
    Calls Tryz.prog 87 #[.slice a l.length cap] w fun e w' => e = .returned (.int .i64 (num 0 l)) ∧ w' = w := by
  have HS := hide (num_small (unhide hb) h20)
  obtain ⟨N, hN⟩ : ∃ N, l.length = N := ⟨_, rfl⟩
  have HN := hide hN
  have HA : Hid (num 0 (l.take N) = num 0 l) := hide (by rw [← hN, List.take_length])
  obtain ⟨R, hR⟩ : ∃ R, num 0 l = R := ⟨_, rfl⟩
  rw [hR] at HA
  rw [hN] at h20
  rw [hN, hR]
  clear hN hR
  go_enter Tryz.func87, Tryz.ntmps87
  go_wp2
  go_loopw [3, 4] (fun n i wr => ∃ (k : Nat) (X : Int), k ≤ N ∧ i = .int .i64 k ∧ n = .int .i64 X ∧ Hid (num 0 (l.take k) = X) ∧ w = wr) (fun _ i _ => N - (intOf i).toNat)
  case atStart => exact ⟨0, 0, Nat.zero_le _, rfl, rfl, rfl, rfl⟩
  case round =>
    obtain ⟨k, X, hk, rfl, rfl, HX, rfl⟩ := hrel
    by_cases hkl : k < N
    · have hkl' : k < l.length := by rw [unhide HN]; exact hkl
      obtain ⟨b2, off2, rfl, _, hc2⟩ := Scl.cell_at hr (by omega)
      have e1 := hc2 k hkl'
      have hs := unhide HS k
      have hbt := bit_at (unhide hb) k
      have HX2 : Hid (num 0 (l.take (k + 1)) = 2 * X + at0 l k) := hide (by rw [num_take hkl', unhide HX])
      rw [unhide HX] at hs
      obtain ⟨B, hB⟩ : ∃ B, at0 l k = B := ⟨_, rfl⟩
      rw [hB] at e1 hbt HX2
      have w1 : IntKind.i64.wrap (2 * X) = 2 * X := IntWalk.i64_in _ (by omega)
      have w2 : IntKind.i64.wrap (2 * X + B) = 2 * X + B := IntWalk.i64_in _ (by omega)
      clear hB hc2 hkl' HX hbt hs
      go_wp2
      go_roundw
      case rel => exact ⟨k + 1, 2 * X + B, by omega, by go_num, by first | rfl | go_num, HX2, by first | trivial | rfl⟩
      case measure => simp [intOf]; omega
    · obtain rfl : k = N := by omega
      obtain rfl : X = R := (unhide HX).symm.trans (unhide HA)
      go_wp2
      go_ret
      exact ⟨rfl, rfl⟩

end Go.Proofs.YtephagojpnfhcajGreatDoor.Wid

/-
  hornref2.Put: by its contract.
-/
namespace Go.Proofs.YtephagojpnfhcajGreatDoor.Wid
open Go.RowKit
open Go.Proofs.YtephagojpnfhcajGreatDoor.Tre Go.Proofs.YtephagojpnfhcajGreatDoor.Scl Go.Proofs.YtephagojpnfhcajGreatDoor.Bnd
set_option linter.unusedVariables false

theorem drop_at {l : List Int} {k : Nat} (h : k < l.length) : l.drop k = at0 l k :: l.drop (k + 1) := by
  rw [List.drop_eq_getElem_cons h]
  simp [at0, h]
theorem pf_step {l ws : List Int} {j : Nat} (h1 : j < l.length) (h2 : j < ws.length) : pf (l.drop j) (ws.drop j) = if Fit (at0 l j) (at0 ws j) then pf (l.drop (j + 1)) (ws.drop (j + 1)) else 1 := by
  rw [drop_at h1, drop_at h2, pf]
theorem two_le {k : Nat} (h : k ≤ 20) : (1 : Int) ≤ 2 ^ k ∧ (2 : Int) ^ k ≤ 1048576 := by
  have key : ∀ k : Nat, k < 21 → (1 : Int) ≤ 2 ^ k ∧ (2 : Int) ^ k ≤ 1048576 := by decide +kernel
  exact key k (by omega)

/-- What is told of numbers and widths. -/
def PutPost (l ws : List Int) (w : World) (e : Ending) (w' : World) : Prop :=
  ((putF l ws ≠ 0 ∧ e = .returned (.tuple #[.slice none 0 0, .int .i64 (putF l ws)])) ∨ (putF l ws = 0 ∧ ∃ v, e = .returned (.tuple #[v, .int .i64 0]) ∧ Has w' w.heap.size v (puts l ws))) ∧ Below w.heap.size w w'

set_option maxRecDepth 100000 in
set_option maxHeartbeats 8000000 in
theorem refPut (a : Option Addr) (cap : Nat) (l : List Int) (b : Option Addr) (capb : Nat) (ws : List Int) (w : World) (hr : Row w a l) (hs : Row w b ws) (zl : l.length ≤ 1048576) (zs : ws.length ≤ 9223372036854775807) :
    Calls Tryz.prog 131 #[.slice a l.length cap, .slice b ws.length capb] w fun e w' => PutPost l ws w e w' := by
  by_cases hlen : l.length = ws.length
  · have HP1 : Hid (pf l ws = 1 → ∀ w', Below w.heap.size w w' → PutPost l ws w (.returned (.tuple #[.slice none 0 0, .int .i64 1])) w') := hide (fun h w' hb => by
      have e : putF l ws = 1 := by unfold putF; rw [if_pos hlen, if_neg (by omega)]
      exact ⟨Or.inl (by rw [e]; exact ⟨by omega, rfl⟩), hb⟩)
    have HP4 : Hid (pf l ws = 0 → 400 < (puts l ws).length → ∀ w', Below w.heap.size w w' → PutPost l ws w (.returned (.tuple #[.slice none 0 0, .int .i64 4])) w') := hide (fun h h4 w' hb => by
      have e : putF l ws = 4 := by unfold putF; rw [if_pos hlen, if_pos h, if_pos h4]
      exact ⟨Or.inl (by rw [e]; exact ⟨by omega, rfl⟩), hb⟩)
    have HP0 : Hid (pf l ws = 0 → ¬ 400 < (puts l ws).length → ∀ v w', Has w' w.heap.size v (puts l ws) → Below w.heap.size w w' → PutPost l ws w (.returned (.tuple #[v, .int .i64 0])) w') := hide (fun h h4 v w' hv hb => by
      have e : putF l ws = 0 := by unfold putF; rw [if_pos hlen, if_pos h, if_neg h4]
      exact ⟨Or.inr ⟨e, v, rfl, hv⟩, hb⟩)
    have HF0 : Hid (pf (l.drop 0) (ws.drop 0) = pf l ws) := hide (by rw [List.drop_zero, List.drop_zero])
    have HL0 : Hid ((putUp l ws 0).length ≤ 20 * 0) := hide (by rw [putUp_zero]; exact Nat.le_refl _)
    have HAL : Hid (putUp l ws ws.length = puts l ws) := hide (putUp_all l ws)
    obtain ⟨P, hP⟩ : ∃ P, pf l ws = P := ⟨_, rfl⟩
    rw [hP] at HP1 HP4 HP0 HF0
    obtain ⟨N, hN⟩ : ∃ N, ws.length = N := ⟨_, rfl⟩
    have HN := hide hN
    have HNl : Hid (l.length = N) := hide (hlen.trans hN)
    rw [hN] at HAL
    rw [hlen, hN] at zl
    rw [hlen, hN]
    have hne : ((N : Int) == (N : Int)) = true := by simp
    clear hP hN hlen zs
    go_enter Tryz.func131, Tryz.ntmps131
    go_wp2
    go_loopw [6, 7] (fun v i wr => ∃ j : Nat, j ≤ N ∧ i = .int .i64 j ∧ Has wr w.heap.size v (putUp l ws j) ∧ Hid ((putUp l ws j).length ≤ 20 * j) ∧ Hid (pf (l.drop j) (ws.drop j) = P) ∧ Below w.heap.size w wr) (fun _ i _ => N - (intOf i).toNat)
    case atStart => exact ⟨0, Nat.zero_le _, rfl, Has.nil _ _, HL0, HF0, Below.refl _ _⟩
    case round =>
      obtain ⟨j, hj, rfl, hv, HLJ, HF, hB⟩ := hrel
      clear HL0 HF0
      by_cases hlt : j < N
      · have hlt1 : j < l.length := by rw [unhide HNl]; exact hlt
        have hlt2 : j < ws.length := by rw [unhide HN]; exact hlt
        have HF2 : Hid ((if Fit (at0 l j) (at0 ws j) then pf (l.drop (j + 1)) (ws.drop (j + 1)) else 1) = P) := hide (by rw [← pf_step hlt1 hlt2]; exact unhide HF)
        have HPU := hide (putUp_step l ws hlt2)
        obtain ⟨b1, off1, rfl, _, hc1⟩ := Scl.cell_at (hr.below hB) (by omega)
        obtain ⟨b2, off2, rfl, _, hc2⟩ := Scl.cell_at (hs.below hB) (by omega)
        have c1 := hc1 j hlt1
        have c2 := hc2 j hlt2
        obtain ⟨Y, hY⟩ : ∃ Y, at0 l j = Y := ⟨_, rfl⟩
        obtain ⟨X, hX⟩ : ∃ X, at0 ws j = X := ⟨_, rfl⟩
        rw [hY] at c1
        rw [hX] at c2
        rw [hX, hY] at HF2 HPU
        clear hY hX hc1 hc2 hlt1 hlt2 HF
        by_cases hx1 : X < 0
        · have dx : decide (X < 0) = true := by simpa using hx1
          have HP : Hid (P = 1) := hide (by rw [← unhide HF2, if_neg (fun h => by have := h.1; omega)])
          clear HF2 HPU
          go_wp2
          go_ret2
          exact unhide HP1 (unhide HP) _ hB
        · have dx : decide (X < 0) = false := by simpa using hx1
          by_cases hx2 : 20 < X
          · have dy : decide (20 < X) = true := by simpa using hx2
            have HP : Hid (P = 1) := hide (by rw [← unhide HF2, if_neg (fun h => by have := h.2.1; omega)])
            clear HF2 HPU
            go_wp2
            go_ret2
            exact unhide HP1 (unhide HP) _ hB
          · have dy : decide (20 < X) = false := by simpa using hx2
            by_cases hy1 : Y < 0
            · have dz : decide (Y < 0) = true := by simpa using hy1
              have HP : Hid (P = 1) := hide (by rw [← unhide HF2, if_neg (fun h => by have := h.2.2.1; omega)])
              clear HF2 HPU
              go_wp2
              go_ret2
              exact unhide HP1 (unhide HP) _ hB
            · have dz : decide (Y < 0) = false := by simpa using hy1
              obtain ⟨W, rfl⟩ : ∃ W : Nat, X = W := ⟨X.toNat, by omega⟩
              have hW20 : W ≤ 20 := by omega
              have HQ0 : Hid ((1 : Int) = 2 ^ 0) := hide rfl
              rename World => w5
              go_wp2
              go_loopw [8, 9] (fun p i wr => ∃ (k : Nat) (Q : Int), k ≤ W ∧ i = .int .i64 k ∧ p = .int .i64 Q ∧ Hid (Q = 2 ^ k) ∧ w5 = wr) (fun _ i _ => W - (intOf i).toNat)
              case atStart => exact ⟨0, 1, Nat.zero_le _, rfl, rfl, HQ0, rfl⟩
              case round =>
                obtain ⟨k, Q, hk, rfl, rfl, HQ, rfl⟩ := hrel
                clear HQ0
                obtain ⟨q1, q9⟩ := two_le (k := k) (by omega)
                rw [← unhide HQ] at q1 q9
                by_cases hkl : k < W
                · have HQ2 : Hid (2 * Q = 2 ^ (k + 1)) := hide (by rw [two_succ, ← unhide HQ])
                  have w1 : IntKind.i64.wrap (2 * Q) = 2 * Q := IntWalk.i64_in _ (by omega)
                  clear HQ
                  go_wp2
                  go_roundw
                  case rel => exact ⟨k + 1, 2 * Q, by omega, by go_num, by first | rfl | go_num, HQ2, by first | trivial | rfl⟩
                  case measure => simp [intOf]; omega
                · obtain rfl : k = W := by omega
                  by_cases hy2 : Q ≤ Y
                  · have dq : decide (Q ≤ Y) = true := by simpa using hy2
                    have HP : Hid (P = 1) := hide (by
                      rw [← unhide HF2, if_neg (fun h => by
                        have := h.2.2.2
                        rw [Int.toNat_natCast, ← unhide HQ] at this
                        omega)])
                    clear HF2 HPU HQ
                    go_wp2
                    go_ret2
                    exact unhide HP1 (unhide HP) _ hB
                  · have dq : decide (Q ≤ Y) = false := by simpa using hy2
                    have HF3 : Hid (pf (l.drop (j + 1)) (ws.drop (j + 1)) = P) := hide (by
                      rw [← unhide HF2, if_pos ⟨by omega, by omega, by omega, by rw [Int.toNat_natCast, ← unhide HQ]; omega⟩])
                    have HO0 : Hid (putUp l ws j ++ bin k Y = putUp l ws (j + 1)) := hide (by rw [unhide HPU, Int.toNat_natCast])
                    have HLJ2 : Hid ((putUp l ws (j + 1)).length ≤ 20 * (j + 1)) := hide (by
                      rw [← unhide HO0, List.length_append, bin_length]
                      have := unhide HLJ
                      omega)
                    have hy9 : Y < Q := by omega
                    have hy0 : 0 ≤ Y := by omega
                    clear HF2 HPU HLJ hy2 hy1 hx1 hx2
                    go_wp2
                    go_loopw [6, 8, 10] (fun v p n wr => ∃ (m : Nat) (Q Z : Int) (O : List Int), m ≤ k ∧ p = .int .i64 Q ∧ n = .int .i64 Z ∧ Hid (Q = 2 ^ m) ∧ 0 ≤ Z ∧ Z < Q ∧ Has wr w.heap.size v O ∧ Hid (O ++ bin m Z = putUp l ws (j + 1)) ∧ Below w.heap.size w wr) (fun _ p _ _ => (intOf p).toNat)
                    case atStart => exact ⟨k, Q, Y, _, Nat.le_refl _, rfl, rfl, HQ, hy0, hy9, hv, HO0, hB⟩
                    case round =>
                      clear q1 q9 HQ hy9 hy0 hv HO0 hB c1 c2
                      obtain ⟨m, Q, Z, O, hm, rfl, rfl, HQ, z0, z9, hv, HO, hB⟩ := hrel
                      obtain ⟨q1, q9⟩ := two_le (k := m) (by omega)
                      rw [← unhide HQ] at q1 q9
                      cases m with
                      | zero =>
                        obtain rfl : Q = 1 := unhide HQ
                        have hv2 : Has wr w.heap.size u6 (putUp l ws (j + 1)) := by
                          rw [← unhide HO, bin, List.append_nil]
                          exact hv
                        clear HO hv HQ
                        go_wp2
                        go_roundw
                        case rel => exact ⟨j + 1, by omega, by go_num, hv2, HLJ2, HF3, hB⟩
                        case measure => simp [intOf]; omega
                      | succ m =>
                        obtain ⟨G, hG⟩ : ∃ G : Int, 2 ^ m = G := ⟨_, rfl⟩
                        have hQG : Q = 2 * G := by rw [unhide HQ, two_succ, hG]
                        have HO2 : Hid ((O ++ [Z / G]) ++ bin m (Z % G) = putUp l ws (j + 1)) := hide (by rw [← unhide HO, bin, hG]; simp)
                        have g1 : 1 ≤ G := by rw [← hG]; exact (two_le (by omega)).1
                        have t1 : Int.tdiv Q 2 = G := by rw [Int.tdiv_eq_ediv_of_nonneg (by omega)]; omega
                        have t2 : Int.tdiv Z G = Z / G := Int.tdiv_eq_ediv_of_nonneg z0
                        have t3 : Int.tmod Z G = Z % G := Int.tmod_eq_emod_of_nonneg z0
                        have hd : decide (1 < Q) = true := by simp; omega
                        have hg0 : (G == 0) = false := by rw [beq_eq_false_iff_ne]; omega
                        have m0 : 0 ≤ Z % G := Int.emod_nonneg _ (by omega)
                        have m9 : Z % G < G := Int.emod_lt_of_pos _ (by omega)
                        have d0 : 0 ≤ Z / G := Int.ediv_nonneg z0 (by omega)
                        have d9 : Z / G ≤ 1 := by
                          have : Z / G < 2 := (Int.ediv_lt_iff_lt_mul (by omega)).2 (by omega)
                          omega
                        have hln : Hid (O.length + 1 ≤ 17592186044416) := hide (by
                          have e := congrArg List.length (unhide HO)
                          rw [List.length_append] at e
                          have := unhide HLJ2
                          omega)
                        have HQ2 : Hid (G = 2 ^ m) := hide hG.symm
                        obtain ⟨D, hD⟩ : ∃ D, Z / G = D := ⟨_, rfl⟩
                        obtain ⟨M, hM⟩ : ∃ M, Z % G = M := ⟨_, rfl⟩
                        rw [hD] at HO2 t2 d0 d9
                        rw [hM] at HO2 t3 m0 m9
                        have hWs := hB.size
                        clear hG hD hM HO HQ
                        go_wp2_with (at_builtin; refine wpList_appL _ rfl _ _ rfl w.heap.size u6 O [D] _ _ rfl (hv.alloc _) rfl (row_one _ _ _) (unhide hln) (by simp; omega) ?_; intro s' w6 k6 g6 at6)
                        obtain ⟨d1, d2⟩ := stepped_plain hv hWs k6 g6 at6
                        have hB6 := hB.trans d1
                        clear hv hB d1 d2 g6 at6
                        go_wp2
                        go_roundw
                        case rel => exact ⟨m, G, M, _, by omega, by first | rfl | go_num, by first | rfl | go_num, HQ2, m0, m9, k6, HO2, hB6⟩
                        case measure => simp [intOf]; omega
      · obtain rfl : j = N := by omega
        obtain rfl : P = 0 := by
          rw [← unhide HF]
          have e1 : l.drop j = [] := by rw [← unhide HNl, List.drop_length]
          rw [e1]
          cases ws.drop j <;> rfl
        rw [unhide HAL] at hv
        obtain ⟨p9, q9, rfl, r9⟩ := hv.row
        obtain ⟨K, hK⟩ : ∃ K, (puts l ws).length = K := ⟨_, rfl⟩
        rw [hK] at hv HP4 HP0 ⊢
        have hK9 : K ≤ 20 * 1048576 := by
          have := unhide HLJ
          rw [unhide HAL, hK] at this
          omega
        clear HF HLJ r9
        by_cases h4 : 400 < K
        · go_wp2
          go_ret2
          exact unhide HP4 (by first | trivial | rfl) h4 _ hB
        · go_wp2
          go_ret2
          exact unhide HP0 (by first | trivial | rfl) h4 _ _ hv hB
  · have e : putF l ws = 3 := by unfold putF; rw [if_neg hlen]
    have HP : Hid (∀ w', Below w.heap.size w w' → PutPost l ws w (.returned (.tuple #[.slice none 0 0, .int .i64 3])) w') := hide (fun w' hb => ⟨Or.inl (by rw [e]; exact ⟨by omega, rfl⟩), hb⟩)
    obtain ⟨N, hN⟩ : ∃ N, ws.length = N := ⟨_, rfl⟩
    obtain ⟨M, hM⟩ : ∃ M, l.length = M := ⟨_, rfl⟩
    rw [hN, hM] at hlen
    rw [hN, hM]
    have hne : ((M : Int) == (N : Int)) = false := by rw [beq_eq_false_iff_ne]; omega
    have hne2 : (M == N) = false := by rw [beq_eq_false_iff_ne]; omega
    clear hN hM e
    go_enter Tryz.func131, Tryz.ntmps131
    go_wp2
    go_ret2
    exact unhide HP _ (Below.refl _ _)

end Go.Proofs.YtephagojpnfhcajGreatDoor.Wid

/-
  A slice of bytes that this call has made itself: what it holds, append of one byte, and one byte read or set.
-/
namespace Go.Proofs.YtephagojpnfhcajGreatDoor
open Go.RowKit
open Go.Proofs.YtephagojpnfhcajGreatDoor.Tre
set_option linter.unusedVariables false

theorem info_byte : (Tryz.prog.info? 5).map (fun i => (i.zero, i.size, i.bytes)) = some (some (.int .u8 0), 1, 1) := by kernel_rfl

/-- A slice of bytes of this call's own (its block at base or behind) holds l. -/
def HasY (w : World) (base : Nat) (v : Value) (l : List Int) : Prop := w.ownsRow base 5 1 v l.length (l.map (Value.int .u8))

theorem HasY.nil (w : World) (base : Nat) : HasY w base (.slice none 0 0) [] := World.ownsRow_nil _ _ _ _
theorem HasY.kept {w w' : World} {base : Nat} {v : Value} {l : List Int} {row : Option Nat} (h : HasY w base v l) (hg : w.grownBy w' row) (hne : v.ownBlock = none ∨ v.ownBlock ≠ row) : HasY w' base v l := World.ownsRow.kept h hg hne
theorem HasY.alloc {w : World} {base : Nat} {v : Value} {l : List Int} (h : HasY w base v l) (o : Obj) : HasY (w.alloc o) base v l := World.ownsRow.alloc h o
theorem HasY.below {w w' : World} {base : Nat} {v : Value} {l : List Int} (h : HasY w base v l) (hb : Below w.heap.size w w') : HasY w' base v l := by
  refine ⟨h.1, ?_⟩
  rcases h.2 with hn | ⟨g, cap, cur, rfl, hbg, hgg, rest⟩
  · exact .inl hn
  · exact .inr ⟨g, cap, cur, rfl, hbg, (hb.block g (Array.getElem?_eq_some_iff.1 hgg).1).trans hgg, rest⟩
theorem HasY.lt {w : World} {base : Nat} {v : Value} {l : List Int} (h : HasY w base v l) : ∀ k, v.ownBlock = some k → base ≤ k ∧ k < w.heap.size := World.ownsRow.lt h
theorem HasY.shape {w : World} {base : Nat} {v : Value} {l : List Int} (h : HasY w base v l) : ∃ a cap, v = .slice a l.length cap := by
  rcases h.2 with ⟨h1, h2⟩ | ⟨g, cap, cur, hv, _⟩
  · exact ⟨none, 0, by rw [h2]; exact h1⟩
  · exact ⟨some ⟨g, 0, none⟩, cap, hv⟩
theorem HasY.any {w : World} {base : Nat} {v : Value} {l : List Int} (h : HasY w base v l) : ∃ a n cap, v = .slice a n cap := by
  obtain ⟨a, cap, e⟩ := h.shape
  exact ⟨a, _, cap, e⟩
theorem HasY.one {w : World} {base : Nat} {v : Value} {l : List Int} (h : HasY w base v l) (h0 : 0 < l.length) : ∃ g c, v = .slice (some ⟨g, 0, none⟩) l.length c ∧ base ≤ g ∧ g < w.heap.size ∧ l.length ≤ c ∧ c ≤ 9223372036854775807 := by
  rcases h.2 with ⟨_, e⟩ | ⟨g, cap, cur, hv, hb, hg, hn, hm, _⟩
  · omega
  · exact ⟨g, cap, hv, hb, (Array.getElem?_eq_some_iff.1 hg).1, hn, by simpa [maxLen] using hm⟩
theorem HasY.len {w : World} {base g n c : Nat} {l : List Int} (h : HasY w base (.slice (some ⟨g, 0, none⟩) n c) l) : n = l.length := by
  obtain ⟨a, cap, e⟩ := h.shape
  exact (Value.slice.inj e).2.1
theorem HasY.get {w : World} {base g n c : Nat} {l : List Int} (h : HasY w base (.slice (some ⟨g, 0, none⟩) n c) l) {j : Nat} (hj : j < l.length) : w.cell? ⟨g, j, none⟩ = some (.int .u8 (at0 l j)) := by
  obtain rfl := h.len
  rw [World.ownsRow.cellAt h j (by omega)]
  simp [at0, hj]
theorem HasY.put {w : World} {base g n c : Nat} {l : List Int} (h : HasY w base (.slice (some ⟨g, 0, none⟩) n c) l) (j : Nat) (x : Int) :
    HasY (w.setCell ⟨g, j, none⟩ (.int .u8 x)) base (.slice (some ⟨g, 0, none⟩) n c) (l.set j x) ∧ w.grownBy (w.setCell ⟨g, j, none⟩ (.int .u8 x)) (some g) := by
  obtain rfl := h.len
  have := World.ownsRow.stored h j (.int .u8 x)
  rw [← List.map_set] at this
  refine ⟨?_, this.2⟩
  unfold HasY
  rw [List.length_set]
  exact this.1
theorem HasY.frozen {w : World} {base g n c : Nat} {l : List Int} (h : HasY w base (.slice (some ⟨g, 0, none⟩) n c) l) (j : Nat) : w.frozen? ⟨g, j, none⟩ = false := by
  obtain rfl := h.len
  exact World.ownsRow.frozenAt h j

theorem cell_byte (w : World) (x : Int) (t : TypeId) : (w.alloc (.cells #[.int .u8 x] t)).cell? ⟨w.heap.size, 0, none⟩ = some (.int .u8 x) := by rw [World.cell?_alloc_at _ _ _ _ rfl]; rfl
theorem cell_byte' {w : World} {x : Int} {t : TypeId} {n : Nat} (h : w.heap.size = n) : (w.alloc (.cells #[.int .u8 x] t)).cell? ⟨n, 0, none⟩ = some (.int .u8 x) := by subst h; exact cell_byte w x t

/-- append of one byte. -/
theorem run_appy (w : World) (base : Nat) (v : Value) (l : List Int) (x : Int) (ty : TypeId) (hv : HasY w base v l) (b : Nat) (cap : Nat) (hr : w.cell? ⟨b, 0, none⟩ = some (.int .u8 x)) (hlen : l.length + 1 ≤ 1000000) (hbase : base ≤ w.heap.size) :
    ∃ v' w', (Builtin.append_ #[95, 95] ty #[v, .slice (some ⟨b, 0, none⟩) 1 cap]).run Tryz.prog w = .ok v' w' ∧ HasY w' base v' (l ++ [x]) ∧ w.grownBy w' v.ownBlock ∧ (v'.ownBlock = v.ownBlock ∨ v'.ownBlock = some w.heap.size) := by
  obtain ⟨i, hi, hz0, hz1, hz2⟩ := info_parts info_byte
  have hc : ∀ (j : Nat) (u : Value), ([x].map (Value.int .u8))[j]? = some u → w.cell? ((⟨b, 0, none⟩ : Addr).add j) = some u := by
    intro j u hu
    cases j with
    | zero => simp at hu; rw [addr_plain, Nat.add_zero, hr, hu]
    | succ j => simp at hu
  obtain ⟨v', w', h1, h2, h3, h4, h5⟩ := run_append_own_at (P := Tryz.prog) w base 95 ty 5 i (.int .u8 0) 1 1 Tryz.underlying95 hi hz0 hz1 hz2 rfl (by omega) v l.length (l.map (Value.int .u8)) hv ⟨b, 0, none⟩ 1 cap ([x].map (Value.int .u8)) (by simp) hc
    (by intro u hu; obtain ⟨z, _, rfl⟩ := List.mem_map.1 hu; rfl) (by simp only [maxLen]; omega) (by omega) hbase
  refine ⟨v', w', h1, ?_, h3, h5⟩
  unfold HasY
  rw [List.length_append, List.map_append]
  exact h2

theorem wpListIn_appy {F : Fence} {n : Nat} {ops : Array Oper} {rest : List Oper} {o : Oper} {a : Act} {Q : Exit → Act → World → Prop} (w : World) (hgd : o.guard = none) (s x : Operand)
    (ho : o.op = .call { callee := .builtin .append, args := #[s, x], argTypes := #[95, 95] }) (base : Nat) (v : Value) (l : List Int) (c : Int) (b cap : Nat) (hs : a.eval s = v) (hv : HasY w base v l)
    (hx : a.eval x = .slice (some ⟨b, 0, none⟩) 1 cap) (hr : w.cell? ⟨b, 0, none⟩ = some (.int .u8 c)) (hlen : l.length + 1 ≤ 1000000) (hbase : base ≤ w.heap.size)
    (h : ∀ v' w', HasY w' base v' (l ++ [c]) → w.grownBy w' v.ownBlock → (v'.ownBlock = v.ownBlock ∨ v'.ownBlock = some w.heap.size) → wpListIn F n Tryz.prog ops Q rest (a.put o.dst v') w') :
    wpListIn F n Tryz.prog ops Q (o :: rest) a w := by
  refine wpListIn_plain hgd fun K hK => ?_
  obtain ⟨v', w', hrun, h2, h3, h4⟩ := run_appy w base v l c o.type hv b cap hr hlen hbase
  unfold Oper.wpIn
  refine ⟨?_, ?_⟩
  · simp [Oper.about, ho, resolve, Target.leads, Sem.run_pure]
  · rw [Oper.semAt_plain F _ _ (by rw [ho]; intro c hc'; cases hc')]
    simp [execOp, ho, resolve, invoke, builtin, hs, hx, hrun, Result.andThen]
    exact hK _ _ (h v' w' h2 h3 h4)

end Go.Proofs.YtephagojpnfhcajGreatDoor

/-
  A part of a row ('l[t:q]', 'l[:n]'), whatever lies beneath it: nil and empty ones too.
-/
namespace Go.Proofs.YtephagojpnfhcajGreatDoor
open Go.RowKit
open Go.Proofs.YtephagojpnfhcajGreatDoor.Tre
set_option linter.unusedVariables false

set_option maxRecDepth 100000 in
theorem size_ints (w : World) : (sizeOf (Tryz.prog.elem 22)).run Tryz.prog w = .ok 1 w := by
  have h : Tryz.prog.elem 22 = 3 := by kernel_rfl
  obtain ⟨i, hi, hz0, hz1, hz2⟩ := info_parts info_int
  rw [h]
  simp [sizeOf, typeInfo, hi, hz1]
set_option maxRecDepth 100000 in
theorem row_cut {w : World} {a : Option Addr} {l : List Int} (h : Row w a l) (cap : Nat) (hm : l.length ≤ cap) {t q : Nat} (htq : t ≤ q) (hq : q ≤ l.length) :
    ∃ A, (∀ W, (Instr.slice 22 (.slice a l.length cap) (some (.int .i64 t)) (some (.int .i64 q)) none).run Tryz.prog W = .ok (.slice A (q - t) (cap - t)) W) ∧ Row w A ((l.drop t).take (q - t)) := by
  refine ⟨if cap = t then a else a.map (·.add (t * 1)), fun W => ?_, ?_⟩
  · rw [run_slice_lh W 22 a l.length cap Tryz.underlying22 .i64 .i64 t q (by omega) (by omega) (by omega), size_ints]
    simp [Result.andThen, sliced]
  · by_cases he : q = t
    · refine Or.inl ?_
      rw [he, Nat.sub_self, List.take_zero]
    · obtain ⟨b, off, rfl, hb, hc⟩ := h.at (k := 0) (by omega)
      rw [if_neg (by omega), Nat.mul_one, Option.map_some, addr_plain]
      exact (h.drop t).take _
set_option maxRecDepth 100000 in
theorem row_first {w : World} {a : Option Addr} {l : List Int} (h : Row w a l) (cap : Nat) (hm : l.length ≤ cap) {q : Nat} (hq : q ≤ l.length) :
    ∃ A, (∀ W, (Instr.slice 22 (.slice a l.length cap) none (some (.int .i64 q)) none).run Tryz.prog W = .ok (.slice A q cap) W) ∧ Row w A (l.take q) := by
  refine ⟨if cap = 0 then a else a.map (·.add (0 * 1)), fun W => ?_, ?_⟩
  · rw [run_slice_h W 22 a l.length cap Tryz.underlying22 .i64 q (by omega) (by omega), size_ints]
    simp [Result.andThen, sliced]
  · by_cases he : q = 0
    · refine Or.inl ?_
      rw [he, List.take_zero]
    · obtain ⟨b, off, rfl, hb, hc⟩ := h.at (k := 0) (by omega)
      rw [if_neg (by omega), Nat.zero_mul, Option.map_some, addr_plain, Nat.add_zero]
      exact h.take _

end Go.Proofs.YtephagojpnfhcajGreatDoor
