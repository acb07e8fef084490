/-
  append, as a step of a region that draws its order.
-/
import Derived.Test.YthkibjhhlcfceajGreatDoorSi05
import Derived.Deep.RegionLaw
import Derived.Deep.QuietTactic
import Derived.BigQuiet
import Derived.Test.YthkibjhhlcfceajGreatDoorSi00
import Derived.Test.YthkibjhhlcfceajGreatDoorSi02
namespace Go.Proofs.YthkibjhhlcfceajGreatDoor
open Go.RowKit
set_option linter.unusedVariables false

theorem step_app {ops : Array Oper} {o : Oper} {a : Act} {K : Act → World → Prop} {Q : Exit → Act → World → Prop} {E : Prop} (w : World) (hgd : o.guard = none) (s x : Operand)
    (ho : o.op = .call { callee := .builtin .append, args := #[s, x], argTypes := #[22, 22] }) (base : Nat) (v : Value) (l m : List Int) (ad : Option Addr) (cap : Nat) (hs : a.eval s = v) (hv : Has w base v l)
    (hx : a.eval x = .slice ad m.length cap) (hr : Row w ad m) (hlen : l.length + m.length ≤ 1000000) (hbase : base ≤ w.heap.size)
    (h : ∀ v' w', Has w' base v' (l ++ m) → w.grownBy w' v.ownBlock → (v'.ownBlock = v.ownBlock ∨ v'.ownBlock = some w.heap.size) → K (a.put o.dst v') w') :
    if Region.wanted o (yielded ops a.tmps) = true then Oper.wp Tryz.prog o a w K Q else E := by
  have hw : Region.wanted o (yielded ops a.tmps) = true := by simp [Region.wanted, hgd]
  rw [if_pos hw]
  obtain ⟨v', w', hrun, h2, h3, h4, _⟩ := run_app w base v l m o.type hv ad cap hr hlen hbase
  unfold Oper.wp
  simp [execOp, ho, resolve, invoke, builtin, hs, hx, hrun, Result.andThen]
  exact h v' w' h2 h3 h4

/-- Two slices do not lie in one row. -/
def Off (u v : Value) : Prop := u.ownBlock = none ∨ u.ownBlock ≠ v.ownBlock
theorem Off.symm {u v : Value} (h : Off u v) : Off v u := by
  unfold Off at *
  rcases h with h | h
  · by_cases hv : v.ownBlock = none
    · exact Or.inl hv
    · exact Or.inr (by rw [h]; exact hv)
  · exact Or.inr (Ne.symm h)

/-- 'x = append(x, ..)', x in no box: all that a walk owes behind it. -/
theorem stepped_plain {W w1 : World} {n₀ : Nat} {v v' : Value} {l l' : List Int} {tmp : Obj} (h : Has W n₀ v l) (hn : n₀ ≤ W.heap.size)
    (h' : Has w1 n₀ v' l') (hg : (W.alloc tmp).grownBy w1 v.ownBlock) (hat : v'.ownBlock = v.ownBlock ∨ v'.ownBlock = some (W.alloc tmp).heap.size) :
    Below n₀ W w1 ∧ (∀ u m, Has W n₀ u m → Off u v → Has w1 n₀ u m ∧ Off u v') := by
  refine ⟨((Below.refl n₀ W).alloc hn tmp).grown hg (by simp; omega) (fun j e => (h.lt j e).1), fun u m hu ha => ⟨(hu.alloc tmp).kept hg ha, ?_⟩⟩
  rcases hat with e | e
  · unfold Off; rw [e]; exact ha
  · cases hb : u.ownBlock with
    | none => exact Or.inl hb
    | some k =>
      refine Or.inr ?_
      rw [e, hb]
      have := (hu.lt k hb).2
      intro hh
      cases hh
      simp at this
      omega

end Go.Proofs.YthkibjhhlcfceajGreatDoor

/-
  A slice of integers of this call's own: one number is read, or set.
-/
namespace Go.Proofs.YthkibjhhlcfceajGreatDoor
open Go.RowKit
open Go.Proofs.YthkibjhhlcfceajGreatDoor.Tre
set_option linter.unusedVariables false

/-- .. where it is none, and where it is one. -/
theorem Has.one {w : World} {base : Nat} {v : Value} {l : List Int} (h : Has w base v l) (h0 : 0 < l.length) : ∃ g c, v = .slice (some ⟨g, 0, none⟩) l.length c ∧ base ≤ g ∧ g < w.heap.size ∧ l.length ≤ c ∧ c ≤ 9223372036854775807 := by
  rcases h.2 with ⟨_, e⟩ | ⟨g, cap, cur, hv, hb, hg, hn, hm, _⟩
  · omega
  · exact ⟨g, cap, hv, hb, (Array.getElem?_eq_some_iff.1 hg).1, hn, by simpa [maxLen] using hm⟩
theorem Has.get {w : World} {base g n c : Nat} {l : List Int} (h : Has w base (.slice (some ⟨g, 0, none⟩) n c) l) {j : Nat} (hj : j < l.length) : w.cell? ⟨g, j, none⟩ = some (.int .i64 (at0 l j)) := by
  obtain ⟨a, cap, e, hr⟩ := h.row
  obtain ⟨b, off, e', hb, hcs⟩ := hr.at hj
  subst e'
  obtain ⟨e1, e2, e3⟩ := Value.slice.inj e
  cases e1
  have := hcs j hj
  rw [Nat.zero_add] at this
  rw [this, List.getD_eq_getElem?_getD]; rfl
theorem Has.put {w : World} {base g n c : Nat} {l : List Int} (h : Has w base (.slice (some ⟨g, 0, none⟩) n c) l) (j : Nat) (x : Int) :
    Has (w.setCell ⟨g, j, none⟩ (.int .i64 x)) base (.slice (some ⟨g, 0, none⟩) n c) (l.set j x) ∧ w.grownBy (w.setCell ⟨g, j, none⟩ (.int .i64 x)) (some g) := by
  obtain ⟨a, cap, e, _⟩ := h.row
  obtain ⟨e1, e2, e3⟩ := Value.slice.inj e
  subst e2
  have := World.ownsRow.stored h j (.int .i64 x)
  rw [← List.map_set] at this
  refine ⟨?_, this.2⟩
  unfold Has
  rw [List.length_set]
  exact this.1
theorem Has.frozen {w : World} {base g n c : Nat} {l : List Int} (h : Has w base (.slice (some ⟨g, 0, none⟩) n c) l) (j : Nat) : w.frozen? ⟨g, j, none⟩ = false := by
  obtain ⟨a, cap, e, _⟩ := h.row
  obtain ⟨e1, e2, e3⟩ := Value.slice.inj e
  subst e2
  exact World.ownsRow.frozenAt h j
/-- A number of one list is set: the other list stays. -/
theorem Has.beside {w w' : World} {base : Nat} {u v : Value} {m : List Int} {g n c : Nat} (hu : Has w base u m) (hv : v = .slice (some ⟨g, 0, none⟩) n c) (ho : Off u v) (hg : w.grownBy w' (some g)) : Has w' base u m := by
  refine hu.kept hg ?_
  unfold Off at ho
  rw [hv] at ho
  exact ho
theorem Has.inRow {w : World} {base : Nat} {v : Value} {l : List Int} (h : Has w base v l) {a : Option Addr} {n c : Nat} (e : v = .slice a n c) : n = l.length ∧ Row w a l := by
  obtain ⟨a', cap, e', hr⟩ := h.row
  rw [e] at e'
  obtain ⟨e1, e2, e3⟩ := Value.slice.inj e'
  subst e1 e2
  exact ⟨rfl, hr⟩

/-- One slice grows: another one stays, and does not lie in its row. -/
theorem apart {W w1 : World} {n₀ : Nat} {u v v' : Value} {m : List Int} (hu : Has W n₀ u m) (hg : W.grownBy w1 v.ownBlock) (hat : v'.ownBlock = v.ownBlock ∨ v'.ownBlock = some W.heap.size) (ho : Off u v) : Has w1 n₀ u m ∧ Off u v' := by
  refine ⟨hu.kept hg ho, ?_⟩
  rcases hat with e | e
  · unfold Off; rw [e]; exact ho
  · cases hb : u.ownBlock with
    | none => exact Or.inl hb
    | some k =>
      refine Or.inr ?_
      rw [e, hb]
      have := (hu.lt k hb).2
      intro hh
      cases hh
      omega
theorem off_nil (u : Value) : Off u (.slice none 0 0) := by
  cases h : u.ownBlock with
  | none => exact Or.inl h
  | some k => exact Or.inr (by rw [h]; intro e; cases e)
/-- The first of a row, and the rest. -/
theorem Row.take {w : World} {a : Option Addr} {l : List Int} (h : Row w a l) (k : Nat) : Row w a (l.take k) := by
  by_cases h0 : l.take k = []
  · exact Or.inl h0
  · have hp : 0 < (l.take k).length := List.length_pos_iff.2 h0
    rw [List.length_take] at hp
    obtain ⟨b, off, e, hb, hcs⟩ := h.at (k := 0) (by omega)
    refine Or.inr ⟨b, off, e, hb, fun j hj => ?_⟩
    rw [List.length_take] at hj
    rw [hcs j (by omega)]
    simp [List.getD_eq_getElem?_getD, show j < k by omega]
theorem Row.drop {w : World} {b off : Nat} {l : List Int} (h : Row w (some ⟨b, off, none⟩) l) (k : Nat) : Row w (some ⟨b, off + k, none⟩) (l.drop k) := by
  by_cases h0 : l.drop k = []
  · exact Or.inl h0
  · have hp : 0 < (l.drop k).length := List.length_pos_iff.2 h0
    rw [List.length_drop] at hp
    obtain ⟨b', off', e, hb, hcs⟩ := h.at (k := 0) (by omega)
    cases e
    refine Or.inr ⟨b, off + k, rfl, hb, fun j hj => ?_⟩
    rw [List.length_drop] at hj
    rw [Nat.add_assoc, hcs (k + j) (by omega)]
    simp [List.getD_eq_getElem?_getD]

end Go.Proofs.YthkibjhhlcfceajGreatDoor

/-
  A value that is a slice of these integers.
-/
namespace Go.Proofs.YthkibjhhlcfceajGreatDoor
open Go.RowKit
open Go.Proofs.YthkibjhhlcfceajGreatDoor.Tre
set_option linter.unusedVariables false

/-- A slice of these integers. -/
def Sli (w : World) (V : Value) (l : List Int) : Prop := ∃ A C, V = .slice A l.length C ∧ (A = none → C = 0) ∧ l.length ≤ C ∧ C ≤ 9223372036854775807 ∧ Row w A l

theorem Sli.below {w w' : World} {V : Value} {l : List Int} (h : Sli w V l) (hb : Below w.heap.size w w') : Sli w' V l := by
  obtain ⟨A, C, h1, h2, h3, h4, h5⟩ := h
  exact ⟨A, C, h1, h2, h3, h4, h5.below hb⟩
theorem Has.sli {w : World} {base : Nat} {v : Value} {l : List Int} (h : Has w base v l) : Sli w v l := by
  have h' := h
  obtain ⟨a, cap, rfl, hr⟩ := h.row
  rcases h'.2 with ⟨e, e0⟩ | ⟨g, c, cur, e, hb, hg, hn, hm, _⟩
  · obtain ⟨e1, e2, e3⟩ := Value.slice.inj e
    exact ⟨a, cap, rfl, fun _ => e3, by omega, by omega, hr⟩
  · obtain ⟨e1, e2, e3⟩ := Value.slice.inj e
    subst e1 e3
    exact ⟨_, _, rfl, fun h => (by cases h), hn, by simpa [maxLen] using hm, hr⟩
theorem cel_of {w : World} {p : Addr} {V : Value} {l : List Int} (h : w.cell? p = some V) (hs : Sli w V l) : Cel w p l := by
  obtain ⟨A, C, h1, h2, h3, h4, h5⟩ := hs
  exact ⟨A, C, by rw [h, h1], h2, h3, h4, h5⟩

end Go.Proofs.YthkibjhhlcfceajGreatDoor

/-
  An error as a value that may be none; what a slice of this call's own has room for.
-/
namespace Go.Proofs.YthkibjhhlcfceajGreatDoor.Ev
open Go.RowKit
open Go.Proofs.YthkibjhhlcfceajGreatDoor.Tre
set_option linter.unusedVariables false

/-- An error as a value. -/
def errV (e : Int) : Value := if e = 0 then .nilIface else .iface 48 (.int .i64 e)
theorem errV_zero : errV 0 = .nilIface := rfl
theorem errV_ne {e : Int} (h : e ≠ 0) : errV e = .iface 48 (.int .i64 e) := by simp [errV, h]
/-- .. as a slice and a row, with its room. -/
theorem has_room {w : World} {base : Nat} {v : Value} {l : List Int} (h : Has w base v l) : ∃ a cap, v = .slice a l.length cap ∧ Row w a l ∧ l.length ≤ cap ∧ cap ≤ 9223372036854775807 := by
  obtain ⟨a, cap, e, hr⟩ := h.row
  rcases h.2 with ⟨h1, h2⟩ | ⟨g, c, cur, hv, hb, hg, hn, hm, _⟩
  · rw [h1] at e
    obtain ⟨e1, e2, e3⟩ := Value.slice.inj e
    exact ⟨a, cap, by rw [h1]; exact e, hr, by omega, by omega⟩
  · rw [hv] at e
    obtain ⟨e1, e2, e3⟩ := Value.slice.inj e
    subst e3
    exact ⟨a, c, by rw [hv]; exact e, hr, hn, by simpa [maxLen] using hm⟩
theorem guard_err (op : BinOp) (t : TypeId) (x : Operand) (E : Int) (w : World) : (eqGuard op t x (Operand.const Value.nilIface) (errV E) Value.nilIface).run Tryz.prog w = .ok () w := by
  unfold eqGuard errV
  by_cases h : E = 0
  · rw [if_pos h]
    cases op <;> simp [Sem.run_pure]
  · rw [if_neg h]
    cases op <;> simp [Sem.run_pure]
theorem neq_err (E : Int) (w : World) : (binOp BinOp.neq 25 (errV E) Value.nilIface).run Tryz.prog w = .ok (.bool (decide (E ≠ 0))) w := by
  unfold errV
  by_cases h : E = 0
  · rw [if_pos h]
    simp [h, go_sem]
  · rw [if_neg h]
    simp [h, go_sem]
theorem eql_err (E : Int) (w : World) : (binOp BinOp.eql 25 (errV E) Value.nilIface).run Tryz.prog w = .ok (.bool (decide (E = 0))) w := by
  unfold errV
  by_cases h : E = 0
  · rw [if_pos h]
    simp [h, go_sem]
  · rw [if_neg h]
    simp [h, go_sem]

end Go.Proofs.YthkibjhhlcfceajGreatDoor.Ev

/-
  share.outside, share.check: by their contracts.
-/
namespace Go.Proofs.YthkibjhhlcfceajGreatDoor.Shr
open Go.RowKit
open Go.Proofs.YthkibjhhlcfceajGreatDoor.Tre Go.Proofs.YthkibjhhlcfceajGreatDoor.Cnt Go.Proofs.YthkibjhhlcfceajGreatDoor.Bnd
set_option linter.unusedVariables false

/-- A number is not from 0 to m. -/
def outs (m n : Int) : Bool := decide (n < 0) || decide (m < n)
theorem any_of (c : Int) (l : List Int) (k : Nat) (hk : k < l.length) (h : outs c l[k] = true) : l.any (outs c) = true :=
  List.any_eq_true.2 ⟨l[k], List.getElem_mem hk, h⟩
theorem any_step (c : Int) (l : List Int) (k : Nat) (hk : k < l.length) (h0 : (l.take k).any (outs c) = false) (h : outs c l[k] = false) : (l.take (k + 1)).any (outs c) = false := by
  rw [List.take_succ_eq_append_getElem hk, List.any_append, h0]
  simp [h]

theorem outside1 (c n : Int) (B : Nat) (w : World) (hc : w.cell? ⟨B, 0, none⟩ = some (.int .i64 c)) :
    Calls Tryz.prog 102 #[.int .i64 n, .pointer (some ⟨B, 0, none⟩)] w fun e w' => e = .returned (.bool (outs c n)) ∧ w' = w := by
  by_cases h1 : n < 0
  · have h3 : decide (n < 0) = true := by simpa using h1
    go_enter Tryz.func102, Tryz.ntmps102
    go_wp2
    go_ret
    exact ⟨by simp [outs, h3], rfl⟩
  · have h2 : decide (n < 0) = false := by simpa using h1
    go_enter Tryz.func102, Tryz.ntmps102
    go_wp2
    go_ret
    exact ⟨by simp [outs, h2], rfl⟩

set_option maxHeartbeats 400000 in
theorem indexFunc (c : Int) (a : Option Addr) (cap : Nat) (l : List Int) (B : Nat) (w : World) (hl : l.length ≤ 9223372036854775807) (hr : Row w a l) (hc : w.cell? ⟨B, 0, none⟩ = some (.int .i64 c)) :
    Calls Tryz.prog 61 #[.slice a l.length cap, .func (.func 102) #[] #[.pointer (some ⟨B, 0, none⟩)]] w
      fun e w' => (∃ r : Int, e = .returned (.int .i64 r) ∧ (decide (0 ≤ r)) = l.any (outs c)) ∧ w' = w := by
  go_enter Tryz.func61, Tryz.ntmps61
  go_wp2
  go_loop [8] (fun i => ∃ k : Nat, k ≤ l.length ∧ i = .int .i64 k ∧ (l.take k).any (outs c) = false) (fun i => l.length - (intOf i).toNat)
  case atStart => exact ⟨0, Nat.zero_le _, rfl, by simp⟩
  case round =>
    obtain ⟨k, hk, rfl, hno⟩ := hrel
    have HNO : Hid ((l.take k).any (outs c) = false) := hno
    clear hno
    by_cases hlt : k < l.length
    · obtain ⟨b, off, rfl, hb, hcs⟩ := hr.at hlt
      have hck := hcs k hlt
      clear hcs
      go_wp2_with (go_at_call 102; refine (outside1 c _ _ _ hc).mono ?_; rintro e w' ⟨rfl, rfl⟩)
      · go_ret
        have hh : outs c l[k] = true := by assumption
        exact ⟨⟨k, rfl, by rw [any_of c l k hlt hh]; simp⟩, rfl⟩
      · have hh : outs c l[k] = false := by assumption
        go_round
        case rel => exact ⟨k + 1, by omega, by go_num, any_step c l k hlt HNO.out hh⟩
        case measure => simp [intOf]; omega
    · go_wp2
      go_ret
      have hh := HNO.out
      rw [List.take_of_length_le (by omega)] at hh
      exact ⟨⟨-1, rfl, by rw [hh]; rfl⟩, rfl⟩

theorem containsFunc (c : Int) (a : Option Addr) (cap : Nat) (l : List Int) (B : Nat) (w : World) (hl : l.length ≤ 9223372036854775807) (hr : Row w a l) (hc : w.cell? ⟨B, 0, none⟩ = some (.int .i64 c)) :
    Calls Tryz.prog 34 #[.slice a l.length cap, .func (.func 102) #[] #[.pointer (some ⟨B, 0, none⟩)]] w
      fun e w' => e = .returned (.bool (l.any (outs c))) ∧ w' = w := by
  go_enter Tryz.func34, Tryz.ntmps34
  go_wp2_with fail
  refine (indexFunc c a cap l B w hl hr hc).mono ?_
  rintro e w' ⟨⟨r, rfl, hr2⟩, rfl⟩
  have HR := hide hr2
  clear hr2
  go_wp2
  go_ret
  exact ⟨by rw [← unhide HR]; rfl, rfl⟩

theorem boxed_cell (w : World) (c : Int) (t : TypeId) : (w.alloc (.cells #[.int .i64 c] t)).cell? ⟨w.heap.size, 0, none⟩ = some (.int .i64 c) := by
  rw [World.cell?_alloc_at _ _ _ _ rfl]; rfl
theorem below_box (w : World) (v : Value) (t : TypeId) : Below w.heap.size w (w.alloc (.cells #[v] t)) := (Below.refl _ _).alloc (Nat.le_refl _) _

theorem outside (c : Int) (w : World) : Calls Tryz.prog 77 #[.int .i64 c] w fun e w' => ∃ B : Nat, e = .returned (.func (.func 102) #[] #[.pointer (some ⟨B, 0, none⟩)]) ∧ w'.cell? ⟨B, 0, none⟩ = some (.int .i64 c) ∧ Below w.heap.size w w' := by
  have hmf : ∀ (fn : Fn) (first cap : Array Value) (w : World), (Instr.makeFunc fn first cap).run Tryz.prog w = .ok (.func fn first cap) w := fun _ _ _ _ => rfl
  go_enter Tryz.func77, Tryz.ntmps77
  go_wp2
  go_ret
  exact ⟨_, rfl, boxed_cell _ _ _, below_box _ _ _⟩

/-- The fault of sizes, and of numbers that bands have. -/
def chkF (s p : List Int) (m : Int) : Int := if bf s = 0 then (if p.length = s.length then (if p.any (outs m) = true then 1 else 0) else 3) else bf s
theorem costF_chk (s p : List Int) : costF s p = chkF s p 8 := rfl
theorem ofF_chk (s d : List Int) (B : Int) : ofF s d B = if chkF s d 8000 = 0 then (if outs 400 B = true then 1 else 0) else chkF s d 8000 := by
  have e : (lou : Int → Bool) = outs 8000 := rfl
  have e2 : (outs 400 B = true) ↔ (B < 0 ∨ 400 < B) := by simp [outs]
  unfold ofF chkF
  rw [e]
  by_cases h1 : bf s = 0
  · rw [if_pos h1, if_pos h1]
    by_cases h2 : d.length = s.length
    · rw [if_pos h2, if_pos h2]
      by_cases h3 : d.any (outs 8000) = true
      · rw [if_pos h3, if_pos h3, if_neg (by omega)]
      · rw [if_neg h3, if_neg h3, if_pos rfl]
        by_cases h4 : B < 0 ∨ 400 < B
        · rw [if_pos h4, if_pos (e2.2 h4)]
        · rw [if_neg h4, if_neg (mt e2.1 h4)]
    · rw [if_neg h2, if_neg h2, if_neg (by omega)]
  · rw [if_neg h1, if_neg h1, if_neg h1]

set_option maxHeartbeats 1000000 in
theorem check (a : Option Addr) (cap : Nat) (s : List Int) (b : Option Addr) (capb : Nat) (p : List Int) (m : Int) (w : World) (zs : s.length ≤ 9223372036854775807) (zp : p.length ≤ 9223372036854775807) (hr : Row w a s) (hp : Row w b p) :
    Calls Tryz.prog 76 #[.slice a s.length cap, .slice b p.length capb, .int .i64 m] w fun e w' => e = .returned (Ev.errV (chkF s p m)) ∧ Below w.heap.size w w' := by
  have HF : Hid (chkF s p m = if bf s = 0 then (if p.length = s.length then (if p.any (outs m) = true then 1 else 0) else 3) else bf s) := hide rfl
  obtain ⟨F, hF⟩ : ∃ F, chkF s p m = F := ⟨_, rfl⟩
  rw [hF] at HF ⊢
  clear hF
  by_cases h1 : bf s = 0
  · have hk := check_ok a cap s w zs hr h1
    have HF1 := unhide HF
    rw [if_pos h1] at HF1
    have HF2 := hide HF1
    obtain ⟨T, hT⟩ : ∃ T, (total s : Int) = T := ⟨_, rfl⟩
    rw [hT] at hk
    have hcf := hide (fun B W h1 h2 => containsFunc m b capb p B W zp h1 h2)
    obtain ⟨N, hN⟩ : ∃ N, s.length = N := ⟨_, rfl⟩
    obtain ⟨M, hM⟩ : ∃ M, p.length = M := ⟨_, rfl⟩
    rw [hN] at hk zs HF2 ⊢
    rw [hM] at hcf zp HF2 ⊢
    clear hT HF HF1 h1 hN hM hr
    by_cases h2 : M = N
    · have hne : ((M : Int) != (N : Int)) = false := by simp [h2]
      have HF3 := unhide HF2
      rw [if_pos h2] at HF3
      have HF4 := hide HF3
      have HP := hide hp
      clear HF2 HF3 h2 hp
      go_enter Tryz.func76, Tryz.ntmps76
      go_wp2_with fail
      refine hk.mono ?_
      clear hk
      rintro e w1 ⟨rfl, rfl⟩
      go_wp2_with fail
      refine (outside m _).mono ?_
      rintro e w2 ⟨B, rfl, hc2, hb2⟩
      go_wp2_with fail
      refine (unhide hcf B w2 ((unhide HP).below hb2) hc2).mono ?_
      rintro e w3 ⟨rfl, rfl⟩
      cases hT : p.any (outs m)
      · have e0 : F = 0 := by rw [unhide HF4, hT]; rfl
        subst e0
        clear HF4 hT
        go_wp2
        go_ret
        exact ⟨rfl, hb2⟩
      · have e0 : F = 1 := by rw [unhide HF4, hT]; rfl
        subst e0
        clear HF4 hT
        go_wp2
        go_ret
        exact ⟨rfl, hb2⟩
    · have hne : ((M : Int) != (N : Int)) = true := by simp; omega
      have HF3 := unhide HF2
      rw [if_neg h2] at HF3
      subst HF3
      clear HF2 h2 hcf hp
      go_enter Tryz.func76, Tryz.ntmps76
      go_wp2_with fail
      refine hk.mono ?_
      clear hk
      rintro e w1 ⟨rfl, rfl⟩
      go_wp2
      go_ret
      exact ⟨rfl, Below.refl _ _⟩
  · have hk := check_no a cap s w zs hr h1
    have e0 := unhide HF
    rw [if_neg h1] at e0
    rw [← e0] at hk h1
    have HE := hide (Ev.errV_ne h1)
    obtain ⟨N, hN⟩ : ∃ N, s.length = N := ⟨_, rfl⟩
    obtain ⟨M, hM⟩ : ∃ M, p.length = M := ⟨_, rfl⟩
    rw [hN] at hk ⊢
    rw [hM]
    clear hN hM zs zp hr hp HF e0 h1
    go_enter Tryz.func76, Tryz.ntmps76
    go_wp2_with fail
    refine hk.mono ?_
    clear hk
    rintro e w1 ⟨rfl, rfl⟩
    go_wp2
    go_ret
    exact ⟨by rw [unhide HE]; rfl, Below.refl _ _⟩

end Go.Proofs.YthkibjhhlcfceajGreatDoor.Shr

/-
  A list of this call's own of which the first are already new: one more is set.
-/
namespace Go.Proofs.YthkibjhhlcfceajGreatDoor.Mid
open Go.RowKit
open Go.Proofs.YthkibjhhlcfceajGreatDoor.Tre Go.Proofs.YthkibjhhlcfceajGreatDoor.Lap
set_option linter.unusedVariables false

theorem row_cell {w : World} {a : Option Addr} {l : List Int} (h : Row w a l) (h0 : 0 < l.length) : ∃ b off, a = some ⟨b, off, none⟩ ∧ b < w.heap.size ∧ ∀ j, j < l.length → w.cell? ⟨b, off + j, none⟩ = some (.int .i64 (at0 l j)) := by
  obtain ⟨b, off, e, hb, hc⟩ := h.at h0
  exact ⟨b, off, e, hb, fun j hj => (hc j hj).trans (by rw [List.getD_eq_getElem?_getD]; rfl)⟩

theorem put_mid {wr : World} {base g n c j : Nat} {f f0 : Nat → Int} {X : Int} (h : Has wr base (.slice (some ⟨g, 0, none⟩) n c) (mid f f0 n j)) (hj : j < n) (hx : f j = X) (q : Nat) :
    Has ((wr.drewN q).setCell ⟨g, j, none⟩ (.int .i64 X)) base (.slice (some ⟨g, 0, none⟩) n c) (mid f f0 n (j + 1)) ∧
      (∀ u m, Has wr base u m → Off u (.slice (some ⟨g, 0, none⟩) n c) → Has ((wr.drewN q).setCell ⟨g, j, none⟩ (.int .i64 X)) base u m) ∧
      (∀ w, Below base w wr → base ≤ g → Below base w ((wr.drewN q).setCell ⟨g, j, none⟩ (.int .i64 X))) := by
  have h1 : Has (wr.drewN q) base (.slice (some ⟨g, 0, none⟩) n c) (mid f f0 n j) := h
  obtain ⟨h2, h3⟩ := h1.put j X
  refine ⟨?_, fun u m hu ho => ?_, fun w hb hg => ?_⟩
  · rw [← mid_set f f0 hj, hx]; exact h2
  · exact Has.beside (show Has (wr.drewN q) base u m from hu) rfl ho h3
  · exact Below.setCell (w := wr.drewN q) (p := ⟨g, j, none⟩) (hb.trans ⟨rfl, rfl, rfl, Nat.le_refl _, fun _ _ => rfl⟩) hg _

end Go.Proofs.YthkibjhhlcfceajGreatDoor.Mid

/-
  A row's numbers, each in its cell.
-/
namespace Go.Proofs.YthkibjhhlcfceajGreatDoor.Bnd
open Go.RowKit
open Go.Proofs.YthkibjhhlcfceajGreatDoor.Tre
set_option linter.unusedVariables false

theorem cell_at {w : World} {a : Option Addr} {l : List Int} (h : Row w a l) (h0 : 0 < l.length) : ∃ b off, a = some ⟨b, off, none⟩ ∧ b < w.heap.size ∧ ∀ j, j < l.length → w.cell? ⟨b, off + j, none⟩ = some (.int .i64 (at0 l j)) := by
  obtain ⟨b, off, e, hb, hc⟩ := h.at h0
  exact ⟨b, off, e, hb, fun j hj => (hc j hj).trans (by rw [List.getD_eq_getElem?_getD]; rfl)⟩

end Go.Proofs.YthkibjhhlcfceajGreatDoor.Bnd

/-
  make of integers: zeros of this call's own.
-/
namespace Go.Proofs.YthkibjhhlcfceajGreatDoor
open Go.RowKit
open Go.Proofs.YthkibjhhlcfceajGreatDoor.Tre
set_option linter.unusedVariables false

theorem upto_zeros (n : Nat) : upto (fun _ => 0) n = List.replicate n 0 := by
  refine eq_of_at (by rw [upto_length, List.length_replicate]) fun i hi => ?_
  rw [upto_length] at hi
  rw [upto_at _ hi]
  simp [at0, hi]

theorem wpList_mk {ops : Array Oper} {rest : List Oper} {o : Oper} {a : Act} {Q : Exit → Act → World → Prop} (w : World) (hgd : o.guard = none) (s : Operand)
    (ho : o.op = .makeSlice 22 s s) (n : Nat) (hs : a.eval s = .int .i64 n) (hn : n ≤ 1000000)
    (h : ∀ w', Has w' w.heap.size (.slice (some ⟨w.heap.size, 0, none⟩) n n) (upto (fun _ => 0) n) → Below w.heap.size w w' → wpList Tryz.prog ops Q rest (a.put o.dst (.slice (some ⟨w.heap.size, 0, none⟩) n n)) w') :
    wpList Tryz.prog ops Q (o :: rest) a w := by
  obtain ⟨i0, hi, hz0, hz1, hz2⟩ := info_parts info_int
  refine wpList_make_full w hgd s s 22 ho w.heap.size 3 i0 (.int .i64 0) 1 Tryz.underlying22 hi hz0 hz1 _ _ _ _ n hs hs rfl rfl (by rw [hz2]; omega) (by unfold maxLen; omega) (Nat.le_refl _) ?_
  intro w2 hown hgrow
  rw [Nat.mul_one] at hown
  refine h w2 ?_ ((Below.refl _ _).grown hgrow (Nat.le_refl _) (by intro k hk; cases hk))
  unfold Has
  rw [upto_zeros, List.map_replicate, List.length_replicate, ← toList_madeCells_one]
  exact hown

end Go.Proofs.YthkibjhhlcfceajGreatDoor
