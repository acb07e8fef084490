/-
  A region that draws its order, whose last operation waits for all others: words for the orders it may take.
-/
import Derived.Test.YthkibjhhlcfceaiDoorCh00
import Derived.Orders
import Derived.Deep.QuietTactic
import Derived.BigQuiet
import Derived.Test.YthkibjhhlcfceaiDoorCh18
namespace Go.Proofs.YthkibjhhlcfceaiDoor.Itr
open Go.RowKit
set_option linter.unusedVariables false

section
variable {ops ops' : Array Oper} {k : Nat} {o o' : Oper}
/-- What is asked of the operations: the two lists are the same but for the last one, which is stilled in the second; each waits for earlier ones alone, and the last for all. -/
structure Lasts (ops ops' : Array Oper) (k : Nat) (o o' : Oper) : Prop where
  at_k : ops[k]? = some o
  at_k' : ops'[k]? = some o'
  size : ops.size = k + 1
  size' : ops'.size = k + 1
  same : ∀ (i : Nat), i ≠ k → ops'[i]? = ops[i]?
  after : o'.after = o.after
  dst' : o'.dst = none
  plain : ∀ (i : Nat) (p : Oper), ops[i]? = some p → p.guard = none ∧ ∀ c, p.op ≠ Op.defer c
  early : ∀ (i : Nat) (p : Oper), ops[i]? = some p → ∀ e ∈ p.after, Region.binds .any e = true → e.on < i
  all : ∀ (j : Nat), j < k → ∃ e ∈ o.after, Region.binds .any e = true ∧ e.on = j

theorem Lasts.ready (h : Lasts ops ops' k o o') (s : Array Bool) (i : Nat) : i ∈ Region.ready .any ops' s ↔ i ∈ Region.ready .any ops s := by
  rw [mem_ready, mem_ready]
  by_cases e : i = k
  · subst e
    rw [h.at_k, h.at_k']
    constructor
    · rintro ⟨h1, p, h2, h3⟩
      cases h2
      exact ⟨h1, o, rfl, by rw [← h.after]; exact h3⟩
    · rintro ⟨h1, p, h2, h3⟩
      cases h2
      exact ⟨h1, o', rfl, by rw [h.after]; exact h3⟩
  · rw [h.same i e]
theorem getD_false_of {s : Array Bool} {i : Nat} (hi : i < s.size) (h : ¬ s.getD i true = false) : s.getD i false = true := by
  simp [Array.getD, hi] at h ⊢
  exact h
/-- While the last one has not come up, one is ready. -/
theorem Lasts.goes (h : Lasts ops ops' k o o') (s : Array Bool) (hs : s.size = k + 1) (hk : s.getD k true = false) : Region.ready .any ops s ≠ [] := by
  -- the first one that has not come up
  have key : ∀ m, m ≤ k → (∀ j, j < m → s.getD j false = true) ∨ ∃ i, i < m ∧ s.getD i true = false ∧ ∀ j, j < i → s.getD j false = true := by
    intro m
    induction m with
    | zero => intro _; exact Or.inl (fun j hj => by omega)
    | succ m ih =>
      intro hm
      rcases ih (by omega) with h1 | ⟨i, h1, h2, h3⟩
      · by_cases e : s.getD m true = false
        · exact Or.inr ⟨m, by omega, e, h1⟩
        · refine Or.inl (fun j hj => ?_)
          by_cases e' : j = m
          · subst e'; exact getD_false_of (by omega) e
          · exact h1 j (by omega)
      · exact Or.inr ⟨i, by omega, h2, h3⟩
  have first : ∃ i, i ≤ k ∧ s.getD i true = false ∧ ∀ j, j < i → s.getD j false = true := by
    rcases key k (Nat.le_refl _) with h1 | ⟨i, h1, h2, h3⟩
    · exact ⟨k, Nat.le_refl _, hk, h1⟩
    · exact ⟨i, by omega, h2, h3⟩
  obtain ⟨i, h1, h2, h3⟩ := first
  intro he
  have hp : ops[i]? = some (ops[i]'(by rw [h.size]; omega)) := Array.getElem?_eq_getElem _
  have hm : i ∈ Region.ready .any ops s := mem_ready.2 ⟨h2, _, hp, fun e hin hb => h3 e.on (h.early i _ hp e hin hb)⟩
  rw [he] at hm
  cases hm
/-- When the last one comes up all others have. -/
theorem Lasts.ends (h : Lasts ops ops' k o o') (s : Array Bool) (hs : s.size = k + 1) (hk : k ∈ Region.ready .any ops s) : Region.ready .any ops (s.setIfInBounds k true) = [] := by
  rw [List.eq_nil_iff_forall_not_mem]
  intro j hj
  obtain ⟨h1, p, h2, _⟩ := mem_ready.1 hj
  have hjk : j < k + 1 := by rw [← h.size]; exact (Array.getElem?_eq_some_iff.1 h2).1
  by_cases e : j = k
  · subst e
    simp [hs] at h1
  · have e1 : (s.setIfInBounds k true).getD j true = s.getD j true := by simp [Array.getD, show j < s.size by omega, show k ≠ j from fun x => e x.symm]
    rw [e1] at h1
    obtain ⟨_, q, h3, h4⟩ := mem_ready.1 hk
    rw [h.at_k] at h3
    cases h3
    obtain ⟨x, hx, hb, hon⟩ := h.all j (by omega)
    have h5 := h4 x hx hb
    rw [hon] at h5
    simp [Array.getD, show j < s.size by omega] at h1 h5
    rw [h1] at h5
    cases h5

end

/-- The last operation is stilled. -/
def calm : List Oper → List Oper
  | [] => []
  | [o] => [{ o with dst := none, op := .move (.const undef) }]
  | o :: p :: r => o :: calm (p :: r)
/-- What is asked of the operations, reckoned. -/
def fits (l : List Oper) : Bool :=
  l.all (fun o => o.guard.isNone && (match o.op with | .defer _ => false | _ => true)) &&
  (List.range l.length).all (fun i => match l[i]? with | some o => o.after.all (fun e => !Region.binds .any e || decide (e.on < i)) | none => false) &&
  (match l.getLast? with | some o => (List.range (l.length - 1)).all (fun j => o.after.any (fun e => Region.binds .any e && decide (e.on = j))) | none => false)

theorem calm_length (l : List Oper) : (calm l).length = l.length := by
  induction l with
  | nil => rfl
  | cons o l ih =>
    cases l with
    | nil => rfl
    | cons p r => simp only [calm, List.length_cons, ih]
theorem calm_same (l : List Oper) : ∀ i, i + 1 < l.length → (calm l)[i]? = l[i]? := by
  induction l with
  | nil => intro i hi; simp at hi
  | cons o l ih =>
    cases l with
    | nil => intro i hi; simp at hi
    | cons p r =>
      intro i hi
      cases i with
      | zero => simp [calm]
      | succ i =>
        simp only [calm, List.getElem?_cons_succ]
        exact ih i (by simpa using hi)
theorem calm_last (l : List Oper) (o : Oper) (h : l.getLast? = some o) : (calm l).getLast? = some { o with dst := none, op := .move (.const undef) } := by
  induction l with
  | nil => cases h
  | cons p l ih =>
    cases l with
    | nil => simp at h; subst h; simp [calm]
    | cons q r =>
      rw [List.getLast?_cons_cons] at h
      have := ih h
      simp only [calm]
      cases hc : calm (q :: r) with
      | nil => rw [hc] at this; cases this
      | cons x y => rw [List.getLast?_cons_cons, ← hc]; exact this

theorem lasts_of {l : List Oper} (h : fits l = true) : ∃ o, l.getLast? = some o ∧ Lasts l.toArray (calm l).toArray (l.length - 1) o { o with dst := none, op := .move (.const undef) } := by
  unfold fits at h
  rw [Bool.and_eq_true, Bool.and_eq_true] at h
  obtain ⟨⟨h1, h2⟩, h3⟩ := h
  cases ho : l.getLast? with
  | none => rw [ho] at h3; cases h3
  | some o =>
    rw [ho] at h3
    simp only at h3
    have hne : 0 < l.length := by
      cases l with
      | nil => cases ho
      | cons a b => simp
    have hl1 : l[l.length - 1]? = some o := by rw [← List.getLast?_eq_getElem?]; exact ho
    have hl2 := calm_last l o ho
    rw [List.getLast?_eq_getElem?, calm_length] at hl2
    refine ⟨o, rfl, ⟨by simpa using hl1, by simpa using hl2, by simp; omega, by simp [calm_length]; omega, fun i hi => ?_, rfl, rfl, fun i p hp => ?_, fun i p hp e he hb => ?_, fun j hj => ?_⟩⟩
    · by_cases e : i + 1 < l.length
      · simpa using calm_same l i e
      · have : l.length ≤ i := by omega
        simp [List.getElem?_eq_none this, List.getElem?_eq_none (show (calm l).length ≤ i by rw [calm_length]; exact this)]
    · have hp' : l[i]? = some p := by simpa using hp
      have hm := List.all_eq_true.1 h1 p (List.mem_of_getElem? hp')
      rw [Bool.and_eq_true] at hm
      refine ⟨by simpa using hm.1, fun c hc => ?_⟩
      have := hm.2
      rw [hc] at this
      cases this
    · have hp' : l[i]? = some p := by simpa using hp
      have hi : i < l.length := by
        rcases Nat.lt_or_ge i l.length with x | x
        · exact x
        · rw [List.getElem?_eq_none x] at hp'; cases hp'
      have hm := List.all_eq_true.1 h2 i (List.mem_range.2 hi)
      rw [hp'] at hm
      have hm2 := (Array.all_eq_true_iff_forall_mem.1 hm) e he
      rw [hb] at hm2
      simpa using hm2
    · have hm := List.all_eq_true.1 h3 j (List.mem_range.2 hj)
      obtain ⟨e, he, hb⟩ := Array.any_eq_true'.1 hm
      rw [Bool.and_eq_true] at hb
      exact ⟨e, he, hb.1, by simpa using hb.2⟩

end Go.Proofs.YthkibjhhlcfceaiDoor.Itr

/-
  A region that draws its order, whose operations only read, and whose calls leave all that there was as it was (they may make memory): one walk of the text's order serves every order; so too where its last operation, which waits for all others, writes.
-/
namespace Go.Proofs.YthkibjhhlcfceaiDoor.Itr
open Go.RowKit
set_option linter.unusedVariables false

/-- The worlds in which all that there was is as it was. -/
structure Cls (w : World) where
  val : World
  ok : Below w.heap.size w val
instance (w : World) : Nonempty (Cls w) := ⟨⟨w, Below.refl _ _⟩⟩
theorem Cls.cell {w : World} (W : Cls w) {B j : Nat} {v : Value} (hB : B < w.heap.size) (h : w.cell? ⟨B, j, none⟩ = some v) : W.val.cell? ⟨B, j, none⟩ = some v := (W.ok.cell (p := ⟨B, j, none⟩) hB).trans h
theorem calm_call {P : Program} {f : FuncId} {args : Array Value} {w : World} {W : Cls w} {v : Value} (h : Calls P f args W.val fun e w' => e = .returned v ∧ Below W.val.heap.size W.val w') :
    Calls P f args W.val fun e w'' => e = .returned v ∧ ∃ W' : Cls w, w'' = W'.val :=
  h.mono fun _ w' ⟨he, hb⟩ => ⟨he, ⟨w', Below.chain W.ok hb⟩, rfl⟩
theorem cls_drew (w : World) : ∃ W : Cls w, { w with drawn := w.drawn + 1 } = W.val := ⟨⟨{ w with drawn := w.drawn + 1 }, ⟨rfl, rfl, rfl, Nat.le_refl _, fun _ _ => rfl⟩⟩, rfl⟩

theorem region_calm {P : Program} {id : Nat} {Q : Exit → Act → World → Prop} {a : Act} {w : World} {l : List Oper} (hm : P.follows .mixedOrders = true) (hB : Region.lexB .any l.toArray = true)
    (h : wpQuiet P l.toArray (fun w' => ∃ W : Cls w, w' = W.val) (fun a' => ∀ w', (∃ W : Cls w, w' = W.val) → Q .normal a' w') l a) : (Code.region id l.toArray true).wp P Q a w :=
  wp_region_quiet (C := fun w' => ∃ W : Cls w, w' = W.val) hm hB (cls_drew w) (by simpa using h)

section
variable {P : Program} {C : World → Prop} {ops ops' : Array Oper} {k : Nat} {o o' : Oper}
theorem any_calm {Q1 : Act → Prop} {Q : Exit → Act → World → Prop} (h : Lasts ops ops' k o o') (hQ : ∀ a w, C w → Q1 a → wpList P ops Q [o] a w) :
    ∀ (fuel : Nat) (s : Array Bool) (a : Act) (w : World), s.size = k + 1 → s.getD k true = false → C w → wpAnyQ P .any ops' C Q1 fuel s a → wpAny P .any ops Q fuel s a w := by
  have rd : ∀ s, Region.ready .any ops' s = [] ↔ Region.ready .any ops s = [] := fun s => by
    rw [List.eq_nil_iff_forall_not_mem, List.eq_nil_iff_forall_not_mem]
    exact ⟨fun x i hi => x i ((h.ready s i).2 hi), fun x i hi => x i ((h.ready s i).1 hi)⟩
  intro fuel
  induction fuel with
  | zero =>
    intro s a w hs hk hw hh
    exact absurd ((rd s).1 hh.1) (h.goes s hs hk)
  | succ fuel ih =>
    intro s a w hs hk hw hh
    refine ⟨fun h0 => absurd h0 (h.goes s hs hk), fun i hi => ?_⟩
    have hq := hh.2 i ((h.ready s i).2 hi)
    by_cases e : i = k
    · subst e
      obtain ⟨v, _, hK⟩ := yieldsIn_of_qOp h.at_k' hq
      rw [h.dst'] at hK
      have hend := h.ends s hs hi
      have hq1 : Q1 a := by
        cases fuel with
        | zero => exact hK.2
        | succ m => exact hK.1 ((rd _).2 hend)
      have hl := hQ a w hw hq1
      unfold wpOp
      simp only [h.at_k]
      have hwt : Region.wanted o (yielded ops a.tmps) = true := by simp [Region.wanted, (h.plain i o h.at_k).1]
      unfold wpList at hl
      rw [if_pos hwt] at hl ⊢
      refine hl.imp (fun h1 => Oper.wp_mono (fun a' w' hn => ?_) h1) (fun h2 => h2)
      have hn' : Q .normal a' w' := hn
      cases fuel with
      | zero => exact ⟨hend, hn'⟩
      | succ m => exact ⟨fun _ => hn', fun j hj => by rw [hend] at hj; cases hj⟩
    · unfold qOp at hq
      unfold wpOp
      rw [h.same i e] at hq
      cases hp : ops[i]? with
      | none =>
        obtain ⟨_, q, h2, _⟩ := mem_ready.1 hi
        rw [hp] at h2; cases h2
      | some p =>
        simp only [hp] at hq ⊢
        obtain ⟨hg, hnd⟩ := h.plain i p hp
        have hwt : ∀ ops2, Region.wanted p (yielded ops2 a.tmps) = true := fun ops2 => by simp [Region.wanted, hg]
        rw [if_pos (hwt _)] at hq ⊢
        refine Or.inl (Oper.wp_of_quiet hw (fun a' w' hw' hk' => ih _ a' w' (by simp [hs]) ?_ hw' hk') hq)
        have e1 : (s.setIfInBounds i true).getD k true = s.getD k true := by simp [Array.getD, show k < s.size by omega, e]
        rw [e1]; exact hk
end

theorem region_calm_last {P : Program} {id : Nat} {Q : Exit → Act → World → Prop} {a : Act} {w : World} {l : List Oper} (o : Oper) (ho : l.getLast? = some o) (hm : P.follows .mixedOrders = true) (hB : Region.lexB .any (calm l).toArray = true) (hf : fits l = true)
    (h : wpQuiet P (calm l).toArray (fun w' => ∃ W : Cls w, w' = W.val) (fun a' => ∀ w', (∃ W : Cls w, w' = W.val) → wpList P l.toArray Q [o] a' w') (calm l) a) :
    (Code.region id l.toArray true).wp P Q a w := by
  obtain ⟨o2, ho2, hL⟩ := lasts_of hf
  rw [ho] at ho2
  cases ho2
  have hne : 0 < l.length := by
    cases l with
    | nil => cases ho
    | cons a b => simp
  simp only [Region.lexB, Bool.and_eq_true] at hB
  have h2 := wpAnyQ_lex (C := fun w' => ∃ W : Cls w, w' = W.val) (md := .any) hB.1 (calm l) 0 (Array.replicate (calm l).toArray.size false) a (by simp) (by simpa using hB.2) h
  refine wp_region_any hm (any_calm hL (Q1 := fun a' => ∀ w', (∃ W : Cls w, w' = W.val) → wpList P l.toArray Q [o] a' w') (fun a w hw hq => hq w hw) _ _ _ _ (by simp; omega) (by simp [Array.getD]; omega) (cls_drew w) ?_)
  have e1 : l.toArray.size = (calm l).length := by rw [calm_length]; simp
  have e2 : Array.replicate l.toArray.size false = Array.replicate (calm l).toArray.size false := by rw [e1]; simp
  rw [e2, e1]
  exact h2

end Go.Proofs.YthkibjhhlcfceaiDoor.Itr

/-
  The function that share.Of makes: by its contract.
-/
namespace Go.Proofs.YthkibjhhlcfceaiDoor.Shr
open Go.RowKit
open Go.Proofs.YthkibjhhlcfceaiDoor.Itr Go.Proofs.YthkibjhhlcfceaiDoor.Tre Go.Proofs.YthkibjhhlcfceaiDoor.Cnt Go.Proofs.YthkibjhhlcfceaiDoor.Bnd
set_option linter.unusedVariables false

set_option maxHeartbeats 4000000 in
theorem afford (i Bz Bp Bl : Nat) (s o : List Int) (L : Int) (w : World) (hi : i < o.length) (hl : s.length = o.length) (h8 : o.length ≤ 8) (hs : Sizes s) (h0 : 0 ≤ at0 o i) (h7 : at0 o i < 8) (hbz : BoxR w Bz s) (hbp : BoxR w Bp o) (hbl : Boxed w Bl 3 (.int .i64 L)) :
    Calls Tryd.prog 59 #[.int .i64 i, .pointer (some ⟨Bz, 0, none⟩), .pointer (some ⟨Bp, 0, none⟩), .pointer (some ⟨Bl, 0, none⟩)] w fun e w' => e = .returned (.bool (decide (pr (at0 s i).toNat (at0 o i).toNat ≤ L))) ∧ Below w.heap.size w w' := by
  obtain ⟨g1, off1, c1, z1, z2, z3⟩ := hbz
  obtain ⟨g2, off2, c2, p1, p2, p3⟩ := hbp
  have x1 := z1.cell
  have x2 := z3 i (by omega)
  have y1 := p1.cell
  have y2 := p3 i hi
  have s1 := hs i (by omega)
  obtain ⟨S, hS⟩ : ∃ S : Nat, at0 s i = S := ⟨(at0 s i).toNat, by omega⟩
  obtain ⟨P, hP⟩ : ∃ P : Nat, at0 o i = P := ⟨(at0 o i).toNat, by omega⟩
  have eS : (at0 s i).toNat = S := by omega
  have eP : (at0 o i).toNat = P := by omega
  rw [eS, eP]
  rw [hS] at x2 s1
  rw [hP] at y2 h0 h7
  have HPR := hide (fun W => price S P (by omega) (by omega) W)
  have hpr := pr_in (n := S) (k := P) (by omega) (by omega)
  obtain ⟨R, hR⟩ : ∃ R, pr S P = R := ⟨_, rfl⟩
  rw [hR] at HPR hpr ⊢
  obtain ⟨N, hN⟩ : ∃ N, o.length = N := ⟨_, rfl⟩
  rw [hl, hN] at x1
  rw [hN] at y1 hi h8
  have l1 := hbl.cell
  have X1 : ∀ W : Cls w, W.val.cell? ⟨Bz, 0, none⟩ = _ := fun W => W.cell z1.lt x1
  have X2 : ∀ W : Cls w, W.val.cell? ⟨g1, off1 + i, none⟩ = _ := fun W => W.cell z2 x2
  have Y1 : ∀ W : Cls w, W.val.cell? ⟨Bp, 0, none⟩ = _ := fun W => W.cell p1.lt y1
  have Y2 : ∀ W : Cls w, W.val.cell? ⟨g2, off2 + i, none⟩ = _ := fun W => W.cell p2 y2
  have L1 : ∀ W : Cls w, W.val.cell? ⟨Bl, 0, none⟩ = _ := fun W => W.cell hbl.lt l1
  clear z1 z2 z3 p1 p2 p3 hS hP eS eP hN hR hl hs hbl s1 h0 h7 x1 x2 y1 y2 l1
  go_enter Tryd.func59, Tryd.ntmps59
  go_wp2
  refine region_calm (by kernel_rfl) (by kernel_rfl) ?_
  repeat (go_big_quiet_step ((go_at_call 60; exact calm_call (unhide HPR _))))
  refine wpQuiet_nil ?_
  intro _ hw'
  obtain ⟨WQ, hw''⟩ := hw'
  subst hw''
  go_wp2
  go_ret
  exact ⟨rfl, WQ.ok⟩

end Go.Proofs.YthkibjhhlcfceaiDoor.Shr
