/-
  A region that draws its order, whose operations only read, and whose calls leave all that there was as it was (they may make memory): one walk of the text's order serves every order; so too where its last operation, which waits for all others, writes.
-/
import Derived.Test.YtkkhgdkgbhdfaakGreatDoorRa08
import Derived.Deep.QuietTactic
import Derived.BigQuiet
namespace Go.Proofs.YtkkhgdkgbhdfaakGreatDoor.Itr
open Go.RowKit
set_option linter.unusedVariables false

/-- The worlds in which all that there was is as it was. -/
structure Cls (w : World) where
  val : World
  ok : Below w.heap.size w val
instance (w : World) : Nonempty (Cls w) := ⟨⟨w, Below.refl _ _⟩⟩
theorem Cls.cell {w : World} (W : Cls w) {B j : Nat} {v : Value} (hB : B < w.heap.size) (h : w.cell? ⟨B, j, none⟩ = some v) : W.val.cell? ⟨B, j, none⟩ = some v := (W.ok.cell (p := ⟨B, j, none⟩) hB).trans h
theorem calm_call {P : Program} {f : FuncId} {args : Array Value} {w : World} {W : Cls w} {v : Value} (h : Calls P f args W.val fun e w' => e = .returned v ∧ Below W.val.heap.size W.val w') :
    Calls P f args W.val fun e w'' => e = .returned v ∧ ∃ W' : Cls w, w'' = W'.val :=
  h.mono fun _ w' ⟨he, hb⟩ => ⟨he, ⟨w', Below.chain W.ok hb⟩, rfl⟩
theorem cls_drew (w : World) : ∃ W : Cls w, { w with drawn := w.drawn + 1 } = W.val := ⟨⟨{ w with drawn := w.drawn + 1 }, ⟨rfl, rfl, rfl, Nat.le_refl _, fun _ _ => rfl⟩⟩, rfl⟩

theorem region_calm {P : Program} {id : Nat} {Q : Exit → Act → World → Prop} {a : Act} {w : World} {l : List Oper} (hm : P.follows .mixedOrders = true) (hB : Region.lexB .any l.toArray = true)
    (h : wpQuiet P l.toArray (fun w' => ∃ W : Cls w, w' = W.val) (fun a' => ∀ w', (∃ W : Cls w, w' = W.val) → Q .normal a' w') l a) : (Code.region id l.toArray true).wp P Q a w :=
  wp_region_quiet (C := fun w' => ∃ W : Cls w, w' = W.val) hm hB (cls_drew w) (by simpa using h)

section
variable {P : Program} {C : World → Prop} {ops ops' : Array Oper} {k : Nat} {o o' : Oper}
theorem any_calm {Q1 : Act → Prop} {Q : Exit → Act → World → Prop} (h : Lasts ops ops' k o o') (hQ : ∀ a w, C w → Q1 a → wpList P ops Q [o] a w) :
    ∀ (fuel : Nat) (s : Array Bool) (a : Act) (w : World), s.size = k + 1 → s.getD k true = false → C w → wpAnyQ P .any ops' C Q1 fuel s a → wpAny P .any ops Q fuel s a w := by
  have rd : ∀ s, Region.ready .any ops' s = [] ↔ Region.ready .any ops s = [] := fun s => by
    rw [List.eq_nil_iff_forall_not_mem, List.eq_nil_iff_forall_not_mem]
    exact ⟨fun x i hi => x i ((h.ready s i).2 hi), fun x i hi => x i ((h.ready s i).1 hi)⟩
  intro fuel
  induction fuel with
  | zero =>
    intro s a w hs hk hw hh
    exact absurd ((rd s).1 hh.1) (h.goes s hs hk)
  | succ fuel ih =>
    intro s a w hs hk hw hh
    refine ⟨fun h0 => absurd h0 (h.goes s hs hk), fun i hi => ?_⟩
    have hq := hh.2 i ((h.ready s i).2 hi)
    by_cases e : i = k
    · subst e
      obtain ⟨v, _, hK⟩ := yieldsIn_of_qOp h.at_k' hq
      rw [h.dst'] at hK
      have hend := h.ends s hs hi
      have hq1 : Q1 a := by
        cases fuel with
        | zero => exact hK.2
        | succ m => exact hK.1 ((rd _).2 hend)
      have hl := hQ a w hw hq1
      unfold wpOp
      simp only [h.at_k]
      have hwt : Region.wanted o (yielded ops a.tmps) = true := by simp [Region.wanted, (h.plain i o h.at_k).1]
      unfold wpList at hl
      rw [if_pos hwt] at hl ⊢
      refine hl.imp (fun h1 => Oper.wp_mono (fun a' w' hn => ?_) h1) (fun h2 => h2)
      have hn' : Q .normal a' w' := hn
      cases fuel with
      | zero => exact ⟨hend, hn'⟩
      | succ m => exact ⟨fun _ => hn', fun j hj => by rw [hend] at hj; cases hj⟩
    · unfold qOp at hq
      unfold wpOp
      rw [h.same i e] at hq
      cases hp : ops[i]? with
      | none =>
        obtain ⟨_, q, h2, _⟩ := mem_ready.1 hi
        rw [hp] at h2; cases h2
      | some p =>
        simp only [hp] at hq ⊢
        obtain ⟨hg, hnd⟩ := h.plain i p hp
        have hwt : ∀ ops2, Region.wanted p (yielded ops2 a.tmps) = true := fun ops2 => by simp [Region.wanted, hg]
        rw [if_pos (hwt _)] at hq ⊢
        refine Or.inl (Oper.wp_of_quiet hw (fun a' w' hw' hk' => ih _ a' w' (by simp [hs]) ?_ hw' hk') hq)
        have e1 : (s.setIfInBounds i true).getD k true = s.getD k true := by simp [Array.getD, show k < s.size by omega, e]
        rw [e1]; exact hk
end

theorem region_calm_last {P : Program} {id : Nat} {Q : Exit → Act → World → Prop} {a : Act} {w : World} {l : List Oper} (o : Oper) (ho : l.getLast? = some o) (hm : P.follows .mixedOrders = true) (hB : Region.lexB .any (calm l).toArray = true) (hf : fits l = true)
    (h : wpQuiet P (calm l).toArray (fun w' => ∃ W : Cls w, w' = W.val) (fun a' => ∀ w', (∃ W : Cls w, w' = W.val) → wpList P l.toArray Q [o] a' w') (calm l) a) :
    (Code.region id l.toArray true).wp P Q a w := by
  obtain ⟨o2, ho2, hL⟩ := lasts_of hf
  rw [ho] at ho2
  cases ho2
  have hne : 0 < l.length := by
    cases l with
    | nil => cases ho
    | cons a b => simp
  simp only [Region.lexB, Bool.and_eq_true] at hB
  have h2 := wpAnyQ_lex (C := fun w' => ∃ W : Cls w, w' = W.val) (md := .any) hB.1 (calm l) 0 (Array.replicate (calm l).toArray.size false) a (by simp) (by simpa using hB.2) h
  refine wp_region_any hm (any_calm hL (Q1 := fun a' => ∀ w', (∃ W : Cls w, w' = W.val) → wpList P l.toArray Q [o] a' w') (fun a w hw hq => hq w hw) _ _ _ _ (by simp; omega) (by simp [Array.getD]; omega) (cls_drew w) ?_)
  have e1 : l.toArray.size = (calm l).length := by rw [calm_length]; simp
  have e2 : Array.replicate l.toArray.size false = Array.replicate (calm l).toArray.size false := by rw [e1]; simp
  rw [e2, e1]
  exact h2

end Go.Proofs.YtkkhgdkgbhdfaakGreatDoor.Itr
