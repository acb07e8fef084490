/-
  A log, a player, and frames of this call's own, beside one another: what is done to one leaves the others as they were.
-/
import Derived.Test.YtjojeifoddonnakGreatLc15
import Derived.Test.YtjojeifoddonnakGreatLc09
import Derived.Test.YtjojeifoddonnakGreatLc01
import Derived.Test.YtjojeifoddonnakGreatLc07
import Derived.Test.YtjojeifoddonnakGreatLc14
namespace Go.Proofs.YtjojeifoddonnakGreat.Stm
open Go.RowKit
open Go.Proofs.YtjojeifoddonnakGreat.Tre Go.Proofs.YtjojeifoddonnakGreat.Frm Go.Proofs.YtjojeifoddonnakGreat.Pck Go.Proofs.YtjojeifoddonnakGreat.Hrn Go.Proofs.YtjojeifoddonnakGreat.Ev Go.Proofs.YtjojeifoddonnakGreat.Lg19 Go.Proofs.YtjojeifoddonnakGreat.Hid18
set_option linter.unusedVariables false

/-- The frames that were kept, each in blocks of the set. -/
def Frs (N : Nat → Prop) (W : World) (vs : List Value) (fs : List (List Prt)) : Prop :=
  vs.length = fs.length ∧ ∀ r, r < fs.length → ∃ a q, vs[r]? = some (.slice a (fs.getD r []).length q) ∧ PtsIn N W a (fs.getD r [])
theorem Frs.nil (N : Nat → Prop) (W : World) : Frs N W [] [] := ⟨rfl, fun r hr => by simp at hr⟩
theorem Frs.kept {N : Nat → Prop} {W W' : World} {vs : List Value} {fs : List (List Prt)} (h : Frs N W vs fs) (hz : W.heap.size ≤ W'.heap.size) (hk : ∀ j, N j → j < W.heap.size → W'.heap[j]? = W.heap[j]?) : Frs N W' vs fs :=
  ⟨h.1, fun r hr => by
    obtain ⟨a, q, h1, h2⟩ := h.2 r hr
    exact ⟨a, q, h1, h2.kept hz hk⟩⟩
theorem Frs.mono {N M : Nat → Prop} {W : World} {vs : List Value} {fs : List (List Prt)} (h : Frs N W vs fs) (hm : ∀ j, N j → M j) : Frs M W vs fs :=
  ⟨h.1, fun r hr => by
    obtain ⟨a, q, h1, h2⟩ := h.2 r hr
    exact ⟨a, q, h1, h2.mono hm⟩⟩
theorem Frs.more {N : Nat → Prop} {W : World} {vs : List Value} {fs : List (List Prt)} (h : Frs N W vs fs) {a : Option Addr} {q : Nat} {ps : List Prt} (hp : PtsIn N W a ps) : Frs N W (vs ++ [.slice a ps.length q]) (fs ++ [ps]) := by
  refine ⟨by rw [List.length_append, List.length_append, h.1]; rfl, fun r hr => ?_⟩
  rw [List.length_append] at hr
  have hr' : r < fs.length + 1 := hr
  by_cases e : r < fs.length
  · obtain ⟨a', q', h1, h2⟩ := h.2 r e
    have e2 : (fs ++ [ps]).getD r [] = fs.getD r [] := by simp [List.getD_eq_getElem?_getD, List.getElem?_append_left e]
    rw [e2]
    exact ⟨a', q', by rw [List.getElem?_append_left (by rw [h.1]; exact e)]; exact h1, h2⟩
  · obtain rfl : r = fs.length := by omega
    have e2 : (fs ++ [ps]).getD fs.length [] = ps := by simp [List.getD_eq_getElem?_getD]
    rw [e2]
    exact ⟨a, q, by rw [← h.1, List.getElem?_concat_length], hp⟩

structure Strm (HL : Holds) (HP : PHolds) (s : List Int) (B : Int) (w W : World) (Ql Qp N : Nat → Prop) (bl bp bt : Nat) (L : St) (last : List Prt) (k : Int) (M T : Int) (v : Value) (vs : List Value) (fs : List (List Prt)) : Prop where
  l : HL s B Ql W bl L
  p : HP s B Qp W bp last k
  f : HasF W w.heap.size v vs
  fr : Frs N W vs fs
  lp : ∀ j, Ql j → ¬ Qp j
  nn : ∀ j, N j → ¬ Ql j ∧ ¬ Qp j ∧ j < W.heap.size
  vo : ∀ g, v.ownBlock = some g → ¬ Ql g ∧ ¬ Qp g ∧ ¬ N g
  far : ∀ j, Ql j ∨ Qp j → w.heap.size ≤ j
  tk : Tnk.Tk W bt M M T
  tn : ¬ Ql bt ∧ ¬ Qp bt ∧ ¬ N bt ∧ v.ownBlock ≠ some bt ∧ w.heap.size ≤ bt
  below : Below w.heap.size w W
section
variable {HL : Holds} {HP : PHolds} {s : List Int} {B : Int} {w W W' : World} {Ql Qp N : Nat → Prop} {bl bp bt : Nat} {L L' : St} {last l' : List Prt} {k k' M T : Int} {v : Value} {vs : List Value} {fs : List (List Prt)}
theorem hasF_keeps {Q : Nat → Prop} {base : Nat} (h : Keeps Q W W') (hv : HasF W base v vs) (hq : ∀ k, v.ownBlock = some k → ¬ Q k) : HasF W' base v vs := by
  refine ⟨hv.1, ?_⟩
  rcases hv.2 with hn | ⟨g, cap, cur, rfl, hbg, hgg, rest⟩
  · exact .inl hn
  · exact .inr ⟨g, cap, cur, rfl, hbg, (h.block g (Array.getElem?_eq_some_iff.1 hgg).1 (hq g rfl)).trans hgg, rest⟩
theorem Strm.on (CL : LogT HL) (CP : PlayT HP) (h : Strm HL HP s B w W Ql Qp N bl bp bt L last k M T v vs fs) (hb : Below W.heap.size W W') : Strm HL HP s B w W' Ql Qp N bl bp bt L last k M T v vs fs :=
  ⟨CL.below h.l hb, CP.below h.p hb, h.f.below hb, h.fr.kept hb.size (fun j _ hj => hb.block j hj), h.lp, fun j hj => ⟨(h.nn j hj).1, (h.nn j hj).2.1, Nat.lt_of_lt_of_le (h.nn j hj).2.2 hb.size⟩, h.vo, h.far, (hb.block bt h.tk.lt).trans h.tk, h.tn, Below.chain h.below hb⟩
/-- New memory is set aside for frames. -/
theorem Strm.wide (CL : LogT HL) (CP : PlayT HP) (h : Strm HL HP s B w W Ql Qp N bl bp bt L last k M T v vs fs) (hb : Below W.heap.size W W') : Strm HL HP s B w W' Ql Qp (fun j => N j ∨ W.heap.size ≤ j ∧ j < W'.heap.size) bl bp bt L last k M T v vs fs := by
  have h' := h.on CL CP hb
  refine ⟨h'.l, h'.p, h'.f, h'.fr.mono (fun j hj => Or.inl hj), h.lp, fun j hj => ?_, fun g hg => ?_, h.far, h'.tk, ⟨h.tn.1, h.tn.2.1, fun hn => ?_, h.tn.2.2.2⟩, h'.below⟩
  · rcases hj with hj | hj
    · exact h'.nn j hj
    · refine ⟨fun hq => ?_, fun hq => ?_, hj.2⟩
      · have := CL.old h.l j hq
        omega
      · have := CP.old h.p j hq
        omega
  · refine ⟨(h.vo g hg).1, (h.vo g hg).2.1, fun hn => ?_⟩
    rcases hn with hn | hn
    · exact (h.vo g hg).2.2 hn
    · have := (h.f.lt g hg).2
      omega
  · rcases hn with hn | hn
    · exact h.tn.2.2.1 hn
    · have := h.tk.lt
      omega
theorem Strm.logs (CL : LogT HL) (CP : PlayT HP) (h : Strm HL HP s B w W Ql Qp N bl bp bt L last k M T v vs fs) (hl : Lg19.Left HL s B Ql W bl L' W') : ∃ Q', Strm HL HP s B w W' Q' Qp N bl bp bt L' last k M T v vs fs ∧ ∀ j, N j → W'.heap[j]? = W.heap[j]? := by
  obtain ⟨Q', h1, h2, h3⟩ := hl
  have hs := h.below.size
  have hN : ∀ j, N j → W'.heap[j]? = W.heap[j]? := fun j hj => h3.block j (h.nn j hj).2.2 (h.nn j hj).1
  refine ⟨Q', ⟨h1, CP.kept h.p h3.size (fun j hj => h3.block j (CP.old h.p j hj) (fun hq => h.lp j hq hj)), hasF_keeps h3 h.f (fun g hg => (h.vo g hg).1), h.fr.kept h3.size (fun j hj _ => hN j hj), fun j hj hq => ?_, fun j hj => ⟨fun hq => ?_, (h.nn j hj).2.1, Nat.lt_of_lt_of_le (h.nn j hj).2.2 h3.size⟩, fun g hg => ⟨fun hq => ?_, (h.vo g hg).2⟩, fun j hj => ?_, (h3.block bt h.tk.lt h.tn.1).trans h.tk, ⟨fun hq => ?_, h.tn.2⟩, h.below.trans (h3.below hs (fun j hj => h.far j (Or.inl hj)))⟩, hN⟩
  · rcases h2 j hj with h' | h'
    · exact h.lp j h' hq
    · have := CP.old h.p j hq
      omega
  · rcases h2 j hq with h' | h'
    · exact (h.nn j hj).1 h'
    · have := (h.nn j hj).2.2
      omega
  · rcases h2 g hq with h' | h'
    · exact (h.vo g hg).1 h'
    · have := (h.f.lt g hg).2
      omega
  · rcases hj with hj | hj
    · rcases h2 j hj with h' | h'
      · exact h.far j (Or.inl h')
      · omega
    · exact h.far j (Or.inr hj)
  · rcases h2 bt hq with h' | h'
    · exact h.tn.1 h'
    · have := h.tk.lt
      omega
theorem Strm.plays (CL : LogT HL) (CP : PlayT HP) (h : Strm HL HP s B w W Ql Qp N bl bp bt L last k M T v vs fs) (hl : LeftP HP s B Qp W bp l' k' W') : (∃ Q', Strm HL HP s B w W' Ql Q' N bl bp bt L l' k' M T v vs fs ∧ ∀ j, Q' j → Qp j ∨ W.heap.size ≤ j) ∧ Keeps Qp W W' := by
  obtain ⟨Q', h1, h2, h3⟩ := hl
  have hs := h.below.size
  refine ⟨⟨Q', ⟨CL.kept h.l h3.size (fun j hj => h3.block j (CL.old h.l j hj) (h.lp j hj)), h1, hasF_keeps h3 h.f (fun g hg => (h.vo g hg).2.1), h.fr.kept h3.size (fun j hj _ => h3.block j (h.nn j hj).2.2 (h.nn j hj).2.1), fun j hj hq => ?_, fun j hj => ⟨(h.nn j hj).1, fun hq => ?_, Nat.lt_of_lt_of_le (h.nn j hj).2.2 h3.size⟩, fun g hg => ⟨(h.vo g hg).1, fun hq => ?_, (h.vo g hg).2.2⟩, fun j hj => ?_, (h3.block bt h.tk.lt h.tn.2.1).trans h.tk, ⟨h.tn.1, fun hq => ?_, h.tn.2.2⟩, h.below.trans (h3.below hs (fun j hj => h.far j (Or.inr hj)))⟩, h2⟩, h3⟩
  · rcases h2 j hq with h' | h'
    · exact h.lp j hj h'
    · have := CL.old h.l j hj
      omega
  · rcases h2 j hq with h' | h'
    · exact (h.nn j hj).2.1 h'
    · have := (h.nn j hj).2.2
      omega
  · rcases h2 g hq with h' | h'
    · exact (h.vo g hg).2.1 h'
    · have := (h.f.lt g hg).2
      omega
  · rcases hj with hj | hj
    · exact h.far j (Or.inl hj)
    · rcases h2 j hj with h' | h'
      · exact h.far j (Or.inr h')
      · omega
  · rcases h2 bt hq with h' | h'
    · exact h.tn.2.1 h'
    · have := h.tk.lt
      omega
/-- One more frame is kept. -/
theorem Strm.app (CL : LogT HL) (CP : PlayT HP) (h : Strm HL HP s B w W Ql Qp N bl bp bt L last k M T v vs fs) {tmp : Obj} {v' : Value} {a : Option Addr} {q : Nat} {ps : List Prt} (hp : PtsIn N W a ps) (hv : HasF W' w.heap.size v' (vs ++ [.slice a ps.length q])) (hg : (W.alloc tmp).grownBy W' v.ownBlock) (ho : v'.ownBlock = v.ownBlock ∨ v'.ownBlock = some (W.alloc tmp).heap.size) :
    Strm HL HP s B w W' Ql Qp N bl bp bt L last k M T v' (vs ++ [.slice a ps.length q]) (fs ++ [ps]) := by
  have hs := h.below.size
  have hbA : Below W.heap.size W (W.alloc tmp) := (Below.refl _ _).alloc (Nat.le_refl _) _
  have hA : ∀ j, j < W.heap.size → v.ownBlock ≠ some j → W'.heap[j]? = W.heap[j]? := fun j hj hne => (hg.block j (Nat.lt_of_lt_of_le hj hbA.size) (fun e => hne e.symm)).trans (hbA.block j hj)
  have hz : W.heap.size ≤ W'.heap.size := Nat.le_trans hbA.size hg.size
  have hN : ∀ j, N j → j < W.heap.size → W'.heap[j]? = W.heap[j]? := fun j hj hlt => hA j hlt (fun e => (h.vo j e).2.2 hj)
  refine ⟨CL.kept h.l hz (fun j hj => hA j (CL.old h.l j hj) (fun e => (h.vo j e).1 hj)), CP.kept h.p hz (fun j hj => hA j (CP.old h.p j hj) (fun e => (h.vo j e).2.1 hj)), hv, (h.fr.kept hz hN).more (hp.kept hz hN), h.lp, fun j hj => ⟨(h.nn j hj).1, (h.nn j hj).2.1, Nat.lt_of_lt_of_le (h.nn j hj).2.2 hz⟩, fun g hgg => ?_, h.far, (hA bt h.tk.lt h.tn.2.2.2.1).trans h.tk, ⟨h.tn.1, h.tn.2.1, h.tn.2.2.1, ?_, h.tn.2.2.2.2⟩, ?_⟩
  · rcases ho with ho | ho
    · exact h.vo g (by rw [← ho]; exact hgg)
    · rw [ho] at hgg
      have e : (W.alloc tmp).heap.size = g := Option.some.inj hgg
      have := hbA.size
      refine ⟨fun hq => ?_, fun hq => ?_, fun hn => ?_⟩
      · have := CL.old h.l g hq
        omega
      · have := CP.old h.p g hq
        omega
      · have := (h.nn g hn).2.2
        omega
  · rcases ho with ho | ho
    · rw [ho]; exact h.tn.2.2.2.1
    · rw [ho]
      intro e
      have e : (W.alloc tmp).heap.size = bt := Option.some.inj e
      have := hbA.size
      have := h.tk.lt
      omega
  · exact h.below.trans (((Below.refl _ W).alloc hs _).grown hg (Nat.le_trans hs hbA.size) (fun j e => (h.f.lt j e).1))
/-- The tank is set. -/
theorem Strm.tank (CL : LogT HL) (CP : PlayT HP) (h : Strm HL HP s B w W Ql Qp N bl bp bt L last k M T v vs fs) (T' : Int) : Strm HL HP s B w (((W.setCell ⟨bt, 0, none⟩ (.int .i64 M)).setCell ⟨bt, 1, none⟩ (.int .i64 M)).setCell ⟨bt, 2, none⟩ (.int .i64 T')) Ql Qp N bl bp bt L last k M T' v vs fs := by
  obtain ⟨W', hW'⟩ : ∃ W', ((W.setCell ⟨bt, 0, none⟩ (.int .i64 M)).setCell ⟨bt, 1, none⟩ (.int .i64 M)).setCell ⟨bt, 2, none⟩ (.int .i64 T') = W' := ⟨_, rfl⟩
  have ht := h.tk.put M M T'
  have hbl := Tnk.below_put h.below (B := bt) h.tn.2.2.2.2 (.int .i64 M) (.int .i64 M) (.int .i64 T')
  have hA : ∀ j, j ≠ bt → (((W.setCell ⟨bt, 0, none⟩ (.int .i64 M)).setCell ⟨bt, 1, none⟩ (.int .i64 M)).setCell ⟨bt, 2, none⟩ (.int .i64 T')).heap[j]? = W.heap[j]? := fun j hj => by
    rw [Below.heap_setCell _ _ _ _ hj, Below.heap_setCell _ _ _ _ hj, Below.heap_setCell _ _ _ _ hj]
  have hz : W.heap.size ≤ (((W.setCell ⟨bt, 0, none⟩ (.int .i64 M)).setCell ⟨bt, 1, none⟩ (.int .i64 M)).setCell ⟨bt, 2, none⟩ (.int .i64 T')).heap.size := Nat.le_trans (KeepsWalks.setCell W _ _).size (Nat.le_trans (KeepsWalks.setCell _ _ _).size (KeepsWalks.setCell _ _ _).size)
  rw [hW'] at ht hbl hA hz ⊢
  have hf : HasF W' w.heap.size v vs := by
    refine ⟨h.f.1, ?_⟩
    rcases h.f.2 with hn | ⟨g, cap, cur, e, hbg, hgg, rest⟩
    · exact .inl hn
    · exact .inr ⟨g, cap, cur, e, hbg, (hA g (fun e2 => h.tn.2.2.2.1 (by rw [e, e2]; rfl))).trans hgg, rest⟩
  exact ⟨CL.kept h.l hz (fun j hj => hA j (fun e => h.tn.1 (by rw [← e]; exact hj))), CP.kept h.p hz (fun j hj => hA j (fun e => h.tn.2.1 (by rw [← e]; exact hj))), hf, h.fr.kept hz (fun j hj _ => hA j (fun e => h.tn.2.2.1 (by rw [← e]; exact hj))), h.lp, fun j hj => ⟨(h.nn j hj).1, (h.nn j hj).2.1, Nat.lt_of_lt_of_le (h.nn j hj).2.2 hz⟩, h.vo, h.far, ht, h.tn, hbl⟩
theorem Strm.tank_pts (h : Strm HL HP s B w W Ql Qp N bl bp bt L last k M T v vs fs) (T' : Int) {a : Option Addr} {ps : List Prt} (hp : PtsIn N W a ps) : PtsIn N (((W.setCell ⟨bt, 0, none⟩ (.int .i64 M)).setCell ⟨bt, 1, none⟩ (.int .i64 M)).setCell ⟨bt, 2, none⟩ (.int .i64 T')) a ps :=
  hp.kept (Nat.le_trans (KeepsWalks.setCell W _ _).size (Nat.le_trans (KeepsWalks.setCell _ _ _).size (KeepsWalks.setCell _ _ _).size)) (fun j hj _ => by
    have hne : j ≠ bt := fun e => h.tn.2.2.1 (by rw [← e]; exact hj)
    rw [Below.heap_setCell _ _ _ _ hne, Below.heap_setCell _ _ _ _ hne, Below.heap_setCell _ _ _ _ hne])
end

end Go.Proofs.YtjojeifoddonnakGreat.Stm

/-
  The landed log in memory: one block of six cells (sizes, bits, the bytes that are there, how many are safe, the steps that are left, whether it has stopped), the sizes and the bytes in blocks of its own.
-/
namespace Go.Proofs.YtjojeifoddonnakGreat.Lg19
open Go.RowKit
open Go.Proofs.YtjojeifoddonnakGreat.Tre Go.Proofs.YtjojeifoddonnakGreat.Bnd Go.Proofs.YtjojeifoddonnakGreat.Frm Go.Proofs.YtjojeifoddonnakGreat.Pck Go.Proofs.YtjojeifoddonnakGreat.Hrn Go.Proofs.YtjojeifoddonnakGreat.Ev
set_option linter.unusedVariables false

def LogB (W : World) (b : Nat) (sv : Value) (B : Int) (dv : Value) (sf lf : Int) (st : Bool) : Prop := W.heap[b]? = some (.cells #[sv, .int .i64 B, dv, .int .i64 sf, .int .i64 lf, .bool st] 59 (0, 0))
section
variable {W W' : World} {b : Nat} {sv dv : Value} {B sf lf : Int} {st : Bool}
theorem LogB.lt (h : LogB W b sv B dv sf lf st) : b < W.heap.size := (Array.getElem?_eq_some_iff.1 h).1
theorem LogB.c0 (h : LogB W b sv B dv sf lf st) : W.cell? ⟨b, 0, none⟩ = some sv := by simp [World.cell?, show W.heap[b]? = _ from h]
theorem LogB.c1 (h : LogB W b sv B dv sf lf st) : W.cell? ⟨b, 1, none⟩ = some (.int .i64 B) := by simp [World.cell?, show W.heap[b]? = _ from h]
theorem LogB.c2 (h : LogB W b sv B dv sf lf st) : W.cell? ⟨b, 2, none⟩ = some dv := by simp [World.cell?, show W.heap[b]? = _ from h]
theorem LogB.c3 (h : LogB W b sv B dv sf lf st) : W.cell? ⟨b, 3, none⟩ = some (.int .i64 sf) := by simp [World.cell?, show W.heap[b]? = _ from h]
theorem LogB.c4 (h : LogB W b sv B dv sf lf st) : W.cell? ⟨b, 4, none⟩ = some (.int .i64 lf) := by simp [World.cell?, show W.heap[b]? = _ from h]
theorem LogB.c5 (h : LogB W b sv B dv sf lf st) : W.cell? ⟨b, 5, none⟩ = some (.bool st) := by simp [World.cell?, show W.heap[b]? = _ from h]
theorem LogB.fz (h : LogB W b sv B dv sf lf st) (j : Nat) : W.frozen? ⟨b, j, none⟩ = false := by simp [World.frozen?, show W.heap[b]? = _ from h]
theorem LogB.below {n : Nat} (h : LogB W b sv B dv sf lf st) (hb : Below n W W') (hn : b < n) : LogB W' b sv B dv sf lf st := (hb.block b hn).trans h
theorem LogB.there (h : LogB W b sv B dv sf lf st) (v : Value) : LogB (W.setCell ⟨b, 2, none⟩ v) b sv B v sf lf st := by
  unfold LogB
  rw [setCell_eq_setRow W b 2 _ _ _ _ h, setRow_heap W b _ _ _ _ h]
  rfl
theorem LogB.safe (h : LogB W b sv B dv sf lf st) (x : Int) : LogB (W.setCell ⟨b, 3, none⟩ (.int .i64 x)) b sv B dv x lf st := by
  unfold LogB
  rw [setCell_eq_setRow W b 3 _ _ _ _ h, setRow_heap W b _ _ _ _ h]
  rfl
theorem LogB.left (h : LogB W b sv B dv sf lf st) (x : Int) : LogB (W.setCell ⟨b, 4, none⟩ (.int .i64 x)) b sv B dv sf x st := by
  unfold LogB
  rw [setCell_eq_setRow W b 4 _ _ _ _ h, setRow_heap W b _ _ _ _ h]
  rfl
theorem LogB.stop (h : LogB W b sv B dv sf lf st) (x : Bool) : LogB (W.setCell ⟨b, 5, none⟩ (.bool x)) b sv B dv sf lf x := by
  unfold LogB
  rw [setCell_eq_setRow W b 5 _ _ _ _ h, setRow_heap W b _ _ _ _ h]
  rfl
end
/-- The log in memory. -/
structure LgM (s : List Int) (B : Int) (Q : Nat → Prop) (W : World) (b : Nat) (a : Option Addr) (cap : Nat) (vd : Value) (D : List Int) (sf lf : Int) (st : Bool) : Prop where
  lay : LogB W b (.slice a s.length cap) B vd sf lf st
  siz : RowIn (fun j => Q j ∧ j ≠ b ∧ vd.ownBlock ≠ some j) W a s
  dat : HasY W 0 vd D
  dow : ∀ k, vd.ownBlock = some k → Q k ∧ k ≠ b
  own : Q b
  old : ∀ j, Q j → j < W.heap.size
def LH : Holds := fun s B Q W b L => ∃ a cap vd D lf, LgM s B Q W b a cap vd D L.s lf L.st ∧ Inv L D lf ∧ Hid18.newF s B = 0 ∧ lf ≤ 9223372036854775807
theorem rin_kept {R S : Nat → Prop} {w w' : World} {a : Option Addr} {l : List Int} (h : RowIn R w a l) (hz : w.heap.size ≤ w'.heap.size) (hk : ∀ j, R j → j < w.heap.size → w'.heap[j]? = w.heap[j]? ∧ S j) : RowIn S w' a l := by
  rcases h with h | ⟨b, off, e, hn, hb, hc⟩
  · exact Or.inl h
  · refine Or.inr ⟨b, off, e, (hk b hn hb).2, Nat.lt_of_lt_of_le hb hz, fun j hj => ?_⟩
    rw [World.cell?_of_block (a := ⟨b, off + j, none⟩) (hk b hn hb).1]
    exact hc j hj
theorem HasYkept {w w' : World} {v : Value} {l : List Int} {base : Nat} (h : HasY w base v l) (hk : ∀ k, v.ownBlock = some k → w'.heap[k]? = w.heap[k]?) : HasY w' base v l := by
  refine ⟨h.1, ?_⟩
  rcases h.2 with hn | ⟨g, cap, cur, rfl, hbg, hgg, rest⟩
  · exact .inl hn
  · exact .inr ⟨g, cap, cur, rfl, hbg, (hk g rfl).trans hgg, rest⟩
theorem _root_.Go.Proofs.YtjojeifoddonnakGreat.Keeps.refl {Q : Nat → Prop} (W : World) : Keeps Q W W := ⟨rfl, rfl, rfl, Nat.le_refl _, fun _ _ _ => rfl⟩
theorem _root_.Go.Proofs.YtjojeifoddonnakGreat.Keeps.trans {Q Q' : Nat → Prop} {A C D : World} (h : Keeps Q A C) (k : Keeps Q' C D) (hq : ∀ j, Q' j → Q j ∨ A.heap.size ≤ j) : Keeps Q A D :=
  ⟨k.os.trans h.os, k.tape.trans h.tape, k.output.trans h.output, Nat.le_trans h.size k.size, fun j hj hne => (k.block j (Nat.lt_of_lt_of_le hj h.size) (fun e => by
    rcases hq j e with h1 | h1
    · exact hne h1
    · omega)).trans (h.block j hj hne)⟩
theorem _root_.Go.Proofs.YtjojeifoddonnakGreat.Keeps.but {Q : Nat → Prop} {b : Nat} {W W' : World} (h : Hid18.But b W W') (hQ : Q b) : Keeps Q W W' := ⟨h.os, h.tape, h.output, h.size, fun j hj hn => h.block j hj (fun e => hn (by cases e; exact hQ))⟩
theorem _root_.Go.Proofs.YtjojeifoddonnakGreat.Keeps.grown {Q : Nat → Prop} {row : Option Nat} {W W' : World} (h : W.grownBy W' row) (hQ : ∀ k, row = some k → Q k) : Keeps Q W W' := ⟨h.os, h.tape, h.output, h.size, fun j hj hn => h.block j hj (fun e => hn (hQ j e.symm))⟩
section
variable {s : List Int} {B : Int} {Q Q' : Nat → Prop} {W W' : World} {b : Nat} {a : Option Addr} {cap : Nat} {vd v' : Value} {D D' : List Int} {sf lf : Int} {st : Bool}
theorem LgM.kept (h : LgM s B Q W b a cap vd D sf lf st) (hz : W.heap.size ≤ W'.heap.size) (hk : ∀ j, Q j → W'.heap[j]? = W.heap[j]?) : LgM s B Q W' b a cap vd D sf lf st :=
  ⟨(hk b h.own).trans h.lay, h.siz.kept hz (fun j hj _ => hk j hj.1), HasYkept h.dat (fun k e => hk k (h.dow k e).1), h.dow, h.own, fun j hj => Nat.lt_of_lt_of_le (h.old j hj) hz⟩
theorem LgM.below (h : LgM s B Q W b a cap vd D sf lf st) (hb : Below W.heap.size W W') : LgM s B Q W' b a cap vd D sf lf st := h.kept hb.size (fun j hj => hb.block j (h.old j hj))
theorem LgM.set (h : LgM s B Q W b a cap vd D sf lf st) {j : Nat} {v : Value} {sf' lf' : Int} {st' : Bool} (hl : LogB (W.setCell ⟨b, j, none⟩ v) b (.slice a s.length cap) B vd sf' lf' st') : LgM s B Q (W.setCell ⟨b, j, none⟩ v) b a cap vd D sf' lf' st' := by
  have g := Hid18.But.set (b := b) (j := j) W v
  have hk : ∀ k, k ≠ b → k < W.heap.size → (W.setCell ⟨b, j, none⟩ v).heap[k]? = W.heap[k]? := fun k hne hz => g.block k hz (fun e => hne (Option.some.inj e))
  exact ⟨hl, h.siz.kept g.size (fun k hj hz => hk k hj.2.1 hz), HasYkept h.dat (fun k e => hk k (h.dow k e).2 (h.dat.lt k e).2), h.dow, h.own, fun j hj => Nat.lt_of_lt_of_le (h.old j hj) g.size⟩
theorem LgM.safe (h : LgM s B Q W b a cap vd D sf lf st) (x : Int) : LgM s B Q (W.setCell ⟨b, 3, none⟩ (.int .i64 x)) b a cap vd D x lf st := h.set (h.lay.safe x)
theorem LgM.left (h : LgM s B Q W b a cap vd D sf lf st) (x : Int) : LgM s B Q (W.setCell ⟨b, 4, none⟩ (.int .i64 x)) b a cap vd D sf x st := h.set (h.lay.left x)
theorem LgM.stop (h : LgM s B Q W b a cap vd D sf lf st) (x : Bool) : LgM s B Q (W.setCell ⟨b, 5, none⟩ (.bool x)) b a cap vd D sf lf x := h.set (h.lay.stop x)
theorem LgM.keeps (h : LgM s B Q W b a cap vd D sf lf st) (j : Nat) (v : Value) : Keeps Q W (W.setCell ⟨b, j, none⟩ v) := Keeps.but (Hid18.But.set W v) h.own
/-- Bytes were written behind those that are there, and are what is there now. -/
theorem LgM.app (h : LgM s B Q W b a cap vd D sf lf st) (hv : HasY W' 0 v' D') (hg : W.grownBy W' vd.ownBlock) (hat : v'.ownBlock = vd.ownBlock ∨ v'.ownBlock = some W.heap.size) :
    LgM s B (fun j => Q j ∨ W.heap.size ≤ j ∧ j < W'.heap.size) (W'.setCell ⟨b, 2, none⟩ v') b a cap v' D' sf lf st := by
  have g := Hid18.But.set (b := b) (j := 2) W' v'
  have hlt := h.lay.lt
  have hB : LogB W' b (.slice a s.length cap) B vd sf lf st := (hg.block b hlt (fun e => (h.dow b e.symm).2 rfl)).trans h.lay
  have hk : ∀ k, k ≠ b → k < W'.heap.size → (W'.setCell ⟨b, 2, none⟩ v').heap[k]? = W'.heap[k]? := fun k hne hz => g.block k hz (fun e => hne (Option.some.inj e))
  have hd : ∀ k, v'.ownBlock = some k → (Q k ∨ W.heap.size ≤ k ∧ k < W'.heap.size) ∧ k ≠ b := fun k e => by
    rcases hat with e2 | e2
    · have := h.dow k (e2.symm.trans e)
      exact ⟨Or.inl this.1, this.2⟩
    · have e3 : W.heap.size = k := Option.some.inj (e2.symm.trans e)
      have := (hv.lt k e).2
      exact ⟨Or.inr ⟨by omega, this⟩, by omega⟩
  refine ⟨hB.there v', ?_, HasYkept hv (fun k e => hk k (hd k e).2 (hv.lt k e).2), hd, Or.inl h.own, fun j hj => Nat.lt_of_lt_of_le ?_ g.size⟩
  · refine rin_kept h.siz (Nat.le_trans hg.size g.size) (fun j hj hz => ⟨(hk j hj.2.1 (Nat.lt_of_lt_of_le hz hg.size)).trans (hg.block j hz (fun e => hj.2.2 e.symm)), Or.inl hj.1, hj.2.1, fun e => ?_⟩)
    rcases hat with e2 | e2
    · exact hj.2.2 (e2.symm.trans e)
    · have e3 : W.heap.size = j := Option.some.inj (e2.symm.trans e)
      omega
  · rcases hj with hj | hj
    · exact Nat.lt_of_lt_of_le (h.old j hj) hg.size
    · exact hj.2
/-- The first ones of the bytes are what is there now. -/
theorem LgM.cut (h : LgM s B Q W b a cap vd D sf lf st) (hv : HasY W 0 v' D') (hat : v'.ownBlock = vd.ownBlock) : LgM s B Q (W.setCell ⟨b, 2, none⟩ v') b a cap v' D' sf lf st := by
  have g := Hid18.But.set (b := b) (j := 2) W v'
  have hk : ∀ k, k ≠ b → k < W.heap.size → (W.setCell ⟨b, 2, none⟩ v').heap[k]? = W.heap[k]? := fun k hne hz => g.block k hz (fun e => hne (Option.some.inj e))
  have hd : ∀ k, v'.ownBlock = some k → Q k ∧ k ≠ b := fun k e => h.dow k (hat.symm.trans e)
  exact ⟨h.lay.there v', rin_kept h.siz g.size (fun j hj hz => ⟨hk j hj.2.1 hz, hj.1, hj.2.1, fun e => hj.2.2 (hat.symm.trans e)⟩), HasYkept hv (fun k e => hk k (hd k e).2 (hv.lt k e).2), hd, h.own, fun j hj => Nat.lt_of_lt_of_le (h.old j hj) g.size⟩
end
/-- The texts of a slice of this call's own lie in new memory. -/
theorem HasTnew {w : World} {base : Nat} {v : Value} {l : List ByteArray} (h : HasT w base v l) : ∃ a cap, v = .slice a l.length cap ∧ RowTI (fun j => base ≤ j) w a l ∧ l.length ≤ cap ∧ cap ≤ 9223372036854775807 := by
  have h' := h
  rcases h.2 with ⟨h1, h2⟩ | ⟨g, cap, cur, hv, hb, hg, hn, hm, _⟩
  · have e : l = [] := List.length_eq_zero_iff.1 (by omega)
    subst e
    exact ⟨none, 0, h1, Or.inl rfl, Nat.le_refl _, by omega⟩
  · refine ⟨some ⟨g, 0, none⟩, cap, hv, Or.inr ⟨g, 0, rfl, hb, (Array.getElem?_eq_some_iff.1 hg).1, fun j hj => ?_⟩, hn, by simpa [maxLen] using hm⟩
    subst hv
    rw [Nat.zero_add, World.ownsRow.cellAt h' j (by omega)]
    simp [List.getD_eq_getElem?_getD, hj]

end Go.Proofs.YtjojeifoddonnakGreat.Lg19

/-
  What a method leaves that writes into no block but the player's own one.
-/
namespace Go.Proofs.YtjojeifoddonnakGreat.Hid18
open Go.RowKit
open Go.Proofs.YtjojeifoddonnakGreat.Tre Go.Proofs.YtjojeifoddonnakGreat.Frm Go.Proofs.YtjojeifoddonnakGreat.Pck Go.Proofs.YtjojeifoddonnakGreat.Hrn Go.Proofs.YtjojeifoddonnakGreat.Ev
set_option linter.unusedVariables false

/-- What a method leaves: no block but the player's own is changed. -/
def LeftB (H : PHolds) (s : List Int) (B : Int) (Q : Nat → Prop) (W : World) (b : Nat) (last : List Prt) (k : Int) (W' : World) : Prop :=
  ∃ Q' : Nat → Prop, H s B Q' W' b last k ∧ (∀ j, Q' j → Q j ∨ W.heap.size ≤ j) ∧ But b W W'
theorem LeftB.left {H : PHolds} {s : List Int} {B : Int} {Q : Nat → Prop} {W W' : World} {b : Nat} {last : List Prt} {k : Int} (h : LeftB H s B Q W b last k W') (hQ : Q b) : LeftP H s B Q W b last k W' := by
  obtain ⟨Q', h1, h2, h3⟩ := h
  exact ⟨Q', h1, h2, ⟨h3.os, h3.tape, h3.output, h3.size, fun j hj hn => h3.block j hj (fun e => hn (by cases e; exact hQ))⟩⟩

end Go.Proofs.YtjojeifoddonnakGreat.Hid18

/-
  The landed player in memory: one block of five cells (sizes, bits, samples of a frame, what was played last, how many were lost), the sizes and the parts in blocks of its own.
-/
namespace Go.Proofs.YtjojeifoddonnakGreat.Hid18
open Go.RowKit
open Go.Proofs.YtjojeifoddonnakGreat.Tre Go.Proofs.YtjojeifoddonnakGreat.Bnd Go.Proofs.YtjojeifoddonnakGreat.Frm Go.Proofs.YtjojeifoddonnakGreat.Pck Go.Proofs.YtjojeifoddonnakGreat.Hrn Go.Proofs.YtjojeifoddonnakGreat.Ev
set_option linter.unusedVariables false

def PlyL (W : World) (b : Nat) (sv : Value) (B m : Int) (lv : Value) (k : Int) : Prop := W.heap[b]? = some (.cells #[sv, .int .i64 B, .int .i64 m, lv, .int .i64 k] 62 (0, 0))
section
variable {W W' : World} {b : Nat} {sv lv : Value} {B m k : Int}
theorem PlyL.lt (h : PlyL W b sv B m lv k) : b < W.heap.size := (Array.getElem?_eq_some_iff.1 h).1
theorem PlyL.c0 (h : PlyL W b sv B m lv k) : W.cell? ⟨b, 0, none⟩ = some sv := by simp [World.cell?, show W.heap[b]? = _ from h]
theorem PlyL.c1 (h : PlyL W b sv B m lv k) : W.cell? ⟨b, 1, none⟩ = some (.int .i64 B) := by simp [World.cell?, show W.heap[b]? = _ from h]
theorem PlyL.c2 (h : PlyL W b sv B m lv k) : W.cell? ⟨b, 2, none⟩ = some (.int .i64 m) := by simp [World.cell?, show W.heap[b]? = _ from h]
theorem PlyL.c3 (h : PlyL W b sv B m lv k) : W.cell? ⟨b, 3, none⟩ = some lv := by simp [World.cell?, show W.heap[b]? = _ from h]
theorem PlyL.c4 (h : PlyL W b sv B m lv k) : W.cell? ⟨b, 4, none⟩ = some (.int .i64 k) := by simp [World.cell?, show W.heap[b]? = _ from h]
theorem PlyL.fz (h : PlyL W b sv B m lv k) (j : Nat) : W.frozen? ⟨b, j, none⟩ = false := by simp [World.frozen?, show W.heap[b]? = _ from h]
theorem PlyL.below {n : Nat} (h : PlyL W b sv B m lv k) (hb : Below n W W') (hn : b < n) : PlyL W' b sv B m lv k := (hb.block b hn).trans h
theorem PlyL.last (h : PlyL W b sv B m lv k) (v : Value) : PlyL (W.setCell ⟨b, 3, none⟩ v) b sv B m v k := by
  unfold PlyL
  rw [setCell_eq_setRow W b 3 _ _ _ _ h, setRow_heap W b _ _ _ _ h]
  rfl
theorem PlyL.lost (h : PlyL W b sv B m lv k) (x : Int) : PlyL (W.setCell ⟨b, 4, none⟩ (.int .i64 x)) b sv B m lv x := by
  unfold PlyL
  rw [setCell_eq_setRow W b 4 _ _ _ _ h, setRow_heap W b _ _ _ _ h]
  rfl
end
/-- The player. -/
structure HidL (s : List Int) (B : Int) (Q : Nat → Prop) (W : World) (b : Nat) (last : List Prt) (k : Int) (a : Option Addr) (cap : Nat) (p : Option Addr) (q : Nat) : Prop where
  ply : PlyL W b (.slice a s.length cap) B (total s : Int) (.slice p last.length q) k
  siz : RowIn (fun j => Q j ∧ j ≠ b) W a s
  pts : PtsIn (fun j => Q j ∧ j ≠ b) W p last
  own : Q b
  old : ∀ j, Q j → j < W.heap.size
  fine : newF s B = 0 ∧ Was s last ∧ Gs last
def PH : PHolds := fun s B Q W b last k => ∃ a cap p q, HidL s B Q W b last k a cap p q
theorem HidL.kept {s : List Int} {B : Int} {Q : Nat → Prop} {W W' : World} {b : Nat} {last : List Prt} {k : Int} {a : Option Addr} {cap : Nat} {p : Option Addr} {q : Nat} (h : HidL s B Q W b last k a cap p q) (hz : W.heap.size ≤ W'.heap.size) (hk : ∀ j, Q j → W'.heap[j]? = W.heap[j]?) : HidL s B Q W' b last k a cap p q :=
  ⟨(hk b h.own).trans h.ply, h.siz.kept hz (fun j hj _ => hk j hj.1), h.pts.kept hz (fun j hj _ => hk j hj.1), h.own, fun j hj => Nat.lt_of_lt_of_le (h.old j hj) hz, h.fine⟩
theorem HidL.few {s : List Int} {B : Int} {Q : Nat → Prop} {W : World} {b : Nat} {last : List Prt} {k : Int} {a : Option Addr} {cap : Nat} {p : Option Addr} {q : Nat} (h : HidL s B Q W b last k a cap p q) : last.length ≤ 8 ∧ (∀ i, i < last.length → (prt last i).2.length ≤ 6) ∧ s.length ≤ 8 ∧ total s ≤ 32 := by
  obtain ⟨h1, h2, h3⟩ := h.fine
  obtain ⟨n0, n8, hsz, n32⟩ := bf_ok (newF_zero.1 h1).1
  rcases h2 with rfl | ⟨h4, h5⟩
  · exact ⟨by simp, fun i hi => by simp at hi, n8, n32⟩
  · refine ⟨by omega, fun i hi => ?_, n8, n32⟩
    have h6 := h5 i hi
    have h7 := hsz i (by omega)
    omega

end Go.Proofs.YtjojeifoddonnakGreat.Hid18
