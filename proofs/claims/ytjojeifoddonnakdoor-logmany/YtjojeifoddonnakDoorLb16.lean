/-
  The landed log in memory: one block of six cells (sizes, bits, the bytes that are there, how many are safe, the steps that are left, whether it has stopped), the sizes and the bytes in blocks of its own.
-/
import Derived.Test.YtjojeifoddonnakDoorLb09
import Derived.Test.YtjojeifoddonnakDoorLb05
import Derived.Test.YtjojeifoddonnakDoorLb08
import Derived.Test.YtjojeifoddonnakDoorLb15
namespace Go.Proofs.YtjojeifoddonnakDoor.Lg19
open Go.RowKit
open Go.Proofs.YtjojeifoddonnakDoor.Tre Go.Proofs.YtjojeifoddonnakDoor.Bnd Go.Proofs.YtjojeifoddonnakDoor.Frm Go.Proofs.YtjojeifoddonnakDoor.Pck Go.Proofs.YtjojeifoddonnakDoor.Hrn Go.Proofs.YtjojeifoddonnakDoor.Ev
set_option linter.unusedVariables false

def LogB (W : World) (b : Nat) (sv : Value) (B : Int) (dv : Value) (sf lf : Int) (st : Bool) : Prop := W.heap[b]? = some (.cells #[sv, .int .i64 B, dv, .int .i64 sf, .int .i64 lf, .bool st] 40 (0, 0))
section
variable {W W' : World} {b : Nat} {sv dv : Value} {B sf lf : Int} {st : Bool}
theorem LogB.lt (h : LogB W b sv B dv sf lf st) : b < W.heap.size := (Array.getElem?_eq_some_iff.1 h).1
theorem LogB.c0 (h : LogB W b sv B dv sf lf st) : W.cell? ⟨b, 0, none⟩ = some sv := by simp [World.cell?, show W.heap[b]? = _ from h]
theorem LogB.c1 (h : LogB W b sv B dv sf lf st) : W.cell? ⟨b, 1, none⟩ = some (.int .i64 B) := by simp [World.cell?, show W.heap[b]? = _ from h]
theorem LogB.c2 (h : LogB W b sv B dv sf lf st) : W.cell? ⟨b, 2, none⟩ = some dv := by simp [World.cell?, show W.heap[b]? = _ from h]
theorem LogB.c3 (h : LogB W b sv B dv sf lf st) : W.cell? ⟨b, 3, none⟩ = some (.int .i64 sf) := by simp [World.cell?, show W.heap[b]? = _ from h]
theorem LogB.c4 (h : LogB W b sv B dv sf lf st) : W.cell? ⟨b, 4, none⟩ = some (.int .i64 lf) := by simp [World.cell?, show W.heap[b]? = _ from h]
theorem LogB.c5 (h : LogB W b sv B dv sf lf st) : W.cell? ⟨b, 5, none⟩ = some (.bool st) := by simp [World.cell?, show W.heap[b]? = _ from h]
theorem LogB.fz (h : LogB W b sv B dv sf lf st) (j : Nat) : W.frozen? ⟨b, j, none⟩ = false := by simp [World.frozen?, show W.heap[b]? = _ from h]
theorem LogB.below {n : Nat} (h : LogB W b sv B dv sf lf st) (hb : Below n W W') (hn : b < n) : LogB W' b sv B dv sf lf st := (hb.block b hn).trans h
theorem LogB.there (h : LogB W b sv B dv sf lf st) (v : Value) : LogB (W.setCell ⟨b, 2, none⟩ v) b sv B v sf lf st := by
  unfold LogB
  rw [setCell_eq_setRow W b 2 _ _ _ _ h, setRow_heap W b _ _ _ _ h]
  rfl
theorem LogB.safe (h : LogB W b sv B dv sf lf st) (x : Int) : LogB (W.setCell ⟨b, 3, none⟩ (.int .i64 x)) b sv B dv x lf st := by
  unfold LogB
  rw [setCell_eq_setRow W b 3 _ _ _ _ h, setRow_heap W b _ _ _ _ h]
  rfl
theorem LogB.left (h : LogB W b sv B dv sf lf st) (x : Int) : LogB (W.setCell ⟨b, 4, none⟩ (.int .i64 x)) b sv B dv sf x st := by
  unfold LogB
  rw [setCell_eq_setRow W b 4 _ _ _ _ h, setRow_heap W b _ _ _ _ h]
  rfl
theorem LogB.stop (h : LogB W b sv B dv sf lf st) (x : Bool) : LogB (W.setCell ⟨b, 5, none⟩ (.bool x)) b sv B dv sf lf x := by
  unfold LogB
  rw [setCell_eq_setRow W b 5 _ _ _ _ h, setRow_heap W b _ _ _ _ h]
  rfl
end
/-- The log in memory. -/
structure LgM (s : List Int) (B : Int) (Q : Nat → Prop) (W : World) (b : Nat) (a : Option Addr) (cap : Nat) (vd : Value) (D : List Int) (sf lf : Int) (st : Bool) : Prop where
  lay : LogB W b (.slice a s.length cap) B vd sf lf st
  siz : RowIn (fun j => Q j ∧ j ≠ b ∧ vd.ownBlock ≠ some j) W a s
  dat : HasY W 0 vd D
  dow : ∀ k, vd.ownBlock = some k → Q k ∧ k ≠ b
  own : Q b
  old : ∀ j, Q j → j < W.heap.size
def LH : Holds := fun s B Q W b L => ∃ a cap vd D lf, LgM s B Q W b a cap vd D L.s lf L.st ∧ Inv L D lf ∧ Hid18.newF s B = 0 ∧ lf ≤ 9223372036854775807
theorem rin_kept {R S : Nat → Prop} {w w' : World} {a : Option Addr} {l : List Int} (h : RowIn R w a l) (hz : w.heap.size ≤ w'.heap.size) (hk : ∀ j, R j → j < w.heap.size → w'.heap[j]? = w.heap[j]? ∧ S j) : RowIn S w' a l := by
  rcases h with h | ⟨b, off, e, hn, hb, hc⟩
  · exact Or.inl h
  · refine Or.inr ⟨b, off, e, (hk b hn hb).2, Nat.lt_of_lt_of_le hb hz, fun j hj => ?_⟩
    rw [World.cell?_of_block (a := ⟨b, off + j, none⟩) (hk b hn hb).1]
    exact hc j hj
theorem HasYkept {w w' : World} {v : Value} {l : List Int} {base : Nat} (h : HasY w base v l) (hk : ∀ k, v.ownBlock = some k → w'.heap[k]? = w.heap[k]?) : HasY w' base v l := by
  refine ⟨h.1, ?_⟩
  rcases h.2 with hn | ⟨g, cap, cur, rfl, hbg, hgg, rest⟩
  · exact .inl hn
  · exact .inr ⟨g, cap, cur, rfl, hbg, (hk g rfl).trans hgg, rest⟩
theorem _root_.Go.Proofs.YtjojeifoddonnakDoor.Keeps.refl {Q : Nat → Prop} (W : World) : Keeps Q W W := ⟨rfl, rfl, rfl, Nat.le_refl _, fun _ _ _ => rfl⟩
theorem _root_.Go.Proofs.YtjojeifoddonnakDoor.Keeps.trans {Q Q' : Nat → Prop} {A C D : World} (h : Keeps Q A C) (k : Keeps Q' C D) (hq : ∀ j, Q' j → Q j ∨ A.heap.size ≤ j) : Keeps Q A D :=
  ⟨k.os.trans h.os, k.tape.trans h.tape, k.output.trans h.output, Nat.le_trans h.size k.size, fun j hj hne => (k.block j (Nat.lt_of_lt_of_le hj h.size) (fun e => by
    rcases hq j e with h1 | h1
    · exact hne h1
    · omega)).trans (h.block j hj hne)⟩
theorem _root_.Go.Proofs.YtjojeifoddonnakDoor.Keeps.but {Q : Nat → Prop} {b : Nat} {W W' : World} (h : Hid18.But b W W') (hQ : Q b) : Keeps Q W W' := ⟨h.os, h.tape, h.output, h.size, fun j hj hn => h.block j hj (fun e => hn (by cases e; exact hQ))⟩
theorem _root_.Go.Proofs.YtjojeifoddonnakDoor.Keeps.grown {Q : Nat → Prop} {row : Option Nat} {W W' : World} (h : W.grownBy W' row) (hQ : ∀ k, row = some k → Q k) : Keeps Q W W' := ⟨h.os, h.tape, h.output, h.size, fun j hj hn => h.block j hj (fun e => hn (hQ j e.symm))⟩
section
variable {s : List Int} {B : Int} {Q Q' : Nat → Prop} {W W' : World} {b : Nat} {a : Option Addr} {cap : Nat} {vd v' : Value} {D D' : List Int} {sf lf : Int} {st : Bool}
theorem LgM.kept (h : LgM s B Q W b a cap vd D sf lf st) (hz : W.heap.size ≤ W'.heap.size) (hk : ∀ j, Q j → W'.heap[j]? = W.heap[j]?) : LgM s B Q W' b a cap vd D sf lf st :=
  ⟨(hk b h.own).trans h.lay, h.siz.kept hz (fun j hj _ => hk j hj.1), HasYkept h.dat (fun k e => hk k (h.dow k e).1), h.dow, h.own, fun j hj => Nat.lt_of_lt_of_le (h.old j hj) hz⟩
theorem LgM.below (h : LgM s B Q W b a cap vd D sf lf st) (hb : Below W.heap.size W W') : LgM s B Q W' b a cap vd D sf lf st := h.kept hb.size (fun j hj => hb.block j (h.old j hj))
theorem LgM.set (h : LgM s B Q W b a cap vd D sf lf st) {j : Nat} {v : Value} {sf' lf' : Int} {st' : Bool} (hl : LogB (W.setCell ⟨b, j, none⟩ v) b (.slice a s.length cap) B vd sf' lf' st') : LgM s B Q (W.setCell ⟨b, j, none⟩ v) b a cap vd D sf' lf' st' := by
  have g := Hid18.But.set (b := b) (j := j) W v
  have hk : ∀ k, k ≠ b → k < W.heap.size → (W.setCell ⟨b, j, none⟩ v).heap[k]? = W.heap[k]? := fun k hne hz => g.block k hz (fun e => hne (Option.some.inj e))
  exact ⟨hl, h.siz.kept g.size (fun k hj hz => hk k hj.2.1 hz), HasYkept h.dat (fun k e => hk k (h.dow k e).2 (h.dat.lt k e).2), h.dow, h.own, fun j hj => Nat.lt_of_lt_of_le (h.old j hj) g.size⟩
theorem LgM.safe (h : LgM s B Q W b a cap vd D sf lf st) (x : Int) : LgM s B Q (W.setCell ⟨b, 3, none⟩ (.int .i64 x)) b a cap vd D x lf st := h.set (h.lay.safe x)
theorem LgM.left (h : LgM s B Q W b a cap vd D sf lf st) (x : Int) : LgM s B Q (W.setCell ⟨b, 4, none⟩ (.int .i64 x)) b a cap vd D sf x st := h.set (h.lay.left x)
theorem LgM.stop (h : LgM s B Q W b a cap vd D sf lf st) (x : Bool) : LgM s B Q (W.setCell ⟨b, 5, none⟩ (.bool x)) b a cap vd D sf lf x := h.set (h.lay.stop x)
theorem LgM.keeps (h : LgM s B Q W b a cap vd D sf lf st) (j : Nat) (v : Value) : Keeps Q W (W.setCell ⟨b, j, none⟩ v) := Keeps.but (Hid18.But.set W v) h.own
/-- Bytes were written behind those that are there, and are what is there now. -/
theorem LgM.app (h : LgM s B Q W b a cap vd D sf lf st) (hv : HasY W' 0 v' D') (hg : W.grownBy W' vd.ownBlock) (hat : v'.ownBlock = vd.ownBlock ∨ v'.ownBlock = some W.heap.size) :
    LgM s B (fun j => Q j ∨ W.heap.size ≤ j ∧ j < W'.heap.size) (W'.setCell ⟨b, 2, none⟩ v') b a cap v' D' sf lf st := by
  have g := Hid18.But.set (b := b) (j := 2) W' v'
  have hlt := h.lay.lt
  have hB : LogB W' b (.slice a s.length cap) B vd sf lf st := (hg.block b hlt (fun e => (h.dow b e.symm).2 rfl)).trans h.lay
  have hk : ∀ k, k ≠ b → k < W'.heap.size → (W'.setCell ⟨b, 2, none⟩ v').heap[k]? = W'.heap[k]? := fun k hne hz => g.block k hz (fun e => hne (Option.some.inj e))
  have hd : ∀ k, v'.ownBlock = some k → (Q k ∨ W.heap.size ≤ k ∧ k < W'.heap.size) ∧ k ≠ b := fun k e => by
    rcases hat with e2 | e2
    · have := h.dow k (e2.symm.trans e)
      exact ⟨Or.inl this.1, this.2⟩
    · have e3 : W.heap.size = k := Option.some.inj (e2.symm.trans e)
      have := (hv.lt k e).2
      exact ⟨Or.inr ⟨by omega, this⟩, by omega⟩
  refine ⟨hB.there v', ?_, HasYkept hv (fun k e => hk k (hd k e).2 (hv.lt k e).2), hd, Or.inl h.own, fun j hj => Nat.lt_of_lt_of_le ?_ g.size⟩
  · refine rin_kept h.siz (Nat.le_trans hg.size g.size) (fun j hj hz => ⟨(hk j hj.2.1 (Nat.lt_of_lt_of_le hz hg.size)).trans (hg.block j hz (fun e => hj.2.2 e.symm)), Or.inl hj.1, hj.2.1, fun e => ?_⟩)
    rcases hat with e2 | e2
    · exact hj.2.2 (e2.symm.trans e)
    · have e3 : W.heap.size = j := Option.some.inj (e2.symm.trans e)
      omega
  · rcases hj with hj | hj
    · exact Nat.lt_of_lt_of_le (h.old j hj) hg.size
    · exact hj.2
/-- The first ones of the bytes are what is there now. -/
theorem LgM.cut (h : LgM s B Q W b a cap vd D sf lf st) (hv : HasY W 0 v' D') (hat : v'.ownBlock = vd.ownBlock) : LgM s B Q (W.setCell ⟨b, 2, none⟩ v') b a cap v' D' sf lf st := by
  have g := Hid18.But.set (b := b) (j := 2) W v'
  have hk : ∀ k, k ≠ b → k < W.heap.size → (W.setCell ⟨b, 2, none⟩ v').heap[k]? = W.heap[k]? := fun k hne hz => g.block k hz (fun e => hne (Option.some.inj e))
  have hd : ∀ k, v'.ownBlock = some k → Q k ∧ k ≠ b := fun k e => h.dow k (hat.symm.trans e)
  exact ⟨h.lay.there v', rin_kept h.siz g.size (fun j hj hz => ⟨hk j hj.2.1 hz, hj.1, hj.2.1, fun e => hj.2.2 (hat.symm.trans e)⟩), HasYkept hv (fun k e => hk k (hd k e).2 (hv.lt k e).2), hd, h.own, fun j hj => Nat.lt_of_lt_of_le (h.old j hj) g.size⟩
end
/-- The texts of a slice of this call's own lie in new memory. -/
theorem HasTnew {w : World} {base : Nat} {v : Value} {l : List ByteArray} (h : HasT w base v l) : ∃ a cap, v = .slice a l.length cap ∧ RowTI (fun j => base ≤ j) w a l ∧ l.length ≤ cap ∧ cap ≤ 9223372036854775807 := by
  have h' := h
  rcases h.2 with ⟨h1, h2⟩ | ⟨g, cap, cur, hv, hb, hg, hn, hm, _⟩
  · have e : l = [] := List.length_eq_zero_iff.1 (by omega)
    subst e
    exact ⟨none, 0, h1, Or.inl rfl, Nat.le_refl _, by omega⟩
  · refine ⟨some ⟨g, 0, none⟩, cap, hv, Or.inr ⟨g, 0, rfl, hb, (Array.getElem?_eq_some_iff.1 hg).1, fun j hj => ?_⟩, hn, by simpa [maxLen] using hm⟩
    subst hv
    rw [Nat.zero_add, World.ownsRow.cellAt h' j (by omega)]
    simp [List.getD_eq_getElem?_getD, hj]

end Go.Proofs.YtjojeifoddonnakDoor.Lg19
