/-
  What is asked of a player that writes into no block but its own one.
-/
import Derived.Test.Ytephagojpnfhcajhs09
import Derived.Test.Ytephagojpnfhcajhs11
import Derived.Test.Ytephagojpnfhcajhs06
namespace Go.Proofs.Ytephagojpnfhcaj.Hid18
open Go.RowKit
open Go.Proofs.Ytephagojpnfhcaj.Tre Go.Proofs.Ytephagojpnfhcaj.Frm Go.Proofs.Ytephagojpnfhcaj.Pck Go.Proofs.Ytephagojpnfhcaj.Hrn Go.Proofs.Ytephagojpnfhcaj.Ev
set_option linter.unusedVariables false

/-- What a method leaves: no block but the player's own is changed. -/
def LeftB (H : PHolds) (s : List Int) (B : Int) (Q : Nat → Prop) (W : World) (b : Nat) (last : List Prt) (k : Int) (W' : World) : Prop :=
  ∃ Q' : Nat → Prop, H s B Q' W' b last k ∧ (∀ j, Q' j → Q j ∨ W.heap.size ≤ j) ∧ But b W W'
theorem LeftB.left {H : PHolds} {s : List Int} {B : Int} {Q : Nat → Prop} {W W' : World} {b : Nat} {last : List Prt} {k : Int} (h : LeftB H s B Q W b last k W') (hQ : Q b) : LeftP H s B Q W b last k W' := by
  obtain ⟨Q', h1, h2, h3⟩ := h
  exact ⟨Q', h1, h2, ⟨h3.os, h3.tape, h3.output, h3.size, fun j hj hn => h3.block j hj (fun e => hn (by cases e; exact hQ))⟩⟩
structure PlayB (H : PHolds) : Prop where
  ok : ∀ {s B Q W b last k}, H s B Q W b last k → newF s B = 0 ∧ Was s last ∧ Gs last
  own : ∀ {s B Q W b last k}, H s B Q W b last k → Q b
  old : ∀ {s B Q W b last k}, H s B Q W b last k → ∀ j, Q j → j < W.heap.size
  kept : ∀ {s B Q W W' b last k}, H s B Q W b last k → W.heap.size ≤ W'.heap.size → (∀ j, Q j → W'.heap[j]? = W.heap[j]?) → H s B Q W' b last k
  new : ∀ (a : Option Addr) (cap : Nat) (s : List Int) (B : Int) (W : World), Row W a s → s.length ≤ 17592186044416 →
    Calls Try.prog 5 #[.slice a s.length cap, .int .i64 B] W fun e W' => ((newF s B ≠ 0 ∧ e = .returned (.tuple #[.pointer none, errV (newF s B)])) ∨
      (newF s B = 0 ∧ ∃ b Q, e = .returned (.tuple #[.pointer (some ⟨b, 0, none⟩), .nilIface]) ∧ H s B Q W' b [] 0 ∧ ∀ j, Q j → W.heap.size ≤ j)) ∧ Below W.heap.size W W'
  play : ∀ {s B Q W b last k} (x : ByteArray), H s B Q W b last k → x.size ≤ 9223372036854775807 →
    Calls Try.prog 8 #[.pointer (some ⟨b, 0, none⟩), .string x] W fun e W' => ∃ E po qo o last' k', e = .returned (.tuple #[.slice po o.length qo, errV E]) ∧ PlayF (byt x) s B last E o last' ∧ (E = 0 → k' = 0) ∧ (E ≠ 0 → k' = k) ∧ RowN W.heap.size W' po o ∧ o.length ≤ qo ∧ qo ≤ 9223372036854775807 ∧ LeftB H s B Q W b last' k' W'
  lose : ∀ {s B Q W b last k}, H s B Q W b last k → 0 ≤ k → k ≤ 1000000 →
    Calls Try.prog 6 #[.pointer (some ⟨b, 0, none⟩)] W fun e W' => ∃ po qo, e = .returned (.slice po (lostL s last).length qo) ∧ RowN W.heap.size W' po (lostL s last) ∧ (lostL s last).length ≤ qo ∧ qo ≤ 9223372036854775807 ∧ LeftB H s B Q W b (soft last) (k + 1) W'
  lost : ∀ {s B Q W b last k}, H s B Q W b last k →
    Calls Try.prog 7 #[.pointer (some ⟨b, 0, none⟩)] W fun e W' => e = .returned (.int .i64 k) ∧ Below W.heap.size W W'
theorem PlayB.toC {H : PHolds} (C : PlayB H) : PlayC H where
  ok := C.ok
  old := C.old
  kept := C.kept
  new := C.new
  play := fun x h hx => (C.play x h hx).mono fun e W' ⟨E, po, qo, o, l', k', h1, h2, h3, h4, h5, h6, h7, h8⟩ => ⟨E, po, qo, o, l', k', h1, h2, h3, h4, h5, h6, h7, h8.left (C.own h)⟩
  lose := fun h h0 h9 => (C.lose h h0 h9).mono fun e W' ⟨po, qo, h1, h2, h3, h4, h5⟩ => ⟨po, qo, h1, h2, h3, h4, h5.left (C.own h)⟩
  lost := C.lost

end Go.Proofs.Ytephagojpnfhcaj.Hid18

/-
  The landed player in memory: one block of five cells (sizes, bits, samples of a frame, what was played last, how many were lost), the sizes and the parts in blocks of its own.
-/
namespace Go.Proofs.Ytephagojpnfhcaj.Hid18
open Go.RowKit
open Go.Proofs.Ytephagojpnfhcaj.Tre Go.Proofs.Ytephagojpnfhcaj.Bnd Go.Proofs.Ytephagojpnfhcaj.Frm Go.Proofs.Ytephagojpnfhcaj.Pck Go.Proofs.Ytephagojpnfhcaj.Hrn Go.Proofs.Ytephagojpnfhcaj.Ev
set_option linter.unusedVariables false

def PlyL (W : World) (b : Nat) (sv : Value) (B m : Int) (lv : Value) (k : Int) : Prop := W.heap[b]? = some (.cells #[sv, .int .i64 B, .int .i64 m, lv, .int .i64 k] 43 (0, 0))
section
variable {W W' : World} {b : Nat} {sv lv : Value} {B m k : Int}
theorem PlyL.lt (h : PlyL W b sv B m lv k) : b < W.heap.size := (Array.getElem?_eq_some_iff.1 h).1
theorem PlyL.c0 (h : PlyL W b sv B m lv k) : W.cell? ⟨b, 0, none⟩ = some sv := by simp [World.cell?, show W.heap[b]? = _ from h]
theorem PlyL.c1 (h : PlyL W b sv B m lv k) : W.cell? ⟨b, 1, none⟩ = some (.int .i64 B) := by simp [World.cell?, show W.heap[b]? = _ from h]
theorem PlyL.c2 (h : PlyL W b sv B m lv k) : W.cell? ⟨b, 2, none⟩ = some (.int .i64 m) := by simp [World.cell?, show W.heap[b]? = _ from h]
theorem PlyL.c3 (h : PlyL W b sv B m lv k) : W.cell? ⟨b, 3, none⟩ = some lv := by simp [World.cell?, show W.heap[b]? = _ from h]
theorem PlyL.c4 (h : PlyL W b sv B m lv k) : W.cell? ⟨b, 4, none⟩ = some (.int .i64 k) := by simp [World.cell?, show W.heap[b]? = _ from h]
theorem PlyL.fz (h : PlyL W b sv B m lv k) (j : Nat) : W.frozen? ⟨b, j, none⟩ = false := by simp [World.frozen?, show W.heap[b]? = _ from h]
theorem PlyL.below {n : Nat} (h : PlyL W b sv B m lv k) (hb : Below n W W') (hn : b < n) : PlyL W' b sv B m lv k := (hb.block b hn).trans h
theorem PlyL.last (h : PlyL W b sv B m lv k) (v : Value) : PlyL (W.setCell ⟨b, 3, none⟩ v) b sv B m v k := by
  unfold PlyL
  rw [setCell_eq_setRow W b 3 _ _ _ _ h, setRow_heap W b _ _ _ _ h]
  rfl
theorem PlyL.lost (h : PlyL W b sv B m lv k) (x : Int) : PlyL (W.setCell ⟨b, 4, none⟩ (.int .i64 x)) b sv B m lv x := by
  unfold PlyL
  rw [setCell_eq_setRow W b 4 _ _ _ _ h, setRow_heap W b _ _ _ _ h]
  rfl
end
/-- The player. -/
structure HidL (s : List Int) (B : Int) (Q : Nat → Prop) (W : World) (b : Nat) (last : List Prt) (k : Int) (a : Option Addr) (cap : Nat) (p : Option Addr) (q : Nat) : Prop where
  ply : PlyL W b (.slice a s.length cap) B (total s : Int) (.slice p last.length q) k
  siz : RowIn (fun j => Q j ∧ j ≠ b) W a s
  pts : PtsIn (fun j => Q j ∧ j ≠ b) W p last
  own : Q b
  old : ∀ j, Q j → j < W.heap.size
  fine : newF s B = 0 ∧ Was s last ∧ Gs last
def PH : PHolds := fun s B Q W b last k => ∃ a cap p q, HidL s B Q W b last k a cap p q
theorem HidL.kept {s : List Int} {B : Int} {Q : Nat → Prop} {W W' : World} {b : Nat} {last : List Prt} {k : Int} {a : Option Addr} {cap : Nat} {p : Option Addr} {q : Nat} (h : HidL s B Q W b last k a cap p q) (hz : W.heap.size ≤ W'.heap.size) (hk : ∀ j, Q j → W'.heap[j]? = W.heap[j]?) : HidL s B Q W' b last k a cap p q :=
  ⟨(hk b h.own).trans h.ply, h.siz.kept hz (fun j hj _ => hk j hj.1), h.pts.kept hz (fun j hj _ => hk j hj.1), h.own, fun j hj => Nat.lt_of_lt_of_le (h.old j hj) hz, h.fine⟩
theorem HidL.few {s : List Int} {B : Int} {Q : Nat → Prop} {W : World} {b : Nat} {last : List Prt} {k : Int} {a : Option Addr} {cap : Nat} {p : Option Addr} {q : Nat} (h : HidL s B Q W b last k a cap p q) : last.length ≤ 8 ∧ (∀ i, i < last.length → (prt last i).2.length ≤ 6) ∧ s.length ≤ 8 ∧ total s ≤ 32 := by
  obtain ⟨h1, h2, h3⟩ := h.fine
  obtain ⟨n0, n8, hsz, n32⟩ := bf_ok (newF_zero.1 h1).1
  rcases h2 with rfl | ⟨h4, h5⟩
  · exact ⟨by simp, fun i hi => by simp at hi, n8, n32⟩
  · refine ⟨by omega, fun i hi => ?_, n8, n32⟩
    have h6 := h5 i hi
    have h7 := hsz i (by omega)
    omega

end Go.Proofs.Ytephagojpnfhcaj.Hid18
