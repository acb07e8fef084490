/-
  What is asked of a player, whatever it is made of: a predicate of the world on the blocks that are its own, and what each of its methods answers.
-/
import Derived.Test.Ytephagojpnfhcajhs02
import Derived.Test.Ytephagojpnfhcajhs04
import Derived.Test.Ytephagojpnfhcajhs06
import Derived.Test.Ytephagojpnfhcajhs08
namespace Go.Proofs.Ytephagojpnfhcaj.Hid18
open Go.RowKit
open Go.Proofs.Ytephagojpnfhcaj.Tre Go.Proofs.Ytephagojpnfhcaj.Frm Go.Proofs.Ytephagojpnfhcaj.Pck Go.Proofs.Ytephagojpnfhcaj.Hrn Go.Proofs.Ytephagojpnfhcaj.Ev
set_option linter.unusedVariables false

/-- A player in memory: its sizes and bits, the blocks that are its own, the world, its block, what was played last, how many were lost. -/
abbrev PHolds := List Int → Int → (Nat → Prop) → World → Nat → List Prt → Int → Prop
/-- What a method leaves. -/
def LeftP (H : PHolds) (s : List Int) (B : Int) (Q : Nat → Prop) (W : World) (b : Nat) (last : List Prt) (k : Int) (W' : World) : Prop :=
  ∃ Q' : Nat → Prop, H s B Q' W' b last k ∧ (∀ j, Q' j → Q j ∨ W.heap.size ≤ j) ∧ Keeps Q W W'
/-- What is asked of a player. -/
structure PlayC (H : PHolds) : Prop where
  ok : ∀ {s B Q W b last k}, H s B Q W b last k → newF s B = 0 ∧ Was s last ∧ Gs last
  old : ∀ {s B Q W b last k}, H s B Q W b last k → ∀ j, Q j → j < W.heap.size
  kept : ∀ {s B Q W W' b last k}, H s B Q W b last k → W.heap.size ≤ W'.heap.size → (∀ j, Q j → W'.heap[j]? = W.heap[j]?) → H s B Q W' b last k
  new : ∀ (a : Option Addr) (cap : Nat) (s : List Int) (B : Int) (W : World), Row W a s → s.length ≤ 17592186044416 →
    Calls Try.prog 5 #[.slice a s.length cap, .int .i64 B] W fun e W' => ((newF s B ≠ 0 ∧ e = .returned (.tuple #[.pointer none, errV (newF s B)])) ∨
      (newF s B = 0 ∧ ∃ b Q, e = .returned (.tuple #[.pointer (some ⟨b, 0, none⟩), .nilIface]) ∧ H s B Q W' b [] 0 ∧ ∀ j, Q j → W.heap.size ≤ j)) ∧ Below W.heap.size W W'
  play : ∀ {s B Q W b last k} (x : ByteArray), H s B Q W b last k → x.size ≤ 9223372036854775807 →
    Calls Try.prog 8 #[.pointer (some ⟨b, 0, none⟩), .string x] W fun e W' => ∃ E po qo o last' k', e = .returned (.tuple #[.slice po o.length qo, errV E]) ∧ PlayF (byt x) s B last E o last' ∧ (E = 0 → k' = 0) ∧ (E ≠ 0 → k' = k) ∧ RowN W.heap.size W' po o ∧ o.length ≤ qo ∧ qo ≤ 9223372036854775807 ∧ LeftP H s B Q W b last' k' W'
  lose : ∀ {s B Q W b last k}, H s B Q W b last k → 0 ≤ k → k ≤ 1000000 →
    Calls Try.prog 6 #[.pointer (some ⟨b, 0, none⟩)] W fun e W' => ∃ po qo, e = .returned (.slice po (lostL s last).length qo) ∧ RowN W.heap.size W' po (lostL s last) ∧ (lostL s last).length ≤ qo ∧ qo ≤ 9223372036854775807 ∧ LeftP H s B Q W b (soft last) (k + 1) W'
  lost : ∀ {s B Q W b last k}, H s B Q W b last k →
    Calls Try.prog 7 #[.pointer (some ⟨b, 0, none⟩)] W fun e W' => e = .returned (.int .i64 k) ∧ Below W.heap.size W W'
theorem PlayC.below {H : PHolds} (C : PlayC H) {s : List Int} {B : Int} {Q : Nat → Prop} {W W' : World} {b : Nat} {last : List Prt} {k : Int} (h : H s B Q W b last k) (hb : Below W.heap.size W W') : H s B Q W' b last k := C.kept h hb.size (fun j hj => hb.block j (C.old h j hj))
/-- Behind a mark it stays behind it. -/
theorem LeftP.on {H : PHolds} {s : List Int} {B : Int} {Q : Nat → Prop} {w W W' : World} {b n : Nat} {last : List Prt} {k : Int} (h : LeftP H s B Q W b last k W') (hq : ∀ j, Q j → n ≤ j) (hb : Below n w W) (hn : n ≤ W.heap.size) :
    ∃ Q' : Nat → Prop, H s B Q' W' b last k ∧ (∀ j, Q' j → n ≤ j) ∧ Below n w W' := by
  obtain ⟨Q', h1, h2, h3⟩ := h
  refine ⟨Q', h1, fun j hj => ?_, hb.trans (h3.below hn hq)⟩
  rcases h2 j hj with h | h
  · exact hq j h
  · omega

end Go.Proofs.Ytephagojpnfhcaj.Hid18

/-
  What is told of a frame that is packed, and of bytes that are unpacked, with a fault and without.
-/
namespace Go.Proofs.Ytephagojpnfhcaj.Pck
open Go.RowKit
open Go.Proofs.Ytephagojpnfhcaj.Tre Go.Proofs.Ytephagojpnfhcaj.Bnd Go.Proofs.Ytephagojpnfhcaj.Ev Go.Proofs.Ytephagojpnfhcaj.Frm Go.Proofs.Ytephagojpnfhcaj.Wid Go.Proofs.Ytephagojpnfhcaj.Hrn
set_option linter.unusedVariables false

/-- The text of a frame: none with a fault. -/
def pstr (ps : List Prt) (E : Int) : ByteArray := if E = 0 then str (oct (pbits ps)) else { data := #[] }
theorem pstr_ok (ps : List Prt) : pstr ps 0 = str (oct (pbits ps)) := rfl
theorem pstr_no (ps : List Prt) {E : Int} (h : E ≠ 0) : pstr ps E = { data := #[] } := by unfold pstr; rw [if_neg h]
/-- What Pack tells. -/
def PackSays (ps : List Prt) (s : List Int) (B : Int) (w : World) (e : Ending) (w' : World) : Prop := ∃ E, e = .returned (.tuple #[.string (pstr ps E), errV E]) ∧ PckF ps s B E ∧ Below w.heap.size w w'
/-- What Unpack tells. -/
def UnpSays (x : ByteArray) (s : List Int) (B : Int) (w : World) (e : Ending) (w' : World) : Prop :=
  ∃ E p q ps, e = .returned (.tuple #[.slice p ps.length q, errV E]) ∧ PtsN w.heap.size w' p ps ∧ ps.length ≤ q ∧ q ≤ 9223372036854775807 ∧ UnpF (byt x) s B E ps ∧ Below w.heap.size w w'

end Go.Proofs.Ytephagojpnfhcaj.Pck
