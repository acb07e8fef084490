/-
  Two players beside one another: what one does leaves the other as it was.
-/
import Derived.Test.Ytephagojpnfhcajhs09
namespace Go.Proofs.Ytephagojpnfhcaj.Hid18
open Go.RowKit
open Go.Proofs.Ytephagojpnfhcaj.Tre Go.Proofs.Ytephagojpnfhcaj.Frm
set_option linter.unusedVariables false

structure Two (H : PHolds) (s : List Int) (B : Int) (w W : World) (Qp Qq : Nat → Prop) (bp bq : Nat) (lp : List Prt) (kp : Int) (lq : List Prt) (kq : Int) : Prop where
  p : H s B Qp W bp lp kp
  q : H s B Qq W bq lq kq
  apart : ∀ j, Qp j → ¬ Qq j
  farp : ∀ j, Qp j → w.heap.size ≤ j
  farq : ∀ j, Qq j → w.heap.size ≤ j
  below : Below w.heap.size w W
section
variable {H : PHolds} {s : List Int} {B : Int} {w W W' : World} {Qp Qq : Nat → Prop} {bp bq : Nat} {lp lq l' : List Prt} {kp kq k' : Int}
theorem Two.on (C : PlayC H) (h : Two H s B w W Qp Qq bp bq lp kp lq kq) (hb : Below W.heap.size W W') : Two H s B w W' Qp Qq bp bq lp kp lq kq :=
  ⟨C.below h.p hb, C.below h.q hb, h.apart, h.farp, h.farq, Below.chain h.below hb⟩
theorem Two.left (C : PlayC H) (h : Two H s B w W Qp Qq bp bq lp kp lq kq) (hl : LeftP H s B Qp W bp l' k' W') : ∃ Q', Two H s B w W' Q' Qq bp bq l' k' lq kq := by
  obtain ⟨Q', h1, h2, h3⟩ := hl
  have hs := h.below.size
  refine ⟨Q', h1, C.kept h.q h3.size (fun j hj => h3.block j (C.old h.q j hj) (fun hp => h.apart j hp hj)), fun j hj hq => ?_, fun j hj => ?_, h.farq, h.below.trans (h3.below hs h.farp)⟩
  · rcases h2 j hj with h' | h'
    · exact h.apart j h' hq
    · have := C.old h.q j hq
      omega
  · rcases h2 j hj with h' | h'
    · exact h.farp j h'
    · omega
theorem Two.right (C : PlayC H) (h : Two H s B w W Qp Qq bp bq lp kp lq kq) (hl : LeftP H s B Qq W bq l' k' W') : (∃ Q', Two H s B w W' Qp Q' bp bq lp kp l' k') ∧ Keeps Qq W W' := by
  obtain ⟨Q', h1, h2, h3⟩ := hl
  have hs := h.below.size
  refine ⟨⟨Q', C.kept h.p h3.size (fun j hj => h3.block j (C.old h.p j hj) (h.apart j hj)), h1, fun j hj hq => ?_, h.farp, fun j hj => ?_, h.below.trans (h3.below hs h.farq)⟩, h3⟩
  · rcases h2 j hq with h' | h'
    · exact h.apart j hj h'
    · have := C.old h.p j hj
      omega
  · rcases h2 j hj with h' | h'
    · exact h.farq j h'
    · omega
end
/-- A row that no player has is kept by what that player does. -/
theorem Keeps.rowN {Q : Nat → Prop} {n : Nat} {W W' : World} {a : Option Addr} {l : List Int} (h : Keeps Q W W') (hr : RowN n W a l) (hq : ∀ j, n ≤ j → ¬ Q j) : Row W' a l := by
  rcases hr with e | ⟨b, off, e, hn, hb, hc⟩
  · exact Or.inl e
  · refine Or.inr ⟨b, off, e, Nat.lt_of_lt_of_le hb h.size, fun j hj => ?_⟩
    rw [World.cell?_of_block (a := ⟨b, off + j, none⟩) (h.block b hb (hq b hn))]
    exact hc j hj

end Go.Proofs.Ytephagojpnfhcaj.Hid18
