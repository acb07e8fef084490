/-
  What share.Cost, Of and Left tell, with a fault and without: one contract each.
-/
import Derived.Test.YtlklnjaihbjfiahShareFaces
import Derived.Test.YtlklnjaihbjfiahErrV
namespace Go.Proofs.Ytlklnjaihbjfiah.Shr
open Go.RowKit
open Go.Proofs.Ytlklnjaihbjfiah.Tre Go.Proofs.Ytlklnjaihbjfiah.Bnd Go.Proofs.Ytlklnjaihbjfiah.Ev
set_option linter.unusedVariables false

def costN (s p : List Int) : Nat := if costF s p = 0 then cost s p else 0
def ofL (s d : List Int) (B : Int) : List Int := if ofF s d B = 0 then share s d B else []
def leftN (s d : List Int) (B : Int) : Int := if ofF s d B = 0 then B - (cost s (share s d B) : Int) else 0

theorem say_cost (a : Option Addr) (cap : Nat) (s : List Int) (b : Option Addr) (capb : Nat) (p : List Int) (w : World) (hr : Row w a s) (hp : Row w b p) (zs : s.length ≤ 17592186044416) (zp : p.length ≤ 17592186044416) :
    Calls Try.prog 6 #[.slice a s.length cap, .slice b p.length capb] w fun e w' => e = .returned (.tuple #[.int .i64 (costN s p), errV (costF s p)]) ∧ Below w.heap.size w w' := by
  by_cases h : costF s p = 0
  · refine (cost_ok a cap s b capb p w hr hp (hide h)).mono ?_
    rintro e w' ⟨he, hb⟩
    unfold costN
    rw [if_pos h, h, errV_zero]
    exact ⟨he, hb⟩
  · refine (cost_no a cap s b capb p _ w hr hp zs zp (hide rfl) (hide h)).mono ?_
    rintro e w' ⟨he, hb⟩
    unfold costN
    rw [if_neg h, errV_ne h]
    exact ⟨he, hb⟩
theorem say_of (a : Option Addr) (cap : Nat) (s : List Int) (b : Option Addr) (capb : Nat) (d : List Int) (B : Int) (w : World) (hr : Row w a s) (hd : Row w b d) (zs : s.length ≤ 17592186044416) (zd : d.length ≤ 17592186044416) :
    Calls Try.prog 5 #[.slice a s.length cap, .slice b d.length capb, .int .i64 B] w fun e w' => ∃ p q, e = .returned (.tuple #[.slice p (ofL s d B).length q, errV (ofF s d B)]) ∧ Row w' p (ofL s d B) ∧ Below w.heap.size w w' := by
  by_cases h : ofF s d B = 0
  · refine (of_ok a cap s b capb d B w hr hd (hide h)).mono ?_
    rintro e w' ⟨v, he, hv, hb⟩
    unfold ofL
    rw [if_pos h, h, errV_zero]
    obtain ⟨p, q, rfl, hrow⟩ := hv.row
    exact ⟨p, q, he, hrow, hb⟩
  · refine (of_no a cap s b capb d B _ w hr hd zs zd (hide rfl) (hide h)).mono ?_
    rintro e w' ⟨he, hb⟩
    unfold ofL
    rw [if_neg h, errV_ne h]
    exact ⟨none, 0, he, Or.inl rfl, hb⟩
theorem say_left (a : Option Addr) (cap : Nat) (s : List Int) (b : Option Addr) (capb : Nat) (d : List Int) (B : Int) (w : World) (hr : Row w a s) (hd : Row w b d) (zs : s.length ≤ 17592186044416) (zd : d.length ≤ 17592186044416) :
    Calls Try.prog 7 #[.slice a s.length cap, .slice b d.length capb, .int .i64 B] w fun e w' => e = .returned (.tuple #[.int .i64 (leftN s d B), errV (ofF s d B)]) ∧ Below w.heap.size w w' := by
  by_cases h : ofF s d B = 0
  · refine (left_ok a cap s b capb d B w hr hd (hide h)).mono ?_
    rintro e w' ⟨he, hb⟩
    unfold leftN
    rw [if_pos h, h, errV_zero]
    exact ⟨he, hb⟩
  · refine (left_no a cap s b capb d B _ w hr hd zs zd (hide rfl) (hide h)).mono ?_
    rintro e w' ⟨he, hb⟩
    unfold leftN
    rw [if_neg h, errV_ne h]
    exact ⟨he, hb⟩

end Go.Proofs.Ytlklnjaihbjfiah.Shr
