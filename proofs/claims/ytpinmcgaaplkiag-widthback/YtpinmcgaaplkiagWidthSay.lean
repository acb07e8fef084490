/-
  What width.Put, Get, Octets and Bits tell, with a fault and without: one contract each.
-/
import Derived.Test.YtpinmcgaaplkiagWidthFaces
import Derived.Test.YtpinmcgaaplkiagErrV
namespace Go.Proofs.Ytpinmcgaaplkiag.Wid
open Go.RowKit
open Go.Proofs.Ytpinmcgaaplkiag.Tre Go.Proofs.Ytpinmcgaaplkiag.Bnd Go.Proofs.Ytpinmcgaaplkiag.Hrn Go.Proofs.Ytpinmcgaaplkiag.Ev
set_option linter.unusedVariables false

def putL (l ws : List Int) : List Int := if putF l ws = 0 then puts l ws else []
def getL (bs ws : List Int) : List Int := if getF bs ws = 0 then gets bs ws else []
def octL (bs : List Int) : List Int := if bsF bs = 0 then oct bs else []
def btL (b : List Int) (n : Int) : List Int := if btF b n = 0 then (opn b).take n.toNat else []

theorem say_put (a : Option Addr) (cap : Nat) (l : List Int) (b : Option Addr) (capb : Nat) (ws : List Int) (w : World) (hr : Row w a l) (hs : Row w b ws) (zl : l.length ≤ 17592186044416) (zs : ws.length ≤ 17592186044416) :
    Calls Try.prog 12 #[.slice a l.length cap, .slice b ws.length capb] w fun e w' => ∃ p q, e = .returned (.tuple #[.slice p (putL l ws).length q, errV (putF l ws)]) ∧ Row w' p (putL l ws) ∧ (putL l ws).length ≤ q ∧ q ≤ 9223372036854775807 ∧ Below w.heap.size w w' := by
  by_cases h : putF l ws = 0
  · refine (put_ok a cap l b capb ws w hr hs zl zs (hide h)).mono ?_
    rintro e w' ⟨v, he, hv, hb⟩
    unfold putL
    rw [if_pos h, h, errV_zero]
    obtain ⟨p, q, rfl, hrow, hm1, hm2⟩ := has_room hv
    exact ⟨p, q, he, hrow, hm1, hm2, hb⟩
  · refine (put_no a cap l b capb ws _ w hr hs zl zs (hide rfl) (hide h)).mono ?_
    rintro e w' ⟨he, hb⟩
    unfold putL
    rw [if_neg h, errV_ne h]
    exact ⟨none, 0, he, Or.inl rfl, Nat.le_refl _, by omega, hb⟩
theorem say_get (a : Option Addr) (cap : Nat) (bs : List Int) (b : Option Addr) (capb : Nat) (ws : List Int) (w : World) (hr : Row w a bs) (hs : Row w b ws) (hm : bs.length ≤ cap) (hm9 : cap ≤ 9223372036854775807) (zl : bs.length ≤ 17592186044416) (zs : ws.length ≤ 17592186044416) :
    Calls Try.prog 13 #[.slice a bs.length cap, .slice b ws.length capb] w fun e w' => ∃ p q, e = .returned (.tuple #[.slice p (getL bs ws).length q, errV (getF bs ws)]) ∧ Row w' p (getL bs ws) ∧ (getL bs ws).length ≤ q ∧ q ≤ 9223372036854775807 ∧ Below w.heap.size w w' := by
  by_cases h : getF bs ws = 0
  · refine (get_ok a cap bs b capb ws w hr hs hm hm9 zs (hide h)).mono ?_
    rintro e w' ⟨v, he, hv, hb⟩
    unfold getL
    rw [if_pos h, h, errV_zero]
    obtain ⟨p, q, rfl, hrow, hm1, hm2⟩ := has_room hv
    exact ⟨p, q, he, hrow, hm1, hm2, hb⟩
  · refine (get_no a cap bs b capb ws _ w hr hs hm hm9 zl zs (hide rfl) (hide h)).mono ?_
    rintro e w' ⟨he, hb⟩
    unfold getL
    rw [if_neg h, errV_ne h]
    exact ⟨none, 0, he, Or.inl rfl, Nat.le_refl _, by omega, hb⟩
theorem say_octets (a : Option Addr) (cap : Nat) (bs : List Int) (w : World) (hr : Row w a bs) (hm : bs.length ≤ cap) (zl : bs.length ≤ 17592186044416) :
    Calls Try.prog 14 #[.slice a bs.length cap] w fun e w' => e = .returned (.tuple #[.string (str (octL bs)), errV (bsF bs)]) ∧ Below w.heap.size w w' := by
  by_cases h : bsF bs = 0
  · refine (octets_ok a cap bs w hr hm (hide h)).mono ?_
    rintro e w' ⟨he, hb⟩
    unfold octL
    rw [if_pos h, h, errV_zero]
    exact ⟨he, hb⟩
  · refine (octets_no a cap bs _ w hr zl (hide rfl) (hide h)).mono ?_
    rintro e w' ⟨he, hb⟩
    unfold octL
    rw [if_neg h, errV_ne h]
    exact ⟨he, hb⟩
theorem say_bits (s : ByteArray) (n : Int) (w : World) (hs9 : s.size ≤ 9223372036854775807) :
    Calls Try.prog 15 #[.string s, .int .i64 n] w fun e w' => ∃ p q, e = .returned (.tuple #[.slice p (btL (byt s) n).length q, errV (btF (byt s) n)]) ∧ Row w' p (btL (byt s) n) ∧ (btL (byt s) n).length ≤ q ∧ q ≤ 9223372036854775807 ∧ Below w.heap.size w w' := by
  by_cases h : btF (byt s) n = 0
  · obtain ⟨m, rfl⟩ : ∃ m : Nat, n = m := by
      refine ⟨n.toNat, ?_⟩
      have h1 := h
      unfold btF at h1
      split at h1
      · omega
      · omega
    refine (bits_ok s m w hs9 (hide h)).mono ?_
    rintro e w' ⟨v, he, hv, hb⟩
    unfold btL
    rw [if_pos h, h, errV_zero, Int.toNat_natCast]
    obtain ⟨p, q, rfl, hrow, hm1, hm2⟩ := has_room hv
    exact ⟨p, q, he, hrow, hm1, hm2, hb⟩
  · refine (bits_no s n _ w hs9 (hide rfl) (hide h)).mono ?_
    rintro e w' ⟨he, hb⟩
    unfold btL
    rw [if_neg h, errV_ne h]
    exact ⟨none, 0, he, Or.inl rfl, Nat.le_refl _, by omega, hb⟩

end Go.Proofs.Ytpinmcgaaplkiag.Wid
