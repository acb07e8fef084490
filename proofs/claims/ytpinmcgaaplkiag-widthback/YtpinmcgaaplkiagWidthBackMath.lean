/-
  Put, and got: what chapter 13's calls tell of what others of them made. No program here.
-/
import Derived.Test.YtpinmcgaaplkiagWidthMath
import Derived.Test.YtpinmcgaaplkiagStr
namespace Go.Proofs.Ytpinmcgaaplkiag.Wid
open Go.Proofs.Ytpinmcgaaplkiag.Tre Go.Proofs.Ytpinmcgaaplkiag.Bnd Go.Proofs.Ytpinmcgaaplkiag.Hrn
set_option linter.unusedVariables false

theorem put_get {l ws : List Int} (h : putF l ws = 0) : getF (puts l ws) ws = 0 ∧ gets (puts l ws) ws = l := by
  obtain ⟨h1, h2, h3⟩ := putF_zero.1 h
  have hs : Wds ws := fun i hi => ⟨(h2 i hi).1, (h2 i hi).2.1⟩
  exact ⟨getF_zero.2 ⟨⟨h3, puts_bit h2⟩, hs, (puts_length l hs).symm⟩, gets_puts h1 h2⟩
theorem get_put {bs ws : List Int} (h : getF bs ws = 0) : putF (gets bs ws) ws = 0 ∧ puts (gets bs ws) ws = bs := by
  obtain ⟨⟨h1, h2⟩, h3, h4⟩ := getF_zero.1 h
  have e := puts_gets h2 h3 h4
  exact ⟨putF_zero.2 ⟨gets_length bs ws, fun i hi => gets_fit h2 h3 hi h4, by rw [e]; exact h1⟩, e⟩
theorem oct_bit {bs : List Int} (h : bsF bs = 0) : btF (byt (str (oct bs))) bs.length = 0 ∧ (opn (byt (str (oct bs)))).take bs.length = bs := by
  obtain ⟨h1, h2⟩ := bsF_zero.1 h
  rw [byt_str (oct_in h2)]
  refine ⟨btF_zero.2 ⟨h1, oct_length bs, fun j h3 h4 => ?_⟩, bits_oct h2⟩
  rw [oct_length] at h4
  rw [opn_oct h2 j h4, at0_none h3]
  omega
theorem bit_oct {s : ByteArray} {m : Nat} (h : btF (byt s) m = 0) : bsF ((opn (byt s)).take m) = 0 ∧ str (oct ((opn (byt s)).take m)) = s ∧ ((opn (byt s)).take m).length = m := by
  obtain ⟨h1, h2, h3⟩ := btF_zero.1 h
  have hl : ((opn (byt s)).take m).length = m := by rw [List.length_take, opn_length]; omega
  refine ⟨bsF_zero.2 ⟨by omega, bit_take (opn_bit (byt_byts s)) m⟩, ?_, hl⟩
  rw [oct_bits (byt_byts s) h2 h3, str_byt]
theorem fact_put : putF [5, 1] [3, 2] = 0 ∧ puts [5, 1] [3, 2] = [1, 0, 1, 0, 1] := by decide +kernel

end Go.Proofs.Ytpinmcgaaplkiag.Wid
