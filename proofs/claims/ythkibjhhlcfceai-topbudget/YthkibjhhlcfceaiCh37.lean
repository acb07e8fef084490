/-
  hornsame.Ints, at any two lists: its contract.
-/
import Derived.Test.YthkibjhhlcfceaiCh00
import Derived.Deep.QuietTactic
import Derived.BigQuiet
import Derived.ProofKit
import Derived.OpenShut
import Derived.ShutString
import Derived.ChangeOld
import Derived.SizedLaws
namespace Go.Proofs.Ythkibjhhlcfceai.Same
open Go.RowKit
set_option linter.unusedVariables false

theorem same_step {l m : List Int} {k : Nat} (hl : k < l.length) (hm : k < m.length) (h : l.take k = m.take k) (e : l[k] = m[k]) : l.take (k + 1) = m.take (k + 1) := by
  rw [List.take_succ_eq_append_getElem hl, List.take_succ_eq_append_getElem hm, h, e]
theorem same_not {l m : List Int} {k : Nat} (hl : k < l.length) (hm : k < m.length) (e : l[k] ≠ m[k]) : decide (l = m) = false := by
  apply decide_eq_false
  intro h
  subst h
  exact e rfl

set_option maxHeartbeats 400000 in
theorem ints (a : Option Addr) (cap : Nat) (l : List Int) (a' : Option Addr) (cap' : Nat) (m : List Int) (w : World) (hl : l.length ≤ 9223372036854775807) (hm : m.length ≤ 9223372036854775807) (hr : Row w a l) (hr' : Row w a' m) :
    Calls Try.prog 11 #[.slice a l.length cap, .slice a' m.length cap'] w fun e w' => e = .returned (.bool (decide (l = m))) ∧ ∃ n, w' = w.drewN n := by
  by_cases hlm : l.length = m.length
  · have HLM := hide hlm
    have i1 : l.length ≤ m.length := by omega
    have i2 : m.length ≤ l.length := by omega
    clear hlm
    go_enter Try.func11, Try.ntmps11
    go_wp2
    go_loopw [5] (fun i wr => ∃ k : Nat, k ≤ l.length ∧ i = .int .i64 k ∧ Hid (l.take k = m.take k) ∧ ∃ n, wr = w.drewN n) (fun i _ => l.length - (intOf i).toNat)
    case atStart => exact ⟨0, Nat.zero_le _, rfl, hide rfl, 0, rfl⟩
    case round =>
      obtain ⟨k, hk, rfl, HT, n, rfl⟩ := hrel
      by_cases hlt : k < l.length
      · obtain ⟨b, off, rfl, hb, hcs⟩ := hr.at hlt
        have hck := hcs k hlt
        have hlt' : k < m.length := by omega
        obtain ⟨b', off', rfl, hb', hcs'⟩ := hr'.at hlt'
        have hck' := hcs' k hlt'
        clear hcs hcs'
        by_cases heq : l[k] = m[k]
        · have HE := hide heq
          have hq : (l[k] == m[k]) = true := by simp [heq]
          clear heq
          go_wp2
          go_quiet (fail)
          go_wp2
          go_roundw
          case rel => exact ⟨k + 1, by omega, by go_num, hide (same_step hlt hlt' (unhide HT) (unhide HE)), _, rfl⟩
          case measure => simp [intOf]; omega
        · have HE := hide heq
          have hq : (l[k] == m[k]) = false := by simp [heq]
          clear heq
          go_wp2
          go_quiet (fail)
          go_wp2
          go_ret
          exact ⟨by rw [same_not hlt hlt' (unhide HE)]; rfl, n + nq, by rw [World.drewN_drewN]⟩
      · have hkl : k = l.length := by omega
        subst hkl
        go_wp2
        go_ret
        have h1 := unhide HT
        rw [List.take_of_length_le (Nat.le_refl _), List.take_of_length_le (by omega)] at h1
        exact ⟨by rw [decide_eq_true h1]; rfl, _, rfl⟩
  · have hb : ((l.length : Int) == (m.length : Int)) = false := by simp; omega
    have hne : decide (l = m) = false := decide_eq_false fun h => hlm (by rw [h])
    rw [hne]
    clear hlm hne
    go_enter Try.func11, Try.ntmps11
    go_wp2
    go_ret
    exact ⟨rfl, 0, rfl⟩
/-- .. where they are the same. -/
theorem ints_same (a : Option Addr) (cap : Nat) (a' : Option Addr) (cap' : Nat) (l : List Int) (w : World) (hl : l.length ≤ 9223372036854775807) (hr : Row w a l) (hr' : Row w a' l) :
    Calls Try.prog 11 #[.slice a l.length cap, .slice a' l.length cap'] w fun e w' => e = .returned (.bool true) ∧ Below w.heap.size w w' :=
  (ints a cap l a' cap' l w hl hl hr hr').mono fun e w' ⟨he, n, hn⟩ => ⟨by rw [he, decide_eq_true rfl], by rw [hn]; exact ⟨rfl, rfl, rfl, Nat.le_refl _, fun _ _ => rfl⟩⟩

end Go.Proofs.Ythkibjhhlcfceai.Same

/-
  What each frame of a law of this seat takes: no knob of its own, and all types are laid out.
-/
namespace Go.Proofs.Ythkibjhhlcfceai
open Go.ChangeShapes Go.WideShapes Go.ChangeAt Go.RowKit
set_option linter.unusedVariables false

theorem own : ownKnob Try.prog.godebug = none := by kernel_rfl
theorem laidOut : laidOutB Try.prog = true := by kernel_rfl

end Go.Proofs.Ythkibjhhlcfceai

/-
  From what the statement hands over to what the walks take: a slice of integers that was read, as a row in memory; its length within the form's own reach.
-/
namespace Go.Proofs.Ythkibjhhlcfceai
open Go.ChangeShapes Go.WideShapes Go.ChangeAt Go.RowKit
set_option linter.unusedVariables false

theorem cells_int : Try.prog.cellsOf 3 = 1 := by kernel_rfl
theorem bytes_int : Try.prog.bytesOf 3 = 8 := by kernel_rfl

theorem cell_lt {w : World} {a : Addr} {v : Value} (h : w.cell? a = some v) : a.block < w.heap.size := by
  unfold World.cell? at h
  by_cases hb : a.block < w.heap.size
  · exact hb
  · rw [Array.getElem?_eq_none (by omega)] at h
    cases h

theorem open_row {H : Type} {enc : TypeId × Value → H} {W : World} {a : Option Addr} {len cap : Nat} {d : DataW H} {p : List MemPlace}
    (h : DataW.Trod enc Try.prog W 0 (fun _ => true) true 23 (.slice a len cap) d p)
    (hsz : ∀ elems spare, d = .slice elems spare → (elems.length + spare.length) * Try.prog.bytesOf 3 ≤ reachBytes) :
    ∃ l : List Int, len = l.length ∧ Row W a l ∧ (∀ n ∈ l, (Lit.int .i64 n).wf = true) ∧ l.length * 8 ≤ 140737488351232 := by
  obtain ⟨fuel, hf⟩ := h
  rcases open_ints Try.underlying23 Try.underlying3 cells_int hf with ⟨hcs, _⟩ | ⟨x, l, c, zs, hcs, _, hl, hm, hz, hx, hcell, hwz⟩
  · simp [Value.cells] at hcs
    obtain ⟨rfl, rfl, rfl⟩ := hcs
    exact ⟨[], rfl, Or.inl rfl, by simp, by simp⟩
  · simp [Value.cells] at hcs
    obtain ⟨rfl, rfl, rfl⟩ := hcs
    simp only [if_true] at hz
    have hlen : (zs.take len).length = len := by rw [List.length_take]; omega
    refine ⟨zs.take len, hlen.symm, ?_, fun n hn => hwz n (List.mem_of_mem_take hn), ?_⟩
    · by_cases h0 : len = 0
      · exact Or.inl (by rw [h0]; rfl)
      · obtain ⟨b, off, spot⟩ := x
        have hc := hcell 0 (by omega)
        have hspot : spot = none := by simpa [Addr.add] using World.cell?_spot hc
        subst hspot
        refine Or.inr ⟨b, off, rfl, cell_lt (a := Addr.add ⟨b, off, none⟩ 0) hc, fun j hj => ?_⟩
        have hj' : j < len := by omega
        have e : (zs.take len).getD j 0 = zs.getD j 0 := by
          simp [List.getD_eq_getElem?_getD, hj']
        rw [e, ← add_plain]
        exact hcell j (by omega)
    · have := hsz _ _ (congrArg Prod.fst hx)
      rw [bytes_int] at this
      simp only [lits, List.length_map, List.length_take, List.length_drop, reachBytes] at this
      rw [hlen]
      omega

end Go.Proofs.Ythkibjhhlcfceai
