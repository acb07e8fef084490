/-
  sound.sum of distances, sound.Loud of a few numbers: by their contracts.
-/
import Derived.Test.YtiddiohbnliphaeLapSnd
import Derived.Test.YtiddiohbnliphaePulseDist
namespace Go.Proofs.Ytiddiohbnliphae.Pls
open Go.RowKit
open Go.Proofs.Ytiddiohbnliphae.Tre Go.Proofs.Ytiddiohbnliphae.Lap
set_option linter.unusedVariables false

theorem loud_step {l : List Int} {k : Nat} (hk : k < l.length) : loud (l.take (k + 1)) = loud (l.take k) + l[k].natAbs := by
  rw [List.take_succ_eq_append_getElem hk, loud_append]
  simp [loud]
theorem loud_in {b : Nat} {l : List Int} (h : In (b : Int) l) : loud l ≤ b * l.length := by
  induction l with
  | nil => simp [loud]
  | cons x r ih =>
    have h1 := h x (by simp)
    have h2 := ih fun n hn => h n (by simp [hn])
    simp only [loud, List.length_cons, Nat.mul_add]
    omega

set_option maxHeartbeats 400000 in
theorem sumL (a : Option Addr) (cap : Nat) (l : List Int) (w : World) (hl : l.length ≤ 32) (hi : In 1000 l) (hr : Row w a l) :
    Calls Try.prog 67 #[.slice a l.length cap, .func (.func 32) #[] #[]] w fun e w' => e = .returned (.int .i64 (loud l : Int)) ∧ w = w' := by
  go_enter Try.func67, Try.ntmps67
  go_wp2
  go_loop [5, 10] (fun t i => ∃ k t' : Nat, k ≤ l.length ∧ i = .int .i64 k ∧ t = .int .i64 t' ∧ Hid (t' = loud (l.take k)) ∧ t' ≤ 32000) (fun _ i => l.length - (intOf i).toNat)
  case atStart => exact ⟨0, 0, Nat.zero_le _, rfl, rfl, rfl, by omega⟩
  case round =>
    obtain ⟨k, t, hk, rfl, rfl, HT, ht⟩ := hrel
    by_cases hlt : k < l.length
    · obtain ⟨b, off, rfl, hb, hcs⟩ := hr.at hlt
      have hck := hcs k hlt
      clear hcs
      obtain ⟨e1, e2⟩ := hi _ (List.getElem_mem hlt)
      have HS : Hid (t + l[k].natAbs = loud (l.take (k + 1))) := hide (by rw [loud_step hlt, unhide HT])
      have HB : Hid (t + l[k].natAbs ≤ 32000) := hide (by
        have h1 := loud_in (b := 1000) (hi.take (k + 1))
        rw [← unhide HS] at h1
        have h2 := List.length_take_le (k + 1) l
        omega)
      have hn : l[k].natAbs ≤ 1000 := by omega
      go_wp2_with fail
      refine (dist l[k] w (by omega) (by omega)).mono ?_
      obtain ⟨d, hd⟩ : ∃ d, l[k].natAbs = d := ⟨_, rfl⟩
      rw [hd] at HS HB hn ⊢
      clear hd
      rintro e w' ⟨rfl, rfl⟩
      go_wp2
      go_round
      case rel => exact ⟨k + 1, t + d, by omega, by go_num, by go_num, HS, unhide HB⟩
      case measure => simp [intOf]; omega
    · go_wp2
      go_ret
      exact ⟨ret_int (by rw [unhide HT, List.take_of_length_le (by omega)]), rfl⟩

theorem loud_ok (a : Option Addr) (cap : Nat) (l : List Int) (w : World) (hl : l.length ≤ 32) (hi : In 1000 l) (hr : Row w a l) :
    Calls Try.prog 53 #[.slice a l.length cap] w fun e w' => e = .returned (.tuple #[.int .i64 (loud l : Int), .nilIface]) ∧ Below w.heap.size w w' := by
  go_enter Try.func53, Try.ntmps53
  go_wp2_with fail
  refine (snd_ok a cap l w hl hi hr).mono ?_
  rintro e w1 ⟨rfl, hb1⟩
  have hr1 := hr.below hb1
  go_wp2_with fail
  refine (sumL a cap l w1 hl hi hr1).mono ?_
  rintro e w2 ⟨rfl, rfl⟩
  go_wp2
  go_ret2
  exact ⟨rfl, hb1⟩

end Go.Proofs.Ytiddiohbnliphae.Pls
