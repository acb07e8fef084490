/-
  frame.bandsOf: by its contracts.
-/
import Derived.Test.YtjojeifoddonnakGreatLc06
import Derived.Test.YtjojeifoddonnakGreatLc24
import Derived.Test.YtjojeifoddonnakGreatLc11
import Derived.Test.YtjojeifoddonnakGreatLc07
namespace Go.Proofs.YtjojeifoddonnakGreat.Frm
open Go.RowKit
open Go.Proofs.YtjojeifoddonnakGreat.Tre Go.Proofs.YtjojeifoddonnakGreat.Bnd
set_option linter.unusedVariables false

/-- The fault of samples and sizes. -/
def cutF (l s : List Int) : Int := if bf s = 0 then (if l.length = total s then Lap.chk l 1000 else 3) else bf s
theorem cutF_zero {l s : List Int} (h : cutF l s = 0) : bf s = 0 ∧ l.length = total s ∧ Lap.chk l 1000 = 0 := by
  unfold cutF at h
  split at h
  · rename_i h1
    split at h
    · rename_i h2
      exact ⟨h1, h2, h⟩
    · omega
  · exact absurd h (by assumption)
theorem cutF_enc {l s : List Int} (B : Int) (h : cutF l s ≠ 0) : encF l s B = cutF l s := by
  unfold cutF at h
  unfold encF cutF
  split
  · rename_i h1
    rw [if_pos h1] at h
    obtain ⟨n0, n8, hsz, n32⟩ := bf_ok h1
    split
    · rename_i h2
      rw [if_pos h2.1] at h
      rw [if_pos h2.1]
      have e1 : Lap.chk l 1000 = 1 := by
        unfold Lap.chk at h ⊢
        rw [if_neg (by omega), if_neg (by omega)] at h ⊢
        split
        · rfl
        · rename_i h3
          rw [if_neg h3] at h
          exact absurd rfl h
      rw [e1, if_neg]
      intro h3
      unfold Lap.chk at e1
      rw [if_neg (by omega), if_neg (by omega), if_neg (by rw [h3.1]; simp)] at e1
      omega
    · rename_i h2
      split
      · rename_i h3
        have h4 : ¬ total s % 2 = 0 := fun e => h2 ⟨h3, e⟩
        unfold Lap.chk
        rw [if_neg (by omega), if_pos (by omega)]
      · rfl
  · rfl
theorem bandsOf_no (a : Option Addr) (cap : Nat) (l : List Int) (b : Option Addr) (capb : Nat) (s : List Int) (w : World) (hr : Row w a l) (hs : Row w b s) (zl : l.length ≤ 9223372036854775807) (zs : s.length ≤ 9223372036854775807) (h : Hid (cutF l s ≠ 0)) :
    Calls Tryz.prog 23 #[.slice a l.length cap, .slice b s.length capb] w fun e w' => e = .returned (.tuple #[.slice none 0 0, .iface 60 (.int .i64 (cutF l s))]) ∧ Below w.heap.size w w' := by
  by_cases h1 : bf s = 0
  · have CB := check_ok b capb s w zs hs (hide h1)
    by_cases h2 : l.length = total s
    · have e : cutF l s = Lap.chk l 1000 := by unfold cutF; rw [if_pos h1, if_pos h2]
      rw [e] at h ⊢
      have CF := Lap.fwd_no a cap l w zl hr h
      obtain ⟨TT, hTT⟩ : ∃ TT, total s = TT := ⟨_, rfl⟩
      rw [hTT] at h2 CB
      rw [h2] at CF ⊢
      obtain ⟨F, hF⟩ : ∃ F, Lap.chk l 1000 = F := ⟨_, rfl⟩
      rw [hF] at CF ⊢
      have hTe : ((TT : Int) == (TT : Int)) = true := by simp
      clear hTT h1 h2 h hF e zl
      go_enter Tryz.func23, Tryz.ntmps23
      go_wp2_with fail
      refine CB.mono ?_
      rintro e w1 ⟨rfl, rfl⟩
      go_wp2_with fail
      refine CF.mono ?_
      rintro e w2 ⟨rfl, hb⟩
      go_wp2
      go_ret2
      exact ⟨rfl, hb⟩
    · have e : cutF l s = 3 := by unfold cutF; rw [if_pos h1, if_neg h2]
      rw [e]
      obtain ⟨TT, hTT⟩ : ∃ TT, total s = TT := ⟨_, rfl⟩
      obtain ⟨M, hM⟩ : ∃ M, l.length = M := ⟨_, rfl⟩
      rw [hTT] at h2 CB
      rw [hM] at h2 ⊢
      have n1 : ((M : Int) == (TT : Int)) = false := by rw [beq_eq_false_iff_ne]; omega
      have n2 : ((M : Int) != (TT : Int)) = true := by simp; omega
      have n3 : (M == TT) = false := by rw [beq_eq_false_iff_ne]; omega
      clear hTT hM h1 h2 h e zl
      go_enter Tryz.func23, Tryz.ntmps23
      go_wp2_with fail
      refine CB.mono ?_
      rintro e w1 ⟨rfl, rfl⟩
      go_wp2
      go_ret2
      exact ⟨rfl, Below.refl _ _⟩
  · have e : cutF l s = bf s := by unfold cutF; rw [if_neg h1]
    rw [e]
    have CB := check_no b capb s w zs hs (hide h1)
    obtain ⟨F, hF⟩ : ∃ F, bf s = F := ⟨_, rfl⟩
    rw [hF] at CB ⊢
    clear hF h1 h e
    go_enter Tryz.func23, Tryz.ntmps23
    go_wp2_with fail
    refine CB.mono ?_
    rintro e w1 ⟨rfl, rfl⟩
    go_wp2
    go_ret2
    exact ⟨rfl, Below.refl _ _⟩
theorem bandsOf_ok (a : Option Addr) (cap : Nat) (l : List Int) (b : Option Addr) (capb : Nat) (s : List Int) (w : World) (hr : Row w a l) (hs : Row w b s) (h : Hid (cutF l s = 0)) :
    Calls Tryz.prog 23 #[.slice a l.length cap, .slice b s.length capb] w fun e w' => ∃ A, e = .returned (.tuple #[.slice A s.length s.length, .nilIface]) ∧ Rws w' A (cuts (Lap.lap l) s) ∧ Below w.heap.size w w' := by
  obtain ⟨h1, h2, h3⟩ := cutF_zero (unhide h)
  obtain ⟨n0, n8, hsz, n32⟩ := bf_ok h1
  obtain ⟨k1, k2, k3⟩ := Lap.chk_zero h3
  have CB := check_ok b capb s w (by omega) hs (hide h1)
  have CF := Lap.fwd_ok a cap l w (by omega) hr (hide h3)
  have HLL := hide (Lap.lap_length k2)
  have CS := hide (fun W q c hq hm hm9 h => split_ok q c (Lap.lap l) b capb s W hq hm hm9 h (hide h1) (hide (by rw [unhide HLL]; exact h2.symm)))
  obtain ⟨TT, hTT⟩ : ∃ TT, total s = TT := ⟨_, rfl⟩
  rw [hTT] at h2 CB
  rw [h2] at CF ⊢
  have hTe : ((TT : Int) == (TT : Int)) = true := by simp
  clear hTT h1 h2 h h3 k1 k2 k3 HLL hsz n32
  go_enter Tryz.func23, Tryz.ntmps23
  go_wp2_with fail
  refine CB.mono ?_
  rintro e w1 ⟨rfl, rfl⟩
  go_wp2_with fail
  refine CF.mono ?_
  rintro e w2 ⟨v, rfl, k2, hb2⟩
  obtain ⟨p3, c3, rfl, r3, m3, m9⟩ := Ev.has_room k2
  go_wp2_with fail
  refine (unhide CS _ _ _ r3 m3 m9 (hs.below hb2)).mono ?_
  rintro e w3 ⟨A, rfl, hA, hb3⟩
  go_wp2
  go_ret2
  exact ⟨_, rfl, hA, Below.chain hb2 hb3⟩

end Go.Proofs.YtjojeifoddonnakGreat.Frm
