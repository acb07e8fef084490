/-
  slices.Clone of integers: by its contract.
-/
import Derived.Test.YtjojeifoddonnakGreatLc07
import Derived.Lib.SliceRun
import Derived.Test.YtjojeifoddonnakGreatLc03
namespace Go.Proofs.YtjojeifoddonnakGreat.Bnd
open Go.RowKit
open Go.Proofs.YtjojeifoddonnakGreat.Tre
set_option linter.unusedVariables false

theorem not_nil (w : World) (a : Addr) (n c : Nat) : (binOp .eql 23 (.slice (some a) n c) (.slice none 0 0)).run Tryz.prog w = .ok (.bool false) w :=
  Lib.run_eql_slice_nil w 23 3 (some a) n c 0 0 Tryz.underlying23
/-- An empty slice that was just made. -/
theorem has_empty (w : World) (base : Nat) (hb : base ≤ w.heap.size) : Has (w.alloc (.cells #[] 3)) base (.slice (some ⟨w.heap.size, 0, none⟩) 0 0) [] :=
  ⟨rfl, .inr ⟨w.heap.size, 0, #[], rfl, hb, heap_alloc_new w _, Nat.le_refl _, Nat.zero_le _, rfl, rfl⟩⟩

theorem clone (b off cap : Nat) (n : Nat) (l : List Int) (w : World) (hn : Hid (n = l.length)) (hl : n ≤ 1000) (hr : Row w (some ⟨b, off, none⟩) l) :
    Calls Tryz.prog 19 #[.slice (some ⟨b, off, none⟩) n cap] w fun e w' => ∃ v, e = .returned v ∧ Has w' w.heap.size v l ∧ Below w.heap.size w w' := by
  have hb1 : Below w.heap.size w (w.alloc (.cells #[] 3)) := (Below.refl _ _).alloc (Nat.le_refl _) _
  have hnn := not_nil w ⟨b, off, none⟩ n cap
  have H0 := has_empty w w.heap.size (Nat.le_refl _)
  have hr1 := hr.below hb1
  go_enter Tryz.func19, Tryz.ntmps19
  go_wp2_with (at_builtin; refine wpList_app _ rfl _ _ rfl w.heap.size _ [] l (some ⟨b, off, none⟩) cap rfl H0 (congrArg (fun n => Value.slice (some ⟨b, off, none⟩) n cap) (unhide hn)) hr1 (by rw [← unhide hn]; simp; omega) (by simp) ?_; intro s1 w1 k1 g1 at1; rw [List.nil_append] at k1)
  go_ret
  exact ⟨_, rfl, k1, hb1.grown g1 (by simp) (fun k e => (H0.lt k e).1)⟩

end Go.Proofs.YtjojeifoddonnakGreat.Bnd

/-
  slices.Clone of integers (BandClo), beside slices of slices of this call's own.
-/
namespace Go.Proofs.YtjojeifoddonnakGreat.Bnd
end Go.Proofs.YtjojeifoddonnakGreat.Bnd

/-
  band.Split, called with any numbers and any sizes: its contract.
-/
namespace Go.Proofs.YtjojeifoddonnakGreat.Bnd
open Go.RowKit
open Go.Proofs.YtjojeifoddonnakGreat.Tre
set_option linter.unusedVariables false

theorem split_no (a : Option Addr) (cap N : Nat) (b : Option Addr) (capb : Nat) (s : List Int) (w : World) (hl : s.length ≤ 9223372036854775807) (hr : Row w b s) (h : Hid (bf s ≠ 0)) :
    Calls Tryz.prog 48 #[.slice a N cap, .slice b s.length capb] w fun e w' => e = .returned (.tuple #[.slice none 0 0, .iface 60 (.int .i64 (bf s))]) ∧ w' = w := by
  go_enter Tryz.func48, Tryz.ntmps48
  go_wp2_with fail
  refine (check_no b capb s w hl hr h).mono ?_
  rintro e w1 ⟨rfl, rfl⟩
  go_wp2
  go_ret2
  exact ⟨rfl, rfl⟩
theorem split_shape (a : Option Addr) (cap N : Nat) (b : Option Addr) (capb : Nat) (s : List Int) (w : World) (hl : s.length ≤ 9223372036854775807) (hN : N ≤ 9223372036854775807) (hr : Row w b s) (h : Hid (bf s = 0)) (hne : Hid (N ≠ total s)) :
    Calls Tryz.prog 48 #[.slice a N cap, .slice b s.length capb] w fun e w' => e = .returned (.tuple #[.slice none 0 0, .iface 60 (.int .i64 3)]) ∧ w' = w := by
  have hck := check_ok b capb s w hl hr h
  have hq : ((N : Int) == (total s : Int)) = false := by rw [beq_eq_false_iff_ne]; have := unhide hne; omega
  obtain ⟨T, hT⟩ : ∃ T, total s = T := ⟨_, rfl⟩
  rw [hT] at hck hq
  clear hT
  go_enter Tryz.func48, Tryz.ntmps48
  go_wp2_with fail
  refine hck.mono ?_
  clear hck
  rintro e w1 ⟨rfl, rfl⟩
  go_wp2
  go_ret2
  exact ⟨rfl, rfl⟩

/-- One band is set: the others stay. -/
theorem bands_put {wr w2 : World} {n₀ N j : Nat} {vs : List Value} {v : Value} {l s : List Int} (hS : HasS wr n₀ (.slice (some ⟨n₀, 0, none⟩) N N) vs) (hvs : vs.length = N) (hj : j < N) (hn : n₀ < wr.heap.size)
    (hd : ∀ r, r < j → ∃ V, vs[r]? = some V ∧ Has wr (n₀ + 1) V (cutAt l s r)) (hv : Has w2 wr.heap.size v (cutAt l s j)) (hb : Below wr.heap.size wr w2) :
    HasS (w2.setCell ⟨n₀, j, none⟩ v) n₀ (.slice (some ⟨n₀, 0, none⟩) N N) (vs.set j v) ∧ (∀ r, r < j + 1 → ∃ V, (vs.set j v)[r]? = some V ∧ Has (w2.setCell ⟨n₀, j, none⟩ v) (n₀ + 1) V (cutAt l s r)) := by
  obtain ⟨h1, h2⟩ := (hS.below hb).put hvs.symm j v
  have hk : ∀ (V : Value) (m : List Int), Has w2 (n₀ + 1) V m → Has (w2.setCell ⟨n₀, j, none⟩ v) (n₀ + 1) V m := by
    intro V m hV
    refine hV.kept h2 ?_
    cases hb' : V.ownBlock with
    | none => exact Or.inl rfl
    | some k =>
      refine Or.inr fun e => ?_
      cases e
      have := (hV.lt _ hb').1
      omega
  refine ⟨h1, fun r hr => ?_⟩
  by_cases e : r = j
  · subst e
    exact ⟨v, by rw [List.getElem?_set_self (by omega)], hk _ _ (hv.mono (by omega))⟩
  · obtain ⟨V, hV, hH⟩ := hd r (by omega)
    exact ⟨V, by rw [List.getElem?_set_ne (by omega)]; exact hV, hk _ _ (hH.below hb)⟩

set_option maxHeartbeats 2000000 in
theorem split_ok (a : Option Addr) (cap : Nat) (l : List Int) (b : Option Addr) (capb : Nat) (s : List Int) (w : World) (hr : Row w a l) (hm : l.length ≤ cap) (hm9 : cap ≤ 9223372036854775807) (hs : Row w b s) (h : Hid (bf s = 0)) (ht : Hid (total s = l.length)) :
    Calls Tryz.prog 48 #[.slice a l.length cap, .slice b s.length capb] w fun e w' => ∃ A, e = .returned (.tuple #[.slice A s.length s.length, .nilIface]) ∧ Rws w' A (cuts l s) ∧ Below w.heap.size w w' := by
  obtain ⟨f1, f2, f3, f4⟩ := bf_ok (unhide h)
  have hck := check_ok b capb s w (by omega) hs h
  have hl32 : l.length ≤ 32 := by have := unhide ht; omega
  rw [unhide ht] at hck
  obtain ⟨N, hN⟩ : ∃ N, s.length = N := ⟨_, rfl⟩
  obtain ⟨M0, hM0⟩ : ∃ M0, l.length = M0 := ⟨_, rfl⟩
  have HN := hide hN
  have HM0 := hide hM0
  have HSZ := hide f3
  have HD0 : Hid (M0 = (l.drop (pre s 0)).length) := hide (by rw [← hM0]; rfl)
  have hrd : Row w a (l.drop (pre s 0)) := hr
  rw [hN] at hck f1 f2 ⊢
  rw [hM0] at hck hm hl32 ⊢
  clear hN hM0 f3 f4
  go_enter Tryz.func48, Tryz.ntmps48
  go_wp2_with fail
  refine hck.mono ?_
  clear hck
  rintro e w1 ⟨rfl, rfl⟩
  go_wp2_with (at_make; refine wpList_mks _ rfl _ rfl N rfl (by omega) ?_; intro w2 hS2 hb2 hlt2)
  go_wp2
  go_loopw [0, 29] (fun lv i wr => ∃ (j : Nat) (A : Option Addr) (M C : Nat) (vs : List Value), j ≤ N ∧ i = .int .i64 j ∧ lv = .slice A M C ∧ Hid (M = (l.drop (pre s j)).length) ∧ M ≤ 32 ∧ M ≤ C ∧ C ≤ 9223372036854775807 ∧ Row w1 A (l.drop (pre s j)) ∧
      HasS wr w1.heap.size (.slice (some ⟨w1.heap.size, 0, none⟩) N N) vs ∧ Hid (vs.length = N) ∧ Hid (∀ r, r < j → ∃ V, vs[r]? = some V ∧ Has wr (w1.heap.size + 1) V (cutAt l s r)) ∧ Below w1.heap.size w1 wr ∧ w1.heap.size < wr.heap.size) (fun _ i _ => N - (intOf i).toNat)
  case atStart => exact ⟨0, a, M0, cap, _, Nat.zero_le _, rfl, rfl, HD0, hl32, hm, hm9, hrd, hS2, hide (by rw [List.length_replicate]), hide (fun r hr => by omega), hb2, hlt2⟩
  case round =>
    obtain ⟨j, A, M, C, vs, hj, rfl, rfl, HM, hM32, hMC, hC9, hrA, hS, HV, HD, hB, hlt⟩ := hrel
    clear hS2 hb2 hlt2 hrd HD0
    by_cases hjN : j < N
    · have hjs : j < s.length := by rw [unhide HN]; exact hjN
      obtain ⟨b1, off1, rfl, _, hc1⟩ := cell_at (hs.below hB) (by omega)
      have c1 := hc1 j hjs
      have h1 := unhide HSZ j hjs
      have hp := pre_total s (j := j + 1) hjs
      rw [pre_succ, unhide ht] at hp
      have hlen := unhide HM
      rw [List.length_drop] at hlen
      have HC1 : Hid ((at0 s j).toNat = (cutAt l s j).length) := hide (cutAt_length (unhide ht) hjs).symm
      have hcut : Row w1 A (cutAt l s j) := hrA.take _
      have HP := hide (pre_succ s j)
      obtain ⟨X, hX⟩ : ∃ X : Nat, at0 s j = X := ⟨(at0 s j).toNat, by omega⟩
      rw [hX] at c1 h1 hp HC1 HP
      have hXX : ((X : Int)).toNat = X := by omega
      rw [hXX] at hp HC1 HP
      have hXM : X ≤ M := by omega
      have hX6 : X ≤ 6 := by omega
      have hXC : X ≤ C := by omega
      obtain ⟨b0, off0, rfl, hb0, _⟩ := hrA.at (k := 0) (by rw [← unhide HM]; omega)
      have hdrop : Row w1 (some ⟨b0, off0 + X, none⟩) (l.drop (pre s (j + 1))) := by
        rw [unhide HP, ← List.drop_drop]
        exact hrA.drop X
      have HM2 : Hid (M - X = (l.drop (pre s (j + 1))).length) := hide (by rw [unhide HP, List.length_drop]; omega)
      clear hc1 h1 hp hlen hX hXX hrA hjs
      by_cases hCX : C = X
      · have hE : Hid (l.drop (pre s (j + 1)) = []) := hide (List.eq_nil_of_length_eq_zero (by rw [← unhide HM2]; omega))
        obtain rfl : X = C := hCX.symm
        obtain rfl : X = M := by omega
        have HM3 : Hid (0 = (l.drop (pre s (j + 1))).length) := hide (by rw [unhide hE]; rfl)
        clear HM2
        go_wp2_with fail
        refine (clone b0 off0 X X (cutAt l s j) wr HC1 (by omega) (hcut.below hB)).mono ?_
        rintro e w3 ⟨v3, rfl, k3, hb3⟩
        obtain ⟨p3, n3, q3, rfl⟩ := k3.shape
        have hS3 := hS.below hb3
        obtain ⟨V0, hV0⟩ : ∃ V0, vs[j]? = some V0 := ⟨_, List.getElem?_eq_getElem (by rw [unhide HV]; exact hjN)⟩
        have hcell := hS3.get (unhide HV).symm hV0
        have hfz := hS3.frozen (unhide HV).symm j
        obtain ⟨q1, q2⟩ := bands_put hS (unhide HV) hjN hlt (unhide HD) k3 hb3
        have hB3 := hB.trans (hb3.mono hB.size)
        have Q1 := hide q1
        have Q2 := hide q2
        have HB := hide (Below.setCell (p := ⟨w1.heap.size, j, none⟩) hB3 (Nat.le_refl _) (.slice p3 n3 q3))
        have HV2 : Hid ((vs.set j (.slice p3 n3 q3)).length = N) := hide (by rw [List.length_set]; exact unhide HV)
        have hlt3 : w1.heap.size < w3.heap.size := Nat.lt_of_lt_of_le hlt hb3.size
        have HL3 : Hid (w1.heap.size < (w3.setCell ⟨w1.heap.size, j, none⟩ (.slice p3 n3 q3)).heap.size) := hide (by simpa using hlt3)
        clear q1 q2 hS3 hV0 hB3 hb3 k3 hS HV HD hB hcut HC1
        go_wp2
        go_roundw
        case rel => exact ⟨j + 1, _, 0, _, vs.set j (.slice p3 n3 q3), by omega, by go_num, rfl, HM3, by omega, by omega, by omega, Or.inl (unhide hE), unhide Q1, HV2, Q2, unhide HB, unhide HL3⟩
        case measure => simp [intOf]; omega
      · have hMX : M - X ≤ C - X := by omega
        go_wp2_with fail
        refine (clone b0 off0 C X (cutAt l s j) wr HC1 (by omega) (hcut.below hB)).mono ?_
        rintro e w3 ⟨v3, rfl, k3, hb3⟩
        obtain ⟨p3, n3, q3, rfl⟩ := k3.shape
        have hS3 := hS.below hb3
        obtain ⟨V0, hV0⟩ : ∃ V0, vs[j]? = some V0 := ⟨_, List.getElem?_eq_getElem (by rw [unhide HV]; exact hjN)⟩
        have hcell := hS3.get (unhide HV).symm hV0
        have hfz := hS3.frozen (unhide HV).symm j
        obtain ⟨q1, q2⟩ := bands_put hS (unhide HV) hjN hlt (unhide HD) k3 hb3
        have hB3 := hB.trans (hb3.mono hB.size)
        have Q1 := hide q1
        have Q2 := hide q2
        have HB := hide (Below.setCell (p := ⟨w1.heap.size, j, none⟩) hB3 (Nat.le_refl _) (.slice p3 n3 q3))
        have HV2 : Hid ((vs.set j (.slice p3 n3 q3)).length = N) := hide (by rw [List.length_set]; exact unhide HV)
        have hlt3 : w1.heap.size < w3.heap.size := Nat.lt_of_lt_of_le hlt hb3.size
        have HL3 : Hid (w1.heap.size < (w3.setCell ⟨w1.heap.size, j, none⟩ (.slice p3 n3 q3)).heap.size) := hide (by simpa using hlt3)
        clear q1 q2 hS3 hV0 hB3 hb3 k3 hS HV HD hB hcut HC1
        go_wp2
        go_roundw
        case rel => exact ⟨j + 1, _, M - X, C - X, vs.set j (.slice p3 n3 q3), by omega, by go_num, rfl, HM2, by omega, by omega, by omega, hdrop, unhide Q1, HV2, Q2, unhide HB, unhide HL3⟩
        case measure => simp [intOf]; omega
    · obtain rfl : j = N := by omega
      have hcutR : Rws wr (some ⟨w1.heap.size, 0, none⟩) (cuts l s) := by
        obtain ⟨a', c', e', h'⟩ := hS.rws (ll := cuts l s) (by rw [cuts_length, unhide HV, unhide HN]) (fun r hr => by
          rw [cuts_length, unhide HN] at hr
          obtain ⟨V, hV, hH⟩ := unhide HD r hr
          exact ⟨V, hV, by rw [cuts_at l s (by rw [unhide HN]; exact hr)]; exact hH.sli⟩)
        obtain ⟨e1, e2, e3⟩ := Value.slice.inj e'
        rw [e1]; exact h'
      clear HD hS
      go_wp2
      go_ret2
      exact ⟨_, rfl, hcutR, hB⟩

end Go.Proofs.YtjojeifoddonnakGreat.Bnd
