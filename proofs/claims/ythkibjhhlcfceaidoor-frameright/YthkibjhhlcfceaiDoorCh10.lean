/-
  lap.Forward, called with any list: its contract.
-/
import Derived.Test.YthkibjhhlcfceaiDoorCh08
import Derived.Test.YthkibjhhlcfceaiDoorCh09
import Derived.Deep.RegionWith
import Derived.Test.YthkibjhhlcfceaiDoorCh03
import Derived.Test.YthkibjhhlcfceaiDoorCh07
import Derived.Test.YthkibjhhlcfceaiDoorCh05
namespace Go.Proofs.YthkibjhhlcfceaiDoor.Lap
open Go.RowKit
open Go.Proofs.YthkibjhhlcfceaiDoor.Tre
set_option linter.unusedVariables false

theorem fwd_no (a : Option Addr) (cap : Nat) (l : List Int) (w : World) (hl : l.length ≤ 9223372036854775807) (hr : Row w a l) (h : Hid (chk l 1000 ≠ 0)) :
    Calls Tryd.prog 12 #[.slice a l.length cap] w fun e w' => e = .returned (.tuple #[.slice none 0 0, .iface 47 (.int .i64 (chk l 1000))]) ∧ Below w.heap.size w w' := by
  go_enter Tryd.func12, Tryd.ntmps12
  go_wp2_with fail
  refine (check_no a cap l 1000 w hl (by omega) (by omega) hr h).mono ?_
  rintro e w1 ⟨rfl, hb1⟩
  go_wp2
  go_ret2
  exact ⟨rfl, hb1⟩

set_option maxRecDepth 100000 in
set_option maxHeartbeats 4000000 in
theorem fwd_ok (a : Option Addr) (cap : Nat) (l : List Int) (w : World) (hl : l.length ≤ 9223372036854775807) (hr : Row w a l) (h : Hid (chk l 1000 = 0)) :
    Calls Tryd.prog 12 #[.slice a l.length cap] w fun e w' => ∃ v, e = .returned (.tuple #[v, .nilIface]) ∧ Has w' w.heap.size v (lap l) ∧ Below w.heap.size w w' := by
  obtain ⟨z1, z2, z3⟩ := chk_zero (unhide h)
  have HE := hide z2
  clear z2
  have hinE := (ev_in (by omega) z3).mono (show (1000 : Int) ≤ 100000 by omega)
  have hinD := (dif_in (by omega) z3).mono (show (2 * 1000 : Int) ≤ 100000 by omega)
  go_enter Tryd.func12, Tryd.ntmps12
  go_wp2_with fail
  refine (check_ok a cap l 1000 w hl (by omega) (by omega) hr h).mono ?_
  rintro e w1 ⟨rfl, hb1⟩
  have hr1 := hr.below hb1
  go_wp2_with fail
  refine (deal a cap l w1 (by omega) HE hr1).mono ?_
  rintro e w2 ⟨s, d, rfl, hs, hd, ho, hb2⟩
  have hs := hs.mono hb1.size
  have hd := hd.mono hb1.size
  have hB2 := Below.chain hb1 hb2
  obtain ⟨p1, q1, rfl, -⟩ := hs.row
  obtain ⟨p2, q2, rfl, -⟩ := hd.row
  have hn1 := ev_length l
  have hn2 := od_length l
  obtain ⟨n, hn⟩ : ∃ n, n = l.length / 2 := ⟨_, rfl⟩
  rw [← hn] at hn1 hn2
  rw [hn1] at hs ho ⊢
  rw [hn2] at hd ho ⊢
  have HN1 := hide hn1
  have HN2 := hide hn2
  have HN := hide hn
  have hn9 : n ≤ 16 := by omega
  clear hn1 hn2 hn hr1 hb1 hb2
  go_wp2
  go_loopw [21] (fun i wr => ∃ j : Nat, j ≤ n ∧ i = .int .i64 j ∧ Has wr w.heap.size (.slice p1 n q1) (ev l) ∧ Has wr w.heap.size (.slice p2 n q2) (mid (difF (ev l) (od l)) (at0 (od l)) n j) ∧ Below w.heap.size w wr) (fun i _ => n - (intOf i).toNat)
  case atStart => exact ⟨0, Nat.zero_le _, rfl, hs, by rw [mid_zero]; have e := eq_upto (od l); rw [unhide HN2] at e; rw [← e]; exact hd, hB2⟩
  case round =>
    obtain ⟨j, hj, rfl, hs', hd', hB⟩ := hrel
    clear hs hd hB2
    by_cases hlt : j < n
    · obtain ⟨g, c, e1, hg1, hg2, hg3, hg4⟩ := hd'.one (by rw [mid_length]; omega)
      rw [mid_length] at e1
      obtain ⟨rfl, -, rfl⟩ := Value.slice.inj e1
      have hcl := hd'.get (j := j) (by rw [mid_length]; exact hlt)
      rw [mid_at _ _ hlt] at hcl
      have hfz := hd'.frozen j
      obtain ⟨x0, x1⟩ := (od_in (by omega) z3).at (by omega) j
      obtain ⟨y0, y1⟩ := gs_in (by omega) (ev_in (by omega) z3) j
      have hrs := (hs'.inRow rfl).2
      have HV : Hid (difF (ev l) (od l) j = at0 (od l) j - gs (ev l) j) := hide rfl
      obtain ⟨X, hX⟩ : ∃ X, at0 (od l) j = X := ⟨_, rfl⟩
      obtain ⟨Y, hY⟩ : ∃ Y, gs (ev l) j = Y := ⟨_, rfl⟩
      rw [hX] at hcl x0 x1 HV
      rw [hY] at y0 y1 HV
      have HY := hide hY
      clear hX hY
      have hwr : IntKind.i64.wrap (X - Y) = X - Y := IntWalk.i64_in _ (by omega)
      go_wp2
      go_region_with (go_at_call 35; refine (guess p1 n q1 (ev l) j _ (hide HN1.symm) (by omega) hlt hinE (show Row wr.drew _ _ from hrs)).mono ?_; rw [unhide HY]; rintro e w' ⟨rfl, q, rfl⟩)
      all_goals
        obtain ⟨m1, m2, m3⟩ := put_mid hd' hlt (unhide HV) (1 + q)
        go_wp2
        go_roundw
        case rel => exact ⟨j + 1, by omega, by go_num, m2 _ _ hs' ho, m1, m3 _ hB hg1⟩
        case measure => simp [intOf]; omega
    · obtain rfl : j = n := by omega
      rw [mid_all] at hd'
      have hd2 : Has wr w.heap.size (.slice p2 j q2) (dif l) := by unfold dif; rw [← unhide HN]; exact hd'
      have HN3 : Hid ((dif l).length = j) := hide (by rw [dif_length]; exact (unhide HN).symm)
      clear hd'
      go_wp2
      go_loopw [36] (fun i wr => ∃ k : Nat, k ≤ j ∧ i = .int .i64 k ∧ Has wr w.heap.size (.slice p1 j q1) (mid (styF (ev l) (dif l)) (at0 (ev l)) j k) ∧ Has wr w.heap.size (.slice p2 j q2) (dif l) ∧ Below w.heap.size w wr) (fun i _ => j - (intOf i).toNat)
      case atStart => exact ⟨0, Nat.zero_le _, rfl, by rw [mid_zero]; have e := eq_upto (ev l); rw [unhide HN1] at e; rw [← e]; exact hs', hd2, hB⟩
      case round =>
        obtain ⟨k, hk, rfl, hs3, hd3, hB3⟩ := hrel
        clear hs' hd2 hB
        by_cases hlt : k < j
        · obtain ⟨g, c, e1, hg1, hg2, hg3, hg4⟩ := hs3.one (by rw [mid_length]; omega)
          rw [mid_length] at e1
          obtain ⟨rfl, -, rfl⟩ := Value.slice.inj e1
          have hcl := hs3.get (j := k) (by rw [mid_length]; exact hlt)
          rw [mid_at _ _ hlt] at hcl
          have hfz := hs3.frozen k
          obtain ⟨x0, x1⟩ := (ev_in (by omega) z3).at (by omega) k
          obtain ⟨y0, y1⟩ := lf_in (by omega) (dif_in (by omega) z3) k
          have hrs := (hd3.inRow rfl).2
          have HV : Hid (styF (ev l) (dif l) k = at0 (ev l) k + lf (dif l) k) := hide rfl
          obtain ⟨X, hX⟩ : ∃ X, at0 (ev l) k = X := ⟨_, rfl⟩
          obtain ⟨Y, hY⟩ : ∃ Y, lf (dif l) k = Y := ⟨_, rfl⟩
          rw [hX] at hcl x0 x1 HV
          rw [hY] at y0 y1 HV
          have HY := hide hY
          clear hX hY
          have hwr : IntKind.i64.wrap (X + Y) = X + Y := IntWalk.i64_in _ (by omega)
          go_wp2
          go_region_with (go_at_call 36; refine (lift p2 j q2 (dif l) k _ (hide HN3.symm) (by omega) hlt hinD (show Row wr.drew _ _ from hrs)).mono ?_; rw [unhide HY]; rintro e w' ⟨rfl, q, rfl⟩)
          all_goals
            obtain ⟨m1, m2, m3⟩ := put_mid hs3 hlt (unhide HV) (1 + q)
            go_wp2
            go_roundw
            case rel => exact ⟨k + 1, by omega, by go_num, m1, m2 _ _ hd3 ho.symm, m3 _ hB3 hg1⟩
            case measure => simp [intOf]; omega
        · obtain rfl : k = j := by omega
          rw [mid_all] at hs3
          have hs4 : Has wr w.heap.size (.slice p1 k q1) (sty l) := by unfold sty; rw [← unhide HN]; exact hs3
          have HN4 : Hid ((sty l).length = k) := hide (by rw [sty_length]; exact (unhide HN).symm)
          have hrd := (hd3.inRow rfl).2
          clear hs3
          go_wp2_with (at_builtin; refine wpList_app _ rfl _ _ rfl w.heap.size _ (sty l) (dif l) p2 q2 rfl hs4 (congrArg (fun n => Value.slice p2 n q2) (unhide HN3).symm) hrd (by rw [unhide HN3, unhide HN4]; omega) hB3.size ?_; intro v5 w5 k5 g5 _)
          have hB5 := hB3.grown g5 hB3.size (fun r e => (hs4.lt r e).1)
          go_ret2
          exact ⟨_, rfl, k5, hB5⟩

end Go.Proofs.YthkibjhhlcfceaiDoor.Lap

/-
  frame.bandsOf: by its contracts.
-/
namespace Go.Proofs.YthkibjhhlcfceaiDoor.Frm
open Go.RowKit
open Go.Proofs.YthkibjhhlcfceaiDoor.Tre Go.Proofs.YthkibjhhlcfceaiDoor.Bnd
set_option linter.unusedVariables false

/-- The fault of samples and sizes. -/
def cutF (l s : List Int) : Int := if bf s = 0 then (if l.length = total s then Lap.chk l 1000 else 3) else bf s
theorem cutF_zero {l s : List Int} (h : cutF l s = 0) : bf s = 0 ∧ l.length = total s ∧ Lap.chk l 1000 = 0 := by
  unfold cutF at h
  split at h
  · rename_i h1
    split at h
    · rename_i h2
      exact ⟨h1, h2, h⟩
    · omega
  · exact absurd h (by assumption)
theorem cutF_enc {l s : List Int} (B : Int) (h : cutF l s ≠ 0) : encF l s B = cutF l s := by
  unfold cutF at h
  unfold encF cutF
  split
  · rename_i h1
    rw [if_pos h1] at h
    obtain ⟨n0, n8, hsz, n32⟩ := bf_ok h1
    split
    · rename_i h2
      rw [if_pos h2.1] at h
      rw [if_pos h2.1]
      have e1 : Lap.chk l 1000 = 1 := by
        unfold Lap.chk at h ⊢
        rw [if_neg (by omega), if_neg (by omega)] at h ⊢
        split
        · rfl
        · rename_i h3
          rw [if_neg h3] at h
          exact absurd rfl h
      rw [e1, if_neg]
      intro h3
      unfold Lap.chk at e1
      rw [if_neg (by omega), if_neg (by omega), if_neg (by rw [h3.1]; simp)] at e1
      omega
    · rename_i h2
      split
      · rename_i h3
        have h4 : ¬ total s % 2 = 0 := fun e => h2 ⟨h3, e⟩
        unfold Lap.chk
        rw [if_neg (by omega), if_pos (by omega)]
      · rfl
  · rfl
theorem bandsOf_no (a : Option Addr) (cap : Nat) (l : List Int) (b : Option Addr) (capb : Nat) (s : List Int) (w : World) (hr : Row w a l) (hs : Row w b s) (zl : l.length ≤ 9223372036854775807) (zs : s.length ≤ 9223372036854775807) (h : Hid (cutF l s ≠ 0)) :
    Calls Tryd.prog 17 #[.slice a l.length cap, .slice b s.length capb] w fun e w' => e = .returned (.tuple #[.slice none 0 0, .iface 47 (.int .i64 (cutF l s))]) ∧ Below w.heap.size w w' := by
  by_cases h1 : bf s = 0
  · have CB := check_ok b capb s w zs hs (hide h1)
    by_cases h2 : l.length = total s
    · have e : cutF l s = Lap.chk l 1000 := by unfold cutF; rw [if_pos h1, if_pos h2]
      rw [e] at h ⊢
      have CF := Lap.fwd_no a cap l w zl hr h
      obtain ⟨TT, hTT⟩ : ∃ TT, total s = TT := ⟨_, rfl⟩
      rw [hTT] at h2 CB
      rw [h2] at CF ⊢
      obtain ⟨F, hF⟩ : ∃ F, Lap.chk l 1000 = F := ⟨_, rfl⟩
      rw [hF] at CF ⊢
      have hTe : ((TT : Int) == (TT : Int)) = true := by simp
      clear hTT h1 h2 h hF e zl
      go_enter Tryd.func17, Tryd.ntmps17
      go_wp2_with fail
      refine CB.mono ?_
      rintro e w1 ⟨rfl, rfl⟩
      go_wp2_with fail
      refine CF.mono ?_
      rintro e w2 ⟨rfl, hb⟩
      go_wp2
      go_ret2
      exact ⟨rfl, hb⟩
    · have e : cutF l s = 3 := by unfold cutF; rw [if_pos h1, if_neg h2]
      rw [e]
      obtain ⟨TT, hTT⟩ : ∃ TT, total s = TT := ⟨_, rfl⟩
      obtain ⟨M, hM⟩ : ∃ M, l.length = M := ⟨_, rfl⟩
      rw [hTT] at h2 CB
      rw [hM] at h2 ⊢
      have n1 : ((M : Int) == (TT : Int)) = false := by rw [beq_eq_false_iff_ne]; omega
      have n2 : ((M : Int) != (TT : Int)) = true := by simp; omega
      have n3 : (M == TT) = false := by rw [beq_eq_false_iff_ne]; omega
      clear hTT hM h1 h2 h e zl
      go_enter Tryd.func17, Tryd.ntmps17
      go_wp2_with fail
      refine CB.mono ?_
      rintro e w1 ⟨rfl, rfl⟩
      go_wp2
      go_ret2
      exact ⟨rfl, Below.refl _ _⟩
  · have e : cutF l s = bf s := by unfold cutF; rw [if_neg h1]
    rw [e]
    have CB := check_no b capb s w zs hs (hide h1)
    obtain ⟨F, hF⟩ : ∃ F, bf s = F := ⟨_, rfl⟩
    rw [hF] at CB ⊢
    clear hF h1 h e
    go_enter Tryd.func17, Tryd.ntmps17
    go_wp2_with fail
    refine CB.mono ?_
    rintro e w1 ⟨rfl, rfl⟩
    go_wp2
    go_ret2
    exact ⟨rfl, Below.refl _ _⟩
theorem bandsOf_ok (a : Option Addr) (cap : Nat) (l : List Int) (b : Option Addr) (capb : Nat) (s : List Int) (w : World) (hr : Row w a l) (hs : Row w b s) (h : Hid (cutF l s = 0)) :
    Calls Tryd.prog 17 #[.slice a l.length cap, .slice b s.length capb] w fun e w' => ∃ A, e = .returned (.tuple #[.slice A s.length s.length, .nilIface]) ∧ Rws w' A (cuts (Lap.lap l) s) ∧ Below w.heap.size w w' := by
  obtain ⟨h1, h2, h3⟩ := cutF_zero (unhide h)
  obtain ⟨n0, n8, hsz, n32⟩ := bf_ok h1
  obtain ⟨k1, k2, k3⟩ := Lap.chk_zero h3
  have CB := check_ok b capb s w (by omega) hs (hide h1)
  have CF := Lap.fwd_ok a cap l w (by omega) hr (hide h3)
  have HLL := hide (Lap.lap_length k2)
  have CS := hide (fun W q c hq hm hm9 h => split_ok q c (Lap.lap l) b capb s W hq hm hm9 h (hide h1) (hide (by rw [unhide HLL]; exact h2.symm)))
  obtain ⟨TT, hTT⟩ : ∃ TT, total s = TT := ⟨_, rfl⟩
  rw [hTT] at h2 CB
  rw [h2] at CF ⊢
  have hTe : ((TT : Int) == (TT : Int)) = true := by simp
  clear hTT h1 h2 h h3 k1 k2 k3 HLL hsz n32
  go_enter Tryd.func17, Tryd.ntmps17
  go_wp2_with fail
  refine CB.mono ?_
  rintro e w1 ⟨rfl, rfl⟩
  go_wp2_with fail
  refine CF.mono ?_
  rintro e w2 ⟨v, rfl, k2, hb2⟩
  obtain ⟨p3, c3, rfl, r3, m3, m9⟩ := Ev.has_room k2
  go_wp2_with fail
  refine (unhide CS _ _ _ r3 m3 m9 (hs.below hb2)).mono ?_
  rintro e w3 ⟨A, rfl, hA, hb3⟩
  go_wp2
  go_ret2
  exact ⟨_, rfl, hA, Below.chain hb2 hb3⟩

end Go.Proofs.YthkibjhhlcfceaiDoor.Frm

/-
  Parts of a frame that lie in memory behind a mark: no older block is among theirs.
-/
namespace Go.Proofs.YthkibjhhlcfceaiDoor.Frm
open Go.RowKit
open Go.Proofs.YthkibjhhlcfceaiDoor.Tre
set_option linter.unusedVariables false

/-- A row behind a mark. -/
def RowN (n : Nat) (w : World) (a : Option Addr) (l : List Int) : Prop :=
  l = [] ∨ ∃ b off, a = some ⟨b, off, none⟩ ∧ n ≤ b ∧ b < w.heap.size ∧ ∀ j, j < l.length → w.cell? ⟨b, off + j, none⟩ = some (.int .i64 (l.getD j 0))
theorem RowN.row {n : Nat} {w : World} {a : Option Addr} {l : List Int} (h : RowN n w a l) : Row w a l := by
  rcases h with h | ⟨b, off, e, _, hb, hc⟩
  · exact Or.inl h
  · exact Or.inr ⟨b, off, e, hb, hc⟩
theorem RowN.mono {n m : Nat} {w : World} {a : Option Addr} {l : List Int} (h : RowN n w a l) (hm : m ≤ n) : RowN m w a l := by
  rcases h with h | ⟨b, off, e, hn, hb, hc⟩
  · exact Or.inl h
  · exact Or.inr ⟨b, off, e, Nat.le_trans hm hn, hb, hc⟩
/-- What keeps all blocks but one keeps a row behind it. -/
theorem RowN.but {n c : Nat} {w w' : World} {a : Option Addr} {l : List Int} (h : RowN n w a l) (hg : w.grownBy w' (some c)) (hc : c < n) : RowN n w' a l := by
  rcases h with h | ⟨b, off, e, hn, hb, hcs⟩
  · exact Or.inl h
  · refine Or.inr ⟨b, off, e, hn, Nat.lt_of_lt_of_le hb hg.size, fun j hj => ?_⟩
    rw [World.cell?_of_block (a := ⟨b, off + j, none⟩) (hg.block b hb (fun e => by cases e; omega))]
    exact hcs j hj
theorem RowN.below {n : Nat} {w w' : World} {a : Option Addr} {l : List Int} (h : RowN n w a l) (hb : Below w.heap.size w w') : RowN n w' a l := by
  rcases h with h | ⟨b, off, e, hn, hb', hcs⟩
  · exact Or.inl h
  · exact Or.inr ⟨b, off, e, hn, Nat.lt_of_lt_of_le hb' hb.size, fun j hj => (hb.cell (p := ⟨b, off + j, none⟩) hb').trans (hcs j hj)⟩
theorem rowN_of {w : World} {base : Nat} {v : Value} {l : List Int} (h : Has w base v l) : ∃ a cap, v = .slice a l.length cap ∧ (a = none → cap = 0) ∧ l.length ≤ cap ∧ cap ≤ 9223372036854775807 ∧ RowN base w a l := by
  obtain ⟨A, C, e, h2, h3, h4, h5⟩ := h.sli
  refine ⟨A, C, e, h2, h3, h4, ?_⟩
  rcases h5 with h5 | ⟨b, off, ea, hb, hc⟩
  · exact Or.inl h5
  · refine Or.inr ⟨b, off, ea, ?_, hb, hc⟩
    subst ea
    exact (h.lt b (by rw [e]; rfl)).1

/-- A slice of integers in a cell, behind a mark. -/
def CelN (n : Nat) (w : World) (p : Addr) (l : List Int) : Prop := ∃ A C, w.cell? p = some (.slice A l.length C) ∧ (A = none → C = 0) ∧ l.length ≤ C ∧ C ≤ 9223372036854775807 ∧ RowN n w A l
def PtsN (n : Nat) (w : World) (a : Option Addr) (ps : List Prt) : Prop :=
  ps = [] ∨ ∃ b off, a = some ⟨b, off, none⟩ ∧ n ≤ b ∧ b < w.heap.size ∧ ∀ r, r < ps.length → w.cell? ⟨b, off + r * 2, none⟩ = some (.int .i64 (prt ps r).1) ∧ CelN n w ⟨b, off + r * 2 + 1, none⟩ (prt ps r).2
theorem PtsN.pts {n : Nat} {w : World} {a : Option Addr} {ps : List Prt} (h : PtsN n w a ps) : Pts w a ps := by
  rcases h with h | ⟨b, off, e, _, hb, hc⟩
  · exact Or.inl h
  · refine Or.inr ⟨b, off, e, hb, fun r hr => ⟨(hc r hr).1, ?_⟩⟩
    obtain ⟨A, C, h1, h2, h3, h4, h5⟩ := (hc r hr).2
    exact ⟨A, C, h1, h2, h3, h4, h5.row⟩
theorem PtsN.mono {n m : Nat} {w : World} {a : Option Addr} {ps : List Prt} (h : PtsN n w a ps) (hm : m ≤ n) : PtsN m w a ps := by
  rcases h with h | ⟨b, off, e, hn, hb, hc⟩
  · exact Or.inl h
  · refine Or.inr ⟨b, off, e, Nat.le_trans hm hn, hb, fun r hr => ⟨(hc r hr).1, ?_⟩⟩
    obtain ⟨A, C, h1, h2, h3, h4, h5⟩ := (hc r hr).2
    exact ⟨A, C, h1, h2, h3, h4, h5.mono hm⟩
theorem PtsN.below {n : Nat} {w w' : World} {a : Option Addr} {ps : List Prt} (h : PtsN n w a ps) (hb : Below w.heap.size w w') : PtsN n w' a ps := by
  rcases h with h | ⟨b, off, e, hn, hb', hc⟩
  · exact Or.inl h
  · refine Or.inr ⟨b, off, e, hn, Nat.lt_of_lt_of_le hb' hb.size, fun r hr => ⟨(hb.cell (p := ⟨b, off + r * 2, none⟩) hb').trans (hc r hr).1, ?_⟩⟩
    obtain ⟨A, C, h1, h2, h3, h4, h5⟩ := (hc r hr).2
    exact ⟨A, C, (hb.cell (p := ⟨b, off + r * 2 + 1, none⟩) hb').trans h1, h2, h3, h4, h5.below hb⟩
theorem PtsN.but {n c : Nat} {w w' : World} {a : Option Addr} {ps : List Prt} (h : PtsN n w a ps) (hg : w.grownBy w' (some c)) (hc' : c < n) : PtsN n w' a ps := by
  rcases h with h | ⟨b, off, e, hn, hb', hc⟩
  · exact Or.inl h
  · have hk : ∀ j, w'.cell? ⟨b, j, none⟩ = w.cell? ⟨b, j, none⟩ := fun j => World.cell?_of_block (a := ⟨b, j, none⟩) (hg.block b hb' (fun e => by cases e; omega))
    refine Or.inr ⟨b, off, e, hn, Nat.lt_of_lt_of_le hb' hg.size, fun r hr => ⟨(hk _).trans (hc r hr).1, ?_⟩⟩
    obtain ⟨A, C, h1, h2, h3, h4, h5⟩ := (hc r hr).2
    exact ⟨A, C, (hk _).trans h1, h2, h3, h4, h5.but hg hc'⟩
theorem PtsN.at {n : Nat} {w : World} {a : Option Addr} {ps : List Prt} (h : PtsN n w a ps) {k : Nat} (hk : k < ps.length) :
    ∃ b off, a = some ⟨b, off, none⟩ ∧ n ≤ b ∧ b < w.heap.size ∧ ∀ r, r < ps.length → w.cell? ⟨b, off + r * 2, none⟩ = some (.int .i64 (prt ps r).1) ∧ CelN n w ⟨b, off + r * 2 + 1, none⟩ (prt ps r).2 := by
  rcases h with h | h
  · subst h; exact absurd hk (by simp)
  · exact h
/-- A value that is a slice of these integers, behind a mark. -/
def SliN (n : Nat) (w : World) (V : Value) (l : List Int) : Prop := ∃ A C, V = .slice A l.length C ∧ (A = none → C = 0) ∧ l.length ≤ C ∧ C ≤ 9223372036854775807 ∧ RowN n w A l
theorem HasP.ptsN {w : World} {base : Nat} {v : Value} {qs : List (Int × Value)} {ps : List Prt} (h : HasP w base v qs) (hl : ps.length = qs.length) (hc : ∀ r, r < ps.length → ∃ V, qs[r]? = some ((prt ps r).1, V) ∧ SliN base w V (prt ps r).2) :
    ∃ a cap, v = .slice a ps.length cap ∧ PtsN base w a ps ∧ ps.length ≤ cap ∧ cap ≤ 9223372036854775807 := by
  have h' := h
  rcases h.2 with ⟨h1, h2⟩ | ⟨g, cap, cur, hv, hb, hg, hn, hm, _⟩
  · have e : ps = [] := List.length_eq_zero_iff.1 (by omega)
    subst e
    exact ⟨none, 0, h1, Or.inl rfl, Nat.le_refl _, by omega⟩
  · refine ⟨some ⟨g, 0, none⟩, cap, by rw [hl]; exact hv, ?_, by omega, by simpa [maxLen] using hm⟩
    by_cases hl0 : ps = []
    · exact Or.inl hl0
    · refine Or.inr ⟨g, 0, rfl, hb, (Array.getElem?_eq_some_iff.1 hg).1, fun j hj => ?_⟩
      subst hv
      obtain ⟨V, hV, A, C, s1, s2, s3, s4, s5⟩ := hc j hj
      obtain ⟨c0, c1⟩ := h'.get rfl hV
      rw [Nat.zero_add]
      exact ⟨c0, A, C, by rw [c1, s1], s2, s3, s4, s5⟩

end Go.Proofs.YthkibjhhlcfceaiDoor.Frm
