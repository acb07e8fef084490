/-
  hornsame.Ints, at any two lists: its contract.
-/
import Derived.Test.YthkibjhhlcfceaiDoorCh00
import Derived.Deep.QuietTactic
import Derived.BigQuiet
import Derived.Test.YthkibjhhlcfceaiDoorCh20
import Derived.Test.YthkibjhhlcfceaiDoorCh27
import Derived.Test.YthkibjhhlcfceaiDoorCh06
import Derived.Test.YthkibjhhlcfceaiDoorCh25
import Derived.Test.YthkibjhhlcfceaiDoorCh28
namespace Go.Proofs.YthkibjhhlcfceaiDoor.Same
open Go.RowKit
set_option linter.unusedVariables false

theorem same_step {l m : List Int} {k : Nat} (hl : k < l.length) (hm : k < m.length) (h : l.take k = m.take k) (e : l[k] = m[k]) : l.take (k + 1) = m.take (k + 1) := by
  rw [List.take_succ_eq_append_getElem hl, List.take_succ_eq_append_getElem hm, h, e]
theorem same_not {l m : List Int} {k : Nat} (hl : k < l.length) (hm : k < m.length) (e : l[k] ≠ m[k]) : decide (l = m) = false := by
  apply decide_eq_false
  intro h
  subst h
  exact e rfl

set_option maxHeartbeats 400000 in
theorem ints (a : Option Addr) (cap : Nat) (l : List Int) (a' : Option Addr) (cap' : Nat) (m : List Int) (w : World) (hl : l.length ≤ 9223372036854775807) (hm : m.length ≤ 9223372036854775807) (hr : Row w a l) (hr' : Row w a' m) :
    Calls Tryd.prog 16 #[.slice a l.length cap, .slice a' m.length cap'] w fun e w' => e = .returned (.bool (decide (l = m))) ∧ ∃ n, w' = w.drewN n := by
  by_cases hlm : l.length = m.length
  · have HLM := hide hlm
    have i1 : l.length ≤ m.length := by omega
    have i2 : m.length ≤ l.length := by omega
    clear hlm
    go_enter Tryd.func16, Tryd.ntmps16
    go_wp2
    go_loopw [5] (fun i wr => ∃ k : Nat, k ≤ l.length ∧ i = .int .i64 k ∧ Hid (l.take k = m.take k) ∧ ∃ n, wr = w.drewN n) (fun i _ => l.length - (intOf i).toNat)
    case atStart => exact ⟨0, Nat.zero_le _, rfl, hide rfl, 0, rfl⟩
    case round =>
      obtain ⟨k, hk, rfl, HT, n, rfl⟩ := hrel
      by_cases hlt : k < l.length
      · obtain ⟨b, off, rfl, hb, hcs⟩ := hr.at hlt
        have hck := hcs k hlt
        have hlt' : k < m.length := by omega
        obtain ⟨b', off', rfl, hb', hcs'⟩ := hr'.at hlt'
        have hck' := hcs' k hlt'
        clear hcs hcs'
        by_cases heq : l[k] = m[k]
        · have HE := hide heq
          have hq : (l[k] == m[k]) = true := by simp [heq]
          clear heq
          go_wp2
          go_quiet (fail)
          go_wp2
          go_roundw
          case rel => exact ⟨k + 1, by omega, by go_num, hide (same_step hlt hlt' (unhide HT) (unhide HE)), _, rfl⟩
          case measure => simp [intOf]; omega
        · have HE := hide heq
          have hq : (l[k] == m[k]) = false := by simp [heq]
          clear heq
          go_wp2
          go_quiet (fail)
          go_wp2
          go_ret
          exact ⟨by rw [same_not hlt hlt' (unhide HE)]; rfl, n + nq, by rw [World.drewN_drewN]⟩
      · have hkl : k = l.length := by omega
        subst hkl
        go_wp2
        go_ret
        have h1 := unhide HT
        rw [List.take_of_length_le (Nat.le_refl _), List.take_of_length_le (by omega)] at h1
        exact ⟨by rw [decide_eq_true h1]; rfl, _, rfl⟩
  · have hb : ((l.length : Int) == (m.length : Int)) = false := by simp; omega
    have hne : decide (l = m) = false := decide_eq_false fun h => hlm (by rw [h])
    rw [hne]
    clear hlm hne
    go_enter Tryd.func16, Tryd.ntmps16
    go_wp2
    go_ret
    exact ⟨rfl, 0, rfl⟩
/-- .. where they are the same. -/
theorem ints_same (a : Option Addr) (cap : Nat) (a' : Option Addr) (cap' : Nat) (l : List Int) (w : World) (hl : l.length ≤ 9223372036854775807) (hr : Row w a l) (hr' : Row w a' l) :
    Calls Tryd.prog 16 #[.slice a l.length cap, .slice a' l.length cap'] w fun e w' => e = .returned (.bool true) ∧ Below w.heap.size w w' :=
  (ints a cap l a' cap' l w hl hl hr hr').mono fun e w' ⟨he, n, hn⟩ => ⟨by rw [he, decide_eq_true rfl], by rw [hn]; exact ⟨rfl, rfl, rfl, Nat.le_refl _, fun _ _ => rfl⟩⟩

end Go.Proofs.YthkibjhhlcfceaiDoor.Same

/-
  make of integers behind '&&' or '||': zeros of this call's own.
-/
namespace Go.Proofs.YthkibjhhlcfceaiDoor
open Go.RowKit
open Go.Proofs.YthkibjhhlcfceaiDoor.Tre
set_option linter.unusedVariables false

theorem wpList_mkG {ops : Array Oper} {rest : List Oper} {o : Oper} {a : Act} {Q : Exit → Act → World → Prop} (w : World) (hgw : Region.wanted o (yielded ops a.tmps) = true) (s : Operand)
    (ho : o.op = .makeSlice 22 s s) (n : Nat) (hs : a.eval s = .int .i64 n) (hn : n ≤ 1000000)
    (h : ∀ w', Has w' w.heap.size (.slice (some ⟨w.heap.size, 0, none⟩) n n) (upto (fun _ => 0) n) → Below w.heap.size w w' → wpList Tryd.prog ops Q rest (a.put o.dst (.slice (some ⟨w.heap.size, 0, none⟩) n n)) w') :
    wpList Tryd.prog ops Q (o :: rest) a w := by
  obtain ⟨i0, hi, hz0, hz1, hz2⟩ := info_parts info_int
  refine wpList_step fun K hK => ?_
  rw [if_pos hgw]
  obtain ⟨w', hrun, r1, r2⟩ := run_make_full (P := Tryd.prog) w w.heap.size 22 3 i0 (.int .i64 0) 1 Tryd.underlying22 hi hz0 hz1 .i64 .i64 n (by rw [hz2]; omega) (by unfold maxLen; omega) (Nat.le_refl _)
  unfold Oper.wp
  simp [execOp, ho, hs, hrun, Result.andThen]
  refine hK _ _ (h w' ?_ ((Below.refl _ _).grown r2 (Nat.le_refl _) (by intro k hk; cases hk)))
  rw [Nat.mul_one] at r1
  unfold Has
  rw [upto_zeros, List.map_replicate, List.length_replicate, ← toList_madeCells_one]
  exact r1

end Go.Proofs.YthkibjhhlcfceaiDoor

/-
  The walk of hornlaw4.FrameSilent.
-/
namespace Go.Proofs.YthkibjhhlcfceaiDoor.FrameSilentLaw
open Go.RowKit
open Go.Proofs.YthkibjhhlcfceaiDoor.Tre Go.Proofs.YthkibjhhlcfceaiDoor.Frm Go.Proofs.YthkibjhhlcfceaiDoor.Ev Go.Proofs.YthkibjhhlcfceaiDoor.Same Go.Proofs.YthkibjhhlcfceaiDoor.Aser
set_option linter.unusedVariables false

set_option maxRecDepth 100000 in
set_option maxHeartbeats 32000000 in
theorem walk0 (a : Option Addr) (cap : Nat) (s : List Int) (B : Int) (w : World) (hL : Laid w) (hr : Row w a s) (zs : s.length ≤ 17592186044416) :
    Calls Tryd.prog 4 #[.slice a s.length cap, .int .i64 B] w fun e w' => e = .returned (.bool true) ∧ Below w.heap.size w w' := by
  have hgd := guard_err
  have hne := neq_err
  by_cases h1 : Bnd.bf s = 0
  · obtain ⟨n0, n8, hsz, n32⟩ := Bnd.bf_ok h1
    have CBK := Bnd.check_ok a cap s w (by omega) hr (hide h1)
    have CEN := hide (fun W p q (h : Row W p (upto (fun _ => 0) (Bnd.total s))) h' => Frm.encode p q (upto (fun _ => 0) (Bnd.total s)) a cap s B W h h' (by rw [upto_length]; omega) zs)
    rw [upto_length, upto_zeros] at CEN
    unfold EncSays at CEN
    by_cases h2 : Bnd.total s % 2 = 0 ∧ 0 ≤ B ∧ B ≤ 400
    · obtain ⟨h2, h5, h6⟩ := h2
      have HE := hide (silent_zero (s := s) h1 h2 h5 h6)
      rw [unhide HE, errV_zero] at CEN
      have HM : Hid (∀ ps, EncL (List.replicate (Bnd.total s) 0) s B ps → _) := hide (fun ps (h : EncL (List.replicate (Bnd.total s) 0) s B ps) => silent_made (ps := ps) h1 h2 h5 h6 (by
        rcases h with ⟨h, _⟩ | ⟨_, h⟩
        · exact absurd (unhide HE) h
        · exact h))
      obtain ⟨TT, hTT⟩ : ∃ TT, Bnd.total s = TT := ⟨_, rfl⟩
      rw [hTT] at CBK CEN HM n32
      obtain ⟨N, hN⟩ : ∃ N, s.length = N := ⟨_, rfl⟩
      have HN := hide hN
      rw [hN] at CBK CEN n8 n0 ⊢
      clear hTT hN h2 hsz HE zs h1
      go_enter Tryd.func4, Tryd.ntmps4
      go_wp2_with fail
      refine CBK.mono ?_
      rintro e w1 ⟨rfl, hw1⟩
      obtain rfl : w = w1 := hw1.symm
      clear CBK hw1
      go_wp2_with (at_make; refine wpList_mk _ rfl _ rfl TT rfl (by omega) ?_; intro w2 hv2 hb2)
      go_wp2_with fail
      obtain ⟨-, rz⟩ := hv2.inRow rfl
      rw [upto_zeros] at rz
      refine (unhide CEN _ _ _ rz (hr.below hb2)).mono ?_
      rintro e w3 ⟨p3, q3, ps, rfl, P3, m3, m9, L3, hb3⟩
      obtain ⟨R3, z1, z2, z3⟩ := unhide HM ps L3
      have hB3 := Below.chain hb2 hb3
      have hpl := R3.len
      have HOK := hide R3.ok
      have HZ1 := hide z1
      have hdl : decL ps = List.replicate TT 0 := by unfold decL; rw [if_pos z2, z3]
      have HFL : Hid (∀ i, i < ps.length → (prt ps i).2.length ≤ 17592186044416) := hide (fun i hi => by
        have := (Pls.fault_ok (R3.ok i hi).2).1
        omega)
      have CDE := hide (fun W h => Frm.decode p3 q3 ps W h (by rw [hpl, unhide HN]; omega) HFL)
      rw [hdl, z2, errV_zero, List.length_replicate] at CDE
      rw [hpl, unhide HN] at CDE ⊢
      have HPN : Hid (ps.length = N) := hide (hpl.trans (unhide HN))
      clear CEN HM L3 R3 z1 z2 z3 hdl hpl m3 m9 hv2 hb2 hb3 rz
      go_wp2
      go_loopw [10] (fun i wr => ∃ k : Nat, k ≤ N ∧ i = .int .i64 k ∧ Below w3.heap.size w3 wr) (fun i _ => N - (intOf i).toNat)
      case atStart => exact ⟨0, Nat.zero_le _, rfl, Below.refl _ _⟩
      case round =>
        obtain ⟨k, hk, rfl, hB⟩ := hrel
        by_cases hlt : k < N
        · have hlt1 : k < ps.length := by rw [unhide HPN]; exact hlt
          obtain ⟨b1, off1, rfl, hb1, hc1⟩ := (P3.below hB).at hlt1
          obtain ⟨x1, A, C, x2, x3, x4, x5, x6⟩ := hc1 k hlt1
          obtain ⟨o1, o2⟩ := unhide HOK k hlt1
          obtain ⟨y1, y2⟩ := unhide HZ1 k hlt1
          have CP := Pls.check_ok A C (prt ps k).2 wr x6 (hide o2)
          rw [y2] at CP
          rw [y1] at x1
          obtain ⟨L, hLL⟩ : ∃ L, (prt ps k).2.length = L := ⟨_, rfl⟩
          rw [hLL] at x2 CP
          clear hc1 hLL o1 o2 y1 y2 hlt1 x3 x4 x5 x6
          go_wp2_with fail
          refine CP.mono ?_
          rintro e w4 ⟨rfl, hb4⟩
          have x1' := (hb4.cell (p := ⟨b1, off1 + k * 2, none⟩) hb1).trans x1
          have hB4 := Below.chain hB hb4
          clear CP hB hb4 x1 x2
          go_wp2
          go_roundw
          case rel => exact ⟨k + 1, by omega, by go_num, hB4⟩
          case measure => simp [intOf]; omega
        · obtain rfl : k = N := by omega
          have c := unhide CDE wr (P3.below hB)
          have hkk : ((k : Int) == (k : Int)) = true := by simp
          have hBw := Below.chain hB3 hB
          clear CDE
          go_wp2_with fail
          refine c.mono ?_
          rintro e w5 ⟨p5, q5, rfl, r5, m5, m59, hb5⟩
          have hB5 := Below.chain hBw hb5
          clear c hBw hB hb5
          go_wp2_with (first
            | (at_make; refine wpList_mkG _ (by simp [Region.wanted, yielded]) _ rfl TT rfl (by omega) ?_; intro w6 hv6 hb6)
            | fail)
          obtain ⟨-, r6⟩ := hv6.inRow rfl
          rw [upto_zeros] at r6
          have c := ints_same p5 q5 (some ⟨w5.heap.size, 0, none⟩) TT (List.replicate TT 0) w6 (by rw [List.length_replicate]; omega) (r5.below hb6) r6
          rw [List.length_replicate] at c
          refine c.mono ?_
          rintro e w7 ⟨rfl, hb7⟩
          have hB7 := Below.chain (Below.chain hB5 hb6) hb7
          clear c hB5 hb6 hb7 hv6 r6 r5
          go_wp2
          go_ret
          exact ⟨rfl, hB7⟩
    · have HE : Hid (encF (List.replicate (Bnd.total s) 0) s B ≠ 0) := hide (fun h => by
        obtain ⟨_, _, g2, _, g5, g6, _⟩ := encF_zero.1 h
        exact h2 ⟨g2, g5, g6⟩)
      have HLL : Hid (∀ ps, EncL (List.replicate (Bnd.total s) 0) s B ps → ps.length ≤ 8) := hide (fun ps h => h.len)
      obtain ⟨EF, hEF⟩ : ∃ F, encF (List.replicate (Bnd.total s) 0) s B = F := ⟨_, rfl⟩
      rw [hEF] at HE CEN
      have dE : decide (EF ≠ 0) = true := by simpa using unhide HE
      have HW : Hid (Bnd.total s % 2 = 1 ∨ (Bnd.total s % 2 = 0 ∧ B < 0) ∨ (Bnd.total s % 2 = 0 ∧ 0 ≤ B ∧ 400 < B)) := hide (by omega)
      obtain ⟨TT, hTT⟩ : ∃ TT, Bnd.total s = TT := ⟨_, rfl⟩
      rw [hTT] at CBK CEN HW n32
      obtain ⟨N, hN⟩ : ∃ N, s.length = N := ⟨_, rfl⟩
      rw [hN] at CBK CEN ⊢
      clear hTT hN h2 hsz HE zs h1 hEF n0 n8 HLL
      rcases unhide HW with h | ⟨h, h'⟩ | ⟨h, h', h''⟩
      · have tm : Int.tmod (TT : Int) 2 = 1 := by rw [Int.tmod_eq_emod_of_nonneg (by omega)]; omega
        clear HW h
        go_enter Tryd.func4, Tryd.ntmps4
        go_wp2_with fail
        refine CBK.mono ?_
        rintro e w1 ⟨rfl, hw1⟩
        obtain rfl : w = w1 := hw1.symm
        clear CBK hw1
        go_wp2_with (at_make; refine wpList_mk _ rfl _ rfl TT rfl (by omega) ?_; intro w2 hv2 hb2)
        go_wp2_with fail
        obtain ⟨-, rz⟩ := hv2.inRow rfl
        rw [upto_zeros] at rz
        refine (unhide CEN _ _ _ rz (hr.below hb2)).mono ?_
        rintro e w3 ⟨p3, q3, ps, rfl, P3, m3, m9, L3, hb3⟩
        have hB3 := Below.chain hb2 hb3
        obtain ⟨M, hM⟩ : ∃ M, ps.length = M := ⟨_, rfl⟩
        rw [hM]
        clear CEN L3 m3 m9 hv2 hb2 hb3 rz hM
        go_wp2
        go_ret
        exact ⟨rfl, hB3⟩
      · have tm : Int.tmod (TT : Int) 2 = 0 := by rw [Int.tmod_eq_emod_of_nonneg (by omega)]; omega
        have d1 : decide (B < 0) = true := by simpa using h'
        clear HW h
        go_enter Tryd.func4, Tryd.ntmps4
        go_wp2_with fail
        refine CBK.mono ?_
        rintro e w1 ⟨rfl, hw1⟩
        obtain rfl : w = w1 := hw1.symm
        clear CBK hw1
        go_wp2_with (at_make; refine wpList_mk _ rfl _ rfl TT rfl (by omega) ?_; intro w2 hv2 hb2)
        go_wp2_with fail
        obtain ⟨-, rz⟩ := hv2.inRow rfl
        rw [upto_zeros] at rz
        refine (unhide CEN _ _ _ rz (hr.below hb2)).mono ?_
        rintro e w3 ⟨p3, q3, ps, rfl, P3, m3, m9, L3, hb3⟩
        have hB3 := Below.chain hb2 hb3
        obtain ⟨M, hM⟩ : ∃ M, ps.length = M := ⟨_, rfl⟩
        rw [hM]
        clear CEN L3 m3 m9 hv2 hb2 hb3 rz hM
        go_wp2
        go_ret
        exact ⟨rfl, hB3⟩
      · have tm : Int.tmod (TT : Int) 2 = 0 := by rw [Int.tmod_eq_emod_of_nonneg (by omega)]; omega
        have d1 : decide (B < 0) = false := by simp; omega
        have d2 : decide (400 < B) = true := by simpa using h''
        clear HW h
        go_enter Tryd.func4, Tryd.ntmps4
        go_wp2_with fail
        refine CBK.mono ?_
        rintro e w1 ⟨rfl, hw1⟩
        obtain rfl : w = w1 := hw1.symm
        clear CBK hw1
        go_wp2_with (at_make; refine wpList_mk _ rfl _ rfl TT rfl (by omega) ?_; intro w2 hv2 hb2)
        go_wp2_with fail
        obtain ⟨-, rz⟩ := hv2.inRow rfl
        rw [upto_zeros] at rz
        refine (unhide CEN _ _ _ rz (hr.below hb2)).mono ?_
        rintro e w3 ⟨p3, q3, ps, rfl, P3, m3, m9, L3, hb3⟩
        have hB3 := Below.chain hb2 hb3
        obtain ⟨M, hM⟩ : ∃ M, ps.length = M := ⟨_, rfl⟩
        rw [hM]
        clear CEN L3 m3 m9 hv2 hb2 hb3 rz hM
        go_wp2
        go_ret
        exact ⟨rfl, hB3⟩
  · have CBK := Bnd.check_no a cap s w (by omega) hr (hide h1)
    have CDE := Frm.decode none 0 [] w (Or.inl rfl) (by simp) (hide (fun i hi => by simp at hi))
    have e1 : decF [] = 5 := rfl
    have e2 : decL [] = [] := rfl
    rw [e1, e2] at CDE
    obtain ⟨F, hF⟩ : ∃ F, Bnd.bf s = F := ⟨_, rfl⟩
    rw [hF] at CBK
    obtain ⟨N, hN⟩ : ∃ N, s.length = N := ⟨_, rfl⟩
    rw [hN] at CBK ⊢
    clear hF hN h1 zs e1 e2
    go_enter Tryd.func4, Tryd.ntmps4
    go_wp2_with fail
    refine CBK.mono ?_
    rintro e w1 ⟨rfl, hw1⟩
    obtain rfl : w = w1 := hw1.symm
    clear CBK hw1
    go_wp2_with fail
    refine CDE.mono ?_
    rintro e w2 ⟨p2, q2, rfl, r2, m2, m9, hb2⟩
    go_wp2_with fail
    refine (error_any 5 _ (hL.below hb2)).mono ?_
    rintro e w3 ⟨rfl, hb3⟩
    go_wp2
    go_ret
    exact ⟨rfl, Below.chain hb2 hb3⟩

end Go.Proofs.YthkibjhhlcfceaiDoor.FrameSilentLaw
