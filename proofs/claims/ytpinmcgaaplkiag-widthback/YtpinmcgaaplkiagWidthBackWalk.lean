/-
  The walk of hornlaw2.WidthBack.
-/
import Derived.Test.YtpinmcgaaplkiagWidthSay
import Derived.Test.YtpinmcgaaplkiagWidthBackMath
import Derived.Test.YtpinmcgaaplkiagScaleBase
import Derived.Test.YtpinmcgaaplkiagInts
import Derived.Deep.CutBlock
import Derived.Deep.DeepCutAuto
namespace Go.Proofs.Ytpinmcgaaplkiag.WidthBackLaw
open Go.RowKit
open Go.Proofs.Ytpinmcgaaplkiag.Tre Go.Proofs.Ytpinmcgaaplkiag.Scl Go.Proofs.Ytpinmcgaaplkiag.Bnd Go.Proofs.Ytpinmcgaaplkiag.Hrn Go.Proofs.Ytpinmcgaaplkiag.Wid Go.Proofs.Ytpinmcgaaplkiag.Ev Go.Proofs.Ytpinmcgaaplkiag.Same
set_option linter.unusedVariables false

theorem row_pair {w : World} {x y : Int} {t : TypeId} {n : Nat} (h : w.heap.size = n) : Row (w.alloc (.cells #[.int .i64 x, .int .i64 y] t)) (some ⟨n, 0, none⟩) [x, y] := by
  subst h; exact row_two w x y t
theorem fact (p1 p2 : Nat) (w : World) (t t' : TypeId) (h1 : w.heap.size = p1) (h2 : (w.alloc (.cells #[.int .i64 5, .int .i64 1] t)).heap.size = p2) :
    Calls Try.prog 12 #[.slice (some ⟨p1, 0, none⟩) 2 2, .slice (some ⟨p2, 0, none⟩) 2 2] ((w.alloc (.cells #[.int .i64 5, .int .i64 1] t)).alloc (.cells #[.int .i64 3, .int .i64 2] t'))
      fun e w' => ∃ v, e = .returned (.tuple #[v, .nilIface]) ∧ Has w' w.heap.size v [1, 0, 1, 0, 1] ∧ Below w.heap.size w w' := by
  have hr : Row ((w.alloc (.cells #[.int .i64 5, .int .i64 1] t)).alloc (.cells #[.int .i64 3, .int .i64 2] t')) (some ⟨p1, 0, none⟩) [5, 1] := (row_pair (x := 5) (y := 1) (t := t) h1).below ((Below.refl _ _).alloc (Nat.le_refl _) _)
  have hs := row_pair (x := 3) (y := 2) (t := t') h2
  have hb2 : Below w.heap.size w ((w.alloc (.cells #[.int .i64 5, .int .i64 1] t)).alloc (.cells #[.int .i64 3, .int .i64 2] t')) := ((Below.refl _ _).alloc (Nat.le_refl _) _).alloc (by simp) _
  refine (put_ok _ 2 [5, 1] _ 2 [3, 2] _ hr hs (by simp) (by simp) (hide fact_put.1)).mono ?_
  rintro e w' ⟨v, he, hv, hb⟩
  rw [fact_put.2] at hv
  exact ⟨v, he, hv.mono (by simp; omega), Below.chain hb2 hb⟩

set_option maxRecDepth 100000 in
set_option maxHeartbeats 16000000 in
theorem walk (a0 : Option Addr) (cap0 : Nat) (l : List Int) (a1 : Option Addr) (cap1 : Nat) (ws : List Int) (a2 : Option Addr) (cap2 : Nat) (bs : List Int) (s : ByteArray) (n : Int) (w : World)
    (hr0 : Row w a0 l) (hw0 : ∀ n ∈ l, (Lit.int .i64 n).wf = true) (hz0 : l.length * 8 ≤ 140737488351232)
    (hr1 : Row w a1 ws) (hw1 : ∀ n ∈ ws, (Lit.int .i64 n).wf = true) (hz1 : ws.length * 8 ≤ 140737488351232)
    (hr2 : Row w a2 bs) (hw2 : ∀ n ∈ bs, (Lit.int .i64 n).wf = true) (hz2 : bs.length * 8 ≤ 140737488351232) (hq2 : (a2 = none → cap2 = 0) ∧ bs.length ≤ cap2 ∧ cap2 ≤ 9223372036854775807)
    (hws : s.size ≤ maxLen) (hwn : (Lit.int .i64 n).wf = true) :
    Calls Try.prog 5 #[.slice a0 l.length cap0, .slice a1 ws.length cap1, .slice a2 bs.length cap2, .string s, .int .i64 n] w fun e w' => e = .returned (.bool true) ∧ Below w.heap.size w w' := by
  obtain ⟨-, q2, q9⟩ := hq2
  have us : s.size ≤ 9223372036854775807 := by simpa [maxLen] using hws
  have z0 : l.length ≤ 17592186044416 := by omega
  have z1 : ws.length ≤ 17592186044416 := by omega
  have z2 : bs.length ≤ 17592186044416 := by omega
  clear hw0 hw1 hw2 hwn hws hz0 hz1 hz2
  have hgd := guard_err
  have hne := neq_err
  have hel := eql_err
  have CP1 := hide (fun W h h' => say_put a0 cap0 l a1 cap1 ws W h h' z0 z1)
  have CG1 : Hid (putF l ws = 0 → ∀ W p q, Row W p (putL l ws) → (putL l ws).length ≤ q → q ≤ 9223372036854775807 → Row W a1 ws → Calls Try.prog 13 #[.slice p (putL l ws).length q, .slice a1 ws.length cap1] W fun e w' => ∃ v, e = .returned (.tuple #[v, .nilIface]) ∧ Has w' W.heap.size v l ∧ Below W.heap.size W w') := hide (fun h W p q hr hm hm9 hs => by
    have e : putL l ws = puts l ws := by unfold putL; rw [if_pos h]
    rw [e] at hr hm ⊢
    have hg := put_get h
    have c := get_ok p q (puts l ws) a1 cap1 ws W hr hs hm hm9 z1 (hide hg.1)
    rw [hg.2] at c
    exact c)
  have CG2 := hide (fun W h h' => say_get a2 cap2 bs a1 cap1 ws W h h' q2 q9 z2 z1)
  have CP2 : Hid (getF bs ws = 0 → ∀ W p q, Row W p (getL bs ws) → Row W a1 ws → Calls Try.prog 12 #[.slice p (getL bs ws).length q, .slice a1 ws.length cap1] W fun e w' => ∃ v, e = .returned (.tuple #[v, .nilIface]) ∧ Has w' W.heap.size v bs ∧ Below W.heap.size W w') := hide (fun h W p q hr hs => by
    have e : getL bs ws = gets bs ws := by unfold getL; rw [if_pos h]
    rw [e] at hr ⊢
    have hg := get_put h
    have c := put_ok p q (gets bs ws) a1 cap1 ws W hr hs (by rw [gets_length]; exact z1) z1 (hide hg.1)
    rw [hg.2] at c
    exact c)
  have CO3 := hide (fun W h => say_octets a2 cap2 bs W h q2 z2)
  have CB3 : Hid (bsF bs = 0 → ∀ W, Calls Try.prog 15 #[.string (str (octL bs)), .int .i64 (bs.length : Int)] W fun e w' => ∃ v, e = .returned (.tuple #[v, .nilIface]) ∧ Has w' W.heap.size v bs ∧ Below W.heap.size W w') := hide (fun h W => by
    have e : octL bs = oct bs := by unfold octL; rw [if_pos h]
    rw [e]
    have hg := oct_bit h
    have h4 := (bsF_zero.1 h).1
    have c := bits_ok (str (oct bs)) bs.length W (by rw [str_size, oct_length]; omega) (hide hg.1)
    rw [hg.2] at c
    exact c)
  have CI0 := hide (fun p q p' q' W h h' => ints_same p q p' q' l W (by omega) h h')
  have CI2 := hide (fun p q p' q' W h h' => ints_same p q p' q' bs W (by omega) h h')
  have hway : (∃ E, Hid (btF (byt s) n = E) ∧ Hid (E ≠ 0)) ∨ (∃ m : Nat, n = m ∧ Hid (btF (byt s) m = 0)) := by
    by_cases h : btF (byt s) n = 0
    · refine Or.inr ⟨n.toNat, ?_, ?_⟩
      · have h1 : ¬ (n < 0 ∨ 400 < n) := fun hc => by unfold btF at h; rw [if_pos hc] at h; omega
        omega
      · have h1 : ¬ (n < 0 ∨ 400 < n) := fun hc => by unfold btF at h; rw [if_pos hc] at h; omega
        have e : ((n.toNat : Nat) : Int) = n := by omega
        rw [e]; exact h
    · exact Or.inl ⟨_, hide rfl, h⟩
  obtain ⟨E1, hE1⟩ : ∃ E, putF l ws = E := ⟨_, rfl⟩
  obtain ⟨E2, hE2⟩ : ∃ E, getF bs ws = E := ⟨_, rfl⟩
  obtain ⟨E3, hE3⟩ : ∃ E, bsF bs = E := ⟨_, rfl⟩
  obtain ⟨L1, hL1⟩ : ∃ L, putL l ws = L := ⟨_, rfl⟩
  obtain ⟨L2, hL2⟩ : ∃ L, getL bs ws = L := ⟨_, rfl⟩
  obtain ⟨L3, hL3⟩ : ∃ L, octL bs = L := ⟨_, rfl⟩
  rw [hE1, hL1] at CP1 CG1
  rw [hE2, hL2] at CG2 CP2
  rw [hE3, hL3] at CO3 CB3
  obtain ⟨K1, hK1⟩ : ∃ K, L1.length = K := ⟨_, rfl⟩
  obtain ⟨K2, hK2⟩ : ∃ K, L2.length = K := ⟨_, rfl⟩
  rw [hK1] at CP1 CG1
  rw [hK2] at CG2 CP2
  obtain ⟨N0, hN0⟩ : ∃ N, l.length = N := ⟨_, rfl⟩
  obtain ⟨N1, hN1⟩ : ∃ N, ws.length = N := ⟨_, rfl⟩
  obtain ⟨N2, hN2⟩ : ∃ N, bs.length = N := ⟨_, rfl⟩
  have HN0 := hide hN0
  have HN2 := hide hN2
  rw [hN0] at CP1 CI0 z0
  rw [hN1] at CP1 CG1 CG2 CP2 z1
  rw [hN2] at CG2 CO3 CB3 CI2 z2 q2
  rw [hN0, hN1, hN2]
  clear hN0 hN1 hN2 hE1 hE2 hE3 hL1 hL2 hL3 hK1 hK2
  go_enter Try.func5, Try.ntmps5
  go_wp2_with fail
  refine (fact _ _ w _ _ rfl (by simp)).mono ?_
  rintro e w1 ⟨v1, rfl, k1, hB1⟩
  obtain ⟨g1, c1, rfl, -, -, -, -⟩ := k1.one (by simp)
  have f0 := k1.get (j := 0) (by simp)
  have f1 := k1.get (j := 1) (by simp)
  have f2 := k1.get (j := 2) (by simp)
  have f4 := k1.get (j := 4) (by simp)
  have e5 : ([1, 0, 1, 0, 1] : List Int).length = 5 := rfl
  rw [e5]
  simp only [at0] at f0 f1 f2 f4
  simp at f0 f1 f2 f4
  clear k1 e5
  go_wp2_with fail
  refine (unhide CP1 w1 (hr0.below hB1) (hr1.below hB1)).mono ?_
  rintro e w2 ⟨p2, t2, rfl, r2, m2, m2', hb2⟩
  have hB2 := Below.chain hB1 hb2
  clear f0 f1 f2 f4 hB1 hb2 CP1
  go_upto_if 70 with fail
  obtain ⟨T, hT⟩ : ∃ T, decide (E1 = 0) = T := ⟨_, rfl⟩
  rw [hT]
  have HT := hide hT
  clear hT
  go_cut [70] (fun c wx => Below w.heap.size w wx)
  case first =>
    cases T with
    | true =>
      have hE : E1 = 0 := of_decide_eq_true (unhide HT)
      have c3 := unhide CG1 hE w2 p2 t2 r2 m2 m2' (hr1.below hB2)
      clear hE HT
      go_wp2_with fail
      refine c3.mono ?_
      clear c3
      rintro e w3 ⟨v3, rfl, k3, hb3⟩
      have hB3 := Below.chain hB2 hb3
      obtain ⟨p3, t3, rfl, r3⟩ := k3.row
      rw [unhide HN0]
      go_wp2_with fail
      refine (unhide CI0 p3 t3 a0 cap0 w3 r3 (hr0.below hB3)).mono ?_
      rintro e w4 ⟨rfl, hb4⟩
      go_wp2
      go_meet
      exact Below.chain hB3 hb4
    | false =>
      clear HT
      go_wp2
      go_meet
      exact hB2
  case rest =>
  have hB3 := hcut
  clear hcut HT hB2 r2 CG1 CI0
  go_wp2_with fail
  refine (unhide CG2 wc (hr2.below hB3) (hr1.below hB3)).mono ?_
  rintro e w4 ⟨p4, t4, rfl, r4, m4, m4', hb4⟩
  have hB4 := Below.chain hB3 hb4
  clear hB3 hb4 CG2
  go_upto_if 92 with fail
  obtain ⟨T, hT⟩ : ∃ T, decide (E2 = 0) = T := ⟨_, rfl⟩
  rw [hT]
  have HT := hide hT
  clear hT
  go_cut [92] (fun c wx => Below w.heap.size w wx)
  case first =>
    cases T with
    | true =>
      have hE : E2 = 0 := of_decide_eq_true (unhide HT)
      have c3 := unhide CP2 hE w4 p4 t4 r4 (hr1.below hB4)
      clear hE HT
      go_wp2_with fail
      refine c3.mono ?_
      clear c3
      rintro e w5 ⟨v5, rfl, k5, hb5⟩
      have hB5 := Below.chain hB4 hb5
      obtain ⟨p5, t5, rfl, r5⟩ := k5.row
      rw [unhide HN2]
      go_wp2_with fail
      refine (unhide CI2 p5 t5 a2 cap2 w5 r5 (hr2.below hB5)).mono ?_
      rintro e w6 ⟨rfl, hb6⟩
      go_wp2
      go_meet
      exact Below.chain hB5 hb6
    | false =>
      clear HT
      go_wp2
      go_meet
      exact hB4
  case rest =>
  have hB5 := hcut
  clear hcut HT hB4 r4 CP2
  rename World => w6
  go_wp2_with fail
  refine (unhide CO3 w6 (hr2.below hB5)).mono ?_
  rintro e w7 ⟨rfl, hb7⟩
  have hB7 := Below.chain hB5 hb7
  clear hB5 hb7 CO3
  go_upto_if 113 with fail
  obtain ⟨T, hT⟩ : ∃ T, decide (E3 = 0) = T := ⟨_, rfl⟩
  rw [hT]
  have HT := hide hT
  clear hT
  go_cut [113] (fun c wx => Below w.heap.size w wx)
  case first =>
    cases T with
    | true =>
      have hE : E3 = 0 := of_decide_eq_true (unhide HT)
      have c3 := unhide CB3 hE w7
      clear hE HT
      go_wp2_with fail
      refine c3.mono ?_
      clear c3
      rintro e w8 ⟨v8, rfl, k8, hb8⟩
      have hB8 := Below.chain hB7 hb8
      obtain ⟨p8, t8, rfl, r8⟩ := k8.row
      rw [unhide HN2]
      go_wp2_with fail
      refine (unhide CI2 p8 t8 a2 cap2 w8 r8 (hr2.below hB8)).mono ?_
      rintro e w9 ⟨rfl, hb9⟩
      go_wp2
      go_meet
      exact Below.chain hB8 hb9
    | false =>
      clear HT
      go_wp2
      go_meet
      exact hB7
  case rest =>
  have hB9 := hcut
  clear hcut HT hB7 CB3 CI2
  rename World => w9
  rcases hway with ⟨E, HE, HE0⟩ | ⟨m, rfl, HE⟩
  · go_wp2_with fail
    refine (bits_no s n E w9 us HE HE0).mono ?_
    rintro e w10 ⟨rfl, hb10⟩
    go_wp2
    go_ret
    exact ⟨rfl, Below.chain hB9 hb10⟩
  · obtain ⟨b1, b2, b3⟩ := bit_oct (unhide HE)
    have HB1 := hide b1
    go_wp2_with fail
    refine (bits_ok s m w9 us HE).mono ?_
    rintro e w10 ⟨v10, rfl, k10, hb10⟩
    have hB10 := Below.chain hB9 hb10
    obtain ⟨p10, t10, rfl, r10, m10, -⟩ := has_room k10
    have c11 := octets_ok p10 t10 _ w10 r10 m10 HB1
    rw [b2] at c11
    rw [b3] at c11 ⊢
    have hss : (s.toList == s.toList) = true := by simp
    have hmm : ((m : Int) == (m : Int)) = true := by simp
    clear b1 b2 b3 r10 k10 HB1
    go_wp2_with fail
    refine c11.mono ?_
    clear c11
    rintro e w11 ⟨rfl, hb11⟩
    go_wp2
    go_ret
    exact ⟨rfl, Below.chain hB10 hb11⟩

end Go.Proofs.Ytpinmcgaaplkiag.WidthBackLaw
