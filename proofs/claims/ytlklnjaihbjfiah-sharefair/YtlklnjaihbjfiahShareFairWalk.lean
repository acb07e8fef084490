/-
  The walk of hornlaw2.ShareFair.
-/
import Derived.Test.YtlklnjaihbjfiahShareSay
import Derived.Test.YtlklnjaihbjfiahInts
import Derived.Deep.CutBlock
import Derived.Deep.DeepCutAuto
namespace Go.Proofs.Ytlklnjaihbjfiah.ShareFairLaw
open Go.RowKit
open Go.Proofs.Ytlklnjaihbjfiah.Tre Go.Proofs.Ytlklnjaihbjfiah.Bnd Go.Proofs.Ytlklnjaihbjfiah.Shr Go.Proofs.Ytlklnjaihbjfiah.Ev Go.Proofs.Ytlklnjaihbjfiah.Same
set_option linter.unusedVariables false

theorem fact_of : ofF [2, 2] [90, 10] 6 = 0 ∧ share [2, 2] [90, 10] 6 = [4, 1] := by decide +kernel
theorem row_pair {w : World} {x y : Int} {t : TypeId} {n : Nat} (h : w.heap.size = n) : Row (w.alloc (.cells #[.int .i64 x, .int .i64 y] t)) (some ⟨n, 0, none⟩) [x, y] := by
  subst h; exact row_two w x y t
theorem fact (p1 p2 : Nat) (w : World) (t t' : TypeId) (h1 : w.heap.size = p1) (h2 : (w.alloc (.cells #[.int .i64 2, .int .i64 2] t)).heap.size = p2) :
    Calls Try.prog 5 #[.slice (some ⟨p1, 0, none⟩) 2 2, .slice (some ⟨p2, 0, none⟩) 2 2, .int .i64 6] ((w.alloc (.cells #[.int .i64 2, .int .i64 2] t)).alloc (.cells #[.int .i64 90, .int .i64 10] t'))
      fun e w' => ∃ v, e = .returned (.tuple #[v, .nilIface]) ∧ Has w' w.heap.size v [4, 1] ∧ Below w.heap.size w w' := by
  have hr : Row ((w.alloc (.cells #[.int .i64 2, .int .i64 2] t)).alloc (.cells #[.int .i64 90, .int .i64 10] t')) (some ⟨p1, 0, none⟩) [2, 2] := (row_pair (x := 2) (y := 2) (t := t) h1).below ((Below.refl _ _).alloc (Nat.le_refl _) _)
  have hs := row_pair (x := 90) (y := 10) (t := t') h2
  have hb2 : Below w.heap.size w ((w.alloc (.cells #[.int .i64 2, .int .i64 2] t)).alloc (.cells #[.int .i64 90, .int .i64 10] t')) := ((Below.refl _ _).alloc (Nat.le_refl _) _).alloc (by simp) _
  refine (of_ok _ 2 [2, 2] _ 2 [90, 10] 6 _ hr hs (hide fact_of.1)).mono ?_
  rintro e w' ⟨v, he, hv, hb⟩
  rw [fact_of.2] at hv
  exact ⟨v, he, hv.mono (by simp; omega), Below.chain hb2 hb⟩

/-- What a row of one's own and another hold of each other. -/
theorem off_of {u : Value} {g n c : Nat} (h : u.ownBlock ≠ some g) : Off u (.slice (some ⟨g, 0, none⟩) n c) ∧ Off (.slice (some ⟨g, 0, none⟩) n c) u := by
  refine ⟨Or.inr ?_, Or.inr ?_⟩
  · simpa [Value.ownBlock] using h
  · intro e; exact h (by rw [← e]; rfl)

set_option maxRecDepth 100000 in
set_option maxHeartbeats 16000000 in
theorem walk (a0 : Option Addr) (cap0 : Nat) (s : List Int) (a1 : Option Addr) (cap1 : Nat) (d : List Int) (B : Int) (w : World)
    (hr0 : Row w a0 s) (hw0 : ∀ n ∈ s, (Lit.int .i64 n).wf = true) (hz0 : s.length * 8 ≤ 140737488351232)
    (hr1 : Row w a1 d) (hw1 : ∀ n ∈ d, (Lit.int .i64 n).wf = true) (hz1 : d.length * 8 ≤ 140737488351232) (hwB : (Lit.int .i64 B).wf = true) :
    Calls Try.prog 3 #[.slice a0 s.length cap0, .slice a1 d.length cap1, .int .i64 B] w fun e w' => e = .returned (.bool true) ∧ Below w.heap.size w w' := by
  have z0 : s.length ≤ 17592186044416 := by omega
  have z1 : d.length ≤ 17592186044416 := by omega
  clear hw0 hw1 hwB hz0 hz1
  have hway : (∃ E, Hid (ofF s d B = E) ∧ Hid (E ≠ 0)) ∨ Hid (ofF s d B = 0) := by
    by_cases h : ofF s d B = 0
    · exact Or.inr h
    · exact Or.inl ⟨_, hide rfl, h⟩
  go_enter Try.func3, Try.ntmps3
  go_wp2_with fail
  refine (fact _ _ w _ _ rfl (by simp)).mono ?_
  rintro e w1 ⟨v1, rfl, k1, hB1⟩
  obtain ⟨g1, c1, rfl, -, -, -, -⟩ := k1.one (by simp)
  have f0 := k1.get (j := 0) (by simp)
  have f1 := k1.get (j := 1) (by simp)
  have e2 : ([4, 1] : List Int).length = 2 := rfl
  rw [e2]
  simp only [at0] at f0 f1
  simp at f0 f1
  clear k1 e2
  rcases hway with ⟨E, HE, HE0⟩ | HE
  · go_wp2_with fail
    refine (of_no a0 cap0 s a1 cap1 d B E w1 (hr0.below hB1) (hr1.below hB1) z0 z1 HE HE0).mono ?_
    rintro e w2 ⟨rfl, hb2⟩
    go_wp2
    go_ret
    exact ⟨rfl, Below.chain hB1 hb2⟩
  · obtain ⟨o1, o2, o3, o4, o5⟩ := ofF_zero.1 (unhide HE)
    obtain ⟨b1, b2, b3, b4⟩ := bf_ok o1
    obtain ⟨hI, hN⟩ := share_is (d := d) b3 b2 o4
    have HTW := hide (share_twice (B := B) o2)
    have HLD := hide o3
    have HI := hide hI
    have HNC := hide hN
    have cOF := of_ok a0 cap0 s a1 cap1 d B w1 (hr0.below hB1) (hr1.below hB1) HE
    have CLO := hide (fun W h h' => left_ok a0 cap0 s a1 cap1 d B W h h' HE)
    have HDL := hide o2
    obtain ⟨SL, hSL⟩ : ∃ SL, share s d B = SL := ⟨_, rfl⟩
    rw [hSL] at HI HNC HTW cOF CLO
    have HSL : Hid (SL.length = s.length) := hide (unhide HI).len
    have CCO := hide (fun (P : List Int) p q W h h' h1 h2 => cost_ok a0 cap0 s p q P W h h' (hide (costF_zero.2 ⟨o1, h1, h2⟩)))
    have CSO := hide (fun p q W h h' => say_of a0 cap0 s p q (twice d) B W h h' z0 (by rw [show (twice d).length = d.length from upto_length _ _]; exact z1))
    have HTL : Hid ((twice d).length = s.length) := hide (by rw [show (twice d).length = d.length from upto_length _ _]; exact o2)
    have HTZ : Hid ((∀ i, i < s.length → 2 * at0 d i ≤ 8000) → ofF s (twice d) B = 0 ∧ ofL s (twice d) B = SL) := hide (fun h => by
      have hz : ofF s (twice d) B = 0 := ofF_zero.2 ⟨o1, unhide HTL, fun i hi => by
        rw [unhide HTL] at hi
        unfold twice
        rw [upto_at _ (by omega)]
        have := o3 i (by omega)
        have := h i hi
        omega, o4, o5⟩
      refine ⟨hz, ?_⟩
      unfold ofL
      rw [if_pos hz]
      exact unhide HTW)
    have HTU : Hid (twice d = upto (fun i => 2 * at0 d i) s.length) := hide (by unfold twice; rw [o2])
    have HCS : Hid ((cost s SL : Int) ≤ B) := hide (unhide HI).cst
    obtain ⟨C, hC⟩ : ∃ C, cost s SL = C := ⟨_, rfl⟩
    have CCS := hide (fun p q W h h' => (unhide CCO) SL p q W h h' (unhide HSL) (unhide HI).pls)
    have CI := hide (fun p q p' q' W h h' => ints_same p q p' q' SL W (by rw [unhide HSL]; omega) h h')
    rw [hC] at CLO HCS CCS
    have HDL2 := hide o2
    obtain ⟨N, hNN⟩ : ∃ N, s.length = N := ⟨_, rfl⟩
    have HN := hide hNN
    rw [hNN] at z0 b1 b2 HNC cOF CLO HDL HSL CCO CSO HTL HTZ HTU CCS HDL2
    rw [unhide HSL] at CCS CI
    rw [unhide HTL] at CSO
    rw [unhide HDL2] at cOF CLO
    rw [hNN, unhide HDL2]
    have hCB := unhide HCS
    have hC9 : (C : Int) ≤ 400 := by omega
    have wC : IntKind.i64.wrap (B - (C : Int)) = B - (C : Int) := IntWalk.i64_in _ (by omega)
    have dC : decide (B < (C : Int)) = false := by simp; omega
    have eC : ((B - (C : Int)) == (B - (C : Int))) = true := by simp
    have eN : ((N : Int) == (N : Int)) = true := by simp
    have HLDN : Hid (∀ j, j < N → 0 ≤ at0 d j ∧ at0 d j ≤ 8000) := hide (fun j hj => unhide HLD j (by rw [unhide HDL2]; exact hj))
    clear hNN hSL hC o1 o2 o3 b3 b4 hI hN HE HTW HLD HCS
    go_wp2_with fail
    refine cOF.mono ?_
    clear cOF f0 f1
    rintro e w2 ⟨v2, rfl, k2, hb2⟩
    have hB2 := Below.chain hB1 hb2
    have k2' : Has w2 w.heap.size v2 SL := k2.mono hB1.size
    obtain ⟨g, cc, rfl, hg0, -, -, -⟩ := k2'.one (by rw [unhide HSL]; exact b1)
    rw [unhide HSL] at k2' ⊢
    clear k2 hb2 hB1
    go_wp2_with fail
    refine (unhide CCS _ cc w2 (hr0.below hB2) (k2'.inRow rfl).2).mono ?_
    rintro e w3 ⟨rfl, hb3⟩
    have hB3 := Below.chain hB2 hb3
    have k3 := k2'.below hb3
    clear k2' hB2 hb3
    go_wp2_with fail
    refine (unhide CLO w3 (hr0.below hB3) (hr1.below hB3)).mono ?_
    rintro e w4 ⟨rfl, hb4⟩
    have hB4 := Below.chain hB3 hb4
    have k4 := k3.below hb4
    clear k3 hB3 hb4 CLO
    have HT0 : Hid (true = true → ∀ i, i < 0 → 2 * at0 d i ≤ 8000) := hide (fun _ i hi => by omega)
    have HCD : Hid (∀ j, j < N → ∀ W, Below w.heap.size w W → ∃ b1 off1, a1 = some ⟨b1, off1, none⟩ ∧ W.cell? ⟨b1, off1 + j, none⟩ = some (.int .i64 (at0 d j))) := hide (fun j hj W h => by
      obtain ⟨b1, off1, e, _, hc⟩ := (hr1.below h).at (k := j) (by rw [unhide HDL2]; exact hj)
      exact ⟨b1, off1, e, (hc j (by rw [unhide HDL2]; exact hj)).trans (by rw [List.getD_eq_getElem?_getD]; rfl)⟩)
    go_wp2
    go_loopw [15, 16, 17] (fun sml tw i wr => ∃ (j : Nat) (T : Bool), j ≤ N ∧ i = .int .i64 j ∧ sml = .bool T ∧ Hid (T = true → ∀ i, i < j → 2 * at0 d i ≤ 8000) ∧ Has wr w.heap.size tw (upto (fun i => 2 * at0 d i) j) ∧ Has wr w.heap.size (.slice (some ⟨g, 0, none⟩) N cc) SL ∧ Hid (Off (.slice (some ⟨g, 0, none⟩) N cc) tw) ∧ Below w.heap.size w wr) (fun _ _ i _ => N - (intOf i).toNat)
    case atStart => exact ⟨0, true, Nat.zero_le _, rfl, rfl, hide (fun _ i hi => by omega), Has.nil _ _, k4, hide (off_nil _), hB4⟩
    case round =>
      obtain ⟨j, T, hj, rfl, rfl, HT, htw, hk, HOF, hB⟩ := hrel
      clear HT0 k4 hB4
      by_cases hlt : j < N
      · obtain ⟨bd, offd, rfl, cd⟩ := unhide HCD j hlt wr hB
        have ck := hk.get (j := j) (by rw [unhide HSL]; exact hlt)
        obtain ⟨d0, d9⟩ := unhide HLDN j hlt
        obtain ⟨p0, p9⟩ := (unhide HI).pls j (by rw [unhide HSL]; exact hlt)
        have hlow := (unhide HI).low j (by rw [unhide HSL]; exact hlt)
        have hnc := unhide HNC j hlt
        have HCAN : Hid (at0 d j ≠ 0 → at0 SL j ≠ 8 → B < (cost s (inc SL j) : Int)) := hide (fun h1 h2 => by
          by_cases h3 : (cost s (inc SL j) : Int) ≤ B
          · exact absurd ⟨h1, h2, h3⟩ hnc
          · omega)
        have HIA : Hid (at0 (inc SL j) j = at0 SL j + 1) := hide (inc_at (by rw [unhide HSL]; exact hlt))
        have HID : Hid ((inc SL j).set j (at0 SL j) = SL) := hide inc_dec
        have HIN : Hid (SL.set j (at0 SL j + 1) = inc SL j) := hide rfl
        have HIL : Hid ((inc SL j).length = N) := hide (by rw [inc_length]; exact unhide HSL)
        have HPL : Hid (at0 SL j ≠ 8 → Pls (inc SL j)) := hide (fun h i hi => by
          rw [inc_length] at hi
          by_cases e : i = j
          · subst e
            rw [inc_at hi]
            have := (unhide HI).pls i hi
            omega
          · rw [inc_other e]; exact (unhide HI).pls i hi)
        have HUP : Hid (upto (fun i => 2 * at0 d i) (j + 1) = upto (fun i => 2 * at0 d i) j ++ [2 * at0 d j]) := hide (upto_succ _ _)
        have HTS : Hid (∀ T', T' = (T && decide (2 * at0 d j ≤ 8000)) → T' = true → ∀ i, i < j + 1 → 2 * at0 d i ≤ 8000) := hide (fun T' e h i hi => by
          rw [e, Bool.and_eq_true] at h
          by_cases e2 : i = j
          · rw [e2]; exact of_decide_eq_true h.2
          · exact unhide HT h.1 i (by omega))
        have hln : Hid ((upto (fun i => 2 * at0 d i) j).length + 1 ≤ 1000000) := hide (by rw [upto_length]; omega)
        have hWs := hB.size
        have HSJ : Hid (∀ W, Has W w.heap.size (.slice (some ⟨g, 0, none⟩) N cc) SL → W.cell? ⟨g, j, none⟩ = some (.int .i64 (at0 SL j)) ∧ W.frozen? ⟨g, j, none⟩ = false) := hide (fun W h => ⟨h.get (by rw [unhide HSL]; exact hlt), h.frozen j⟩)
        have HDJ : Hid (∀ W, Below w.heap.size w W → W.cell? ⟨bd, offd + j, none⟩ = some (.int .i64 (at0 d j))) := hide (fun W h => by
          obtain ⟨b1, off1, e, hc⟩ := unhide HCD j hlt W h
          cases e
          exact hc)
        obtain ⟨D, hD⟩ : ∃ D, at0 d j = D := ⟨_, rfl⟩
        obtain ⟨P, hP⟩ : ∃ P, at0 SL j = P := ⟨_, rfl⟩
        rw [hD] at cd d0 d9 hlow HCAN HUP HTS HDJ
        rw [hP] at ck p0 p9 hlow HCAN HIA HID HIN HPL HSJ
        obtain ⟨X, hX⟩ : ∃ X, 2 * D = X := ⟨_, rfl⟩
        have wX : IntKind.i64.wrap (2 * D) = X := by rw [hX]; exact IntWalk.i64_in _ (by omega)
        rw [hX] at HUP HTS
        have p1 : decide (P < 0) = false := by simp; omega
        have p2 : decide (8 < P) = false := by simp; omega
        have hway : (∃ _ : (D == 0) = true, (P != 0) = false) ∨ (∃ _ : (D == 0) = false, (P == 8) = true) ∨ (∃ _ : (D == 0) = false, (P == 8) = false ∧ Hid (D ≠ 0) ∧ Hid (P ≠ 8)) := by
          by_cases h1 : D = 0
          · exact Or.inl ⟨by rw [h1]; rfl, by rw [hlow h1]; rfl⟩
          · by_cases h2 : P = 8
            · exact Or.inr (Or.inl ⟨by rw [beq_eq_false_iff_ne]; exact h1, by rw [h2]; rfl⟩)
            · exact Or.inr (Or.inr ⟨by rw [beq_eq_false_iff_ne]; exact h1, by rw [beq_eq_false_iff_ne]; exact h2, h1, h2⟩)
        clear hD hP hX hnc hlow HT
        have wP : IntKind.i64.wrap (P + 1) = P + 1 := IntWalk.i64_in _ (by omega)
        have wP2 : IntKind.i64.wrap (P + 1 - 1) = P := by rw [show P + 1 - 1 = P by omega]; exact IntWalk.i64_in _ (by omega)
        obtain ⟨T2, hT2⟩ : ∃ T2, decide (X ≤ 8000) = T2 := ⟨_, rfl⟩
        rw [hT2] at HTS
        have HTA : Hid (∀ T', T' = (T && T2) → T' = true → ∀ i, i < j + 1 → 2 * at0 d i ≤ 8000) := hide (fun T' e => unhide HTS T' (by rw [e]))
        clear HTS
        have hTT : (∃ _ : T = true, Hid (T2 = true → ∀ i, i < j + 1 → 2 * at0 d i ≤ 8000)) ∨ (∃ _ : T = false, Hid (false = true → ∀ i, i < j + 1 → 2 * at0 d i ≤ 8000)) := by
          cases T with
          | true => exact Or.inl ⟨rfl, hide (unhide HTA T2 (by simp))⟩
          | false => exact Or.inr ⟨rfl, hide (unhide HTA false (by simp))⟩
        clear HTA
        rcases hway with ⟨q1, q2⟩ | ⟨q1, q2⟩ | ⟨q1, q2, HD0, HP8⟩
        all_goals rcases hTT with ⟨rfl, HT2⟩ | ⟨rfl, HT2⟩
        all_goals (
          go_wp2_with (at_builtin; refine wpList_app _ rfl _ _ rfl w.heap.size u16 _ [X] _ _ rfl (htw.alloc _) rfl (row_one _ _ _) (unhide hln) (by simp; omega) ?_; intro s' w6 k6 g6 at6; obtain ⟨e1, e2⟩ := stepped_plain htw hWs k6 g6 at6; obtain ⟨hk6, hof6⟩ := e2 _ _ hk (unhide HOF); have hB6 := hB.trans e1; have cd6 := unhide HDJ _ hB6; obtain ⟨ck6, fk6⟩ := unhide HSJ _ hk6; rw [← unhide HUP] at k6; clear cd ck)
          first
          | (have HDD := HD0
             have hCC := unhide HCAN (unhide HD0) (unhide HP8)
             have hPLS := unhide HPL (unhide HP8)
             have hB7 : Below w.heap.size w (w6.setCell ⟨g, j, none⟩ (.int .i64 (P + 1))) := Below.setCell (p := ⟨g, j, none⟩) hB6 hg0 _
             obtain ⟨m1, m2⟩ := hk6.put j (P + 1)
             rw [unhide HIN] at m1
             have tw7 := Has.beside k6 rfl hof6.symm m2
             have c8 := unhide CCO (inc SL j) _ cc _ (hr0.below hB7) (m1.inRow rfl).2 (unhide HIL) hPLS
             rw [unhide HIL] at c8
             obtain ⟨C2, hC2⟩ : ∃ C2, cost s (inc SL j) = C2 := ⟨_, rfl⟩
             rw [hC2] at c8 hCC
             refine c8.mono ?_
             clear c8
             rintro e w8 ⟨rfl, hb8⟩
             have hB8 := Below.chain hB7 hb8
             have k8 := m1.below hb8
             have tw8 := tw7.below hb8
             have c9 := k8.get (j := j) (by rw [unhide HIL]; exact hlt)
             rw [unhide HIA] at c9
             have f9 := k8.frozen j
             obtain ⟨m3, m4⟩ := k8.put j P
             rw [unhide HID] at m3
             have tw9 := Has.beside tw8 rfl hof6.symm m4
             have hB9 : Below w.heap.size w (w8.setCell ⟨g, j, none⟩ (.int .i64 P)) := Below.setCell (p := ⟨g, j, none⟩) hB8 hg0 _
             have dC2 : decide ((C2 : Int) ≤ B) = false := by simp; omega
             have M3 := hide m3
             have M9 := hide tw9
             have HB9 := hide hB9
             clear hC2 hCC hPLS m1 m2 tw7 k8 tw8 m3 m4 tw9 hB9 hB7 hb8 hk6 k6 ck6 fk6 cd6 hB6
             go_wp2
             go_roundw
             case rel => exact ⟨j + 1, _, by omega, by go_num, rfl, HT2, unhide M9, unhide M3, hide hof6, unhide HB9⟩
             case measure => simp [intOf]; omega)
          | (go_roundw
             case rel => exact ⟨j + 1, _, by omega, by go_num, rfl, HT2, k6, hk6, hide hof6, hB6⟩
             case measure => simp [intOf]; omega))
      · obtain rfl : j = N := by omega
        rw [← unhide HTU] at htw
        obtain ⟨pt, qt, rfl, rt⟩ := htw.row
        rw [unhide HTL]
        clear htw HOF
        have kr := (hk.inRow rfl).2
        go_wp2_with fail
        refine (unhide CSO pt qt wr (hr0.below hB) rt).mono ?_
        rintro e w10 ⟨p10, q10, rfl, r10, hb10⟩
        have hB10 := Below.chain hB hb10
        have kr10 := kr.below hb10
        cases T with
        | true =>
          obtain ⟨z1', z2'⟩ := unhide HTZ (unhide HT rfl)
          rw [z1', z2', errV_zero]
          rw [z2'] at r10
          rw [unhide HSL]
          clear z1' z2' HT
          go_wp2_with fail
          refine (unhide CI p10 q10 _ cc w10 r10 kr10).mono ?_
          rintro e w11 ⟨rfl, hb11⟩
          go_wp2
          go_ret
          exact ⟨rfl, Below.chain hB10 hb11⟩
        | false =>
          clear HT
          go_wp2
          go_ret
          exact ⟨rfl, hB10⟩

end Go.Proofs.Ytlklnjaihbjfiah.ShareFairLaw
