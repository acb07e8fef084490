/-
  The walk of hornlaw2.LearnAll.
-/
import Derived.Test.YtgffpljnhadigagLearnFaces
import Derived.Test.YtgffpljnhadigagHornEnc
import Derived.Test.YtgffpljnhadigagHornDec
import Derived.Test.YtgffpljnhadigagOwnRows
import Derived.Test.YtgffpljnhadigagInts
namespace Go.Proofs.Ytgffpljnhadigag.LearnAllLaw
open Go.RowKit
open Go.Proofs.Ytgffpljnhadigag.Tre Go.Proofs.Ytgffpljnhadigag.Scl Go.Proofs.Ytgffpljnhadigag.Hrn Go.Proofs.Ytgffpljnhadigag.Lrn Go.Proofs.Ytgffpljnhadigag.Same
set_option linter.unusedVariables false

theorem row_three (w : World) (x y z : Int) (t : TypeId) : Row (w.alloc (.cells #[.int .i64 x, .int .i64 y, .int .i64 z] t)) (some ⟨w.heap.size, 0, none⟩) [x, y, z] := by
  refine Or.inr ⟨w.heap.size, 0, rfl, by simp, fun j hj => ?_⟩
  have hj' : j = 0 ∨ j = 1 ∨ j = 2 := by simp at hj; omega
  rcases hj' with rfl | rfl | rfl <;> (rw [World.cell?_alloc_at _ _ _ _ rfl]; rfl)
theorem fact_rows (w : World) (t1 t2 : TypeId) : Rws ((w.alloc (.cells #[.int .i64 0, .int .i64 0, .int .i64 1] t1)).alloc (.cells #[.slice (some ⟨w.heap.size, 0, none⟩) 3 3] t2)) (some ⟨w.heap.size + 1, 0, none⟩) [[0, 0, 1]] := by
  refine Or.inr ⟨w.heap.size + 1, 0, rfl, by simp, fun r hr => ?_⟩
  obtain rfl : r = 0 := by simpa using hr
  refine ⟨some ⟨w.heap.size, 0, none⟩, 3, ?_, (fun h => by cases h), by simp [rowAt], by omega, (row_three w 0 0 1 t1).below ((Below.refl _ _).alloc (Nat.le_refl _) _)⟩
  rw [show w.heap.size + 1 = (w.alloc (.cells #[.int .i64 0, .int .i64 0, .int .i64 1] t1)).heap.size by simp, World.cell?_alloc_at _ _ _ _ rfl]
  rfl
theorem fact_zero : rows [[0, 0, 1]] ((3 : Nat) : Int) = 0 := by decide
theorem fact_cts : cts [[0, 0, 1]] 3 = [3, 2, 1] := by decide
/-- What is counted of 0 0 1. -/
theorem fact (w : World) (t1 t2 : TypeId) :
    Calls Try.prog 5 #[.slice (some ⟨w.heap.size + 1, 0, none⟩) 1 1, .int .i64 3] ((w.alloc (.cells #[.int .i64 0, .int .i64 0, .int .i64 1] t1)).alloc (.cells #[.slice (some ⟨w.heap.size, 0, none⟩) 3 3] t2)) fun e w' =>
      ∃ g c, e = .returned (.tuple #[.slice (some ⟨g, 0, none⟩) 3 c, .nilIface]) ∧ w'.cell? ⟨g, 0, none⟩ = some (.int .i64 3) ∧ w'.cell? ⟨g, 1, none⟩ = some (.int .i64 2) ∧ w'.cell? ⟨g, 2, none⟩ = some (.int .i64 1) ∧ 3 ≤ c ∧ c ≤ 9223372036854775807 ∧ Below w.heap.size w w' := by
  refine (count_ok (some ⟨w.heap.size + 1, 0, none⟩) 1 [[0, 0, 1]] 3 _ (fact_rows w t1 t2) fact_zero).mono ?_
  rintro e w' ⟨v, rfl, k, hb⟩
  rw [fact_cts] at k
  obtain ⟨g, c, rfl, _, _, h3, h9⟩ := k.one (by simp)
  have hB : Below w.heap.size w ((w.alloc (.cells #[.int .i64 0, .int .i64 0, .int .i64 1] t1)).alloc (.cells #[.slice (some ⟨w.heap.size, 0, none⟩) 3 3] t2)) := ((Below.refl _ _).alloc (Nat.le_refl _) _).alloc (by simp) _
  exact ⟨g, c, rfl, k.get (j := 0) (by simp), k.get (j := 1) (by simp), k.get (j := 2) (by simp), h3, h9, Below.chain hB hb⟩

theorem rowAt_reverse {ll : List (List Int)} {r : Nat} (h : r < ll.length) : rowAt ll.reverse r = rowAt ll (ll.length - 1 - r) := by
  unfold rowAt
  rw [List.getD_eq_getElem?_getD, List.getD_eq_getElem?_getD, List.getElem?_reverse h]
theorem rows_reverse {ll : List (List Int)} {n : Int} (h : rows ll n = 0) : rows ll.reverse n = 0 := by
  obtain ⟨h1, h2, h3, h4⟩ := rows_zero h
  exact rows_ok h1 h2 (by rw [List.length_reverse]; exact h3) (fun l hl => h4 l (List.mem_reverse.1 hl))
/-- A row of signs that were learnt. -/
theorem rowF_learnt {ll : List (List Int)} {n : Nat} (h : rows ll n = 0) {l : List Int} (hl : ∀ i, i < l.length → 0 ≤ at0 l i ∧ at0 l i < n) : Signs (scale (cts ll n)) l := by
  obtain ⟨_, h2, h3⟩ := learnt h
  intro s hs
  obtain ⟨i, hi, rfl⟩ := List.getElem_of_mem hs
  have e : at0 l i = l[i] := by simp [at0, hi]
  have h4 := hl i hi
  rw [e] at h4
  exact ⟨h4.1, by rw [h2]; exact h4.2, h3 _ (by omega)⟩
theorem rowF_of {f l : List Int} (hf : Scl.right f) (h60 : l.length ≤ 60) (hl : Signs f l) : RowF f l 0 := Or.inr (Or.inr ⟨hf, h60, ((sf_signs hf l).2 hl).symm⟩)

set_option maxRecDepth 100000 in
set_option maxHeartbeats 16000000 in
theorem walk (a0 : Option Addr) (cap0 : Nat) (ll : List (List Int)) (n : Int) (a2 : Option Addr) (cap2 : Nat) (l : List Int) (a3 : Option Addr) (cap3 : Nat) (m : List Int) (w : World)
    (hr0 : Rws w a0 ll) (hw0 : ∀ l ∈ ll, ∀ n ∈ l, (Lit.int .i64 n).wf = true) (hz0 : ll.length * 24 ≤ 140737488351232) (hwn : (Lit.int .i64 n).wf = true)
    (hr2 : Row w a2 l) (hw2 : ∀ n ∈ l, (Lit.int .i64 n).wf = true) (hz2 : l.length * 8 ≤ 140737488351232)
    (hr3 : Row w a3 m) (hw3 : ∀ n ∈ m, (Lit.int .i64 n).wf = true) (hz3 : m.length * 8 ≤ 140737488351232) :
    Calls Try.prog 3 #[.slice a0 ll.length cap0, .int .i64 n, .slice a2 l.length cap2, .slice a3 m.length cap3] w fun e w' => e = .returned (.bool true) ∧ Below w.heap.size w w' := by
  have z0 : ll.length ≤ 9223372036854775807 := by omega
  have z2 : l.length ≤ 9223372036854775807 := by omega
  have z3 : m.length ≤ 9223372036854775807 := by omega
  have hl9 : l.length ≤ 17592186043904 := by omega
  have hm9 : m.length ≤ 17592186043904 := by omega
  clear hw0 hw2 hw3 hwn hz2 hz3
  obtain ⟨N, hN⟩ : ∃ N, ll.length = N := ⟨_, rfl⟩
  have HN := hide hN
  obtain ⟨L, hL⟩ : ∃ L, l.length = L := ⟨_, rfl⟩
  have HL := hide hL
  obtain ⟨K, hK⟩ : ∃ K, m.length = K := ⟨_, rfl⟩
  have HK := hide hK
  by_cases h : rows ll n = 0
  · obtain ⟨h1, h2, h3, h4⟩ := rows_zero h
    obtain ⟨M, rfl⟩ : ∃ M : Nat, n = M := ⟨n.toNat, by omega⟩
    have HE : Hid (rows ll M = 0) := hide h
    have CS := hide (fun W hW => shares_ok a0 cap0 ll M W hW HE)
    have CSR := hide (fun p q W hW => shares_ok p q ll.reverse M W hW (hide (rows_reverse h)))
    obtain ⟨HR, HFL, HFP⟩ := learnt h
    have HSG := hide (fun x hx => rowF_learnt h (l := x) hx)
    rw [cts_reverse, List.length_reverse] at CSR
    obtain ⟨F, hF⟩ : ∃ F, scale (cts ll M) = F := ⟨_, rfl⟩
    rw [hF] at CS CSR HR HFL HFP HSG
    have HRF : Hid (Scl.right F) := HR
    have HFL' : Hid (F.length = M) := HFL
    have CIF := hide (fun p q p' q' W hW hW' => ints_same p q p' q' F W (by rw [HFL]; omega) hW hW')
    rw [HFL] at CIF
    rw [hN] at CS CSR z0 h3 ⊢
    rw [hL] at z2 hl9 ⊢
    rw [hK] at z3 hm9 ⊢
    have hMM : ((M : Int) != (M : Int)) = false := by simp
    clear h h4 hF HFP HR HFL hN hL hK
    go_enter Try.func3, Try.ntmps3
    go_wp2_with fail
    refine (fact w _ _).mono ?_
    rintro e w1 ⟨g0, c0, rfl, e0, e1, e2, x3, x9, hb1⟩
    go_wp2_with fail
    refine (unhide CS w1 (hr0.below hb1)).mono ?_
    clear e0 e1 e2
    rintro e w2 ⟨v2, rfl, k2, hb2⟩
    have hB2 := Below.chain hb1 hb2
    obtain ⟨pf, qf, rfl, qn, qm, q9, rf⟩ := k2.sli
    rw [unhide HFL'] at qm ⊢
    clear k2 hb1 hb2
    have hsz := hB2.size
    go_wp2
    go_loopw [13, 14] (fun c i wr => ∃ (j : Nat) (vs : List Value), j ≤ N ∧ i = .int .i64 ((j : Int) - 1) ∧ HasS wr w2.heap.size c vs ∧ Hid (vs.length = N - j) ∧ Hid (∀ r, r < N - j → ∃ V, vs[r]? = some V ∧ Sli w V (rowAt ll (N - 1 - r))) ∧ Below w2.heap.size w2 wr) (fun _ i _ => (intOf i + 1).toNat)
    case atStart => exact ⟨N, [], Nat.le_refl _, rfl, HasS.nil _ _, hide (by simp), hide (fun r hr => by omega), Below.refl _ _⟩
    obtain ⟨j, vs, hj, rfl, hc, HVL, HV, hB⟩ := hrel
    by_cases hj0 : 0 < j
    · obtain ⟨k, rfl⟩ : ∃ k, j = k + 1 := ⟨j - 1, by omega⟩
      have ek : ((k + 1 : Nat) : Int) - 1 = (k : Int) := by omega
      have hkN : k < N := by omega
      have hkl : k < ll.length := by rw [unhide HN]; exact hkN
      obtain ⟨b1, off1, rfl, hb1, hc1⟩ := hr0.at hkl
      obtain ⟨A, C, c1, c2, c3, c4, c5⟩ := hc1 k hkl
      have HSL : Hid (Sli w (.slice A (rowAt ll k).length C) (rowAt ll k)) := hide ⟨A, C, rfl, c2, c3, c4, c5⟩
      have cw : wr.cell? ⟨b1, off1 + k, none⟩ = some (.slice A (rowAt ll k).length C) := (hB.cell (p := ⟨b1, off1 + k, none⟩) (Nat.lt_of_lt_of_le hb1 hsz)).trans ((hB2.cell (p := ⟨b1, off1 + k, none⟩) hb1).trans c1)
      obtain ⟨R, hRR⟩ : ∃ R, (rowAt ll k).length = R := ⟨_, rfl⟩
      rw [hRR] at cw HSL
      have HV2 : Hid (∀ r, r < N - k → ∃ V, (vs ++ [Value.slice A R C])[r]? = some V ∧ Sli w V (rowAt ll (N - 1 - r))) := hide (fun r hr => by
        by_cases e : r < N - (k + 1)
        · obtain ⟨V, hV, hS⟩ := unhide HV r e
          exact ⟨V, by rw [List.getElem?_append_left (by rw [unhide HVL]; exact e)]; exact hV, hS⟩
        · have e2 : r = vs.length := by rw [unhide HVL]; omega
          refine ⟨_, by rw [e2, List.getElem?_concat_length], ?_⟩
          have e3 : N - 1 - r = k := by omega
          rw [e3]
          exact unhide HSL)
      have HVL2 : Hid ((vs ++ [Value.slice A R C]).length = N - k) := hide (by rw [List.length_append, unhide HVL]; simp; omega)
      have hln : Hid (vs.length + 1 ≤ 1000000) := hide (by rw [unhide HVL]; omega)
      have hWs := hB.size
      have HWS : Hid (w2.heap.size ≤ wr.heap.size) := hWs
      have wk : IntKind.i64.wrap ((k : Int) - 1) = (k : Int) - 1 := IntWalk.i64_in _ (by omega)
      rw [ek]
      clear hRR hc1 c1 c2 c3 c4 c5 HV HVL hkl ek
      go_wp2_with (at_builtin; refine wpList_apps _ rfl _ _ rfl w2.heap.size u13 vs (.slice A R C) wr.heap.size 0 _ rfl (hc.alloc _) rfl rfl (by rw [World.cell?_alloc_at _ _ _ _ rfl]; rfl) (unhide hln) (by simp; omega) ?_; intro s' w6 k6 g6 at6)
      have hB6 : Below w2.heap.size w2 w6 := hB.trans (((Below.refl w2.heap.size wr).alloc hWs _).grown g6 (by simp; omega) (fun i e => (hc.lt i e).1))
      go_wp2
      go_roundw
      case rel => exact ⟨k, vs ++ [Value.slice A R C], by omega, by first | rfl | go_num, k6, HVL2, HV2, hB6⟩
      case measure => simp [intOf]
    obtain rfl : j = 0 := by omega
    have d0 : decide ((0 : Int) ≤ ((0 : Nat) : Int) - 1) = false := by decide
    have hBw := Below.chain hB2 hB
    obtain ⟨pb, qb, rfl, rb⟩ := hc.rws (ll := ll.reverse) (by rw [List.length_reverse, unhide HN, unhide HVL, Nat.sub_zero]) (fun r hr => by
      rw [List.length_reverse, unhide HN] at hr
      obtain ⟨V, h1, h2⟩ := unhide HV r (by omega)
      refine ⟨V, h1, ?_⟩
      rw [rowAt_reverse (by rw [unhide HN]; exact hr), unhide HN]
      exact h2.below hBw)
    rw [List.length_reverse, unhide HN]
    have rf1 := rf.below hB
    clear hc HVL HV hj hj0 rf hB hsz
    go_wp2_with fail
    refine (unhide CSR pb qb wr rb).mono ?_
    rintro e w3 ⟨v3, rfl, k3, hb3⟩
    have hB3 := Below.chain hBw hb3
    have rf3 := rf1.below hb3
    obtain ⟨pg, qg, rfl, rg⟩ := k3.row
    rw [unhide HFL']
    clear k3 hb3 hBw rf1 rb
    go_wp2_with fail
    refine (unhide CIF pf qf pg qg w3 rf3 rg).mono ?_
    rintro e w4 ⟨rfl, hb4⟩
    have hB4 := Below.chain hB3 hb4
    have rf4 := rf3.below hb4
    clear rf3 rg hb4 hB3
    go_wp2
    go_loopw [17] (fun i wr => ∃ j : Nat, j ≤ L ∧ i = .int .i64 j ∧ Hid (∀ r, r < j → 0 ≤ at0 l r ∧ at0 l r < M) ∧ w4 = wr) (fun i _ => L - (intOf i).toNat)
    case atStart => exact ⟨0, Nat.zero_le _, rfl, hide (fun r hr => by omega), rfl⟩
    obtain ⟨j, hj, rfl, HJ, rfl⟩ := hrel
    by_cases hjL : j < L
    · have hjl : j < l.length := by rw [unhide HL]; exact hjL
      obtain ⟨b1, off1, rfl, _, hc1⟩ := cell_at (hr2.below hB4) (by omega)
      have c1 := hc1 j hjl
      have HJ2 : Hid (0 ≤ at0 l j → at0 l j < M → ∀ r, r < j + 1 → 0 ≤ at0 l r ∧ at0 l r < M) := hide (fun x y r hr => by
        by_cases e : r = j
        · rw [e]; exact ⟨x, y⟩
        · exact unhide HJ r (by omega))
      obtain ⟨X, hX⟩ : ∃ X, at0 l j = X := ⟨_, rfl⟩
      rw [hX] at c1 HJ2
      clear hX hc1 hjl HJ
      by_cases hx1 : X < 0
      · have dx : decide (X < 0) = true := by simpa using hx1
        go_wp2
        go_ret
        exact ⟨rfl, hB4⟩
      · have dx : decide (X < 0) = false := by simpa using hx1
        by_cases hx2 : (M : Int) ≤ X
        · have dy : decide ((M : Int) ≤ X) = true := by simpa using hx2
          go_wp2
          go_ret
          exact ⟨rfl, hB4⟩
        · have dy : decide ((M : Int) ≤ X) = false := by simpa using hx2
          have HJ3 := hide (unhide HJ2 (by omega) (by omega))
          clear HJ2
          go_wp2
          go_roundw
          case rel => exact ⟨j + 1, by omega, by go_num, HJ3, by first | trivial | rfl⟩
          case measure => simp [intOf]; omega
    obtain rfl : j = L := by omega
    have HSL := hide (unhide HSG l (fun r hr => unhide HJ r (by rw [← unhide HL]; exact hr)))
    clear HJ hj hjL
    by_cases h60 : 60 < j
    · have CE := encode_no pf qf F a2 cap2 l 4 w4 rf4 (by rw [unhide HFL']; exact qm) q9 (hr2.below hB4) (by rw [unhide HL]; exact z2) (hide (Or.inr (Or.inl ⟨unhide HRF, by rw [unhide HL]; exact h60, rfl⟩))) (hide (by omega))
      rw [unhide HFL', unhide HL] at CE
      have d60 : decide ((60 : Int) < (j : Int)) = true := by simp; omega
      have d60' : decide (60 < j) = true := by simpa using h60
      go_wp2_with fail
      refine CE.mono ?_
      rintro e w5 ⟨rfl, hb5⟩
      go_wp2
      go_ret
      exact ⟨by first | rfl | rw [d60'] | rw [d60], Below.chain hB4 hb5⟩
    · have h60' : j ≤ 60 := by omega
      have HF0 : Hid (RowF F l 0) := hide (rowF_of (unhide HRF) (by rw [unhide HL]; exact h60') (unhide HSL))
      have CE := encode_ok pf qf F a2 cap2 l w4 rf4 (by rw [unhide HFL']; exact qm) q9 (hr2.below hB4) HF0
      have HIR : Hid (IsRow F (code F l) j l) := hide (by have h := isRow_code (unhide HSL); rw [unhide HL] at h; exact h)
      have HBC := hide (code_byts (unhide HRF) (unhide HSL))
      have HCL : Hid ((str (code F l)).size ≤ 9223372036854775807) := hide (by
        rw [str_size]
        have h1 := (code_len (unhide HRF) (unhide HSL) (by rw [unhide HL]; exact h60')).2
        have h2 := need_le F l
        rw [unhide HL] at h2
        omega)
      have CD := hide (fun W hW => (decode_at pf qf F (str (code F l)) j W hW (by rw [unhide HFL']; exact qm) q9 HRF (unhide HCL) h60').mono fun e w' hh => Tld.row (unhide HRF) (by rw [byt_str (unhide HBC)] at hh; exact hh) (unhide HIR))
      have CI := hide (fun p q W hW hW' => ints_same p q a2 cap2 l W (by rw [unhide HL]; exact z2) hW hW')
      have C1 := hide (fun W hW hW' => cost_ok pf qf F a2 cap2 l W hW (by rw [unhide HFL']; exact qm) q9 hW' HF0)
      have C2N := hide (fun E W hW hW' hE hne => cost_no pf qf F a3 cap3 m E W hW (by rw [unhide HFL']; exact qm) q9 hW' (by rw [unhide HK]; exact z3) hE hne)
      have C2O := hide (fun W hW hW' hE => cost_ok pf qf F a3 cap3 m W hW (by rw [unhide HFL']; exact qm) q9 hW' hE)
      have C3 := hide (fun p q W hW hW' hE => cost_ok pf qf F p q (l ++ m) W hW (by rw [unhide HFL']; exact qm) q9 hW' hE)
      have HNE := hide (need_append F l m)
      have HNU := hide (need_le F l)
      have HNV := hide (need_le F m)
      have HRA : Hid (∀ (h2 : RowF F m 0), j + K ≤ 60 → RowF F (l ++ m) 0) := hide (fun h2 h3 => by
        obtain ⟨_, _, s2⟩ := h2.zero
        refine rowF_of (unhide HRF) (by rw [List.length_append, unhide HL, unhide HK]; exact h3) (fun s hs => ?_)
        rcases List.mem_append.1 hs with h4 | h4
        · exact unhide HSL s h4
        · exact s2 s h4)
      have HLM : Hid ((l ++ m).length = j + K) := hide (by rw [List.length_append, unhide HL, unhide HK])
      have hway : (∃ E, Hid (RowF F m E) ∧ Hid (E ≠ 0)) ∨ (Hid (RowF F m 0) ∧ 60 < j + K) ∨ (Hid (RowF F m 0) ∧ j + K ≤ 60) := by
        obtain ⟨E, hE, _⟩ := rowF_is F m
        by_cases hh : E = 0
        · subst hh
          by_cases hk : 60 < j + K
          · exact Or.inr (Or.inl ⟨hE, hk⟩)
          · exact Or.inr (Or.inr ⟨hE, by omega⟩)
        · exact Or.inl ⟨E, hE, hh⟩
      rw [unhide HFL', unhide HL] at CE C1
      rw [unhide HFL'] at CD C2N C2O C3
      rw [unhide HK] at C2N C2O HNV
      rw [unhide HL] at CI HNU
      rw [unhide HLM] at C3
      obtain ⟨cs, hcs⟩ : ∃ cs, str (code F l) = cs := ⟨_, rfl⟩
      rw [hcs] at CE CD
      obtain ⟨U, hU⟩ : ∃ U, need F l = U := ⟨_, rfl⟩
      obtain ⟨V, hV⟩ : ∃ V, need F m = V := ⟨_, rfl⟩
      obtain ⟨T, hT⟩ : ∃ T, need F (l ++ m) = T := ⟨_, rfl⟩
      rw [hU] at C1 HNE HNU
      rw [hV] at C2O HNE HNV
      rw [hT] at C3 HNE
      have hu9 := unhide HNU
      have hv9 := unhide HNV
      clear hcs hU hV hT HCL HBC HIR HSG HSL h60 CIF CS CSR
      go_wp2_with fail
      refine CE.mono ?_
      clear CE
      rintro e w5 ⟨rfl, hb5⟩
      have hB5 := Below.chain hB4 hb5
      have rf5 := rf4.below hb5
      clear rf4 hb5 hB4
      go_wp2_with fail
      refine (unhide CD w5 rf5).mono ?_
      rintro e w6 ⟨v6, rfl, k6, hb6⟩
      have hB6 := Below.chain hB5 hb6
      have rf6 := rf5.below hb6
      obtain ⟨p6, q6, rfl, r6⟩ := k6.row
      rw [unhide HL]
      clear rf5 hb6 hB5 k6 CD
      go_wp2_with fail
      refine (unhide CI p6 q6 w6 r6 (hr2.below hB6)).mono ?_
      rintro e w7 ⟨rfl, hb7⟩
      have hB7 := Below.chain hB6 hb7
      have rf7 := rf6.below hb7
      clear rf6 hb7 hB6 r6 CI
      go_wp2_with fail
      refine (unhide C1 w7 rf7 (hr2.below hB7)).mono ?_
      rintro e w8 ⟨rfl, hb8⟩
      have hB8 := Below.chain hB7 hb8
      have rf8 := rf7.below hb8
      clear rf7 hb8 hB7 C1
      go_wp2_with fail
      rcases hway with ⟨E, HG, HG0⟩ | ⟨HG1, hk⟩ | ⟨HG2, hk⟩
      · refine (unhide C2N E w8 rf8 (hr3.below hB8) HG HG0).mono ?_
        rintro e w9 ⟨rfl, hb9⟩
        go_wp2
        go_ret
        exact ⟨rfl, Below.chain hB8 hb9⟩
      · have wk : IntKind.i64.wrap ((j : Int) + (K : Int)) = (j : Int) + (K : Int) := IntWalk.i64_in _ (by omega)
        have dk : decide ((60 : Int) < (j : Int) + (K : Int)) = true := by simp; omega
        refine (unhide C2O w8 rf8 (hr3.below hB8) HG1).mono ?_
        rintro e w9 ⟨rfl, hb9⟩
        go_wp2
        go_ret
        exact ⟨rfl, Below.chain hB8 hb9⟩
      · have wk : IntKind.i64.wrap ((j : Int) + (K : Int)) = (j : Int) + (K : Int) := IntWalk.i64_in _ (by omega)
        have dk : decide ((60 : Int) < (j : Int) + (K : Int)) = false := by simp; omega
        have HGA := hide (unhide HRA (unhide HG2) hk)
        have HT2 : Hid ((U : Int) + (V : Int) = (T : Int)) := hide (by have h := unhide HNE; omega)
        have wT : IntKind.i64.wrap ((U : Int) + (V : Int)) = (T : Int) := by rw [unhide HT2]; exact IntWalk.i64_in _ (by have h := unhide HNE; omega)
        have hTT : ((T : Int) == (T : Int)) = true := by simp
        refine (unhide C2O w8 rf8 (hr3.below hB8) HG2).mono ?_
        rintro e w9 ⟨rfl, hb9⟩
        have hB9 := Below.chain hB8 hb9
        have rf9 := rf8.below hb9
        have rl9 := hr2.below hB9
        have rm9 := hr3.below hB9
        have hl6 : Hid (l.length ≤ 1000000) := hide (by rw [unhide HL]; omega)
        have hl7 : Hid (l.length + m.length ≤ 1000000) := hide (by rw [unhide HL, unhide HK]; omega)
        have HJJ : Hid (j = l.length) := hide (unhide HL).symm
        have HKK : Hid (K = m.length) := hide (unhide HK).symm
        clear rf8 hb9 hB8 C2O C2N HRA HG2 HNE
        go_wp2_with (first
          | (at_builtin
             refine wpList_app0 _ rfl _ _ rfl w9.heap.size l a2 cap2 rfl (congrArg (fun n => Value.slice a2 n cap2) (unhide HJJ)) rl9 (unhide hl6) (Nat.le_refl _) ?_
             intro s10 w10 k10 hb10 _
             have rm10 := rm9.below hb10
             have rf10 := rf9.below hb10
             have hk10 := fun i e => (k10.lt i e).1
             clear rl9 rm9)
          | (at_builtin
             refine wpList_app _ rfl _ _ rfl w9.heap.size s10 l m a3 cap3 rfl k10 (congrArg (fun n => Value.slice a3 n cap3) (unhide HKK)) rm10 (unhide hl7) hb10.size ?_
             intro s11 w11 k11 g11 at11
             have hb11 : Below w9.heap.size w9 w11 := hb10.trans ((Below.refl w9.heap.size w10).grown g11 hb10.size hk10)
             obtain ⟨p11, q11, rfl, r11⟩ := k11.row
             rw [unhide HLM]))
        have hB11 := Below.chain hB9 hb11
        refine (unhide C3 p11 q11 w11 (rf9.below hb11) r11 (unhide HGA)).mono ?_
        rintro e w12 ⟨rfl, hb12⟩
        go_wp2
        go_ret
        exact ⟨rfl, Below.chain hB11 hb12⟩
  · obtain ⟨E, hE⟩ : ∃ E, rows ll n = E := ⟨_, rfl⟩
    rw [hE] at h
    have CS := hide (fun W hW => shares_no a0 cap0 ll n E W hW z0 hE h)
    rw [hN] at CS z0 ⊢
    rw [hL]
    rw [hK]
    clear hE h hN hL hK
    go_enter Try.func3, Try.ntmps3
    go_wp2_with fail
    refine (fact w _ _).mono ?_
    rintro e w1 ⟨g0, c0, rfl, e0, e1, e2, x3, x9, hb1⟩
    go_wp2_with fail
    refine (unhide CS w1 (hr0.below hb1)).mono ?_
    rintro e w2 ⟨rfl, hb2⟩
    go_wp2
    go_ret
    exact ⟨rfl, Below.chain hb1 hb2⟩

end Go.Proofs.Ytgffpljnhadigag.LearnAllLaw
