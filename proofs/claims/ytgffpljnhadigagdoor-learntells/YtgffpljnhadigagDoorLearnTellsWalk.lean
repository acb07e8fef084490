/-
  The walk of hornlaw2.LearnTells.
-/
import Derived.Test.YtgffpljnhadigagDoorLearnFaces
import Derived.Test.YtgffpljnhadigagDoorRefRows
import Derived.Test.YtgffpljnhadigagDoorRefScaleTwo
import Derived.Test.YtgffpljnhadigagDoorRefRow
import Derived.Test.YtgffpljnhadigagDoorInts
import Derived.Test.YtgffpljnhadigagDoorTold
namespace Go.Proofs.YtgffpljnhadigagDoor.LearnTellsLaw
open Go.RowKit
open Go.Proofs.YtgffpljnhadigagDoor.Tre Go.Proofs.YtgffpljnhadigagDoor.Scl Go.Proofs.YtgffpljnhadigagDoor.Hrn Go.Proofs.YtgffpljnhadigagDoor.Lrn Go.Proofs.YtgffpljnhadigagDoor.Same Go.Proofs.YtgffpljnhadigagDoor.Aser
set_option linter.unusedVariables false

theorem same_below {w w' : World} (h : w' = w) : Below w.heap.size w w' := by rw [h]; exact Below.refl _ _
theorem error_nilB (w : World) : Calls Tryd.prog 7 #[.nilIface, .int .i64 0] w fun e w' => e = .returned (.bool true) ∧ Below w.heap.size w w' :=
  (error_nil w).mono fun e w' ⟨he, hw⟩ => ⟨he, same_below hw⟩
theorem nil_ints (w : World) : Calls Tryd.prog 8 #[.slice none 0 0, .slice none 0 0] w fun e w' => e = .returned (.bool true) ∧ Below w.heap.size w w' :=
  ints_same none 0 none 0 [] w (by simp) (Or.inl rfl) (Or.inl rfl)

set_option maxRecDepth 100000 in
set_option maxHeartbeats 16000000 in
theorem walk (a0 : Option Addr) (cap0 : Nat) (ll : List (List Int)) (n : Int) (a2 : Option Addr) (cap2 : Nat) (f : List Int) (a3 : Option Addr) (cap3 : Nat) (l : List Int) (w : World) (hL : Laid w)
    (hr0 : Rws w a0 ll) (hw0 : ∀ l ∈ ll, ∀ n ∈ l, (Lit.int .i64 n).wf = true) (hz0 : ll.length * 24 ≤ 140737488351232) (hwn : (Lit.int .i64 n).wf = true)
    (hr2 : Row w a2 f) (hw2 : ∀ n ∈ f, (Lit.int .i64 n).wf = true) (hz2 : f.length * 8 ≤ 140737488351232) (hq2 : (a2 = none → cap2 = 0) ∧ f.length ≤ cap2 ∧ cap2 ≤ 9223372036854775807)
    (hr3 : Row w a3 l) (hw3 : ∀ n ∈ l, (Lit.int .i64 n).wf = true) (hz3 : l.length * 8 ≤ 140737488351232) :
    Calls Tryd.prog 3 #[.slice a0 ll.length cap0, .int .i64 n, .slice a2 f.length cap2, .slice a3 l.length cap3] w fun e w' => e = .returned (.bool true) ∧ Below w.heap.size w w' := by
  obtain ⟨q1, q2, q3⟩ := hq2
  have z0 : ll.length ≤ 9223372036854775807 := by omega
  have z2 : f.length ≤ 9223372036854775807 := by omega
  have z3 : l.length ≤ 9223372036854775807 := by omega
  have hway : (∃ E, Hid (rows ll n = E) ∧ Hid (E ≠ 0) ∧ (E == 0) = false ∧ decide (0 < n) = true) ∨ (∃ E, Hid (rows ll n = E) ∧ Hid (E ≠ 0) ∧ (E == 0) = false ∧ decide (0 < n) = false) ∨ (∃ m : Nat, n = m ∧ Hid (rows ll m = 0)) := by
    by_cases h : rows ll n = 0
    · have h1 := rows_zero h
      refine Or.inr (Or.inr ⟨n.toNat, by omega, ?_⟩)
      have e : ((n.toNat : Nat) : Int) = n := by omega
      rw [e]; exact h
    · have hb : (rows ll n == 0) = false := by rw [beq_eq_false_iff_ne]; exact h
      by_cases hp : 0 < n
      · exact Or.inl ⟨_, hide rfl, h, hb, by simpa using hp⟩
      · exact Or.inr (Or.inl ⟨_, hide rfl, h, hb, by simpa using hp⟩)
  have hway2 : (∃ E, Hid (RowF f l E) ∧ Hid (E ≠ 0) ∧ (E == 0) = false) ∨ Hid (RowF f l 0) := by
    obtain ⟨E, hE, _⟩ := rowF_is f l
    by_cases h : E = 0
    · subst h; exact Or.inr hE
    · exact Or.inl ⟨E, hE, h, by rw [beq_eq_false_iff_ne]; exact h⟩
  clear hw0 hw2 hw3 hwn hz2 hz3 q1
  have CRS := hide (fun n E W h hE => refRows a0 cap0 ll n E W h z0 hE)
  have CCN := hide (fun n E W h hE hne => count_no a0 cap0 ll n E W h z0 hE hne)
  have CSN := hide (fun n E W h hE hne => shares_no a0 cap0 ll n E W h z0 hE hne)
  have CCO := hide (fun n W h hE => count_ok a0 cap0 ll n W h hE)
  have CSO := hide (fun n W h hE => shares_ok a0 cap0 ll n W h hE)
  have CR := hide (fun E W h h' hE => refRow a2 cap2 f a3 cap3 l E W h z2 h' z3 hE)
  have CN := hide (fun W h h' hf hl h60 => refNeed a2 cap2 f a3 cap3 l W h h' hf hl h60)
  have CXN := hide (fun E W h h' hE hne => cost_no a2 cap2 f a3 cap3 l E W h q2 q3 h' z3 hE hne)
  have CXO := hide (fun W h h' hE => cost_ok a2 cap2 f a3 cap3 l W h q2 q3 h' hE)
  have HU := hide (need_le f l)
  obtain ⟨N, hN⟩ : ∃ N, ll.length = N := ⟨_, rfl⟩
  have HN := hide hN
  obtain ⟨M, hM⟩ : ∃ M, f.length = M := ⟨_, rfl⟩
  obtain ⟨K, hK⟩ : ∃ K, l.length = K := ⟨_, rfl⟩
  have HK := hide hK
  rw [hN] at CRS CCN CSN CCO CSO z0 ⊢
  rw [hM] at CR CN CXN CXO ⊢
  rw [hK] at CR CN CXN CXO HU ⊢
  obtain ⟨U, hU⟩ : ∃ U, need f l = U := ⟨_, rfl⟩
  rw [hU] at CN CXO HU
  have hUU : ((U : Int) == (U : Int)) = true := by simp
  clear hN hM hK hU hz0 z2 z3 q2 q3
  go_enter Tryd.func3, Tryd.ntmps3
  go_wp2_with fail
  rcases hway with ⟨E, HE, HE0, hE0, HD1⟩ | ⟨E, HE, HE0, hE0, HD0⟩ | ⟨m, rfl, HE1⟩
  all_goals (first
    | (have hd : (decide (0 < n) = true ∨ decide (0 < n) = false) := by cases decide (0 < n) <;> simp
       have hE0' := hE0
       refine (unhide CRS n E w hr0 HE).mono ?_
       rintro e w1 ⟨rfl, hw1⟩
       obtain rfl : w = w1 := hw1.symm
       clear hw1 hd
       go_wp2
       go_loopw [10, 12] (fun c s wr => c = .slice none 0 0 ∧ s = .int .i64 0 ∧ w = wr) (fun _ _ _ => 0)
       case atStart => exact ⟨rfl, rfl, rfl⟩
       obtain ⟨rfl, rfl, rfl⟩ := hrel
       go_wp2_with fail
       refine (unhide CCN n E w hr0 HE HE0).mono ?_
       rintro e w2 ⟨rfl, hB2⟩
       go_wp2_with fail
       refine (error_is E w2 (hL.below hB2)).mono ?_
       rintro e w3 ⟨rfl, hb3⟩
       have hB3 := Below.chain hB2 hb3
       go_wp2_with fail
       refine (nil_ints w3).mono ?_
       rintro e w4 ⟨rfl, hb4⟩
       have hB4 := Below.chain hB3 hb4
       clear hB2 hb3 hB3 hb4
       go_wp2_with fail
       refine (unhide CSN n E w4 (hr0.below hB4) HE HE0).mono ?_
       rintro e w5 ⟨rfl, hb5⟩
       have hB5 := Below.chain hB4 hb5
       go_wp2_with fail
       refine (error_is E w5 (hL.below hB5)).mono ?_
       rintro e w6 ⟨rfl, hb6⟩
       have hB6 := Below.chain hB5 hb6
       go_wp2_with fail
       refine (nil_ints w6).mono ?_
       rintro e wA ⟨rfl, hb7⟩
       have hB := Below.chain hB6 hb7
       clear hB4 hb5 hB5 hb6 hB6 hb7 HE)
    | (obtain ⟨m1, m2, m3, HRW⟩ : (1 ≤ m ∧ m ≤ 40 ∧ N ≤ 60 ∧ Hid (∀ l ∈ ll, Rw m l)) := by
         obtain ⟨h1, h2, h3, h4⟩ := rows_zero (unhide HE1)
         exact ⟨by omega, by omega, by rw [← unhide HN]; exact h3, h4⟩
       have HCF := hide (cts_ok (unhide HE1))
       refine (unhide CRS m 0 w hr0 HE1).mono ?_
       rintro e w1 ⟨rfl, hw1⟩
       obtain rfl : w = w1 := hw1.symm
       clear hw1
       go_wp2
       go_loopw [10, 12] (fun c s wr => ∃ j : Nat, j ≤ m ∧ s = .int .i64 j ∧ Has wr w.heap.size c (upto (fun s => 1 + (tms ll s : Int)) j) ∧ Below w.heap.size w wr) (fun _ s _ => m - (intOf s).toNat)
       case atStart => exact ⟨0, Nat.zero_le _, rfl, Has.nil _ _, Below.refl _ _⟩
       obtain ⟨j, hj, rfl, hc, hB⟩ := hrel
       by_cases hjm : j < m
       · have dj : decide ((j : Int) < (m : Int)) = true := by simp; omega
         have dj' : decide (j < m) = true := by simpa using hjm
         have HT0 : Hid (1 = 1 + tms (ll.take 0) j) := hide (by rw [List.take_zero]; rfl)
         go_wp2
         go_loopw [13, 14] (fun t i wr => ∃ k T : Nat, k ≤ N ∧ i = .int .i64 k ∧ t = .int .i64 T ∧ Hid (T = 1 + tms (ll.take k) j) ∧ T ≤ 1 + 60 * k ∧ Has wr w.heap.size u10 (upto (fun s => 1 + (tms ll s : Int)) j) ∧ Below w.heap.size w wr) (fun _ i _ => N - (intOf i).toNat)
         case atStart => exact ⟨0, 1, Nat.zero_le _, rfl, rfl, HT0, by omega, hc, hB⟩
         case round =>
           obtain ⟨k, T, hk, rfl, rfl, HT, hT, hc, hB⟩ := hrel
           clear HT0
           by_cases hkN : k < N
           · have hkl : k < ll.length := by rw [unhide HN]; exact hkN
             obtain ⟨b1, off1, rfl, hb1, hc1⟩ := hr0.at hkl
             obtain ⟨A, C, c1, c2, c3, c4, c5⟩ := hc1 k hkl
             have HST : Hid (tms (ll.take (k + 1)) j = tms (ll.take k) j + (rowAt ll k).count (j : Int)) := hide (tms_step hkl j)
             have hrw : (rowAt ll k).length ≤ 60 := (unhide HRW _ (by rw [rowAt_get hkl]; exact List.getElem_mem hkl)).1
             obtain ⟨l1, hl1⟩ : ∃ l1, rowAt ll k = l1 := ⟨_, rfl⟩
             rw [hl1] at c1 c5 HST hrw
             obtain ⟨L, hL1⟩ : ∃ L, l1.length = L := ⟨_, rfl⟩
             have HL1 := hide hL1
             rw [hL1] at c1 hrw
             have HB1 : Hid (∀ V, Below w.heap.size w V → V.cell? ⟨b1, off1 + k, none⟩ = some (.slice A L C)) := hide (fun V hV => (hV.cell (p := ⟨b1, off1 + k, none⟩) hb1).trans c1)
             have HT1 : Hid (T = 1 + tms (ll.take k) j + (l1.take 0).count (j : Int)) := hide (by rw [List.take_zero, List.count_nil]; exact unhide HT)
             clear c1 c2 c3 c4 hc1 hl1 hL1 hkl HT
             go_wp2
             go_loopw [13, 15] (fun t i wr => ∃ q T' : Nat, q ≤ L ∧ i = .int .i64 q ∧ t = .int .i64 T' ∧ Hid (T' = 1 + tms (ll.take k) j + (l1.take q).count (j : Int)) ∧ T' ≤ 1 + 60 * k + q ∧ Has wr w.heap.size u10 (upto (fun s => 1 + (tms ll s : Int)) j) ∧ Below w.heap.size w wr) (fun _ i _ => L - (intOf i).toNat)
             case atStart => exact ⟨0, T, Nat.zero_le _, rfl, rfl, HT1, by omega, hc, hB⟩
             case round =>
               obtain ⟨q, T', hq, rfl, rfl, HTq, hTq, hc, hB⟩ := hrel
               have c1 := unhide HB1 _ hB
               clear HT1
               by_cases hqL : q < L
               · have hql : q < l1.length := by rw [unhide HL1]; exact hqL
                 obtain ⟨b2, off2, rfl, _, hc2⟩ := cell_at (c5.below hB) (by omega)
                 have c6 := hc2 q hql
                 have HCS : Hid ((l1.take (q + 1)).count (j : Int) = (l1.take q).count (j : Int) + if at0 l1 q = (j : Int) then 1 else 0) := hide (count_step hql j)
                 obtain ⟨X, hX⟩ : ∃ X, at0 l1 q = X := ⟨_, rfl⟩
                 rw [hX] at c6 HCS
                 clear hX hc2 hql
                 by_cases hXj : X = (j : Int)
                 · have dX : (X == (j : Int)) = true := by rw [hXj]; simp
                   have HT2 : Hid (T' + 1 = 1 + tms (ll.take k) j + (l1.take (q + 1)).count (j : Int)) := hide (by rw [unhide HCS, if_pos hXj, unhide HTq]; omega)
                   clear hXj HCS HTq
                   go_wp2
                   go_roundw
                   case rel => exact ⟨q + 1, T' + 1, by omega, by go_num, by go_num, HT2, by omega, hc, hB⟩
                   case measure => simp [intOf]; omega
                 · have dX : (X == (j : Int)) = false := by rw [beq_eq_false_iff_ne]; exact hXj
                   have HT2 : Hid (T' = 1 + tms (ll.take k) j + (l1.take (q + 1)).count (j : Int)) := hide (by rw [unhide HCS, if_neg hXj, unhide HTq]; omega)
                   clear hXj HCS HTq
                   go_wp2
                   go_roundw
                   case rel => exact ⟨q + 1, T', by omega, by go_num, by go_num, HT2, by omega, hc, hB⟩
                   case measure => simp [intOf]; omega
               · obtain rfl : q = L := by omega
                 have HT2 : Hid (T' = 1 + tms (ll.take (k + 1)) j) := hide (by
                   have h := unhide HTq
                   rw [← unhide HL1, List.take_length] at h
                   rw [unhide HST]; omega)
                 clear HTq
                 go_wp2
                 go_roundw
                 case rel => exact ⟨k + 1, T', by omega, by go_num, rfl, HT2, by omega, hc, hB⟩
                 case measure => simp [intOf]; omega
           · obtain rfl : k = N := by omega
             have HT2 : Hid (T = 1 + tms ll j) := hide (by rw [unhide HT, ← unhide HN, tms_all])
             have HUP : Hid (upto (fun s => 1 + (tms ll s : Int)) (j + 1) = upto (fun s => 1 + (tms ll s : Int)) j ++ [(T : Int)]) := hide (by
               rw [upto_succ]
               have h := unhide HT2
               congr 2
               omega)
             have hln : Hid ((upto (fun s => 1 + (tms ll s : Int)) j).length + 1 ≤ 1000000) := hide (by rw [upto_length]; omega)
             have hWs := hB.size
             clear HT
             go_wp2_with (at_builtin; refine wpList_app _ rfl _ _ rfl w.heap.size u10 (upto (fun s => 1 + (tms ll s : Int)) j) _ _ _ rfl (hc.alloc _) rfl (row_one _ _ _) (unhide hln) (by simp; omega) ?_; intro s' w6 k6 g6 at6)
             obtain ⟨d1, d2⟩ := stepped_plain hc hWs k6 g6 at6
             rw [← unhide HUP] at k6
             go_wp2
             go_roundw
             case rel => exact ⟨j + 1, by omega, by go_num, k6, hB.trans d1⟩
             case measure => simp [intOf]; omega
       obtain rfl : j = m := by omega
       have dj : decide ((j : Int) < (j : Int)) = false := by simp
       have dj' : decide (j < j) = false := by simp
       have hcl : Hid ((upto (fun s => 1 + (tms ll s : Int)) j).length = j) := hide (upto_length _ _)
       have CSC := hide (fun p q W h => refScale p q (cts ll j) W h HCF)
       have CIC := hide (fun p q p' q' W h h' => ints_same p q p' q' (cts ll j) W (by rw [cts_length]; omega) h h')
       have hsl : Hid ((scale (cts ll j)).length = j) := hide (learnt (unhide HE1)).2.1
       have CIS := hide (fun p q p' q' W h h' => ints_same p q p' q' (scale (cts ll j)) W (by rw [unhide hsl]; omega) h h')
       rw [cts_length] at CSC CIC
       rw [unhide hsl] at CIS
       have hc' : Has wr w.heap.size u10 (cts ll j) := hc
       obtain ⟨p0, q0, rfl, r0⟩ := hc'.row
       rw [cts_length]
       clear hc hc'
       go_wp2_with fail
       refine (unhide CSC p0 q0 wr r0).mono ?_
       rintro e w2 ⟨v2, rfl, k2, hb2⟩
       have hB2 := Below.chain hB hb2
       have r0' := r0.below hb2
       obtain ⟨p2, s2, rfl, r2⟩ := k2.row
       rw [unhide hsl]
       clear k2 r0 hb2 hB
       go_wp2_with fail
       refine (unhide CCO j w2 (hr0.below hB2) HE1).mono ?_
       rintro e w3 ⟨v3, rfl, k3, hb3⟩
       have hB3 := Below.chain hB2 hb3
       have r0 := r0'.below hb3
       have r2' := r2.below hb3
       obtain ⟨p3, s3, rfl, r3⟩ := k3.row
       rw [cts_length]
       clear k3 r0' r2 hb3 hB2
       go_wp2_with fail
       refine (error_nilB w3).mono ?_
       rintro e w4 ⟨rfl, hb4⟩
       have hB4 := Below.chain hB3 hb4
       have r0' := r0.below hb4
       have r2 := r2'.below hb4
       have r3' := r3.below hb4
       clear r0 r2' r3 hb4 hB3
       go_wp2_with fail
       refine (unhide CIC p3 s3 p0 q0 w4 r3' r0').mono ?_
       rintro e w5 ⟨rfl, hb5⟩
       have hB5 := Below.chain hB4 hb5
       have r2' := r2.below hb5
       clear r0' r2 r3' hb5 hB4
       go_wp2_with fail
       refine (unhide CSO j w5 (hr0.below hB5) HE1).mono ?_
       rintro e w6 ⟨v6, rfl, k6, hb6⟩
       have hB6 := Below.chain hB5 hb6
       have r2 := r2'.below hb6
       obtain ⟨p6, s6, rfl, r6⟩ := k6.row
       rw [unhide hsl]
       clear k6 r2' hb6 hB5
       go_wp2_with fail
       refine (error_nilB w6).mono ?_
       rintro e w7 ⟨rfl, hb7⟩
       have hB7 := Below.chain hB6 hb7
       have r2' := r2.below hb7
       have r6' := r6.below hb7
       clear r2 r6 hb7 hB6
       go_wp2_with fail
       refine (unhide CIS p6 s6 p2 s2 w7 r6' r2').mono ?_
       rintro e wA ⟨rfl, hb8⟩
       have hB := Below.chain hB7 hb8
       clear r2' r6' hb8 hB7))
  all_goals (
    clear CRS CCN CSN CCO CSO
    go_wp2_with fail
    rcases hway2 with ⟨E2, HF, HF0, hF0⟩ | HF1)
  all_goals (first
    | (refine (unhide CR E2 wA (hr2.below hB) (hr3.below hB) HF).mono ?_
       rintro e w9 ⟨rfl, hw9⟩
       obtain rfl : wA = w9 := hw9.symm
       clear hw9
       go_wp2_with fail
       refine (unhide CXN E2 wA (hr2.below hB) (hr3.below hB) HF HF0).mono ?_
       rintro e w10 ⟨rfl, hb10⟩
       have hB10 := Below.chain hB hb10
       go_wp2_with fail
       refine (error_is E2 w10 (hL.below hB10)).mono ?_
       rintro e w11 ⟨rfl, hb11⟩
       go_wp2
       go_ret
       exact ⟨rfl, Below.chain hB10 hb11⟩)
    | (have HZ := hide (unhide HF1).zero
       have h60 : K ≤ 60 := by rw [← unhide HK]; exact (unhide HZ).2.1
       refine (unhide CR 0 wA (hr2.below hB) (hr3.below hB) HF1).mono ?_
       rintro e w9 ⟨rfl, hw9⟩
       obtain rfl : wA = w9 := hw9.symm
       clear hw9
       go_wp2_with fail
       refine (unhide CN wA (hr2.below hB) (hr3.below hB) (unhide HZ).1 (unhide HZ).2.2 h60).mono ?_
       rintro e w9 ⟨rfl, hw9⟩
       obtain rfl : wA = w9 := hw9.symm
       clear hw9
       go_wp2_with fail
       refine (unhide CXO wA (hr2.below hB) (hr3.below hB) HF1).mono ?_
       rintro e w10 ⟨rfl, hb10⟩
       have hB10 := Below.chain hB hb10
       go_wp2_with fail
       refine (error_nilB w10).mono ?_
       rintro e w11 ⟨rfl, hb11⟩
       go_wp2
       go_ret
       exact ⟨rfl, Below.chain hB10 hb11⟩))

end Go.Proofs.YtgffpljnhadigagDoor.LearnTellsLaw
