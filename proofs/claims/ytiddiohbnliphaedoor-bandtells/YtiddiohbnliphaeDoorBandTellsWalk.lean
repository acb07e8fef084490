/-
  The walk of hornlaw1.BandTells.
-/
import Derived.Test.YtiddiohbnliphaeDoorRefBands
import Derived.Test.YtiddiohbnliphaeDoorBandJoin
import Derived.Test.YtiddiohbnliphaeDoorLists
import Derived.Test.YtiddiohbnliphaeDoorTold
namespace Go.Proofs.YtiddiohbnliphaeDoor.BandTellsLaw
open Go.RowKit
open Go.Proofs.YtiddiohbnliphaeDoor.Tre Go.Proofs.YtiddiohbnliphaeDoor.Bnd Go.Proofs.YtiddiohbnliphaeDoor.Same Go.Proofs.YtiddiohbnliphaeDoor.Aser
set_option linter.unusedVariables false

theorem error_nilB (w : World) : Calls Tryd.prog 6 #[.nilIface, .int .i64 0] w fun e w' => e = .returned (.bool true) ∧ Below w.heap.size w w' :=
  (error_nil w).mono fun e w' ⟨he, hw⟩ => ⟨he, same_below hw⟩
theorem nil_lists (w : World) : Calls Tryd.prog 9 #[.slice none 0 0, .slice none 0 0] w fun e w' => e = .returned (.bool true) ∧ Below w.heap.size w w' :=
  lists_same none 0 none 0 [] w (by simp) (Or.inl rfl) (Or.inl rfl)
theorem nil_ints (w : World) : Calls Tryd.prog 11 #[.slice none 0 0, .slice none 0 0] w fun e w' => e = .returned (.bool true) ∧ Below w.heap.size w w' :=
  ints_same none 0 none 0 [] w (by simp) (Or.inl rfl) (Or.inl rfl)

/-- Of the bands: so many fit so far, and all are behind each other; or one did not. -/
def Far (m : List (List Int)) (s : List Int) (n₀ : Nat) (e all : Value) (j : Nat) (wr : World) : Prop :=
  (e = .int .i64 0 ∧ Has wr n₀ all (m.take j).flatten ∧ ∀ r, r < j → ((rowAt m r).length : Int) = at0 s r) ∨ (e = .int .i64 3 ∧ all = .slice none 0 0 ∧ ¬ Shaped m s)

set_option maxRecDepth 100000 in
set_option maxHeartbeats 16000000 in
theorem walk (a0 : Option Addr) (cap0 : Nat) (s : List Int) (a1 : Option Addr) (cap1 : Nat) (l : List Int) (a2 : Option Addr) (cap2 : Nat) (m : List (List Int)) (w : World) (hL : Laid w)
    (hr0 : Row w a0 s) (hw0 : ∀ n ∈ s, (Lit.int .i64 n).wf = true) (hz0 : s.length * 8 ≤ 140737488351232)
    (hr1 : Row w a1 l) (hw1 : ∀ n ∈ l, (Lit.int .i64 n).wf = true) (hz1 : l.length * 8 ≤ 140737488351232) (hq1 : (a1 = none → cap1 = 0) ∧ l.length ≤ cap1 ∧ cap1 ≤ 9223372036854775807)
    (hr2 : Rws w a2 m) (hw2 : ∀ l ∈ m, ∀ n ∈ l, (Lit.int .i64 n).wf = true) (hz2 : m.length * 24 ≤ 140737488351232) :
    Calls Tryd.prog 3 #[.slice a0 s.length cap0, .slice a1 l.length cap1, .slice a2 m.length cap2] w fun e w' => e = .returned (.bool true) ∧ Below w.heap.size w w' := by
  obtain ⟨q1, q2, q3⟩ := hq1
  have z0 : s.length ≤ 9223372036854775807 := by omega
  have z1 : l.length ≤ 9223372036854775807 := by omega
  have z2 : m.length ≤ 9223372036854775807 := by omega
  have hway : (∃ E, Hid (bf s = E) ∧ Hid (bf s ≠ 0) ∧ (E == 0) = false) ∨ (Hid (bf s = 0) ∧ ((∃ T, Hid (total s = T) ∧ Hid (l.length ≠ total s) ∧ ((l.length : Int) == (T : Int)) = false ∧ ((T : Int) == (T : Int)) = true) ∨ Hid (total s = l.length))) := by
    by_cases h : bf s = 0
    · by_cases h2 : total s = l.length
      · exact Or.inr ⟨h, Or.inr h2⟩
      · exact Or.inr ⟨h, Or.inl ⟨_, rfl, fun e => h2 e.symm, by rw [beq_eq_false_iff_ne]; omega, by simp⟩⟩
    · exact Or.inl ⟨_, rfl, h, by rw [beq_eq_false_iff_ne]; exact h⟩
  have hway2 : (m.length ≠ s.length ∧ ((m.length : Int) == (s.length : Int)) = false) ∨ m.length = s.length := by
    by_cases h : m.length = s.length
    · exact Or.inr h
    · exact Or.inl ⟨h, by rw [beq_eq_false_iff_ne]; omega⟩
  clear hw0 hw1 hw2 hz0 hz1 hz2 q1
  have hll : ((l.length : Int) == (l.length : Int)) = true := by simp
  go_enter Tryd.func3, Tryd.ntmps3
  go_wp2_with fail
  rcases hway with ⟨E, HE, HF0, hE0⟩ | ⟨HF1, ⟨T, HT, HT1, hlT, hTT⟩ | HT2⟩
  all_goals (first
    | (have cA := refBands_no a0 cap0 s w z0 hr0 HF0
       have cB := fun W h => check_no a0 cap0 s W z0 h HF0
       have cC := fun W h => split_no a1 cap1 l.length a0 cap0 s W z0 h HF0
       rw [unhide HE] at cA cB cC
       refine cA.mono ?_
       clear cA
       rintro e w1 ⟨rfl, hb1⟩
       go_wp2_with fail
       refine (cB w1 (hr0.below hb1)).mono ?_
       clear cB
       rintro e w2 ⟨rfl, hw2⟩
       have hB2 := Below.chain hb1 (same_below hw2)
       clear hw2 hb1
       go_wp2_with fail
       refine (error_is E w2 (hL.below hB2)).mono ?_
       rintro e w3 ⟨rfl, hb3⟩
       have hB3 := Below.chain hB2 hb3
       clear hB2 hb3
       go_wp2_with fail
       refine (cC w3 (hr0.below hB3)).mono ?_
       clear cC
       rintro e w4 ⟨rfl, hw4⟩
       have hB4 := Below.chain hB3 (same_below hw4)
       clear hw4 hB3
       go_wp2_with fail
       refine (error_is E w4 (hL.below hB4)).mono ?_
       rintro e w5 ⟨rfl, hb5⟩
       have hB5 := Below.chain hB4 hb5
       clear hB4 hb5
       go_wp2_with fail
       refine (nil_lists w5).mono ?_
       rintro e wA ⟨rfl, hb6⟩
       have hB := Below.chain hB5 hb6
       clear hB5 hb6)
    | (have cA := refBands_ok a0 cap0 s w z0 hr0 HF1
       have cB := fun W h => check_ok a0 cap0 s W z0 h HF1
       have cC := fun W h => split_shape a1 cap1 l.length a0 cap0 s W z0 z1 h HF1 HT1
       rw [unhide HT] at cA cB
       refine cA.mono ?_
       clear cA
       rintro e w1 ⟨rfl, hb1⟩
       go_wp2_with fail
       refine (cB w1 (hr0.below hb1)).mono ?_
       clear cB
       rintro e w2 ⟨rfl, hw2⟩
       have hB2 := Below.chain hb1 (same_below hw2)
       clear hw2 hb1
       go_wp2_with fail
       refine (error_nilB w2).mono ?_
       rintro e w3 ⟨rfl, hb3⟩
       have hB3 := Below.chain hB2 hb3
       clear hB2 hb3
       go_wp2_with fail
       refine (cC w3 (hr0.below hB3)).mono ?_
       clear cC
       rintro e w4 ⟨rfl, hw4⟩
       have hB4 := Below.chain hB3 (same_below hw4)
       clear hw4 hB3
       go_wp2_with fail
       refine (error_is 3 w4 (hL.below hB4)).mono ?_
       rintro e w5 ⟨rfl, hb5⟩
       have hB5 := Below.chain hB4 hb5
       clear hB4 hb5
       go_wp2_with fail
       refine (nil_lists w5).mono ?_
       rintro e wA ⟨rfl, hb6⟩
       have hB := Below.chain hB5 hb6
       clear hB5 hb6)
    | (have HTT := HT2
       have cA := refBands_ok a0 cap0 s w z0 hr0 HF1
       have cB := fun W h => check_ok a0 cap0 s W z0 h HF1
       have cD := fun W h h' => refCut a1 cap1 l a0 cap0 s W h q2 q3 h' HF1 HT2
       have cC := fun W h h' => split_ok a1 cap1 l a0 cap0 s W h q2 q3 h' HF1 HT2
       have cE := fun p q p' q' W h h' => lists_same p q p' q' (cuts l s) W (by rw [cuts_length]; exact z0) h h'
       rw [unhide HT2] at cA cB
       rw [cuts_length] at cE
       refine cA.mono ?_
       clear cA
       rintro e w1 ⟨rfl, hb1⟩
       go_wp2_with fail
       refine (cB w1 (hr0.below hb1)).mono ?_
       clear cB
       rintro e w2 ⟨rfl, hw2⟩
       have hB2 := Below.chain hb1 (same_below hw2)
       clear hw2 hb1
       go_wp2_with fail
       refine (error_nilB w2).mono ?_
       rintro e w3 ⟨rfl, hb3⟩
       have hB3 := Below.chain hB2 hb3
       clear hB2 hb3
       go_wp2_with fail
       refine (cD w3 (hr1.below hB3) (hr0.below hB3)).mono ?_
       clear cD
       rintro e w4 ⟨A4, C4, rfl, hR4, hb4⟩
       have hB4 := Below.chain hB3 hb4
       clear hB3 hb4
       go_wp2_with fail
       refine (cC w4 (hr1.below hB4) (hr0.below hB4)).mono ?_
       clear cC
       rintro e w5 ⟨A5, rfl, hR5, hb5⟩
       have hB5 := Below.chain hB4 hb5
       have hR4' := hR4.below hb5
       clear hB4 hb5 hR4
       go_wp2_with fail
       refine (error_nilB w5).mono ?_
       rintro e w6 ⟨rfl, hb6⟩
       have hB6 := Below.chain hB5 hb6
       have hR4'' := hR4'.below hb6
       have hR5' := hR5.below hb6
       clear hB5 hb6 hR4' hR5
       go_wp2_with fail
       refine (cE _ _ _ _ w6 hR5' hR4'').mono ?_
       rintro e wA ⟨rfl, hb7⟩
       have hB := Below.chain hB6 hb7
       clear hB6 hb7 hR4'' hR5' cE))
  all_goals (first
    | (have HFF := HF0
       have cF := fun W h => join_no a2 cap2 m.length a0 cap0 s W z0 h HF0
       rw [unhide HE] at cF
       obtain ⟨M, hM⟩ : ∃ M, m.length = M := ⟨_, rfl⟩
       rw [hM] at cF z2 ⊢
       have CF := hide cF
       clear cF hway2 hM
       rcases Nat.eq_zero_or_pos M with rfl | hm0
       all_goals (
         go_wp2
         go_loopw [8, 16, 17] (fun e al i wr => e = .int .i64 E ∧ al = .slice none 0 0 ∧ i = .int .i64 0 ∧ Below w.heap.size w wr) (fun _ _ _ _ => 0)
         case atStart => exact ⟨rfl, rfl, rfl, hB⟩
         case round =>
           obtain ⟨rfl, rfl, rfl, hBr⟩ := hrel
           go_wp2_with fail
           refine (unhide CF wr (hr0.below hBr)).mono ?_
           rintro e w8 ⟨rfl, hw8⟩
           have hB8 := Below.chain hBr (same_below hw8)
           clear hw8 CF hB
           go_wp2_with fail
           refine (error_is E w8 (hL.below hB8)).mono ?_
           rintro e w9 ⟨rfl, hb9⟩
           have hB9 := Below.chain hB8 hb9
           go_wp2_with fail
           refine (nil_ints w9).mono ?_
           rintro e w10 ⟨rfl, hb10⟩
           go_wp2
           go_ret
           exact ⟨rfl, Below.chain hB9 hb10⟩))
    | (have HFF := HF1
       rcases hway2 with ⟨HL1, hmL⟩ | HL2))
  all_goals (first
    | (have hmL' := hmL
       have cF := fun W h h' => join_shape a2 cap2 m a0 cap0 s W z2 z0 h h' HF1 (hide fun h => HL1 h.1)
       obtain ⟨M, hM⟩ : ∃ M, m.length = M := ⟨_, rfl⟩
       rw [hM] at cF z2 hmL ⊢
       have CF := hide cF
       clear cF hM HL1 hmL'
       rcases Nat.eq_zero_or_pos M with rfl | hm0
       all_goals (
         go_wp2
         go_loopw [8, 16, 17] (fun e al i wr => e = .int .i64 3 ∧ al = .slice none 0 0 ∧ i = .int .i64 0 ∧ Below w.heap.size w wr) (fun _ _ _ _ => 0)
         case atStart => exact ⟨rfl, rfl, rfl, hB⟩
         case round =>
           obtain ⟨rfl, rfl, rfl, hBr⟩ := hrel
           go_wp2_with fail
           refine (unhide CF wr (hr2.below hBr) (hr0.below hBr)).mono ?_
           rintro e w8 ⟨rfl, hw8⟩
           have hB8 := Below.chain hBr (same_below hw8)
           clear hw8 CF hB
           go_wp2_with fail
           refine (error_is 3 w8 (hL.below hB8)).mono ?_
           rintro e w9 ⟨rfl, hb9⟩
           have hB9 := Below.chain hB8 hb9
           go_wp2_with fail
           refine (nil_ints w9).mono ?_
           rintro e w10 ⟨rfl, hb10⟩
           go_wp2
           go_ret
           exact ⟨rfl, Below.chain hB9 hb10⟩))
    | (have HLL := hide HL2
       have cF := fun W h h' hn => join_shape a2 cap2 m a0 cap0 s W z2 z0 h h' HF1 hn
       have cK := fun W h h' hn => join_ok a2 cap2 m a0 cap0 s W h h' HF1 hn
       obtain ⟨N, hN⟩ : ∃ N, s.length = N := ⟨_, rfl⟩
       have HN := hide hN
       have H8 := (bf_ok (unhide HF1)).2.1
       have H32 := hide (bf_ok (unhide HF1)).2.2.2
       have HSZ := hide (bf_ok (unhide HF1)).2.2.1
       rw [HL2, hN] at cF cK z2 ⊢
       rw [hN] at z0 H8
       have CF := hide cF
       have CK := hide cK
       clear cF cK hN HL2
       go_wp2
       go_loopw [8, 16, 17] (fun e al i wr => ∃ j : Nat, j ≤ N ∧ i = .int .i64 j ∧ Hid (Far m s w.heap.size e al j wr) ∧ Below w.heap.size w wr) (fun _ _ i _ => N - (intOf i).toNat)
       case atStart => exact ⟨0, Nat.zero_le _, rfl, hide (Or.inl ⟨rfl, Has.nil _ _, fun r hr => by omega⟩), hB⟩
       case round =>
         obtain ⟨j, hj, rfl, HFa, hBr⟩ := hrel
         clear hB
         rcases unhide HFa with ⟨rfl, h1, hA⟩ | ⟨rfl, rfl, hns⟩
         · clear HFa
           have HA := hide hA
           clear hA
           by_cases hlt : j < N
           · have hks : j < s.length := by rw [unhide HN]; exact hlt
             have hkl : j < m.length := by rw [unhide HLL]; exact hks
             obtain ⟨b1, off1, rfl, _, hc1⟩ := cell_at (hr0.below hBr) (by omega)
             have c1 := hc1 j hks
             obtain ⟨b2, off2, rfl, _, hc2⟩ := (hr2.below hBr).at hkl
             obtain ⟨A, C, c2, c3, c4, c5, c6⟩ := hc2 j hkl
             have hX6 := (unhide HSZ j hks).2
             have HFL := hide (flat_step hkl)
             have HPR := hide (pre_of (unhide HLL) (by rw [unhide HN]; exact hj) (unhide HA))
             have HPT := hide (pre_total s (j := j) (by omega))
             have hL9 : (rowAt m j).length ≤ 9223372036854775807 := by omega
             by_cases hq : ((rowAt m j).length : Int) = at0 s j
             · have HA2 : Hid (∀ r, r < j + 1 → ((rowAt m r).length : Int) = at0 s r) := hide (fun r hr => by
                 by_cases e : r = j
                 · rw [e]; exact hq
                 · exact unhide HA r (by omega))
               have hlen : Hid ((m.take j).flatten.length + (rowAt m j).length ≤ 1000000) := hide (by
                 have := unhide HPR
                 have := unhide HPT
                 have := unhide H32
                 omega)
               have hq' : (((rowAt m j).length : Int) == at0 s j) = true := by rw [hq]; simp
               have HC6 := c6
               have c2' := c2
               obtain ⟨L, hL'⟩ : ∃ L, (rowAt m j).length = L := ⟨_, rfl⟩
               obtain ⟨X, hX⟩ : ∃ X, at0 s j = X := ⟨_, rfl⟩
               rw [hL'] at c2' hL9 hq' hlen
               rw [hX] at c1 hq'
               have HL' := hide hL'
               have hBs := hBr.size
               clear hq hc1 hc2 c3 c4 c5 hL' hX hkl hks hX6 c2
               go_wp2
               go_quiet (fail)
               go_wp2_with (at_builtin; refine wpList_app _ rfl _ _ rfl w.heap.size u16 (m.take j).flatten (rowAt m j) A C rfl (show Has (wr.drewN nq) w.heap.size u16 _ from h1) (congrArg (fun n => Value.slice A n C) (unhide HL').symm) (show Row (wr.drewN nq) A _ from HC6) (by rw [unhide HL']; exact unhide hlen) hBs ?_; intro s1 w2 k1 g1 at1)
               go_roundw
               case rel => exact ⟨j + 1, by omega, by go_num, hide (Or.inl ⟨rfl, by rw [unhide HFL]; exact k1, unhide HA2⟩), (hBr.trans ((Below.drewN wr nq).mono hBr.size)).grown g1 hBs (fun q e => (h1.lt q e).1)⟩
               case measure => simp [intOf]; omega
             · have HNS : Hid (¬ Shaped m s) := hide (fun h => hq (h.2 j hks))
               have hq' : (((rowAt m j).length : Int) == at0 s j) = false := by rw [beq_eq_false_iff_ne]; exact hq
               obtain ⟨L, hL'⟩ : ∃ L, (rowAt m j).length = L := ⟨_, rfl⟩
               obtain ⟨X, hX⟩ : ∃ X, at0 s j = X := ⟨_, rfl⟩
               rw [hL'] at c2 hL9 hq'
               rw [hX] at c1 hq'
               clear hq hc1 hc2 c3 c4 c5 c6 hL' hX hkl hks hX6 h1
               go_wp2
               go_quiet (fail)
               go_wp2
               go_roundw
               case rel => exact ⟨j + 1, by omega, by go_num, hide (Or.inr ⟨rfl, rfl, unhide HNS⟩), hBr.trans ((Below.drewN wr nq).mono hBr.size)⟩
               case measure => simp [intOf]; omega
           · obtain rfl : j = N := by omega
             have HSH : Hid (Shaped m s) := hide ⟨unhide HLL, fun i hi => unhide HA i (by rw [unhide HN] at hi; exact hi)⟩
             rw [List.take_of_length_le (by rw [unhide HLL, unhide HN]; exact Nat.le_refl _)] at h1
             have hT9 : m.flatten.length ≤ 32 := by rw [(unhide HSH).total]; exact unhide H32
             have cI := fun p q p' q' W h h' => ints_same p q p' q' m.flatten W (by omega) h h'
             obtain ⟨T2, hT2⟩ : ∃ T2, m.flatten.length = T2 := ⟨_, rfl⟩
             have HT3 := hide hT2
             rw [hT2] at cI
             have CI := hide cI
             obtain ⟨p1, q1', rfl, r1⟩ := h1.row
             rw [unhide HT3]
             clear cI hT2 hT9 HA h1
             go_wp2_with fail
             refine (unhide CK wr (hr2.below hBr) (hr0.below hBr) HSH).mono ?_
             rintro e w8 ⟨v8, rfl, k8, hb8⟩
             have hB8 := Below.chain hBr hb8
             obtain ⟨p8, q8, rfl, r8⟩ := k8.row
             rw [unhide HT3]
             have r1' := r1.below hb8
             clear CK CF k8 hb8 hBr r1
             go_wp2_with fail
             refine (error_nilB w8).mono ?_
             rintro e w9 ⟨rfl, hb9⟩
             have hB9 := Below.chain hB8 hb9
             have r1'' := r1'.below hb9
             have r8' := r8.below hb9
             clear r1' r8 hb9 hB8
             go_wp2_with fail
             refine (unhide CI p8 q8 p1 q1' w9 r8' r1'').mono ?_
             rintro e w10 ⟨rfl, hb10⟩
             go_wp2
             go_ret
             exact ⟨rfl, Below.chain hB9 hb10⟩
         · have HNS : Hid (¬ Shaped m s) := hide hns
           clear HFa hns
           rcases Nat.lt_or_ge j N with hlt | hlt
           all_goals (
             go_wp2_with fail
             refine (unhide CF wr (hr2.below hBr) (hr0.below hBr) HNS).mono ?_
             rintro e w8 ⟨rfl, hw8⟩
             have hB8 := Below.chain hBr (same_below hw8)
             clear hw8 CF CK
             go_wp2_with fail
             refine (error_is 3 w8 (hL.below hB8)).mono ?_
             rintro e w9 ⟨rfl, hb9⟩
             have hB9 := Below.chain hB8 hb9
             go_wp2_with fail
             refine (nil_ints w9).mono ?_
             rintro e w10 ⟨rfl, hb10⟩
             go_wp2
             go_ret
             exact ⟨rfl, Below.chain hB9 hb10⟩)))

end Go.Proofs.YtiddiohbnliphaeDoor.BandTellsLaw
