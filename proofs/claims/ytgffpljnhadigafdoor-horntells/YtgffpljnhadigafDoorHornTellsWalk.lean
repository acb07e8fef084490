/-
  The walk of hornlaw2.HornTells.
-/
import Derived.Test.YtgffpljnhadigafDoorHornFaces
import Derived.Test.YtgffpljnhadigafDoorRefRow
import Derived.Test.YtgffpljnhadigafDoorRefUnhorn
import Derived.Test.YtgffpljnhadigafDoorInts
import Derived.Test.YtgffpljnhadigafDoorTold
namespace Go.Proofs.YtgffpljnhadigafDoor.HornTellsLaw
open Go.RowKit
open Go.Proofs.YtgffpljnhadigafDoor.Tre Go.Proofs.YtgffpljnhadigafDoor.Scl Go.Proofs.YtgffpljnhadigafDoor.Hrn Go.Proofs.YtgffpljnhadigafDoor.Same Go.Proofs.YtgffpljnhadigafDoor.Aser
set_option linter.unusedVariables false

theorem same_below {w w' : World} (h : w' = w) : Below w.heap.size w w' := by rw [h]; exact Below.refl _ _
theorem error_nilB (w : World) : Calls Tryd.prog 11 #[.nilIface, .int .i64 0] w fun e w' => e = .returned (.bool true) ∧ Below w.heap.size w w' :=
  (error_nil w).mono fun e w' ⟨he, hw⟩ => ⟨he, same_below hw⟩
theorem nil_ints (w : World) : Calls Tryd.prog 12 #[.slice none 0 0, .slice none 0 0] w fun e w' => e = .returned (.bool true) ∧ Below w.heap.size w w' :=
  ints_same none 0 none 0 [] w (by simp) (Or.inl rfl) (Or.inl rfl)
theorem unh_row {f bs : List Int} {n : Nat} {w w' : World} {e : Ending} (hf : Scl.right f) {l : List Int} (h : Unh f bs n w e w') (hl : IsRow f bs n l) : ∃ v, e = .returned (.tuple #[v, .bool true]) ∧ Has w' w.heap.size v l ∧ Below w.heap.size w w' := by
  obtain ⟨h1 | h1, hb⟩ := h
  · obtain ⟨v, m, he, hm, hh⟩ := h1
    rw [IsRow.one hf hl hm]
    exact ⟨v, he, hh, hb⟩
  · exact absurd hl (h1.2 l)
theorem unh_none {f bs : List Int} {n : Nat} {w w' : World} {e : Ending} (h : Unh f bs n w e w') (hl : ∀ l, ¬ IsRow f bs n l) : e = .returned (.tuple #[.slice none 0 0, .bool false]) ∧ Below w.heap.size w w' := by
  obtain ⟨h1 | h1, hb⟩ := h
  · obtain ⟨v, m, he, hm, hh⟩ := h1
    exact absurd hm (hl m)
  · exact ⟨h1.1, hb⟩

set_option maxRecDepth 100000 in
set_option maxHeartbeats 16000000 in
theorem walk (a0 : Option Addr) (cap0 : Nat) (f : List Int) (a1 : Option Addr) (cap1 : Nat) (l : List Int) (s : ByteArray) (p : Int) (w : World) (hL : Laid w)
    (hr0 : Row w a0 f) (hw0 : ∀ n ∈ f, (Lit.int .i64 n).wf = true) (hz0 : f.length * 8 ≤ 140737488351232) (hq0 : (a0 = none → cap0 = 0) ∧ f.length ≤ cap0 ∧ cap0 ≤ 9223372036854775807)
    (hr1 : Row w a1 l) (hw1 : ∀ n ∈ l, (Lit.int .i64 n).wf = true) (hz1 : l.length * 8 ≤ 140737488351232) (hs : s.size ≤ maxLen) (hwp : (Lit.int .i64 p).wf = true) :
    Calls Tryd.prog 5 #[.slice a0 f.length cap0, .slice a1 l.length cap1, .string s, .int .i64 p] w fun e w' => e = .returned (.bool true) ∧ Below w.heap.size w w' := by
  obtain ⟨q1, q2, q3⟩ := hq0
  have z0 : f.length ≤ 9223372036854775807 := by omega
  have z1 : l.length ≤ 9223372036854775807 := by omega
  have hs9 : s.size ≤ 9223372036854775807 := by unfold maxLen at hs; omega
  have hway : (∃ E, Hid (RowF f l E) ∧ Hid (E ≠ 0) ∧ (E == 0) = false) ∨ Hid (RowF f l 0) := by
    obtain ⟨E, hE, _⟩ := rowF_is f l
    by_cases h : E = 0
    · subst h; exact Or.inr hE
    · exact Or.inl ⟨E, hE, h, by rw [beq_eq_false_iff_ne]; exact h⟩
  have hway2 : Hid (¬ Scl.right f) ∨ (Hid (Scl.right f) ∧ ((p < 0 ∧ Hid (p < 0 ∨ (0 ≤ p ∧ 60 < p))) ∨ (0 ≤ p ∧ 60 < p ∧ Hid (p < 0 ∨ (0 ≤ p ∧ 60 < p))) ∨ (∃ n : Nat, p = n ∧ n ≤ 60 ∧ ((∃ m, Hid (IsRow f (byt s) n m)) ∨ Hid (∀ m, ¬ IsRow f (byt s) n m))))) := by
    by_cases h : Scl.right f
    · refine Or.inr ⟨h, ?_⟩
      by_cases h1 : p < 0
      · exact Or.inl ⟨h1, Or.inl h1⟩
      · by_cases h2 : 60 < p
        · exact Or.inr (Or.inl ⟨by omega, h2, Or.inr ⟨by omega, h2⟩⟩)
        · refine Or.inr (Or.inr ⟨p.toNat, by omega, by omega, ?_⟩)
          by_cases h3 : ∃ m, IsRow f (byt s) p.toNat m
          · exact Or.inl h3
          · exact Or.inr fun m hm => h3 ⟨m, hm⟩
    · exact Or.inl h
  clear hw0 hw1 hwp hz0 hz1 q1 hs
  have CR := hide (fun E W h h' hE => refRow a0 cap0 f a1 cap1 l E W h z0 h' z1 hE)
  have CEN := hide (fun E W h h' hE hne => encode_no a0 cap0 f a1 cap1 l E W h q2 q3 h' z1 hE hne)
  have CMN := hide (fun E W h h' hE hne => most_no a0 cap0 f a1 cap1 l E W h q2 q3 h' z1 hE hne)
  have CEO := hide (fun W h h' hE => encode_ok a0 cap0 f a1 cap1 l W h q2 q3 h' hE)
  have CMO := hide (fun W h h' hE => most_ok a0 cap0 f a1 cap1 l W h q2 q3 h' hE)
  have CH := hide (fun W h h' hf hl h60 => refHorn a0 cap0 f a1 cap1 l W h q2 q3 h' hf hl h60)
  have CN := hide (fun W h h' hf hl h60 => refNeed a0 cap0 f a1 cap1 l W h h' hf hl h60)
  have HU := hide (need_le f l)
  have CS := hide (fun W h => refShares a0 cap0 f W z0 h)
  have CU := hide (fun n W h hf hn => refUnhorn a0 cap0 f s n W h q2 q3 hf hs9 hn)
  have CD1 := hide (fun n W h hf => decode_shape a0 cap0 f s n W h q2 q3 hf)
  have CD2 := hide (fun n W h hf hn => decode_range a0 cap0 f s n W h q2 q3 hf hn)
  have CD3 := hide (fun n W h hf hn => decode_at a0 cap0 f s n W h q2 q3 hf hs9 hn)
  obtain ⟨M, hM⟩ : ∃ M, f.length = M := ⟨_, rfl⟩
  obtain ⟨N, hN⟩ : ∃ N, l.length = N := ⟨_, rfl⟩
  have HN := hide hN
  rw [hM] at CR CEN CMN CEO CMO CH CN CS CU CD1 CD2 CD3 q2 ⊢
  rw [hN] at CR CEN CMN CEO CMO CH CN HU ⊢
  obtain ⟨cs, hcs⟩ : ∃ cs, str (code f l) = cs := ⟨_, rfl⟩
  rw [hcs] at CEO CH
  obtain ⟨U, hU⟩ : ∃ U, need f l = U := ⟨_, rfl⟩
  rw [hU] at CN CMO HU
  obtain ⟨K, hK⟩ : ∃ K, 4 + U / 8 = K := ⟨_, rfl⟩
  rw [hK] at CMO
  have hcc : (cs.toList == cs.toList) = true := by simp
  have hKK : ((K : Int) == (K : Int)) = true := by simp
  clear hM hN hcs hU
  go_enter Tryd.func5, Tryd.ntmps5
  go_wp2_with fail
  rcases hway with ⟨E, HE, HE0, hE0⟩ | HE1
  all_goals (first
    | (refine (unhide CR E w hr0 hr1 HE).mono ?_
       rintro e w1 ⟨rfl, hw1⟩
       obtain rfl : w = w1 := hw1.symm
       clear hw1
       go_wp2_with fail
       refine (unhide CEN E w hr0 hr1 HE HE0).mono ?_
       rintro e w2 ⟨rfl, hB2⟩
       go_wp2_with fail
       refine (error_is E w2 (hL.below hB2)).mono ?_
       rintro e w3 ⟨rfl, hb3⟩
       have hB3 := Below.chain hB2 hb3
       clear hB2 hb3
       go_wp2_with fail
       refine (unhide CMN E w3 (hr0.below hB3) (hr1.below hB3) HE HE0).mono ?_
       rintro e w4 ⟨rfl, hb4⟩
       have hB4 := Below.chain hB3 hb4
       clear hB3 hb4
       go_wp2_with fail
       refine (error_is E w4 (hL.below hB4)).mono ?_
       rintro e wA ⟨rfl, hb5⟩
       have hB := Below.chain hB4 hb5
       clear hB4 hb5 HE)
    | (have HZ := hide (unhide HE1).zero
       have h60 : N ≤ 60 := by rw [← unhide HN]; exact (unhide HZ).2.1
       have hU9 := unhide HU
       obtain ⟨V, hV⟩ : ∃ V, U / 8 = V := ⟨_, rfl⟩
       have tV : Int.tdiv (U : Int) 8 = (V : Int) := by rw [Int.tdiv_eq_ediv_of_nonneg (by omega), ← hV]; omega
       have wK : IntKind.i64.wrap (4 + (V : Int)) = (K : Int) := by rw [← hK, ← hV]; exact (IntWalk.i64_in _ (by omega)).trans (by omega)
       have hV9 : V ≤ 60 := by omega
       refine (unhide CR 0 w hr0 hr1 HE1).mono ?_
       rintro e w1 ⟨rfl, hw1⟩
       obtain rfl : w = w1 := hw1.symm
       clear hw1 hV
       go_wp2_with fail
       refine (unhide CH w hr0 hr1 (unhide HZ).1 (unhide HZ).2.2 h60).mono ?_
       rintro e w2 ⟨rfl, hB2⟩
       go_wp2_with fail
       refine (unhide CN w2 (hr0.below hB2) (hr1.below hB2) (unhide HZ).1 (unhide HZ).2.2 h60).mono ?_
       rintro e w3 ⟨rfl, hw3⟩
       obtain rfl : w2 = w3 := hw3.symm
       clear hw3
       go_wp2_with fail
       refine (unhide CEO w2 (hr0.below hB2) (hr1.below hB2) HE1).mono ?_
       rintro e w4 ⟨rfl, hb4⟩
       have hB4 := Below.chain hB2 hb4
       clear hB2 hb4
       go_wp2_with fail
       refine (error_nilB w4).mono ?_
       rintro e w5 ⟨rfl, hb5⟩
       have hB5 := Below.chain hB4 hb5
       clear hB4 hb5
       go_wp2_with fail
       refine (unhide CMO w5 (hr0.below hB5) (hr1.below hB5) HE1).mono ?_
       rintro e w6 ⟨rfl, hb6⟩
       have hB6 := Below.chain hB5 hb6
       clear hB5 hb6
       go_wp2_with fail
       refine (error_nilB w6).mono ?_
       rintro e wA ⟨rfl, hb7⟩
       have hB := Below.chain hB6 hb7
       clear hB6 hb7))
  all_goals (
    clear CR CEN CMN CEO CMO CH CN
    go_wp2_with fail
    refine (unhide CS wA (hr0.below hB)).mono ?_
    rintro e w8 ⟨t, rfl, HT, hw8⟩
    obtain rfl : wA = w8 := hw8.symm
    clear hw8
    rcases hway2 with HR0 | ⟨HR1, ⟨hp, HP⟩ | ⟨hp, hp', HP⟩ | ⟨n, rfl, hn, ⟨m, HI⟩ | HI⟩⟩)
  all_goals (first
    | (obtain rfl : t = false := by
         cases t
         · rfl
         · exact absurd ((unhide HT).1 rfl) (unhide HR0)
       go_wp2_with fail
       refine (unhide CD1 p wA (hr0.below hB) HR0).mono ?_
       rintro e w9 ⟨rfl, hb9⟩
       have hB9 := Below.chain hB hb9
       go_wp2_with fail
       refine (error_is 3 w9 (hL.below hB9)).mono ?_
       rintro e w10 ⟨rfl, hb10⟩
       have hB10 := Below.chain hB9 hb10
       go_wp2_with fail
       refine (nil_ints w10).mono ?_
       rintro e w11 ⟨rfl, hb11⟩
       go_wp2
       go_ret
       exact ⟨rfl, Below.chain hB10 hb11⟩)
    | (have CD := unhide CD2 p wA (hr0.below hB) HR1 (unhide HP)
       obtain rfl : t = true := (unhide HT).2 (unhide HR1)
       first
         | have d1 : decide (p < 0) = true := by simp; omega
         | (have d1 : decide (p < 0) = false := by simp; omega
            have d2 : decide (60 < p) = true := by simp; omega)
       go_wp2_with fail
       refine CD.mono ?_
       rintro e w9 ⟨rfl, hb9⟩
       have hB9 := Below.chain hB hb9
       go_wp2_with fail
       refine (error_is 1 w9 (hL.below hB9)).mono ?_
       rintro e w10 ⟨rfl, hb10⟩
       have hB10 := Below.chain hB9 hb10
       go_wp2_with fail
       refine (nil_ints w10).mono ?_
       rintro e w11 ⟨rfl, hb11⟩
       go_wp2
       go_ret
       exact ⟨rfl, Below.chain hB10 hb11⟩)
    | (have hI1 := (unhide HI).1
       have HRR : Hid (Scl.right f) := HR1
       have CI := fun p q p' q' W h h' => ints_same p q p' q' m W (by rw [hI1]; omega) h h'
       rw [hI1] at CI
       have HI1 := hide hI1
       obtain rfl : t = true := (unhide HT).2 (unhide HR1)
       have d1 : decide ((n : Int) < 0) = false := by simp
       have d2 : decide ((60 : Int) < (n : Int)) = false := by simp; omega
       have CUU := hide ((unhide CU n wA (hr0.below hB) HR1 hn).mono fun e w' h => unh_row (unhide HRR) h (unhide HI))
       have CDD := hide (fun W h => (unhide CD3 n W h HR1 hn).mono fun e w' h => Tld.row (unhide HRR) h (unhide HI))
       clear hI1
       go_wp2_with fail
       refine (unhide CUU).mono ?_
       rintro e w9 ⟨v9, rfl, k9, hb9⟩
       have hB9 := Below.chain hB hb9
       obtain ⟨p9, q9, rfl, r9⟩ := k9.row
       rw [unhide HI1]
       clear k9
       go_wp2_with fail
       refine (unhide CDD w9 (hr0.below hB9)).mono ?_
       rintro e w10 ⟨v10, rfl, k10, hb10⟩
       have hB10 := Below.chain hB9 hb10
       have r9' := r9.below hb10
       obtain ⟨p10, q10, rfl, r10⟩ := k10.row
       rw [unhide HI1]
       clear k10 r9
       go_wp2_with fail
       refine (error_nilB w10).mono ?_
       rintro e w11 ⟨rfl, hb11⟩
       have hB11 := Below.chain hB10 hb11
       have r9 := r9'.below hb11
       have r10' := r10.below hb11
       clear r9' r10
       go_wp2_with fail
       refine (CI p10 q10 p9 q9 w11 r10' r9).mono ?_
       rintro e w12 ⟨rfl, hb12⟩
       go_wp2
       go_ret
       exact ⟨rfl, Below.chain hB11 hb12⟩)
    | (have HRR : Hid (Scl.right f) := HR1
       obtain rfl : t = true := (unhide HT).2 (unhide HR1)
       have d1 : decide ((n : Int) < 0) = false := by simp
       have d2 : decide ((60 : Int) < (n : Int)) = false := by simp; omega
       have CUU := hide ((unhide CU n wA (hr0.below hB) HR1 hn).mono fun e w' h => unh_none h (unhide HI))
       have CDD := hide (fun W h => (unhide CD3 n W h HR1 hn).mono fun e w' h => Tld.none h (unhide HI))
       go_wp2_with fail
       refine (unhide CUU).mono ?_
       rintro e w9 ⟨rfl, hb9⟩
       have hB9 := Below.chain hB hb9
       go_wp2_with fail
       refine (unhide CDD w9 (hr0.below hB9)).mono ?_
       rintro e w10 ⟨rfl, hb10⟩
       have hB10 := Below.chain hB9 hb10
       go_wp2_with fail
       refine (error_is 2 w10 (hL.below hB10)).mono ?_
       rintro e w11 ⟨rfl, hb11⟩
       have hB11 := Below.chain hB10 hb11
       go_wp2_with fail
       refine (nil_ints w11).mono ?_
       rintro e w12 ⟨rfl, hb12⟩
       go_wp2
       go_ret
       exact ⟨rfl, Below.chain hB11 hb12⟩))

end Go.Proofs.YtgffpljnhadigafDoor.HornTellsLaw
