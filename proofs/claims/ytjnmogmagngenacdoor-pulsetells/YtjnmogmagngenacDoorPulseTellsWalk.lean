/-
  The walk of hornlaw1.PulseTells.
-/
import Derived.Test.YtjnmogmagngenacDoorPulseTwo
import Derived.Test.YtjnmogmagngenacDoorPulseRow
import Derived.Test.YtjnmogmagngenacDoorRefRank
import Derived.Test.YtjnmogmagngenacDoorInts
import Derived.Test.YtjnmogmagngenacDoorTold
namespace Go.Proofs.YtjnmogmagngenacDoor.PulseTellsLaw
open Go.RowKit
open Go.Proofs.YtjnmogmagngenacDoor.Tre Go.Proofs.YtjnmogmagngenacDoor.Cnt Go.Proofs.YtjnmogmagngenacDoor.Pls Go.Proofs.YtjnmogmagngenacDoor.Same Go.Proofs.YtjnmogmagngenacDoor.Aser
set_option linter.unusedVariables false

theorem ints_nil (w : World) : Calls Tryd.prog 13 #[.slice none 0 0, .slice none 0 0] w fun e w' => e = .returned (.bool true) ∧ Below w.heap.size w w' :=
  ints_same none 0 none 0 [] w (by simp) (Or.inl rfl) (Or.inl rfl)

/-- Of a row: a fault, or none. -/
def Ways1 (l : List Int) : Prop := (∃ E : Int, Hid (fault l = E) ∧ Hid (fault l ≠ 0) ∧ (E == 0) = false) ∨ (Hid (fault l = 0) ∧ ∃ (K : Nat) (R : Int), Hid (loud l = K) ∧ Hid (rk l K = R) ∧ l.length ≤ 6 ∧ K ≤ 8 ∧ ((K : Int) == (K : Int)) = true ∧ (R == R) = true)
theorem ways1 (l : List Int) : Ways1 l := by
  by_cases h : fault l = 0
  · obtain ⟨h1, h2, h3⟩ := fault_ok h
    exact Or.inr ⟨h, _, _, rfl, rfl, h1, h3, by simp, by simp⟩
  · exact Or.inl ⟨_, rfl, h, by simpa using h⟩

/-- Of three numbers: none of that many numbers or pulses, no such rank, or a row. -/
def Ways3 (n k r : Int) : Prop :=
  (n < 0 ∧ (Hid (wide n 6 = true) ∨ (Hid (wide n 6 = false) ∧ Hid (wide k 8 = true)))) ∨ (0 ≤ n ∧ 6 < n ∧ (Hid (wide n 6 = true) ∨ (Hid (wide n 6 = false) ∧ Hid (wide k 8 = true)))) ∨
  (0 ≤ n ∧ n ≤ 6 ∧ k < 0 ∧ (Hid (wide n 6 = true) ∨ (Hid (wide n 6 = false) ∧ Hid (wide k 8 = true)))) ∨ (0 ≤ n ∧ n ≤ 6 ∧ 0 ≤ k ∧ 8 < k ∧ (Hid (wide n 6 = true) ∨ (Hid (wide n 6 = false) ∧ Hid (wide k 8 = true)))) ∨
  ∃ N K : Nat, n = N ∧ k = K ∧ N ≤ 6 ∧ K ≤ 8 ∧ (r < 0 ∨ (∃ C, Hid (V K N = C) ∧ 0 ≤ r ∧ C ≤ r) ∨ (∃ C, Hid (V K N = C) ∧ 0 ≤ r ∧ r < C))
theorem ways3 (n k r : Int) : Ways3 n k r := by
  unfold Ways3
  by_cases h1 : n < 0
  · exact Or.inl ⟨h1, Or.inl (by show wide n 6 = true; simp [wide]; omega)⟩
  · by_cases h2 : 6 < n
    · exact Or.inr (Or.inl ⟨by omega, h2, Or.inl (by show wide n 6 = true; simp [wide]; omega)⟩)
    · have hn : Hid (wide n 6 = false) := wide_no (by omega) (by omega)
      by_cases h3 : k < 0
      · exact Or.inr (Or.inr (Or.inl ⟨by omega, by omega, h3, Or.inr ⟨hn, by show wide k 8 = true; simp [wide]; omega⟩⟩))
      · by_cases h4 : 8 < k
        · exact Or.inr (Or.inr (Or.inr (Or.inl ⟨by omega, by omega, by omega, h4, Or.inr ⟨hn, by show wide k 8 = true; simp [wide]; omega⟩⟩)))
        · refine Or.inr (Or.inr (Or.inr (Or.inr ⟨n.toNat, k.toNat, by omega, by omega, by omega, by omega, ?_⟩)))
          by_cases h5 : r < 0
          · exact Or.inl h5
          · by_cases h6 : r < V k.toNat n.toNat
            · exact Or.inr (Or.inr ⟨_, rfl, by omega, h6⟩)
            · exact Or.inr (Or.inl ⟨_, rfl, by omega, by omega⟩)

set_option maxRecDepth 100000 in
set_option maxHeartbeats 16000000 in
theorem walk (a0 : Option Addr) (cap0 : Nat) (l0 : List Int) (n k r : Int) (w : World) (hL : Laid w) (hr0 : Row w a0 l0) (hw0 : ∀ n ∈ l0, (Lit.int .i64 n).wf = true) (hz0 : l0.length * 8 ≤ 140737488351232)
    (hq0 : (a0 = none → cap0 = 0) ∧ l0.length ≤ cap0 ∧ cap0 ≤ 9223372036854775807) (hwn : (Lit.int .i64 n).wf = true) (hwk : (Lit.int .i64 k).wf = true) (hwr : (Lit.int .i64 r).wf = true) :
    Calls Tryd.prog 5 #[.slice a0 l0.length cap0, .int .i64 n, .int .i64 k, .int .i64 r] w fun e w' => e = .returned (.bool true) ∧ Below w.heap.size w w' := by
  obtain ⟨-, m2, m3⟩ := hq0
  have h3 := ways3 n k r
  have hl0 : l0.length ≤ 9223372036854775807 := by omega
  clear hw0 hz0 hwn hwk hwr
  rcases ways1 l0 with ⟨E, HE, HF, hE0⟩ | ⟨HF, K0, R0, HK, HR, f6, f8, hKK, hRR⟩
  all_goals
    go_enter Tryd.func5, Tryd.ntmps5
    go_wp2_with fail
  all_goals (first
    | (have c1 := refPulses_no a0 cap0 l0 w hl0 hr0 HF
       have c2 := check_no a0 cap0 l0 w hl0 hr0 HF
       have c3 := fun W hr => rank_no a0 cap0 l0 W hl0 hr HF
       rw [unhide HE] at c1 c2 c3
       refine c1.mono ?_
       have C2 := hide c2
       have C3 := hide c3
       clear c1 c2 c3
       rintro e w' ⟨rfl, rfl⟩
       go_wp2_with fail
       refine (unhide C2).mono ?_
       rintro e w1 ⟨rfl, hb1⟩
       have hr1 := hr0.below hb1
       clear C2
       go_wp2_with fail
       refine (error_is E w1 (hL.below hb1)).mono ?_
       rintro e w2 ⟨rfl, hb2⟩
       have hB2 := Below.chain hb1 hb2
       have hr2 := hr1.below hb2
       clear hb1 hb2 hr1
       go_wp2_with fail
       refine (unhide C3 w2 hr2).mono ?_
       rintro e w3 ⟨rfl, hb3⟩
       have hB3 := Below.chain hB2 hb3
       clear hB2 hb3 hr2 C3
       go_wp2_with fail
       refine (error_is E w3 (hL.below hB3)).mono ?_
       rintro e W ⟨rfl, hb4⟩
       have hB := Below.chain hB3 hb4
       clear hB3 hb4 HE HF hE0)
    | (have c1 := refPulses_ok a0 cap0 l0 w hr0 HF
       have c2 := check_ok a0 cap0 l0 w hr0 HF
       have c3 := fun W hr => rank_ok a0 cap0 l0 W hr HF
       have c4 := fun W hr => refRank l0 a0 cap0 W f6 (by rw [unhide HK]; exact f8) m2 m3 hr
       rw [unhide HK] at c1 c2 c3 c4
       rw [unhide HR] at c3 c4
       refine c1.mono ?_
       have C2 := hide c2
       have C3 := hide c3
       have C4 := hide c4
       clear c1 c2 c3 c4
       rintro e w' ⟨rfl, rfl⟩
       go_wp2_with fail
       refine (unhide C2).mono ?_
       rintro e w1 ⟨rfl, hb1⟩
       have hr1 := hr0.below hb1
       clear C2
       go_wp2_with fail
       refine (error_nil w1).mono ?_
       rintro e w2 ⟨rfl, rfl⟩
       go_wp2_with fail
       refine (unhide C4 _ hr1).mono ?_
       rintro e w3 ⟨rfl, hb3⟩
       have hB3 := Below.chain hb1 hb3
       have hr3 := hr1.below hb3
       clear hb1 hb3 hr1 C4
       go_wp2_with fail
       refine (unhide C3 w3 hr3).mono ?_
       rintro e W ⟨rfl, hb4⟩
       have hB := Below.chain hB3 hb4
       clear hB3 hb4 hr3 C3
       go_wp2_with fail
       refine (error_nil W).mono ?_
       rintro e w5 ⟨rfl, rfl⟩
       clear HK HR HF))
  all_goals
    clear hr0 m2 m3 hl0
    rcases h3 with ⟨n0, HN⟩ | ⟨n0, n1, HN⟩ | ⟨n0, n1, k0, HN⟩ | ⟨n0, n1, k0, k1, HN⟩ | ⟨N, K, rfl, rfl, hN, hK, r0 | ⟨C, HC, r0, r1⟩ | ⟨C, HC, r0, r1⟩⟩
  all_goals (first
    | (have hh := HN
       clear hh
       go_wp2_with fail
       refine (row_no n k r _ HN).mono ?_
       rintro e w6 ⟨rfl, hb6⟩
       have hB6 := Below.chain hB hb6
       go_wp2_with fail
       refine (error_is 1 w6 (hL.below hB6)).mono ?_
       rintro e w7 ⟨rfl, hb7⟩
       have hB7 := Below.chain hB6 hb7
       go_wp2_with fail
       refine (ints_nil w7).mono ?_
       rintro e w8 ⟨rfl, hb8⟩
       go_wp2
       go_ret
       exact ⟨rfl, Below.chain hB7 hb8⟩)
    | (have hh := r1
       have c6 := fun W => refCount N K hN hK W
       have c7 : (∀ W, Calls Tryd.prog 19 #[.int .i64 N, .int .i64 K, .int .i64 r] W fun e w' => e = .returned (.tuple #[.slice none 0 0, .iface 46 (.int .i64 1)]) ∧ Below W.heap.size W w') := row_out N K r hN hK (Or.inr ⟨r0, hide (by rw [unhide HC]; exact r1)⟩)
       rw [unhide HC] at c6
       have C6 := hide c6
       have C7 := hide c7
       clear c6 c7 hh
       go_wp2_with fail
       refine (unhide C6 _).mono ?_
       rintro e w5 ⟨rfl, hb5⟩
       have hB5 := Below.chain hB hb5
       go_wp2_with fail
       refine (unhide C7 w5).mono ?_
       rintro e w6 ⟨rfl, hb6⟩
       have hB6 := Below.chain hB5 hb6
       go_wp2_with fail
       refine (error_is 1 w6 (hL.below hB6)).mono ?_
       rintro e w7 ⟨rfl, hb7⟩
       have hB7 := Below.chain hB6 hb7
       go_wp2_with fail
       refine (ints_nil w7).mono ?_
       rintro e w8 ⟨rfl, hb8⟩
       go_wp2
       go_ret
       exact ⟨rfl, Below.chain hB7 hb8⟩)
    | (have hh := r1
       have HV : Hid (r < V K N) := hide (by rw [unhide HC]; exact r1)
       have c6 := fun W => refCount N K hN hK W
       rw [unhide HC] at c6
       have C6 := hide c6
       clear c6 hh
       go_wp2_with fail
       refine (unhide C6 _).mono ?_
       rintro e w5 ⟨rfl, hb5⟩
       have hB5 := Below.chain hB hb5
       go_wp2_with fail
       refine (refRow N K r w5 hN hK r0 HV).mono ?_
       rintro e w6 ⟨v6, l6, rfl, h6, H6, hb6⟩
       have hB6 := Below.chain hB5 hb6
       clear hB5 hb5 hb6 hB
       go_wp2_with fail
       refine (row_ok N K r hN hK r0 HV w6).mono ?_
       rintro e w7 ⟨v7, l7, rfl, h7, H7, hb7⟩
       have hB7 := Below.chain hB6 hb7
       have e7 : l7 = l6 := Is.one hN hK (unhide H6) (unhide H7)
       subst e7
       have h6' := h6.below hb7
       obtain ⟨p6, q6, rfl, r6⟩ := h6'.row
       obtain ⟨p7, q7, rfl, r7⟩ := h7.row
       have hl7 : l7.length ≤ 9223372036854775807 := by rw [(unhide H7).1]; omega
       clear hB6 hb7 h6 h7 h6' H6 H7 HV HC
       go_wp2_with fail
       refine (error_nil w7).mono ?_
       rintro e w8 ⟨rfl, rfl⟩
       go_wp2_with fail
       refine (ints_same p7 q7 p6 q6 l7 _ hl7 r7 r6).mono ?_
       rintro e w9 ⟨rfl, hb9⟩
       go_wp2
       go_ret
       exact ⟨rfl, Below.chain hB7 hb9⟩)
    | (have hh := r0
       have c7 : (∀ W, Calls Tryd.prog 19 #[.int .i64 N, .int .i64 K, .int .i64 r] W fun e w' => e = .returned (.tuple #[.slice none 0 0, .iface 46 (.int .i64 1)]) ∧ Below W.heap.size W w') := row_out N K r hN hK (Or.inl r0)
       have C7 := hide c7
       clear c7 hh
       go_wp2_with fail
       refine (unhide C7 _).mono ?_
       rintro e w6 ⟨rfl, hb6⟩
       have hB6 := Below.chain hB hb6
       go_wp2_with fail
       refine (error_is 1 w6 (hL.below hB6)).mono ?_
       rintro e w7 ⟨rfl, hb7⟩
       have hB7 := Below.chain hB6 hb7
       go_wp2_with fail
       refine (ints_nil w7).mono ?_
       rintro e w8 ⟨rfl, hb8⟩
       go_wp2
       go_ret
       exact ⟨rfl, Below.chain hB7 hb8⟩))

end Go.Proofs.YtjnmogmagngenacDoor.PulseTellsLaw
