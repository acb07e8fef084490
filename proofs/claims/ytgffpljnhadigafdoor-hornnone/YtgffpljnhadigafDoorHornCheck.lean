/-
  horn.check, bitsOf, Most: by their contracts.
-/
import Derived.Test.YtgffpljnhadigafDoorRowF
import Derived.Test.YtgffpljnhadigafDoorScaleFind
namespace Go.Proofs.YtgffpljnhadigafDoor.Hrn
open Go.RowKit
open Go.Proofs.YtgffpljnhadigafDoor.Tre Go.Proofs.YtgffpljnhadigafDoor.Scl
set_option linter.unusedVariables false

/-- What check tells of shares that are right. -/
def CkPost (f l : List Int) (w : World) (e : Ending) (w' : World) : Prop :=
  ((sf f l = 0 ∧ ∃ v, e = .returned (.tuple #[v, .nilIface]) ∧ Has w' w.heap.size v (upto (pfx f) f.length)) ∨
    (sf f l ≠ 0 ∧ e = .returned (.tuple #[.slice none 0 0, .iface 48 (.int .i64 (sf f l))]))) ∧ Below w.heap.size w w'

set_option maxRecDepth 100000 in
set_option maxHeartbeats 4000000 in
theorem check_signs (a : Option Addr) (cap : Nat) (f : List Int) (b : Option Addr) (capb : Nat) (l : List Int) (w : World) (hrf : Row w a f) (hrl : Row w b l) (hf : Hid (right f)) (h60 : l.length ≤ 60) :
    Calls Tryd.prog 29 #[.slice a f.length cap, .slice b l.length capb] w fun e w' => CkPost f l w e w' := by
  have h40 := (unhide hf).2.1
  have hck := starts_ok a cap f w hrf hf
  have HS0 : Hid (sf f (l.drop 0) = sf f l) := hide (by rw [List.drop_zero])
  have HP1 : Hid (∀ e w', sf f l ≠ 0 → e = Ending.returned (.tuple #[.slice none 0 0, .iface 48 (.int .i64 (sf f l))]) → Below w.heap.size w w' → CkPost f l w e w') := hide (fun e w' h1 h2 h3 => ⟨Or.inr ⟨h1, h2⟩, h3⟩)
  have HP0 : Hid (∀ e w' v, sf f l = 0 → e = Ending.returned (.tuple #[v, .nilIface]) → Has w' w.heap.size v (upto (pfx f) f.length) → Below w.heap.size w w' → CkPost f l w e w') := hide (fun e w' v h1 h2 h3 h4 => ⟨Or.inl ⟨h1, v, h2, h3⟩, h4⟩)
  obtain ⟨E, hE⟩ : ∃ E, sf f l = E := ⟨_, rfl⟩
  rw [hE] at HS0 HP1 HP0
  obtain ⟨ss, hss⟩ : ∃ ss, upto (pfx f) f.length = ss := ⟨_, rfl⟩
  rw [hss] at hck HP0
  obtain ⟨N, hN⟩ : ∃ N, l.length = N := ⟨_, rfl⟩
  have HN := hide hN
  obtain ⟨M, hM⟩ : ∃ M, f.length = M := ⟨_, rfl⟩
  have HM := hide hM
  rw [hM] at hck h40 ⊢
  rw [hN] at h60 ⊢
  clear hN hM hE hss hf
  go_enter Tryd.func29, Tryd.ntmps29
  go_wp2_with fail
  refine hck.mono ?_
  clear hck
  rintro e w1 ⟨v, rfl, k1, hb1⟩
  have hrf1 := hrf.below hb1
  have hrl1 := hrl.below hb1
  obtain ⟨p3, n3, q3, rfl⟩ := k1.shape
  clear hrf hrl
  go_wp2
  go_loopw [24] (fun i wr => ∃ j : Nat, j ≤ N ∧ i = .int .i64 j ∧ Hid (sf f (l.drop j) = E) ∧ w1 = wr) (fun i _ => N - (intOf i).toNat)
  case atStart => exact ⟨0, Nat.zero_le _, rfl, HS0, rfl⟩
  case round =>
    obtain ⟨j, hj, rfl, HS, rfl⟩ := hrel
    clear HS0
    by_cases hlt : j < N
    · have hlt' : j < l.length := by rw [unhide HN]; exact hlt
      obtain ⟨b1, off1, rfl, _, hc1⟩ := cell_at hrl1 (by omega)
      have c1 := hc1 j hlt'
      have HS2 : Hid ((if at0 l j < 0 ∨ (f.length : Int) ≤ at0 l j then 1 else if at0 f (at0 l j).toNat = 0 then 5 else sf f (l.drop (j + 1))) = E) := hide (by rw [← unhide HS, drop_cons hlt', sf])
      rw [unhide HM] at HS2
      have HRF : Hid (∀ S : Nat, S < M → ∃ b off, a = some ⟨b, off, none⟩ ∧ w1.cell? ⟨b, off + S, none⟩ = some (.int .i64 (at0 f S))) := hide (fun S hS => by
        obtain ⟨b, off, e, _, hc⟩ := cell_at hrf1 (by rw [unhide HM]; omega)
        exact ⟨b, off, e, hc S (by rw [unhide HM]; exact hS)⟩)
      obtain ⟨X, hX⟩ : ∃ X, at0 l j = X := ⟨_, rfl⟩
      rw [hX] at c1 HS2
      clear hX hc1 hlt'
      by_cases hx1 : X < 0
      · have d1 : decide (X < 0) = true := by simpa using hx1
        obtain rfl : E = 1 := by rw [← unhide HS2, if_pos (Or.inl hx1)]
        clear HS2 HS
        go_wp2
        go_ret2
        exact unhide HP1 _ _ (by omega) rfl hb1
      · have d1 : decide (X < 0) = false := by simpa using hx1
        obtain ⟨S, rfl⟩ : ∃ S : Nat, X = S := ⟨X.toNat, by omega⟩
        by_cases hx2 : M ≤ S
        · have d2 : decide ((M : Int) ≤ (S : Int)) = true := by simp; omega
          have d2' : decide (M ≤ S) = true := by simpa using hx2
          obtain rfl : E = 1 := by rw [← unhide HS2, if_pos (Or.inr (by omega))]
          clear HS2 HS
          go_wp2
          go_ret2
          exact unhide HP1 _ _ (by omega) rfl hb1
        · have d2 : decide ((M : Int) ≤ (S : Int)) = false := by simp; omega
          have d2' : decide (M ≤ S) = false := by simpa using hx2
          have hSM : S < M := by omega
          rw [if_neg (by omega), Int.toNat_natCast] at HS2
          obtain ⟨b0, off0, rfl, c2⟩ := unhide HRF S hSM
          obtain ⟨F, hF⟩ : ∃ F, at0 f S = F := ⟨_, rfl⟩
          rw [hF] at c2 HS2
          clear hF HRF
          by_cases hF0 : F = 0
          · have d3 : (F == 0) = true := by rw [hF0]; rfl
            obtain rfl : E = 5 := by rw [← unhide HS2, if_pos hF0]
            clear HS2 HS hF0
            go_wp2
            go_ret2
            exact unhide HP1 _ _ (by omega) rfl hb1
          · have d3 : (F == 0) = false := by rw [beq_eq_false_iff_ne]; exact hF0
            have HS3 : Hid (sf f (l.drop (j + 1)) = E) := hide (by rw [← unhide HS2, if_neg hF0])
            clear HS2 HS hF0
            go_wp2
            go_roundw
            case rel => exact ⟨j + 1, by omega, by go_num, HS3, by first | trivial | rfl⟩
            case measure => simp [intOf]; omega
    · obtain rfl : j = N := by omega
      obtain rfl : E = 0 := by rw [← unhide HS, ← unhide HN, List.drop_length]; rfl
      clear HS
      go_wp2
      go_ret2
      exact unhide HP0 _ _ _ (by first | trivial | rfl) rfl k1 hb1

set_option maxRecDepth 100000 in
set_option maxHeartbeats 4000000 in
theorem check_no (a : Option Addr) (cap : Nat) (f : List Int) (b : Option Addr) (capb : Nat) (l : List Int) (E : Int) (w : World) (hrf : Row w a f) (zf : f.length ≤ 9223372036854775807) (hrl : Row w b l) (zl : l.length ≤ 9223372036854775807) (hE : Hid (RowF f l E)) (hne : Hid (E ≠ 0)) :
    Calls Tryd.prog 29 #[.slice a f.length cap, .slice b l.length capb] w fun e w' => e = .returned (.tuple #[.slice none 0 0, .iface 48 (.int .i64 E)]) ∧ Below w.heap.size w w' := by
  rcases unhide hE with ⟨h1, rfl⟩ | ⟨h1, h2, rfl⟩ | ⟨h1, h2, h3⟩
  · have hsh := starts_no a cap f w zf hrf (hide h1)
    obtain ⟨N, hN⟩ : ∃ N, l.length = N := ⟨_, rfl⟩
    obtain ⟨M, hM⟩ : ∃ M, f.length = M := ⟨_, rfl⟩
    rw [hM] at hsh ⊢
    rw [hN]
    clear hN hM h1 hE zf zl
    go_enter Tryd.func29, Tryd.ntmps29
    go_wp2_with fail
    refine hsh.mono ?_
    rintro e w1 ⟨rfl, hb1⟩
    go_wp2
    go_ret2
    exact ⟨rfl, hb1⟩
  · have hsh := starts_ok a cap f w hrf (hide h1)
    obtain ⟨ss, hss⟩ : ∃ ss, upto (pfx f) f.length = ss := ⟨_, rfl⟩
    rw [hss] at hsh
    obtain ⟨N, hN⟩ : ∃ N, l.length = N := ⟨_, rfl⟩
    obtain ⟨M, hM⟩ : ∃ M, f.length = M := ⟨_, rfl⟩
    rw [hM] at hsh ⊢
    rw [hN] at h2 zl ⊢
    clear hN hM h1 hE zf hss
    go_enter Tryd.func29, Tryd.ntmps29
    go_wp2_with fail
    refine hsh.mono ?_
    rintro e w1 ⟨v, rfl, k1, hb1⟩
    obtain ⟨p3, n3, q3, rfl⟩ := k1.shape
    go_wp2
    go_ret2
    exact ⟨rfl, hb1⟩
  · refine (check_signs a cap f b capb l w hrf hrl (hide h1) h2).mono ?_
    rintro e w' ⟨⟨h4, _⟩ | ⟨_, h4⟩, hb⟩
    · exact absurd (h3.trans h4) (unhide hne)
    · rw [h3]; exact ⟨h4, hb⟩

theorem check_ok (a : Option Addr) (cap : Nat) (f : List Int) (b : Option Addr) (capb : Nat) (l : List Int) (w : World) (hrf : Row w a f) (hrl : Row w b l) (hE : Hid (RowF f l 0)) :
    Calls Tryd.prog 29 #[.slice a f.length cap, .slice b l.length capb] w fun e w' => ∃ v, e = .returned (.tuple #[v, .nilIface]) ∧ Has w' w.heap.size v (upto (pfx f) f.length) ∧ Below w.heap.size w w' := by
  obtain ⟨h1, h2, h3⟩ := (unhide hE).zero
  refine (check_signs a cap f b capb l w hrf hrl (hide h1) h2).mono ?_
  rintro e w' ⟨⟨_, v, h4, h5⟩ | ⟨h4, _⟩, hb⟩
  · exact ⟨v, h4, h5, hb⟩
  · exact absurd ((sf_signs h1 l).2 h3) h4

end Go.Proofs.YtgffpljnhadigafDoor.Hrn
