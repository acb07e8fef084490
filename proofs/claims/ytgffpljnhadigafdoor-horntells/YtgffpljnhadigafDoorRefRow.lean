/-
  hornref2.Row and Need: by their contracts.
-/
import Derived.Test.YtgffpljnhadigafDoorRowF
import Derived.Test.YtgffpljnhadigafDoorRefShares
import Derived.Deep.QuietTactic
import Derived.BigQuiet
namespace Go.Proofs.YtgffpljnhadigafDoor.Hrn
open Go.RowKit
open Go.Proofs.YtgffpljnhadigafDoor.Tre Go.Proofs.YtgffpljnhadigafDoor.Scl
set_option linter.unusedVariables false

set_option maxRecDepth 100000 in
set_option maxHeartbeats 4000000 in
theorem refRow (a : Option Addr) (cap : Nat) (f : List Int) (b : Option Addr) (capb : Nat) (l : List Int) (E : Int) (w : World) (hrf : Row w a f) (zf : f.length ≤ 9223372036854775807) (hrl : Row w b l) (zl : l.length ≤ 9223372036854775807) (hE : Hid (RowF f l E)) :
    Calls Tryd.prog 18 #[.slice a f.length cap, .slice b l.length capb] w fun e w' => e = .returned (.int .i64 E) ∧ w' = w := by
  have hsh := refShares a cap f w zf hrf
  rcases unhide hE with ⟨h1, rfl⟩ | ⟨h1, h2, rfl⟩ | ⟨h1, h2, h3⟩
  · have H1 : Hid (¬ right f) := hide h1
    obtain ⟨N, hN⟩ : ∃ N, l.length = N := ⟨_, rfl⟩
    obtain ⟨M, hM⟩ : ∃ M, f.length = M := ⟨_, rfl⟩
    rw [hM] at hsh ⊢
    rw [hN]
    clear hN hM h1 hE zf zl
    go_enter Tryd.func18, Tryd.ntmps18
    go_wp2_with fail
    refine hsh.mono ?_
    rintro e w1 ⟨t, rfl, HT, hw1⟩
    obtain rfl : w = w1 := hw1.symm
    obtain rfl : t = false := by
      cases t
      · rfl
      · exact absurd ((unhide HT).1 rfl) (unhide H1)
    go_wp2
    go_ret
    exact ⟨rfl, rfl⟩
  · have H1 : Hid (right f) := hide h1
    obtain ⟨N, hN⟩ : ∃ N, l.length = N := ⟨_, rfl⟩
    obtain ⟨M, hM⟩ : ∃ M, f.length = M := ⟨_, rfl⟩
    rw [hM] at hsh ⊢
    rw [hN] at h2 zl ⊢
    clear hN hM h1 hE zf
    go_enter Tryd.func18, Tryd.ntmps18
    go_wp2_with fail
    refine hsh.mono ?_
    rintro e w1 ⟨t, rfl, HT, hw1⟩
    obtain rfl : w = w1 := hw1.symm
    obtain rfl : t = true := (unhide HT).2 (unhide H1)
    go_wp2
    go_ret
    exact ⟨rfl, rfl⟩
  · have H1 : Hid (right f) := hide h1
    have h40 := h1.2.1
    have HS0 : Hid (sf f (l.drop 0) = E) := hide (by rw [List.drop_zero]; exact h3.symm)
    obtain ⟨N, hN⟩ : ∃ N, l.length = N := ⟨_, rfl⟩
    have HN := hide hN
    obtain ⟨M, hM⟩ : ∃ M, f.length = M := ⟨_, rfl⟩
    have HM := hide hM
    rw [hM] at hsh h40 ⊢
    rw [hN] at h2 zl ⊢
    clear hN hM h1 hE zf h3
    go_enter Tryd.func18, Tryd.ntmps18
    go_wp2_with fail
    refine hsh.mono ?_
    clear hsh
    rintro e w1 ⟨t, rfl, HT, hw1⟩
    obtain rfl : w = w1 := hw1.symm
    clear hw1
    obtain rfl : t = true := (unhide HT).2 (unhide H1)
    clear HT
    go_wp2
    go_loopw [6] (fun i wr => ∃ j : Nat, j ≤ N ∧ i = .int .i64 j ∧ Hid (sf f (l.drop j) = E) ∧ w = wr) (fun i _ => N - (intOf i).toNat)
    case atStart => exact ⟨0, Nat.zero_le _, rfl, HS0, rfl⟩
    case round =>
      obtain ⟨j, hj, rfl, HS, rfl⟩ := hrel
      by_cases hlt : j < N
      · have hlt' : j < l.length := by rw [unhide HN]; exact hlt
        obtain ⟨b1, off1, rfl, _, hc1⟩ := cell_at hrl (by omega)
        have c1 := hc1 j hlt'
        have HS2 : Hid ((if at0 l j < 0 ∨ (f.length : Int) ≤ at0 l j then 1 else if at0 f (at0 l j).toNat = 0 then 5 else sf f (l.drop (j + 1))) = E) := hide (by rw [← unhide HS, drop_cons hlt', sf])
        rw [unhide HM] at HS2
        have HRF : Hid (∀ S : Nat, S < M → ∃ b off, a = some ⟨b, off, none⟩ ∧ w.cell? ⟨b, off + S, none⟩ = some (.int .i64 (at0 f S))) := hide (fun S hS => by
          obtain ⟨b, off, e, _, hc⟩ := cell_at hrf (by rw [unhide HM]; omega)
          exact ⟨b, off, e, hc S (by rw [unhide HM]; exact hS)⟩)
        obtain ⟨X, hX⟩ : ∃ X, at0 l j = X := ⟨_, rfl⟩
        rw [hX] at c1 HS2
        clear hX hc1 hlt'
        by_cases hx1 : X < 0
        · have d1 : decide (X < 0) = true := by simpa using hx1
          obtain rfl : E = 1 := by rw [← unhide HS2, if_pos (Or.inl hx1)]
          clear HS2 HS0 HS
          go_wp2
          go_ret
          exact ⟨rfl, rfl⟩
        · have d1 : decide (X < 0) = false := by simpa using hx1
          obtain ⟨S, rfl⟩ : ∃ S : Nat, X = S := ⟨X.toNat, by omega⟩
          by_cases hx2 : M ≤ S
          · have d2 : decide ((M : Int) ≤ (S : Int)) = true := by simp; omega
            have d2' : decide (M ≤ S) = true := by simpa using hx2
            obtain rfl : E = 1 := by rw [← unhide HS2, if_pos (Or.inr (by omega))]
            clear HS2 HS0 HS
            go_wp2
            go_ret
            exact ⟨rfl, rfl⟩
          · have d2 : decide ((M : Int) ≤ (S : Int)) = false := by simp; omega
            have d2' : decide (M ≤ S) = false := by simpa using hx2
            have hSM : S < M := by omega
            rw [if_neg (by omega), Int.toNat_natCast] at HS2
            obtain ⟨b0, off0, rfl, c2⟩ := unhide HRF S hSM
            obtain ⟨F, hF⟩ : ∃ F, at0 f S = F := ⟨_, rfl⟩
            rw [hF] at c2 HS2
            clear hF HRF
            by_cases hF0 : F = 0
            · have d3 : (F == 0) = true := by rw [hF0]; rfl
              obtain rfl : E = 5 := by rw [← unhide HS2, if_pos hF0]
              clear HS2 HS0 HS hF0
              go_wp2
              go_ret
              exact ⟨rfl, rfl⟩
            · have d3 : (F == 0) = false := by rw [beq_eq_false_iff_ne]; exact hF0
              have HS3 : Hid (sf f (l.drop (j + 1)) = E) := hide (by rw [← unhide HS2, if_neg hF0])
              clear HS2 HS0 HS hF0
              go_wp2
              go_roundw
              case rel => exact ⟨j + 1, by omega, by go_num, HS3, by first | trivial | rfl⟩
              case measure => simp [intOf]; omega
      · obtain rfl : j = N := by omega
        obtain rfl : E = 0 := by rw [← unhide HS, ← unhide HN, List.drop_length]; rfl
        clear HS HS0
        go_wp2
        go_ret
        exact ⟨rfl, rfl⟩

/-- How many times a share is doubled. -/
theorem nb_two {F : Int} (h1 : 1 ≤ F) (h : F < 256) : nb F = nb (2 * F) + 1 := by
  have key : ∀ n : Nat, n < 256 → 1 ≤ n → nb (n : Int) = nb (2 * (n : Int)) + 1 := by decide +kernel
  obtain ⟨n, rfl⟩ : ∃ n : Nat, F = n := ⟨F.toNat, by omega⟩
  exact key n (by omega) (by omega)
theorem nb_zero {F : Int} (h : 256 ≤ F) : nb F = 0 := by unfold nb; rw [if_pos h]
theorem need_at {f l : List Int} {k : Nat} (h : k < l.length) : need f (l.drop k) = nb (at0 f (at0 l k).toNat) + need f (l.drop (k + 1)) := by rw [drop_cons h, need]

set_option maxRecDepth 100000 in
set_option maxHeartbeats 4000000 in
theorem refNeed (a : Option Addr) (cap : Nat) (f : List Int) (b : Option Addr) (capb : Nat) (l : List Int) (w : World) (hrf : Row w a f) (hrl : Row w b l) (hf : Hid (right f)) (hl : Hid (Signs f l)) (h60 : l.length ≤ 60) :
    Calls Tryd.prog 20 #[.slice a f.length cap, .slice b l.length capb] w fun e w' => e = .returned (.int .i64 (need f l)) ∧ w' = w := by
  have h40 := (unhide hf).2.1
  have HU : Hid (need f l ≤ 8 * l.length) := hide (need_le f l)
  have HS0 : Hid (0 + need f (l.drop 0) = need f l) := hide (by rw [List.drop_zero]; omega)
  obtain ⟨U, hU⟩ : ∃ U, need f l = U := ⟨_, rfl⟩
  rw [hU] at HU HS0 ⊢
  obtain ⟨N, hN⟩ : ∃ N, l.length = N := ⟨_, rfl⟩
  have HN := hide hN
  obtain ⟨M, hM⟩ : ∃ M, f.length = M := ⟨_, rfl⟩
  have HM := hide hM
  rw [hM] at h40 ⊢
  rw [hN] at h60 HU ⊢
  have hU9 := unhide HU
  clear hN hM hU HU
  go_enter Tryd.func20, Tryd.ntmps20
  go_wp2
  go_loopw [5, 6] (fun n i wr => ∃ j n' : Nat, j ≤ N ∧ i = .int .i64 j ∧ n = .int .i64 n' ∧ Hid (n' + need f (l.drop j) = U) ∧ w = wr) (fun _ i _ => N - (intOf i).toNat)
  case atStart => exact ⟨0, 0, Nat.zero_le _, rfl, rfl, HS0, rfl⟩
  case round =>
    obtain ⟨j, n, hj, rfl, rfl, HS, rfl⟩ := hrel
    clear HS0
    by_cases hlt : j < N
    · have hlt' : j < l.length := by rw [unhide HN]; exact hlt
      obtain ⟨b1, off1, rfl, _, hc1⟩ := cell_at hrl (by omega)
      have c1 := hc1 j hlt'
      have HS2 : Hid (n + (nb (at0 f (at0 l j).toNat) + need f (l.drop (j + 1))) = U) := hide (by rw [← need_at hlt']; exact unhide HS)
      have hsg : Sgn f (at0 l j) := unhide hl _ (by
        have e : at0 l j = l[j] := by simp [at0, hlt']
        rw [e]; exact List.getElem_mem hlt')
      obtain ⟨S, hS⟩ : ∃ S : Nat, at0 l j = S := ⟨(at0 l j).toNat, by have := hsg.1; omega⟩
      rw [hS] at hsg c1 HS2
      obtain ⟨g0, g1, g2⟩ := hsg
      rw [Int.toNat_natCast] at g2 HS2
      have hSf : S < f.length := by omega
      have hSM : S < M := by rw [← unhide HM]; exact hSf
      obtain ⟨s1, s2, s3, s4⟩ := share_in (unhide hf) hSf g2
      obtain ⟨b0, off0, rfl, _, hc⟩ := cell_at hrf (by omega)
      have c2 := hc S hSf
      obtain ⟨F, hF⟩ : ∃ F, at0 f S = F := ⟨_, rfl⟩
      rw [hF] at c2 HS2 s1 s2
      obtain ⟨V, hV⟩ : ∃ V, need f (l.drop (j + 1)) = V := ⟨_, rfl⟩
      have HV := hide hV
      rw [hV] at HS2
      clear hF hc hc1 hS hlt' g0 g1 g2 hV s3 s4 hSf
      go_wp2
      go_loopw [5, 7] (fun n s wr => ∃ (n' : Nat) (G : Int), n = .int .i64 n' ∧ s = .int .i64 G ∧ 1 ≤ G ∧ G ≤ 512 ∧ Hid (n' + (nb G + V) = U) ∧ w = wr) (fun _ s _ => (512 - intOf s).toNat)
      case atStart => exact ⟨n, F, rfl, rfl, s1, by omega, HS2, rfl⟩
      case round =>
        obtain ⟨n', G, rfl, rfl, g1, g9, HG, rfl⟩ := hrel
        by_cases hlt : G < 256
        · have HG2 : Hid ((n' + 1) + (nb (2 * G) + V) = U) := hide (by rw [← unhide HG, nb_two g1 hlt]; omega)
          have hn : n' + 1 ≤ U := by have := unhide HG2; omega
          obtain ⟨n1, hn1⟩ : ∃ n1, n' + 1 = n1 := ⟨_, rfl⟩
          rw [hn1] at HG2
          have wn : IntKind.i64.wrap ((n' : Int) + 1) = (n1 : Int) := by rw [← hn1]; exact IntWalk.i64_in _ (by omega)
          clear hn1
          go_wp2
          go_roundw
          case rel => exact ⟨n1, 2 * G, rfl, by first | rfl | go_num, by omega, by omega, HG2, by first | trivial | rfl⟩
          case measure => simp [intOf]; omega
        · have HG2 : Hid (n' + need f (l.drop (j + 1)) = U) := hide (by rw [unhide HV, ← unhide HG, nb_zero (by omega)]; omega)
          go_wp2
          go_roundw
          case rel => exact ⟨j + 1, n', by omega, by go_num, rfl, HG2, by first | trivial | rfl⟩
          case measure => simp [intOf]; omega
    · obtain rfl : j = N := by omega
      obtain rfl : n = U := by rw [← unhide HS, ← unhide HN, List.drop_length]; rfl
      go_wp2
      go_ret
      exact ⟨rfl, rfl⟩

end Go.Proofs.YtgffpljnhadigafDoor.Hrn
