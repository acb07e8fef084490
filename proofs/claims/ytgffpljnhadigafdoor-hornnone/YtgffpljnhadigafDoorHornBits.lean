/-
  horn.bitsOf, Bits: by their contracts.
-/
import Derived.Test.YtgffpljnhadigafDoorHornCheck
namespace Go.Proofs.YtgffpljnhadigafDoor.Hrn
open Go.RowKit
open Go.Proofs.YtgffpljnhadigafDoor.Tre Go.Proofs.YtgffpljnhadigafDoor.Scl
set_option linter.unusedVariables false

theorem nb_go {F : Int} {k : Nat} (h1 : 1 ≤ F) (h2 : F ≤ 256) (hk : k ≤ nb F) : (F * 2 ^ k < 256 ↔ k < nb F) := by
  have key : ∀ n : Nat, n < 257 → 1 ≤ n → ∀ k : Nat, k < 9 → k ≤ nb (n : Int) → ((n : Int) * 2 ^ k < 256 ↔ k < nb (n : Int)) := by decide +kernel
  obtain ⟨n, rfl⟩ : ∃ n : Nat, F = n := ⟨F.toNat, by omega⟩
  exact key n (by omega) (by omega) k (by have := nb_le (n : Int); omega) hk

set_option maxHeartbeats 4000000 in
theorem bitsOf (F : Int) (w : World) (h1 : 1 ≤ F) (h2 : F ≤ 256) :
    Calls Tryd.prog 43 #[.int .i64 F] w fun e w' => e = .returned (.int .i64 (nb F)) ∧ w' = w := by
  have HB := hide (fun k hk => nb_go (F := F) (k := k) h1 h2 hk)
  have h8 := nb_le F
  obtain ⟨n, hn⟩ : ∃ n, nb F = n := ⟨_, rfl⟩
  rw [hn] at HB h8 ⊢
  clear hn
  go_enter Tryd.func43, Tryd.ntmps43
  go_wp2
  go_loopw [3] (fun b wr => ∃ k : Nat, k ≤ n ∧ b = .int .i64 k ∧ w = wr) (fun b _ => n - (intOf b).toNat)
  case atStart => exact ⟨0, Nat.zero_le _, rfl, rfl⟩
  case round =>
    obtain ⟨k, hk, rfl, rfl⟩ := hrel
    have h3 := unhide HB k hk
    have hk8 : k ≤ 8 := by omega
    have hP : F * 2 ^ k ≤ 65536 ∧ 0 ≤ F * 2 ^ k := by
      have p1 : (2 : Int) ^ k ≤ 256 := by
        have key : ∀ k : Nat, k < 9 → (2 : Int) ^ k ≤ 256 := by decide
        exact key k (by omega)
      have p0 : (0 : Int) < 2 ^ k := pow_pos' (by omega) k
      have q1 := Int.mul_le_mul_of_nonneg_left p1 (show 0 ≤ F by omega)
      exact ⟨by omega, Int.mul_nonneg (by omega) (by omega)⟩
    obtain ⟨P, hPP⟩ : ∃ P, F * 2 ^ k = P := ⟨_, rfl⟩
    rw [hPP] at h3 hP
    obtain ⟨p9, p0⟩ := hP
    by_cases hlt : k < n
    · have hd : decide (P < 256) = true := by simpa using h3.2 hlt
      clear h3
      go_wp2
      go_roundw
      case rel => exact ⟨k + 1, by omega, by go_num, by first | trivial | rfl⟩
      case measure => simp [intOf]; omega
    · have hd : decide (P < 256) = false := by simp; have := mt h3.1 hlt; omega
      obtain rfl : k = n := by omega
      clear h3
      go_wp2
      go_ret
      exact ⟨rfl, rfl⟩

theorem bits_no (a : Option Addr) (cap : Nat) (f : List Int) (b : Option Addr) (capb : Nat) (l : List Int) (E : Int) (w : World) (hrf : Row w a f) (hm : f.length ≤ cap) (hm9 : cap ≤ 9223372036854775807) (hrl : Row w b l) (zl : l.length ≤ 9223372036854775807) (hE : Hid (RowF f l E)) (hne : Hid (E ≠ 0)) :
    Calls Tryd.prog 32 #[.slice a f.length cap, .slice b l.length capb] w fun e w' => e = .returned (.tuple #[.int .i64 0, .iface 48 (.int .i64 E)]) ∧ Below w.heap.size w w' := by
  have hck := check_no a cap f b capb l E w hrf (by omega) hrl zl hE hne
  obtain ⟨N, hN⟩ : ∃ N, l.length = N := ⟨_, rfl⟩
  obtain ⟨M, hM⟩ : ∃ M, f.length = M := ⟨_, rfl⟩
  rw [hN, hM] at hck ⊢
  clear hN hM hE hne hm hm9 zl
  go_enter Tryd.func32, Tryd.ntmps32
  go_wp2_with fail
  refine hck.mono ?_
  rintro e w1 ⟨rfl, hb1⟩
  go_wp2
  go_ret2
  exact ⟨rfl, hb1⟩

theorem need_step {f l : List Int} {k : Nat} (h : k < l.length) : need f (l.drop k) = nb (at0 f (at0 l k).toNat) + need f (l.drop (k + 1)) := by rw [drop_cons h, need]

set_option maxRecDepth 100000 in
set_option maxHeartbeats 4000000 in
theorem bits_ok (a : Option Addr) (cap : Nat) (f : List Int) (b : Option Addr) (capb : Nat) (l : List Int) (w : World) (hrf : Row w a f) (hm : f.length ≤ cap) (hm9 : cap ≤ 9223372036854775807) (hrl : Row w b l) (hE : Hid (RowF f l 0)) :
    Calls Tryd.prog 32 #[.slice a f.length cap, .slice b l.length capb] w fun e w' => e = .returned (.tuple #[.int .i64 (need f l), .nilIface]) ∧ Below w.heap.size w w' := by
  have hck := check_ok a cap f b capb l w hrf hrl hE
  obtain ⟨hf0, h60, hl0⟩ := (unhide hE).zero
  have hf := hide hf0
  have hl := hide hl0
  have HU : Hid (need f l ≤ 8 * l.length) := hide (need_le f l)
  have HS0 : Hid (0 + need f (l.drop 0) = need f l) := hide (by rw [List.drop_zero]; omega)
  obtain ⟨U, hU⟩ : ∃ U, need f l = U := ⟨_, rfl⟩
  rw [hU] at HU HS0 ⊢
  obtain ⟨ss, hss⟩ : ∃ ss, upto (pfx f) f.length = ss := ⟨_, rfl⟩
  rw [hss] at hck
  obtain ⟨N, hN⟩ : ∃ N, l.length = N := ⟨_, rfl⟩
  have HN := hide hN
  obtain ⟨M, hM⟩ : ∃ M, f.length = M := ⟨_, rfl⟩
  have HM := hide hM
  rw [hM] at hck hm ⊢
  rw [hN] at hck h60 HU ⊢
  have hU9 := unhide HU
  clear hN hM hU HU hss hf0 hl0 hE
  go_enter Tryd.func32, Tryd.ntmps32
  go_wp2_with fail
  refine hck.mono ?_
  clear hck
  rintro e w1 ⟨v, rfl, k1, hb1⟩
  have hrf1 := hrf.below hb1
  have hrl1 := hrl.below hb1
  obtain ⟨p3, n3, q3, rfl⟩ := k1.shape
  clear hrf hrl k1
  go_wp2
  go_loopw [8, 22] (fun n i wr => ∃ j n' : Nat, j ≤ N ∧ i = .int .i64 j ∧ n = .int .i64 n' ∧ Hid (n' + need f (l.drop j) = U) ∧ w1 = wr) (fun _ i _ => N - (intOf i).toNat)
  case atStart => exact ⟨0, 0, Nat.zero_le _, rfl, rfl, HS0, rfl⟩
  case round =>
    obtain ⟨j, n, hj, rfl, rfl, HS, rfl⟩ := hrel
    clear HS0
    by_cases hlt : j < N
    · have hlt' : j < l.length := by rw [unhide HN]; exact hlt
      obtain ⟨b1, off1, rfl, _, hc1⟩ := cell_at hrl1 (by omega)
      have c1 := hc1 j hlt'
      have HS2 : Hid (n + (nb (at0 f (at0 l j).toNat) + need f (l.drop (j + 1))) = U) := hide (by rw [← need_step hlt']; exact unhide HS)
      have hsg : Sgn f (at0 l j) := unhide hl _ (by
        have e : at0 l j = l[j] := by simp [at0, hlt']
        rw [e]; exact List.getElem_mem hlt')
      obtain ⟨S, hS⟩ : ∃ S : Nat, at0 l j = S := ⟨(at0 l j).toNat, by have := hsg.1; omega⟩
      rw [hS] at hsg c1 HS2
      obtain ⟨g0, g1, g2⟩ := hsg
      rw [Int.toNat_natCast] at g2 HS2
      have hSf : S < f.length := by omega
      have hSM : S < M := by rw [← unhide HM]; exact hSf
      obtain ⟨s1, s2, s3, s4⟩ := share_in (unhide hf) hSf g2
      obtain ⟨b0, off0, rfl, _, hc⟩ := cell_at hrf1 (by omega)
      have c2 := hc S hSf
      obtain ⟨F, hF⟩ : ∃ F, at0 f S = F := ⟨_, rfl⟩
      rw [hF] at c2 HS2 s1 s2
      have hbo := bitsOf F w1 s1 s2
      obtain ⟨B, hB⟩ : ∃ B, nb F = B := ⟨_, rfl⟩
      rw [hB] at hbo HS2
      have HS3 : Hid ((n + B) + need f (l.drop (j + 1)) = U) := hide (by have := unhide HS2; omega)
      have hnB : n + B ≤ U := by have := unhide HS3; omega
      obtain ⟨n1, hn1⟩ : ∃ n1, n + B = n1 := ⟨_, rfl⟩
      rw [hn1] at HS3
      have wn : IntKind.i64.wrap ((n : Int) + (B : Int)) = (n1 : Int) := by
        have e : (n : Int) + (B : Int) = (n1 : Int) := by rw [← hn1]; rfl
        rw [e]; exact IntWalk.i64_in _ (by omega)
      clear hF hc hc1 hS hlt' g0 g1 g2 s3 s4 hSf hB HS2 HS hn1
      go_wp2_with fail
      refine hbo.mono ?_
      clear hbo
      rintro e w2 ⟨rfl, hw2⟩
      obtain rfl : w1 = w2 := hw2.symm
      clear hw2
      go_wp2
      go_roundw
      case rel => exact ⟨j + 1, n1, by omega, by go_num, by first | rfl | go_num, HS3, by first | trivial | rfl⟩
      case measure => simp [intOf]; omega
    · obtain rfl : j = N := by omega
      obtain rfl : n = U := by
        have h := unhide HS
        rw [← unhide HN, List.drop_length] at h
        exact h
      clear HS
      go_wp2
      go_ret2
      exact ⟨rfl, hb1⟩

end Go.Proofs.YtgffpljnhadigafDoor.Hrn
