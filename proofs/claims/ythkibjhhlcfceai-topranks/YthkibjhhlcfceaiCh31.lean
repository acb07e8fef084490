/-
  horn.check, bitsOf, Most: by their contracts.
-/
import Derived.Test.YthkibjhhlcfceaiCh28
import Derived.Test.YthkibjhhlcfceaiCh30
import Derived.Test.YthkibjhhlcfceaiCh29
namespace Go.Proofs.Ythkibjhhlcfceai.Hrn
open Go.RowKit
open Go.Proofs.Ythkibjhhlcfceai.Tre Go.Proofs.Ythkibjhhlcfceai.Scl
set_option linter.unusedVariables false

/-- What check tells of shares that are right. -/
def CkPost (f l : List Int) (w : World) (e : Ending) (w' : World) : Prop :=
  ((sf f l = 0 ∧ ∃ v, e = .returned (.tuple #[v, .nilIface]) ∧ Has w' w.heap.size v (upto (pfx f) f.length)) ∨
    (sf f l ≠ 0 ∧ e = .returned (.tuple #[.slice none 0 0, .iface 52 (.int .i64 (sf f l))]))) ∧ Below w.heap.size w w'

set_option maxRecDepth 100000 in
set_option maxHeartbeats 4000000 in
theorem check_signs (a : Option Addr) (cap : Nat) (f : List Int) (b : Option Addr) (capb : Nat) (l : List Int) (w : World) (hrf : Row w a f) (hrl : Row w b l) (hf : Hid (right f)) (h60 : l.length ≤ 60) :
    Calls Try.prog 25 #[.slice a f.length cap, .slice b l.length capb] w fun e w' => CkPost f l w e w' := by
  have h40 := (unhide hf).2.1
  have hck := starts_ok a cap f w hrf hf
  have HS0 : Hid (sf f (l.drop 0) = sf f l) := hide (by rw [List.drop_zero])
  have HP1 : Hid (∀ e w', sf f l ≠ 0 → e = Ending.returned (.tuple #[.slice none 0 0, .iface 52 (.int .i64 (sf f l))]) → Below w.heap.size w w' → CkPost f l w e w') := hide (fun e w' h1 h2 h3 => ⟨Or.inr ⟨h1, h2⟩, h3⟩)
  have HP0 : Hid (∀ e w' v, sf f l = 0 → e = Ending.returned (.tuple #[v, .nilIface]) → Has w' w.heap.size v (upto (pfx f) f.length) → Below w.heap.size w w' → CkPost f l w e w') := hide (fun e w' v h1 h2 h3 h4 => ⟨Or.inl ⟨h1, v, h2, h3⟩, h4⟩)
  obtain ⟨E, hE⟩ : ∃ E, sf f l = E := ⟨_, rfl⟩
  rw [hE] at HS0 HP1 HP0
  obtain ⟨ss, hss⟩ : ∃ ss, upto (pfx f) f.length = ss := ⟨_, rfl⟩
  rw [hss] at hck HP0
  obtain ⟨N, hN⟩ : ∃ N, l.length = N := ⟨_, rfl⟩
  have HN := hide hN
  obtain ⟨M, hM⟩ : ∃ M, f.length = M := ⟨_, rfl⟩
  have HM := hide hM
  rw [hM] at hck h40 ⊢
  rw [hN] at h60 ⊢
  clear hN hM hE hss hf
  go_enter Try.func25, Try.ntmps25
  go_wp2_with fail
  refine hck.mono ?_
  clear hck
  rintro e w1 ⟨v, rfl, k1, hb1⟩
  have hrf1 := hrf.below hb1
  have hrl1 := hrl.below hb1
  obtain ⟨p3, n3, q3, rfl⟩ := k1.shape
  clear hrf hrl
  go_wp2
  go_loopw [24] (fun i wr => ∃ j : Nat, j ≤ N ∧ i = .int .i64 j ∧ Hid (sf f (l.drop j) = E) ∧ w1 = wr) (fun i _ => N - (intOf i).toNat)
  case atStart => exact ⟨0, Nat.zero_le _, rfl, HS0, rfl⟩
  case round =>
    obtain ⟨j, hj, rfl, HS, rfl⟩ := hrel
    clear HS0
    by_cases hlt : j < N
    · have hlt' : j < l.length := by rw [unhide HN]; exact hlt
      obtain ⟨b1, off1, rfl, _, hc1⟩ := cell_at hrl1 (by omega)
      have c1 := hc1 j hlt'
      have HS2 : Hid ((if at0 l j < 0 ∨ (f.length : Int) ≤ at0 l j then 1 else if at0 f (at0 l j).toNat = 0 then 5 else sf f (l.drop (j + 1))) = E) := hide (by rw [← unhide HS, drop_cons hlt', sf])
      rw [unhide HM] at HS2
      have HRF : Hid (∀ S : Nat, S < M → ∃ b off, a = some ⟨b, off, none⟩ ∧ w1.cell? ⟨b, off + S, none⟩ = some (.int .i64 (at0 f S))) := hide (fun S hS => by
        obtain ⟨b, off, e, _, hc⟩ := cell_at hrf1 (by rw [unhide HM]; omega)
        exact ⟨b, off, e, hc S (by rw [unhide HM]; exact hS)⟩)
      obtain ⟨X, hX⟩ : ∃ X, at0 l j = X := ⟨_, rfl⟩
      rw [hX] at c1 HS2
      clear hX hc1 hlt'
      by_cases hx1 : X < 0
      · have d1 : decide (X < 0) = true := by simpa using hx1
        obtain rfl : E = 1 := by rw [← unhide HS2, if_pos (Or.inl hx1)]
        clear HS2 HS
        go_wp2
        go_ret2
        exact unhide HP1 _ _ (by omega) rfl hb1
      · have d1 : decide (X < 0) = false := by simpa using hx1
        obtain ⟨S, rfl⟩ : ∃ S : Nat, X = S := ⟨X.toNat, by omega⟩
        by_cases hx2 : M ≤ S
        · have d2 : decide ((M : Int) ≤ (S : Int)) = true := by simp; omega
          have d2' : decide (M ≤ S) = true := by simpa using hx2
          obtain rfl : E = 1 := by rw [← unhide HS2, if_pos (Or.inr (by omega))]
          clear HS2 HS
          go_wp2
          go_ret2
          exact unhide HP1 _ _ (by omega) rfl hb1
        · have d2 : decide ((M : Int) ≤ (S : Int)) = false := by simp; omega
          have d2' : decide (M ≤ S) = false := by simpa using hx2
          have hSM : S < M := by omega
          rw [if_neg (by omega), Int.toNat_natCast] at HS2
          obtain ⟨b0, off0, rfl, c2⟩ := unhide HRF S hSM
          obtain ⟨F, hF⟩ : ∃ F, at0 f S = F := ⟨_, rfl⟩
          rw [hF] at c2 HS2
          clear hF HRF
          by_cases hF0 : F = 0
          · have d3 : (F == 0) = true := by rw [hF0]; rfl
            obtain rfl : E = 5 := by rw [← unhide HS2, if_pos hF0]
            clear HS2 HS hF0
            go_wp2
            go_ret2
            exact unhide HP1 _ _ (by omega) rfl hb1
          · have d3 : (F == 0) = false := by rw [beq_eq_false_iff_ne]; exact hF0
            have HS3 : Hid (sf f (l.drop (j + 1)) = E) := hide (by rw [← unhide HS2, if_neg hF0])
            clear HS2 HS hF0
            go_wp2
            go_roundw
            case rel => exact ⟨j + 1, by omega, by go_num, HS3, by first | trivial | rfl⟩
            case measure => simp [intOf]; omega
    · obtain rfl : j = N := by omega
      obtain rfl : E = 0 := by rw [← unhide HS, ← unhide HN, List.drop_length]; rfl
      clear HS
      go_wp2
      go_ret2
      exact unhide HP0 _ _ _ (by first | trivial | rfl) rfl k1 hb1

set_option maxRecDepth 100000 in
set_option maxHeartbeats 4000000 in
theorem check_no (a : Option Addr) (cap : Nat) (f : List Int) (b : Option Addr) (capb : Nat) (l : List Int) (E : Int) (w : World) (hrf : Row w a f) (zf : f.length ≤ 9223372036854775807) (hrl : Row w b l) (zl : l.length ≤ 9223372036854775807) (hE : Hid (RowF f l E)) (hne : Hid (E ≠ 0)) :
    Calls Try.prog 25 #[.slice a f.length cap, .slice b l.length capb] w fun e w' => e = .returned (.tuple #[.slice none 0 0, .iface 52 (.int .i64 E)]) ∧ Below w.heap.size w w' := by
  rcases unhide hE with ⟨h1, rfl⟩ | ⟨h1, h2, rfl⟩ | ⟨h1, h2, h3⟩
  · have hsh := starts_no a cap f w zf hrf (hide h1)
    obtain ⟨N, hN⟩ : ∃ N, l.length = N := ⟨_, rfl⟩
    obtain ⟨M, hM⟩ : ∃ M, f.length = M := ⟨_, rfl⟩
    rw [hM] at hsh ⊢
    rw [hN]
    clear hN hM h1 hE zf zl
    go_enter Try.func25, Try.ntmps25
    go_wp2_with fail
    refine hsh.mono ?_
    rintro e w1 ⟨rfl, hb1⟩
    go_wp2
    go_ret2
    exact ⟨rfl, hb1⟩
  · have hsh := starts_ok a cap f w hrf (hide h1)
    obtain ⟨ss, hss⟩ : ∃ ss, upto (pfx f) f.length = ss := ⟨_, rfl⟩
    rw [hss] at hsh
    obtain ⟨N, hN⟩ : ∃ N, l.length = N := ⟨_, rfl⟩
    obtain ⟨M, hM⟩ : ∃ M, f.length = M := ⟨_, rfl⟩
    rw [hM] at hsh ⊢
    rw [hN] at h2 zl ⊢
    clear hN hM h1 hE zf hss
    go_enter Try.func25, Try.ntmps25
    go_wp2_with fail
    refine hsh.mono ?_
    rintro e w1 ⟨v, rfl, k1, hb1⟩
    obtain ⟨p3, n3, q3, rfl⟩ := k1.shape
    go_wp2
    go_ret2
    exact ⟨rfl, hb1⟩
  · refine (check_signs a cap f b capb l w hrf hrl (hide h1) h2).mono ?_
    rintro e w' ⟨⟨h4, _⟩ | ⟨_, h4⟩, hb⟩
    · exact absurd (h3.trans h4) (unhide hne)
    · rw [h3]; exact ⟨h4, hb⟩

theorem check_ok (a : Option Addr) (cap : Nat) (f : List Int) (b : Option Addr) (capb : Nat) (l : List Int) (w : World) (hrf : Row w a f) (hrl : Row w b l) (hE : Hid (RowF f l 0)) :
    Calls Try.prog 25 #[.slice a f.length cap, .slice b l.length capb] w fun e w' => ∃ v, e = .returned (.tuple #[v, .nilIface]) ∧ Has w' w.heap.size v (upto (pfx f) f.length) ∧ Below w.heap.size w w' := by
  obtain ⟨h1, h2, h3⟩ := (unhide hE).zero
  refine (check_signs a cap f b capb l w hrf hrl (hide h1) h2).mono ?_
  rintro e w' ⟨⟨_, v, h4, h5⟩ | ⟨h4, _⟩, hb⟩
  · exact ⟨v, h4, h5, hb⟩
  · exact absurd ((sf_signs h1 l).2 h3) h4

end Go.Proofs.Ythkibjhhlcfceai.Hrn

/-
  horn.bitsOf, Bits: by their contracts.
-/
namespace Go.Proofs.Ythkibjhhlcfceai.Hrn
open Go.RowKit
open Go.Proofs.Ythkibjhhlcfceai.Tre Go.Proofs.Ythkibjhhlcfceai.Scl
set_option linter.unusedVariables false

theorem nb_go {F : Int} {k : Nat} (h1 : 1 ≤ F) (h2 : F ≤ 256) (hk : k ≤ nb F) : (F * 2 ^ k < 256 ↔ k < nb F) := by
  have key : ∀ n : Nat, n < 257 → 1 ≤ n → ∀ k : Nat, k < 9 → k ≤ nb (n : Int) → ((n : Int) * 2 ^ k < 256 ↔ k < nb (n : Int)) := by decide +kernel
  obtain ⟨n, rfl⟩ : ∃ n : Nat, F = n := ⟨F.toNat, by omega⟩
  exact key n (by omega) (by omega) k (by have := nb_le (n : Int); omega) hk

set_option maxHeartbeats 4000000 in
theorem bitsOf (F : Int) (w : World) (h1 : 1 ≤ F) (h2 : F ≤ 256) :
    Calls Try.prog 60 #[.int .i64 F] w fun e w' => e = .returned (.int .i64 (nb F)) ∧ w' = w := by
  have HB := hide (fun k hk => nb_go (F := F) (k := k) h1 h2 hk)
  have h8 := nb_le F
  obtain ⟨n, hn⟩ : ∃ n, nb F = n := ⟨_, rfl⟩
  rw [hn] at HB h8 ⊢
  clear hn
  go_enter Try.func60, Try.ntmps60
  go_wp2
  go_loopw [3] (fun b wr => ∃ k : Nat, k ≤ n ∧ b = .int .i64 k ∧ w = wr) (fun b _ => n - (intOf b).toNat)
  case atStart => exact ⟨0, Nat.zero_le _, rfl, rfl⟩
  case round =>
    obtain ⟨k, hk, rfl, rfl⟩ := hrel
    have h3 := unhide HB k hk
    have hk8 : k ≤ 8 := by omega
    have hP : F * 2 ^ k ≤ 65536 ∧ 0 ≤ F * 2 ^ k := by
      have p1 : (2 : Int) ^ k ≤ 256 := by
        have key : ∀ k : Nat, k < 9 → (2 : Int) ^ k ≤ 256 := by decide
        exact key k (by omega)
      have p0 : (0 : Int) < 2 ^ k := pow_pos' (by omega) k
      have q1 := Int.mul_le_mul_of_nonneg_left p1 (show 0 ≤ F by omega)
      exact ⟨by omega, Int.mul_nonneg (by omega) (by omega)⟩
    obtain ⟨P, hPP⟩ : ∃ P, F * 2 ^ k = P := ⟨_, rfl⟩
    rw [hPP] at h3 hP
    obtain ⟨p9, p0⟩ := hP
    by_cases hlt : k < n
    · have hd : decide (P < 256) = true := by simpa using h3.2 hlt
      clear h3
      go_wp2
      go_roundw
      case rel => exact ⟨k + 1, by omega, by go_num, by first | trivial | rfl⟩
      case measure => simp [intOf]; omega
    · have hd : decide (P < 256) = false := by simp; have := mt h3.1 hlt; omega
      obtain rfl : k = n := by omega
      clear h3
      go_wp2
      go_ret
      exact ⟨rfl, rfl⟩

theorem bits_no (a : Option Addr) (cap : Nat) (f : List Int) (b : Option Addr) (capb : Nat) (l : List Int) (E : Int) (w : World) (hrf : Row w a f) (hm : f.length ≤ cap) (hm9 : cap ≤ 9223372036854775807) (hrl : Row w b l) (zl : l.length ≤ 9223372036854775807) (hE : Hid (RowF f l E)) (hne : Hid (E ≠ 0)) :
    Calls Try.prog 28 #[.slice a f.length cap, .slice b l.length capb] w fun e w' => e = .returned (.tuple #[.int .i64 0, .iface 52 (.int .i64 E)]) ∧ Below w.heap.size w w' := by
  have hck := check_no a cap f b capb l E w hrf (by omega) hrl zl hE hne
  obtain ⟨N, hN⟩ : ∃ N, l.length = N := ⟨_, rfl⟩
  obtain ⟨M, hM⟩ : ∃ M, f.length = M := ⟨_, rfl⟩
  rw [hN, hM] at hck ⊢
  clear hN hM hE hne hm hm9 zl
  go_enter Try.func28, Try.ntmps28
  go_wp2_with fail
  refine hck.mono ?_
  rintro e w1 ⟨rfl, hb1⟩
  go_wp2
  go_ret2
  exact ⟨rfl, hb1⟩

theorem need_step {f l : List Int} {k : Nat} (h : k < l.length) : need f (l.drop k) = nb (at0 f (at0 l k).toNat) + need f (l.drop (k + 1)) := by rw [drop_cons h, need]

set_option maxRecDepth 100000 in
set_option maxHeartbeats 4000000 in
theorem bits_ok (a : Option Addr) (cap : Nat) (f : List Int) (b : Option Addr) (capb : Nat) (l : List Int) (w : World) (hrf : Row w a f) (hm : f.length ≤ cap) (hm9 : cap ≤ 9223372036854775807) (hrl : Row w b l) (hE : Hid (RowF f l 0)) :
    Calls Try.prog 28 #[.slice a f.length cap, .slice b l.length capb] w fun e w' => e = .returned (.tuple #[.int .i64 (need f l), .nilIface]) ∧ Below w.heap.size w w' := by
  have hck := check_ok a cap f b capb l w hrf hrl hE
  obtain ⟨hf0, h60, hl0⟩ := (unhide hE).zero
  have hf := hide hf0
  have hl := hide hl0
  have HU : Hid (need f l ≤ 8 * l.length) := hide (need_le f l)
  have HS0 : Hid (0 + need f (l.drop 0) = need f l) := hide (by rw [List.drop_zero]; omega)
  obtain ⟨U, hU⟩ : ∃ U, need f l = U := ⟨_, rfl⟩
  rw [hU] at HU HS0 ⊢
  obtain ⟨ss, hss⟩ : ∃ ss, upto (pfx f) f.length = ss := ⟨_, rfl⟩
  rw [hss] at hck
  obtain ⟨N, hN⟩ : ∃ N, l.length = N := ⟨_, rfl⟩
  have HN := hide hN
  obtain ⟨M, hM⟩ : ∃ M, f.length = M := ⟨_, rfl⟩
  have HM := hide hM
  rw [hM] at hck hm ⊢
  rw [hN] at hck h60 HU ⊢
  have hU9 := unhide HU
  clear hN hM hU HU hss hf0 hl0 hE
  go_enter Try.func28, Try.ntmps28
  go_wp2_with fail
  refine hck.mono ?_
  clear hck
  rintro e w1 ⟨v, rfl, k1, hb1⟩
  have hrf1 := hrf.below hb1
  have hrl1 := hrl.below hb1
  obtain ⟨p3, n3, q3, rfl⟩ := k1.shape
  clear hrf hrl k1
  go_wp2
  go_loopw [8, 22] (fun n i wr => ∃ j n' : Nat, j ≤ N ∧ i = .int .i64 j ∧ n = .int .i64 n' ∧ Hid (n' + need f (l.drop j) = U) ∧ w1 = wr) (fun _ i _ => N - (intOf i).toNat)
  case atStart => exact ⟨0, 0, Nat.zero_le _, rfl, rfl, HS0, rfl⟩
  case round =>
    obtain ⟨j, n, hj, rfl, rfl, HS, rfl⟩ := hrel
    clear HS0
    by_cases hlt : j < N
    · have hlt' : j < l.length := by rw [unhide HN]; exact hlt
      obtain ⟨b1, off1, rfl, _, hc1⟩ := cell_at hrl1 (by omega)
      have c1 := hc1 j hlt'
      have HS2 : Hid (n + (nb (at0 f (at0 l j).toNat) + need f (l.drop (j + 1))) = U) := hide (by rw [← need_step hlt']; exact unhide HS)
      have hsg : Sgn f (at0 l j) := unhide hl _ (by
        have e : at0 l j = l[j] := by simp [at0, hlt']
        rw [e]; exact List.getElem_mem hlt')
      obtain ⟨S, hS⟩ : ∃ S : Nat, at0 l j = S := ⟨(at0 l j).toNat, by have := hsg.1; omega⟩
      rw [hS] at hsg c1 HS2
      obtain ⟨g0, g1, g2⟩ := hsg
      rw [Int.toNat_natCast] at g2 HS2
      have hSf : S < f.length := by omega
      have hSM : S < M := by rw [← unhide HM]; exact hSf
      obtain ⟨s1, s2, s3, s4⟩ := share_in (unhide hf) hSf g2
      obtain ⟨b0, off0, rfl, _, hc⟩ := cell_at hrf1 (by omega)
      have c2 := hc S hSf
      obtain ⟨F, hF⟩ : ∃ F, at0 f S = F := ⟨_, rfl⟩
      rw [hF] at c2 HS2 s1 s2
      have hbo := bitsOf F w1 s1 s2
      obtain ⟨B, hB⟩ : ∃ B, nb F = B := ⟨_, rfl⟩
      rw [hB] at hbo HS2
      have HS3 : Hid ((n + B) + need f (l.drop (j + 1)) = U) := hide (by have := unhide HS2; omega)
      have hnB : n + B ≤ U := by have := unhide HS3; omega
      obtain ⟨n1, hn1⟩ : ∃ n1, n + B = n1 := ⟨_, rfl⟩
      rw [hn1] at HS3
      have wn : IntKind.i64.wrap ((n : Int) + (B : Int)) = (n1 : Int) := by
        have e : (n : Int) + (B : Int) = (n1 : Int) := by rw [← hn1]; rfl
        rw [e]; exact IntWalk.i64_in _ (by omega)
      clear hF hc hc1 hS hlt' g0 g1 g2 s3 s4 hSf hB HS2 HS hn1
      go_wp2_with fail
      refine hbo.mono ?_
      clear hbo
      rintro e w2 ⟨rfl, hw2⟩
      obtain rfl : w1 = w2 := hw2.symm
      clear hw2
      go_wp2
      go_roundw
      case rel => exact ⟨j + 1, n1, by omega, by go_num, by first | rfl | go_num, HS3, by first | trivial | rfl⟩
      case measure => simp [intOf]; omega
    · obtain rfl : j = N := by omega
      obtain rfl : n = U := by
        have h := unhide HS
        rw [← unhide HN, List.drop_length] at h
        exact h
      clear HS
      go_wp2
      go_ret2
      exact ⟨rfl, hb1⟩

end Go.Proofs.Ythkibjhhlcfceai.Hrn

/-
  learn.Count, Shares, Cost: by their contracts.
-/
namespace Go.Proofs.Ythkibjhhlcfceai.Lrn
open Go.RowKit
open Go.Proofs.Ythkibjhhlcfceai.Tre Go.Proofs.Ythkibjhhlcfceai.Lap Go.Proofs.Ythkibjhhlcfceai.Mid Go.Proofs.Ythkibjhhlcfceai.Scl Go.Proofs.Ythkibjhhlcfceai.Hrn
set_option linter.unusedVariables false

theorem count_no (a : Option Addr) (cap : Nat) (ll : List (List Int)) (n E : Int) (w : World) (hr : Rws w a ll) (zl : ll.length ≤ 9223372036854775807) (hE : Hid (rows ll n = E)) (hne : Hid (E ≠ 0)) :
    Calls Try.prog 23 #[.slice a ll.length cap, .int .i64 n] w fun e w' => e = .returned (.tuple #[.slice none 0 0, .iface 52 (.int .i64 E)]) ∧ Below w.heap.size w w' := by
  have hck := check a cap ll n E w hr zl hE
  rw [errV_ne (unhide hne)] at hck
  obtain ⟨N, hN⟩ : ∃ N, ll.length = N := ⟨_, rfl⟩
  rw [hN] at hck ⊢
  clear hN hE hne zl hr
  go_enter Try.func23, Try.ntmps23
  go_wp2_with fail
  refine hck.mono ?_
  rintro e w1 ⟨rfl, hb1⟩
  go_wp2
  go_ret2
  exact ⟨rfl, hb1⟩

/-- How often a sign was counted so far, and once more. -/
def cn (ll : List (List Int)) (l : List Int) (s : Nat) : Int := 1 + (tms ll s : Int) + (l.count (s : Int) : Int)
theorem cn_zero (ll : List (List Int)) (s : Nat) : cn (ll.take 0) [] s = 1 := rfl
theorem cn_next {ll : List (List Int)} {k : Nat} (h : k < ll.length) (s : Nat) : cn (ll.take (k + 1)) [] s = cn (ll.take k) (rowAt ll k) s := by
  unfold cn
  rw [tms_step h]
  simp
  omega
theorem cn_step (ll : List (List Int)) {l : List Int} {q : Nat} (h : q < l.length) {S : Nat} (hS : at0 l q = S) (s : Nat) : cn ll (l.take (q + 1)) s = if s = S then cn ll (l.take q) s + 1 else cn ll (l.take q) s := by
  unfold cn
  rw [count_step h, hS]
  by_cases e : s = S
  · subst e; simp; omega
  · rw [if_neg (by omega), if_neg e]; simp
theorem cn_all (ll : List (List Int)) (s : Nat) : cn (ll.take ll.length) [] s = 1 + (tms ll s : Int) := by
  unfold cn
  rw [tms_all]
  simp
theorem cn_le {n : Int} {ll : List (List Int)} (h : ∀ l ∈ ll, Rw n l) (h60 : ll.length ≤ 60) {l : List Int} (hl : l.length ≤ 60) (j q s : Nat) : 0 ≤ cn (ll.take j) (l.take q) s ∧ cn (ll.take j) (l.take q) s ≤ 4000 := by
  have h1 := tms_le (ll := ll.take j) (fun m hm => h m (List.mem_of_mem_take hm)) (by rw [List.length_take]; omega) (s : Int)
  have h2 : (l.take q).count (s : Int) ≤ (l.take q).length := List.count_le_length
  rw [List.length_take] at h2
  unfold cn
  omega
theorem cn_set {ll : List (List Int)} {l : List Int} {q S n : Nat} (h : q < l.length) (hS : at0 l q = S) : (upto (cn ll (l.take q)) n).set S (cn ll (l.take q) S + 1) = upto (cn ll (l.take (q + 1))) n := by
  refine eq_of_at (by rw [List.length_set, upto_length, upto_length]) fun i hi => ?_
  rw [List.length_set, upto_length] at hi
  rw [upto_at _ hi, cn_step ll h hS]
  by_cases e : i = S
  · subst e
    rw [if_pos rfl]
    simp [at0, upto_length, hi]
  · rw [if_neg e, ← upto_at (cn ll (l.take q)) hi]
    have e' : ¬ S = i := fun h => e h.symm
    simp [at0, e']

set_option maxRecDepth 100000 in
set_option maxHeartbeats 4000000 in
theorem count_ok (a : Option Addr) (cap : Nat) (ll : List (List Int)) (n : Nat) (w : World) (hr : Rws w a ll) (hE : Hid (rows ll n = 0)) :
    Calls Try.prog 23 #[.slice a ll.length cap, .int .i64 n] w fun e w' => ∃ v, e = .returned (.tuple #[v, .nilIface]) ∧ Has w' w.heap.size v (cts ll n) ∧ Below w.heap.size w w' := by
  obtain ⟨h1, h2, h3, h4⟩ := rows_zero (unhide hE)
  have HW := hide h4
  have hck := check a cap ll n 0 w hr (by omega) hE
  rw [errV_zero] at hck
  have HE : Hid (upto (cn (ll.take ll.length) []) n = cts ll n) := hide (upto_congr fun s _ => cn_all ll s)
  have H3 := hide h3
  obtain ⟨N, hN⟩ : ∃ N, ll.length = N := ⟨_, rfl⟩
  have HN := hide hN
  rw [hN] at hck h3 HE ⊢
  have hn1 : 1 ≤ n := by omega
  have hn40 : n ≤ 40 := by omega
  clear hN hE h4 h1 h2
  go_enter Try.func23, Try.ntmps23
  go_wp2_with fail
  refine hck.mono ?_
  clear hck
  rintro e w1 ⟨rfl, hb1⟩
  go_wp2_with (at_make; refine wpList_mk _ rfl _ rfl n rfl (by omega) ?_; intro w2 hv2 hb2)
  obtain ⟨g, hg⟩ : ∃ g, w1.heap.size = g := ⟨_, rfl⟩
  have hg0 : w.heap.size ≤ g := by rw [← hg]; exact hb1.size
  have hB := Below.chain hb1 hb2
  rw [hg] at hv2 ⊢
  have hm0 : Has w2 w.heap.size (.slice (some ⟨g, 0, none⟩) n n) (mid (fun _ => 1) (fun _ => 0) n 0) := by rw [mid_zero]; exact hv2.mono hg0
  clear hb1 hb2 hv2 hg
  go_wp2
  go_loopw [22] (fun i wr => ∃ j : Nat, j ≤ n ∧ i = .int .i64 j ∧ Has wr w.heap.size (.slice (some ⟨g, 0, none⟩) n n) (mid (fun _ => 1) (fun _ => 0) n j) ∧ Below w.heap.size w wr) (fun i _ => n - (intOf i).toNat)
  case atStart => exact ⟨0, Nat.zero_le _, rfl, hm0, hB⟩
  case round =>
    obtain ⟨j, hj, rfl, hm, hB⟩ := hrel
    clear hm0
    by_cases hlt : j < n
    · have c2 := hm.get (j := j) (by rw [mid_length]; exact hlt)
      rw [mid_at _ _ hlt] at c2
      have f2' := hm.frozen j
      obtain ⟨m1, m2, m3⟩ := Mid.put_mid hm hlt rfl 0
      have M1 := hide m1
      have M3 := hide (m3 _ hB hg0)
      clear hm m1 m2 m3
      go_wp2
      go_roundw
      case rel => exact ⟨j + 1, by omega, by go_num, unhide M1, unhide M3⟩
      case measure => simp [intOf]; omega
    · obtain rfl : j = n := by omega
      have hk0 : Has wr w.heap.size (.slice (some ⟨g, 0, none⟩) j j) (upto (cn (ll.take 0) []) j) := by
        rw [mid_all] at hm
        exact hm
      clear hm
      go_wp2
      go_loopw [31] (fun i wr => ∃ r : Nat, r ≤ N ∧ i = .int .i64 r ∧ Has wr w.heap.size (.slice (some ⟨g, 0, none⟩) j j) (upto (cn (ll.take r) []) j) ∧ Below w.heap.size w wr) (fun i _ => N - (intOf i).toNat)
      case atStart => exact ⟨0, Nat.zero_le _, rfl, hk0, hB⟩
      case round =>
        clear hB hk0
        obtain ⟨r, hrN, rfl, hk, hB⟩ := hrel
        by_cases hlt2 : r < N
        · have hlt' : r < ll.length := by rw [unhide HN]; exact hlt2
          obtain ⟨b1, off1, rfl, hb1, hc1⟩ := hr.at hlt'
          obtain ⟨A, C, c1, c2, c3, c4, c5⟩ := hc1 r hlt'
          have HX : Hid (upto (cn (ll.take (r + 1)) []) j = upto (cn (ll.take r) (rowAt ll r)) j) := hide (upto_congr fun s _ => cn_next hlt' s)
          have hrw : Rw j (rowAt ll r) := unhide HW _ (by rw [rowAt_get hlt']; exact List.getElem_mem hlt')
          obtain ⟨l, hl⟩ : ∃ l, rowAt ll r = l := ⟨_, rfl⟩
          rw [hl] at c1 c3 c5 HX hrw
          have HLE : Hid (∀ q s, 0 ≤ cn (ll.take r) (l.take q) s ∧ cn (ll.take r) (l.take q) s ≤ 4000) := hide (fun q s => cn_le (unhide HW) (unhide H3) hrw.1 r q s)
          have HSG := hide hrw.2
          have h60 := hrw.1
          have c1w := (hB.cell (p := ⟨b1, off1 + r, none⟩) hb1).trans c1
          have HC5 : Hid (Row w A l) := hide c5
          obtain ⟨cur, hcur⟩ : ∃ cur, cn (ll.take r) = cur := ⟨_, rfl⟩
          have HST : Hid (∀ q S : Nat, q < l.length → at0 l q = S → (upto (cur (l.take q)) j).set S (cur (l.take q) S + 1) = upto (cur (l.take (q + 1))) j) := hide (fun q S h1 h2 => by rw [← hcur]; exact cn_set h1 h2)
          rw [hcur] at hk HX HLE
          obtain ⟨L, hL⟩ : ∃ L, l.length = L := ⟨_, rfl⟩
          have HL := hide hL
          rw [hL] at c1w c3 h60
          have hq0 : Has wr w.heap.size (.slice (some ⟨g, 0, none⟩) j j) (upto (cur (l.take 0)) j) := hk
          clear hcur hl hL hrw c1 c2 c4 c5 hc1 hlt' hk
          go_wp2
          go_loopw [37] (fun i wr => ∃ q : Nat, q ≤ L ∧ i = .int .i64 q ∧ Has wr w.heap.size (.slice (some ⟨g, 0, none⟩) j j) (upto (cur (l.take q)) j) ∧ Below w.heap.size w wr) (fun i _ => L - (intOf i).toNat)
          case atStart => exact ⟨0, Nat.zero_le _, rfl, hq0, hB⟩
          case round =>
            clear hB hq0 c1w
            obtain ⟨q, hqL, rfl, hk, hB⟩ := hrel
            by_cases hlt3 : q < L
            · have hlt' : q < l.length := by rw [unhide HL]; exact hlt3
              obtain ⟨b2, off2, rfl, hb2, hc2⟩ := cell_at ((unhide HC5).below hB) (by omega)
              have e1 := hc2 q hlt'
              have hsg := unhide HSG (at0 l q) (by
                have e : at0 l q = l[q] := by simp [at0, hlt']
                rw [e]; exact List.getElem_mem hlt')
              obtain ⟨S, hS⟩ : ∃ S : Nat, at0 l q = S := ⟨(at0 l q).toNat, by omega⟩
              have HS1 : Hid ((upto (cur (l.take q)) j).set S (cur (l.take q) S + 1) = upto (cur (l.take (q + 1))) j) := hide (unhide HST q S hlt' hS)
              rw [hS] at e1 hsg
              have hSj : S < j := by omega
              have hle := unhide HLE q S
              have e2 := hk.get (j := S) (by rw [upto_length]; exact hSj)
              rw [upto_at _ hSj] at e2
              have e3 := hk.frozen S
              obtain ⟨X, hX⟩ : ∃ X, cur (l.take q) S = X := ⟨_, rfl⟩
              rw [hX] at e2 hle HS1
              obtain ⟨x0, x9⟩ := hle
              have wx : IntKind.i64.wrap (X + 1) = X + 1 := IntWalk.i64_in _ (by omega)
              obtain ⟨m1, m2⟩ := hk.put S (X + 1)
              rw [unhide HS1] at m1
              have M1 := hide m1
              have M3 : Hid (Below w.heap.size w (wr.setCell ⟨g, S, none⟩ (.int .i64 (X + 1)))) := hide (Below.setCell (p := ⟨g, S, none⟩) hB hg0 _)
              clear hS hX hc2 hlt' hsg m1 m2 hk HS1
              go_wp2
              go_roundw
              case rel => exact ⟨q + 1, by omega, by go_num, unhide M1, unhide M3⟩
              case measure => simp [intOf]; omega
            · obtain rfl : q = L := by omega
              have hk2 : Has wr w.heap.size (.slice (some ⟨g, 0, none⟩) j j) (upto (cn (ll.take (r + 1)) []) j) := by
                rw [unhide HX]
                rw [← unhide HL, List.take_length] at hk
                exact hk
              clear hk
              go_wp2
              go_roundw
              case rel => exact ⟨r + 1, by omega, by go_num, hk2, hB⟩
              case measure => simp [intOf]; omega
        · obtain rfl : r = N := by omega
          rw [unhide HE] at hk
          go_wp2
          go_ret2
          exact ⟨_, rfl, hk, hB⟩

theorem shares_no (a : Option Addr) (cap : Nat) (ll : List (List Int)) (n E : Int) (w : World) (hr : Rws w a ll) (zl : ll.length ≤ 9223372036854775807) (hE : Hid (rows ll n = E)) (hne : Hid (E ≠ 0)) :
    Calls Try.prog 7 #[.slice a ll.length cap, .int .i64 n] w fun e w' => e = .returned (.tuple #[.slice none 0 0, .iface 52 (.int .i64 E)]) ∧ Below w.heap.size w w' := by
  have hck := count_no a cap ll n E w hr zl hE hne
  obtain ⟨N, hN⟩ : ∃ N, ll.length = N := ⟨_, rfl⟩
  rw [hN] at hck ⊢
  clear hN hE hne zl hr
  go_enter Try.func7, Try.ntmps7
  go_wp2_with fail
  refine hck.mono ?_
  rintro e w1 ⟨rfl, hb1⟩
  go_wp2
  go_ret2
  exact ⟨rfl, hb1⟩

set_option maxHeartbeats 1000000 in
theorem shares_ok (a : Option Addr) (cap : Nat) (ll : List (List Int)) (n : Nat) (w : World) (hr : Rws w a ll) (hE : Hid (rows ll n = 0)) :
    Calls Try.prog 7 #[.slice a ll.length cap, .int .i64 n] w fun e w' => ∃ v, e = .returned (.tuple #[v, .nilIface]) ∧ Has w' w.heap.size v (scale (cts ll n)) ∧ Below w.heap.size w w' := by
  have hck := count_ok a cap ll n w hr hE
  have HCF := hide (cts_ok (unhide hE))
  obtain ⟨c, hc⟩ : ∃ c, cts ll n = c := ⟨_, rfl⟩
  rw [hc] at hck HCF ⊢
  obtain ⟨N, hN⟩ : ∃ N, ll.length = N := ⟨_, rfl⟩
  rw [hN] at hck ⊢
  clear hN hE hr hc
  go_enter Try.func7, Try.ntmps7
  go_wp2_with fail
  refine hck.mono ?_
  clear hck
  rintro e w1 ⟨v, rfl, k1, hb1⟩
  obtain ⟨p, q, rfl, hrow⟩ := k1.row
  have hof := of_ok p q c w1 hrow HCF
  obtain ⟨M, hM⟩ : ∃ M, c.length = M := ⟨_, rfl⟩
  rw [hM] at hof ⊢
  have hs1 := hb1.size
  clear hM hrow k1
  go_wp2_with fail
  refine hof.mono ?_
  clear hof
  rintro e w2 ⟨v, rfl, k2, hb2⟩
  obtain ⟨p3, n3, q3, rfl⟩ := k2.shape
  go_wp2
  go_ret2
  exact ⟨_, rfl, k2.mono hs1, Below.chain hb1 hb2⟩

end Go.Proofs.Ythkibjhhlcfceai.Lrn
