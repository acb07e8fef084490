/-
  Package pulse: Rank, where nothing is wrong: by its contract.
-/
import Derived.Test.YthkibjhhlcfceaiCh05
import Derived.Test.YthkibjhhlcfceaiCh06
import Derived.Test.YthkibjhhlcfceaiCh00
namespace Go.Proofs.Ythkibjhhlcfceai.Pls
open Go.RowKit
open Go.Proofs.Ythkibjhhlcfceai.Tre Go.Proofs.Ythkibjhhlcfceai.Lap Go.Proofs.Ythkibjhhlcfceai.Cnt Go.Proofs.Ythkibjhhlcfceai.Mid
set_option linter.unusedVariables false

set_option maxRecDepth 100000 in
set_option maxHeartbeats 8000000 in
theorem rank_ok (a : Option Addr) (cap : Nat) (l : List Int) (w : World) (hr : Row w a l) (h : Hid (fault l = 0)) :
    Calls Try.prog 18 #[.slice a l.length cap] w fun e w' => e = .returned (.tuple #[.int .i64 (rk l (loud l)), .nilIface]) ∧ Below w.heap.size w w' := by
  obtain ⟨h1, h2, h3⟩ := fault_ok (unhide h)
  have hR9 : Hid (rk l (loud l) ≤ 20256) := hide (by have h4 := (rk_in l h1 h3).2; have h5 := (V_in (loud l) l.length (by omega) (by omega)).2; omega)
  have hck := hide (check_ok a cap l w hr h)
  have hLd : Hid (∀ i, loud (l.drop i) ≤ 8) := hide (fun i => by
    have e := loud_append (l.take i) (l.drop i)
    rw [List.take_append_drop] at e
    omega)
  have hst : Hid ((0 : Int) + rk (l.drop 0) (loud (l.drop 0)) = rk l (loud l)) := hide (by rw [List.drop_zero]; omega)
  have hst2 : Hid (loud l = loud (l.drop 0)) := hide (by rw [List.drop_zero])
  obtain ⟨K, hK⟩ : ∃ K, loud l = K := ⟨_, rfl⟩
  obtain ⟨R, hR⟩ : ∃ R, rk l K = R := ⟨_, rfl⟩
  rw [hK] at hck h3 hR9 hst hst2 ⊢
  rw [hR] at hR9 hst ⊢
  clear hK hR h
  go_enter Try.func18, Try.ntmps18
  go_wp2_with fail
  refine (unhide hck).mono ?_
  rintro e w1 ⟨rfl, hb1⟩
  clear hck
  go_wp2
  go_loopw [4, 6, 20] (fun v4 v6 i wr => ∃ (j L : Nat) (A : Int), j ≤ l.length ∧ i = .int .i64 j ∧ v4 = .int .i64 L ∧ v6 = .int .i64 A ∧ Hid (L = loud (l.drop j)) ∧ Hid (A + rk (l.drop j) (loud (l.drop j)) = R) ∧ L ≤ 8 ∧ 0 ≤ A ∧ A ≤ 20256 ∧ Below w.heap.size w wr) (fun _ _ i _ => l.length - (intOf i).toNat)
  case atStart => exact ⟨0, K, 0, Nat.zero_le _, rfl, rfl, rfl, hst2, hst, h3, by omega, by omega, hb1⟩
  case round =>
    obtain ⟨j, L, A, hj, rfl, rfl, rfl, HL, HA, hL, hA0, hA9, hB⟩ := hrel
    clear hst hst2 hb1
    by_cases hlt : j < l.length
    · obtain ⟨b, off, rfl, hb, hc⟩ := Mid.row_cell hr (by omega)
      have hcj := (hB.cell (p := ⟨b, off + j, none⟩) hb).trans (hc j hlt)
      have HC : Hid (∀ w' : World, Below w.heap.size w w' → w'.cell? ⟨b, off + j, none⟩ = some (.int .i64 (at0 l j))) := hide (fun w' hB' => (hB'.cell (p := ⟨b, off + j, none⟩) hb).trans (hc j hlt))
      clear hc
      have hd := rk_drop hlt
      rw [← unhide HL] at hd
      obtain ⟨d1, d2⟩ := hd
      rw [← unhide HL] at HA
      obtain ⟨L', hL'⟩ : ∃ L', loud (l.drop (j + 1)) = L' := ⟨_, rfl⟩
      obtain ⟨X, hX⟩ : ∃ X, at0 l j = X := ⟨_, rfl⟩
      obtain ⟨m, hm⟩ : ∃ m, l.length - 1 - j = m := ⟨_, rfl⟩
      obtain ⟨S, hS⟩ : ∃ S, (X + (L : Int)).toNat = S := ⟨_, rfl⟩
      have hlast : Hid (∀ B, B = A + ahead m L S → B + rk (l.drop (j + 1)) (loud (l.drop (j + 1))) = R ∧ B ≤ 20256) := hide (by
        rintro B rfl
        have h4 := unhide HA
        rw [d2, hm, hX, hS] at h4
        have h5 := (rk_in (l.drop (j + 1)) (by rw [List.length_drop]; omega) (unhide hLd _)).1
        have h6 := unhide hR9
        omega)
      rw [hX] at d1 hcj HC
      rw [hL'] at d1
      have hXS : X + (L : Int) = (S : Int) := by omega
      have hX0 : -(L : Int) ≤ X := by omega
      have hX1 : X ≤ (L : Int) := by omega
      have hdist := hide (dist X)
      obtain ⟨D, hD⟩ : ∃ D, X.natAbs = D := ⟨_, rfl⟩
      rw [hD] at d1 hdist
      have hLD : (L : Int) - (D : Int) = (L' : Int) := by omega
      have hS2 : S ≤ 2 * L := by omega
      have hm1 : (l.length : Int) - 1 - (j : Int) = (m : Int) := by omega
      have hm5 : m ≤ 5 := by omega
      have hL8 : L' ≤ 8 := by omega
      have HL' : Hid (L' = loud (l.drop (j + 1))) := hide hL'.symm
      clear hL' hX hm hS d2 hD d1 HA HL
      go_wp2
      go_loopw [6, 34] (fun v6 i wr => ∃ (s : Nat) (B : Int), s ≤ S ∧ i = .int .i64 s ∧ v6 = .int .i64 B ∧ Hid (B = A + ahead m L s) ∧ Below w.heap.size w wr) (fun _ i _ => S - (intOf i).toNat)
      case atStart => exact ⟨0, A, Nat.zero_le _, rfl, rfl, hide (by rw [ahead_zero]; omega), hB⟩
      case round =>
        obtain ⟨s, B, hs, rfl, rfl, HB, hB2⟩ := hrel
        clear hB hcj
        have hin := ahead_in (m := m) (L := L) (s := s) (by omega) (by omega) (by omega)
        have hB0 : 0 ≤ B := by rw [unhide HB]; omega
        have hB9 : B ≤ 40512 := by rw [unhide HB]; omega
        clear hin
        by_cases hlt2 : s < S
        · obtain ⟨Y, hY⟩ : ∃ Y, (s : Int) - (L : Int) = Y := ⟨_, rfl⟩
          have hra := hide (rowsAfter m L Y (by omega) hL (by omega) (by omega) wr)
          obtain ⟨r0, r1⟩ := rows_in (m := m) (L := L) (s := s) (by omega) (by omega)
          have HR : Hid (V (L - Y.natAbs) m = rows m L s) := hide (by rw [← hY]; rfl)
          rw [unhide HR] at hra
          have HS : Hid (B + rows m L s = A + ahead m L (s + 1)) := hide (by rw [ahead_succ, unhide HB]; omega)
          obtain ⟨Q, hQ⟩ : ∃ Q, rows m L s = Q := ⟨_, rfl⟩
          rw [hQ] at r0 r1 hra HS
          clear hQ HR HB
          have hsub : IntKind.i64.wrap ((s : Int) - (L : Int)) = Y := by rw [IntWalk.i64_in _ (by omega)]; exact hY
          clear hY
          go_wp2_with fail
          refine (unhide hra).mono ?_
          rintro e w2 ⟨rfl, hb2⟩
          go_wp2
          go_roundw
          case rel => exact ⟨s + 1, B + Q, by omega, by go_num, by go_num, HS, hB2.trans (hb2.mono hB2.size)⟩
          case measure => simp [intOf]; omega
        · obtain rfl : s = S := by omega
          obtain ⟨e1, e2⟩ := unhide hlast B (unhide HB)
          have E1 := hide e1
          clear e1 HB hlast
          have hcj := unhide HC wr hB2
          go_wp2_with fail
          refine (unhide hdist wr (by omega) (by omega)).mono ?_
          rintro e w3 ⟨rfl, rfl⟩
          go_wp2
          go_roundw
          case rel => exact ⟨j + 1, L', B, by omega, by go_num, by go_num, rfl, HL', E1, hL8, hB0, e2, hB2⟩
          case measure => simp [intOf]; omega
    · obtain rfl : j = l.length := by omega
      have hz : Hid (A = R) := hide (by
        have h4 := unhide HA
        rw [List.drop_eq_nil_of_le (Nat.le_refl _)] at h4
        simp only [rk] at h4
        omega)
      go_wp2
      go_ret2
      refine ⟨?_, hB⟩
      rw [← unhide hz]
      rfl

theorem rank_no (a : Option Addr) (cap : Nat) (l : List Int) (w : World) (hl : l.length ≤ 9223372036854775807) (hr : Row w a l) (h : Hid (fault l ≠ 0)) :
    Calls Try.prog 18 #[.slice a l.length cap] w fun e w' => e = .returned (.tuple #[.int .i64 0, .iface 52 (.int .i64 (fault l))]) ∧ Below w.heap.size w w' := by
  go_enter Try.func18, Try.ntmps18
  go_wp2_with fail
  refine (check_no a cap l w hl hr h).mono ?_
  rintro e w1 ⟨rfl, hb1⟩
  go_wp2
  go_ret2
  exact ⟨rfl, hb1⟩

end Go.Proofs.Ythkibjhhlcfceai.Pls

/-
  horntop.one, which the statements of the whole ask first: by its contract.
-/
namespace Go.Proofs.Ythkibjhhlcfceai.Top
open Go.RowKit
open Go.Proofs.Ythkibjhhlcfceai.Tre Go.Proofs.Ythkibjhhlcfceai.Pls
set_option linter.unusedVariables false

theorem fact (w : World) : Calls Try.prog 18 #[.slice (some ⟨w.heap.size, 0, none⟩) 2 2] (w.alloc (.cells #[.int .i64 1, .int .i64 0] 3)) fun e w' => e = .returned (.tuple #[.int .i64 3, .nilIface]) ∧ Below w.heap.size w w' := by
  have hb : Below w.heap.size w (w.alloc (.cells #[.int .i64 1, .int .i64 0] 3)) := (Below.refl _ _).alloc (Nat.le_refl _) _
  have h := rank_ok (some ⟨w.heap.size, 0, none⟩) 2 [1, 0] (w.alloc (.cells #[.int .i64 1, .int .i64 0] 3)) (row_two w 1 0 3) (hide (by decide +kernel))
  have e : rk [1, 0] (loud [1, 0]) = 3 := by decide +kernel
  rw [e] at h
  exact h.mono fun e w' ⟨he, hb'⟩ => ⟨he, Below.chain hb hb'⟩
theorem one_ok (w : World) : Calls Try.prog 5 #[] w fun e w' => e = .returned (.bool true) ∧ Below w.heap.size w w' := by
  go_enter Try.func5, Try.ntmps5
  go_wp2_with fail
  refine (fact w).mono ?_
  rintro e w1 ⟨rfl, hb1⟩
  go_wp2
  go_ret
  exact ⟨rfl, hb1⟩

end Go.Proofs.Ythkibjhhlcfceai.Top

/-
  A slice of slices of integers in memory, for all walks of this seat.
-/
namespace Go.Proofs.Ythkibjhhlcfceai
open Go.RowKit
set_option linter.unusedVariables false

/-- The row at a place (none behind the last). -/
def rowAt (ll : List (List Int)) (r : Nat) : List Int := ll.getD r []
theorem rowAt_get {ll : List (List Int)} {r : Nat} (h : r < ll.length) : rowAt ll r = ll[r] := by simp [rowAt, h]

/-- One cell holds a slice of these integers. -/
def Cel (w : World) (p : Addr) (l : List Int) : Prop :=
  ∃ A C, w.cell? p = some (.slice A l.length C) ∧ (A = none → C = 0) ∧ l.length ≤ C ∧ C ≤ 9223372036854775807 ∧ Row w A l

/-- The rows lie where a slice's address says. -/
def Rws (w : World) (a : Option Addr) (ll : List (List Int)) : Prop :=
  ll = [] ∨ ∃ b off, a = some ⟨b, off, none⟩ ∧ b < w.heap.size ∧ ∀ r, r < ll.length → Cel w ⟨b, off + r, none⟩ (rowAt ll r)

theorem Cel.below {w w' : World} {p : Addr} {l : List Int} (h : Cel w p l) (hp : p.block < w.heap.size) (hb : Below w.heap.size w w') : Cel w' p l := by
  obtain ⟨A, C, h1, h2, h3, h4, h5⟩ := h
  exact ⟨A, C, (hb.cell hp).trans h1, h2, h3, h4, h5.below hb⟩
theorem Rws.below {w w' : World} {a : Option Addr} {ll : List (List Int)} (h : Rws w a ll) (hb : Below w.heap.size w w') : Rws w' a ll := by
  rcases h with h | ⟨b, off, ha, hlt, hc⟩
  · exact Or.inl h
  · exact Or.inr ⟨b, off, ha, Nat.lt_of_lt_of_le hlt hb.size, fun r hr => (hc r hr).below hlt hb⟩
theorem Rws.at {w : World} {a : Option Addr} {ll : List (List Int)} (h : Rws w a ll) {k : Nat} (hk : k < ll.length) :
    ∃ b off, a = some ⟨b, off, none⟩ ∧ b < w.heap.size ∧ ∀ r, r < ll.length → Cel w ⟨b, off + r, none⟩ (rowAt ll r) := by
  rcases h with h | h
  · subst h; exact absurd hk (by simp)
  · exact h

end Go.Proofs.Ythkibjhhlcfceai
