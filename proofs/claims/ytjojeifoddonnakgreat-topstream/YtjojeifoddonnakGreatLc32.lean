/-
  gain.Value at any gain: by its contract.
-/
import Derived.Test.YtjojeifoddonnakGreatLc06
import Derived.Test.YtjojeifoddonnakGreatLc31
import Derived.Test.YtjojeifoddonnakGreatLc07
import Derived.Test.YtjojeifoddonnakGreatLc09
namespace Go.Proofs.YtjojeifoddonnakGreat.Frm
open Go.RowKit
open Go.Proofs.YtjojeifoddonnakGreat.Tre Go.Proofs.YtjojeifoddonnakGreat.Gai Go.Proofs.YtjojeifoddonnakGreat.Ev
set_option linter.unusedVariables false

theorem valueOk (g : Int) (w : World) (h : Hid (gok g = true)) :
    Calls Tryz.prog 51 #[.int .i64 g] w fun e w' => e = .returned (.tuple #[.int .i64 (vlN g), .nilIface]) ∧ w' = w := by
  obtain ⟨h1, h2, h3⟩ := gok_in (unhide h)
  rw [vlN_ok (unhide h)]
  obtain ⟨m, rfl⟩ : ∃ m : Nat, g = m := ⟨g.toNat, by omega⟩
  rw [Int.toNat_natCast] at h3 ⊢
  exact value_ok m (by omega) (hide h3) w
theorem valueNo (g : Int) (w : World) (h : Hid (gok g = false)) :
    Calls Tryz.prog 51 #[.int .i64 g] w fun e w' => e = .returned (.tuple #[.int .i64 0, .iface 60 (.int .i64 1)]) ∧ w' = w := by
  by_cases h1 : g < 0 ∨ (0 ≤ g ∧ 53 < g)
  · exact value_far g w h1
  · obtain ⟨m, rfl⟩ : ∃ m : Nat, g = m := ⟨g.toNat, by omega⟩
    have h2 : decide (0 ≤ (m : Int)) = true := by simp
    have h3 : decide ((m : Int) ≤ 53) = true := by simp; omega
    have e : gok (m : Int) = vo m := by unfold gok; rw [h2, h3, Int.toNat_natCast]; rfl
    exact value_no m (by omega) (hide (by rw [← e]; exact unhide h)) w

end Go.Proofs.YtjojeifoddonnakGreat.Frm

/-
  frame.gainsOnly: by its contract.
-/
namespace Go.Proofs.YtjojeifoddonnakGreat.Frm
open Go.RowKit
open Go.Proofs.YtjojeifoddonnakGreat.Tre Go.Proofs.YtjojeifoddonnakGreat.Bnd Go.Proofs.YtjojeifoddonnakGreat.Pls Go.Proofs.YtjojeifoddonnakGreat.Gai
set_option linter.unusedVariables false

/-- What gainsOnly tells. -/
def GnSays (ll : List (List Int)) (w : World) (e : Ending) (w' : World) : Prop :=
  (((∃ i, i < ll.length ∧ 8000 < loud (rowAt ll i)) ∧ e = .returned (.tuple #[.slice none 0 0, .iface 60 (.int .i64 4)])) ∨ ((∀ i, i < ll.length → loud (rowAt ll i) ≤ 8000) ∧ ∃ v, e = .returned (.tuple #[v, .nilIface]) ∧ HasP w' w.heap.size v (q0 (gls ll) ll.length))) ∧ Below w.heap.size w w'

set_option maxRecDepth 100000 in
set_option maxHeartbeats 4000000 in
theorem gainsOnly (a : Option Addr) (cap : Nat) (ll : List (List Int)) (w : World) (hr : Rws w a ll) (h8 : ll.length ≤ 8) (hi : Hid (∀ i, i < ll.length → In 4000 (rowAt ll i) ∧ (rowAt ll i).length ≤ 6)) :
    Calls Tryz.prog 24 #[.slice a ll.length cap] w fun e w' => GnSays ll w e w' := by
  have HNO : Hid (∀ i w', i < ll.length → 8000 < loud (rowAt ll i) → Below w.heap.size w w' → GnSays ll w (.returned (.tuple #[.slice none 0 0, .iface 60 (.int .i64 4)])) w') := hide (fun i w' h1 h2 h3 => ⟨Or.inl ⟨⟨i, h1, h2⟩, rfl⟩, h3⟩)
  have HOK : Hid (∀ v w', (∀ i, i < ll.length → loud (rowAt ll i) ≤ 8000) → HasP w' w.heap.size v (qz (gls ll) ll.length ll.length) → Below w.heap.size w w' → GnSays ll w (.returned (.tuple #[v, .nilIface])) w') := hide (fun v w' h1 h2 h3 => ⟨Or.inr ⟨h1, v, rfl, by rw [← gls_length ll, ← qz_all, gls_length]; exact h2⟩, h3⟩)
  have HZ := hide (qz_zero (gls ll) ll.length)
  obtain ⟨N, hN⟩ : ∃ N, ll.length = N := ⟨_, rfl⟩
  have HN := hide hN
  rw [hN] at h8 hi HNO HOK HZ ⊢
  clear hN
  go_enter Tryz.func24, Tryz.ntmps24
  go_wp2_with (at_make; refine wpList_mkp _ rfl _ rfl N rfl (by omega) ?_; intro w2 k2 hb2 hlt2)
  rw [← unhide HZ] at k2
  clear HZ
  go_loopw [15] (fun i wr => ∃ k : Nat, k ≤ N ∧ i = .int .i64 k ∧ HasP wr w.heap.size (.slice (some ⟨w.heap.size, 0, none⟩) N N) (qz (gls ll) N k) ∧ Hid (∀ r, r < k → loud (rowAt ll r) ≤ 8000) ∧ Below w.heap.size w wr) (fun i _ => N - (intOf i).toNat)
  case atStart => exact ⟨0, Nat.zero_le _, rfl, k2, hide (fun r hr => by omega), hb2⟩
  case round =>
    obtain ⟨k, hk, rfl, hv, HLO, hB⟩ := hrel
    clear k2 hb2 hlt2
    by_cases hlt : k < N
    · have hlt' : k < ll.length := by rw [unhide HN]; exact hlt
      obtain ⟨b1, off1, rfl, _, hc1⟩ := (hr.below hB).at hlt'
      obtain ⟨A, C, c1, c2, c3, c4, c5⟩ := hc1 k hlt'
      obtain ⟨i1, i2⟩ := unhide hi k hlt
      have HNk := hide (unhide HNO k wr hlt)
      have HGk := hide (gls_at (ll := ll) hlt')
      obtain ⟨r, hrr⟩ : ∃ r, rowAt ll k = r := ⟨_, rfl⟩
      have HRR := hide hrr
      rw [hrr] at c1 c3 c5 i1 i2 HNk HGk
      have CLO := dists A C r wr (by omega) i1 c5
      obtain ⟨L, hL⟩ : ∃ L, loud r = L := ⟨_, rfl⟩
      rw [hL] at CLO HNk HGk
      have HL := hide hL
      obtain ⟨R, hR⟩ : ∃ R, r.length = R := ⟨_, rfl⟩
      rw [hR] at c1 c3 CLO i2
      clear hc1 hrr hL hR hlt' c2 c5 i1
      by_cases h8 : 8000 < L
      · have d8 : decide (8000 < (L : Int)) = true := by simp; omega
        have HP := hide (unhide HNk h8 hB)
        clear HNk HGk HLO
        go_wp2_with fail
        refine CLO.mono ?_
        rintro e w5 ⟨rfl, hw5⟩
        obtain rfl : wr = w5 := hw5
        go_wp2
        go_ret2
        exact unhide HP
      · have d8 : decide (8000 < (L : Int)) = false := by simp; omega
        have d8' : decide (8000 < L) = false := by simp; omega
        have CGA := index_ok L (by omega) wr
        have HLO2 : Hid (∀ r, r < k + 1 → loud (rowAt ll r) ≤ 8000) := hide (fun x hx => by
          by_cases e : x = k
          · rw [e, unhide HRR, unhide HL]; omega
          · exact unhide HLO x (by omega))
        obtain ⟨G, hG⟩ : ∃ G, gi L = G := ⟨_, rfl⟩
        rw [hG] at CGA HGk
        obtain ⟨c0, -⟩ := hv.get (qz_length _ _ _).symm (qz_at (gs := gls ll) (k := k) hlt)
        rw [if_neg (Nat.lt_irrefl _)] at c0
        have f0 := hv.frozen (qz_length _ _ _).symm (k * 2)
        obtain ⟨m1, m2⟩ := hv.put0 (qz_length _ _ _).symm (qz_at (gs := gls ll) (k := k) hlt) (G : Int)
        rw [qz_set hlt (unhide HGk)] at m1
        have m3 : Below w.heap.size w (wr.setCell ⟨w.heap.size, k * 2, none⟩ (.int .i64 (G : Int))) := Below.setCell (p := ⟨w.heap.size, k * 2, none⟩) hB (Nat.le_refl _) _
        have M1 := hide m1
        have M3 := hide m3
        clear HNk HLO hG HGk m1 m2 m3 hv hB
        go_wp2_with fail
        refine CLO.mono ?_
        rintro e w5 ⟨rfl, hw5⟩
        obtain rfl : wr = w5 := hw5
        clear CLO
        go_wp2_with fail
        refine CGA.mono ?_
        rintro e w5 ⟨rfl, hw5⟩
        obtain rfl : wr = w5 := hw5.symm
        clear CGA
        go_wp2
        go_roundw
        case rel => exact ⟨k + 1, by omega, by go_num, unhide M1, HLO2, unhide M3⟩
        case measure => simp [intOf]; omega
    · obtain rfl : k = N := by omega
      have HP := hide (unhide HOK _ wr (unhide HLO) hv hB)
      go_wp2
      go_ret2
      exact unhide HP

end Go.Proofs.YtjojeifoddonnakGreat.Frm

/-
  frame.numbersOf: by its contract.
-/
namespace Go.Proofs.YtjojeifoddonnakGreat.Frm
open Go.RowKit
open Go.Proofs.YtjojeifoddonnakGreat.Tre Go.Proofs.YtjojeifoddonnakGreat.Bnd Go.Proofs.YtjojeifoddonnakGreat.Pls Go.Proofs.YtjojeifoddonnakGreat.Gai Go.Proofs.YtjojeifoddonnakGreat.Lap Go.Proofs.YtjojeifoddonnakGreat.Mid
set_option linter.unusedVariables false

/-- What numbersOf tells. -/
def NumSays (G : Int) (pl : List Int) (w : World) (e : Ending) (w' : World) : Prop :=
  ((fault pl ≠ 0 ∧ e = .returned (.tuple #[.slice none 0 0, .iface 60 (.int .i64 (fault pl))])) ∨ (fault pl = 0 ∧ ((gok G = false ∧ e = .returned (.tuple #[.slice none 0 0, .iface 60 (.int .i64 1)])) ∨ (gok G = true ∧ ∃ v, e = .returned (.tuple #[v, .nilIface]) ∧ Has w' w.heap.size v (told (G, pl)))))) ∧ Below w.heap.size w w'

set_option maxRecDepth 100000 in
set_option maxHeartbeats 4000000 in
theorem numbersOf (G : Int) (A : Option Addr) (C : Nat) (pl : List Int) (w : World) (zl : pl.length ≤ 9223372036854775807) (hr : Row w A pl) :
    Calls Tryz.prog 41 #[.agg #[.int .i64 G, .slice A pl.length C]] w fun e w' => NumSays G pl w e w' := by
  have hb0 : Below w.heap.size w (w.alloc (.cells #[.int .i64 G, .slice A pl.length C] 71)) := (Below.refl _ _).alloc (Nat.le_refl _) _
  have hs0 : (w.alloc (.cells #[.int .i64 G, .slice A pl.length C] 71)).heap.size = w.heap.size + 1 := by simp
  have HC : Hid (∀ w1, Below (w.heap.size + 1) (w.alloc (.cells #[.int .i64 G, .slice A pl.length C] 71)) w1 → w1.cell? ⟨w.heap.size, 0, none⟩ = some (.int .i64 G) ∧ w1.cell? ⟨w.heap.size, 1, none⟩ = some (.slice A pl.length C)) := hide (fun w1 h => by
    constructor
    · rw [h.cell (p := ⟨w.heap.size, 0, none⟩) (Nat.lt_succ_self _)]; simp
    · rw [h.cell (p := ⟨w.heap.size, 1, none⟩) (Nat.lt_succ_self _)]; simp)
  by_cases hf : fault pl = 0
  · obtain ⟨f1, f2, f3⟩ := fault_ok hf
    have CP := Pls.check_ok A C pl (w.alloc (.cells #[.int .i64 G, .slice A pl.length C] 71)) (hr.below hb0) (hide hf)
    rw [hs0] at CP
    cases hg : gok G with
    | false =>
      have CV := hide (fun W => valueNo G W (hide hg))
      have HP : Hid (∀ w', Below w.heap.size w w' → NumSays G pl w (.returned (.tuple #[.slice none 0 0, .iface 60 (.int .i64 1)])) w') := hide (fun w' hb => ⟨Or.inr ⟨hf, Or.inl ⟨hg, rfl⟩⟩, hb⟩)
      obtain ⟨L, hL⟩ : ∃ L, pl.length = L := ⟨_, rfl⟩
      obtain ⟨Z, hZ⟩ : ∃ Z, loud pl = Z := ⟨_, rfl⟩
      rw [hL] at CP HC hb0 ⊢
      rw [hZ] at CP
      clear hL hZ hf hg f1 f2 f3 zl hs0
      go_enter Tryz.func41, Tryz.ntmps41
      go_wp2_with fail
      refine CP.mono ?_
      rintro e w1 ⟨rfl, hb1⟩
      obtain ⟨c0, c1⟩ := unhide HC w1 hb1
      have hB1 := hb0.trans (hb1.mono (Nat.le_succ _))
      clear CP HC hb0 hb1
      go_wp2_with fail
      refine (unhide CV _).mono ?_
      rintro e w2 ⟨rfl, rfl⟩
      go_wp2
      go_ret2
      exact unhide HP _ hB1
    | true =>
      have CV := hide (fun W => valueOk G W (hide hg))
      have HP : Hid (∀ v w', Has w' w.heap.size v (told (G, pl)) → Below w.heap.size w w' → NumSays G pl w (.returned (.tuple #[v, .nilIface])) w') := hide (fun v w' hv hb => ⟨Or.inr ⟨hf, Or.inr ⟨hg, v, rfl, hv⟩⟩, hb⟩)
      obtain ⟨v0, v9⟩ := vlN_in G
      have HTN : Hid (loud pl = 0 → upto (fun _ => 0) pl.length = told (G, pl)) := hide (fun h => (told_none (p := (G, pl)) h).symm)
      have HTU : Hid (upto (fun i => tl (vlN G) (loud pl) (at0 pl i)) pl.length = told (G, pl)) := hide (by rw [told_upto, vlN_ok hg])
      have HXL : Hid (∀ j, j < pl.length → (at0 pl j).natAbs ≤ loud pl) := hide (fun j hj => loud_at hj)
      obtain ⟨tp, htp⟩ : ∃ tp, told (G, pl) = tp := ⟨_, rfl⟩
      rw [htp] at HTN HTU HP
      obtain ⟨V, hV⟩ : ∃ V, vlN G = V := ⟨_, rfl⟩
      rw [hV] at CV v0 v9 HTU
      obtain ⟨L, hL⟩ : ∃ L, pl.length = L := ⟨_, rfl⟩
      have HL := hide hL
      obtain ⟨Z, hZ⟩ : ∃ Z, loud pl = Z := ⟨_, rfl⟩
      rw [hL] at CP HC hb0 HTN HTU HXL f1 ⊢
      rw [hZ] at CP HTN HTU HXL f3
      clear hL hZ hf hg f2 zl hs0 htp hV
      go_enter Tryz.func41, Tryz.ntmps41
      go_wp2_with fail
      refine CP.mono ?_
      rintro e w1 ⟨rfl, hb1⟩
      obtain ⟨c0, c1⟩ := unhide HC w1 hb1
      have hB1 := hb0.trans (hb1.mono (Nat.le_succ _))
      have hlt1 : w.heap.size < w1.heap.size := by have := hb1.size; simp at this; omega
      clear CP HC hb0 hb1
      go_wp2_with fail
      refine (unhide CV _).mono ?_
      rintro e w2 ⟨rfl, rfl⟩
      clear CV
      rcases Nat.eq_zero_or_pos Z with hz | hz
      · have HT := hide (unhide HTN hz)
        have nz : ((Z : Int) == 0) = true := by simp; omega
        have nz' : (Z == 0) = true := by simp; omega
        clear hz HTN HTU HXL f3
        go_wp2_with (at_make; refine wpList_mk _ rfl _ rfl L rfl (by omega) ?_; intro w3 k3 hb3)
        rw [unhide HT] at k3
        go_ret2
        exact unhide HP _ _ (k3.mono hB1.size) (Below.chain hB1 hb3)
      · have nz : ((Z : Int) == 0) = false := by simp; omega
        have nz' : (Z == 0) = false := by simp; omega
        obtain ⟨f, hf⟩ : ∃ f : Nat → Int, (fun i => tl V (Z : Int) (at0 pl i)) = f := ⟨_, rfl⟩
        have HF : Hid (∀ j, f j = tl V (Z : Int) (at0 pl j)) := hide (fun j => by rw [← hf])
        rw [hf] at HTU
        clear HTN hf
        go_wp2_with (at_make; refine wpList_mk _ rfl _ rfl L rfl (by omega) ?_; intro w3 k3 hb3; have c1 := (hb3.cell (p := ⟨w.heap.size, 1, none⟩) hlt1).trans c1)
        have hB3 := Below.chain hB1 hb3
        have k3' := k3.mono hB1.size
        rw [← mid_zero f] at k3'
        obtain ⟨g, hg⟩ : ∃ g, w2.heap.size = g := ⟨_, rfl⟩
        rw [hg] at k3' hlt1 ⊢
        clear k3 hb3 hB1 c0 hg
        go_loopw [38] (fun i wr => ∃ k : Nat, k ≤ L ∧ i = .int .i64 k ∧ Has wr w.heap.size (.slice (some ⟨g, 0, none⟩) L L) (mid f (fun _ => 0) L k) ∧ Below w.heap.size w wr) (fun i _ => L - (intOf i).toNat)
        case atStart => exact ⟨0, Nat.zero_le _, rfl, k3', hB3⟩
        case round =>
          obtain ⟨k, hk, rfl, hv, hB⟩ := hrel
          clear k3' hB3
          by_cases hlt : k < L
          · have hkl : k < pl.length := by rw [unhide HL]; exact hlt
            obtain ⟨b3, off3, rfl, _, hc3⟩ := Mid.row_cell (hr.below hB) (by omega)
            have x3 := hc3 k hkl
            have hXZ := unhide HXL k hlt
            have HFk := hide (unhide HF k)
            obtain ⟨X, hX⟩ : ∃ X, at0 pl k = X := ⟨_, rfl⟩
            rw [hX] at x3 hXZ HFk
            have hP0 : -(8 * 8000) ≤ X * V ∧ X * V ≤ 8 * 8000 := by
              have h1 : (X.natAbs : Int) * V ≤ 8 * 8000 := Int.mul_le_mul (by omega) v9 v0 (by omega)
              have h2 : 0 ≤ (X.natAbs : Int) * V := Int.mul_nonneg (by omega) v0
              rcases Int.lt_or_le X 0 with h | h
              · have e : X * V = -((X.natAbs : Int) * V) := by
                  rw [← Int.neg_mul]; congr 1; omega
                omega
              · have e : X * V = (X.natAbs : Int) * V := by congr 1; omega
                omega
            have HQ : Hid (Int.tdiv (X * V) (Z : Int) = tl V (Z : Int) X) := hide (tl_quo v0 (by omega))
            have hq9 : (Int.tdiv (X * V) (Z : Int)).natAbs ≤ (X * V).natAbs := Int.natAbs_tdiv_le_natAbs _ _
            obtain ⟨P, hP⟩ : ∃ P, X * V = P := ⟨_, rfl⟩
            have w1 : IntKind.i64.wrap (X * V) = P := by rw [hP]; exact IntWalk.i64_in _ (by omega)
            rw [hP] at hP0 HQ hq9
            obtain ⟨Y, hY⟩ : ∃ Y, Int.tdiv P (Z : Int) = Y := ⟨_, rfl⟩
            rw [hY] at HQ hq9
            rw [← unhide HQ] at HFk
            have y0 : -64000 ≤ Y := by omega
            have y9 : Y ≤ 64000 := by omega
            have c2 := hv.get (j := k) (by rw [mid_length]; exact hlt)
            rw [mid_at _ _ hlt] at c2
            have f2 := hv.frozen k
            have hg := (hv.lt g rfl).1
            obtain ⟨m1, m2⟩ := hv.put k Y
            have HS := mid_set f (fun _ => 0) hlt
            rw [unhide HFk] at HS
            rw [HS] at m1
            have m4 := Below.setCell (p := ⟨g, k, none⟩) hB hg (.int .i64 Y)
            have M1 := hide m1
            have M4 := hide m4
            clear hX hc3 hkl hXZ hP0 HQ hq9 hP HS m1 m2 m4 HFk hg hv hB
            go_wp2
            go_roundw
            case rel => exact ⟨k + 1, by omega, by go_num, unhide M1, unhide M4⟩
            case measure => simp [intOf]; omega
          · obtain rfl : k = L := by omega
            rw [mid_all, unhide HTU] at hv
            go_wp2
            go_ret2
            exact unhide HP _ _ hv hB
  · have CP := Pls.check_no A C pl (w.alloc (.cells #[.int .i64 G, .slice A pl.length C] 71)) zl (hr.below hb0) (hide hf)
    rw [hs0] at CP
    have HP : Hid (∀ w', Below w.heap.size w w' → NumSays G pl w (.returned (.tuple #[.slice none 0 0, .iface 60 (.int .i64 (fault pl))])) w') := hide (fun w' hb => ⟨Or.inl ⟨hf, rfl⟩, hb⟩)
    obtain ⟨F, hF⟩ : ∃ F, fault pl = F := ⟨_, rfl⟩
    rw [hF] at CP HP
    obtain ⟨L, hL⟩ : ∃ L, pl.length = L := ⟨_, rfl⟩
    rw [hL] at CP hb0 ⊢
    clear hf hF hL zl hs0 HC
    go_enter Tryz.func41, Tryz.ntmps41
    go_wp2_with fail
    refine CP.mono ?_
    rintro e w1 ⟨rfl, hb1⟩
    have hB1 := hb0.trans (hb1.mono (Nat.le_succ _))
    go_wp2
    go_ret2
    exact unhide HP _ hB1

end Go.Proofs.YtjojeifoddonnakGreat.Frm
