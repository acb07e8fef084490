/-
  frame.numbersOf: by its contract.
-/
import Derived.Test.YthkibjhhlcfceaiDoorCh05
import Derived.Test.YthkibjhhlcfceaiDoorCh23
import Derived.Test.YthkibjhhlcfceaiDoorCh15
import Derived.Test.YthkibjhhlcfceaiDoorCh25
import Derived.Test.YthkibjhhlcfceaiDoorCh20
import Derived.Test.YthkibjhhlcfceaiDoorCh17
import Derived.Test.YthkibjhhlcfceaiDoorCh08
import Derived.Test.YthkibjhhlcfceaiDoorCh09
import Derived.Deep.RegionWith
namespace Go.Proofs.YthkibjhhlcfceaiDoor.Frm
open Go.RowKit
open Go.Proofs.YthkibjhhlcfceaiDoor.Tre Go.Proofs.YthkibjhhlcfceaiDoor.Bnd Go.Proofs.YthkibjhhlcfceaiDoor.Pls Go.Proofs.YthkibjhhlcfceaiDoor.Gai Go.Proofs.YthkibjhhlcfceaiDoor.Lap Go.Proofs.YthkibjhhlcfceaiDoor.Mid
set_option linter.unusedVariables false

/-- What numbersOf tells. -/
def NumSays (G : Int) (pl : List Int) (w : World) (e : Ending) (w' : World) : Prop :=
  ((fault pl ≠ 0 ∧ e = .returned (.tuple #[.slice none 0 0, .iface 47 (.int .i64 (fault pl))])) ∨ (fault pl = 0 ∧ ((gok G = false ∧ e = .returned (.tuple #[.slice none 0 0, .iface 47 (.int .i64 1)])) ∨ (gok G = true ∧ ∃ v, e = .returned (.tuple #[v, .nilIface]) ∧ Has w' w.heap.size v (told (G, pl)))))) ∧ Below w.heap.size w w'

set_option maxRecDepth 100000 in
set_option maxHeartbeats 4000000 in
theorem numbersOf (G : Int) (A : Option Addr) (C : Nat) (pl : List Int) (w : World) (zl : pl.length ≤ 9223372036854775807) (hr : Row w A pl) :
    Calls Tryd.prog 30 #[.agg #[.int .i64 G, .slice A pl.length C]] w fun e w' => NumSays G pl w e w' := by
  have hb0 : Below w.heap.size w (w.alloc (.cells #[.int .i64 G, .slice A pl.length C] 29)) := (Below.refl _ _).alloc (Nat.le_refl _) _
  have hs0 : (w.alloc (.cells #[.int .i64 G, .slice A pl.length C] 29)).heap.size = w.heap.size + 1 := by simp
  have HC : Hid (∀ w1, Below (w.heap.size + 1) (w.alloc (.cells #[.int .i64 G, .slice A pl.length C] 29)) w1 → w1.cell? ⟨w.heap.size, 0, none⟩ = some (.int .i64 G) ∧ w1.cell? ⟨w.heap.size, 1, none⟩ = some (.slice A pl.length C)) := hide (fun w1 h => by
    constructor
    · rw [h.cell (p := ⟨w.heap.size, 0, none⟩) (Nat.lt_succ_self _)]; simp
    · rw [h.cell (p := ⟨w.heap.size, 1, none⟩) (Nat.lt_succ_self _)]; simp)
  by_cases hf : fault pl = 0
  · obtain ⟨f1, f2, f3⟩ := fault_ok hf
    have CP := Pls.check_ok A C pl (w.alloc (.cells #[.int .i64 G, .slice A pl.length C] 29)) (hr.below hb0) (hide hf)
    rw [hs0] at CP
    cases hg : gok G with
    | false =>
      have CV := hide (fun W => valueNo G W (hide hg))
      have HP : Hid (∀ w', Below w.heap.size w w' → NumSays G pl w (.returned (.tuple #[.slice none 0 0, .iface 47 (.int .i64 1)])) w') := hide (fun w' hb => ⟨Or.inr ⟨hf, Or.inl ⟨hg, rfl⟩⟩, hb⟩)
      obtain ⟨L, hL⟩ : ∃ L, pl.length = L := ⟨_, rfl⟩
      obtain ⟨Z, hZ⟩ : ∃ Z, loud pl = Z := ⟨_, rfl⟩
      rw [hL] at CP HC hb0 ⊢
      rw [hZ] at CP
      clear hL hZ hf hg f1 f2 f3 zl hs0
      go_enter Tryd.func30, Tryd.ntmps30
      go_wp2_with fail
      refine CP.mono ?_
      rintro e w1 ⟨rfl, hb1⟩
      obtain ⟨c0, c1⟩ := unhide HC w1 hb1
      have hB1 := hb0.trans (hb1.mono (Nat.le_succ _))
      clear CP HC hb0 hb1
      go_wp2_with fail
      refine (unhide CV _).mono ?_
      rintro e w2 ⟨rfl, rfl⟩
      go_wp2
      go_ret2
      exact unhide HP _ hB1
    | true =>
      have CV := hide (fun W => valueOk G W (hide hg))
      have HP : Hid (∀ v w', Has w' w.heap.size v (told (G, pl)) → Below w.heap.size w w' → NumSays G pl w (.returned (.tuple #[v, .nilIface])) w') := hide (fun v w' hv hb => ⟨Or.inr ⟨hf, Or.inr ⟨hg, v, rfl, hv⟩⟩, hb⟩)
      obtain ⟨v0, v9⟩ := vlN_in G
      have HTN : Hid (loud pl = 0 → upto (fun _ => 0) pl.length = told (G, pl)) := hide (fun h => (told_none (p := (G, pl)) h).symm)
      have HTU : Hid (upto (fun i => tl (vlN G) (loud pl) (at0 pl i)) pl.length = told (G, pl)) := hide (by rw [told_upto, vlN_ok hg])
      have HXL : Hid (∀ j, j < pl.length → (at0 pl j).natAbs ≤ loud pl) := hide (fun j hj => loud_at hj)
      obtain ⟨tp, htp⟩ : ∃ tp, told (G, pl) = tp := ⟨_, rfl⟩
      rw [htp] at HTN HTU HP
      obtain ⟨V, hV⟩ : ∃ V, vlN G = V := ⟨_, rfl⟩
      rw [hV] at CV v0 v9 HTU
      obtain ⟨L, hL⟩ : ∃ L, pl.length = L := ⟨_, rfl⟩
      have HL := hide hL
      obtain ⟨Z, hZ⟩ : ∃ Z, loud pl = Z := ⟨_, rfl⟩
      rw [hL] at CP HC hb0 HTN HTU HXL f1 ⊢
      rw [hZ] at CP HTN HTU HXL f3
      clear hL hZ hf hg f2 zl hs0 htp hV
      go_enter Tryd.func30, Tryd.ntmps30
      go_wp2_with fail
      refine CP.mono ?_
      rintro e w1 ⟨rfl, hb1⟩
      obtain ⟨c0, c1⟩ := unhide HC w1 hb1
      have hB1 := hb0.trans (hb1.mono (Nat.le_succ _))
      have hlt1 : w.heap.size < w1.heap.size := by have := hb1.size; simp at this; omega
      clear CP HC hb0 hb1
      go_wp2_with fail
      refine (unhide CV _).mono ?_
      rintro e w2 ⟨rfl, rfl⟩
      clear CV
      rcases Nat.eq_zero_or_pos Z with hz | hz
      · have HT := hide (unhide HTN hz)
        have nz : ((Z : Int) == 0) = true := by simp; omega
        have nz' : (Z == 0) = true := by simp; omega
        clear hz HTN HTU HXL f3
        go_wp2_with (at_make; refine wpList_mk _ rfl _ rfl L rfl (by omega) ?_; intro w3 k3 hb3)
        rw [unhide HT] at k3
        go_ret2
        exact unhide HP _ _ (k3.mono hB1.size) (Below.chain hB1 hb3)
      · have nz : ((Z : Int) == 0) = false := by simp; omega
        have nz' : (Z == 0) = false := by simp; omega
        obtain ⟨f, hf⟩ : ∃ f : Nat → Int, (fun i => tl V (Z : Int) (at0 pl i)) = f := ⟨_, rfl⟩
        have HF : Hid (∀ j, f j = tl V (Z : Int) (at0 pl j)) := hide (fun j => by rw [← hf])
        rw [hf] at HTU
        clear HTN hf
        go_wp2_with (at_make; refine wpList_mk _ rfl _ rfl L rfl (by omega) ?_; intro w3 k3 hb3; have c1 := (hb3.cell (p := ⟨w.heap.size, 1, none⟩) hlt1).trans c1)
        have hB3 := Below.chain hB1 hb3
        have k3' := k3.mono hB1.size
        rw [← mid_zero f] at k3'
        obtain ⟨g, hg⟩ : ∃ g, w2.heap.size = g := ⟨_, rfl⟩
        rw [hg] at k3' hlt1 ⊢
        clear k3 hb3 hB1 c0 hg
        go_loopw [38] (fun i wr => ∃ k : Nat, k ≤ L ∧ i = .int .i64 k ∧ Has wr w.heap.size (.slice (some ⟨g, 0, none⟩) L L) (mid f (fun _ => 0) L k) ∧ Below w.heap.size w wr) (fun i _ => L - (intOf i).toNat)
        case atStart => exact ⟨0, Nat.zero_le _, rfl, k3', hB3⟩
        case round =>
          obtain ⟨k, hk, rfl, hv, hB⟩ := hrel
          clear k3' hB3
          by_cases hlt : k < L
          · have hkl : k < pl.length := by rw [unhide HL]; exact hlt
            obtain ⟨b3, off3, rfl, _, hc3⟩ := Mid.row_cell (hr.below hB) (by omega)
            have x3 := hc3 k hkl
            have hXZ := unhide HXL k hlt
            have HFk := hide (unhide HF k)
            obtain ⟨X, hX⟩ : ∃ X, at0 pl k = X := ⟨_, rfl⟩
            rw [hX] at x3 hXZ HFk
            have hP0 : -(8 * 8000) ≤ X * V ∧ X * V ≤ 8 * 8000 := by
              have h1 : (X.natAbs : Int) * V ≤ 8 * 8000 := Int.mul_le_mul (by omega) v9 v0 (by omega)
              have h2 : 0 ≤ (X.natAbs : Int) * V := Int.mul_nonneg (by omega) v0
              rcases Int.lt_or_le X 0 with h | h
              · have e : X * V = -((X.natAbs : Int) * V) := by
                  rw [← Int.neg_mul]; congr 1; omega
                omega
              · have e : X * V = (X.natAbs : Int) * V := by congr 1; omega
                omega
            have HQ : Hid (Int.tdiv (X * V) (Z : Int) = tl V (Z : Int) X) := hide (tl_quo v0 (by omega))
            have hq9 : (Int.tdiv (X * V) (Z : Int)).natAbs ≤ (X * V).natAbs := Int.natAbs_tdiv_le_natAbs _ _
            obtain ⟨P, hP⟩ : ∃ P, X * V = P := ⟨_, rfl⟩
            have w1 : IntKind.i64.wrap (X * V) = P := by rw [hP]; exact IntWalk.i64_in _ (by omega)
            rw [hP] at hP0 HQ hq9
            obtain ⟨Y, hY⟩ : ∃ Y, Int.tdiv P (Z : Int) = Y := ⟨_, rfl⟩
            rw [hY] at HQ hq9
            rw [← unhide HQ] at HFk
            have y0 : -64000 ≤ Y := by omega
            have y9 : Y ≤ 64000 := by omega
            have c2 := hv.get (j := k) (by rw [mid_length]; exact hlt)
            rw [mid_at _ _ hlt] at c2
            have f2 := hv.frozen k
            have hg := (hv.lt g rfl).1
            obtain ⟨m1, m2⟩ := hv.put k Y
            have HS := mid_set f (fun _ => 0) hlt
            rw [unhide HFk] at HS
            rw [HS] at m1
            have m4 := Below.setCell (p := ⟨g, k, none⟩) hB hg (.int .i64 Y)
            have M1 := hide m1
            have M4 := hide m4
            clear hX hc3 hkl hXZ hP0 HQ hq9 hP HS m1 m2 m4 HFk hg hv hB
            go_wp2
            go_roundw
            case rel => exact ⟨k + 1, by omega, by go_num, unhide M1, unhide M4⟩
            case measure => simp [intOf]; omega
          · obtain rfl : k = L := by omega
            rw [mid_all, unhide HTU] at hv
            go_wp2
            go_ret2
            exact unhide HP _ _ hv hB
  · have CP := Pls.check_no A C pl (w.alloc (.cells #[.int .i64 G, .slice A pl.length C] 29)) zl (hr.below hb0) (hide hf)
    rw [hs0] at CP
    have HP : Hid (∀ w', Below w.heap.size w w' → NumSays G pl w (.returned (.tuple #[.slice none 0 0, .iface 47 (.int .i64 (fault pl))])) w') := hide (fun w' hb => ⟨Or.inl ⟨hf, rfl⟩, hb⟩)
    obtain ⟨F, hF⟩ : ∃ F, fault pl = F := ⟨_, rfl⟩
    rw [hF] at CP HP
    obtain ⟨L, hL⟩ : ∃ L, pl.length = L := ⟨_, rfl⟩
    rw [hL] at CP hb0 ⊢
    clear hf hF hL zl hs0 HC
    go_enter Tryd.func30, Tryd.ntmps30
    go_wp2_with fail
    refine CP.mono ?_
    rintro e w1 ⟨rfl, hb1⟩
    have hB1 := hb0.trans (hb1.mono (Nat.le_succ _))
    go_wp2
    go_ret2
    exact unhide HP _ hB1

end Go.Proofs.YthkibjhhlcfceaiDoor.Frm

/-
  lap.cut, lap.mesh: by their contracts.
-/
namespace Go.Proofs.YthkibjhhlcfceaiDoor.Lap
open Go.RowKit
open Go.Proofs.YthkibjhhlcfceaiDoor.Tre
set_option linter.unusedVariables false

/-- Nil has no room; else it is no longer than its room. -/
def Roomy (a : Option Addr) (len cap : Nat) : Prop := (a = none → cap = 0) ∧ len ≤ cap ∧ cap ≤ 9223372036854775807

theorem has_roomy {w : World} {base : Nat} {a : Option Addr} {n cap : Nat} {l : List Int} (h : Has w base (.slice a n cap) l) : Roomy a n cap := by
  rcases h.2 with ⟨e, _⟩ | ⟨g, c, cur, e, hb, hg, hn, hm, _⟩
  · obtain ⟨rfl, rfl, rfl⟩ := Value.slice.inj e
    exact ⟨fun _ => rfl, Nat.le_refl _, by omega⟩
  · obtain ⟨rfl, rfl, rfl⟩ := Value.slice.inj e
    exact ⟨fun h => (by cases h), hn, by simpa [maxLen] using hm⟩

set_option maxHeartbeats 2000000 in
theorem cut (a : Option Addr) (cap : Nat) (l : List Int) (w : World) (hl : l.length ≤ 1000) (he : Hid (l.length = 2 * (l.length / 2))) (hm : Roomy a l.length cap) (hr : Row w a l) :
    Calls Tryd.prog 52 #[.slice a l.length cap] w fun e w' => ∃ s d, e = .returned (.tuple #[s, d]) ∧ Has w' w.heap.size s (fr l) ∧ Has w' w.heap.size d (bk l) ∧ Off s d ∧ Below w.heap.size w w' := by
  obtain ⟨m1, m2, m3⟩ := hm
  have hdv : Int.tdiv (l.length : Int) 2 = ((l.length / 2 : Nat) : Int) := rfl
  by_cases h0 : 0 < l.length
  · obtain ⟨b, off, rfl, hb, _⟩ := hr.at h0
    obtain ⟨n, hn⟩ : ∃ n, l.length / 2 = n := ⟨_, rfl⟩
    have H1 : Hid ((fr l).length = n) := hide (by rw [fr_length, hn])
    have H2 : Hid ((bk l).length = l.length - n) := hide (by rw [bk_length (unhide he)]; have := unhide he; omega)
    have r1 : Row w _ (fr l) := hr.take (l.length / 2)
    have r2 : Row w (some ⟨b, off + n, none⟩) (bk l) := by have := hr.drop (l.length / 2); rw [hn] at this; unfold bk; rw [hn]; exact this
    rw [hn] at hdv
    have hn1 : n < l.length := by omega
    obtain ⟨N, hN⟩ : ∃ N, l.length = N := ⟨_, rfl⟩
    rw [hN] at hdv H2 m2 hl h0 hn1 ⊢
    clear hn hN he hr
    have hcn : n ≤ cap := by omega
    have hne : ¬ (cap = n) := by omega
    go_enter Tryd.func52, Tryd.ntmps52
    go_wp2_with (first
      | (at_builtin; refine wpList_app _ rfl _ _ rfl w.heap.size _ [] (fr l) (some ⟨b, off, none⟩) cap rfl (Has.nil _ _) (congrArg (fun n => Value.slice (some ⟨b, off, none⟩) n cap) (unhide H1).symm) r1 (by rw [unhide H1]; simp; omega) (Nat.le_refl _) ?_; intro s1 w1 k1 g1 at1; rw [List.nil_append] at k1; have b1 : Below w.heap.size w w1 := (Below.refl _ _).grown g1 (Nat.le_refl _) (fun k e => by cases e); have r2' := r2.below b1; clear r1)
      | (at_builtin; refine wpList_app _ rfl _ _ rfl w.heap.size _ [] (bk l) (some ⟨b, off + n, none⟩) (cap - n) rfl (Has.nil _ _) (congrArg (fun k => Value.slice (some ⟨b, off + n, none⟩) k (cap - n)) (unhide H2).symm) r2' (by rw [unhide H2]; simp; omega) b1.size ?_; intro s2 w2 k2 g2 at2; rw [List.nil_append] at k2))
    obtain ⟨k1', ho⟩ := apart k1 g2 at2 (off_nil _)
    go_ret2
    exact ⟨_, _, rfl, k1', k2, ho, b1.grown g2 b1.size (fun k e => by cases e)⟩
  · obtain rfl : l = [] := List.eq_nil_of_length_eq_zero (by omega)
    have rn : ∀ (x : World) (b : Option Addr), Row x b [] := fun _ _ => Or.inl rfl
    have hfin : ∀ (s1 s2 : Value) (w1 w2 : World), Has w1 w.heap.size s1 [] → w.grownBy w1 none → Has w2 w.heap.size s2 [] → w1.grownBy w2 none → (s2.ownBlock = none ∨ s2.ownBlock = some w1.heap.size) →
        ∃ s d, Ending.returned (.tuple #[s1, s2]) = .returned (.tuple #[s, d]) ∧ Has w2 w.heap.size s (fr []) ∧ Has w2 w.heap.size d (bk []) ∧ Off s d ∧ Below w.heap.size w w2 := by
      intro s1 s2 w1 w2 k1 g1 k2 g2 at2
      have b1 : Below w.heap.size w w1 := (Below.refl _ _).grown g1 (Nat.le_refl _) (fun k e => by cases e)
      obtain ⟨k1', ho⟩ := apart (v := .slice none 0 0) k1 g2 at2 (off_nil _)
      exact ⟨_, _, rfl, k1', k2, ho, b1.grown g2 b1.size (fun k e => by cases e)⟩
    clear he hr hl h0
    cases a with
    | none =>
      obtain rfl := m1 rfl
      go_enter Tryd.func52, Tryd.ntmps52
      go_wp2
      go_ret2
      exact hfin _ _ _ _ (Has.nil _ _) (World.grownBy.refl _ _) (Has.nil _ _) (World.grownBy.refl _ _) (Or.inl rfl)
    | some x =>
      go_enter Tryd.func52, Tryd.ntmps52
      go_wp2
      go_ret2
      exact hfin _ _ _ _ (Has.nil _ _) (World.grownBy.refl _ _) (Has.nil _ _) (World.grownBy.refl _ _) (Or.inl rfl)

set_option maxHeartbeats 2000000 in
theorem mesh (n : Nat) (a : Option Addr) (cap : Nat) (l : List Int) (a' : Option Addr) (cap' : Nat) (m : List Int) (w : World) (hn : n ≤ 1000) (ha : Hid (n = l.length)) (hb : Hid (n = m.length)) (hr : Row w a l) (hr' : Row w a' m) :
    Calls Tryd.prog 53 #[.slice a n cap, .slice a' n cap'] w fun e w' => ∃ v, e = .returned v ∧ Has w' w.heap.size v (flat (at0 l) (at0 m) n) ∧ Below w.heap.size w w' := by
  go_enter Tryd.func53, Tryd.ntmps53
  go_wp2
  go_loopw [5, 10] (fun v i wr => ∃ j : Nat, j ≤ n ∧ i = .int .i64 j ∧ Has wr w.heap.size v (flat (at0 l) (at0 m) j) ∧ Below w.heap.size w wr) (fun _ i _ => n - (intOf i).toNat)
  case atStart => exact ⟨0, Nat.zero_le _, rfl, Has.nil _ _, Below.refl _ _⟩
  case round =>
    obtain ⟨j, hj, rfl, h1, hB⟩ := hrel
    by_cases hlt : j < n
    · obtain ⟨b, off, rfl, hc⟩ := row_cell (hr.below hB) (by rw [← unhide ha]; omega)
      obtain ⟨b', off', rfl, hc'⟩ := row_cell (hr'.below hB) (by rw [← unhide hb]; omega)
      have hc1 := hc j (by rw [← unhide ha]; omega)
      have hc2 := hc' j (by rw [← unhide hb]; omega)
      have hWs := hB.size
      have e1 := hide (flat_succ (at0 l) (at0 m) j)
      obtain ⟨X, hX⟩ : ∃ X, at0 l j = X := ⟨_, rfl⟩
      obtain ⟨Y, hY⟩ : ∃ Y, at0 m j = Y := ⟨_, rfl⟩
      rw [hX, hY] at e1
      rw [hX] at hc1
      rw [hY] at hc2
      have hln : Hid ((flat (at0 l) (at0 m) j).length + 2 ≤ 1000000) := hide (by rw [flat_length]; omega)
      clear hX hY hc hc'
      go_wp2_with (at_builtin; refine wpList_app _ rfl _ _ rfl w.heap.size u5 (flat (at0 l) (at0 m) j) [X, Y] _ _ rfl (h1.alloc _) rfl (row_two _ _ _ _) (unhide hln) (by simp; omega) ?_; intro s' w1 k1 g1 at1)
      obtain ⟨d1, d2⟩ := stepped_plain h1 hWs k1 g1 at1
      go_wp2
      go_roundw
      case rel => exact ⟨j + 1, by omega, by go_num, by rw [unhide e1]; exact k1, hB.trans d1⟩
      case measure => simp [intOf]; omega
    · obtain rfl : j = n := by omega
      go_wp2
      go_ret
      exact ⟨_, rfl, h1, hB⟩

end Go.Proofs.YthkibjhhlcfceaiDoor.Lap

/-
  lap.Inverse, called with any list: its contract.
-/
namespace Go.Proofs.YthkibjhhlcfceaiDoor.Lap
open Go.RowKit
open Go.Proofs.YthkibjhhlcfceaiDoor.Tre
set_option linter.unusedVariables false

theorem inv_no (a : Option Addr) (cap : Nat) (l : List Int) (w : World) (hl : l.length ≤ 9223372036854775807) (hr : Row w a l) (h : Hid (chk l 4000 ≠ 0)) :
    Calls Tryd.prog 31 #[.slice a l.length cap] w fun e w' => e = .returned (.tuple #[.slice none 0 0, .iface 47 (.int .i64 (chk l 4000))]) ∧ Below w.heap.size w w' := by
  go_enter Tryd.func31, Tryd.ntmps31
  go_wp2_with fail
  refine (check_no a cap l 4000 w hl (by omega) (by omega) hr h).mono ?_
  rintro e w1 ⟨rfl, hb1⟩
  go_wp2
  go_ret2
  exact ⟨rfl, hb1⟩

set_option maxRecDepth 100000 in
set_option maxHeartbeats 4000000 in
theorem inv_ok (a : Option Addr) (cap : Nat) (l : List Int) (w : World) (hl : l.length ≤ 9223372036854775807) (hm : Roomy a l.length cap) (hr : Row w a l) (h : Hid (chk l 4000 = 0)) :
    Calls Tryd.prog 31 #[.slice a l.length cap] w fun e w' => ∃ v, e = .returned (.tuple #[v, .nilIface]) ∧ Has w' w.heap.size v (unlap l) ∧ Below w.heap.size w w' := by
  obtain ⟨z1, z2, z3⟩ := chk_zero (unhide h)
  have HE := hide z2
  clear z2
  have z4 : In (2 * 2000) l := z3
  have hinD := (z3.drop (l.length / 2)).mono (show (4000 : Int) ≤ 100000 by omega)
  have hinE := (evs_in (by omega) z4).mono (show (3 * 2000 : Int) ≤ 100000 by omega)
  go_enter Tryd.func31, Tryd.ntmps31
  go_wp2_with fail
  refine (check_ok a cap l 4000 w hl (by omega) (by omega) hr h).mono ?_
  rintro e w1 ⟨rfl, hb1⟩
  have hr1 := hr.below hb1
  go_wp2_with fail
  refine (cut a cap l w1 (by omega) HE hm hr1).mono ?_
  rintro e w2 ⟨s, d, rfl, hs, hd, ho, hb2⟩
  have hs := hs.mono hb1.size
  have hd := hd.mono hb1.size
  have hB2 := Below.chain hb1 hb2
  obtain ⟨p1, q1, rfl, -⟩ := hs.row
  obtain ⟨p2, q2, rfl, -⟩ := hd.row
  have hn1 := fr_length l
  have hn2 := bk_length (unhide HE)
  obtain ⟨n, hn⟩ : ∃ n, n = l.length / 2 := ⟨_, rfl⟩
  rw [← hn] at hn1 hn2
  rw [hn1] at hs ho ⊢
  rw [hn2] at hd ho ⊢
  have HN1 := hide hn1
  have HN2 := hide hn2
  have HN := hide hn
  have hn9 : n ≤ 16 := by omega
  clear hn1 hn2 hn hr1 hb1 hb2
  go_wp2
  go_loopw [21] (fun i wr => ∃ j : Nat, j ≤ n ∧ i = .int .i64 j ∧ Has wr w.heap.size (.slice p1 n q1) (mid (evF (fr l) (bk l)) (at0 (fr l)) n j) ∧ Has wr w.heap.size (.slice p2 n q2) (bk l) ∧ Below w.heap.size w wr) (fun i _ => n - (intOf i).toNat)
  case atStart => exact ⟨0, Nat.zero_le _, rfl, by rw [mid_zero]; have e := eq_upto (fr l); rw [unhide HN1] at e; rw [← e]; exact hs, hd, hB2⟩
  case round =>
    obtain ⟨j, hj, rfl, hs', hd', hB⟩ := hrel
    clear hs hd hB2
    by_cases hlt : j < n
    · obtain ⟨g, c, e1, hg1, hg2, hg3, hg4⟩ := hs'.one (by rw [mid_length]; omega)
      rw [mid_length] at e1
      obtain ⟨rfl, -, rfl⟩ := Value.slice.inj e1
      have hcl := hs'.get (j := j) (by rw [mid_length]; exact hlt)
      rw [mid_at _ _ hlt] at hcl
      have hfz := hs'.frozen j
      obtain ⟨x0, x1⟩ := (z3.take (l.length / 2)).at (by omega) j
      obtain ⟨y0, y1⟩ := lf_in (by omega) (z4.drop (l.length / 2)) j
      have hrs := (hd'.inRow rfl).2
      have HV : Hid (evF (fr l) (bk l) j = at0 (fr l) j - lf (bk l) j) := hide rfl
      obtain ⟨X, hX⟩ : ∃ X, at0 (fr l) j = X := ⟨_, rfl⟩
      obtain ⟨Y, hY⟩ : ∃ Y, lf (bk l) j = Y := ⟨_, rfl⟩
      unfold fr at hX
      rw [hX] at x0 x1
      rw [show at0 (fr l) j = X from hX] at hcl HV
      unfold bk at hY
      rw [hY] at y0 y1
      rw [show lf (bk l) j = Y from hY] at HV
      have HY : Hid (lf (bk l) j = Y) := hide hY
      clear hX hY
      have hwr : IntKind.i64.wrap (X - Y) = X - Y := IntWalk.i64_in _ (by omega)
      go_wp2
      go_region_with (go_at_call 36; refine (lift p2 n q2 (bk l) j _ (hide HN2.symm) (by omega) hlt hinD (show Row wr.drew _ _ from hrs)).mono ?_; rw [unhide HY]; rintro e w' ⟨rfl, q, rfl⟩)
      all_goals
        obtain ⟨m1, m2, m3⟩ := put_mid hs' hlt (unhide HV) (1 + q)
        go_wp2
        go_roundw
        case rel => exact ⟨j + 1, by omega, by go_num, m1, m2 _ _ hd' ho.symm, m3 _ hB hg1⟩
        case measure => simp [intOf]; omega
    · obtain rfl : j = n := by omega
      rw [mid_all] at hs'
      have hs2 : Has wr w.heap.size (.slice p1 j q1) (evs l) := by unfold evs; rw [← unhide HN]; exact hs'
      have HN3 : Hid ((evs l).length = j) := hide (by rw [evs_length]; exact (unhide HN).symm)
      clear hs'
      go_wp2
      go_loopw [36] (fun i wr => ∃ k : Nat, k ≤ j ∧ i = .int .i64 k ∧ Has wr w.heap.size (.slice p1 j q1) (evs l) ∧ Has wr w.heap.size (.slice p2 j q2) (mid (odF (evs l) (bk l)) (at0 (bk l)) j k) ∧ Below w.heap.size w wr) (fun i _ => j - (intOf i).toNat)
      case atStart => exact ⟨0, Nat.zero_le _, rfl, hs2, by rw [mid_zero]; have e := eq_upto (bk l); rw [unhide HN2] at e; rw [← e]; exact hd', hB⟩
      case round =>
        obtain ⟨k, hk, rfl, hs3, hd3, hB3⟩ := hrel
        clear hs2 hd' hB
        by_cases hlt : k < j
        · obtain ⟨g, c, e1, hg1, hg2, hg3, hg4⟩ := hd3.one (by rw [mid_length]; omega)
          rw [mid_length] at e1
          obtain ⟨rfl, -, rfl⟩ := Value.slice.inj e1
          have hcl := hd3.get (j := k) (by rw [mid_length]; exact hlt)
          rw [mid_at _ _ hlt] at hcl
          have hfz := hd3.frozen k
          obtain ⟨x0, x1⟩ := hinD.at (by omega) k
          obtain ⟨y0, y1⟩ := gs_in (by omega) hinE k
          have hrs := (hs3.inRow rfl).2
          have HV : Hid (odF (evs l) (bk l) k = at0 (bk l) k + gs (evs l) k) := hide rfl
          obtain ⟨X, hX⟩ : ∃ X, at0 (bk l) k = X := ⟨_, rfl⟩
          obtain ⟨Y, hY⟩ : ∃ Y, gs (evs l) k = Y := ⟨_, rfl⟩
          rw [show at0 (l.drop (l.length / 2)) k = X from hX] at x0 x1
          rw [hX] at hcl HV
          rw [hY] at y0 y1 HV
          have HY := hide hY
          clear hX hY
          have hwr : IntKind.i64.wrap (X + Y) = X + Y := IntWalk.i64_in _ (by omega)
          go_wp2
          go_region_with (go_at_call 35; refine (guess p1 j q1 (evs l) k _ (hide HN3.symm) (by omega) hlt hinE (show Row wr.drew _ _ from hrs)).mono ?_; rw [unhide HY]; rintro e w' ⟨rfl, q, rfl⟩)
          all_goals
            obtain ⟨m1, m2, m3⟩ := put_mid hd3 hlt (unhide HV) (1 + q)
            go_wp2
            go_roundw
            case rel => exact ⟨k + 1, by omega, by go_num, m2 _ _ hs3 ho, m1, m3 _ hB3 hg1⟩
            case measure => simp [intOf]; omega
        · obtain rfl : k = j := by omega
          rw [mid_all] at hd3
          have hd4 : Has wr w.heap.size (.slice p2 k q2) (ods l) := by unfold ods; rw [← unhide HN]; exact hd3
          have HN4 : Hid ((ods l).length = k) := hide (by rw [ods_length]; exact (unhide HN).symm)
          have hrs := (hs3.inRow rfl).2
          have hrd := (hd4.inRow rfl).2
          clear hd3
          go_wp2_with fail
          refine (mesh k p1 q1 (evs l) p2 q2 (ods l) wr (by omega) (hide HN3.symm) (hide HN4.symm) hrs hrd).mono ?_
          rintro e w5 ⟨v5, rfl, k5, b5⟩
          obtain ⟨p5, q5, rfl, -⟩ := k5.row
          go_wp2
          go_ret2
          refine ⟨_, rfl, ?_, hB3.trans (b5.mono hB3.size)⟩
          unfold unlap
          rw [← unhide HN]
          exact k5.mono hB3.size

end Go.Proofs.YthkibjhhlcfceaiDoor.Lap
