/-
  frame.PulsesFor, at gains that there are: by its contracts.
-/
import Derived.Test.YtjojeifoddonnakGreatDoorLd11
import Derived.Test.YtjojeifoddonnakGreatDoorLd03
import Derived.Test.YtjojeifoddonnakGreatDoorLd39
import Derived.Test.YtjojeifoddonnakGreatDoorLd46
import Derived.Test.YtjojeifoddonnakGreatDoorLd08
namespace Go.Proofs.YtjojeifoddonnakGreatDoor.Frm
open Go.RowKit
open Go.Proofs.YtjojeifoddonnakGreatDoor.Tre Go.Proofs.YtjojeifoddonnakGreatDoor.Bnd Go.Proofs.YtjojeifoddonnakGreatDoor.Pls Go.Proofs.YtjojeifoddonnakGreatDoor.Gai Go.Proofs.YtjojeifoddonnakGreatDoor.Shr Go.Proofs.YtjojeifoddonnakGreatDoor.Lap Go.Proofs.YtjojeifoddonnakGreatDoor.Mid
set_option linter.unusedVariables false

/-- What pulsesFor tells. -/
def PfSays (ps : List Prt) (s : List Int) (B : Int) (w : World) (e : Ending) (w' : World) : Prop :=
  ((¬ (0 ≤ B ∧ B ≤ 400) ∧ e = .returned (.tuple #[.slice none 0 0, .iface 48 (.int .i64 1)])) ∨ ((0 ≤ B ∧ B ≤ 400) ∧ ∃ v, e = .returned (.tuple #[v, .nilIface]) ∧ Has w' w.heap.size v (given (gns ps) s B))) ∧ Below w.heap.size w w'

set_option maxRecDepth 100000 in
set_option maxHeartbeats 4000000 in
theorem pulsesFor (a : Option Addr) (cap : Nat) (ps : List Prt) (b : Option Addr) (capb : Nat) (s : List Int) (B : Int) (w : World) (hp : Pts w a ps) (hr : Row w b s) (h1 : Hid (bf s = 0)) (hl : ps.length = s.length) (hg : Hid (∀ i, i < ps.length → gok (prt ps i).1 = true)) :
    Calls Tryz.prog 47 #[.slice a ps.length cap, .slice b s.length capb, .int .i64 B] w fun e w' => PfSays ps s B w e w' := by
  obtain ⟨n0, n8, hsz, n32⟩ := bf_ok (unhide h1)
  have HLD := vals_lds (gs := gns ps) (fun i hi => by rw [gns_length] at hi; rw [gns_at hi]; exact unhide hg i hi)
  have HVL : Hid ((vals (gns ps)).length = s.length) := hide (by rw [vals_length, gns_length, hl])
  have COK := hide (fun W q c h1' h2 (h : 0 ≤ B ∧ B ≤ 400) => of_ok b capb s q c (vals (gns ps)) B W h1' h2 (hide (ofF_zero.2 ⟨unhide h1, unhide HVL, HLD, h.1, h.2⟩)))
  have HOF : Hid (¬ (0 ≤ B ∧ B ≤ 400) → ofF s (vals (gns ps)) B = 1) := hide (fun h => by
    unfold ofF
    rw [if_pos (unhide h1), if_pos (unhide HVL)]
    split
    · rfl
    · rw [if_pos (by omega)])
  have CNO := hide (fun W q c h1' h2 (h : ¬ (0 ≤ B ∧ B ≤ 400)) => of_no b capb s q c (vals (gns ps)) B 1 W h1' h2 (by omega) (by rw [unhide HVL]; omega) (hide (unhide HOF h)) (hide (by omega)))
  have HUP : Hid (upto (fun i => (vl (at0 (gns ps) i).toNat : Int)) s.length = vals (gns ps)) := hide (by rw [vals_upto (gns ps), gns_length, hl])
  have HVA : Hid (∀ k, k < s.length → (vl (at0 (gns ps) k).toNat : Int) = vlN (prt ps k).1) := hide (fun k hk => by
    rw [gns_at (by rw [hl]; exact hk), vlN_ok (unhide hg k (by rw [hl]; exact hk))])
  have PNO : Hid (¬ (0 ≤ B ∧ B ≤ 400) → ∀ w', Below w.heap.size w w' → PfSays ps s B w (.returned (.tuple #[.slice none 0 0, .iface 48 (.int .i64 1)])) w') := hide (fun h w' hb => ⟨Or.inl ⟨h, rfl⟩, hb⟩)
  have POK : Hid (0 ≤ B ∧ B ≤ 400 → ∀ v w', Has w' w.heap.size v (share s (vals (gns ps)) B) → Below w.heap.size w w' → PfSays ps s B w (.returned (.tuple #[v, .nilIface])) w') := hide (fun h v w' hv hb => ⟨Or.inr ⟨h, v, rfl, hv⟩, hb⟩)
  obtain ⟨ds, hds⟩ : ∃ ds, vals (gns ps) = ds := ⟨_, rfl⟩
  rw [hds] at HVL COK CNO HUP POK
  obtain ⟨f, hf⟩ : ∃ f : Nat → Int, (fun i => (vl (at0 (gns ps) i).toNat : Int)) = f := ⟨_, rfl⟩
  have HVF : Hid (∀ k, k < s.length → f k = vlN (prt ps k).1) := hide (fun k hk => by rw [← hf]; exact unhide HVA k hk)
  rw [hf] at HUP
  obtain ⟨N, hN⟩ : ∃ N, s.length = N := ⟨_, rfl⟩
  have HPN : Hid (ps.length = N) := hide (hl.trans hN)
  rw [hN] at COK CNO HVL HUP HVF n8 n0
  rw [hl, hN]
  have HOK : Hid (∀ k, k < N → gok (prt ps k).1 = true) := hide (fun k hk => unhide hg k (by rw [unhide HPN]; exact hk))
  clear hds hf HVA HOF HLD hsz n32 hN hl h1 hg
  go_enter Tryz.func47, Tryz.ntmps47
  go_wp2_with (at_make; refine wpList_mk _ rfl _ rfl N rfl (by omega) ?_; intro w2 k2 hb2)
  rw [← mid_zero f] at k2
  go_loopw [18] (fun i wr => ∃ k : Nat, k ≤ N ∧ i = .int .i64 k ∧ Has wr w.heap.size (.slice (some ⟨w.heap.size, 0, none⟩) N N) (mid f (fun _ => 0) N k) ∧ Below w.heap.size w wr) (fun i _ => N - (intOf i).toNat)
  case atStart => exact ⟨0, Nat.zero_le _, rfl, k2, hb2⟩
  case round =>
    obtain ⟨k, hk, rfl, hv, hB⟩ := hrel
    clear k2 hb2
    by_cases hlt : k < N
    · have hlt' : k < ps.length := by rw [unhide HPN]; exact hlt
      obtain ⟨b1, off1, rfl, hb1, hc1⟩ := (hp.below hB).at hlt'
      obtain ⟨x1, A, C, x2, x3, x4, x5, x6⟩ := hc1 k hlt'
      have CV := hide (fun W => valueOk (prt ps k).1 W (hide (unhide HOK k hlt)))
      have HF := hide (unhide HVF k hlt)
      obtain ⟨G, hG⟩ : ∃ G, (prt ps k).1 = G := ⟨_, rfl⟩
      rw [hG] at x1 CV HF
      obtain ⟨V, hV⟩ : ∃ V, vlN G = V := ⟨_, rfl⟩
      rw [hV] at CV HF
      obtain ⟨L, hL⟩ : ∃ L, (prt ps k).2.length = L := ⟨_, rfl⟩
      rw [hL] at x2
      clear hc1 hG hV hL hlt' x3 x4 x5 x6
      have hv2 := hv.alloc (.cells #[.int .i64 G, .slice A L C] 63)
      have hB2 := hB.alloc hB.size (.cells #[.int .i64 G, .slice A L C] 63)
      have c2 := hv2.get (j := k) (by rw [mid_length]; exact hlt)
      rw [mid_at _ _ hlt] at c2
      have f2 := hv2.frozen k
      obtain ⟨m1, m2⟩ := hv2.put k V
      have HS := mid_set f (fun _ => 0) hlt
      rw [unhide HF] at HS
      rw [HS] at m1
      have m4 := Below.setCell (p := ⟨w.heap.size, k, none⟩) hB2 (Nat.le_refl _) (.int .i64 V)
      have M1 := hide m1
      have M4 := hide m4
      clear hv hB HS m1 m2 m4 HF hv2 hB2
      go_wp2_with fail
      refine (unhide CV _).mono ?_
      rintro e w5 ⟨rfl, rfl⟩
      clear CV
      go_wp2
      go_roundw
      case rel => exact ⟨k + 1, by omega, by go_num, unhide M1, unhide M4⟩
      case measure => simp [intOf]; omega
    · obtain rfl : k = N := by omega
      rw [mid_all, unhide HUP] at hv
      obtain ⟨p, q, ee, hrow⟩ := hv.row
      obtain ⟨ea, eb, ec⟩ := Value.slice.inj ee
      subst ea ec
      by_cases h4 : 0 ≤ B ∧ B ≤ 400
      · have c := unhide COK wr _ k (hr.below hB) hrow h4
        have HP := hide (unhide POK h4)
        rw [unhide HVL] at c
        clear COK CNO PNO POK hv ee eb
        go_wp2_with fail
        refine c.mono ?_
        clear c
        rintro e w2 ⟨v2, rfl, k2, hb2⟩
        obtain ⟨p9, n9, q9, rfl⟩ := k2.shape
        go_wp2
        go_ret2
        exact unhide HP _ _ (k2.mono hB.size) (Below.chain hB hb2)
      · have c := unhide CNO wr _ k (hr.below hB) hrow h4
        have HP := hide (unhide PNO h4)
        rw [unhide HVL] at c
        clear COK CNO PNO POK hv ee eb h4
        go_wp2_with fail
        refine c.mono ?_
        clear c
        rintro e w2 ⟨rfl, hb2⟩
        go_wp2
        go_ret2
        exact unhide HP _ (Below.chain hB hb2)

end Go.Proofs.YtjojeifoddonnakGreatDoor.Frm

/-
  frame.PulsesFor, at a gain that there is not: by its contract.
-/
namespace Go.Proofs.YtjojeifoddonnakGreatDoor.Frm
open Go.RowKit
open Go.Proofs.YtjojeifoddonnakGreatDoor.Tre Go.Proofs.YtjojeifoddonnakGreatDoor.Bnd Go.Proofs.YtjojeifoddonnakGreatDoor.Pls Go.Proofs.YtjojeifoddonnakGreatDoor.Gai Go.Proofs.YtjojeifoddonnakGreatDoor.Shr Go.Proofs.YtjojeifoddonnakGreatDoor.Lap Go.Proofs.YtjojeifoddonnakGreatDoor.Mid
set_option linter.unusedVariables false

set_option maxRecDepth 100000 in
set_option maxHeartbeats 4000000 in
theorem pulsesFor_no (a : Option Addr) (cap : Nat) (ps : List Prt) (b : Option Addr) (n capb : Nat) (B : Int) (w : World) (hp : Pts w a ps) (h8 : ps.length ≤ 8) (hg : Hid (∃ i, i < ps.length ∧ gok (prt ps i).1 = false)) :
    Calls Tryz.prog 47 #[.slice a ps.length cap, .slice b n capb, .int .i64 B] w fun e w' => e = .returned (.tuple #[.slice none 0 0, .iface 48 (.int .i64 1)]) ∧ Below w.heap.size w w' := by
  obtain ⟨N, hN⟩ : ∃ N, ps.length = N := ⟨_, rfl⟩
  have HPN : Hid (ps.length = N) := hide hN
  rw [hN] at h8 hg ⊢
  obtain ⟨f, hf⟩ : ∃ f : Nat → Int, (fun i => (vlN (prt ps i).1 : Int)) = f := ⟨_, rfl⟩
  have HVF : Hid (∀ k, f k = vlN (prt ps k).1) := hide (fun k => by rw [← hf])
  clear hN hf
  go_enter Tryz.func47, Tryz.ntmps47
  go_wp2_with (at_make; refine wpList_mk _ rfl _ rfl N rfl (by omega) ?_; intro w2 k2 hb2)
  rw [← mid_zero f] at k2
  go_loopw [18] (fun i wr => ∃ k : Nat, k ≤ N ∧ i = .int .i64 k ∧ Has wr w.heap.size (.slice (some ⟨w.heap.size, 0, none⟩) N N) (mid f (fun _ => 0) N k) ∧ Hid (∀ r, r < k → gok (prt ps r).1 = true) ∧ Below w.heap.size w wr) (fun i _ => N - (intOf i).toNat)
  case atStart => exact ⟨0, Nat.zero_le _, rfl, k2, hide (fun r hr => by omega), hb2⟩
  case round =>
    obtain ⟨k, hk, rfl, hv, HO, hB⟩ := hrel
    clear k2 hb2
    by_cases hlt : k < N
    · have hlt' : k < ps.length := by rw [unhide HPN]; exact hlt
      obtain ⟨b1, off1, rfl, hb1, hc1⟩ := (hp.below hB).at hlt'
      obtain ⟨x1, A, C, x2, x3, x4, x5, x6⟩ := hc1 k hlt'
      have HF := hide (unhide HVF k)
      have HOK : Hid (gok (prt ps k).1 = true → ∀ r, r < k + 1 → gok (prt ps r).1 = true) := hide (fun h r hr => by
        by_cases e : r = k
        · rw [e]; exact h
        · exact unhide HO r (by omega))
      obtain ⟨G, hG⟩ : ∃ G, (prt ps k).1 = G := ⟨_, rfl⟩
      rw [hG] at x1 HF HOK
      obtain ⟨L, hL⟩ : ∃ L, (prt ps k).2.length = L := ⟨_, rfl⟩
      rw [hL] at x2
      clear hc1 hG hL hlt' x3 x4 x5 x6 HO
      have hv2 := hv.alloc (.cells #[.int .i64 G, .slice A L C] 63)
      have hB2 := hB.alloc hB.size (.cells #[.int .i64 G, .slice A L C] 63)
      cases hg0 : gok G with
      | false =>
        have CV := hide (fun W => valueNo G W (hide hg0))
        clear hv hB hv2 HF HOK
        go_wp2_with fail
        refine (unhide CV _).mono ?_
        rintro e w5 ⟨rfl, rfl⟩
        clear CV
        go_wp2
        go_ret2
        exact ⟨rfl, hB2⟩
      | true =>
        have CV := hide (fun W => valueOk G W (hide hg0))
        have HO2 := hide (unhide HOK hg0)
        obtain ⟨V, hV⟩ : ∃ V, vlN G = V := ⟨_, rfl⟩
        rw [hV] at CV HF
        have c2 := hv2.get (j := k) (by rw [mid_length]; exact hlt)
        rw [mid_at _ _ hlt] at c2
        have f2 := hv2.frozen k
        obtain ⟨m1, m2⟩ := hv2.put k V
        have HS := mid_set f (fun _ => 0) hlt
        rw [unhide HF] at HS
        rw [HS] at m1
        have m4 := Below.setCell (p := ⟨w.heap.size, k, none⟩) hB2 (Nat.le_refl _) (.int .i64 V)
        have M1 := hide m1
        have M4 := hide m4
        clear hv hB HS m1 m2 m4 HF hv2 hB2 hV HOK hg0
        go_wp2_with fail
        refine (unhide CV _).mono ?_
        rintro e w5 ⟨rfl, rfl⟩
        clear CV
        go_wp2
        go_roundw
        case rel => exact ⟨k + 1, by omega, by go_num, unhide M1, HO2, unhide M4⟩
        case measure => simp [intOf]; omega
    · exfalso
      obtain ⟨i, hi, h⟩ := unhide hg
      have := unhide HO i (by omega)
      rw [h] at this
      cases this

end Go.Proofs.YtjojeifoddonnakGreatDoor.Frm
