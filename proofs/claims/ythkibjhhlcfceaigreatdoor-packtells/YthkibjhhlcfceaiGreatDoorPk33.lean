/-
  pack.readRanks: by its contract.
-/
import Derived.Test.YthkibjhhlcfceaiGreatDoorPk32
import Derived.Test.YthkibjhhlcfceaiGreatDoorPk24
import Derived.Test.YthkibjhhlcfceaiGreatDoorPk27
namespace Go.Proofs.YthkibjhhlcfceaiGreatDoor.Pck
open Go.RowKit
open Go.Proofs.YthkibjhhlcfceaiGreatDoor.Tre Go.Proofs.YthkibjhhlcfceaiGreatDoor.Bnd Go.Proofs.YthkibjhhlcfceaiGreatDoor.Shr Go.Proofs.YthkibjhhlcfceaiGreatDoor.Frm Go.Proofs.YthkibjhhlcfceaiGreatDoor.Wid Go.Proofs.YthkibjhhlcfceaiGreatDoor.Hrn
set_option linter.unusedVariables false

/-- What readRanks tells. -/
def RkSays (x : ByteArray) (s gv : List Int) (w : World) (e : Ending) (w' : World) : Prop :=
  ((btF (byt x) ((6 * s.length + cost s gv : Nat) : Int) ≠ 0 ∧ ∃ E, e = .returned (.tuple #[.slice none 0 0, .iface 63 (.int .i64 E)])) ∨ (btF (byt x) ((6 * s.length + cost s gv : Nat) : Int) = 0 ∧ ∃ v, e = .returned (.tuple #[v, .nilIface]) ∧ Has w' w.heap.size v (upto (rr (opn (byt x)) s gv) s.length))) ∧ Below w.heap.size w w'

set_option maxRecDepth 100000 in
set_option maxHeartbeats 8000000 in
theorem readRanks (x : ByteArray) (a : Option Addr) (cap : Nat) (s gv : List Int) (w : World) (zx : x.size ≤ 9223372036854775807) (hr : Row w a (rws s gv)) (h8 : s.length ≤ 8) (hz : Hid (Sizes s)) (hp : Hid (Shr.Pls gv)) (hl : gv.length = s.length) :
    Calls Tryz.prog 94 #[.string x, .slice a s.length cap] w fun e w' => RkSays x s gv w e w' := by
  have HRL := hide (rws_length s gv)
  have HWD := hide (rws_wds (unhide hz) (unhide hp) hl)
  have CTO := hide (totalOf a cap (rws s gv) w hr (by rw [unhide HRL]; exact h8) HWD)
  rw [rws_total, unhide HRL] at CTO
  have hc15 := cs_le (unhide hz) (unhide hp) hl (Nat.le_refl _)
  obtain ⟨M, hM⟩ : ∃ M, 6 * s.length = M := ⟨_, rfl⟩
  have wM : IntKind.i64.wrap (6 * (s.length : Int)) = (M : Int) := by rw [IntWalk.i64_in _ (by omega)]; omega
  obtain ⟨T, hT⟩ : ∃ T, 6 * s.length + cost s gv = T := ⟨_, rfl⟩
  obtain ⟨C, hC⟩ : ∃ C, cost s gv = C := ⟨_, rfl⟩
  have hC120 : C ≤ 120 := by rw [← hC]; unfold cost; omega
  have hMT : M + C = T := by omega
  have wT : IntKind.i64.wrap ((M : Int) + (C : Int)) = (T : Int) := by rw [IntWalk.i64_in _ (by omega)]; omega
  have HNO : Hid (∀ E w', btF (byt x) (T : Int) ≠ 0 → Below w.heap.size w w' → RkSays x s gv w (.returned (.tuple #[.slice none 0 0, .iface 63 (.int .i64 E)])) w') := hide (fun E w' h hb => ⟨Or.inl ⟨by rw [hT]; exact h, E, rfl⟩, hb⟩)
  have HOK : Hid (∀ v w', btF (byt x) (T : Int) = 0 → Has w' w.heap.size v (upto (rr (opn (byt x)) s gv) s.length) → Below w.heap.size w w' → RkSays x s gv w (.returned (.tuple #[v, .nilIface])) w') := hide (fun v w' h hv hb => ⟨Or.inr ⟨by rw [hT]; exact h, v, rfl, hv⟩, hb⟩)
  rw [hC] at CTO
  by_cases hE : btF (byt x) (T : Int) = 0
  · have CBI := hide (fun W => bits_ok x T W zx (hide hE))
    obtain ⟨t1, t2, t3⟩ := btF_zero.1 hE
    have hlA : T ≤ (opn (byt x)).length := by rw [opn_length]; omega
    have hg := gets_rank (A := opn (byt x)) (opn_bit (byt_byts x)) (unhide hz) (unhide hp) hl (by rw [hT]; omega) (by rw [hT]; exact hlA)
    rw [hT, hM] at hg
    have HTL : Hid (((opn (byt x)).take T).length = T) := hide (by rw [List.length_take]; omega)
    have HDL : Hid ((((opn (byt x)).take T).drop M).length = C) := hide (by rw [List.length_drop, unhide HTL]; omega)
    have CGE := hide (fun W a' cap' h h' hm hm9 => get_ok a' cap' (((opn (byt x)).take T).drop M) a cap (rws s gv) W h h' hm hm9 (by rw [unhide HRL]; omega) (hide hg.1))
    rw [hg.2, unhide HDL, unhide HRL] at CGE
    have HP := hide (fun v w' => unhide HOK v w' hE)
    obtain ⟨A, hA⟩ : ∃ A, (opn (byt x)).take T = A := ⟨_, rfl⟩
    rw [hA] at CBI HTL HDL CGE
    obtain ⟨rs, hrs⟩ : ∃ rs, rws s gv = rs := ⟨_, rfl⟩
    rw [hrs] at CGE hr
    obtain ⟨N, hN⟩ : ∃ N, s.length = N := ⟨_, rfl⟩
    rw [hN] at CTO CGE HP wM h8 ⊢
    obtain ⟨us, hus⟩ : ∃ us, upto (rr (opn (byt x)) s gv) N = us := ⟨_, rfl⟩
    rw [hus] at CGE HP
    have hMC : T - M = C := by omega
    clear hus hrs hA hg HNO HOK t1 t2 t3 hlA hE hM hT hC hN hc15 hl HWD HRL
    go_enter Tryz.func94, Tryz.ntmps94
    go_wp2_with fail
    refine (unhide CTO).mono ?_
    rintro e w1 ⟨rfl, hw1⟩
    obtain rfl : w = w1 := hw1.symm
    clear CTO
    go_wp2_with fail
    refine (unhide CBI _).mono ?_
    rintro e w2 ⟨v2, rfl, k2, hb2⟩
    clear CBI
    obtain ⟨p2, q2, rfl, r2, m2, m29⟩ := Ev.has_room k2
    obtain ⟨p3, hf3, r3⟩ := row_rest r2 q2 m2 (t := M) (by rw [unhide HTL]; omega)
    rw [unhide HTL] at hf3 m2
    rw [unhide HTL]
    rw [hMC] at hf3
    have CG := unhide CGE w2 p3 (q2 - M) r3 (hr.below hb2) (by omega) (by omega)
    clear CGE k2 r2 r3
    go_wp2_with fail
    refine CG.mono ?_
    rintro e w4 ⟨v4, rfl, k4, hb4⟩
    obtain ⟨p9, n9, q9, rfl⟩ := k4.shape
    go_wp2
    go_ret2
    exact unhide HP _ _ (k4.mono hb2.size) (Below.chain hb2 hb4)
  · have CBI := hide (fun W => bits_no x (T : Int) _ W zx (hide rfl) (hide hE))
    have HP := hide (fun E w' => unhide HNO E w' hE)
    obtain ⟨F, hF⟩ : ∃ F, btF (byt x) (T : Int) = F := ⟨_, rfl⟩
    rw [hF] at CBI
    obtain ⟨N, hN⟩ : ∃ N, s.length = N := ⟨_, rfl⟩
    rw [hN] at CTO wM h8 ⊢
    clear HNO HOK hE hM hT hC hN hc15 hl HWD HRL hF
    go_enter Tryz.func94, Tryz.ntmps94
    go_wp2_with fail
    refine (unhide CTO).mono ?_
    rintro e w1 ⟨rfl, hw1⟩
    obtain rfl : w = w1 := hw1.symm
    clear CTO
    go_wp2_with fail
    refine (unhide CBI _).mono ?_
    rintro e w2 ⟨rfl, hb2⟩
    clear CBI
    go_wp2
    go_ret2
    exact unhide HP F w2 hb2

end Go.Proofs.YthkibjhhlcfceaiGreatDoor.Pck

/-
  frame.PulsesFor, at a gain that there is not: by its contract.
-/
namespace Go.Proofs.YthkibjhhlcfceaiGreatDoor.Frm
open Go.RowKit
open Go.Proofs.YthkibjhhlcfceaiGreatDoor.Tre Go.Proofs.YthkibjhhlcfceaiGreatDoor.Bnd Go.Proofs.YthkibjhhlcfceaiGreatDoor.Pls Go.Proofs.YthkibjhhlcfceaiGreatDoor.Gai Go.Proofs.YthkibjhhlcfceaiGreatDoor.Shr Go.Proofs.YthkibjhhlcfceaiGreatDoor.Lap Go.Proofs.YthkibjhhlcfceaiGreatDoor.Mid
set_option linter.unusedVariables false

set_option maxRecDepth 100000 in
set_option maxHeartbeats 4000000 in
theorem pulsesFor_no (a : Option Addr) (cap : Nat) (ps : List Prt) (b : Option Addr) (n capb : Nat) (B : Int) (w : World) (hp : Pts w a ps) (h8 : ps.length ≤ 8) (hg : Hid (∃ i, i < ps.length ∧ gok (prt ps i).1 = false)) :
    Calls Tryz.prog 29 #[.slice a ps.length cap, .slice b n capb, .int .i64 B] w fun e w' => e = .returned (.tuple #[.slice none 0 0, .iface 63 (.int .i64 1)]) ∧ Below w.heap.size w w' := by
  obtain ⟨N, hN⟩ : ∃ N, ps.length = N := ⟨_, rfl⟩
  have HPN : Hid (ps.length = N) := hide hN
  rw [hN] at h8 hg ⊢
  obtain ⟨f, hf⟩ : ∃ f : Nat → Int, (fun i => (vlN (prt ps i).1 : Int)) = f := ⟨_, rfl⟩
  have HVF : Hid (∀ k, f k = vlN (prt ps k).1) := hide (fun k => by rw [← hf])
  clear hN hf
  go_enter Tryz.func29, Tryz.ntmps29
  go_wp2_with (at_make; refine wpList_mk _ rfl _ rfl N rfl (by omega) ?_; intro w2 k2 hb2)
  rw [← mid_zero f] at k2
  go_loopw [18] (fun i wr => ∃ k : Nat, k ≤ N ∧ i = .int .i64 k ∧ Has wr w.heap.size (.slice (some ⟨w.heap.size, 0, none⟩) N N) (mid f (fun _ => 0) N k) ∧ Hid (∀ r, r < k → gok (prt ps r).1 = true) ∧ Below w.heap.size w wr) (fun i _ => N - (intOf i).toNat)
  case atStart => exact ⟨0, Nat.zero_le _, rfl, k2, hide (fun r hr => by omega), hb2⟩
  case round =>
    obtain ⟨k, hk, rfl, hv, HO, hB⟩ := hrel
    clear k2 hb2
    by_cases hlt : k < N
    · have hlt' : k < ps.length := by rw [unhide HPN]; exact hlt
      obtain ⟨b1, off1, rfl, hb1, hc1⟩ := (hp.below hB).at hlt'
      obtain ⟨x1, A, C, x2, x3, x4, x5, x6⟩ := hc1 k hlt'
      have HF := hide (unhide HVF k)
      have HOK : Hid (gok (prt ps k).1 = true → ∀ r, r < k + 1 → gok (prt ps r).1 = true) := hide (fun h r hr => by
        by_cases e : r = k
        · rw [e]; exact h
        · exact unhide HO r (by omega))
      obtain ⟨G, hG⟩ : ∃ G, (prt ps k).1 = G := ⟨_, rfl⟩
      rw [hG] at x1 HF HOK
      obtain ⟨L, hL⟩ : ∃ L, (prt ps k).2.length = L := ⟨_, rfl⟩
      rw [hL] at x2
      clear hc1 hG hL hlt' x3 x4 x5 x6 HO
      have hv2 := hv.alloc (.cells #[.int .i64 G, .slice A L C] 58)
      have hB2 := hB.alloc hB.size (.cells #[.int .i64 G, .slice A L C] 58)
      cases hg0 : gok G with
      | false =>
        have CV := hide (fun W => valueNo G W (hide hg0))
        clear hv hB hv2 HF HOK
        go_wp2_with fail
        refine (unhide CV _).mono ?_
        rintro e w5 ⟨rfl, rfl⟩
        clear CV
        go_wp2
        go_ret2
        exact ⟨rfl, hB2⟩
      | true =>
        have CV := hide (fun W => valueOk G W (hide hg0))
        have HO2 := hide (unhide HOK hg0)
        obtain ⟨V, hV⟩ : ∃ V, vlN G = V := ⟨_, rfl⟩
        rw [hV] at CV HF
        have c2 := hv2.get (j := k) (by rw [mid_length]; exact hlt)
        rw [mid_at _ _ hlt] at c2
        have f2 := hv2.frozen k
        obtain ⟨m1, m2⟩ := hv2.put k V
        have HS := mid_set f (fun _ => 0) hlt
        rw [unhide HF] at HS
        rw [HS] at m1
        have m4 := Below.setCell (p := ⟨w.heap.size, k, none⟩) hB2 (Nat.le_refl _) (.int .i64 V)
        have M1 := hide m1
        have M4 := hide m4
        clear hv hB HS m1 m2 m4 HF hv2 hB2 hV HOK hg0
        go_wp2_with fail
        refine (unhide CV _).mono ?_
        rintro e w5 ⟨rfl, rfl⟩
        clear CV
        go_wp2
        go_roundw
        case rel => exact ⟨k + 1, by omega, by go_num, unhide M1, HO2, unhide M4⟩
        case measure => simp [intOf]; omega
    · exfalso
      obtain ⟨i, hi, h⟩ := unhide hg
      have := unhide HO i (by omega)
      rw [h] at this
      cases this

end Go.Proofs.YthkibjhhlcfceaiGreatDoor.Frm

/-
  Package pulse: numberAt: by its contract.
-/
namespace Go.Proofs.YthkibjhhlcfceaiGreatDoor.Pls
open Go.RowKit
open Go.Proofs.YthkibjhhlcfceaiGreatDoor.Tre Go.Proofs.YthkibjhhlcfceaiGreatDoor.Lap Go.Proofs.YthkibjhhlcfceaiGreatDoor.Cnt Go.Proofs.YthkibjhhlcfceaiGreatDoor.Mid
set_option linter.unusedVariables false

set_option maxHeartbeats 4000000 in
theorem numberAt (r : Int) (b L : Nat) (hb : b ≤ 5) (hL : L ≤ 8) (h0 : 0 ≤ r) (h9 : r ≤ 20256) (h1 : Hid (r < V L (b + 1))) (w : World) :
    Calls Tryz.prog 126 #[.int .i64 r, .int .i64 b, .int .i64 L] w fun e w' => ∃ s : Nat, e = .returned (.tuple #[.int .i64 ((s : Int) - (L : Int)), .int .i64 (ahead b L s)]) ∧ s ≤ 2 * L ∧ Hid (ahead b L s ≤ r ∧ r < ahead b L (s + 1)) ∧ Below w.heap.size w w' := by
  go_enter Tryz.func126, Tryz.ntmps126
  go_wp2
  go_loopw [7, 12] (fun v i wr => ∃ (s : Nat) (A : Int), s ≤ 2 * L ∧ i = .int .i64 s ∧ v = .int .i64 A ∧ Hid (A = ahead b L s) ∧ A ≤ r ∧ Below w.heap.size w wr) (fun _ i _ => 2 * L - (intOf i).toNat)
  case atStart => exact ⟨0, 0, Nat.zero_le _, rfl, rfl, rfl, h0, Below.refl _ _⟩
  case round =>
    obtain ⟨s, A, hs, rfl, rfl, HA, hA, hB⟩ := hrel
    have hin := ahead_in (m := b) (L := L) (s := s) (by omega) (by omega) (by omega)
    rw [← unhide HA] at hin
    obtain ⟨a0, a1⟩ := hin
    by_cases hlt : s < 2 * L
    · obtain ⟨X, hX⟩ : ∃ X, (s : Int) - (L : Int) = X := ⟨_, rfl⟩
      have hx0 : -(L : Int) ≤ X := by omega
      have hx1 : X ≤ L := by omega
      have hR := hide (rowsAfter b L X (by omega) hL hx0 hx1 wr)
      obtain ⟨r0, r1⟩ := rows_in (m := b) (L := L) (s := s) (by omega) (by omega)
      have HR : Hid (V (L - X.natAbs) b = rows b L s) := hide (by rw [← hX]; rfl)
      rw [unhide HR] at hR
      have HS := hide (ahead_succ b L s)
      obtain ⟨Q, hQ⟩ : ∃ Q, rows b L s = Q := ⟨_, rfl⟩
      rw [hQ] at r0 r1 hR HS
      rw [← unhide HA] at HS
      clear hQ HR
      have HX := hide hX
      by_cases hlt2 : r < A + Q
      · have hsub : IntKind.i64.wrap ((s : Int) - (L : Int)) = X := by rw [IntWalk.i64_in _ (by omega)]; exact hX
        clear hX
        go_wp2_with fail
        refine (unhide hR).mono ?_
        rintro e w1 ⟨rfl, hb1⟩
        go_wp2
        go_ret2
        refine ⟨s, ?_, hs, ?_, hB.trans (hb1.mono hB.size)⟩
        · rw [unhide HX, unhide HA]; rfl
        · show _ ∧ _
          rw [unhide HS, ← unhide HA]
          exact ⟨hA, hlt2⟩
      · have hle : A + Q ≤ r := by omega
        have hsub : IntKind.i64.wrap ((s : Int) - (L : Int)) = X := by rw [IntWalk.i64_in _ (by omega)]; exact hX
        clear hX
        go_wp2_with fail
        refine (unhide hR).mono ?_
        rintro e w1 ⟨rfl, hb1⟩
        go_wp2
        go_roundw
        case rel => exact ⟨s + 1, A + Q, by omega, by go_num, by go_num, (unhide HS).symm, hle, hB.trans (hb1.mono hB.size)⟩
        case measure => simp [intOf]; omega
    · obtain rfl : s = 2 * L := by omega
      have hsub : ((2 * L : Nat) : Int) - (L : Int) = (L : Int) := by omega
      have HE : Hid (ahead b L (2 * L) ≤ r ∧ r < ahead b L (2 * L + 1)) := hide ⟨by rw [← unhide HA]; exact hA, by rw [ahead_all (by omega) (by omega)]; exact unhide h1⟩
      have HU := hide hsub
      clear hsub
      go_wp2
      go_ret2
      refine ⟨2 * L, ?_, Nat.le_refl _, HE, hB⟩
      rw [unhide HU, unhide HA]; rfl

end Go.Proofs.YthkibjhhlcfceaiGreatDoor.Pls
