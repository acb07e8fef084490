/-
  near.Spread: by its contracts.
-/
import Derived.Test.YthkibjhhlcfceaiDoorCh21
import Derived.Test.YthkibjhhlcfceaiDoorCh12
import Derived.Test.YthkibjhhlcfceaiDoorCh20
import Derived.Test.YthkibjhhlcfceaiDoorCh22
import Derived.Test.YthkibjhhlcfceaiDoorCh06
import Derived.Test.YthkibjhhlcfceaiDoorCh10
import Derived.Test.YthkibjhhlcfceaiDoorCh14
import Derived.Test.YthkibjhhlcfceaiDoorCh03
namespace Go.Proofs.YthkibjhhlcfceaiDoor.Nea
open Go.RowKit
open Go.Proofs.YthkibjhhlcfceaiDoor.Tre Go.Proofs.YthkibjhhlcfceaiDoor.Lap Go.Proofs.YthkibjhhlcfceaiDoor.Pls Go.Proofs.YthkibjhhlcfceaiDoor.Mid
set_option linter.unusedVariables false

theorem near_zero (v : List Int) : Near v 0 (upto (fun _ => 0) v.length) := by
  refine ⟨fun _ => false, ?_, upto_congr fun i _ => ?_⟩
  · rw [show lft v 0 = 0 by simp [lft]]; exact pick_zero _ _
  · simp [res, qt, sh, one]
theorem off_new {w w' : World} {b : Nat} {p v : Value} {l m : List Int} (hp : Has w b p l) (hv : Has w' w.heap.size v m) : Off p v := by
  cases h : p.ownBlock with
  | none => exact Or.inl h
  | some k =>
    refine Or.inr ?_
    have := (hp.lt k h).2
    rw [h]
    intro e
    have := (hv.lt k e.symm).1
    omega
/-- One more gets a pulse. -/
theorem put_gt {r s : Nat → Nat} {n j : Nat} (q : Nat → Nat) (h : Ins r s n n) (hj : j < n) {Q : Nat} (hQ : q (s j) = Q) :
    (upto (fun i => ((q i + one (gt s j i) : Nat) : Int)) n).set (s j) ((Q + 1 : Nat) : Int) = upto (fun i => ((q i + one (gt s (j + 1) i) : Nat) : Int)) n ∧ at0 (upto (fun i => ((q i + one (gt s j i) : Nat) : Int)) n) (s j) = (Q : Int) ∧ s j < n := by
  obtain ⟨b1, b2, b3⟩ := gt_best h hj
  refine ⟨?_, ?_, b1⟩
  · rw [upto_set]
    refine upto_congr fun i _ => ?_
    rw [gt_succ, one_with b2]
    by_cases e : i = s j
    · subst e; rw [if_pos rfl, if_pos rfl, b2, hQ]; simp [one]
    · rw [if_neg e, if_neg e]; simp
  · rw [upto_at _ b1, b2, hQ]; simp [one]

theorem spread_range (a : Option Addr) (cap N : Nat) (k : Int) (w : World) (hk : k < 0 ∨ (0 ≤ k ∧ 8 < k)) :
    Calls Tryd.prog 20 #[.slice a N cap, .int .i64 k] w fun e w' => e = .returned (.tuple #[.slice none 0 0, .iface 47 (.int .i64 1)]) ∧ w' = w := by
  rcases hk with hk | ⟨hk, hk'⟩
  all_goals
    go_enter Tryd.func20, Tryd.ntmps20
    go_wp2
    go_ret2
    exact ⟨rfl, rfl⟩
theorem spread_none (a : Option Addr) (cap : Nat) (v : List Int) (k : Nat) (w : World) (hr : Row w a v) (h6 : v.length ≤ 6) (hi : In 4000 v) (hk : 0 < k) (hk8 : k ≤ 8) (hM : Hid (loud v = 0)) :
    Calls Tryd.prog 20 #[.slice a v.length cap, .int .i64 k] w fun e w' => e = .returned (.tuple #[.slice none 0 0, .iface 47 (.int .i64 5)]) ∧ w' = w := by
  have hk0 : ((k : Int) == 0) = false := by simp; omega
  go_enter Tryd.func20, Tryd.ntmps20
  go_wp2_with fail
  refine (dists a cap v w (by omega) hi hr).mono ?_
  rw [unhide hM]
  rintro e w1 ⟨rfl, rfl⟩
  go_wp2
  go_ret2
  exact ⟨rfl, rfl⟩
theorem spread_zero (a : Option Addr) (cap : Nat) (v : List Int) (w : World) (hr : Row w a v) (h6 : v.length ≤ 6) :
    Calls Tryd.prog 20 #[.slice a v.length cap, .int .i64 0] w fun e w' => ∃ p l, e = .returned (.tuple #[p, .nilIface]) ∧ Has w' w.heap.size p l ∧ Hid (Near v 0 l) ∧ Below w.heap.size w w' := by
  go_enter Tryd.func20, Tryd.ntmps20
  go_wp2_with (at_make; refine wpList_mk _ rfl _ rfl v.length rfl (by omega) ?_; intro w2 hv2 hb2)
  go_ret2
  exact ⟨_, _, rfl, hv2, near_zero v, hb2⟩

set_option maxRecDepth 100000 in
set_option maxHeartbeats 16000000 in
theorem spread_some (a : Option Addr) (cap : Nat) (v : List Int) (k : Nat) (w : World) (hr : Row w a v) (h6 : v.length ≤ 6) (hi : In 4000 v) (hk : 0 < k) (hk8 : k ≤ 8) (hM0 : Hid (0 < loud v)) :
    Calls Tryd.prog 20 #[.slice a v.length cap, .int .i64 k] w fun e w' => ∃ p l, e = .returned (.tuple #[p, .nilIface]) ∧ Has w' w.heap.size p l ∧ Hid (Near v k l) ∧ Below w.heap.size w w' := by
  have hMle := loud_in (b := 4000) hi
  have hc1 := hide (dists a cap v w (by omega) hi hr)
  have HKL : Hid (k = 0 ∨ 0 < loud v) := hide (Or.inr (unhide hM0))
  have hL := lft_le k (unhide HKL)
  have hn0 : 0 < v.length := by
    rcases Nat.eq_zero_or_pos v.length with e | e
    · have := unhide hM0
      rw [loud_tot, e] at this
      simp [tot] at this
    · exact e
  obtain ⟨M, hM⟩ : ∃ M, loud v = M := ⟨_, rfl⟩
  have hM1 : 0 < M := by rw [← hM]; exact unhide hM0
  have hM9 : M ≤ 24000 := by omega
  rw [hM] at hc1
  have HM := hide hM
  have hMz : ((M : Int) == 0) = false := by simp; omega
  have hk0 : ((k : Int) == 0) = false := by simp; omega
  clear hM hMle
  go_enter Tryd.func20, Tryd.ntmps20
  go_wp2_with fail
  refine (unhide hc1).mono ?_
  rintro e w1 ⟨rfl, rfl⟩
  have hr1 := hr
  have hb1 := Below.refl w.heap.size w
  clear hc1
  go_wp2_with fail
  refine (wholes a cap v k M w h6 hi hk8 HM hM1 hM9 hr1).mono ?_
  rintro e w2 ⟨p, r, rfl, hp, hrs, ho, hb2⟩
  have hB2 := Below.chain hb1 hb2
  have hr2 := hr1.below hb2
  obtain ⟨N, hN⟩ : ∃ N, v.length = N := ⟨_, rfl⟩
  have HN := hide hN
  rw [hN] at hp hrs hL hn0 h6
  obtain ⟨gp, cp, ep, -, -, -, -⟩ := hp.one (by rw [upto_length]; exact hn0)
  obtain ⟨gr, cr, er, -, -, -, -⟩ := hrs.one (by rw [upto_length]; exact hn0)
  rw [upto_length] at ep er
  subst ep er
  have hrr := (hrs.inRow rfl).2
  have hp0 := hp.mono hb1.size
  clear hr1 hb1 hb2 hN
  go_wp2_with fail
  refine (first (some ⟨gr, 0, none⟩) N cr (rt v k) w2 h6 hn0 hrr).mono ?_
  rintro e w3 ⟨pl, s, rfl, hpl, HI, hb3⟩
  have hB3 := Below.chain hB2 hb3
  have hr3 := hr2.below hb3
  have hp3 := hp0.below hb3
  have hop := off_new hp0 hpl
  obtain ⟨gs, cs, es, hgs, -, hcs1, hcs2⟩ := hpl.one (by rw [upto_length]; exact hn0)
  rw [upto_length] at es hcs1
  subst es
  have hpl0 := hpl.mono hB2.size
  have hlc := hide (left (some ⟨gp, 0, none⟩) cp v k N w3 HN h6 hk8 HKL ((hp3.inRow rfl).2))
  obtain ⟨L, hLd⟩ : ∃ L, lft v k = L := ⟨_, rfl⟩
  rw [hLd] at hlc hL
  have HL := hide hLd
  clear hrs ho hrr hp hr2 hB2 hb3 hp0 hpl hLd hgs
  go_wp2_with fail
  refine (unhide hlc).mono ?_
  rintro e w4 ⟨rfl, rfl⟩
  clear hlc
  have hLz : (L : Int) ≤ (cs : Int) := by omega
  go_wp2
  go_loopw [44] (fun i wr => ∃ j : Nat, j ≤ L ∧ i = .int .i64 j ∧ Has wr w.heap.size (.slice (some ⟨gp, 0, none⟩) N cp) (upto (fun i => ((qt v k i + one (gt s j i) : Nat) : Int)) N) ∧ Has wr w.heap.size (.slice (some ⟨gs, 0, none⟩) N cs) (upto (fun t => (s t : Int)) N) ∧ Below w.heap.size w wr) (fun i _ => L - (intOf i).toNat)
  case atStart => exact ⟨0, Nat.zero_le _, rfl, by simpa [gt_zero, one] using hp3, hpl0, hB3⟩
  case round =>
    obtain ⟨j, hj, rfl, hpj, hsj, hBj⟩ := hrel
    clear hp3 hpl0 hB3 hr3
    by_cases hlt : j < L
    · have hjN : j < N := by omega
      obtain ⟨Q, hQ⟩ : ∃ Q, qt v k (s j) = Q := ⟨_, rfl⟩
      obtain ⟨p1, p2, p3⟩ := put_gt (qt v k) (unhide HI) hjN hQ
      have hQ8 : Q ≤ 8 := by
        have h1 := qt_le k (unhide HKL)
        have h2 := tot_one (f := qt v k) (n := v.length) (i := s j) (by rw [unhide HN]; exact p3)
        omega
      have c1 := hsj.get (j := j) (by rw [upto_length]; exact hjN)
      rw [upto_at _ hjN] at c1
      have c2 := hpj.get (j := s j) (by rw [upto_length]; exact p3)
      rw [p2] at c2
      have f2 := hpj.frozen (s j)
      have hg := (hpj.lt gp rfl).1
      obtain ⟨m1, m2⟩ := hpj.put (s j) ((Q + 1 : Nat) : Int)
      rw [p1] at m1
      have m3 := Has.beside hsj rfl hop.symm m2
      have m4 := Below.setCell (p := ⟨gp, s j, none⟩) hBj hg (.int .i64 ((Q + 1 : Nat) : Int))
      have M1 := hide m1
      have M3 := hide m3
      have M4 := hide m4
      clear p1 p2 hQ m1 m2 m3 m4 hpj hsj hBj hg
      obtain ⟨X, hX⟩ : ∃ X, s j = X := ⟨_, rfl⟩
      rw [hX] at c1 c2 p3 f2 M1 M3 M4
      obtain ⟨Q1, hQ1⟩ : ∃ Q1, Q + 1 = Q1 := ⟨_, rfl⟩
      rw [hQ1] at M1 M3 M4
      have eQ : IntKind.i64.wrap ((Q : Int) + 1) = (Q1 : Int) := by rw [← hQ1]; exact IntWalk.i64_in _ (by omega)
      have jz : (j : Int) < (L : Int) := by omega
      have Xz : (X : Int) < (N : Int) := by omega
      clear hX hQ1
      go_wp2
      go_roundw
      case rel => exact ⟨j + 1, by omega, by go_num, unhide M1, unhide M3, unhide M4⟩
      case measure => simp [intOf]; omega
    · obtain rfl : j = L := by omega
      have HP := hide (show Pick (rt v k) v.length (lft v k) (gt s j) from by rw [unhide HN, unhide HL]; exact gt_pick (unhide HI) j hL)
      obtain ⟨g, hg⟩ : ∃ g, gt s j = g := ⟨_, rfl⟩
      rw [hg] at hpj HP
      clear hg hsj HI hop
      have hvN : (v.length : Int) = (N : Int) := by rw [unhide HN]
      have hpm : Has wr w.heap.size (.slice (some ⟨gp, 0, none⟩) N cp) (mid (res v k g) (fun i => ((qt v k i + one (g i) : Nat) : Int)) N 0) := by rw [mid_zero]; exact hpj
      clear hpj
      go_wp2
      go_loopw [57] (fun i wr => ∃ j : Nat, j ≤ N ∧ i = .int .i64 j ∧ Has wr w.heap.size (.slice (some ⟨gp, 0, none⟩) N cp) (mid (res v k g) (fun i => ((qt v k i + one (g i) : Nat) : Int)) N j) ∧ Below w.heap.size w wr) (fun i _ => N - (intOf i).toNat)
      case atStart => exact ⟨0, Nat.zero_le _, rfl, hpm, hBj⟩
      case round =>
        obtain ⟨x, hx, rfl, hpx, hBx⟩ := hrel
        clear hpm hBj
        by_cases hlt : x < N
        · have hr5 := hr.below hBx
          obtain ⟨b, off, rfl, hb, hc⟩ := Mid.row_cell hr5 (by rw [unhide HN]; omega)
          have c1 := hc x (by rw [unhide HN]; exact hlt)
          have c2 := hpx.get (j := x) (by rw [mid_length]; exact hlt)
          rw [mid_at _ _ hlt] at c2
          have f2 := hpx.frozen x
          have hg := (hpx.lt gp rfl).1
          have HRS : Hid (res v k g x = (at0 v x).sign * ((qt v k x + one (g x) : Nat) : Int)) := hide rfl
          have hQ9 : qt v k x + one (g x) ≤ 9 := by
            have h1 := qt_le k (unhide HKL)
            have h2 := tot_one (f := qt v k) (n := v.length) (i := x) (by rw [unhide HN]; exact hlt)
            have h3 : one (g x) ≤ 1 := by unfold one; split <;> omega
            omega
          have HC := hide (fun W => compare (at0 v x) 0 W)
          rw [cf_sign] at HC
          obtain ⟨X, hX⟩ : ∃ X, at0 v x = X := ⟨_, rfl⟩
          rw [hX] at c1 HC HRS
          have hS : X.sign = -1 ∨ X.sign = 0 ∨ X.sign = 1 := by
            rcases Int.lt_trichotomy X 0 with e | e | e
            · exact Or.inl (Int.sign_eq_neg_one_of_neg e)
            · subst e; exact Or.inr (Or.inl rfl)
            · exact Or.inr (Or.inr (Int.sign_eq_one_of_pos e))
          obtain ⟨S, hS'⟩ : ∃ S, X.sign = S := ⟨_, rfl⟩
          rw [hS'] at HC HRS hS
          obtain ⟨Q, hQ⟩ : ∃ Q, qt v k x + one (g x) = Q := ⟨_, rfl⟩
          rw [hQ] at c2 HRS hQ9
          obtain ⟨R, hR⟩ : ∃ R, S * (Q : Int) = R := ⟨_, rfl⟩
          rw [hR] at HRS
          have hmul : IntKind.i64.wrap ((Q : Int) * S) = R := by
            rw [Int.mul_comm, hR]
            refine IntWalk.i64_in _ ?_
            rcases hS with e | e | e <;> (rw [e] at hR; omega)
          clear hX hS hS' hQ hR hc
          go_wp2
          go_region_with (go_at_call 46; refine (unhide HC _).mono ?_; rintro e w' ⟨rfl, rfl⟩)
          all_goals
            obtain ⟨m1, m2, m3⟩ := Mid.put_mid hpx hlt (unhide HRS) 1
            go_wp2
            go_roundw
            case rel => exact ⟨x + 1, by omega, by go_num, m1, m3 _ hBx hg⟩
            case measure => simp [intOf]; omega
        · obtain rfl : x = N := by omega
          rw [mid_all] at hpx
          have HNR : Hid (Near v k (upto (res v k g) x)) := hide ⟨g, unhide HP, by rw [unhide HN]⟩
          go_wp2
          go_ret2
          exact ⟨_, _, rfl, hpx, HNR, hBx⟩

theorem spread_ok (a : Option Addr) (cap : Nat) (v : List Int) (k : Nat) (w : World) (hr : Row w a v) (h6 : v.length ≤ 6) (hi : In 4000 v) (hk8 : k ≤ 8) (hM0 : Hid (k = 0 ∨ 0 < loud v)) :
    Calls Tryd.prog 20 #[.slice a v.length cap, .int .i64 k] w fun e w' => ∃ p l, e = .returned (.tuple #[p, .nilIface]) ∧ Has w' w.heap.size p l ∧ Hid (Near v k l) ∧ Below w.heap.size w w' := by
  rcases Nat.eq_zero_or_pos k with e | e
  · subst e
    exact spread_zero a cap v w hr h6
  · exact spread_some a cap v k w hr h6 hi e hk8 (hide (by have := unhide hM0; omega))

end Go.Proofs.YthkibjhhlcfceaiDoor.Nea

/-
  frame.Encode: by its contract.
-/
namespace Go.Proofs.YthkibjhhlcfceaiDoor.Frm
open Go.RowKit
open Go.Proofs.YthkibjhhlcfceaiDoor.Tre Go.Proofs.YthkibjhhlcfceaiDoor.Bnd Go.Proofs.YthkibjhhlcfceaiDoor.Pls Go.Proofs.YthkibjhhlcfceaiDoor.Gai Go.Proofs.YthkibjhhlcfceaiDoor.Shr Go.Proofs.YthkibjhhlcfceaiDoor.Ev
set_option linter.unusedVariables false

theorem enc_fault {l s : List Int} {B F : Int} {w w' : World} (h : encF l s B = F) (hF : F ≠ 0) (hb : Below w.heap.size w w') : EncSays l s B w (.returned (.tuple #[.slice none 0 0, .iface 47 (.int .i64 F)])) w' :=
  ⟨none, 0, [], by rw [h, errV_ne hF]; rfl, Or.inl rfl, Nat.le_refl _, by omega, Or.inl ⟨by rw [h]; exact hF, rfl⟩, hb⟩

set_option maxRecDepth 100000 in
set_option maxHeartbeats 8000000 in
theorem encode_on (a : Option Addr) (cap : Nat) (l : List Int) (b : Option Addr) (capb : Nat) (s : List Int) (B : Int) (w : World) (hr : Row w a l) (hs : Row w b s) (hc : Hid (cutF l s = 0)) (hB0 : 0 ≤ B) (hB4 : B ≤ 400) :
    Calls Tryd.prog 5 #[.slice a l.length cap, .slice b s.length capb, .int .i64 B] w fun e w' => EncSays l s B w e w' := by
  obtain ⟨h1, e1, e3⟩ := cutF_zero (unhide hc)
  obtain ⟨n0, n8, hsz, n32⟩ := bf_ok h1
  obtain ⟨k1, k2, hin⟩ := Lap.chk_zero e3
  have H1 := hide h1
  have HSZ := hide hsz
  have CBA := hide (bandsOf_ok a cap l b capb s w hr hs hc)
  have HLL := hide (Lap.lap_length k2)
  have hin2 := (Lap.lap_in (b := 1000) (by omega) hin).mono (c := 4000) (by omega)
  have HCU := hide (shaped_cuts (l := Lap.lap l) hsz (by rw [unhide HLL]; exact e1.symm))
  have HCL := hide (cuts_length (Lap.lap l) s)
  have HIN : Hid (∀ i, i < s.length → In 4000 (rowAt (cuts (Lap.lap l) s) i) ∧ (rowAt (cuts (Lap.lap l) s) i).length ≤ 6) := hide (fun i hi => by
    refine ⟨?_, ?_⟩
    · rw [cuts_at _ _ hi]
      exact (hin2.drop _).take _
    · have := (unhide HCU).2 i hi
      have := hsz i hi
      omega)
  have HGL : Hid (∀ i, i < s.length → _) := hide (fun i hi => given_low (ll := cuts (Lap.lap l) s) (B := B) hsz n8 hB0 (unhide HCL) hi)
  have HE4 : Hid (∀ i, i < s.length → 8000 < loud (rowAt (cuts (Lap.lap l) s) i) → encF l s B = 4) := hide (fun i hi h => by
    unfold encF
    rw [if_pos h1, if_pos ⟨e1, by omega⟩, if_pos ⟨any_of_in hin, hB0, hB4⟩, if_pos]
    refine List.any_eq_true.2 ⟨rowAt (cuts (Lap.lap l) s) i, ?_, by simp [tooLoud, h]⟩
    rw [rowAt_get (by rw [unhide HCL]; exact hi)]
    exact List.getElem_mem _)
  have HE0 : Hid ((∀ i, i < s.length → loud (rowAt (cuts (Lap.lap l) s) i) ≤ 8000) → encF l s B = 0) := hide (fun h => encF_zero.2 ⟨h1, e1, by omega, hin, hB0, hB4, h⟩)
  have HMD : Hid (∀ ps : List Prt, ps.length = s.length → (∀ i, i < s.length → (prt ps i).1 = at0 (gls (cuts (Lap.lap l) s)) i ∧ Nea.Near (rowAt (cuts (Lap.lap l) s) i) (at0 (given (gls (cuts (Lap.lap l) s)) s B) i).toNat (prt ps i).2) → Made (cuts (Lap.lap l) s) s B ps) := hide (fun ps h1 h2 => by
    refine ⟨by rw [h1, unhide HCL], fun i hi => ?_⟩
    rw [unhide HCL] at hi
    obtain ⟨g1, g2⟩ := h2 i hi
    rw [gls_at (by rw [unhide HCL]; exact hi)] at g1
    exact ⟨g1, g2⟩)
  have HGA : Hid (∀ i, i < s.length → at0 (gls (cuts (Lap.lap l) s)) i = (gi (loud (rowAt (cuts (Lap.lap l) s) i)) : Int)) := hide (fun i hi => gls_at (by rw [unhide HCL]; exact hi))
  have HGN := hide (gls_length (cuts (Lap.lap l) s))
  rw [unhide HCL] at HGN
  have CGN := hide (fun W A C h => gainsOnly A C (cuts (Lap.lap l) s) W h (by rw [unhide HCL]; exact n8) (hide (fun i hi => unhide HIN i (by rw [unhide HCL] at hi; exact hi))))
  obtain ⟨ll, hll⟩ : ∃ ll, cuts (Lap.lap l) s = ll := ⟨_, rfl⟩
  rw [hll] at CBA HCU HCL HIN HGL HE4 HE0 HMD HGA HGN CGN
  have HOK : Hid (encF l s B = 0 → ∀ ps p q w', Pts w' p ps → ps.length ≤ q → q ≤ 9223372036854775807 → Made ll s B ps → Below w.heap.size w w' → EncSays l s B w (.returned (.tuple #[.slice p ps.length q, .nilIface])) w') := hide (fun h ps p q w' h1 h2 h3 h4 h5 => ⟨p, q, ps, by rw [h]; rfl, h1, h2, h3, Or.inr ⟨h, by rw [hll]; exact h4⟩, h5⟩)
  have HNO : Hid (encF l s B = 4 → ∀ w', Below w.heap.size w w' → EncSays l s B w (.returned (.tuple #[.slice none 0 0, .iface 47 (.int .i64 4)])) w') := hide (fun h w' hb => enc_fault h (by omega) hb)
  obtain ⟨M, hM⟩ : ∃ M, l.length = M := ⟨_, rfl⟩
  rw [hM] at CBA ⊢
  obtain ⟨N, hN⟩ : ∃ N, s.length = N := ⟨_, rfl⟩
  have HN := hide hN
  rw [hN] at CBA HCL HIN HGL HE4 HE0 HMD HGA HGN n0 n8 ⊢
  have d1 : decide (B < 0) = false := by simp; omega
  have d2 : decide (400 < B) = false := by simp; omega
  clear hll hM hN e1 e3 k1 k2 hin hin2 hsz hc n32 h1 HCU HLL
  go_enter Tryd.func5, Tryd.ntmps5
  go_wp2_with fail
  refine (unhide CBA).mono ?_
  rintro e w1 ⟨A1, rfl, r1, hb1⟩
  have CG := unhide CGN w1 A1 N r1
  rw [unhide HCL] at CG
  clear CBA CGN
  go_wp2_with fail
  refine CG.mono ?_
  clear CG
  rintro e w2 ⟨hsay, hb2⟩
  have hB2 := Below.chain hb1 hb2
  rcases hsay with ⟨⟨i, hi, hi8⟩, rfl⟩ | ⟨hlo, v2, rfl, k2⟩
  · have HP := hide (unhide HNO (unhide HE4 i (by rw [← unhide HCL]; exact hi) hi8) w2 hB2)
    clear HNO HOK HE4 HE0 HMD HGA HGL hi hi8
    go_wp2
    go_ret2
    exact unhide HP
  · rw [unhide HCL] at hlo k2
    have HE := hide (unhide HE0 hlo)
    have HLO := hide hlo
    have HQL := hide (q0_length (gs := gls ll) (k := N) (by rw [unhide HGN]; exact Nat.le_refl _))
    obtain ⟨g, c, rfl, hg1, hg2, -, -⟩ := k2.one (by rw [unhide HQL]; exact n0)
    obtain ⟨a5, c5, ee, pt5, -, -⟩ := k2.pts (ps := bare (gls ll)) (by rw [bare_length, unhide HGN, unhide HQL]) (fun r hr => by
      rw [bare_length, unhide HGN] at hr
      rw [bare_at (by rw [unhide HGN]; exact hr)]
      exact ⟨_, q0_at hr (by rw [unhide HGN]; exact Nat.le_refl _), sli_nil _⟩)
    obtain ⟨ea, eb, ec⟩ := Value.slice.inj ee
    subst ea ec
    have CGV := pulsesFor (some ⟨g, 0, none⟩) c (bare (gls ll)) b capb s B w2 pt5 (hs.below hB2) H1 (by rw [bare_length, unhide HGN, unhide HN]) (hide (fun i hi => by
      rw [bare_length, unhide HGN] at hi
      rw [bare_at (by rw [unhide HGN]; exact hi), unhide HGA i hi]
      have h := gi_near (unhide HLO i hi)
      unfold gok
      rw [Int.toNat_natCast, h.2.1]
      simp
      omega))
    rw [bare_length, unhide HGN, unhide HN] at CGV
    have HBG := hide (bare_gns (gls ll))
    rw [unhide HQL]
    have HA0 : Hid (∀ r, r < N → ∃ V, (q0 (gls ll) N)[r]? = some (at0 (gls ll) r, V)) := hide (fun r hr => ⟨_, q0_at hr (by rw [unhide HGN]; exact Nat.le_refl _)⟩)
    have HGVL : Hid ((given (gls ll) s B).length = N) := hide (by rw [(given_is (gs := gls ll) (unhide HSZ) (by rw [unhide HN]; exact n8) hB0).len, unhide HN])
    obtain ⟨gs, hgs⟩ : ∃ gs, gls ll = gs := ⟨_, rfl⟩
    rw [hgs] at CGV HA0 HGVL HGL HMD k2 HQL HGN HBG
    obtain ⟨gv, hgv⟩ : ∃ gv, given gs s B = gv := ⟨_, rfl⟩
    have HGV := hide hgv
    rw [hgv] at HGVL HGL HMD
    obtain ⟨qs0, hqs⟩ : ∃ qs0, q0 gs N = qs0 := ⟨_, rfl⟩
    rw [hqs] at HA0 k2 HQL
    rw [unhide HQL] at k2
    clear hgs hgv hqs ee eb pt5 HE0 HE4 HLO HGA HNO hlo hB2
    go_wp2_with fail
    refine CGV.mono ?_
    rintro e w3 ⟨hsay, hb3⟩
    clear CGV
    rcases hsay with ⟨hno, -⟩ | ⟨-, v3, rfl, k3⟩
    · exact absurd ⟨hB0, hB4⟩ hno
    rw [unhide HBG, unhide HGV] at k3
    have hB3 := Below.chain hb2 hb3
    have k2' := k2.below hb3
    have hgw : g < w3.heap.size := Nat.lt_of_lt_of_le hg2 hb3.size
    obtain ⟨g7, c7, rfl, hg7, hg8, -, -⟩ := k3.one (by rw [unhide HGVL]; exact n0)
    rw [unhide HGVL]
    obtain ⟨n5, hn5⟩ : ∃ n5, w2.heap.size = n5 := ⟨_, rfl⟩
    rw [hn5] at k3 hg2 hg7
    rw [unhide HGVL] at k3
    clear k2 hb3 hb2 hn5 HBG HGV
    go_wp2
    go_loopw [50] (fun i wq => ∃ (j : Nat) (qs : List (Int × Value)), j ≤ N ∧ i = .int .i64 j ∧ HasP wq w1.heap.size (.slice (some ⟨g, 0, none⟩) N c) qs ∧ Hid (qs.length = N) ∧ Hid (∀ r, r < N → ∃ V, qs[r]? = some (at0 gs r, V)) ∧
        Hid (∀ r, r < j → ∃ V l, qs[r]? = some (at0 gs r, V) ∧ Has wq w3.heap.size V l ∧ Nea.Near (rowAt ll r) (at0 gv r).toNat l) ∧ Has wq n5 (.slice (some ⟨g7, 0, none⟩) N c7) gv ∧ Below w1.heap.size w1 wq ∧ w3.heap.size ≤ wq.heap.size) (fun i _ => N - (intOf i).toNat)
    case atStart => exact ⟨0, qs0, Nat.zero_le _, rfl, k2', HQL, HA0, hide (fun r hr => by omega), k3, hB3, Nat.le_refl _⟩
    case round =>
      clear k2' HQL HA0 k3 hB3
      rename World => wq
      obtain ⟨j, qs, hj, rfl, hS, HQ, HA, HD, hK, hB, hsq⟩ := hrel
      by_cases hlt : j < N
      · have hlt' : j < ll.length := by rw [unhide HCL]; exact hlt
        obtain ⟨b1, off1, rfl, _, hc1⟩ := (r1.below hB).at hlt'
        obtain ⟨A, C, c1, c2, c3, c4, c5⟩ := hc1 j hlt'
        obtain ⟨i1, i2⟩ := unhide HIN j hlt
        obtain ⟨l1, l2, l3⟩ := unhide HGL j hlt
        have ck := hK.get (j := j) (by rw [unhide HGVL]; exact hlt)
        obtain ⟨V0, hV0⟩ := unhide HA j hlt
        obtain ⟨K, hKK⟩ : ∃ K : Nat, at0 gv j = K := ⟨(at0 gv j).toNat, by omega⟩
        have HK := hide hKK
        rw [hKK] at l2 l3 ck
        rw [Int.toNat_natCast] at l3
        obtain ⟨r, hrr⟩ : ∃ r, rowAt ll j = r := ⟨_, rfl⟩
        have HRR := hide hrr
        rw [hrr] at c1 c3 c5 i1 i2 l3
        have CNE := hide (Nea.spread_ok A C r K wq c5 i2 i1 (by omega) (hide l3))
        obtain ⟨R, hR⟩ : ∃ R, r.length = R := ⟨_, rfl⟩
        rw [hR] at c1 c3 CNE i2
        clear hc1 hrr hR hKK hlt' c2 c5 i1 l1 l3
        go_wp2_with fail
        refine (unhide CNE).mono ?_
        rintro e w9 ⟨v9, l9, rfl, k9, HN9, hbb⟩
        obtain ⟨pa, na, ca, rfl⟩ := k9.shape
        have hS9 := hS.below hbb
        have f9 := hS9.frozen (unhide HQ).symm (j * 2 + 1)
        obtain ⟨-, o9⟩ := hS9.get (unhide HQ).symm hV0
        obtain ⟨m1, m2, m3⟩ := parts_put (P := fun r l => Nea.Near (rowAt ll r) (at0 gv r).toNat l) hS (unhide HQ) hlt hgw hsq (unhide HA) (unhide HD) k9 (by show Nea.Near (rowAt ll j) (at0 gv j).toNat l9; rw [unhide HRR, unhide HK, Int.toNat_natCast]; exact unhide HN9) hbb
        have HQ2 : Hid ((qs.set j (at0 gs j, .slice pa na ca)).length = N) := hide (by rw [List.length_set]; exact unhide HQ)
        have hK9 := (hK.below hbb).kept (grownBy_setCellAt w9 g (j * 2 + 1) (.slice pa na ca)) (Or.inr (by intro e; have e2 : g7 = g := Option.some.inj e; omega))
        have hB9 := (hB.trans (hbb.mono hB.size)).setCell (p := ⟨g, j * 2 + 1, none⟩) hg1 (.slice pa na ca)
        have hs9 : w3.heap.size ≤ (w9.setCell ⟨g, j * 2 + 1, none⟩ (.slice pa na ca)).heap.size := by simpa using Nat.le_trans hsq hbb.size
        have Q1 := hide m1
        have Q2 := hide m2
        have Q3 := hide m3
        have Q4 := hide hK9
        have Q5 := hide hB9
        have Q6 := hide hs9
        clear m1 m2 m3 hK9 hB9 hs9 CNE
        go_wp2
        go_roundw
        case rel => exact ⟨j + 1, _, by omega, by go_num, unhide Q1, HQ2, Q2, Q3, unhide Q4, unhide Q5, unhide Q6⟩
        case measure => simp [intOf]; omega
      · obtain rfl : j = N := by omega
        obtain ⟨ps, y1, y2, aa, cc, ye, y3, y4, y5⟩ := parts_done hS (by rw [unhide HQ, unhide HGN]) (fun r hr => unhide HD r (by rw [← unhide HGN]; exact hr))
        have HM : Hid (Made ll s B ps) := hide (unhide HMD ps (by rw [y1, unhide HGN]) (fun i hi => y2 i (by rw [unhide HGN]; exact hi)))
        have HP := hide (unhide HOK (unhide HE) ps aa cc wq y3 y4 y5 (unhide HM) (Below.chain hb1 hB))
        rw [← ye] at HP
        clear y1 y2 y3 y4 y5 ye HM
        go_wp2
        go_ret2
        exact unhide HP

set_option maxRecDepth 100000 in
set_option maxHeartbeats 4000000 in
theorem encode (a : Option Addr) (cap : Nat) (l : List Int) (b : Option Addr) (capb : Nat) (s : List Int) (B : Int) (w : World) (hr : Row w a l) (hs : Row w b s) (zl : l.length ≤ 9223372036854775807) (zs : s.length ≤ 17592186044416) :
    Calls Tryd.prog 5 #[.slice a l.length cap, .slice b s.length capb, .int .i64 B] w fun e w' => EncSays l s B w e w' := by
  by_cases hc : cutF l s = 0
  · have HF : Hid (¬ (0 ≤ B ∧ B ≤ 400) → ∀ w', Below w.heap.size w w' → EncSays l s B w (.returned (.tuple #[.slice none 0 0, .iface 47 (.int .i64 1)])) w') := hide (fun h w' hb => enc_fault (by
      obtain ⟨h1, e1, e3⟩ := cutF_zero hc
      obtain ⟨n0, n8, hsz, n32⟩ := bf_ok h1
      obtain ⟨k1, k2, hin⟩ := Lap.chk_zero e3
      unfold encF
      rw [if_pos h1, if_pos ⟨e1, by omega⟩, if_neg (fun h' => h h'.2)]) (by omega) hb)
    have CBA := hide (bandsOf_ok a cap l b capb s w hr hs (hide hc))
    obtain ⟨ll, hll⟩ : ∃ ll, cuts (Lap.lap l) s = ll := ⟨_, rfl⟩
    rw [hll] at CBA
    by_cases h1 : B < 0
    · have d1 : decide (B < 0) = true := by simpa using h1
      have HP := hide (unhide HF (by omega))
      obtain ⟨M, hM⟩ : ∃ M, l.length = M := ⟨_, rfl⟩
      obtain ⟨N, hN⟩ : ∃ N, s.length = N := ⟨_, rfl⟩
      rw [hM, hN] at CBA ⊢
      clear HF hll hM hN hc zl zs
      go_enter Tryd.func5, Tryd.ntmps5
      go_wp2_with fail
      refine (unhide CBA).mono ?_
      rintro e w1 ⟨A1, rfl, r1, hb1⟩
      go_wp2
      go_ret2
      exact unhide HP _ hb1
    · by_cases h2 : 400 < B
      · have d1 : decide (B < 0) = false := by simpa using h1
        have d2 : decide (400 < B) = true := by simpa using h2
        have HP := hide (unhide HF (by omega))
        obtain ⟨M, hM⟩ : ∃ M, l.length = M := ⟨_, rfl⟩
        obtain ⟨N, hN⟩ : ∃ N, s.length = N := ⟨_, rfl⟩
        rw [hM, hN] at CBA ⊢
        clear HF hll hM hN hc zl zs
        go_enter Tryd.func5, Tryd.ntmps5
        go_wp2_with fail
        refine (unhide CBA).mono ?_
        rintro e w1 ⟨A1, rfl, r1, hb1⟩
        go_wp2
        go_ret2
        exact unhide HP _ hb1
      · exact encode_on a cap l b capb s B w hr hs (hide hc) (by omega) (by omega)
  · have CBA := hide (bandsOf_no a cap l b capb s w hr hs zl (by omega) (hide hc))
    have HP : Hid (∀ w', Below w.heap.size w w' → EncSays l s B w (.returned (.tuple #[.slice none 0 0, .iface 47 (.int .i64 (cutF l s))])) w') := hide (fun w' hb => enc_fault (cutF_enc B hc) hc hb)
    obtain ⟨F, hF⟩ : ∃ F, cutF l s = F := ⟨_, rfl⟩
    rw [hF] at CBA HP
    obtain ⟨M, hM⟩ : ∃ M, l.length = M := ⟨_, rfl⟩
    obtain ⟨N, hN⟩ : ∃ N, s.length = N := ⟨_, rfl⟩
    rw [hM, hN] at CBA ⊢
    clear hF hM hN hc zl zs
    go_enter Tryd.func5, Tryd.ntmps5
    go_wp2_with fail
    refine (unhide CBA).mono ?_
    rintro e w1 ⟨rfl, hb1⟩
    go_wp2
    go_ret2
    exact unhide HP _ hb1

end Go.Proofs.YthkibjhhlcfceaiDoor.Frm

/-
  Frames part by part: their faults and what they tell. No program here.
-/
namespace Go.Proofs.YthkibjhhlcfceaiDoor.Frm
open Go.Proofs.YthkibjhhlcfceaiDoor.Tre Go.Proofs.YthkibjhhlcfceaiDoor.Bnd Go.Proofs.YthkibjhhlcfceaiDoor.Pls Go.Proofs.YthkibjhhlcfceaiDoor.Gai Go.Proofs.YthkibjhhlcfceaiDoor.Shr
set_option linter.unusedVariables false

theorem drop_prt {ps : List Prt} {k : Nat} (h : k < ps.length) : ps.drop k = prt ps k :: ps.drop (k + 1) := by
  rw [List.drop_eq_getElem_cons h, prt_get h]
theorem oneF_zero {ps : List Prt} : oneF ps = 0 → ∀ i, i < ps.length → gok (prt ps i).1 = true ∧ fault (prt ps i).2 = 0 := by
  induction ps with
  | nil => intro _ i hi; simp at hi
  | cons p ps ih =>
    intro h i hi
    rw [oneF] at h
    split at h
    · rename_i h1
      split at h
      · rename_i h2
        cases i with
        | zero => exact ⟨h1, h2⟩
        | succ i => exact ih h i (by simpa using hi)
      · exact absurd h (by assumption)
    · omega
theorem oneF_none {ps : List Prt} (h : ∀ i, i < ps.length → gok (prt ps i).1 = true ∧ fault (prt ps i).2 = 0) : oneF ps = 0 := by
  induction ps with
  | nil => rfl
  | cons p ps ih =>
    have h0 : gok p.1 = true ∧ fault p.2 = 0 := h 0 (by simp)
    rw [oneF, if_pos h0.1, if_pos h0.2]
    exact ih fun i hi => h (i + 1) (by simpa using hi)

theorem frm_bf {ps : List Prt} {s : List Int} {B : Int} (h : bf s ≠ 0) : FrmF ps s B (bf s) := Or.inl ⟨h, rfl⟩
theorem frm_len {ps : List Prt} {s : List Int} {B : Int} (h : bf s = 0) (h2 : ps.length ≠ s.length) : FrmF ps s B 3 := Or.inr ⟨h, Or.inl ⟨h2, rfl⟩⟩
theorem frm_fit {ps : List Prt} {s : List Int} {B : Int} (h : bf s = 0) (h2 : ps.length = s.length) (h3 : ¬ Fits ps s) : FrmF ps s B 3 := Or.inr ⟨h, Or.inr ⟨h2, Or.inl ⟨h3, rfl⟩⟩⟩
theorem frm_one {ps : List Prt} {s : List Int} {B : Int} (h : bf s = 0) (h2 : ps.length = s.length) (h3 : Fits ps s) (h4 : oneF ps ≠ 0) : FrmF ps s B (oneF ps) := Or.inr ⟨h, Or.inr ⟨h2, Or.inr ⟨h3, Or.inl ⟨h4, rfl⟩⟩⟩⟩
theorem frm_bits {ps : List Prt} {s : List Int} {B : Int} (h : bf s = 0) (h2 : ps.length = s.length) (h3 : Fits ps s) (h4 : oneF ps = 0) (h5 : ¬ (0 ≤ B ∧ B ≤ 400)) : FrmF ps s B 1 := Or.inr ⟨h, Or.inr ⟨h2, Or.inr ⟨h3, Or.inr ⟨h4, Or.inl ⟨h5, rfl⟩⟩⟩⟩⟩
theorem frm_gets {ps : List Prt} {s : List Int} {B : Int} (h : bf s = 0) (h2 : ps.length = s.length) (h3 : Fits ps s) (h4 : oneF ps = 0) (h5 : 0 ≤ B ∧ B ≤ 400) (h6 : ¬ Gets ps (given (gns ps) s B)) : FrmF ps s B 3 := Or.inr ⟨h, Or.inr ⟨h2, Or.inr ⟨h3, Or.inr ⟨h4, Or.inr ⟨h5, Or.inl ⟨h6, rfl⟩⟩⟩⟩⟩⟩
theorem frm_ok {ps : List Prt} {s : List Int} {B : Int} (h : bf s = 0) (h2 : ps.length = s.length) (h3 : Fits ps s) (h4 : oneF ps = 0) (h5 : 0 ≤ B ∧ B ≤ 400) (h6 : Gets ps (given (gns ps) s B)) : FrmF ps s B 0 := Or.inr ⟨h, Or.inr ⟨h2, Or.inr ⟨h3, Or.inr ⟨h4, Or.inr ⟨h5, Or.inr ⟨h6, rfl⟩⟩⟩⟩⟩⟩

theorem take_prt {ps : List Prt} {k : Nat} (h : k < ps.length) : ps.take (k + 1) = ps.take k ++ [prt ps k] := by
  rw [List.take_succ_eq_append_getElem h, prt_get h]
theorem all_step {ps : List Prt} {k : Nat} (h : k < ps.length) : all (ps.take (k + 1)) = all (ps.take k) ++ told (prt ps k) := by
  unfold all
  rw [take_prt h, List.map_append, List.flatten_append]
  simp
theorem long_step {ps : List Prt} {k : Nat} (h : k < ps.length) : long (ps.take (k + 1)) = long (ps.take k) + (prt ps k).2.length := by
  unfold long
  rw [take_prt h, List.map_append, List.sum_append]
  simp
theorem long_mono (ps : List Prt) {k m : Nat} (h : k ≤ m) : long (ps.take k) ≤ long (ps.take m) := by
  induction m with
  | zero => obtain rfl : k = 0 := by omega
            exact Nat.le_refl _
  | succ m ih =>
    by_cases e : k = m + 1
    · subst e; exact Nat.le_refl _
    · have h1 := ih (by omega)
      by_cases hm : m < ps.length
      · rw [long_step hm]; omega
      · rw [List.take_of_length_le (l := ps) (i := m + 1) (by omega), ← List.take_of_length_le (l := ps) (i := m) (by omega)]
        rw [List.take_of_length_le (l := ps) (i := m) (by omega)] at h1 ⊢
        exact h1
theorem told_step {p : Prt} {j : Nat} (h : j < p.2.length) : (told p).take (j + 1) = (told p).take j ++ [tl (vl p.1.toNat) (loud p.2) (at0 p.2 j)] := by
  have e : at0 p.2 j = p.2[j] := by simp [at0, h]
  rw [List.take_succ_eq_append_getElem (by rw [told_length]; exact h), e]
  simp [told]
theorem twoF_zero {ps : List Prt} : twoF ps = 0 → ∀ i, i < ps.length → gok (prt ps i).1 = true ∧ fault (prt ps i).2 = 0 := by
  induction ps with
  | nil => intro _ i hi; simp at hi
  | cons p ps ih =>
    intro h i hi
    rw [twoF] at h
    split at h
    · rename_i h1
      split at h
      · rename_i h2
        cases i with
        | zero => exact ⟨h2, h1⟩
        | succ i => exact ih h i (by simpa using hi)
      · omega
    · exact absurd h (by assumption)
theorem twoF_none {ps : List Prt} (h : ∀ i, i < ps.length → gok (prt ps i).1 = true ∧ fault (prt ps i).2 = 0) : twoF ps = 0 := by
  induction ps with
  | nil => rfl
  | cons p ps ih =>
    have h0 : gok p.1 = true ∧ fault p.2 = 0 := h 0 (by simp)
    rw [twoF, if_pos h0.2, if_pos h0.1]
    exact ih fun i hi => h (i + 1) (by simpa using hi)
theorem loud_at {l : List Int} {j : Nat} (h : j < l.length) : (at0 l j).natAbs ≤ loud l := by
  induction l generalizing j with
  | nil => simp at h
  | cons x l ih =>
    cases j with
    | zero => simp [at0, loud]
    | succ j =>
      have := ih (j := j) (by simpa using h)
      simp only [loud]
      have e : at0 (x :: l) (j + 1) = at0 l j := by simp [at0]
      rw [e]
      omega
theorem tl_neg {v k x : Int} (h : x < 0) : tl v k x = -((x.natAbs : Int) * v / k) := by
  unfold tl
  rw [Int.sign_eq_neg_one_of_neg h]
  omega
theorem tl_pos {v k x : Int} (h : 0 ≤ x) : tl v k x = (x.natAbs : Int) * v / k := by
  unfold tl
  by_cases e : x = 0
  · subst e; simp
  · rw [Int.sign_eq_one_of_pos (by omega)]; omega
theorem tl_zero (v x : Int) : tl v 0 x = 0 := by simp [tl]

/-- A quotient towards 0. -/
theorem tl_quo {v k x : Int} (hv : 0 ≤ v) (hk : 0 < k) : Int.tdiv (x * v) k = tl v k x := by
  by_cases h : x < 0
  · rw [tl_neg h]
    have e : x * v = -((x.natAbs : Int) * v) := by
      rw [← Int.neg_mul]
      congr 1
      omega
    rw [e, Int.neg_tdiv, Int.tdiv_eq_ediv_of_nonneg (Int.mul_nonneg (by omega) hv)]
  · rw [tl_pos (by omega), Int.tdiv_eq_ediv_of_nonneg (Int.mul_nonneg (by omega) hv)]
    congr 2
    omega
theorem told_none {p : Prt} (h : loud p.2 = 0) : told p = upto (fun _ => 0) p.2.length := by
  refine eq_of_at (by rw [told_length, upto_length]) fun i hi => ?_
  rw [told_length] at hi
  rw [upto_at _ hi]
  unfold told at0
  rw [List.getElem?_map, List.getElem?_eq_getElem hi, h]
  simp [tl]
theorem told_upto (p : Prt) : told p = upto (fun i => tl (vl p.1.toNat) (loud p.2) (at0 p.2 i)) p.2.length := by
  refine eq_of_at (by rw [told_length, upto_length]) fun i hi => ?_
  rw [told_length] at hi
  rw [upto_at _ hi]
  unfold told at0
  rw [List.getElem?_map, List.getElem?_eq_getElem hi]
  rfl

end Go.Proofs.YthkibjhhlcfceaiDoor.Frm
