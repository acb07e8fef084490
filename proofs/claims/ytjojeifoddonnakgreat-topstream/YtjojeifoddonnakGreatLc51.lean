/-
  The landed log's Put: by its contract.
-/
import Derived.Test.YtjojeifoddonnakGreatLc48
import Derived.Test.YtjojeifoddonnakGreatLc47
namespace Go.Proofs.YtjojeifoddonnakGreat.Lg19
open Go.RowKit
open Go.Proofs.YtjojeifoddonnakGreat.Tre Go.Proofs.YtjojeifoddonnakGreat.Bnd Go.Proofs.YtjojeifoddonnakGreat.Frm Go.Proofs.YtjojeifoddonnakGreat.Pck Go.Proofs.YtjojeifoddonnakGreat.Hrn Go.Proofs.YtjojeifoddonnakGreat.Ev
set_option linter.unusedVariables false

def PutSays (s : List Int) (B : Int) (Q : Nat → Prop) (W : World) (b : Nat) (L : St) (x : ByteArray) (e : Ending) (W' : World) : Prop := ∃ E L', e = .returned (errV E) ∧ PutF s B L x E L' ∧ Left LH s B Q W b L' W'
section
variable {s : List Int} {B : Int} {Q : Nat → Prop} {W : World} {b : Nat} {a : Option Addr} {cap : Nat} {vd : Value} {D : List Int} {L : St} {lf : Int} {x : ByteArray}
theorem put_same (hM : LgM s B Q W b a cap vd D L.s lf L.st) (hI : Inv L D lf) (h0 : Hid18.newF s B = 0) (hlf : lf ≤ 9223372036854775807) {E : Int} {W' : World} (hp : PutF s B L x E L) (hb : Below W.heap.size W W') : PutSays s B Q W b L x (.returned (errV E)) W' :=
  ⟨E, L, rfl, hp, Q, ⟨a, cap, vd, D, lf, hM.below hb, hI, h0, hlf⟩, fun k hk => Or.inl hk, Keeps.of_below hb⟩
theorem put_left {w4 w5 : World} {v' : Value} {D' : List Int} {l2 : Int} {st2 : Bool} {L' : St} (hM : LgM s B Q w4 b a cap vd D L.s l2 st2) (hK : Keeps Q W w4) (h0 : Hid18.newF s B = 0) (hlf : l2 ≤ 9223372036854775807)
    (hv : HasY w5 0 v' D') (hg : w4.grownBy w5 vd.ownBlock) (hat : v'.ownBlock = vd.ownBlock ∨ v'.ownBlock = some w4.heap.size) (hI : Inv L' D' l2) (hs : L'.s = L.s) (ht : L'.st = st2) : Left LH s B Q W b L' (w5.setCell ⟨b, 2, none⟩ v') := by
  have hA := hM.app hv hg hat
  rw [← hs, ← ht] at hA
  refine ⟨_, ⟨a, cap, v', D', l2, hA, hI, h0, hlf⟩, fun k hk => ?_, ?_⟩
  · rcases hk with hk | hk
    · exact Or.inl hk
    · exact Or.inr (Nat.le_trans hK.size hk.1)
  · exact (hK.trans (Keeps.grown hg (fun k e => (hM.dow k e).1)) (fun j hj => Or.inl hj)).trans (Keeps.but (Q := Q) (Hid18.But.set _ _) hM.own) (fun j hj => Or.inl hj)
theorem put_yes {w4 w5 : World} {v' : Value} {l2 : Int} {ps : List Prt} (hM : LgM s B Q w4 b a cap vd D L.s l2 false) (hK : Keeps Q W w4) (hI : Inv L D lf) (h0 : Hid18.newF s B = 0) (hlf : l2 ≤ 9223372036854775807) (hst : L.st = false) (h20 : L.F.length < 20) (hu : UnpF (byt x) s B 0 ps) (hf : L.f ≠ some 0) (hl : steps l2 = L.f.map Nat.pred)
    (hv : HasY w5 0 v' (D ++ rcd x)) (hg : w4.grownBy w5 vd.ownBlock) (hat : v'.ownBlock = vd.ownBlock ∨ v'.ownBlock = some w4.heap.size) : PutSays s B Q W b L x (.returned (errV 0)) (w5.setCell ⟨b, 2, none⟩ v') := by
  obtain ⟨x1, x5⟩ := unp_sized hu h0
  exact ⟨0, _, rfl, Or.inr ⟨hst, Or.inr ⟨h20, 0, ps, hu, Or.inr ⟨rfl, Or.inr ⟨hf, rfl, ((x.size + 1 : Nat) : Int), by omega, by omega, rfl⟩⟩⟩⟩, put_left hM hK h0 hlf hv hg hat (hI.put hst h20 x1 x5 l2 hl) rfl rfl⟩
theorem put_half {w4 w5 : World} {v' : Value} {ps : List Prt} (hM : LgM s B Q w4 b a cap vd D L.s (-1) true) (hK : Keeps Q W w4) (hI : Inv L D lf) (h0 : Hid18.newF s B = 0) (hst : L.st = false) (h20 : L.F.length < 20) (hu : UnpF (byt x) s B 0 ps) (hf : L.f = some 0)
    (hv : HasY w5 0 v' (D ++ (rcd x).take ((x.size + 1) / 2))) (hg : w4.grownBy w5 vd.ownBlock) (hat : v'.ownBlock = vd.ownBlock ∨ v'.ownBlock = some w4.heap.size) : PutSays s B Q W b L x (.returned (errV 6)) (w5.setCell ⟨b, 2, none⟩ v') := by
  obtain ⟨x1, x5⟩ := unp_sized hu h0
  exact ⟨6, _, rfl, Or.inr ⟨hst, Or.inr ⟨h20, 0, ps, hu, Or.inr ⟨rfl, Or.inl ⟨hf, rfl, ((x.size + 1 : Nat) : Int), none, by omega, by omega, rfl⟩⟩⟩⟩, put_left hM hK h0 (by omega) hv hg hat (hI.half hst x1 x5) rfl rfl⟩
end

/-- A slice of this call's own is as it was where only the log's own block was written. -/
theorem set_kept {w : World} {b n i j : Nat} {v u z : Value} {m : List Int} (h : HasY w n v m) (hb : b < n) : HasY ((w.setCell ⟨b, i, none⟩ u).setCell ⟨b, j, none⟩ z) n v m := by
  have g := (Hid18.But.set (b := b) (j := i) w u).trans (Hid18.But.set (b := b) (j := j) _ z)
  exact HasYkept h (fun k e => g.block k (h.lt k e).2 (fun e2 => by have := (h.lt k e).1; cases e2; omega))
theorem LgM.lay_on {s : List Int} {B : Int} {Q : Nat → Prop} {W W' : World} {b : Nat} {a : Option Addr} {cap : Nat} {vd : Value} {D : List Int} {sf lf : Int} {st : Bool} (h : LgM s B Q W b a cap vd D sf lf st) (hg : W.grownBy W' vd.ownBlock) : LogB W' b (.slice a s.length cap) B vd sf lf st := (hg.block b h.lay.lt (fun e => (h.dow b e.symm).2 rfl)).trans h.lay

section
variable {s : List Int} {B : Int} {Q : Nat → Prop} {W : World} {b : Nat} {L : St}
set_option maxRecDepth 100000 in
set_option maxHeartbeats 16000000 in
theorem putL (x : ByteArray) (h : LH s B Q W b L) (zx : x.size ≤ 9223372036854775807) : Calls Tryz.prog 10 #[.pointer (some ⟨b, 0, none⟩), .string x] W fun e W' => PutSays s B Q W b L x e W' := by
  obtain ⟨a, cap, vd, D, lf, hM, hI, h0, hlf⟩ := h
  have c5 := hM.lay.c5
  by_cases hst : L.st = true
  · have HR := hide (put_same (x := x) (E := 6) hM hI h0 hlf (Or.inl ⟨hst, rfl, rfl⟩) (Below.refl _ _))
    rw [errV_ne (by omega)] at HR
    rw [hst] at c5
    clear hM hI h0 hlf hst
    go_enter Tryz.func10, Tryz.ntmps10
    go_wp2
    go_ret
    exact unhide HR
  · have hst : L.st = false := by simpa using hst
    have CA := hide (allL hM hI)
    by_cases hfew : L.F.length < 20
    · have s8 : s.length ≤ 8 := (bf_ok (Hid18.newF_zero.1 h0).1).2.1
      have CUN := hide (fun W h => unpack x a cap s B W zx h (by omega))
      unfold UnpSays at CUN
      have HNO : Hid (∀ E w' ps, UnpF (byt x) s B E ps → E ≠ 0 → Below W.heap.size W w' → PutSays s B Q W b L x (.returned (.iface 60 (.int .i64 E))) w') := hide (fun E w' ps hu hE hb => by
        have := put_same (x := x) (E := E) hM hI h0 hlf (Or.inr ⟨hst, Or.inr ⟨hfew, E, ps, hu, Or.inl ⟨hE, rfl, rfl⟩⟩⟩) hb
        rw [errV_ne hE] at this
        exact this)
      have HSZ : Hid (∀ ps, UnpF (byt x) s B 0 ps → 1 ≤ x.size ∧ x.size ≤ 50) := hide (fun ps hu => unp_sized hu h0)
      have hD9 := hI.long.1
      have HF := hide hI.f
      rw [hst] at hM c5
      have HYE := hide (fun w4 w5 v' l2 ps h1 h2 h3 hu hf hl hv hg hat => put_yes (x := x) (W := W) (w4 := w4) (w5 := w5) (v' := v') (l2 := l2) (ps := ps) (Q := Q) (b := b) (a := a) (cap := cap) (vd := vd) h1 h2 hI h0 h3 hst hfew hu hf hl hv hg hat)
      have HHA := hide (fun w4 w5 v' ps h1 h2 hu hf hv hg hat => put_half (x := x) (W := W) (w4 := w4) (w5 := w5) (v' := v') (ps := ps) (Q := Q) (b := b) (a := a) (cap := cap) (vd := vd) h1 h2 hI h0 hst hfew hu hf hv hg hat)
      have HM := hide hM
      have hs := hM.siz.row
      obtain ⟨MF, hMF⟩ : ∃ MF, L.F.length = MF := ⟨_, rfl⟩
      have HMF := hide hMF
      rw [hMF] at hfew
      have d20 : decide ((20 : Int) ≤ (MF : Int)) = false := decide_eq_false (by omega)
      obtain ⟨NS, hNS⟩ : ∃ NS, s.length = NS := ⟨_, rfl⟩
      have HNS := hide hNS
      rw [hNS] at CUN
      clear hM hI h0 hst hMF hNS s8
      go_enter Tryz.func10, Tryz.ntmps10
      go_wp2_with fail
      refine (unhide CA).mono ?_
      rintro e w1 ⟨va, rfl, hva, hb1⟩
      obtain ⟨p1, q1, rfl, -⟩ := hva.shape
      rw [unhide HMF]
      have hM1 := (unhide HM).below hb1
      have c0 := hM1.lay.c0
      have c1 := hM1.lay.c1
      rw [unhide HNS] at c0
      have HM1 := hide hM1
      have hs1 := hs.below hb1
      have hsd : Row w1.drew a s := hs1
      have hdr : Below w1.heap.size w1 w1.drew := ⟨rfl, rfl, rfl, Nat.le_refl _, fun _ _ => rfl⟩
      clear CA hva hM1 HM hs hs1 HMF HNS
      go_wp2
      go_region_with (
        go_at_call 34
        refine (unhide CUN _ hsd).mono ?_
        rintro e w2 ⟨E1, pu, qu, lu, rfl, P1, m1, m19, U1, hb2⟩)
      all_goals (
        have hB2 := hdr.trans hb2
        have hW2 := Below.chain hb1 hB2
        by_cases hE : E1 = 0
        · subst hE
          rw [errV_zero]
          obtain ⟨x1, x50⟩ := unhide HSZ lu U1
          have HU := hide U1
          have CR := hide (recordL x w2 x50)
          have hM2 := (unhide HM1).below hB2
          have HM2 := hide hM2
          obtain ⟨LU, hLU⟩ : ∃ LU, lu.length = LU := ⟨_, rfl⟩
          rw [hLU]
          clear hLU HNO HSZ U1 P1 m1 m19 CUN hM2 HM1 hdr hb2 c0 c1 c5 hsd
          go_wp2_with fail
          refine (unhide CR).mono ?_
          rintro e w3 ⟨vr, rfl, hvr, hb3⟩
          have hW3 := Below.chain hW2 hb3
          have hM3 := (unhide HM2).below hb3
          have HM3 := hide hM3
          have CS := hide (stopsL hM3.lay hlf)
          have hB3 := hM3.lay.lt
          have HVR := hide hvr
          have hbn : b < w2.heap.size := (unhide HM2).lay.lt
          have hK3 : Keeps Q W w3 := Keeps.of_below hW3
          have HK3 := hide hK3
          have hmr : 0 < (rcd x).length := by rw [rcd_length]; omega
          have hlr : D.length + (rcd x).length ≤ 1000000 := by rw [rcd_length]; omega
          clear CR HM2 hM3 hK3 hB2 hW2
          go_wp2_with fail
          refine (unhide CS).mono ?_
          rintro e w4 hsay
          clear CS
          rcases hsay with ⟨hl, rfl, rfl⟩ | ⟨hl, rfl, rfl⟩ | ⟨hl, rfl, rfl⟩
          · obtain ⟨k1, k2⟩ := steps_none (unhide HF) hl
            have hM4 := unhide HM3
            have c2 := hM4.lay.c2
            have HDA := hide hM4.dat
            have HPE := hide (fun w5 v5 hv hg hat => unhide HYE _ w5 v5 lf lu (unhide HM3) (unhide HK3) hlf (unhide HU) k1 k2 hv hg hat)
            obtain ⟨pr, qr, rfl, hrr, -⟩ := hvr.rowY
            clear HYE HHA HF HU k1 k2 hM4 HVR hvr HK3
            go_wp2_with (at_builtin; refine wpList_appys _ rfl _ _ rfl 0 vd D (rcd x) pr qr rfl (unhide HDA) rfl hrr hmr hlr (Nat.zero_le _) ?_; intro v5 w5 k5 g5 at5; have hB5 := (unhide HM3).lay_on g5; have d2 := hB5.c2; have f2 := hB5.fz 2; have HPZ := hide (unhide HPE w5 v5 k5 g5 at5); rw [errV_zero] at HPZ; obtain ⟨p5, q5, e5, -⟩ := k5.rowY; obtain ⟨N5, hN5⟩ : ∃ N5, (D ++ rcd x).length = N5 := ⟨_, rfl⟩; rw [hN5] at e5; subst e5; clear k5 at5 hN5 HPE hB5 g5)
            go_ret
            exact unhide HPZ
          · have k1 := steps_zero (unhide HF) hl
            have hM4 := ((unhide HM3).left (-1)).stop true
            have HM4 := hide hM4
            have c2 := hM4.lay.c2
            have HDA := hide hM4.dat
            have hK4 := ((unhide HK3).trans ((unhide HM3).keeps 4 (.int .i64 (-1))) (fun j hj => Or.inl hj)).trans (((unhide HM3).left (-1)).keeps 5 (.bool true)) (fun j hj => Or.inl hj)
            have HPE := hide (fun w5 v5 hv hg hat => unhide HHA _ w5 v5 lu (unhide HM4) hK4 (unhide HU) k1 hv hg hat)
            have hvr4 := set_kept (i := 4) (j := 5) (u := .int .i64 (-1)) (z := .bool true) (unhide HVR) hbn
            obtain ⟨pr, qr, rfl, hrr, hqr, -⟩ := hvr4.rowY
            have hrh := hrr.first ((x.size + 1) / 2)
            have eh : ((rcd x).take ((x.size + 1) / 2)).length = (x.size + 1) / 2 := by rw [List.length_take, rcd_length]; omega
            have hmh : 0 < ((rcd x).take ((x.size + 1) / 2)).length := by rw [eh]; omega
            have hlh : D.length + ((rcd x).take ((x.size + 1) / 2)).length ≤ 1000000 := by rw [eh]; omega
            have hqu : Int.tdiv ((rcd x).length : Int) 2 = (((x.size + 1) / 2 : Nat) : Int) := by rw [rcd_length]; rfl
            rw [rcd_length] at hqr
            have hq2 : (x.size + 1) / 2 ≤ qr := by omega
            have hq3 : (x.size + 1) / 2 ≤ 26 := by omega
            obtain ⟨NR, hNR⟩ : ∃ NR, (rcd x).length = NR := ⟨_, rfl⟩
            obtain ⟨NH, hNH⟩ : ∃ NH, (x.size + 1) / 2 = NH := ⟨_, rfl⟩
            rw [hNR] at hqu ⊢
            rw [hNH] at hqu hq2 hq3 hrh hmh hlh HPE eh
            have HEH := hide eh
            have hwr : IntKind.i64.wrap (NH : Int) = (NH : Int) := IntWalk.i64_in _ (by omega)
            clear HYE HHA HF HU k1 hM4 HVR hvr hvr4 HK3 hK4 hNR hNH eh hrr
            go_wp2
            go_region_law (refine step_appys _ rfl _ _ rfl 0 vd D ((rcd x).take NH) pr qr rfl (HasYkept (unhide HDA) (fun k e => rfl)) (congrArg (fun n => Value.slice pr n qr) (unhide HEH).symm) (RowY.below hrh ⟨rfl, rfl, rfl, Nat.le_refl _, fun _ _ => rfl⟩) hmh hlh (Nat.zero_le _) ?_; intro v5 w5 k5 g5 at5; have hB5 := (unhide HM4).lay_on (W' := w5) ⟨g5.os, g5.tape, g5.output, g5.size, g5.block⟩; have d2 := hB5.c2; have f2 := hB5.fz 2; have HPZ := hide (unhide HPE w5 v5 k5 ⟨g5.os, g5.tape, g5.output, g5.size, g5.block⟩ at5); rw [errV_ne (by omega)] at HPZ; obtain ⟨p5, q5, e5, -⟩ := k5.rowY; obtain ⟨N5, hN5⟩ : ∃ N5, (D ++ (rcd x).take NH).length = N5 := ⟨_, rfl⟩; rw [hN5] at e5; subst e5; clear k5 at5 hN5 HPE hB5 g5)
            all_goals (
              go_wp2
              go_ret
              exact unhide HPZ)
          · obtain ⟨k1, k2⟩ := steps_more (unhide HF) hl
            have hM4 := ((unhide HM3).left (lf - 1)).stop false
            have HM4 := hide hM4
            have c2 := hM4.lay.c2
            have HDA := hide hM4.dat
            have hK4 := ((unhide HK3).trans ((unhide HM3).keeps 4 (.int .i64 (lf - 1))) (fun j hj => Or.inl hj)).trans (((unhide HM3).left (lf - 1)).keeps 5 (.bool false)) (fun j hj => Or.inl hj)
            have HPE := hide (fun w5 v5 hv hg hat => unhide HYE _ w5 v5 (lf - 1) lu (unhide HM4) hK4 (by omega) (unhide HU) k1 k2 hv hg hat)
            have hvr4 := set_kept (i := 4) (j := 5) (u := .int .i64 (lf - 1)) (z := .bool false) (unhide HVR) hbn
            obtain ⟨pr, qr, rfl, hrr, -⟩ := hvr4.rowY
            clear HYE HHA HF HU k1 k2 hM4 HVR hvr hvr4 HK3 hK4
            go_wp2_with (at_builtin; refine wpList_appys _ rfl _ _ rfl 0 vd D (rcd x) pr qr rfl (unhide HDA) rfl hrr hmr hlr (Nat.zero_le _) ?_; intro v5 w5 k5 g5 at5; have hB5 := (unhide HM4).lay_on g5; have d2 := hB5.c2; have f2 := hB5.fz 2; have HPZ := hide (unhide HPE w5 v5 k5 g5 at5); rw [errV_zero] at HPZ; obtain ⟨p5, q5, e5, -⟩ := k5.rowY; obtain ⟨N5, hN5⟩ : ∃ N5, (D ++ rcd x).length = N5 := ⟨_, rfl⟩; rw [hN5] at e5; subst e5; clear k5 at5 hN5 HPE hB5 g5)
            go_ret
            exact unhide HPZ
        · have HR := hide (unhide HNO E1 w2 lu U1 hE hW2)
          rw [errV_ne hE]
          obtain ⟨LU, hLU⟩ : ∃ LU, lu.length = LU := ⟨_, rfl⟩
          rw [hLU]
          clear hLU HNO HSZ U1 P1 m1 m19 CUN HM1 hdr hb2 c0 c1 c5 hsd HYE HHA HF
          go_wp2
          go_ret
          exact unhide HR)
    · have HR : Hid (∀ w', Below W.heap.size W w' → _) := hide (fun w' hb => put_same (x := x) (E := 4) (W' := w') hM hI h0 hlf (Or.inr ⟨hst, Or.inl ⟨by omega, rfl, rfl⟩⟩) hb)
      rw [errV_ne (by omega)] at HR
      rw [hst] at c5
      obtain ⟨MF, hMF⟩ : ∃ MF, L.F.length = MF := ⟨_, rfl⟩
      have HMF := hide hMF
      rw [hMF] at hfew
      have d20 : decide ((20 : Int) ≤ (MF : Int)) = true := decide_eq_true (by omega)
      clear hM hI h0 hlf hst hMF
      go_enter Tryz.func10, Tryz.ntmps10
      go_wp2_with fail
      refine (unhide CA).mono ?_
      rintro e w1 ⟨v, rfl, hv, hb1⟩
      obtain ⟨p, q, rfl, -⟩ := hv.shape
      rw [unhide HMF]
      have HR1 := hide (unhide HR w1 hb1)
      clear CA HR hv HMF
      go_wp2
      go_ret
      exact unhide HR1
end

end Go.Proofs.YtjojeifoddonnakGreat.Lg19
