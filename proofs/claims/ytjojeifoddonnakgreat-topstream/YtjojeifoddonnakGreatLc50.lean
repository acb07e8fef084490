/-
  TopStream, over any log and any player that answer as they are asked.
-/
import Derived.Test.YtjojeifoddonnakGreatLc17
import Derived.Test.YtjojeifoddonnakGreatLc15
import Derived.Test.YtjojeifoddonnakGreatLc29
import Derived.Test.YtjojeifoddonnakGreatLc43
import Derived.Test.YtjojeifoddonnakGreatLc39
import Derived.Test.YtjojeifoddonnakGreatLc46
import Derived.Test.YtjojeifoddonnakGreatLc49
import Derived.Test.YtjojeifoddonnakGreatLc23
import Derived.Test.YtjojeifoddonnakGreatLc03
import Derived.Test.YtjojeifoddonnakGreatLc10
import Derived.Deep.CutBlock
import Derived.Deep.DeepCutAuto
namespace Go.Proofs.YtjojeifoddonnakGreat.Stm
open Go.RowKit
open Go.Proofs.YtjojeifoddonnakGreat.Tre Go.Proofs.YtjojeifoddonnakGreat.Itr Go.Proofs.YtjojeifoddonnakGreat.Bnd Go.Proofs.YtjojeifoddonnakGreat.Frm Go.Proofs.YtjojeifoddonnakGreat.Pck Go.Proofs.YtjojeifoddonnakGreat.Hrn Go.Proofs.YtjojeifoddonnakGreat.Wid Go.Proofs.YtjojeifoddonnakGreat.Ev Go.Proofs.YtjojeifoddonnakGreat.Lg19 Go.Proofs.YtjojeifoddonnakGreat.Hid18
set_option linter.unusedVariables false

/-- What is known of the log and the tank while frames are made. -/
structure Mk (s : List Int) (B : Int) (M T : Int) (I : Nat) (L : St) (fs : List (List Prt)) : Prop where
  kp : Kp s B L.F fs
  few : fs.length ≤ I
  st : L.st = false
  f : L.f = none
  ok : Lg19.Ok L
  tank : Tnk.Ok M M T
theorem Mk.put {s : List Int} {B M T : Int} {I : Nat} {L L' : St} {fs : List (List Prt)} {x : ByteArray} {ps : List Prt} {E : Int} (h : Mk s B M T I L fs) (hI : I < 20) (hu : UnpF (byt x) s B 0 ps) (hp : PutF s B L x E L') (hx : (x.size : Int) ≤ M) : E = 0 ∧ Mk s B M (M - x.size) (I + 1) L' (fs ++ [ps]) ∧ Tnk.turnF M M T x.size = 0 ∧ Tnk.tS M M T x.size = M ∧ Tnk.tE M M T x.size = M ∧ Tnk.tH M M T x.size = M - x.size := by
  have h20 : L.F.length < 20 := by
    have h1 := h.kp.1
    have h2 := h.few
    omega
  obtain ⟨h1, r, h2, h3, rfl⟩ := put_goes hp h.st h20 hu (by rw [h.f]; simp)
  obtain ⟨t1, t2, t3, t4, t5⟩ := tank_goes h.tank (b := x.size) (by omega) hx
  refine ⟨h1, ⟨h.kp.more hu, by rw [List.length_append]; have := h.few; simp; omega, rfl, by show L.f.map Nat.pred = none; rw [h.f]; rfl, put_okL h.ok hp, t2⟩, t1, t3, t4, t5⟩
theorem Mk.sync {s : List Int} {B M T : Int} {I : Nat} {L L' : St} {fs : List (List Prt)} {E : Int} (h : Mk s B M T I L fs) (hp : SyncF L E L') (keep : Int) : E = 0 ∧ (crash L' keep).F = L.F := by
  obtain ⟨h1, rfl⟩ := sync_goes hp h.st (by rw [h.f]; simp)
  exact ⟨h1, crash_all (sync_okL h.ok hp) rfl rfl keep⟩
theorem Mk.skip {s : List Int} {B M T : Int} {I : Nat} {L : St} {fs : List (List Prt)} (h : Mk s B M T I L fs) : Mk s B M T (I + 1) L fs := ⟨h.kp, Nat.le_succ_of_le h.few, h.st, h.f, h.ok, h.tank⟩

set_option maxRecDepth 100000 in
set_option maxHeartbeats 16000000 in
theorem stream_walk (HL : Holds) (CL : LogT HL) (HP : PHolds) (CP : PlayT HP) (al : Option Addr) (capl : Nat) (ll : List (List Int)) (a : Option Addr) (cap : Nat) (s : List Int) (B keep : Int) (w : World) (hl : Rws w al ll) (zl : ll.length ≤ 17592186044416) (hs : Row w a s) (zs : s.length ≤ 17592186044416) :
    Calls Tryz.prog 3 #[.slice al ll.length capl, .slice a s.length cap, .int .i64 B, .int .i64 keep] w fun e w' => e = .returned (.bool true) ∧ Below w.heap.size w w' := by
  have C1 := hide (Top.one_ok w)
  have CNL := hide (fun W h => CL.new a cap s B W h zs)
  have CNP := hide (fun W h => CP.new a cap s B W h zs)
  have CLO := hide (fun W h => long a cap s B W h zs)
  have CEN := hide (fun (W : World) A C l hr hrs zl => encodeN A C l a cap s B W hr hrs zl zs)
  have CPA := hide (fun (W : World) p q ps hp hr zp zl => pack p q ps a cap s B W hp hr zp zl zs)
  unfold EncNew at CEN
  unfold PackSays at CPA
  have HLZ : Hid (longF s B = 0 → 0 ≤ longN s B ∧ longN s B ≤ 1000) := hide (fun h => by
    obtain ⟨z1, z2, z3, z4⟩ := longF_zero.1 h
    unfold longN
    rw [if_pos h]
    omega)
  obtain ⟨N, hN⟩ : ∃ N, s.length = N := ⟨_, rfl⟩
  rw [hN] at CNL CNP CLO CEN CPA ⊢
  obtain ⟨NL, hNL⟩ : ∃ NL, ll.length = NL := ⟨_, rfl⟩
  have HNL := hide hNL
  rw [hNL] at zl ⊢
  obtain ⟨NF, hNF⟩ : ∃ NF, newF s B = NF := ⟨_, rfl⟩
  rw [hNF] at CNL CNP
  obtain ⟨LF, hLF⟩ : ∃ LF, longF s B = LF := ⟨_, rfl⟩
  have HLF := hide hLF
  obtain ⟨M, hM⟩ : ∃ M, longN s B = M := ⟨_, rfl⟩
  have HMM := hide hM
  rw [hLF, hM] at CLO HLZ
  clear hN hNL hNF hLF hM
  go_enter Tryz.func3, Tryz.ntmps3
  go_wp2_with fail
  refine (unhide C1).mono ?_
  rintro e w1 ⟨rfl, hb1⟩
  have C2 := hide (unhide CNL w1 (hs.below hb1))
  clear C1 CNL
  go_wp2_with fail
  refine (unhide C2).mono ?_
  rintro e w2 ⟨hsay2, hb2⟩
  have hB2 := Below.chain hb1 hb2
  have C3 := hide (unhide CNP w2 (hs.below hB2))
  clear C2 CNP
  rcases hsay2 with ⟨hne, rfl⟩ | ⟨h0, bl, Ql, rfl, hHL, hqL⟩
  · rw [errV_ne hne]
    go_wp2_with fail
    refine (unhide C3).mono ?_
    rintro e w3 ⟨hsay3, hb3⟩
    rcases hsay3 with ⟨-, rfl⟩ | ⟨h0, _⟩
    · rw [errV_ne hne]
      go_wp2
      go_ret
      exact ⟨rfl, Below.chain hB2 hb3⟩
    · exact absurd h0 hne
  subst h0
  go_wp2_with fail
  refine (unhide C3).mono ?_
  clear C3
  rintro e w3 ⟨hsay3, hb3⟩
  rcases hsay3 with ⟨hne, _⟩ | ⟨-, bp, Qp, rfl, hHP, hqP⟩
  · exact absurd rfl hne
  have hB3 := Below.chain hB2 hb3
  have C4 := hide (unhide CLO w3 (hs.below hB3))
  clear CLO
  go_wp2_with fail
  refine (unhide C4).mono ?_
  clear C4
  rintro e w4 ⟨rfl, hb4⟩
  by_cases hLF : LF = 0
  case neg =>
    rw [errV_ne hLF]
    go_wp2
    go_ret
    exact ⟨rfl, Below.chain hB3 hb4⟩
  subst hLF
  rw [errV_zero]
  obtain ⟨m0, m9⟩ := unhide HLZ rfl
  have hB4 := Below.chain hB3 hb4
  have S5 : Strm HL HP s B w (w4.alloc (.cells #[.int .i64 M, .int .i64 M, .int .i64 0] 36)) Ql Qp (fun _ => False) bl bp w4.heap.size none0 [] 0 M 0 (.slice none 0 0) [] [] := by
    have hbA : Below w4.heap.size w4 (w4.alloc (.cells #[.int .i64 M, .int .i64 M, .int .i64 0] 36)) := (Below.refl _ _).alloc (Nat.le_refl _) _
    have hl24 := Below.chain (Below.chain hb3 hb4) hbA
    have hp34 := Below.chain hb4 hbA
    have oL := CL.old hHL
    have oP := CP.old hHP
    have s3 := hb3.size
    have s4 := hb4.size
    refine ⟨CL.below hHL hl24, CP.below hHP hp34, HasF.nil _ _, Frs.nil _ _, fun j hj hq => ?_, fun j hj => hj.elim, fun g hg => by simp [Value.ownBlock] at hg, fun j hj => ?_, Tnk.Tk.new w4 M M 0, ⟨fun hq => ?_, fun hq => ?_, fun h => h, by simp [Value.ownBlock], hB4.size⟩, Below.chain hB4 hbA⟩
    · have h1 := oL j hj
      have h2 := hqP j hq
      omega
    · rcases hj with hj | hj
      · exact Nat.le_trans hb1.size (hqL j hj)
      · exact Nat.le_trans hB2.size (hqP j hj)
    · have := oL _ hq
      omega
    · have := oP _ hq
      omega
  have HK5 : Hid (Mk s B M 0 0 none0 []) := hide ⟨⟨rfl, fun r hr => by simp at hr⟩, Nat.le_refl _, rfl, rfl, none0_ok, ⟨m0, by omega, m0, Int.le_refl _, Int.le_refl _, m0⟩⟩
  clear hHL hqL hHP hqP hb1 hb2 hb3 hb4 hB2 hB3 hB4 HLZ
  go_wp2
  obtain ⟨W5, hW5⟩ : ∃ W5, w4.alloc (.cells #[.int .i64 M, .int .i64 M, .int .i64 0] 36) = W5 := ⟨_, rfl⟩
  rw [hW5] at S5 ⊢
  obtain ⟨bt, hbt⟩ : ∃ bt, w4.heap.size = bt := ⟨_, rfl⟩
  rw [hbt] at S5 ⊢
  go_loopw [16, 17] (fun v i wr => ∃ (I : Nat) (Ql Nf : Nat → Prop) (L : St) (T : Int) (vs : List Value) (fs : List (List Prt)), I ≤ 20 ∧ i = .int .i64 I ∧ Strm HL HP s B w wr Ql Qp Nf bl bp bt L [] 0 M T v vs fs ∧ Hid (Mk s B M T I L fs)) (fun _ i _ => 21 - (intOf i).toNat)
  case atStart => exact ⟨0, Ql, _, none0, 0, [], [], by omega, rfl, S5, HK5⟩
  case round =>
    clear S5 HK5 hW5 hbt
    rename_i Ql5
    obtain ⟨I, Ql, Nf, L, T, vs, fs, hI, rfl, S, HK⟩ := hrel
    by_cases hgo : I < NL ∧ I < 20
    · obtain ⟨hIl, hI20⟩ := hgo
      have dI : decide ((I : Int) < (NL : Int)) = true := decide_eq_true (by omega)
      have dI' : decide (I < NL) = true := decide_eq_true hIl
      have d20 : decide ((I : Int) < 20) = true := decide_eq_true (by omega)
      have d20' : decide (I < 20) = true := decide_eq_true hI20
      have hIll : I < ll.length := by rw [unhide HNL]; exact hIl
      obtain ⟨b1, off1, rfl, hb1, hc1⟩ := (hl.below S.below).at hIll
      obtain ⟨A, C, c1, c2, c3, c4, c5⟩ := hc1 I hIll
      have CE := hide (unhide CEN wr A C (rowAt ll I) c5 (hs.below S.below) (by omega))
      obtain ⟨li, hli⟩ : ∃ li, rowAt ll I = li := ⟨_, rfl⟩
      rw [hli] at CE c1
      obtain ⟨K, hK⟩ : ∃ K, li.length = K := ⟨_, rfl⟩
      rw [hK] at CE c1
      clear hc1 hli hK c2 c3 c4 c5 hIll hb1
      go_wp2_with fail
      refine (unhide CE).mono ?_
      clear CE
      rintro e w5 ⟨p, q, ps, rfl, P5, q1, q2, hEL, hb5⟩
      by_cases hE : encF li s B = 0
      · obtain ⟨g1, g2, g3⟩ := enc_goes (unhide HLF) hE hEL
        rw [unhide HMM] at g2
        have HG1 := hide g1
        have HG3 := hide g3
        have ps8 := hEL.len
        have S6 := S.wide CL CP hb5
        have HP6 : Hid (PtsIn (fun j => Nf j ∨ wr.heap.size ≤ j ∧ j < w5.heap.size) w5 p ps) := hide (P5.pin.mono (fun j hj => Or.inr hj))
        have HF6 : Hid (∀ i, i < ps.length → (prt ps i).2.length ≤ 17592186044416) := hide (fun i hi => by
          have hr := (frm_zero g1.zero.1).2.2.2
          have := (right_in hr hi).1
          omega)
        have CP6 := hide (unhide CPA w5 p q ps P5.pts (hs.below S6.below) (by omega) HF6)
        rw [hE, errV_zero]
        have HX0 : Hid (pstr ps 0 = str (oct (pbits ps))) := hide (pstr_ok ps)
        have HXS : Hid ((str (oct (pbits ps))).size = (oct (pbits ps)).length) := hide (str_size _)
        obtain ⟨PL, hPL⟩ : ∃ PL, ps.length = PL := ⟨_, rfl⟩
        have HPL := hide hPL
        rw [hPL] at CP6 ⊢
        obtain ⟨X, hX⟩ : ∃ X, str (oct (pbits ps)) = X := ⟨_, rfl⟩
        rw [hX] at HX0 HXS HG3
        have hXM : (X.size : Int) ≤ M := by rw [unhide HXS]; exact g2
        clear S g1 g2 g3 hEL hE P5 q1 q2 hPL hX hb5 HF6
        go_wp2_with fail
        refine (unhide CP6).mono ?_
        clear CP6
        rintro e w6 ⟨E6, rfl, hPK, hb6⟩
        obtain rfl : E6 = 0 := hPK.one (unhide HG1)
        rw [unhide HX0, errV_zero]
        have S7 := S6.on CL CP hb6
        have HP7 := hide ((unhide HP6).below hb6)
        have CPU := hide (CL.put X S7.l (by omega))
        clear S6 HP6 hPK hb6 HX0 HXS HG1
        go_wp2_with fail
        refine (unhide CPU).mono ?_
        clear CPU
        rintro e w8 ⟨E8, L8, rfl, hPF, hl8⟩
        obtain ⟨rfl, HK8, t1, t2, t3, t4⟩ := (unhide HK).put hI20 (unhide HG3) hPF hXM
        have hs8 : w6.heap.size ≤ w8.heap.size := by
          obtain ⟨_, _, _, hk⟩ := hl8
          exact hk.size
        obtain ⟨Ql8, S8, hN8⟩ := S7.logs CL CP hl8
        have HP8 := hide ((unhide HP7).kept hs8 (fun j hj _ => hN8 j hj))
        rw [errV_zero]
        have k0 := S8.tk.c0
        have k1 := S8.tk.c1
        have k2 := S8.tk.c2
        have CTU := hide (Tnk.turn M M T X.size w8)
        rw [t1, t2, t3, t4, errV_zero] at CTU
        have HK9 := hide HK8
        obtain ⟨T9, hT9⟩ : ∃ T9, M - (X.size : Int) = T9 := ⟨_, rfl⟩
        rw [hT9] at CTU HK9
        clear S7 HP7 HK HK8 hl8 hPF t1 t2 t3 t4 hN8 hs8 hT9 HG3
        go_wp2_with fail
        refine (unhide CTU).mono ?_
        clear CTU
        rintro e w9 ⟨rfl, hb9⟩
        have S9 := S8.on CL CP hb9
        have j0 := S9.tk.c0
        have j1 := S9.tk.c1
        have j2 := S9.tk.c2
        have f0 := S9.tk.fz 0
        have f1 := S9.tk.fz 1
        have f2 := S9.tk.fz 2
        have S10 := S9.tank CL CP T9
        have HP10 := hide (S9.tank_pts T9 ((unhide HP8).below hb9))
        obtain ⟨W10, hW10⟩ : ∃ W10, ((w9.setCell ⟨bt, 0, none⟩ (.int .i64 M)).setCell ⟨bt, 1, none⟩ (.int .i64 M)).setCell ⟨bt, 2, none⟩ (.int .i64 T9) = W10 := ⟨_, rfl⟩
        rw [hW10] at S10 HP10
        have hln : Hid (vs.length + 1 ≤ 1000000) := hide (by
          have h1 := S10.fr.1
          have h2 := (unhide HK9).few
          rw [List.length_append] at h2
          have h3 : fs.length + 1 ≤ I + 1 := h2
          omega)
        have hf10 := S10.f
        have hWs := S10.below.size
        clear S8 HP8 S9 hb9 k0 k1 k2
        go_wp2_with (at_builtin; refine wpList_appf _ rfl _ _ rfl w.heap.size u16 vs (.slice p PL q) W10.heap.size 0 1 rfl (hf10.alloc _) rfl rfl (by rw [World.cell?_alloc_at _ _ _ _ rfl]; rfl) (unhide hln) (by simp; omega) ?_; intro v' w11 k11 g11 at11)
        have k11' : HasF w11 w.heap.size v' (vs ++ [.slice p ps.length q]) := by rw [unhide HPL]; exact k11
        have S11 := S10.app CL CP (q := q) (unhide HP10) k11' g11 at11
        clear S10 HP10 hf10 k11 k11' g11 at11 j0 j1 j2 f0 f1 f2 hW10
        go_wp2
        go_roundw
        case rel => exact ⟨I + 1, Ql8, _, L8, T9, _, _, by omega, by go_num, S11, HK9⟩
        case measure => simp [intOf]; omega
      · rw [errV_ne hE]
        have S6 := S.on CL CP hb5
        have HK6 := hide (unhide HK).skip
        obtain ⟨EF, hEF⟩ : ∃ EF, encF li s B = EF := ⟨_, rfl⟩
        rw [hEF]
        obtain ⟨PL, hPL⟩ : ∃ PL, ps.length = PL := ⟨_, rfl⟩
        rw [hPL]
        clear S hEL P5 q1 q2 hE hEF hPL hb5 HK
        go_wp2
        go_roundw
        case rel => exact ⟨I + 1, Ql, Nf, L, T, vs, fs, by omega, by go_num, S6, HK6⟩
        case measure => simp [intOf]; omega
    · have hend : (¬ I < NL) ∨ (I < NL ∧ ¬ I < 20) := by omega
      have CSY := hide (CL.sync S.l)
      rcases hend with h1 | ⟨h1, h2⟩
      case' inl => (
        have dI : decide ((I : Int) < (NL : Int)) = false := decide_eq_false (by omega)
        have dI' : decide (I < NL) = false := decide_eq_false h1)
      case' inr => (
        have dI : decide ((I : Int) < (NL : Int)) = true := decide_eq_true (by omega)
        have dI' : decide (I < NL) = true := decide_eq_true h1
        have d20 : decide ((I : Int) < 20) = false := decide_eq_false (by omega)
        have d20' : decide (I < 20) = false := decide_eq_false h2)
      all_goals (
        clear hgo
        go_wp2_with fail
        refine (unhide CSY).mono ?_
        clear CSY
        rintro e w5 ⟨E5, L5, rfl, hSY, hl5⟩
        obtain ⟨rfl, hCF⟩ := (unhide HK).sync hSY keep
        obtain ⟨Ql5', S6, -⟩ := S.logs CL CP hl5
        rw [errV_zero]
        have CCR := hide (CL.crash keep S6.l)
        clear S hl5 hSY
        go_wp2_with fail
        refine (unhide CCR).mono ?_
        clear CCR
        rintro e w6 ⟨rfl, hl6⟩
        obtain ⟨Ql6, S7, -⟩ := S6.logs CL CP hl6
        have CAL := hide (CL.allN S7.l)
        have HOL : Hid (∀ j, Qp j → j < w6.heap.size) := hide (CP.old S7.p)
        rw [hCF] at CAL
        obtain ⟨NX, hNX⟩ : ∃ NX, L.F.length = NX := ⟨_, rfl⟩
        have HNX := hide hNX
        rw [hNX] at CAL
        have HKP := hide (unhide HK).kp
        have hNX9 : NX ≤ 20 := by
          have h1 := (unhide HKP).1
          have h2 := (unhide HK).few
          omega
        have HFN : Hid (fs.length = NX) := hide (by rw [← hNX, (unhide HKP).1])
        clear S6 hl6 hCF HK hNX
        go_wp2_with fail
        refine (unhide CAL).mono ?_
        clear CAL
        rintro e w7 ⟨ra, rc, rfl, RT, rc1, rc2, hb7⟩
        have S8 := S7.on CL CP hb7
        have RT8 : RowTI (fun j => ¬ Qp j) w7 ra L.F := RT.kept (Nat.le_refl _) (fun _ _ _ => rfl) (fun j hj _ hq => by have := unhide HOL j hq; omega)
        obtain ⟨g8, c8, hu8⟩ : ∃ g c, u16 = .slice g NX c := by
          obtain ⟨x, y, e⟩ := S8.f.shape
          exact ⟨x, y, by rw [e, S8.fr.1, unhide HFN]⟩
        subst hu8
        have dn : ((NX : Int) != (NX : Int)) = false := by simp
        clear S7 RT hb7 HOL
        go_wp2
        go_loopw [22] (fun i wr => ∃ (J : Nat) (Q' : Nat → Prop) (last : List Prt) (k : Int), J ≤ NX ∧ i = .int .i64 J ∧ Strm HL HP s B w wr Ql6 Q' Nf bl bp bt (crash L5 keep) last k M T (.slice g8 NX c8) vs fs ∧ RowTI (fun j => ¬ Q' j) wr ra L.F) (fun i _ => NX - (intOf i).toNat)
        case atStart => exact ⟨0, Qp, [], 0, Nat.zero_le _, rfl, S8, RT8⟩
        case round =>
          clear S8 RT8
          obtain ⟨J, Q', last, k, hJ, rfl, S, RT⟩ := hrel
          by_cases hlt : J < NX
          · have dJ : decide ((J : Int) < (NX : Int)) = true := decide_eq_true (by omega)
            have dJ' : decide (J < NX) = true := decide_eq_true hlt
            have hJF : J < L.F.length := by rw [unhide HNX]; exact hlt
            have hJs : J < fs.length := by rw [unhide HFN]; exact hlt
            obtain ⟨bx, ox, rfl, hbx, hcx⟩ := RT.rowT.at hJF
            have cx := hcx J hJF
            have HU := hide ((unhide HKP).2 J hJs)
            obtain ⟨X, hX⟩ : ∃ X, L.F.getD J ⟨#[]⟩ = X := ⟨_, rfl⟩
            rw [hX] at cx HU
            have HSM := hide (unp_small (unhide HU) (CP.ok S.p).1)
            have zX : X.size ≤ 9223372036854775807 := by
              have := (unhide HSM).2.2
              rw [byt_length] at this
              omega
            obtain ⟨gf, rfl, -⟩ := S.f.one (by rw [S.fr.1]; omega)
            obtain ⟨fa, fq, hvJ, hPJ⟩ := S.fr.2 J hJs
            obtain ⟨ps, hps⟩ : ∃ ps, fs.getD J [] = ps := ⟨_, rfl⟩
            rw [hps] at HU HSM hvJ hPJ
            have CPL := hide (CP.play X S.p zX)
            have HOQ : Hid (∀ j, Q' j → j < wr.heap.size) := hide (CP.old S.p)
            clear hcx hX hJF
            go_wp2_with fail
            refine (unhide CPL).mono ?_
            clear CPL
            rintro e w9 ⟨E9, po, qo, o, l9, k9, rfl, F9, -, -, r9, m1, m2, hl9⟩
            obtain ⟨rfl, rfl⟩ := play_is F9 (unhide HU)
            obtain ⟨⟨Q9, S9, hq9⟩, hk9⟩ := S.plays CL CP hl9
            have RT9 : RowTI (fun j => ¬ Q9 j) w9 (some ⟨bx, ox, none⟩) L.F := RT.kept hk9.size (fun j hj hz => hk9.block j hz hj) (fun j hj hz hq => by
              rcases hq9 j hq with h | h
              · exact hj h
              · omega)
            have hP9 : PtsIn Nf w9 fa ps := hPJ.kept hk9.size (fun j hj hz => hk9.block j hz (S.nn j hj).2.1)
            have cf := S9.f.get (by rw [S9.fr.1, unhide HFN]) hvJ
            have CDE := hide (decodeN fa fq ps w9 hP9.pts (by have := (unhide HSM).1; omega) (hide (unhide HSM).2.1))
            have HR9 := hide r9
            have HDL : Hid ((decL ps).length ≤ 9223372036854775807) := hide (by omega)
            obtain ⟨PL, hPL⟩ : ∃ PL, ps.length = PL := ⟨_, rfl⟩
            rw [hPL] at CDE cf
            obtain ⟨dl, hdl⟩ : ∃ dl, decL ps = dl := ⟨_, rfl⟩
            rw [hdl] at CDE HR9 HDL
            rw [hdl]
            obtain ⟨DF, hDF⟩ : ∃ DF, decF ps = DF := ⟨_, rfl⟩
            rw [hDF] at CDE ⊢
            obtain ⟨DL, hDL⟩ : ∃ DL, dl.length = DL := ⟨_, rfl⟩
            have HDLn := hide hDL
            rw [hDL] at CDE ⊢
            obtain ⟨VE, hVE⟩ : ∃ VE, errV DF = VE := ⟨_, rfl⟩
            have HVE := hide hVE
            rw [hVE] at CDE ⊢
            clear S RT hPJ hP9 hl9 hk9 hq9 F9 r9 m1 m2 HU HSM hps hPL hdl hDF hDL hVE cx hJs HOQ hvJ
            go_wp2_with fail
            refine (unhide CDE).mono ?_
            clear CDE
            rintro e w10 ⟨p10, q10, rfl, z4, -, -, hb10⟩
            have S10 := S9.on CL CP hb10
            have RT10 := RT9.below hb10
            have rx : Row w10 po dl := (unhide HR9).row.below hb10
            have ry : Row w10 p10 dl := z4.row
            have CI : Hid (∀ W : Cls w10, Calls Tryz.prog 17 #[.slice po dl.length qo, .slice p10 dl.length q10] W.val fun e w' => e = .returned (.bool true) ∧ Below W.val.heap.size W.val w') := hide (fun W => Same.ints_same po qo p10 q10 dl W.val (unhide HDL) (rx.below W.ok) (ry.below W.ok))
            rw [unhide HDLn] at CI
            clear S9 RT9 HR9 HDL HDLn z4 hb10 rx ry cf
            by_cases hD : DF = 0
            case' pos => (
              obtain rfl : VE = .nilIface := by rw [← unhide HVE, hD]; rfl)
            case' neg => (
              obtain rfl : VE = .iface 60 (.int .i64 DF) := by rw [← unhide HVE, errV_ne hD])
            all_goals (
              clear HVE hD
              go_upto_region 36 with fail
              refine region_calm (by kernel_rfl) (by kernel_rfl) ?_
              repeat (go_big_quiet_step (first | (go_at_call 17; exact calm_call (unhide CI _))))
              refine wpQuiet_nil ?_
              intro _ hw'
              obtain ⟨WQ, hw''⟩ := hw'
              subst hw''
              have S11 := S10.on CL CP WQ.ok
              have RT11 := RT10.below WQ.ok
              clear S10 RT10 CI
              go_wp2
              go_roundw
              case rel => exact ⟨J + 1, Q9, _, _, by omega, by go_num, S11, RT11⟩
              case measure => simp [intOf]; omega)
          · obtain rfl : J = NX := by omega
            have dJ : decide ((J : Int) < (J : Int)) = false := decide_eq_false (by omega)
            have hfin := S.below
            clear S RT
            go_wp2
            go_ret
            exact ⟨rfl, hfin⟩)

end Go.Proofs.YtjojeifoddonnakGreat.Stm
