/-
  HidePlays, over any player that answers as it is asked and writes into no block but its own one.
-/
import Derived.Test.YtephagojpnfhcajGreatDoorhp18
import Derived.Test.YtephagojpnfhcajGreatDoorhp06
import Derived.Test.YtephagojpnfhcajGreatDoorhp20
import Derived.Test.YtephagojpnfhcajGreatDoorhp01
import Derived.Test.YtephagojpnfhcajGreatDoorhp16
import Derived.Deep.CutBlock
import Derived.Deep.DeepCutAuto
namespace Go.Proofs.YtephagojpnfhcajGreatDoor.Hid18
open Go.RowKit
open Go.Proofs.YtephagojpnfhcajGreatDoor.Tre Go.Proofs.YtephagojpnfhcajGreatDoor.Itr Go.Proofs.YtephagojpnfhcajGreatDoor.Bnd Go.Proofs.YtephagojpnfhcajGreatDoor.Frm Go.Proofs.YtephagojpnfhcajGreatDoor.Pck Go.Proofs.YtephagojpnfhcajGreatDoor.Hrn Go.Proofs.YtephagojpnfhcajGreatDoor.Ev Go.Proofs.YtephagojpnfhcajGreatDoor.Aser
set_option linter.unusedVariables false

/-- What the two tell where one is lost is the same. -/
theorem Both.loses {H : PHolds} (C : PlayB H) {s : List Int} {B : Int} {a : Option Addr} {cap : Nat} {w W : World} {Q : Nat → Prop} {bp bm : Nat} {last : List Prt} {k : Int} (T : Both H s B a cap w W Q bp bm last k last k) (h0 : 0 ≤ k) (h9 : k ≤ 1000000) :
    Calls Tryz.prog 18 #[.pointer (some ⟨bp, 0, none⟩)] W fun e W' => ∃ po qo n Q', e = .returned (.slice po n qo) ∧ RowN W.heap.size W' po (lostL s last) ∧ Hid (n = (lostL s last).length) ∧ Both H s B a cap w W' Q' bp bm (soft last) (k + 1) last k ∧ W.heap.size ≤ W'.heap.size := (C.lose T.p h0 h9).mono fun e W' ⟨po, qo, h1, h2, h3, h4, h5⟩ => by
  obtain ⟨⟨Q', T'⟩, hb⟩ := T.left C h5
  exact ⟨po, qo, _, Q', h1, h2, hide rfl, T', hb.size⟩
theorem Both.refs {H : PHolds} (C : PlayB H) {s : List Int} {B : Int} {a : Option Addr} {cap : Nat} {w W : World} {Q : Nat → Prop} {bp bm : Nat} {lp last : List Prt} {kp k : Int} (T : Both H s B a cap w W Q bp bm lp kp last k) (h0 : 0 ≤ k) (h9 : k ≤ 1000000) (hw : Hid (newF s B = 0 ∧ Was s last ∧ Gs last)) {po : Option Addr} {n : Nat} {l : List Int} (hr : RowN n W po l) (hn : bm < n) :
    Calls Tryz.prog 19 #[.pointer (some ⟨bm, 0, none⟩)] W fun e W' => ∃ pm qm m, e = .returned (.slice pm m qm) ∧ Row W' pm (lostL s last) ∧ Hid (m = (lostL s last).length) ∧ Row W' po l ∧ Both H s B a cap w W' Q bp bm lp kp (soft last) (k + 1) := by
  obtain ⟨p, q, m1, m2⟩ := T.m
  obtain ⟨f1, f2⟩ := unhide hw
  have hb := (newF_zero.1 f1).1
  have hs : s ≠ [] := fun e => by
    have := (bf_ok hb).1
    rw [e] at this
    simp at this
  refine (refLose bm a cap s B p q last k W m1 T.rows (T.away hs) h0 h9 (hide hb) (hide f2) m2).mono ?_
  rintro e W' ⟨pm, qm, p', q', rfl, r, _, _, P', L', g⟩
  exact ⟨pm, qm, _, rfl, r.row, hide rfl, (hr.but g hn).row, T.right C g ⟨p', q', P', L'⟩⟩
theorem Both.bm_lt {H : PHolds} {s : List Int} {B : Int} {a : Option Addr} {cap : Nat} {w W : World} {Q : Nat → Prop} {bp bm : Nat} {lp lm : List Prt} {kp km : Int} (T : Both H s B a cap w W Q bp bm lp kp lm km) : bm < W.heap.size := by
  obtain ⟨_, _, m1, _⟩ := T.m
  exact m1.lt
theorem Both.km_at {H : PHolds} {s : List Int} {B : Int} {a : Option Addr} {cap : Nat} {w W : World} {Q : Nat → Prop} {bp bm : Nat} {lp lm : List Prt} {kp km : Int} (T : Both H s B a cap w W Q bp bm lp kp lm km) : W.cell? ⟨bm, 3, none⟩ = some (.int .i64 km) := by
  obtain ⟨_, _, m1, _⟩ := T.m
  exact m1.c3
theorem lost_few {s : List Int} {B : Int} {last : List Prt} (h : newF s B = 0 ∧ Was s last ∧ Gs last) : (lostL s last).length ≤ 9223372036854775807 := by
  obtain ⟨h1, h2, h3, h4⟩ := newF_zero.1 h.1
  rw [lost_length h.2.1 h4]
  have := (bf_ok h1).2.2.2
  omega

set_option maxRecDepth 100000 in
set_option maxHeartbeats 16000000 in
theorem plays_walk (H : PHolds) (C : PlayB H) (a : Option Addr) (cap : Nat) (s : List Int) (B : Int) (al : Option Addr) (capl : Nat) (ls : List ByteArray) (ao : Option Addr) (capo : Nat) (os : List Int) (w : World) (hL : Laid w) (hs : Row w a s) (zs : s.length ≤ 17592186044416) (hl : RowT w al ls) (zl : ls.length ≤ 17592186044416) (zx : Hid (∀ i, i < ls.length → (ls.getD i ⟨#[]⟩).size ≤ 9223372036854775807)) (ho : Row w ao os) (zo : os.length ≤ 17592186044416) :
    Calls Tryz.prog 5 #[.slice a s.length cap, .int .i64 B, .slice al ls.length capl, .slice ao os.length capo] w fun e w' => e = .returned (.bool true) ∧ Below w.heap.size w w' := by
  have CN0 := hide (refNew a cap s B w hs (by omega))
  have CN1 := hide (fun W h => C.new a cap s B W h zs)
  have ER : Hid (∀ E W, Below w.heap.size w W → Calls Tryz.prog 11 #[errV E, .int .i64 E] W fun e w' => e = .returned (.bool true) ∧ Below W.heap.size W w') := hide (fun E W hb => (error_all E E W (hL.below hb)).mono fun e w' ⟨he, h⟩ => ⟨by rw [he]; simp, h⟩)
  obtain ⟨NF, hNF⟩ : ∃ NF, newF s B = NF := ⟨_, rfl⟩
  rw [hNF] at CN0 CN1
  have HNF := hide hNF
  obtain ⟨N, hN⟩ : ∃ N, s.length = N := ⟨_, rfl⟩
  have HN := hide hN
  rw [hN] at CN0 CN1 ⊢
  obtain ⟨NL, hNL⟩ : ∃ NL, ls.length = NL := ⟨_, rfl⟩
  have HNL := hide hNL
  rw [hNL] at zl ⊢
  obtain ⟨NO, hNO⟩ : ∃ NO, os.length = NO := ⟨_, rfl⟩
  have HNO := hide hNO
  rw [hNO] at zo ⊢
  clear hNF hN hNL hNO
  go_enter Tryz.func5, Tryz.ntmps5
  go_wp2_with fail
  refine (unhide CN0).mono ?_
  rintro e w1 ⟨rfl, hb1⟩
  have C1 := hide (unhide CN1 w1 (hs.below hb1))
  clear CN0 CN1
  go_wp2_with fail
  refine (unhide C1).mono ?_
  rintro e w2 ⟨hsay, hb2⟩
  have hB2 := Below.chain hb1 hb2
  have E2 := hide (unhide ER NF w2 hB2)
  clear C1
  rcases hsay with ⟨hne, rfl⟩ | ⟨h0, bp, Q0, rfl, hH0, hq0⟩
  · have nz : (NF == 0) = false := by rw [beq_eq_false_iff_ne]; exact hne
    obtain ⟨V, hV⟩ : ∃ V, errV NF = V := ⟨_, rfl⟩
    rw [hV] at E2 ⊢
    clear hV
    go_wp2_with fail
    refine (unhide E2).mono ?_
    rintro e w3 ⟨rfl, hb3⟩
    go_wp2
    go_ret
    exact ⟨rfl, Below.chain hB2 hb3⟩
  subst h0
  rw [errV_zero] at E2
  go_wp2_with fail
  refine (unhide E2).mono ?_
  clear E2
  rintro e w3 ⟨rfl, hb3⟩
  have T4 : Both H s B a cap w (w3.alloc (.cells #[.slice a N cap, .int .i64 B, .slice none 0 0, .int .i64 0] 49)) Q0 bp w3.heap.size [] 0 [] 0 := by
    have hsz := hb3.size
    have hbA : Below w3.heap.size w3 (w3.alloc (.cells #[.slice a N cap, .int .i64 B, .slice none 0 0, .int .i64 0] 49)) := (Below.refl _ _).alloc (Nat.le_refl _) _
    have hold := C.old hH0
    have hown := C.own hH0
    have hb3A := Below.chain hb3 hbA
    refine ⟨C.kept hH0 hb3A.size (fun j hj => hb3A.block j (hold j hj)), ⟨none, 0, ?_, Or.inl rfl⟩, ?_, fun hq => ?_, ?_, hs, Below.chain hB2 hb3A⟩
    · rw [unhide HN]
      unfold Ply World.alloc
      simp
    · have := hold bp hown
      omega
    · have := hold _ hq
      omega
    · exact Nat.le_trans hb1.size (hq0 bp hown)
  have hbm : w.heap.size ≤ w3.heap.size := (Below.chain hB2 hb3).size
  obtain ⟨bm, hbmm⟩ : ∃ bm, w3.heap.size = bm := ⟨_, rfl⟩
  rw [hbmm] at T4 hbm
  obtain ⟨W4, hW4⟩ : ∃ W4, w3.alloc (.cells #[.slice a N cap, .int .i64 B, .slice none 0 0, .int .i64 0] 49) = W4 := ⟨_, rfl⟩
  rw [hW4] at T4
  clear hH0 hq0 hb1 hb2 hb3 hB2
  go_wp2
  go_loopw [14] (fun i wr => ∃ (I : Nat) (Q : Nat → Prop) (last : List Prt) (k : Int), I ≤ 30 ∧ i = .int .i64 I ∧ Both H s B a cap w wr Q bp bm last k last k ∧ 0 ≤ k ∧ k ≤ I) (fun i _ => 31 - (intOf i).toNat)
  case atStart => exact ⟨0, Q0, [], 0, by omega, rfl, T4, by omega, by omega⟩
  case round =>
    obtain ⟨I, Q, last, k, hI, rfl, TI, hk0, hkI⟩ := hrel
    clear T4 hW4 hbmm
    by_cases hgo : I < NL ∧ I < 30
    · obtain ⟨hIl, hI30⟩ := hgo
      have dI : decide ((I : Int) < (NL : Int)) = true := decide_eq_true (by omega)
      have dI' : decide (I < NL) = true := decide_eq_true hIl
      have d30 : decide ((I : Int) < 30) = true := decide_eq_true (by omega)
      have d30' : decide (I < 30) = true := decide_eq_true hI30
      have hIls : I < ls.length := by rw [unhide HNL]; exact hIl
      obtain ⟨bl, offl, rfl, hbl, hcl⟩ := hl.at hIls
      have zX := unhide zx I hIls
      have HCL : Hid (∀ W, Below w.heap.size w W → W.cell? ⟨bl, offl + I, none⟩ = some (.string (ls.getD I ⟨#[]⟩))) := hide (fun W hb => (hb.cell (p := ⟨bl, offl + I, none⟩) hbl).trans (hcl I hIls))
      obtain ⟨X, hX⟩ : ∃ X, ls.getD I ⟨#[]⟩ = X := ⟨_, rfl⟩
      rw [hX] at zX HCL
      clear hcl hX hIls
      have hcase : (¬ I < NO) ∨ (I < NO ∧ ∃ bo offo v, ao = some ⟨bo, offo, none⟩ ∧ wr.cell? ⟨bo, offo + I, none⟩ = some (.int .i64 v) ∧ v ≠ 1) ∨ (I < NO ∧ ∃ bo offo, ao = some ⟨bo, offo, none⟩ ∧ wr.cell? ⟨bo, offo + I, none⟩ = some (.int .i64 1)) := by
        by_cases h : I < NO
        · have hos : I < os.length := by rw [unhide HNO]; exact h
          obtain ⟨bo, offo, e1, hbo, hco⟩ := ho.at hos
          have co := (TI.below.cell (p := ⟨bo, offo + I, none⟩) hbo).trans (hco I hos)
          by_cases h1 : os.getD I 0 = 1
          · rw [h1] at co
            exact Or.inr (Or.inr ⟨h, bo, offo, e1, co⟩)
          · exact Or.inr (Or.inl ⟨h, bo, offo, _, e1, co, h1⟩)
        · exact Or.inl h
      rcases hcase with hno | ⟨hyes, bo, offo, v, rfl, co, hv1⟩ | ⟨hyes, bo, offo, rfl, co⟩
      case' inl => (
        have dO : decide ((I : Int) < (NO : Int)) = false := decide_eq_false (by omega)
        have dO' : decide (I < NO) = false := decide_eq_false hno
        have cl8 := unhide HCL wr TI.below
        have T8 := TI
        have hk8 : 0 ≤ k ∧ k ≤ (I : Int) + 1 := by omega
        clear TI
        go_wp2_with fail)
      case' inr.inl => (
        have dO : decide ((I : Int) < (NO : Int)) = true := decide_eq_true (by omega)
        have dO' : decide (I < NO) = true := decide_eq_true hyes
        have dv : (v == 1) = false := by rw [beq_eq_false_iff_ne]; exact hv1
        have cl8 := unhide HCL wr TI.below
        have T8 := TI
        have hk8 : 0 ≤ k ∧ k ≤ (I : Int) + 1 := by omega
        clear TI
        go_wp2_with fail)
      case' inr.inr => (
        have dO : decide ((I : Int) < (NO : Int)) = true := decide_eq_true (by omega)
        have dO' : decide (I < NO) = true := decide_eq_true hyes
        have HOK := hide (C.ok TI.p)
        have CA := hide (TI.loses C hk0 (by omega))
        have hbw := TI.bm_lt
        go_wp2_with fail
        refine (unhide CA).mono ?_
        clear CA
        rintro e w5 ⟨po, qo, n, Q8, rfl, r5, HNn, T5, s5⟩
        have CB := hide (T5.refs C hk0 (by omega) HOK r5 hbw)
        clear TI co
        go_wp2_with fail
        refine (unhide CB).mono ?_
        clear CB
        rintro e w6 ⟨pm, qm, m, rfl, rm, HNm, rp, T6⟩
        have CI := hide (Same.ints_same po qo pm qm (lostL s last) w6 (lost_few (unhide HOK)) rp rm)
        rw [← unhide HNn] at CI
        have hmn : m = n := by rw [unhide HNm, unhide HNn]
        subst hmn
        clear T5 r5 rm rp HNm HNn HOK s5 hbw
        go_wp2_with fail
        refine (unhide CI).mono ?_
        clear CI
        rintro e w7 ⟨rfl, hb7⟩
        have T8 := T6.on C hb7
        have hk8 : 0 ≤ k + 1 ∧ k + 1 ≤ (I : Int) + 1 := by omega
        have cl8 := unhide HCL w7 T8.below
        clear T6 hb7 dO dO'
        go_wp2_with fail)
      all_goals (
        obtain ⟨pm8, qm8, m1, m2⟩ := T8.m
        have CMP := hide (refPlay bm X a cap s B pm8 qm8 _ _ _ m1 T8.rows (by omega) zX m2)
        unfold PlayPost at CMP
        have hlt8 := T8.bm_lt
        have hlt7 := T8.lt
        clear m1 m2 cl8
        refine (unhide CMP).mono ?_
        clear CMP
        rintro e w9 ⟨E, po, qo, o, p9, q9, last9, k9, rfl, F9, kz, kn, r9, m9, m99, P9, L9, B9⟩
        have T9 := T8.right C B9 ⟨p9, q9, P9, L9⟩
        have cl9 := unhide HCL w9 T9.below
        have CPP := hide (C.play X T9.p zX)
        have HF9 := hide F9
        have HKZ := hide (And.intro kz kn)
        have HR9 := hide r9
        have HM9 : Hid (o.length ≤ 9223372036854775807) := hide (by omega)
        obtain ⟨OL, hOL⟩ : ∃ OL, o.length = OL := ⟨_, rfl⟩
        have HOL := hide hOL
        rw [hOL]
        clear hOL P9 L9 B9 T8 F9 kz kn r9 m9 m99
        go_wp2_with fail
        refine (unhide CPP).mono ?_
        clear CPP
        rintro e w10 ⟨E', po', qo', o', last10, k10, rfl, F10, kz', kn', r10, -, -, hl10⟩
        obtain ⟨⟨Q10, T10⟩, B10⟩ := T9.left C hl10
        obtain ⟨hE, ho', hl'⟩ := PlayF.both (unhide HF9) F10
        subst hE ho' hl'
        have hkk : k10 = k9 := by
          by_cases h : E = 0
          · rw [(unhide HKZ).1 h, kz' h]
          · rw [(unhide HKZ).2 h, kn' h]
        subst hkk
        have hkb : 0 ≤ k10 ∧ k10 ≤ (I : Int) + 1 := by
          by_cases h : E = 0
          · rw [kz' h]; omega
          · rw [kn' h]; exact hk8
        have ER10 := hide (unhide ER E w10 T10.below)
        have rx : Row w10 po o := ((unhide HR9).but B10 (by omega)).row
        have ry : Row w10 po' o := r10.row
        have CI : Hid (∀ W, Below w10.heap.size w10 W → Calls Tryz.prog 17 #[.slice po' o.length qo', .slice po o.length qo] W fun e w' => e = .returned (.bool true) ∧ Below W.heap.size W w') := hide (fun W hb => Same.ints_same po' qo' po qo o W (unhide HM9) (ry.below hb) (rx.below hb))
        rw [unhide HOL] at CI ⊢
        obtain ⟨VE, hVE⟩ : ∃ VE, errV E = VE := ⟨_, rfl⟩
        rw [hVE] at ER10 ⊢
        clear hVE rx ry r10 HR9 HM9 HF9 HKZ HOL F10 kz' kn' hl10 B10 T9 cl9 hk8 hlt8 hlt7
        go_wp2_with fail
        refine (unhide ER10).mono ?_
        clear ER10
        rintro e w11 ⟨rfl, hb11⟩
        have T11 := T10.on C hb11
        have CI11 := hide (unhide CI w11 hb11)
        clear CI T10
        go_wp2_with fail
        refine (unhide CI11).mono ?_
        clear CI11 hb11
        rintro e w12 ⟨rfl, hb12⟩
        have T12 := T11.on C hb12
        have CT : Hid (∀ W : Cls w12, Calls Tryz.prog 22 #[.pointer (some ⟨bp, 0, none⟩)] W.val fun e w' => e = .returned (.int .i64 k10) ∧ Below W.val.heap.size W.val w') := hide (fun W => C.lost (T12.on C W.ok).p)
        have cm : ∀ W : Cls w12, W.val.cell? ⟨bm, 3, none⟩ = some (.int .i64 k10) := fun W => W.cell T12.bm_lt T12.km_at
        have dk : (k10 != k10) = false := by simp
        clear T11 hb12
        go_upto_region 16 with fail
        refine region_calm (by kernel_rfl) (by kernel_rfl) ?_
        repeat (go_big_quiet_step (first | (go_at_call 22; exact calm_call (unhide CT _))))
        refine wpQuiet_nil ?_
        intro _ hw'
        obtain ⟨WQ, hw''⟩ := hw'
        subst hw''
        have T13 := T12.on C WQ.ok
        clear T12 cm CT
        go_wp2
        go_roundw
        case rel => exact ⟨I + 1, Q10, _, _, by omega, by go_num, T13, hkb.1, by have := hkb.2; omega⟩
        case measure => simp [intOf]; omega)
    · have hend : (¬ I < NL) ∨ (I < NL ∧ ¬ I < 30) := by omega
      have HOK := hide (C.ok TI.p)
      have CA := hide (TI.loses C hk0 (by omega))
      have hbw := TI.bm_lt
      rcases hend with h1 | ⟨h1, h2⟩
      case' inl => (
        have dI : decide ((I : Int) < (NL : Int)) = false := decide_eq_false (by omega)
        have dI' : decide (I < NL) = false := decide_eq_false h1)
      case' inr => (
        have dI : decide ((I : Int) < (NL : Int)) = true := decide_eq_true (by omega)
        have dI' : decide (I < NL) = true := decide_eq_true h1
        have d30 : decide ((I : Int) < 30) = false := decide_eq_false (by omega)
        have d30' : decide (I < 30) = false := decide_eq_false h2)
      all_goals (
        clear hgo
        go_wp2_with fail
        refine (unhide CA).mono ?_
        clear CA
        rintro e w5 ⟨po, qo, n, Q8, rfl, r5, HNn, T5, s5⟩
        have CB := hide (T5.refs C hk0 (by omega) HOK r5 hbw)
        clear TI
        go_wp2_with fail
        refine (unhide CB).mono ?_
        clear CB
        rintro e w6 ⟨pm, qm, m, rfl, rm, HNm, rp, T6⟩
        have CI := hide (Same.ints_same po qo pm qm (lostL s last) w6 (lost_few (unhide HOK)) rp rm)
        rw [← unhide HNn] at CI
        have hmn : m = n := by rw [unhide HNm, unhide HNn]
        subst hmn
        clear T5 r5 rm rp HNm HNn HOK s5 hbw
        go_wp2_with fail
        refine (unhide CI).mono ?_
        clear CI
        rintro e w7 ⟨rfl, hb7⟩
        have T8 := T6.on C hb7
        have HOK8 := hide (C.ok T8.p)
        have CA8 := hide (T8.loses C (by omega) (by omega))
        have hbw8 := T8.bm_lt
        clear T6 hb7
        go_wp2_with fail
        refine (unhide CA8).mono ?_
        clear CA8
        rintro e w9 ⟨po9, qo9, n9, Q9, rfl, r9, HN9, T9, s9⟩
        have CB9 := hide (T9.refs C (by omega) (by omega) HOK8 r9 hbw8)
        clear T8
        go_wp2_with fail
        refine (unhide CB9).mono ?_
        clear CB9
        rintro e w10 ⟨pm9, qm9, m9, rfl, rm9, HM9, rp9, T10⟩
        have CI9 := hide (Same.ints_same po9 qo9 pm9 qm9 (lostL s (soft last)) w10 (lost_few (unhide HOK8)) rp9 rm9)
        rw [← unhide HN9] at CI9
        have hmn9 : m9 = n9 := by rw [unhide HM9, unhide HN9]
        subst hmn9
        clear T9 r9 rm9 rp9 HM9 HN9 HOK8 s9 hbw8
        go_wp2_with fail
        refine (unhide CI9).mono ?_
        clear CI9
        rintro e w11 ⟨rfl, hb11⟩
        have hfin := (T10.on C hb11).below
        clear T10 hb11
        go_wp2
        go_ret
        exact ⟨rfl, hfin⟩)

end Go.Proofs.YtephagojpnfhcajGreatDoor.Hid18
