/-
  The walk of hornlaw3.PackBack.
-/
import Derived.Test.YthkibjhhlcfceajGreatDoorBa37
import Derived.Test.YthkibjhhlcfceajGreatDoorBa41
import Derived.Test.YthkibjhhlcfceajGreatDoorBa26
import Derived.Test.YthkibjhhlcfceajGreatDoorBa09
import Derived.Test.YthkibjhhlcfceajGreatDoorBa43
import Derived.Deep.CutBlock
import Derived.Deep.DeepCutAuto
namespace Go.Proofs.YthkibjhhlcfceajGreatDoor.PackBackLaw
open Go.RowKit
open Go.Proofs.YthkibjhhlcfceajGreatDoor.Tre Go.Proofs.YthkibjhhlcfceajGreatDoor.Frm Go.Proofs.YthkibjhhlcfceajGreatDoor.Pck Go.Proofs.YthkibjhhlcfceajGreatDoor.Ev Go.Proofs.YthkibjhhlcfceajGreatDoor.Same Go.Proofs.YthkibjhhlcfceajGreatDoor.Aser Go.Proofs.YthkibjhhlcfceajGreatDoor.Hrn Go.Proofs.YthkibjhhlcfceajGreatDoor.Wid
set_option linter.unusedVariables false

theorem str_first (l : List Int) (k : Nat) : (str l).extract 0 k = str (l.take k) := by
  apply ByteArray.ext
  rw [ByteArray.data_extract]
  show (u8s l).toArray.extract 0 k = (u8s (l.take k)).toArray
  simp [u8s]
theorem run_first {l : List Int} {k : Nat} (h : k ≤ l.length) (w : World) : (Instr.slice 9 (.string (str l)) none (some (.int .i64 k)) none).run Tryz.prog w = .ok (.string (str (l.take k))) w := by
  rw [run_slice_string_to_if w 9 (str l) .i64 k Tryz.underlying9, if_pos ⟨by omega, by rw [str_size]; omega⟩]
  rw [show ((k : Int)).toNat = k by omega, str_first]
theorem fact_text : ((str [0]).toList == [0]) = true := by rw [str_toList]; rfl

/-- The text of one nought. -/
theorem fact (w : World) (t1 t2 t3 : TypeId) :
    Calls Tryz.prog 5 #[.slice (some ⟨w.heap.size + 1, 0, none⟩) 1 1, .slice (some ⟨w.heap.size + 1 + 1, 0, none⟩) 1 1, .int .i64 0] (((w.alloc (.cells #[.int .i64 0] t1)).alloc (.cells #[.int .i64 0, .slice (some ⟨w.heap.size, 0, none⟩) 1 1] t2)).alloc (.cells #[.int .i64 1] t3)) fun e w' =>
      e = .returned (.tuple #[.string (str [0]), .nilIface]) ∧ Below w.heap.size w w' := by
  have hb1 : Below w.heap.size w (w.alloc (.cells #[.int .i64 0] t1)) := (Below.refl _ _).alloc (Nat.le_refl _) _
  have r1 := row_one w 0 t1
  have e1 : (w.alloc (.cells #[.int .i64 0] t1)).heap.size = w.heap.size + 1 := by simp
  obtain ⟨W1, hW1⟩ : ∃ W1, w.alloc (.cells #[.int .i64 0] t1) = W1 := ⟨_, rfl⟩
  rw [hW1] at hb1 r1 e1 ⊢
  have hb2 : Below W1.heap.size W1 (W1.alloc (.cells #[.int .i64 0, .slice (some ⟨w.heap.size, 0, none⟩) 1 1] t2)) := (Below.refl _ _).alloc (Nat.le_refl _) _
  have hp2 : Pts (W1.alloc (.cells #[.int .i64 0, .slice (some ⟨w.heap.size, 0, none⟩) 1 1] t2)) (some ⟨w.heap.size + 1, 0, none⟩) [(0, [0])] := by
    refine Or.inr ⟨w.heap.size + 1, 0, rfl, by simp; omega, fun r hr => ?_⟩
    obtain rfl : r = 0 := by simpa using hr
    refine ⟨?_, some ⟨w.heap.size, 0, none⟩, 1, ?_, (fun h => by cases h), by simp [prt], by omega, r1.below hb2⟩
    · rw [← e1, World.cell?_alloc_at _ _ _ _ rfl]; rfl
    · rw [← e1, World.cell?_alloc_at _ _ _ _ rfl]; rfl
  have e2 : (W1.alloc (.cells #[.int .i64 0, .slice (some ⟨w.heap.size, 0, none⟩) 1 1] t2)).heap.size = w.heap.size + 1 + 1 := by simp; omega
  obtain ⟨W2, hW2⟩ : ∃ W2, W1.alloc (.cells #[.int .i64 0, .slice (some ⟨w.heap.size, 0, none⟩) 1 1] t2) = W2 := ⟨_, rfl⟩
  rw [hW2] at hb2 hp2 e2 ⊢
  have hb3 : Below W2.heap.size W2 (W2.alloc (.cells #[.int .i64 1] t3)) := (Below.refl _ _).alloc (Nat.le_refl _) _
  have r3 : Row (W2.alloc (.cells #[.int .i64 1] t3)) (some ⟨w.heap.size + 1 + 1, 0, none⟩) [1] := row_one' e2
  have h := Pck.pack (some ⟨w.heap.size + 1, 0, none⟩) 1 [(0, [0])] (some ⟨w.heap.size + 1 + 1, 0, none⟩) 1 [1] 0 _ (hp2.below hb3) r3 (by simp) (hide (fun i hi => by
    obtain rfl : i = 0 := by simpa using hi
    simp [prt])) (by simp)
  refine h.mono ?_
  rintro e w' ⟨E, he, hE, hb⟩
  obtain ⟨f1, f2⟩ := fact_pck
  obtain rfl := hE.one f1
  rw [pstr_ok, f2, errV_zero] at he
  exact ⟨he, Below.chain (Below.chain hb1 (Below.chain hb2 hb3)) hb⟩

/-- An error of which only is told whether it is one. -/
theorem veil (E : Int) : ∃ (F : Value) (T : Bool), errV E = F ∧ (T = true → E = 0) ∧ (T = false → E ≠ 0) ∧ (∀ op t x W, (eqGuard op t x (Operand.const Value.nilIface) F Value.nilIface).run Tryz.prog W = .ok () W) ∧ (∀ W, (binOp BinOp.eql 25 F Value.nilIface).run Tryz.prog W = .ok (.bool T) W) :=
  ⟨errV E, decide (E = 0), rfl, fun h => by simpa using h, fun h => by simpa using h, fun op t x W => guard_err op t x E W, fun W => eql_err E W⟩

set_option maxRecDepth 100000 in
set_option maxHeartbeats 64000000 in
theorem walk0 (a0 : Option Addr) (cap0 : Nat) (l : List Int) (a1 : Option Addr) (cap1 : Nat) (ps : List Prt) (a2 : Option Addr) (cap2 : Nat) (s : List Int) (B : Int) (x : ByteArray) (cut : Int) (w : World) (hL : Laid w) (hr0 : Row w a0 l) (z0 : l.length ≤ 9223372036854775807) (hp : Pts w a1 ps) (zp : ps.length ≤ 17592186044416) (zl : Hid (∀ i, i < ps.length → (prt ps i).2.length ≤ 17592186044416)) (hr : Row w a2 s) (zs : s.length ≤ 17592186044416) (zx : x.size ≤ 9223372036854775807) :
    Calls Tryz.prog 3 #[.slice a0 l.length cap0, .slice a1 ps.length cap1, .slice a2 s.length cap2, .int .i64 B, .string x, .int .i64 cut] w fun e w' => e = .returned (.bool true) ∧ Below w.heap.size w w' := by
  have hgd := guard_err
  have hne := neq_err
  have heq := eql_err
  have hft := fact_text
  have C1 := hide (fun W h => Pck.unpack x a2 cap2 s B W zx h zs)
  unfold UnpSays at C1
  have CPK := hide (fun p q qs W h h' hz hz' => Pck.pack p q qs a2 cap2 s B W h h' hz hz' zs)
  unfold PackSays at CPK
  have CFC := hide (fun p q qs W h h' hz hz' => Frm.check p q qs a2 cap2 s B W h h' hz hz' zs)
  have CLO := hide (fun W h => Pck.long a2 cap2 s B W h zs)
  have CEN := hide (fun W h h' => Frm.encode a0 cap0 l a2 cap2 s B W h h' z0 zs)
  unfold EncSays at CEN
  have CUN := hide (fun (y : ByteArray) W (hy : y.size ≤ 9223372036854775807) h => Pck.unpack y a2 cap2 s B W hy h zs)
  unfold UnpSays at CUN
  have HU0 : Hid (∀ b qs, UnpF b s B 0 qs → IsP b s B qs) := hide (fun b qs h => by
    rcases h with ⟨h1, h2, _⟩ | ⟨_, h⟩
    · exact absurd h2.symm h1
    · rcases h with ⟨_, h2, _⟩ | ⟨_, h⟩
      · omega
      · rcases h with ⟨_, h2, _⟩ | ⟨h, _⟩
        · omega
        · exact h)
  have HUI : Hid (∀ b qs E rs, IsP b s B qs → UnpF b s B E rs → E = 0 ∧ rs = qs) := hide (fun b qs E rs h hu => by
    obtain ⟨z1, z2, z3, _⟩ := frm_zero h.1
    have h2 : UnpF b s B 0 qs := Or.inr ⟨z1, Or.inr ⟨⟨z2, z3⟩, Or.inr ⟨h, rfl⟩⟩⟩
    obtain ⟨e1, e2⟩ := hu.one h2
    exact ⟨e1, e2⟩)
  have HUC : Hid (∀ b qs E rs k, IsP b s B qs → k < b.length → UnpF (b.take k) s B E rs → E = 2) := hide (fun b qs E rs k h hk hu => by
    obtain ⟨z1, z2, z3, _⟩ := frm_zero h.1
    rcases hu with ⟨h1, _⟩ | ⟨_, hu⟩
    · exact absurd z1 h1
    · rcases hu with ⟨h1, _⟩ | ⟨_, hu⟩
      · exact absurd ⟨z2, z3⟩ h1
      · rcases hu with ⟨_, h2, _⟩ | ⟨h1, _⟩
        · exact h2
        · exact (h.cut hk h1).elim)
  have HSM : Hid (∀ b qs, IsP b s B qs → qs.length ≤ 8 ∧ (∀ i, i < qs.length → (prt qs i).2.length ≤ 17592186044416)) := hide (fun b qs h => by
    obtain ⟨z1, _, _, hr⟩ := frm_zero h.1
    exact ⟨by rw [hr.len]; exact (Bnd.bf_ok z1).2.1, fun i hi => by have := (right_in hr hi).1; omega⟩)
  have HEN : Hid (∀ qs, encF l s B = 0 → EncL l s B qs → FrmF qs s B 0 ∧ qs.length ≤ 8 ∧ (∀ i, i < qs.length → (prt qs i).2.length ≤ 17592186044416)) := hide (fun qs he h => by
    have h1 := encF_zero.1 he
    have hm : Made (Bnd.cuts (Lap.lap l) s) s B qs := by
      rcases h with ⟨h, _⟩ | ⟨_, h⟩
      · exact absurd he h
      · exact h
    have hr := made_right he hm
    exact ⟨hr.frm h1.1 ⟨h1.2.2.2.2.1, h1.2.2.2.2.2.1⟩, h.len, fun i hi => by have := (right_in hr hi).1; omega⟩)
  have HRL : Hid (∀ qs, FrmF qs s B 0 → longF s B = 0 → PckF qs s B 0 ∧ ((oct (pbits qs)).length : Int) ≤ longN s B) := hide (fun qs h h' => right_long h h')
  have HRF : Hid (∀ qs E, FrmF qs s B 0 → PckF qs s B E → E = 0 ∨ E = 4) := hide (fun qs E h h' => right_fault h h')
  have HLB : Hid (0 ≤ longN s B ∧ longN s B ≤ 100) := hide (by
    unfold longN
    split
    · rename_i h
      obtain ⟨_, h2, h3, h4⟩ := longF_zero.1 h
      omega
    · omega)
  obtain ⟨LF, hLF⟩ : ∃ LF, longF s B = LF := ⟨_, rfl⟩
  obtain ⟨LN, hLN⟩ : ∃ LN, longN s B = LN := ⟨_, rfl⟩
  obtain ⟨EF, hEF⟩ : ∃ EF, encF l s B = EF := ⟨_, rfl⟩
  rw [hLF] at CLO HRL
  rw [hLN] at CLO HRL HLB
  rw [hEF] at CEN HEN
  obtain ⟨FL, TL, hFL, TL1, TL0, gFL, qFL⟩ := veil LF
  obtain ⟨FE, TE, hFE, TE1, TE0, gFE, qFE⟩ := veil EF
  rw [hFL] at CLO
  rw [hFE] at CEN
  have HTL1 := hide TL1
  have HTL0 := hide TL0
  have HTE1 := hide TE1
  clear hFL hFE TL1 TL0 TE1 TE0
  have CPP := hide (fun W h h' => unhide CPK a1 cap1 ps W h h' zp zl)
  obtain ⟨LL, hLL⟩ : ∃ LL, l.length = LL := ⟨_, rfl⟩
  obtain ⟨PL, hPL⟩ : ∃ PL, ps.length = PL := ⟨_, rfl⟩
  have HPL := hide hPL
  obtain ⟨N, hN⟩ : ∃ N, s.length = N := ⟨_, rfl⟩
  rw [hLL] at CEN ⊢
  rw [hPL] at CPP ⊢
  rw [hN] at C1 CPK CPP CFC CLO CEN CUN ⊢
  clear hLF hLN hEF hLL hPL hN zl zp z0 zs
  go_enter Tryz.func3, Tryz.ntmps3
  go_wp2_with fail
  refine (fact w _ _ _).mono ?_
  rintro e w1 ⟨rfl, hb1⟩
  go_wp2_with fail
  refine (unhide C1 w1 (hr.below hb1)).mono ?_
  clear C1
  rintro e w2 ⟨E2, p2, q2, l2, rfl, P2', m2, m29, U2, hb2⟩
  have P2 := P2'.pts
  have hB2 := Below.chain hb1 hb2
  have HU2 : Hid (E2 = 0 → IsP (byt x) s B l2) := hide (fun h => unhide HU0 _ _ (by rw [← h]; exact U2))
  obtain ⟨M2, hM2⟩ : ∃ M2, l2.length = M2 := ⟨_, rfl⟩
  have HM2 := hide hM2
  rw [hM2] at m2 ⊢
  obtain ⟨F2, T2, hF2, T21, T20, gF2, qF2⟩ := veil E2
  have HT21 := hide T21
  rw [hF2]
  clear U2 hM2 hb1 hb2 hF2 T21 T20
  go_upto_if 48 with fail
  go_cut [48] (fun c wx => Below w.heap.size w wx)
  case first =>
    as_aux_lemma =>
    cases T2 with
    | true =>
      have hI := unhide HU2 (unhide HT21 rfl)
      have HI := hide hI
      obtain ⟨s8, sl⟩ := unhide HSM _ _ hI
      have c3 := unhide CPK p2 q2 l2 w2 P2 (hr.below hB2) (by omega) (hide sl)
      have C4 := hide (fun W h h' => unhide CFC p2 q2 l2 W h h' (by omega) (hide sl))
      rw [unhide HM2] at c3 C4
      clear hI s8 sl HT21 HU2
      go_wp2_with fail
      refine c3.mono ?_
      clear c3
      rintro e w3 ⟨E3, rfl, H3, hb3⟩
      obtain rfl := H3.one (unhide HI).pck
      have hst : pstr l2 0 = x := by rw [pstr_ok, (unhide HI).2.2, str_byt]
      have hxx : (x.toList == x.toList) = true := by simp
      have hB3 := Below.chain hB2 hb3
      rw [hst, errV_zero]
      clear H3 hst
      go_wp2_with fail
      refine (unhide C4 w3 (P2.below hb3) (hr.below hB3)).mono ?_
      clear C4
      rintro e w4 ⟨E4, rfl, H4, hb4⟩
      obtain rfl := H4.one (unhide HI).1
      rw [errV_zero]
      have hB4 := Below.chain hB3 hb4
      clear H4
      go_wp2
      go_meet
      exact hB4
    | false =>
      clear HT21 HU2
      go_wp2
      go_meet
      exact hB2
  case rest =>
  have hB3 : Below w.heap.size w wc := hcut
  clear hcut HU2 HM2 P2 P2' m2 m29 hB2 CFC HU0 HT21
  go_wp2_with fail
  refine (unhide CLO wc (hr.below hB3)).mono ?_
  clear CLO
  rintro e w4 ⟨rfl, hb4⟩
  have hB4 := Below.chain hB3 hb4
  clear hb4 hB3
  go_wp2_with fail
  refine (unhide CEN w4 (hr0.below hB4) (hr.below hB4)).mono ?_
  clear CEN
  rintro e w5 ⟨p5, q5, l5, rfl, P5, m5, m59, L5, hb5⟩
  have hB5 := Below.chain hB4 hb5
  have HE5 : Hid (EF = 0 → FrmF l5 s B 0 ∧ l5.length ≤ 8 ∧ (∀ i, i < l5.length → (prt l5 i).2.length ≤ 17592186044416)) := hide (fun h => unhide HEN l5 h L5)
  obtain ⟨M5, hM5⟩ : ∃ M5, l5.length = M5 := ⟨_, rfl⟩
  have HM5 := hide hM5
  rw [hM5] at m5 ⊢
  obtain ⟨l0, l9⟩ := unhide HLB
  clear hM5 L5 HEN hb5 hB4
  go_upto_if 84 with fail
  go_cut [84] (fun c wx => Below w.heap.size w wx)
  case first =>
    as_aux_lemma =>
    cases TE with
    | true =>
      obtain ⟨f1, f2, f3⟩ := unhide HE5 (unhide HTE1 rfl)
      have HF1 := hide f1
      have c6 := unhide CPK p5 q5 l5 w5 P5 (hr.below hB5) (by omega) (hide f3)
      rw [unhide HM5] at c6
      clear f1 f2 f3 CPK HTE1 HE5
      go_wp2_with fail
      refine c6.mono ?_
      clear c6
      rintro e w6 ⟨E6, rfl, H6, hb6⟩
      have hB6 := Below.chain hB5 hb6
      have hw := unhide HRF l5 E6 (unhide HF1) H6
      have HLF0 : Hid (LF = 0 → E6 = 0 ∧ ((oct (pbits l5)).length : Int) ≤ LN) := hide (fun h => by
        obtain ⟨k1, k2⟩ := unhide HRL l5 (unhide HF1) h
        exact ⟨H6.one k1, k2⟩)
      clear H6 hb6
      rcases hw with rfl | rfl
      · rw [pstr_ok]
        cases TL with
        | true =>
          obtain ⟨_, k2⟩ := unhide HLF0 (unhide HTL1 rfl)
          have hss : (str (oct (pbits l5))).size = (oct (pbits l5)).length := str_size _
          obtain ⟨SZ, hSZ⟩ : ∃ SZ, (oct (pbits l5)).length = SZ := ⟨_, rfl⟩
          rw [hSZ] at k2 hss
          obtain ⟨ZZ, hZZ⟩ : ∃ ZZ, str (oct (pbits l5)) = ZZ := ⟨_, rfl⟩
          rw [hZZ] at hss ⊢
          have hlen : ∀ W, (Builtin.len_ #[9] 3 #[.string ZZ]).run Tryz.prog W = .ok (.int .i64 (SZ : Int)) W := fun W => by rw [run_len_string W 9 3 ZZ Tryz.underlying9, hss]; rfl
          have dS : decide (LN < (SZ : Int)) = false := by simp; omega
          rw [errV_zero]
          clear hss hSZ hZZ HLF0 HRF HRL HF1 HTL1 HTL0
          go_wp2
          go_meet
          exact hB6
        | false =>
          obtain ⟨ZZ, hZZ⟩ : ∃ ZZ, str (oct (pbits l5)) = ZZ := ⟨_, rfl⟩
          rw [hZZ, errV_zero]
          clear hZZ HLF0 HRF HRL HF1
          go_wp2
          go_meet
          exact hB6
      · obtain rfl : TL = false := by
          cases hTT : TL with
          | false => rfl
          | true => have := (unhide HLF0 (unhide HTL1 hTT)).1; omega
        have d4 : decide ((4 : Int) ≠ 0) = true := by decide
        obtain ⟨ZZ, hZZ⟩ : ∃ ZZ, pstr l5 4 = ZZ := ⟨_, rfl⟩
        rw [hZZ]
        clear hZZ HLF0 HRF HRL HF1
        go_wp2_with fail
        refine (error_any 4 w6 (hL.below hB6)).mono ?_
        rintro e w7 ⟨rfl, hb7⟩
        have hB7 := Below.chain hB6 hb7
        go_wp2
        go_meet
        exact hB7
    | false =>
      clear HTE1 HE5
      go_wp2
      go_meet
      exact hB5
  case rest =>
  rename World => w6
  have hB6 : Below w.heap.size w w6 := hcut
  clear hcut HE5 HM5 P5 m5 m59 hB5 HRF CPK HTE1
  go_wp2_with fail
  refine (unhide CPP w6 (hp.below hB6) (hr.below hB6)).mono ?_
  clear CPP
  rintro e w7 ⟨E7, rfl, H7, hb7⟩
  have hB7 := Below.chain hB6 hb7
  by_cases hE : E7 = 0
  · subst hE
    have hI := H7.zero
    have HI := hide hI
    obtain ⟨s8, sl⟩ := unhide HSM _ _ hI
    have hFr := hI.1
    have HLF0 : Hid (LF = 0 → ((oct (pbits ps)).length : Int) ≤ LN) := hide (fun h => (unhide HRL ps hFr h).2)
    have HBY : Hid (Byts (oct (pbits ps))) := hide (oct_in (pack_bit (frm_zero hFr).2.2.2))
    have h50 := hI.long
    rw [pstr_ok, errV_zero]
    have C8 := unhide CUN (str (oct (pbits ps))) w7 (by rw [str_size]; omega) (hr.below hB7)
    rw [byt_str (unhide HBY)] at C8
    have C9 := hide (fun p q W h h' => parts_same p q a1 cap1 ps W (by omega) h h')
    have hss : (str (oct (pbits ps))).size = (oct (pbits ps)).length := str_size _
    have HRF1 : Hid (∀ k, k ≤ (oct (pbits ps)).length → ∀ W, (Instr.slice 9 (.string (str (oct (pbits ps)))) none (some (.int .i64 k)) none).run Tryz.prog W = .ok (.string (str ((oct (pbits ps)).take k))) W) := hide (fun k hk W => run_first hk W)
    have CCU : Hid (∀ (k : Nat) W, Row W a2 s → _) := hide (fun (k : Nat) W (h : Row W a2 s) => unhide CUN (str ((oct (pbits ps)).take k)) W (by rw [str_size, List.length_take]; omega) h)
    have HBT : Hid (∀ k, byt (str ((oct (pbits ps)).take k)) = (oct (pbits ps)).take k) := hide (fun k => byt_str (fun b hb => unhide HBY b (List.mem_of_mem_take hb)))
    have HC2 : Hid (∀ k E rs, k < (oct (pbits ps)).length → UnpF ((oct (pbits ps)).take k) s B E rs → E = 2) := hide (fun k E rs hk hu => unhide HUC _ _ _ _ _ (unhide HI) hk hu)
    have HS0 : Hid (∀ E rs, UnpF (oct (pbits ps)) s B E rs → E = 0 ∧ rs = ps) := hide (fun E rs hu => unhide HUI _ _ _ _ (unhide HI) hu)
    rw [unhide HPL] at C9
    obtain ⟨OC, hOC⟩ : ∃ OC, oct (pbits ps) = OC := ⟨_, rfl⟩
    rw [hOC] at HLF0 C8 hss HRF1 CCU HBT HC2 HS0 h50 ⊢
    obtain ⟨SZ, hSZ⟩ : ∃ SZ, OC.length = SZ := ⟨_, rfl⟩
    rw [hSZ] at hss HLF0 HRF1 HC2 h50
    obtain ⟨ZZ, hZZ⟩ : ∃ ZZ, str OC = ZZ := ⟨_, rfl⟩
    rw [hZZ] at hss C8 HRF1 ⊢
    have hlen : ∀ W, (Builtin.len_ #[9] 3 #[.string ZZ]).run Tryz.prog W = .ok (.int .i64 (SZ : Int)) W := fun W => by rw [run_len_string W 9 3 ZZ Tryz.underlying9, hss]; rfl
    clear hss hSZ hZZ hOC HI hI s8 sl hFr H7 HUI HUC HSM HRL CUN HBY hb7 hB6
    go_wp2_with fail
    refine C8.mono ?_
    clear C8
    rintro e w8 ⟨E8, p8, q8, l8, rfl, P8', m8, m89, U8, hb8⟩
    have P8 := P8'.pts
    obtain ⟨rfl, rfl⟩ := unhide HS0 E8 l8 U8
    have hB8 := Below.chain hB7 hb8
    rw [errV_zero, unhide HPL]
    have c9 := unhide C9 p8 q8 w8 P8 (hp.below hB8)
    clear U8 HS0 C9 P8 P8' m8 m89 hb8 hB7
    go_wp2_with fail
    refine c9.mono ?_
    clear c9
    rintro e w9 ⟨rfl, hb9⟩
    have hB9 := Below.chain hB8 hb9
    clear hb9 hB8
    have hTT : (∃ _ : TL = true, (SZ : Int) ≤ LN) ∨ (∃ _ : TL = false, True) := by
      cases hT : TL with
      | true => exact Or.inl ⟨rfl, unhide HLF0 (unhide HTL1 hT)⟩
      | false => exact Or.inr ⟨rfl, trivial⟩
    have hcw : cut < 0 ∨ (0 ≤ cut ∧ (SZ : Int) ≤ cut) ∨ (∃ k : Nat, cut = k ∧ k < SZ) := by
      by_cases h1 : cut < 0
      · exact Or.inl h1
      · by_cases h2 : (SZ : Int) ≤ cut
        · exact Or.inr (Or.inl ⟨by omega, h2⟩)
        · exact Or.inr (Or.inr ⟨cut.toNat, by omega, by omega⟩)
    clear HLF0 HTL1 HTL0
    rcases hTT with ⟨rfl, hSL⟩ | ⟨rfl, -⟩
    · have dS : decide (LN < (SZ : Int)) = false := by simp; omega
      rcases hcw with h1 | ⟨h1, h2⟩ | ⟨k, rfl, h2⟩
      · have d1 : decide (cut < 0) = true := by simpa using h1
        go_wp2
        go_ret
        exact ⟨rfl, hB9⟩
      · have d1 : decide (cut < 0) = false := by simp; omega
        have d2 : decide ((SZ : Int) ≤ cut) = true := by simpa using h2
        go_wp2
        go_ret
        exact ⟨rfl, hB9⟩
      · have hsl := unhide HRF1 k (by omega)
        have d1 : decide ((k : Int) < 0) = false := by simp
        have d2 : decide ((SZ : Int) ≤ (k : Int)) = false := by simp; omega
        have c10 := unhide CCU k w9 (hr.below hB9)
        rw [unhide HBT] at c10
        have HC3 := hide (fun E rs hu => unhide HC2 k E rs h2 hu)
        obtain ⟨Z2, hZ2⟩ : ∃ Z2, str (OC.take k) = Z2 := ⟨_, rfl⟩
        rw [hZ2] at hsl c10
        clear CCU HBT HC2 HRF1 hZ2
        go_wp2_with fail
        refine c10.mono ?_
        clear c10
        rintro e wa ⟨Ea, pa, qa, la, rfl, Pa, ma, ma9, Ua, hba⟩
        obtain rfl := unhide HC3 Ea la Ua
        have hBa := Below.chain hB9 hba
        obtain ⟨LA, hLA⟩ : ∃ LA, la.length = LA := ⟨_, rfl⟩
        rw [hLA]
        clear hLA Ua HC3
        go_wp2_with fail
        refine (error_any 2 wa (hL.below hBa)).mono ?_
        rintro e wb ⟨rfl, hbb⟩
        go_wp2
        go_ret
        exact ⟨rfl, Below.chain hBa hbb⟩
    · rcases hcw with h1 | ⟨h1, h2⟩ | ⟨k, rfl, h2⟩
      · have d1 : decide (cut < 0) = true := by simpa using h1
        go_wp2
        go_ret
        exact ⟨rfl, hB9⟩
      · have d1 : decide (cut < 0) = false := by simp; omega
        have d2 : decide ((SZ : Int) ≤ cut) = true := by simpa using h2
        go_wp2
        go_ret
        exact ⟨rfl, hB9⟩
      · have hsl := unhide HRF1 k (by omega)
        have d1 : decide ((k : Int) < 0) = false := by simp
        have d2 : decide ((SZ : Int) ≤ (k : Int)) = false := by simp; omega
        have c10 := unhide CCU k w9 (hr.below hB9)
        rw [unhide HBT] at c10
        have HC3 := hide (fun E rs hu => unhide HC2 k E rs h2 hu)
        obtain ⟨Z2, hZ2⟩ : ∃ Z2, str (OC.take k) = Z2 := ⟨_, rfl⟩
        rw [hZ2] at hsl c10
        clear CCU HBT HC2 HRF1 hZ2
        go_wp2_with fail
        refine c10.mono ?_
        clear c10
        rintro e wa ⟨Ea, pa, qa, la, rfl, Pa, ma, ma9, Ua, hba⟩
        obtain rfl := unhide HC3 Ea la Ua
        have hBa := Below.chain hB9 hba
        obtain ⟨LA, hLA⟩ : ∃ LA, la.length = LA := ⟨_, rfl⟩
        rw [hLA]
        clear hLA Ua HC3
        go_wp2_with fail
        refine (error_any 2 wa (hL.below hBa)).mono ?_
        rintro e wb ⟨rfl, hbb⟩
        go_wp2
        go_ret
        exact ⟨rfl, Below.chain hBa hbb⟩
  · have dE : decide (E7 ≠ 0) = true := by simpa using hE
    obtain ⟨ZZ, hZZ⟩ : ∃ ZZ, pstr ps E7 = ZZ := ⟨_, rfl⟩
    rw [hZZ]
    clear hZZ H7
    go_wp2
    go_ret
    exact ⟨rfl, hB7⟩

end Go.Proofs.YthkibjhhlcfceajGreatDoor.PackBackLaw
