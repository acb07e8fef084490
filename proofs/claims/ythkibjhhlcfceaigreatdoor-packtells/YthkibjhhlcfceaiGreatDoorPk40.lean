/-
  hornref2.Open: by its contract.
-/
import Derived.Test.YthkibjhhlcfceaiGreatDoorPk39
import Derived.Test.YthkibjhhlcfceaiGreatDoorPk05
import Derived.Test.YthkibjhhlcfceaiGreatDoorPk04
import Derived.Test.YthkibjhhlcfceaiGreatDoorPk11
import Derived.Test.YthkibjhhlcfceaiGreatDoorPk12
import Derived.Test.YthkibjhhlcfceaiGreatDoorPk00
import Derived.Deep.QuietTactic
import Derived.BigQuiet
namespace Go.Proofs.YthkibjhhlcfceaiGreatDoor.Wid
open Go.RowKit
open Go.Proofs.YthkibjhhlcfceaiGreatDoor.Tre Go.Proofs.YthkibjhhlcfceaiGreatDoor.Scl Go.Proofs.YthkibjhhlcfceaiGreatDoor.Bnd Go.Proofs.YthkibjhhlcfceaiGreatDoor.Hrn
set_option linter.unusedVariables false

theorem upto_add (f : Nat → Int) (n k : Nat) : upto f (n + k) = upto f n ++ upto (fun i => f (n + i)) k := by
  induction k with
  | zero => simp [upto]
  | succ k ih => rw [← Nat.add_assoc, upto_succ, ih, upto_succ, List.append_assoc]
theorem opn_step (b : List Int) (j : Nat) : upto (opnF b) (8 * j) ++ bin 8 (at0 b j) = upto (opnF b) (8 * (j + 1)) := by
  rw [show 8 * (j + 1) = 8 * j + 8 by omega, upto_add]
  congr 1
  rw [eq_upto (bin 8 (at0 b j)), bin_length]
  exact upto_congr fun i hi => (opnF_at b j i hi).symm
/-- What is taken next: the half of what so many bits bear. -/
def pw : Nat → Int
  | 0 => 0
  | m + 1 => 2 ^ m
theorem pw_half (m : Nat) : Int.tdiv (2 ^ m) 2 = pw m := by
  cases m with
  | zero => rfl
  | succ m =>
    rw [pw, two_succ, Int.tdiv_eq_ediv_of_nonneg (by have := two_pos m; omega)]
    omega
theorem run_idx (s : ByteArray) (i : Nat) (h : i < s.size) (w : World) : (Instr.index 9 (.string s) (.int .i64 i)).run Tryz.prog w = .ok (.int .u8 (at0 (byt s) i)) w := by
  rw [run_index_string w 9 s .i64 i Tryz.underlying9, dif_pos ⟨by omega, by omega⟩]
  have e : ((i : Int)).toNat = i := by omega
  rw [← byt_at s h]
  simp only [e]

set_option maxRecDepth 100000 in
set_option maxHeartbeats 8000000 in
theorem refOpen (s : ByteArray) (w : World) (h50 : s.size ≤ 1000) :
    Calls Tryz.prog 56 #[.string s] w fun e w' => ∃ v, e = .returned v ∧ Has w' w.heap.size v (opn (byt s)) ∧ Below w.heap.size w w' := by
  have HIX : Hid (∀ i, i < s.size → ∀ W, (Instr.index 9 (.string s) (.int .i64 i)).run Tryz.prog W = .ok (.int .u8 (at0 (byt s) i)) W) := hide (fun i h W => run_idx s i h W)
  have HZ := hide (byt_length s)
  have HBT : Hid (∀ i, i < s.size → 0 ≤ at0 (byt s) i ∧ at0 (byt s) i ≤ 255) := hide (fun i hi => by
    have hi' : i < (byt s).length := by rw [unhide HZ]; exact hi
    have e : at0 (byt s) i = (byt s)[i] := by simp [at0, hi']
    have := byt_byts s (byt s)[i] (List.getElem_mem hi')
    omega)
  have HOP : Hid (opn (byt s) = upto (opnF (byt s)) (8 * (byt s).length)) := hide rfl
  rw [unhide HZ] at HOP
  obtain ⟨bs, hbs⟩ : ∃ bs, byt s = bs := ⟨_, rfl⟩
  rw [hbs] at HIX HBT HOP ⊢
  obtain ⟨od, hod⟩ : ∃ od, opn bs = od := ⟨_, rfl⟩
  rw [hod] at HOP ⊢
  obtain ⟨N, hN⟩ : ∃ N, s.size = N := ⟨_, rfl⟩
  have hsz : ∀ W, (Builtin.len_ #[9] 3 #[.string s]).run Tryz.prog W = .ok (.int .i64 (N : Int)) W := fun W => by rw [run_len_string W 9 3 s Tryz.underlying9, hN]; rfl
  rw [hN] at h50 HIX HBT HOP
  have HO0 : Hid (upto (opnF bs) (8 * 0) = []) := hide rfl
  clear hbs hod hN HZ
  go_enter Tryz.func56, Tryz.ntmps56
  go_wp2
  go_loopw [3, 4] (fun v i wr => ∃ j : Nat, j ≤ N ∧ i = .int .i64 j ∧ Has wr w.heap.size v (upto (opnF bs) (8 * j)) ∧ Below w.heap.size w wr) (fun _ i _ => N - (intOf i).toNat)
  case atStart => exact ⟨0, Nat.zero_le _, rfl, by rw [unhide HO0]; exact Has.nil _ _, Below.refl _ _⟩
  case round =>
    obtain ⟨j, hj, rfl, hv, hB⟩ := hrel
    clear HO0
    by_cases hlt : j < N
    · have hix := unhide HIX j hlt
      obtain ⟨z0, z9⟩ := unhide HBT j hlt
      have HST := hide (opn_step bs j)
      obtain ⟨Z0, hZ0⟩ : ∃ Z, at0 bs j = Z := ⟨_, rfl⟩
      rw [hZ0] at hix z0 z9 HST
      have HP0 : Hid ((128 : Int) = pw 8) := hide rfl
      have HLN : Hid ((upto (opnF bs) (8 * (j + 1))).length ≤ 8008) := hide (by rw [upto_length]; omega)
      obtain ⟨tg, htg⟩ : ∃ tg, upto (opnF bs) (8 * (j + 1)) = tg := ⟨_, rfl⟩
      have HTG := hide htg
      rw [htg] at HST HLN
      obtain ⟨o0, ho0⟩ : ∃ o0, upto (opnF bs) (8 * j) = o0 := ⟨_, rfl⟩
      rw [ho0] at hv HST
      have HZ9 : Hid (Z0 < 2 ^ 8) := hide (by omega)
      clear hZ0 htg ho0
      go_wp2
      go_loopw [3, 5, 6] (fun v p n wr => ∃ (m : Nat) (Q Z : Int) (O : List Int), m ≤ 8 ∧ p = .int .i64 Q ∧ n = .int .i64 Z ∧ Hid (Q = pw m) ∧ 0 ≤ Z ∧ Hid (Z < 2 ^ m) ∧ Has wr w.heap.size v O ∧ Hid (O ++ bin m Z = tg) ∧ Below w.heap.size w wr) (fun _ p _ _ => (intOf p).toNat)
      case atStart => exact ⟨8, 128, Z0, _, by omega, rfl, rfl, HP0, z0, HZ9, hv, HST, hB⟩
      case round =>
        clear hv hB HST HP0 HZ9 hix z0 z9
        obtain ⟨m, Q, Z, O, hm, rfl, rfl, HQ, z0, HZ9, hv, HO, hB⟩ := hrel
        cases m with
        | zero =>
          obtain rfl : Q = 0 := unhide HQ
          have hv2 : Has wr w.heap.size u3 (upto (opnF bs) (8 * (j + 1))) := by
            rw [unhide HTG, ← unhide HO, bin, List.append_nil]
            exact hv
          clear HO hv HQ
          go_wp2
          go_roundw
          case rel => exact ⟨j + 1, by omega, by go_num, hv2, hB⟩
          case measure => simp [intOf]; omega
        | succ m =>
          have z9 := unhide HZ9
          rw [two_succ] at z9
          have t1 := pw_half m
          have HPM : Hid (pw m = pw m) := hide rfl
          obtain ⟨g1, g9⟩ := two_le (k := m) (by omega)
          have HO2 : Hid ((O ++ [Z / 2 ^ m]) ++ bin m (Z % 2 ^ m) = tg) := hide (by rw [← unhide HO, bin]; simp)
          have HMM : Hid (Z % 2 ^ m < 2 ^ m) := hide (mod_in Z).2
          obtain rfl : Q = 2 ^ m := unhide HQ
          have HGM : Hid ((2 : Int) ^ m = 2 ^ m) := hide rfl
          have hpm : 0 ≤ pw m ∧ pw m < 2 ^ m := by
            cases m with
            | zero => exact ⟨by simp [pw], by simp [pw]⟩
            | succ m => rw [pw, two_succ]; have := two_pos m; omega
          obtain ⟨G, hG⟩ : ∃ G : Int, 2 ^ m = G := ⟨_, rfl⟩
          obtain ⟨V, hV⟩ : ∃ V : Int, pw m = V := ⟨_, rfl⟩
          have HV : Hid (V = pw m) := hide hV.symm
          rw [hG] at z9 t1 g1 g9 HO2 HMM hpm ⊢
          rw [hV] at t1 hpm
          obtain ⟨v0, v9⟩ := hpm
          have t2 : Int.tdiv Z G = Z / G := Int.tdiv_eq_ediv_of_nonneg z0
          have t3 : Int.tmod Z G = Z % G := Int.tmod_eq_emod_of_nonneg z0
          have hd : decide (0 < G) = true := by simp; omega
          have hg0 : (G == 0) = false := by rw [beq_eq_false_iff_ne]; omega
          have m0 : 0 ≤ Z % G := Int.emod_nonneg _ (by omega)
          have m9 : Z % G < G := Int.emod_lt_of_pos _ (by omega)
          have d0 : 0 ≤ Z / G := Int.ediv_nonneg z0 (by omega)
          have d9 : Z / G ≤ 1 := by
            have : Z / G < 2 := (Int.ediv_lt_iff_lt_mul (by omega)).2 (by omega)
            omega
          have hln : Hid (O.length + 1 ≤ 17592186044416) := hide (by
            have e := congrArg List.length (unhide HO)
            rw [List.length_append] at e
            have := unhide HLN
            omega)
          have HZ2 : Hid (Z % G < 2 ^ m) := hide (by rw [hG]; exact m9)
          obtain ⟨D, hD⟩ : ∃ D, Z / G = D := ⟨_, rfl⟩
          obtain ⟨M, hM⟩ : ∃ M, Z % G = M := ⟨_, rfl⟩
          rw [hD] at HO2 t2 d0 d9
          rw [hM] at HO2 t3 m0 m9 HZ2
          have hWs := hB.size
          clear hG hV hD hM HO HQ HZ9 HGM HPM HMM
          go_wp2_with (at_builtin; refine wpList_appL _ rfl _ _ rfl w.heap.size u3 O [D] _ _ rfl (hv.alloc _) rfl (row_one _ _ _) (unhide hln) (by simp; omega) ?_; intro s' w6 k6 g6 at6)
          obtain ⟨d1, d2⟩ := stepped_plain hv hWs k6 g6 at6
          have hB6 := hB.trans d1
          clear hv hB d1 d2 g6 at6
          go_wp2
          go_roundw
          case rel => exact ⟨m, V, M, _, by omega, by first | rfl | go_num, by first | rfl | go_num, HV, m0, HZ2, k6, HO2, hB6⟩
          case measure => simp [intOf]; omega
    · obtain rfl : j = N := by omega
      rw [← unhide HOP] at hv
      obtain ⟨p9, n9, q9, rfl⟩ := hv.shape
      go_wp2
      go_ret
      exact ⟨_, rfl, hv, hB⟩

end Go.Proofs.YthkibjhhlcfceaiGreatDoor.Wid

/-
  hornref2.Unpack: by its contract.
-/
namespace Go.Proofs.YthkibjhhlcfceaiGreatDoor.Pck
open Go.RowKit
open Go.Proofs.YthkibjhhlcfceaiGreatDoor.Itr Go.Proofs.YthkibjhhlcfceaiGreatDoor.Tre Go.Proofs.YthkibjhhlcfceaiGreatDoor.Bnd Go.Proofs.YthkibjhhlcfceaiGreatDoor.Cnt Go.Proofs.YthkibjhhlcfceaiGreatDoor.Pls Go.Proofs.YthkibjhhlcfceaiGreatDoor.Shr Go.Proofs.YthkibjhhlcfceaiGreatDoor.Frm Go.Proofs.YthkibjhhlcfceaiGreatDoor.Wid Go.Proofs.YthkibjhhlcfceaiGreatDoor.Hrn
set_option linter.unusedVariables false

/-- What is told of bytes that are unpacked. -/
def UnpPost (x : ByteArray) (s : List Int) (B : Int) (w : World) (e : Ending) (w' : World) : Prop :=
  ∃ E p q ps, e = .returned (.tuple #[.slice p ps.length q, .int .i64 E]) ∧ PtsN w.heap.size w' p ps ∧ ps.length ≤ q ∧ q ≤ 9223372036854775807 ∧ UnpF (byt x) s B E ps ∧ Below w.heap.size w w'
theorem unp_no {x : ByteArray} {s : List Int} {B E : Int} {w w' : World} (h : UnpF (byt x) s B E []) (hb : Below w.heap.size w w') : UnpPost x s B w (.returned (.tuple #[.slice none 0 0, .int .i64 E])) w' := ⟨E, none, 0, [], rfl, Or.inl rfl, Nat.le_refl _, by omega, h, hb⟩
/-- Two texts, held against each other. -/
theorem text_ne {l : List Int} {x : ByteArray} (hl : Byts l) (h : str l ≠ x) : ((str l).toList == x.toList) = false := by
  rw [beq_eq_false_iff_ne]
  intro e
  have h2 := str_same x l hl
  rw [e] at h2
  have h3 : (x.toList == x.toList) = true := by simp
  rw [h3] at h2
  have h4 : byt x = l := by simpa using h2.symm
  exact h (by rw [← h4, str_byt])

set_option maxRecDepth 100000 in
set_option maxHeartbeats 32000000 in
theorem refUnpack_ok (x : ByteArray) (b : Option Addr) (capb : Nat) (s : List Int) (B : Int) (w : World) (h50 : x.size ≤ 50) (hs : Row w b s) (h1 : Hid (bf s = 0)) (hB0 : 0 ≤ B) (hB4 : B ≤ 400) :
    Calls Tryz.prog 16 #[.string x, .slice b s.length capb, .int .i64 B] w fun e w' => UnpPost x s B w e w' := by
  obtain ⟨n0, n8, hsz, n32⟩ := bf_ok (unhide h1)
  have HSZ := hide hsz
  have CBA := hide (fun W h => refBands_ok b capb s W (by omega) h h1)
  have COP := hide (fun W => refOpen x W (by omega))
  have HBA : Hid (Bit (opn (byt x))) := hide (opn_bit (byt_byts x))
  have hAN : (opn (byt x)).length = 8 * x.size := by rw [opn_length, byt_length]
  have HNO : Hid ((∀ qs, ¬ IsP (byt x) s B qs) → ∀ w', Below w.heap.size w w' → UnpPost x s B w (.returned (.tuple #[.slice none 0 0, .int .i64 2])) w') := hide (fun h w' hb => unp_no (Or.inr ⟨unhide h1, Or.inr ⟨⟨hB0, hB4⟩, Or.inl ⟨h, rfl, rfl⟩⟩⟩) hb)
  have HYE : Hid (∀ ps p q w', IsP (byt x) s B ps → PtsN w.heap.size w' p ps → ps.length ≤ q → q ≤ 9223372036854775807 → Below w.heap.size w w' → UnpPost x s B w (.returned (.tuple #[.slice p ps.length q, .int .i64 0])) w') := hide (fun ps p q w' h hp hq hq9 hb => ⟨0, p, q, ps, rfl, hp, hq, hq9, Or.inr ⟨unhide h1, Or.inr ⟨⟨hB0, hB4⟩, Or.inr ⟨h, rfl⟩⟩⟩, hb⟩)
  have HX1 : Hid (∀ i, i < s.length → (opn (byt x)).length < 6 * i + 6 → ∀ qs, ¬ IsP (byt x) s B qs) := hide (fun i hi h qs hq => by have := (hq.reads hi).2; omega)
  have HX2 : Hid (∀ i, i < s.length → gok (rg (opn (byt x)) i) = false → ∀ qs, ¬ IsP (byt x) s B qs) := hide (fun i hi h qs hq => by have := (hq.reads hi).1; rw [h] at this; cases this)
  have HX3 : Hid (∀ i, i < s.length → (opn (byt x)).length < 6 * s.length + cs s (rgv (opn (byt x)) s B) i + Bt (at0 (rgv (opn (byt x)) s B) i).toNat (at0 s i).toNat → ∀ qs, ¬ IsP (byt x) s B qs) := hide (fun i hi h qs hq => by have := (hq.ranks hi).2.2; omega)
  have HX4 : Hid (∀ i, i < s.length → V (at0 (rgv (opn (byt x)) s B) i).toNat (at0 s i).toNat ≤ rr (opn (byt x)) s (rgv (opn (byt x)) s B) i → ∀ qs, ¬ IsP (byt x) s B qs) := hide (fun i hi h qs hq => by have := (hq.ranks hi).2.1; omega)
  have HSM : Hid (∀ ps qs, ps.length = s.length → (∀ i, i < s.length → (prt ps i).1 = rg (opn (byt x)) i ∧ Rd (opn (byt x)) s (rgv (opn (byt x)) s B) i (prt ps i).2) → IsP (byt x) s B qs → ps = qs) := hide (fun ps qs h h' hq => hq.same h h')
  have HGV : Hid (given (rgs (opn (byt x)) s.length) s B = rgv (opn (byt x)) s B) := hide rfl
  have HGI := hide (given_is (gs := rgs (opn (byt x)) s.length) (B := B) hsz n8 hB0)
  have HRG : Hid (∀ i, num 0 (((opn (byt x)).drop (6 * i)).take 6) = rg (opn (byt x)) i) := hide (fun i => rfl)
  have HRR : Hid (∀ i, num 0 (((opn (byt x)).drop (6 * s.length + cs s (rgv (opn (byt x)) s B) i)).take (Bt (at0 (rgv (opn (byt x)) s B) i).toNat (at0 s i).toNat)) = rr (opn (byt x)) s (rgv (opn (byt x)) s B) i) := hide (fun i => rfl)
  obtain ⟨A, hA⟩ : ∃ A, opn (byt x) = A := ⟨_, rfl⟩
  rw [hA] at COP HBA hAN HX1 HX2 HX3 HX4 HSM HGV HGI HRG HRR
  rw [unhide HGV] at HGI
  have CPA := hide (fun p q ps W hp hs' hz => refPack p q ps b capb s B W hp hs' hz (by omega))
  unfold PackPost at CPA
  obtain ⟨N, hN⟩ : ∃ N, s.length = N := ⟨_, rfl⟩
  have HN := hide hN
  obtain ⟨SZ, hSZ⟩ : ∃ SZ, x.size = SZ := ⟨_, rfl⟩
  have hlen : ∀ W, (Builtin.len_ #[9] 3 #[.string x]).run Tryz.prog W = .ok (.int .i64 (SZ : Int)) W := fun W => by rw [run_len_string W 9 3 x Tryz.underlying9, hSZ]; rfl
  obtain ⟨TT, hTT⟩ : ∃ TT, total s = TT := ⟨_, rfl⟩
  rw [hTT] at CBA
  have CGV := hide (fun p q (ps : List Prt) W hp hr hl hg => refGiven p q ps b capb s B W hp hr (by omega) n8 hl HSZ hg hB0 hB4)
  rw [hN] at CBA CPA CGV HX1 HX2 HX3 HX4 HSM HGV HRR n0 n8 ⊢
  rw [hSZ] at hAN h50
  obtain ⟨AN, hANv⟩ : ∃ AN, A.length = AN := ⟨_, rfl⟩
  have HAN := hide hANv
  rw [hANv] at hAN HX1 HX3
  have hAN4 : AN ≤ 400 := by omega
  have d1 : decide (B < 0) = false := by simp; omega
  have d2 : decide (400 < B) = false := by simp; omega
  have d5 : decide ((50 : Int) < (SZ : Int)) = false := by simp; omega
  have HGL : Hid ((rgs A N).length = N) := hide (by unfold rgs; rw [upto_length])
  have HGA : Hid (∀ r, r < N → at0 (rgs A N) r = rg A r) := hide (fun r hr => by unfold rgs; exact upto_at _ hr)
  clear hA hN hSZ hTT hANv hAN hsz n32
  go_enter Tryz.func16, Tryz.ntmps16
  go_wp2_with fail
  refine (unhide CBA _ hs).mono ?_
  rintro e w1 ⟨rfl, hb1⟩
  clear CBA
  go_wp2_with fail
  refine (unhide COP w1).mono ?_
  clear COP
  rintro e w4 ⟨v4, rfl, k4, hb4⟩
  obtain ⟨p4, q4, rfl, r4, m4, m49⟩ := Ev.has_room k4
  rw [unhide HAN] at m4 ⊢
  have hB4 := Below.chain hb1 hb4
  clear k4 hb1 hb4
  go_wp2
  go_loopw [11, 12, 13] (fun v t i wr => ∃ j AT : Nat, j ≤ N ∧ i = .int .i64 j ∧ t = .int .i64 AT ∧ Hid (AT = 6 * j) ∧ AT ≤ 48 ∧ HasP wr w4.heap.size v (q0 (rgs A N) j) ∧ Hid (∀ r, r < j → gok (rg A r) = true) ∧ Below w4.heap.size w4 wr) (fun _ _ i _ => N - (intOf i).toNat)
  case atStart => exact ⟨0, 0, Nat.zero_le _, rfl, rfl, rfl, by omega, HasP.nil _ _, hide (fun r hr => by omega), Below.refl _ _⟩
  case round =>
    obtain ⟨j, AT, hj, rfl, rfl, HAT, hAT, hv, HG, hB⟩ := hrel
    have hBw := Below.chain hB4 hB
    by_cases hlt : j < N
    · obtain ⟨AQ, hAQ⟩ : ∃ AQ, AT + 6 = AQ := ⟨_, rfl⟩
      have wAQ : IntKind.i64.wrap ((AT : Int) + 6) = (AQ : Int) := by rw [← hAQ, Int.natCast_add]; exact IntWalk.i64_in _ (by omega)
      by_cases hex : AN < AQ
      · have dx : decide ((AN : Int) < (AQ : Int)) = true := by simp; omega
        have HP := hide (unhide HNO (unhide HX1 j hlt (by rw [← unhide HAT, hAQ]; exact hex)) wr hBw)
        clear HNO HX1 HX2 HX3 HX4 HSM HYE
        go_wp2
        go_ret2
        exact unhide HP
      · have dx : decide ((AN : Int) < (AQ : Int)) = false := by simp; omega
        obtain ⟨A6, hA6, r6⟩ := row_cut (r4.below hB) q4 (by rw [unhide HAN]; exact m4) (t := AT) (q := AQ) (by omega) (by rw [unhide HAN]; omega)
        have e6 : AQ - AT = 6 := by omega
        rw [e6] at hA6 r6
        rw [unhide HAN] at hA6
        have hl6 : ((A.drop AT).take 6).length = 6 := by rw [List.length_take, List.length_drop, unhide HAN]; omega
        have CNU := refNumber A6 (q4 - AT) ((A.drop AT).take 6) wr r6 (by rw [hl6]; omega) (hide (bit_take (bit_drop (unhide HBA) _) _))
        rw [hl6, unhide HAT, unhide HRG] at CNU
        rw [← unhide HAT] at CNU
        have HGJ := hide (unhide HGA j hlt)
        have HNG := hide (unhide HX2 j hlt)
        obtain ⟨G, hG⟩ : ∃ G, rg A j = G := ⟨_, rfl⟩
        have HGG := hide hG
        rw [hG] at CNU HGJ HNG
        have CVA := hide (fun W => refValue G W)
        have HST := hide (q0_step (gs := rgs A N) (k := j) (by rw [unhide HGL]; exact hlt))
        rw [unhide HGJ] at HST
        obtain ⟨VV, hVV⟩ : ∃ VV, vlN G = VV := ⟨_, rfl⟩
        rw [hVV] at CVA
        have hln : Hid ((q0 (rgs A N) j).length + 1 ≤ 1000000) := hide (by rw [q0_length (by rw [unhide HGL]; omega)]; omega)
        have hWs := hB.size
        clear hG hVV r6 hl6 e6
        cases hg : gok G with
        | false =>
          have HP := hide (unhide HNO (unhide HNG hg) wr hBw)
          rw [hg] at CVA
          clear HNO HX1 HX2 HX3 HX4 HSM HYE HNG hg
          go_wp2_with fail
          refine CNU.mono ?_
          clear CNU
          rintro e w5 ⟨rfl, rfl⟩
          go_wp2_with fail
          refine (unhide CVA _).mono ?_
          rintro e w6 ⟨rfl, hw6⟩
          obtain rfl := hw6
          go_wp2
          go_ret2
          exact unhide HP
        | true =>
          have HG2 : Hid (∀ r, r < j + 1 → gok (rg A r) = true) := hide (fun r hr => by
            by_cases e : r = j
            · rw [e, unhide HGG]; exact hg
            · exact unhide HG r (by omega))
          rw [hg] at CVA
          have HAT2 : Hid (AQ = 6 * (j + 1)) := hide (by rw [← hAQ, unhide HAT]; omega)
          have hAQ9 : AQ ≤ 48 := by have := unhide HAT; omega
          clear HNG hg HG hAQ
          go_wp2_with fail
          refine CNU.mono ?_
          clear CNU
          rintro e w5 ⟨rfl, hw5⟩
          obtain rfl : wr = w5 := hw5.symm
          go_wp2_with fail
          refine (unhide CVA _).mono ?_
          rintro e w6 ⟨rfl, hw6⟩
          obtain rfl : wr = w6 := hw6
          clear CVA
          go_wp2_with (at_builtin; refine wpList_appp _ rfl _ _ rfl w4.heap.size u11 (q0 (rgs A N) j) (G, .slice none 0 0) _ _ rfl (hv.alloc _) rfl rfl (by simp) (by simp) (unhide hln) (by simp; omega) ?_; intro s' w7 k7 g7 at7)
          have hB7 : Below w4.heap.size w4 w7 := hB.trans (((Below.refl _ wr).alloc hWs _).grown g7 (by simp; omega) (fun j e => (hv.lt j e).1))
          rw [← unhide HST] at k7
          clear hv hB g7 at7
          go_wp2
          go_roundw
          case rel => exact ⟨j + 1, AQ, by omega, by go_num, by first | rfl | go_num, HAT2, hAQ9, k7, HG2, hB7⟩
          case measure => simp [intOf]; omega
    · obtain rfl : N = j := by omega
      have HQL := hide (q0_length (gs := rgs A N) (k := N) (by rw [unhide HGL]; exact Nat.le_refl _))
      obtain ⟨g, c, rfl, hg1, hg2, -, -⟩ := hv.one (by rw [unhide HQL]; exact n0)
      obtain ⟨a5, c5, ee, pt5, -, -⟩ := hv.pts (ps := bare (rgs A N)) (by rw [bare_length, unhide HGL, unhide HQL]) (fun r hr => by
        rw [bare_length, unhide HGL] at hr
        rw [bare_at (by rw [unhide HGL]; exact hr)]
        exact ⟨_, q0_at hr (by rw [unhide HGL]; exact Nat.le_refl _), sli_nil _⟩)
      obtain ⟨ea, eb, ec⟩ := Value.slice.inj ee
      subst ea ec
      have CG := unhide CGV (some ⟨g, 0, none⟩) c (bare (rgs A N)) wr pt5 (hs.below hBw) (by rw [bare_length, unhide HGL]) (hide (fun i hi => by
        rw [bare_length, unhide HGL] at hi
        rw [bare_at (by rw [unhide HGL]; exact hi), unhide HGA i hi]
        exact unhide HG i hi))
      rw [bare_gns, bare_length, unhide HGL, unhide HGV] at CG
      rw [unhide HQL]
      have HA0 : Hid (∀ r, r < N → ∃ V, (q0 (rgs A N) N)[r]? = some (at0 (rgs A N) r, V)) := hide (fun r hr => ⟨_, q0_at hr (by rw [unhide HGL]; exact Nat.le_refl _)⟩)
      have HGVL : Hid ((rgv A s B).length = N) := hide (by rw [(unhide HGI).len, unhide HN])
      have HGP := hide (unhide HGI).pls
      have HCL : Hid (∀ j, j ≤ N → cs s (rgv A s B) j ≤ 15 * j) := hide (fun j hj => cs_le (unhide HSZ) (unhide HGP) (by rw [unhide HGVL, unhide HN]) (by rw [unhide HN]; exact hj))
      have HCS : Hid (∀ j, cs s (rgv A s B) (j + 1) = cs s (rgv A s B) j + Bt (at0 (rgv A s B) j).toNat (at0 s j).toNat) := hide (fun j => rfl)
      have HRDI : Hid (∀ j l, Is (at0 s j).toNat (at0 (rgv A s B) j).toNat (rr A s (rgv A s B) j) l → Rd A s (rgv A s B) j l) := hide (fun j l h => h)
      obtain ⟨gs, hgs⟩ : ∃ gs, rgs A N = gs := ⟨_, rfl⟩
      rw [hgs] at HA0 hv HQL HGL HGA
      obtain ⟨gv, hgv⟩ : ∃ gv, rgv A s B = gv := ⟨_, rfl⟩
      rw [hgv] at CG HGVL HGP HCL HCS HX3 HX4 HSM HRR HRDI
      obtain ⟨qs0, hqs⟩ : ∃ qs0, q0 gs N = qs0 := ⟨_, rfl⟩
      rw [hqs] at HA0 hv HQL
      rw [unhide HQL] at hv
      clear hgs hgv hqs ee eb pt5 HG HGI CGV HX1 HX2 HRG hj hlt
      go_wp2_with fail
      refine CG.mono ?_
      rintro e w7 ⟨v7, rfl, k7, hb7⟩
      clear CG
      obtain ⟨g7, c7, rfl, hg7, hg8, -, -⟩ := k7.one (by rw [unhide HGVL]; exact n0)
      rw [unhide HGVL] at k7 ⊢
      have hv7 := hv.below hb7
      have hB7 := hB.trans (hb7.mono hB.size)
      have h47 : w4.heap.size ≤ w7.heap.size := hB7.size
      have hgw : g < w7.heap.size := Nat.lt_of_lt_of_le hg2 hb7.size
      obtain ⟨n5, hn5⟩ : ∃ n5, wr.heap.size = n5 := ⟨_, rfl⟩
      rw [hn5] at k7 hg2 hg7
      clear hv hB hb7 hn5 hBw
      go_wp2
      go_loopw [12, 18] (fun t i wq => ∃ (j AT : Nat) (qs : List (Int × Value)), j ≤ N ∧ i = .int .i64 j ∧ t = .int .i64 AT ∧ Hid (AT = 6 * N + cs s gv j) ∧ HasP wq w4.heap.size (.slice (some ⟨g, 0, none⟩) N c) qs ∧ Hid (qs.length = N) ∧ Hid (∀ r, r < N → ∃ V, qs[r]? = some (at0 gs r, V)) ∧
          Hid (∀ r, r < j → ∃ V l, qs[r]? = some (at0 gs r, V) ∧ Has wq w7.heap.size V l ∧ Rd A s gv r l) ∧ Has wq n5 (.slice (some ⟨g7, 0, none⟩) N c7) gv ∧ Below w4.heap.size w4 wq ∧ w7.heap.size ≤ wq.heap.size) (fun _ i _ => N - (intOf i).toNat)
      case atStart => exact ⟨0, AT, qs0, Nat.zero_le _, rfl, rfl, hide (by rw [unhide HAT]; rfl), hv7, HQL, HA0, hide (fun r hr => by omega), k7, hB7, Nat.le_refl _⟩
      case round =>
        clear hv7 HQL HA0 k7 hB7 HAT hAT
        rename World => wq
        obtain ⟨j, AT, qs, hj, rfl, rfl, HAT, hS, HQ, HA, HD, hK, hB, hsq⟩ := hrel
        have hBw := Below.chain hB4 hB
        by_cases hlt : j < N
        · have hlts : j < s.length := by rw [unhide HN]; exact hlt
          have hltg : j < gv.length := by rw [unhide HGVL]; exact hlt
          obtain ⟨bs, offs, rfl, hbs, hcs⟩ := Bnd.cell_at (hs.below hBw) (by omega)
          have cx := hcs j hlts
          have ck := hK.get (j := j) hltg
          have hgk : g7 < wq.heap.size := (hK.lt g7 rfl).2
          have hsj := unhide HSZ j hlts
          have hgj := unhide HGP j hltg
          have hcl := unhide HCL j (by omega)
          obtain ⟨X, hX⟩ : ∃ X : Nat, at0 s j = X := ⟨(at0 s j).toNat, by omega⟩
          obtain ⟨K, hK'⟩ : ∃ K : Nat, at0 gv j = K := ⟨(at0 gv j).toNat, by omega⟩
          have eX : (at0 s j).toNat = X := by omega
          have eK : (at0 gv j).toNat = K := by omega
          have H3 := hide (unhide HX3 j hlt)
          have H4 := hide (unhide HX4 j hlt)
          have HRJ := hide (unhide HRR j)
          have HCJ := hide (unhide HCS j)
          have HDJ := hide (unhide HRDI j)
          rw [eX, eK] at H3 H4 HRJ HCJ HDJ
          rw [← unhide HAT] at H3 HRJ
          rw [hX] at cx hsj
          rw [hK'] at ck hgj
          have hX6 : X ≤ 6 := by omega
          have hK8 : K ≤ 8 := by omega
          have CCO : Hid (∀ W, Calls Tryz.prog 47 #[.int .i64 (X : Int), .int .i64 (K : Int)] W fun e w' => e = .returned (.int .i64 (V K X)) ∧ Below W.heap.size W w') := hide (fun W => refCount X K hX6 hK8 W)
          have hV9 := V_in K X (by omega) (by omega)
          have CBI : Hid (∀ W, Calls Tryz.prog 46 #[.int .i64 (V K X)] W fun e w' => e = .returned (.int .i64 (Bt K X : Int)) ∧ W = w') := hide (fun W => (refBits _ hV9.2 W).mono fun e w' ⟨b, he, hb, hw⟩ => ⟨by rw [he, hb.one (Bt_is hK8 hX6)], hw⟩)
          have hbt := Bt_le (k := K) (n := X) (by omega) (by omega)
          have CRW : Hid (∀ r W, 0 ≤ r → Hid (r < V K X) → _) := hide (fun (r : Int) W (h0 : 0 ≤ r) (h : Hid (r < V K X)) => refRow X K r W hX6 hK8 h0 h)
          obtain ⟨BT, hBT⟩ : ∃ BT, Bt K X = BT := ⟨_, rfl⟩
          rw [hBT] at H3 HRJ HCJ CBI hbt
          obtain ⟨VV, hVV⟩ : ∃ VV, V K X = VV := ⟨_, rfl⟩
          rw [hVV] at H4 CCO CBI CRW hV9
          have hAT9 : AT ≤ 200 := by have := unhide HAT; omega
          have X1 : ∀ W : Cls wq, W.val.cell? ⟨bs, offs + j, none⟩ = _ := fun W => W.cell hbs cx
          have X2 : ∀ W : Cls wq, W.val.cell? ⟨g7, j, none⟩ = _ := fun W => W.cell hgk ck
          obtain ⟨AQ, hAQ⟩ : ∃ AQ, AT + BT = AQ := ⟨_, rfl⟩
          have wAQ : IntKind.i64.wrap ((AT : Int) + (BT : Int)) = (AQ : Int) := by rw [← hAQ, Int.natCast_add]; exact IntWalk.i64_in _ (by omega)
          rw [hAQ] at H3
          have hji : (j : Int) < (N : Int) := by omega
          clear hcs hX hK' eX eK hBT hVV hlts hltg hcl
          go_upto_region 26 with fail
          refine region_calm (by kernel_rfl) (by kernel_rfl) ?_
          repeat (go_big_quiet_step ((go_at_call 47; exact calm_call (unhide CCO _))))
          refine wpQuiet_nil ?_
          intro _ hw'
          obtain ⟨WQ, hw''⟩ := hw'
          subst hw''
          have hS9 := hS.below WQ.ok
          have hK9 := hK.below WQ.ok
          have hB9 := hB.trans (WQ.ok.mono hB.size)
          have hD9 : Hid (∀ r, r < j → ∃ V l, qs[r]? = some (at0 gs r, V) ∧ Has WQ.val w7.heap.size V l ∧ Rd A s gv r l) := hide (fun r hr => by
            obtain ⟨V, l, h1, h2, h3⟩ := unhide HD r hr
            exact ⟨V, l, h1, h2.below WQ.ok, h3⟩)
          have hsq9 := Nat.le_trans hsq WQ.ok.size
          have cx9 := X1 WQ
          have ck9 := X2 WQ
          obtain ⟨w9, hw9⟩ : ∃ w9, WQ.val = w9 := ⟨_, rfl⟩
          rw [hw9] at hS9 hK9 hB9 hD9 hsq9 cx9 ck9 ⊢
          clear X1 X2 CCO hw9 hS hK hB HD hsq cx ck hBw hgk hbs
          have hBw := Below.chain hB4 hB9
          by_cases hex : AN < AQ
          · have dx : decide ((AN : Int) < (AQ : Int)) = true := by simp; omega
            have HP := hide (unhide HNO (unhide H3 hex) w9 hBw)
            clear HNO HX3 HX4 HSM HYE H3 H4
            go_wp2_with fail
            refine (unhide CBI _).mono ?_
            rintro e wa ⟨rfl, hwa⟩
            obtain rfl : w9 = wa := hwa
            go_wp2
            go_ret2
            exact unhide HP
          · have dx : decide ((AN : Int) < (AQ : Int)) = false := by simp; omega
            obtain ⟨A6, hA6, r6⟩ := row_cut (r4.below hB9) q4 (by rw [unhide HAN]; exact m4) (t := AT) (q := AQ) (by omega) (by rw [unhide HAN]; omega)
            have e6 : AQ - AT = BT := by omega
            rw [e6] at hA6 r6
            rw [unhide HAN] at hA6
            have hl6 : ((A.drop AT).take BT).length = BT := by rw [List.length_take, List.length_drop, unhide HAN]; omega
            have hbit := bit_take (bit_drop (unhide HBA) AT) BT
            have CNU := refNumber A6 (q4 - AT) ((A.drop AT).take BT) w9 r6 (by rw [hl6]; omega) (hide hbit)
            have hnn := (num_in hbit).1
            rw [unhide HRJ] at hnn
            rw [hl6, unhide HRJ] at CNU
            obtain ⟨RN, hRN⟩ : ∃ RN, rr A s gv j = RN := ⟨_, rfl⟩
            rw [hRN] at CNU hnn H4 HDJ
            have HAT2 : Hid (AQ = 6 * N + cs s gv (j + 1)) := hide (by rw [unhide HCJ, ← hAQ, unhide HAT]; omega)
            clear r6 hl6 hbit e6 hRN HRJ HCJ H3 hAQ
            by_cases hge : VV ≤ RN
            · have dv : decide (VV ≤ RN) = true := by simpa using hge
              have HP := hide (unhide HNO (unhide H4 hge) w9 hBw)
              clear HNO HX3 HX4 HSM HYE H4
              go_wp2_with fail
              refine (unhide CBI _).mono ?_
              rintro e wa ⟨rfl, hwa⟩
              obtain rfl : w9 = wa := hwa
              go_wp2_with fail
              refine CNU.mono ?_
              rintro e wa ⟨rfl, hwa⟩
              obtain rfl : w9 = wa := hwa.symm
              go_wp2
              go_ret2
              exact unhide HP
            · have dv : decide (VV ≤ RN) = false := by simpa using hge
              have CRO := hide (fun W => unhide CRW RN W hnn (hide (by omega)))
              obtain ⟨V0, hV0⟩ := unhide HA j hlt
              have hdr : Below w9.heap.size w9 w9.drew := ⟨rfl, rfl, rfl, Nat.le_refl _, fun _ _ => rfl⟩
              have hSd : HasP w9.drew w4.heap.size (.slice (some ⟨g, 0, none⟩) N c) qs := hS9
              have hgw9 : g < w9.heap.size := Nat.lt_of_lt_of_le hgw hsq9
              clear H4 CRW hge
              go_wp2_with fail
              refine (unhide CBI _).mono ?_
              rintro e wa ⟨rfl, hwa⟩
              obtain rfl : w9 = wa := hwa
              clear CBI
              go_wp2_with fail
              refine CNU.mono ?_
              rintro e wa ⟨rfl, hwa⟩
              obtain rfl : w9 = wa := hwa.symm
              clear CNU
              go_wp2
              go_region_with (
                go_at_call 58
                refine (unhide CRO _).mono ?_
                rintro e wb ⟨vb, lb, rfl, kb, HIb, hbb⟩
                obtain ⟨pa, na, ca, rfl⟩ := kb.shape
                have hSb := hSd.below hbb
                have fb := hSb.frozen (unhide HQ).symm (j * 2 + 1)
                obtain ⟨-, ob⟩ := hSb.get (unhide HQ).symm hV0)
              all_goals (
                have hbd := hdr.trans hbb
                have kb' : Has wb w9.heap.size (.slice pa na ca) lb := kb
                obtain ⟨m1, m2, m3⟩ := parts_put (P := fun r l => Rd A s gv r l) hS9 (unhide HQ) hlt hgw hsq9 (unhide HA) (unhide hD9) kb' (unhide HDJ lb (unhide HIb)) hbd
                have HQ2 : Hid ((qs.set j (at0 gs j, .slice pa na ca)).length = N) := hide (by rw [List.length_set]; exact unhide HQ)
                have hKb := (hK9.below hbd).kept (grownBy_setCellAt wb g (j * 2 + 1) (.slice pa na ca)) (Or.inr (by intro e; have e2 : g7 = g := Option.some.inj e; omega))
                have hBb := (hB9.trans (hbd.mono hB9.size)).setCell (p := ⟨g, j * 2 + 1, none⟩) hg1 (.slice pa na ca)
                have hsb : w7.heap.size ≤ (wb.setCell ⟨g, j * 2 + 1, none⟩ (.slice pa na ca)).heap.size := by simpa using Nat.le_trans hsq9 hbd.size
                have Q1 := hide m1
                have Q2 := hide m2
                have Q3 := hide m3
                have Q4 := hide hKb
                have Q5 := hide hBb
                have Q6 := hide hsb
                clear m1 m2 m3 hKb hBb hsb
                go_wp2
                go_roundw
                case rel => exact ⟨j + 1, AQ, _, by omega, by go_num, by first | rfl | go_num, HAT2, unhide Q1, HQ2, Q2, Q3, unhide Q4, unhide Q5, unhide Q6⟩
                case measure => simp [intOf]; omega)
        · obtain rfl : N = j := by omega
          have hnn : w4.heap.size ≤ w7.heap.size := h47
          obtain ⟨ps, y1, y2, aa, cc, ye, y3, y4, y5⟩ := parts_new hS hnn (by rw [unhide HQ, unhide HGL]) (fun r hr => unhide HD r (by rw [← unhide HGL]; exact hr))
          have HPN : Hid (ps.length = N) := hide (by rw [y1, unhide HGL])
          have HSQ : Hid (∀ qs, IsP (byt x) s B qs → ps = qs) := hide (fun qs hq => unhide HSM ps qs (unhide HPN) (fun i hi => by
            obtain ⟨z1, z2⟩ := y2 i (by rw [unhide HGL]; exact hi)
            exact ⟨by rw [z1, unhide HGA i hi], z2⟩) hq)
          have c8 := unhide CPA aa cc ps wq y3.pts (hs.below hBw) (by rw [unhide HPN]; omega)
          have HYP := hide (fun w' h h' => unhide HYE ps aa cc w' h h' y4 y5)
          obtain ⟨ea, eb, ec⟩ := Value.slice.inj ye
          rw [unhide HPN] at c8 HYP
          subst ea ec
          have P3 := hide y3
          clear HYE HSM HX3 HX4 HD HA HQ hS hK y1 y2 y3 y4 y5 ye eb CPA HRR HCS HCL HRDI
          go_wp2_with fail
          refine c8.mono ?_
          clear c8
          rintro e w8 ⟨E, rfl, HE, hb8⟩
          have hB8 := Below.chain hBw hb8
          by_cases hE : E = 0
          · subst hE
            rw [pstr_ok]
            have HBY : Hid (Byts (oct (pbits ps))) := hide (oct_in (pack_bit (frm_zero HE.zero.1).2.2.2))
            by_cases hx : str (oct (pbits ps)) = x
            · have hI : IsP (byt x) s B ps := by
                have h := HE.zero
                rw [← hx, byt_str (unhide HBY)]
                exact h
              have HP := hide (unhide HYP w8 hI (((unhide P3).below hb8).mono hB4.size) hB8)
              rw [hx]
              have hxx : (x.toList == x.toList) = true := by simp
              clear HYP HNO HSQ HE hI hx HBY
              go_wp2
              go_ret2
              exact unhide HP
            · have hxx := text_ne (unhide HBY) hx
              have HP := hide (unhide HNO (fun qs hq => hx (by
                obtain rfl := unhide HSQ qs hq
                rw [hq.2.2, str_byt])) w8 hB8)
              obtain ⟨Z, hZ⟩ : ∃ Z, str (oct (pbits ps)) = Z := ⟨_, rfl⟩
              rw [hZ] at hxx ⊢
              clear HYP HNO HSQ HE hx hZ HBY
              go_wp2
              go_ret2
              exact unhide HP
          · have hne : (E != 0) = true := by simpa using hE
            have HP := hide (unhide HNO (fun qs hq => hE (by
              obtain rfl := unhide HSQ qs hq
              exact HE.one hq.pck)) w8 hB8)
            obtain ⟨Z, hZ⟩ : ∃ Z, pstr ps E = Z := ⟨_, rfl⟩
            rw [hZ]
            clear HYP HNO HSQ HE hE hZ
            go_wp2
            go_ret2
            exact unhide HP

set_option maxRecDepth 100000 in
set_option maxHeartbeats 4000000 in
theorem refUnpack (x : ByteArray) (b : Option Addr) (capb : Nat) (s : List Int) (B : Int) (w : World) (zx : x.size ≤ 9223372036854775807) (hs : Row w b s) (zs : s.length ≤ 9223372036854775807) :
    Calls Tryz.prog 16 #[.string x, .slice b s.length capb, .int .i64 B] w fun e w' => UnpPost x s B w e w' := by
  obtain ⟨SZ, hSZ⟩ : ∃ SZ, x.size = SZ := ⟨_, rfl⟩
  have hlen : ∀ W, (Builtin.len_ #[9] 3 #[.string x]).run Tryz.prog W = .ok (.int .i64 (SZ : Int)) W := fun W => by rw [run_len_string W 9 3 x Tryz.underlying9, hSZ]; rfl
  by_cases h1 : bf s = 0
  · by_cases hB : 0 ≤ B ∧ B ≤ 400
    · by_cases h50 : x.size ≤ 50
      · exact refUnpack_ok x b capb s B w h50 hs (hide h1) hB.1 hB.2
      · have CBA := refBands_ok b capb s w zs hs (hide h1)
        have HP : Hid (∀ w', Below w.heap.size w w' → UnpPost x s B w (.returned (.tuple #[.slice none 0 0, .int .i64 2])) w') := hide (fun w' hb => unp_no (Or.inr ⟨h1, Or.inr ⟨hB, Or.inl ⟨fun qs hq => h50 (by have := hq.long; rw [byt_length] at this; exact this), rfl, rfl⟩⟩⟩) hb)
        rw [hSZ] at h50 zx
        obtain ⟨TT, hTT⟩ : ∃ TT, total s = TT := ⟨_, rfl⟩
        obtain ⟨N, hN⟩ : ∃ N, s.length = N := ⟨_, rfl⟩
        rw [hTT] at CBA
        rw [hN] at CBA ⊢
        obtain ⟨hB0, hB4⟩ := hB
        have d1 : decide (B < 0) = false := by simp; omega
        have d2 : decide (400 < B) = false := by simp; omega
        have d5 : decide ((50 : Int) < (SZ : Int)) = true := by simp; omega
        clear hTT hN h1 hSZ
        go_enter Tryz.func16, Tryz.ntmps16
        go_wp2_with fail
        refine CBA.mono ?_
        rintro e w1 ⟨rfl, hb1⟩
        go_wp2
        go_ret2
        exact unhide HP w1 hb1
    · have CBA := refBands_ok b capb s w zs hs (hide h1)
      have HP : Hid (∀ w', Below w.heap.size w w' → UnpPost x s B w (.returned (.tuple #[.slice none 0 0, .int .i64 1])) w') := hide (fun w' hb => unp_no (Or.inr ⟨h1, Or.inl ⟨hB, rfl, rfl⟩⟩) hb)
      obtain ⟨TT, hTT⟩ : ∃ TT, total s = TT := ⟨_, rfl⟩
      obtain ⟨N, hN⟩ : ∃ N, s.length = N := ⟨_, rfl⟩
      rw [hTT] at CBA
      rw [hN] at CBA ⊢
      clear hTT hN h1 hSZ
      by_cases hb0 : B < 0
      · have d1 : decide (B < 0) = true := by simpa using hb0
        go_enter Tryz.func16, Tryz.ntmps16
        go_wp2_with fail
        refine CBA.mono ?_
        rintro e w1 ⟨rfl, hb1⟩
        go_wp2
        go_ret2
        exact unhide HP w1 hb1
      · have d1 : decide (B < 0) = false := by simpa using hb0
        have d2 : decide (400 < B) = true := by simp; omega
        go_enter Tryz.func16, Tryz.ntmps16
        go_wp2_with fail
        refine CBA.mono ?_
        rintro e w1 ⟨rfl, hb1⟩
        go_wp2
        go_ret2
        exact unhide HP w1 hb1
  · have CBA := refBands_no b capb s w zs hs (hide h1)
    have HP : Hid (∀ w', Below w.heap.size w w' → UnpPost x s B w (.returned (.tuple #[.slice none 0 0, .int .i64 (bf s)])) w') := hide (fun w' hb => unp_no (Or.inl ⟨h1, rfl, rfl⟩) hb)
    obtain ⟨N, hN⟩ : ∃ N, s.length = N := ⟨_, rfl⟩
    obtain ⟨F, hF⟩ : ∃ F, bf s = F := ⟨_, rfl⟩
    rw [hN] at CBA ⊢
    rw [hF] at CBA HP h1
    have hne : (F != 0) = true := by simpa using h1
    clear hN hF h1 hSZ
    go_enter Tryz.func16, Tryz.ntmps16
    go_wp2_with fail
    refine CBA.mono ?_
    rintro e w1 ⟨rfl, hb1⟩
    go_wp2
    go_ret2
    exact unhide HP w1 hb1

end Go.Proofs.YthkibjhhlcfceaiGreatDoor.Pck

/-
  hornsame.Ints, at any two lists: its contract.
-/
namespace Go.Proofs.YthkibjhhlcfceaiGreatDoor.Same
open Go.RowKit
set_option linter.unusedVariables false

theorem same_step {l m : List Int} {k : Nat} (hl : k < l.length) (hm : k < m.length) (h : l.take k = m.take k) (e : l[k] = m[k]) : l.take (k + 1) = m.take (k + 1) := by
  rw [List.take_succ_eq_append_getElem hl, List.take_succ_eq_append_getElem hm, h, e]
theorem same_not {l m : List Int} {k : Nat} (hl : k < l.length) (hm : k < m.length) (e : l[k] ≠ m[k]) : decide (l = m) = false := by
  apply decide_eq_false
  intro h
  subst h
  exact e rfl

set_option maxHeartbeats 400000 in
theorem ints (a : Option Addr) (cap : Nat) (l : List Int) (a' : Option Addr) (cap' : Nat) (m : List Int) (w : World) (hl : l.length ≤ 9223372036854775807) (hm : m.length ≤ 9223372036854775807) (hr : Row w a l) (hr' : Row w a' m) :
    Calls Tryz.prog 13 #[.slice a l.length cap, .slice a' m.length cap'] w fun e w' => e = .returned (.bool (decide (l = m))) ∧ ∃ n, w' = w.drewN n := by
  by_cases hlm : l.length = m.length
  · have HLM := hide hlm
    have i1 : l.length ≤ m.length := by omega
    have i2 : m.length ≤ l.length := by omega
    clear hlm
    go_enter Tryz.func13, Tryz.ntmps13
    go_wp2
    go_loopw [5] (fun i wr => ∃ k : Nat, k ≤ l.length ∧ i = .int .i64 k ∧ Hid (l.take k = m.take k) ∧ ∃ n, wr = w.drewN n) (fun i _ => l.length - (intOf i).toNat)
    case atStart => exact ⟨0, Nat.zero_le _, rfl, hide rfl, 0, rfl⟩
    case round =>
      obtain ⟨k, hk, rfl, HT, n, rfl⟩ := hrel
      by_cases hlt : k < l.length
      · obtain ⟨b, off, rfl, hb, hcs⟩ := hr.at hlt
        have hck := hcs k hlt
        have hlt' : k < m.length := by omega
        obtain ⟨b', off', rfl, hb', hcs'⟩ := hr'.at hlt'
        have hck' := hcs' k hlt'
        clear hcs hcs'
        by_cases heq : l[k] = m[k]
        · have HE := hide heq
          have hq : (l[k] == m[k]) = true := by simp [heq]
          clear heq
          go_wp2
          go_quiet (fail)
          go_wp2
          go_roundw
          case rel => exact ⟨k + 1, by omega, by go_num, hide (same_step hlt hlt' (unhide HT) (unhide HE)), _, rfl⟩
          case measure => simp [intOf]; omega
        · have HE := hide heq
          have hq : (l[k] == m[k]) = false := by simp [heq]
          clear heq
          go_wp2
          go_quiet (fail)
          go_wp2
          go_ret
          exact ⟨by rw [same_not hlt hlt' (unhide HE)]; rfl, n + nq, by rw [World.drewN_drewN]⟩
      · have hkl : k = l.length := by omega
        subst hkl
        go_wp2
        go_ret
        have h1 := unhide HT
        rw [List.take_of_length_le (Nat.le_refl _), List.take_of_length_le (by omega)] at h1
        exact ⟨by rw [decide_eq_true h1]; rfl, _, rfl⟩
  · have hb : ((l.length : Int) == (m.length : Int)) = false := by simp; omega
    have hne : decide (l = m) = false := decide_eq_false fun h => hlm (by rw [h])
    rw [hne]
    clear hlm hne
    go_enter Tryz.func13, Tryz.ntmps13
    go_wp2
    go_ret
    exact ⟨rfl, 0, rfl⟩
/-- .. where they are the same. -/
theorem ints_same (a : Option Addr) (cap : Nat) (a' : Option Addr) (cap' : Nat) (l : List Int) (w : World) (hl : l.length ≤ 9223372036854775807) (hr : Row w a l) (hr' : Row w a' l) :
    Calls Tryz.prog 13 #[.slice a l.length cap, .slice a' l.length cap'] w fun e w' => e = .returned (.bool true) ∧ Below w.heap.size w w' :=
  (ints a cap l a' cap' l w hl hl hr hr').mono fun e w' ⟨he, n, hn⟩ => ⟨by rw [he, decide_eq_true rfl], by rw [hn]; exact ⟨rfl, rfl, rfl, Nat.le_refl _, fun _ _ => rfl⟩⟩

end Go.Proofs.YthkibjhhlcfceaiGreatDoor.Same
