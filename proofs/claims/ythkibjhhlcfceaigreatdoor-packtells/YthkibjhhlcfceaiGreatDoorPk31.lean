/-
  width.Bits: by its contract.
-/
import Derived.Test.YthkibjhhlcfceaiGreatDoorPk06
import Derived.Test.YthkibjhhlcfceaiGreatDoorPk30
import Derived.Test.YthkibjhhlcfceaiGreatDoorPk23
import Derived.Test.YthkibjhhlcfceaiGreatDoorPk28
import Derived.Test.YthkibjhhlcfceaiGreatDoorPk04
import Derived.Test.YthkibjhhlcfceaiGreatDoorPk15
namespace Go.Proofs.YthkibjhhlcfceaiGreatDoor.Wid
open Go.RowKit Go.Shelf
open Go.Proofs.YthkibjhhlcfceaiGreatDoor.Tre Go.Proofs.YthkibjhhlcfceaiGreatDoor.Scl Go.Proofs.YthkibjhhlcfceaiGreatDoor.Bnd Go.Proofs.YthkibjhhlcfceaiGreatDoor.Itr Go.Proofs.YthkibjhhlcfceaiGreatDoor.Hrn
set_option linter.unusedVariables false
attribute [local go_sem] Oper.semAt_some

/-- It is a 1. -/
def one1 (x : Int) : Bool := x == 1
theorem any_one (l : List Int) : l.any one1 = l.any (fun x => x == 1) := rfl
theorem any_drop' {p : Int → Bool} {l : List Int} {k : Nat} (h : k < l.length) : (l.drop k).any p = (p (at0 l k) || (l.drop (k + 1)).any p) := by
  rw [List.drop_eq_getElem_cons h, List.any_cons]
  have e : at0 l k = l[k] := by simp [at0, h]
  rw [e]

/-- Where a 1 is, told as a Boolean. -/
def Found (T : Bool) (w : World) (e : Ending) (w' : World) : Prop := (∃ r : Int, e = .returned (.int .i64 r) ∧ decide (0 ≤ r) = T) ∧ w' = w
set_option maxHeartbeats 1000000 in
theorem index1 (a : Option Addr) (cap : Nat) (l : List Int) (w : World) (hr : Row w a l) (zl : l.length ≤ 1000) :
    Calls Tryz.prog 146 #[.slice a l.length cap, .int .i64 1] w fun e w' => Found (l.any one1) w e w' := by
  have HS0 : Hid ((l.drop 0).any one1 = l.any one1) := hide (by rw [List.drop_zero])
  obtain ⟨T, hT⟩ : ∃ T, l.any one1 = T := ⟨_, rfl⟩
  rw [hT] at HS0 ⊢
  obtain ⟨N, hN⟩ : ∃ N, l.length = N := ⟨_, rfl⟩
  have HN := hide hN
  rw [hN] at zl ⊢
  clear hN hT
  go_enter Tryz.func146, Tryz.ntmps146
  go_wp2
  go_loopw [8] (fun i wr => ∃ k : Nat, k ≤ N ∧ i = .int .i64 k ∧ Hid ((l.drop k).any one1 = T) ∧ w = wr) (fun i _ => N - (intOf i).toNat)
  case atStart => exact ⟨0, Nat.zero_le _, rfl, HS0, rfl⟩
  case round =>
    obtain ⟨k, hk, rfl, HK, rfl⟩ := hrel
    clear HS0
    by_cases hkl : k < N
    · have hkl' : k < l.length := by rw [unhide HN]; exact hkl
      obtain ⟨b2, off2, rfl, _, hc2⟩ := Scl.cell_at hr (by omega)
      have e1 := hc2 k hkl'
      have HK2 : Hid ((one1 (at0 l k) || (l.drop (k + 1)).any one1) = T) := hide (by rw [← any_drop' hkl']; exact unhide HK)
      obtain ⟨X, hX⟩ : ∃ X, at0 l k = X := ⟨_, rfl⟩
      rw [hX] at e1 HK2
      clear hX hc2 hkl' HK
      by_cases hx : X = 1
      · subst hx
        obtain rfl : true = T := by rw [← unhide HK2]; rfl
        clear HK2
        go_wp2
        go_ret
        exact ⟨⟨_, rfl, by simp⟩, rfl⟩
      · have HK3 : Hid ((l.drop (k + 1)).any one1 = T) := hide (by
          rw [← unhide HK2]
          have : one1 X = false := by simp [one1]; exact hx
          rw [this, Bool.false_or])
        have x1 : ((1 : Int) == X) = false := by rw [beq_eq_false_iff_ne]; omega
        have x2 : (X == (1 : Int)) = false := by rw [beq_eq_false_iff_ne]; omega
        clear HK2
        go_wp2
        go_roundw
        case rel => exact ⟨k + 1, by omega, by go_num, HK3, by first | trivial | rfl⟩
        case measure => simp [intOf]; omega
    · obtain rfl : k = N := by omega
      obtain rfl : false = T := by rw [← unhide HK, ← unhide HN, List.drop_length]; rfl
      clear HK
      go_wp2
      go_ret
      exact ⟨⟨_, rfl, by simp⟩, rfl⟩
theorem contains1 (a : Option Addr) (cap : Nat) (l : List Int) (w : World) (hr : Row w a l) (zl : l.length ≤ 1000) :
    Calls Tryz.prog 141 #[.slice a l.length cap, .int .i64 1] w fun e w' => e = .returned (.bool (l.any one1)) ∧ w' = w := by
  have hix := index1 a cap l w hr zl
  obtain ⟨T, hT⟩ : ∃ T, l.any one1 = T := ⟨_, rfl⟩
  rw [hT] at hix ⊢
  clear hT
  go_enter Tryz.func141, Tryz.ntmps141
  go_wp2_with fail
  refine hix.mono ?_
  clear hix
  rintro e w' ⟨⟨r, rfl, hr2⟩, hw⟩
  obtain rfl : w = w' := hw.symm
  have HR := hide hr2
  clear hr2 hw
  go_wp2
  go_ret
  exact ⟨by rw [← unhide HR]; rfl, rfl⟩

theorem upto_add' (f : Nat → Int) (n k : Nat) : upto f (n + k) = upto f n ++ upto (fun i => f (n + i)) k := by
  induction k with
  | zero => simp [upto]
  | succ k ih => rw [← Nat.add_assoc, upto_succ, ih, upto_succ, List.append_assoc]
theorem opn_step' (b : List Int) (j : Nat) : upto (opnF b) (8 * j) ++ bin 8 (at0 b j) = upto (opnF b) (8 * (j + 1)) := by
  rw [show 8 * (j + 1) = 8 * j + 8 by omega, upto_add']
  congr 1
  rw [eq_upto (bin 8 (at0 b j)), bin_length]
  exact upto_congr fun i hi => (opnF_at b j i hi).symm
/-- The bits of so many bytes. -/
def opens (b : List Int) (pre : List Nat) : List Int := (pre.map fun i => bin 8 (at0 b i)).flatten
theorem opens_step (b : List Int) (pre : List Nat) (x : Nat) : opens b (pre ++ [x]) = opens b pre ++ bin 8 (at0 b x) := by simp [opens]
theorem opens_length (b : List Int) (pre : List Nat) : (opens b pre).length = 8 * pre.length := by
  induction pre with
  | nil => rfl
  | cons x pre ih =>
    have e : opens b (x :: pre) = bin 8 (at0 b x) ++ opens b pre := by simp [opens]
    rw [e, List.length_append, bin_length, ih, List.length_cons]
    omega
theorem opens_range (b : List Int) (k : Nat) : opens b (List.range k) = upto (opnF b) (8 * k) := by
  induction k with
  | zero => rfl
  | succ k ih => rw [List.range_succ, opens_step, ih, opn_step']

/-- The boxes of Bits: the bits, the text. -/
def BitB (n₀ : Nat) (sv v : Value) (O : List Int) (W : World) : Prop :=
  Boxed W n₀ 22 v ∧ Boxed W (n₀ + 1) 9 sv ∧ Has W n₀ v O
theorem BitB.keeps {n₀ : Nat} {sv v : Value} {O : List Int} {W W' : World} {row : Option Nat} (h : BitB n₀ sv v O W) (hg : W.grownBy W' row) (hrow : ∀ r, row = some r → ∃ o : Obj, W.heap[r]? = some o ∧ o.isCells = false) : BitB n₀ sv v O W' := by
  obtain ⟨b1, b2, h1⟩ := h
  exact ⟨boxed_keeps b1 hg hrow, boxed_keeps b2 hg hrow, row_keeps h1 hg hrow⟩
/-- Eight bits more. -/
theorem BitB.more {n₀ : Nat} {sv v v' : Value} {O O' : List Int} {W w1 : World} (h : BitB n₀ sv v O W) (hn : n₀ ≤ W.heap.size) (h' : Has w1 n₀ v' O') (hg : W.grownBy w1 v.ownBlock) :
    Boxed w1 n₀ 22 v ∧ BitB n₀ sv v' O' (w1.setCell ⟨n₀, 0, none⟩ v') ∧ KeepsOthers W (w1.setCell ⟨n₀, 0, none⟩ v') ∧ Below n₀ W (w1.setCell ⟨n₀, 0, none⟩ v') := by
  obtain ⟨b1, b2, h1⟩ := h
  have d1 := b1.kept hg (b1.not_row (by decide) h1)
  have d2 := b2.kept hg (b2.not_row (by decide) h1)
  exact ⟨d1, ⟨d1.set v', d2.other (by omega) v', row_box h' d1 (by decide) v'⟩, (row_others h1 hg).trans (KeepsOthers.setCell _ _ _),
    ((Below.refl n₀ W).grown hg hn (fun j e => (h1.lt j e).1)).setCell (p := ⟨n₀, 0, none⟩) (Nat.le_refl _) _⟩
/-- Between two rounds of Bits. -/
def BitI (w : World) (s : ByteArray) (pre : List Nat) (W : World) : Prop :=
  (∃ v, BitB w.heap.size (.string s) v (opens (byt s) pre) W) ∧ Below w.heap.size w W
theorem bitI_own (w : World) (s : ByteArray) (D : Nat) (hD : w.heap.size ≤ D) : OwnFrom D (BitI w s) := by
  rintro q X Y row ⟨⟨v, h1⟩, hB⟩ hg hrow
  exact ⟨⟨v, h1.keeps hg (fun r e => (hrow r e).2)⟩, hB.grown hg hB.size (fun k e => by have := (hrow k e).1; omega)⟩

/-- What Bits tells of as many bytes as there are to be. -/
def BitSays (l : List Int) (n : Nat) (w : World) (e : Ending) (w' : World) : Prop :=
  (((l.drop n).any one1 = true ∧ e = .returned (.tuple #[.slice none 0 0, .iface 63 (.int .i64 2)])) ∨ ((l.drop n).any one1 = false ∧ ∃ v, e = .returned (.tuple #[v, .nilIface]) ∧ Has w' w.heap.size v (l.take n))) ∧ Below w.heap.size w w'

set_option maxRecDepth 100000 in
set_option maxHeartbeats 8000000 in
theorem bits_go (s : ByteArray) (n K : Nat) (w : World) (h400 : n ≤ 400) (hK : Hid (s.size = K)) (hKn : K = (n + 7) / 8) :
    Calls Tryz.prog 123 #[.string s, .int .i64 n] w fun e w' => BitSays (opn (byt s)) n w e w' := by
  have hsz : ∀ W, (Builtin.len_ #[9] 3 #[.string s]).run Tryz.prog W = .ok (.int .i64 (K : Int)) W := fun W => by rw [run_len_string W 9 3 s Tryz.underlying9, unhide hK]; rfl
  obtain ⟨N8, hN8⟩ : ∃ N8, n + 8 = N8 := ⟨_, rfl⟩
  obtain ⟨N7, hN7⟩ : ∃ N7, n + 7 = N7 := ⟨_, rfl⟩
  have w1 : IntKind.i64.wrap ((n : Int) + 8) = (N8 : Int) := by rw [IntWalk.i64_in _ (by omega)]; omega
  have w2 : IntKind.i64.wrap ((N8 : Int) - 1) = (N7 : Int) := by rw [IntWalk.i64_in _ (by omega)]; omega
  have w3 : Int.tdiv (N7 : Int) 8 = (K : Int) := by rw [Int.tdiv_eq_ediv_of_nonneg (by omega)]; omega
  have hkk : ((K : Int) == (K : Int)) = true := by simp
  have d0 : decide ((n : Int) < 0) = false := by simp
  have d4 : decide (400 < (n : Int)) = false := by simp; omega
  have d5 : decide (400 < n) = false := by simp; omega
  have HOP : Hid (opens (byt s) (List.range K) = opn (byt s)) := hide (by
    rw [opens_range]
    unfold opn
    rw [byt_length, unhide hK])
  have HON : Hid (n ≤ (opn (byt s)).length ∧ (opn (byt s)).length ≤ 408) := hide (by rw [opn_length, byt_length, unhide hK]; omega)
  have hK9 : K ≤ 51 := by omega
  have hN89 : N8 ≤ 408 := by omega
  have hN79 : N7 ≤ 407 := by omega
  clear hN8 hN7 hKn
  refine (callsIn_wide (n := 5)).1 ?_
  refine callsIn_of_wp_marks Tryz.func123 rfl trivial ?_ rfl
  simp only [Tryz.ntmps123, List.size_toArray, List.length_cons, List.length_nil, Nat.reduceAdd, Nat.reduceSub, Array.replicate_succ, Array.replicate_zero, List.push_toArray, List.append_toArray, List.nil_append, List.cons_append]
  gi_wp2_with (refine ⟨trivial, ?_⟩; gi_at_call 140; refine (octets_in _ _ _).mono ?_; rintro e w' ⟨rfl, rfl⟩)
  have b1 := (Boxed.new w 22 (.slice none 0 0)).alloc (.cells #[.string s] 9)
  have b2 := Boxed.new (w.alloc (.cells #[.slice none 0 0] 22)) 9 (.string s)
  have hB0 : Below w.heap.size w ((w.alloc (.cells #[.slice none 0 0] 22)).alloc (.cells #[.string s] 9)) := ((Below.refl _ w).alloc (Nat.le_refl _) _).alloc (by simp) _
  have hn5 : w.heap.size + 1 < ((w.alloc (.cells #[.slice none 0 0] 22)).alloc (.cells #[.string s] 9)).heap.size := by simp
  simp only [World.size_alloc] at b2
  obtain ⟨W0, hW0⟩ : ∃ W0, ((w.alloc (.cells #[.slice none 0 0] 22)).alloc (.cells #[.string s] 9)) = W0 := ⟨_, rfl⟩
  rw [hW0] at b1 b2 hB0 hn5 ⊢
  clear hW0
  have hs0 := hB0.size
  refine wpIn_rangeFunc_ownG rfl (by omega) (gf := 145) (lb := #[.pointer (some ⟨w.heap.size + 1, 0, none⟩)]) rfl trivial (enters_of Tryz.func145 (by kernel_rfl) rfl)
    (octets_stops _ (by omega) (w.heap.size + 1) w.heap.size s K hK (by omega) W0 hn5 b2.cell) Kp.trans (kp_b hs0 hn5) (Below.refl _ _) (fun _ => rfl)
    (BitI w s) (fun _ _ _ => False) (bitI_own w s _ hs0) (fun _ _ _ _ _ hs _ _ => hs)
    ⟨⟨_, ⟨b1, b2, Has.nil _ _⟩⟩, hB0⟩
    (fun x => { tmps := #[.string s, .int .i64 n, undef, undef, .slice none 0 0, .nilIface, .pointer (some ⟨w.heap.size, 0, none⟩), .int .i64 (at0 (byt s) x), .int .i64 n, .bool false, .bool false, .int .i64 n, .bool false, .bool false, undef, .string s, .int .i64 K, .int .i64 n, .int .i64 N8, .int .i64 N7, .int .i64 K, .bool false, undef, .string s,
      .func (.func 145) #[] #[.pointer (some ⟨w.heap.size + 1, 0, none⟩)], .int .i64 (at0 (byt s) x), undef, undef, undef, undef, undef, undef, undef, undef, undef, undef, undef], defers := [] }) ?assign ?body ?done ?stop
  case assign =>
    intro L x W K hK
    gi_wp2
    exact hK
  case body =>
    rintro L pre x W ⟨⟨v, hEB⟩, hB⟩ hlt
    obtain ⟨c0, c9⟩ := byt_in s x
    have HMP := hide (opens_step (byt s) pre x)
    obtain ⟨C, hC⟩ : ∃ C, at0 (byt s) x = C := ⟨_, rfl⟩
    rw [hC] at c0 c9 HMP ⊢
    have hol : (opens (byt s) pre).length ≤ 1000 := by rw [opens_length]; omega
    have hWs := hB.size
    have hsp := spell v (opens (byt s) pre) C 8 w.heap.size W hEB.2.2 hWs (by omega) c0 (hide (by omega)) hol
    rw [← unhide HMP] at hsp
    have hcb := hEB.1.cell
    have h2 := hEB.2.1
    clear hC hol hlt b1 b2 hB0 hn5 hs0 c0 c9 HMP
    gi_wp2_with (
      refine ⟨trivial, ?_⟩
      gi_at_call 88
      refine (CallsIn.inRound L (callsIn_wide.2 hsp)).mono ?_
      rintro e w6 ⟨v6, rfl, k6, g6, -⟩
      obtain ⟨d1, d2, d3, d4⟩ := BitB.more hEB hWs k6 g6
      obtain ⟨pa, na, ca, rfl⟩ := k6.shape
      have f1 := d1.cell
      have f2 := d1.frozen)
    exact ⟨d3.from _, ⟨d4, d2.2.1.trans h2.symm⟩, ⟨⟨_, d2⟩, hB.trans d4⟩⟩
  case done =>
    rintro D ys W hD rfl ⟨⟨v, hEB⟩, hB⟩ hK2
    rw [unhide HOP] at hEB
    obtain ⟨l, hl⟩ : ∃ l, opn (byt s) = l := ⟨_, rfl⟩
    rw [hl] at hEB HON
    obtain ⟨v1, run1, k1⟩ := hEB.2.2.first (unhide HON).1
    have hcb := hEB.1.cell
    obtain ⟨A, C, rfl, hrow⟩ := hEB.2.2.row
    have hAC : l.length ≤ C := by
      rcases hEB.2.2.2 with ⟨e, _⟩ | ⟨g, cap, cur, e, _, _, hc, _⟩
      · have := (Value.slice.inj e).2.1; have := (Value.slice.inj e).2.2; omega
      · have := (Value.slice.inj e).2.2; omega
    obtain ⟨A2, run2, hr2⟩ := row_rest hrow C hAC (unhide HON).1
    have hcon := contains1 A2 (C - n) (l.drop n) W hr2 (by rw [List.length_drop]; have := unhide HON; omega)
    rw [List.length_drop] at hcon
    have HSA : Hid (∀ e w', ((l.drop n).any one1 = true ∧ e = .returned (.tuple #[.slice none 0 0, .iface 63 (.int .i64 2)])) ∨ ((l.drop n).any one1 = false ∧ ∃ v, e = .returned (.tuple #[v, .nilIface]) ∧ Has w' w.heap.size v (l.take n)) → Below w.heap.size w w' → BitSays (opn (byt s)) n w e w') := hide (fun e w' h hb => by rw [hl]; exact ⟨h, hb⟩)
    obtain ⟨T, hT⟩ : ∃ T, (l.drop n).any one1 = T := ⟨_, rfl⟩
    rw [hT] at hcon HSA
    obtain ⟨M, hM⟩ : ∃ M, l.length = M := ⟨_, rfl⟩
    rw [hM] at run1 run2 hcon hcb hAC
    obtain ⟨S, hS⟩ : ∃ S, M - n = S := ⟨_, rfl⟩
    rw [hS] at run2 hcon
    obtain ⟨p9, n9, q9, rfl⟩ := k1.shape
    have hb9 := hB.trans (belowK_b (w := w) (Nat.le_refl _) W D _ (.deferred none) (by omega) hK2 rfl rfl)
    clear b1 b2 hn5 hs0 hT hM hS hrow hr2 hEB hl
    cases T with
    | true =>
      gi_wp2_with (refine ⟨trivial, ?_⟩; gi_at_call 141; refine (callsIn_wide.2 hcon).mono ?_; rintro e w' ⟨rfl, hw'⟩; rw [hw']; clear hw' w')
      refine ⟨by simp, .inl ⟨_, _, rfl, run_takeDeferred hK2, ?_⟩⟩
      refine ⟨.tuple #[.slice none 0 0, .iface 63 (.int .i64 2)], ?_, unhide HSA _ _ (Or.inl ⟨by first | trivial | rfl, rfl⟩) hb9⟩
      simp [results, Tryz.f123, go_sem]
    | false =>
      gi_wp2_with (refine ⟨trivial, ?_⟩; gi_at_call 141; refine (callsIn_wide.2 hcon).mono ?_; rintro e w' ⟨rfl, hw'⟩; rw [hw']; clear hw' w')
      refine ⟨by simp, .inl ⟨_, _, rfl, run_takeDeferred hK2, ?_⟩⟩
      refine ⟨.tuple #[.slice p9 n9 q9, .nilIface], ?_, unhide HSA _ _ (Or.inr ⟨by first | trivial | rfl, _, rfl, ownsRow_putObj k1 _ hK2 rfl⟩) hb9⟩
      simp [results, Tryz.f123, go_sem]
  case stop =>
    rintro D c pre W _ _ h _
    exact h.elim

theorem bits_ok (s : ByteArray) (n : Nat) (w : World) (hs9 : s.size ≤ 9223372036854775807) (hE : Hid (btF (byt s) n = 0)) :
    Calls Tryz.prog 123 #[.string s, .int .i64 n] w fun e w' => ∃ v, e = .returned (.tuple #[v, .nilIface]) ∧ Has w' w.heap.size v ((opn (byt s)).take n) ∧ Below w.heap.size w w' := by
  obtain ⟨h1, h2, h3⟩ := btF_zero.1 (unhide hE)
  rw [byt_length] at h2
  have hT : ((opn (byt s)).drop n).any one1 = false := by
    have h := unhide hE
    unfold btF at h
    rw [if_neg (by omega), if_neg (by rw [byt_length]; omega), Int.toNat_natCast] at h
    split at h
    · omega
    · rename_i h9
      exact Bool.eq_false_iff.2 h9
  refine (bits_go s n _ w h1 (hide rfl) h2).mono ?_
  rintro e w' ⟨h, hb⟩
  rcases h with ⟨h, _⟩ | ⟨_, v, h, hv⟩
  · rw [hT] at h; cases h
  · exact ⟨v, h, hv, hb⟩
set_option maxRecDepth 100000 in
set_option maxHeartbeats 4000000 in
theorem bits_no (s : ByteArray) (n E : Int) (w : World) (hs9 : s.size ≤ 9223372036854775807) (hE : Hid (btF (byt s) n = E)) (hne : Hid (E ≠ 0)) :
    Calls Tryz.prog 123 #[.string s, .int .i64 n] w fun e w' => e = .returned (.tuple #[.slice none 0 0, .iface 63 (.int .i64 E)]) ∧ Below w.heap.size w w' := by
  have hE2 := unhide hE
  unfold btF at hE2
  by_cases h0 : n < 0
  · rw [if_pos (Or.inl h0)] at hE2
    subst hE2
    have d0 : decide (n < 0) = true := by simpa using h0
    clear hE hne
    go_enter Tryz.func123, Tryz.ntmps123
    go_wp2
    go_ret2
    exact ⟨rfl, Below.refl _ _⟩
  · have d0 : decide (n < 0) = false := by simpa using h0
    by_cases h4 : 400 < n
    · rw [if_pos (Or.inr h4)] at hE2
      subst hE2
      have d4 : decide (400 < n) = true := by simpa using h4
      clear hE hne
      go_enter Tryz.func123, Tryz.ntmps123
      go_wp2
      go_ret2
      exact ⟨rfl, Below.refl _ _⟩
    · rw [if_neg (by omega)] at hE2
      obtain ⟨m, rfl⟩ : ∃ m : Nat, n = m := ⟨n.toNat, by omega⟩
      rw [byt_length] at hE2
      by_cases hk : s.size = (m + 7) / 8
      · rw [if_neg (by omega), Int.toNat_natCast] at hE2
        have hT : ((opn (byt s)).drop m).any one1 = true := by
          cases h : ((opn (byt s)).drop m).any one1 with
          | true => rfl
          | false => rw [any_one] at h; rw [h] at hE2; exact absurd hE2.symm (unhide hne)
        obtain rfl : E = 2 := by rw [← hE2]; exact if_pos hT
        refine (bits_go s m _ w (by omega) (hide rfl) hk).mono ?_
        rintro e w' ⟨h, hb⟩
        rcases h with ⟨_, h⟩ | ⟨h, _⟩
        · exact ⟨h, hb⟩
        · rw [hT] at h; cases h
      · rw [if_pos (by omega)] at hE2
        subst hE2
        have d4 : decide (400 < (m : Int)) = false := by simpa using h4
        obtain ⟨K, hK⟩ : ∃ K, s.size = K := ⟨_, rfl⟩
        obtain ⟨K2, hK2⟩ : ∃ K2, (m + 7) / 8 = K2 := ⟨_, rfl⟩
        have hsz : ∀ W, (Builtin.len_ #[9] 3 #[.string s]).run Tryz.prog W = .ok (.int .i64 (K : Int)) W := fun W => by rw [run_len_string W 9 3 s Tryz.underlying9, hK]; rfl
        obtain ⟨N8, hN8⟩ : ∃ N8, m + 8 = N8 := ⟨_, rfl⟩
        obtain ⟨N7, hN7⟩ : ∃ N7, m + 7 = N7 := ⟨_, rfl⟩
        have w1 : IntKind.i64.wrap ((m : Int) + 8) = (N8 : Int) := by rw [IntWalk.i64_in _ (by omega)]; omega
        have w2 : IntKind.i64.wrap ((N8 : Int) - 1) = (N7 : Int) := by rw [IntWalk.i64_in _ (by omega)]; omega
        have w3 : Int.tdiv (N7 : Int) 8 = (K2 : Int) := by rw [Int.tdiv_eq_ediv_of_nonneg (by omega)]; omega
        have n1 : ((K : Int) == (K2 : Int)) = false := by rw [beq_eq_false_iff_ne]; omega
        have n2 : ((K : Int) != (K2 : Int)) = true := by simp; omega
        have n3 : (K == K2) = false := by rw [beq_eq_false_iff_ne]; omega
        have hK29 : K2 ≤ 51 := by omega
        clear hK hK2 hk hE hne
        have hN89 : N8 ≤ 408 := by omega
        have hN79 : N7 ≤ 407 := by omega
        clear hN8 hN7
        go_enter Tryz.func123, Tryz.ntmps123
        go_wp2
        go_ret2
        exact ⟨rfl, Below.refl _ _⟩

end Go.Proofs.YthkibjhhlcfceaiGreatDoor.Wid

/-
  make of integers, up to all that memory bears: zeros of this call's own.
-/
namespace Go.Proofs.YthkibjhhlcfceaiGreatDoor
open Go.RowKit
open Go.Proofs.YthkibjhhlcfceaiGreatDoor.Tre
set_option linter.unusedVariables false

theorem wpList_mkL {ops : Array Oper} {rest : List Oper} {o : Oper} {a : Act} {Q : Exit → Act → World → Prop} (w : World) (hgd : o.guard = none) (s : Operand)
    (ho : o.op = .makeSlice 22 s s) (n : Nat) (hs : a.eval s = .int .i64 n) (hn : n ≤ 17592186044416)
    (h : ∀ w', Has w' w.heap.size (.slice (some ⟨w.heap.size, 0, none⟩) n n) (upto (fun _ => 0) n) → Below w.heap.size w w' → wpList Tryz.prog ops Q rest (a.put o.dst (.slice (some ⟨w.heap.size, 0, none⟩) n n)) w') :
    wpList Tryz.prog ops Q (o :: rest) a w := by
  obtain ⟨i0, hi, hz0, hz1, hz2⟩ := info_parts info_int
  refine wpList_make_full w hgd s s 22 ho w.heap.size 3 i0 (.int .i64 0) 1 Tryz.underlying22 hi hz0 hz1 _ _ _ _ n hs hs rfl rfl (by rw [hz2]; omega) (by unfold maxLen; omega) (Nat.le_refl _) ?_
  intro w2 hown hgrow
  rw [Nat.mul_one] at hown
  refine h w2 ?_ ((Below.refl _ _).grown hgrow (Nat.le_refl _) (by intro k hk; cases hk))
  unfold Has
  rw [upto_zeros, List.map_replicate, List.length_replicate, ← toList_madeCells_one]
  exact hown

end Go.Proofs.YthkibjhhlcfceaiGreatDoor

/-
  width.Get: by its contract.
-/
namespace Go.Proofs.YthkibjhhlcfceaiGreatDoor.Wid
open Go.RowKit
open Go.Proofs.YthkibjhhlcfceaiGreatDoor.Tre Go.Proofs.YthkibjhhlcfceaiGreatDoor.Scl Go.Proofs.YthkibjhhlcfceaiGreatDoor.Bnd
set_option linter.unusedVariables false

set_option maxRecDepth 100000 in
set_option maxHeartbeats 4000000 in
theorem get_no (a : Option Addr) (cap : Nat) (bs : List Int) (b : Option Addr) (capb : Nat) (ws : List Int) (E : Int) (w : World) (hr : Row w a bs) (hs : Row w b ws) (hm : bs.length ≤ cap) (hm9 : cap ≤ 9223372036854775807) (zl : bs.length ≤ 17592186044416) (zs : ws.length ≤ 17592186044416) (hE : Hid (getF bs ws = E)) (hne : Hid (E ≠ 0)) :
    Calls Tryz.prog 124 #[.slice a bs.length cap, .slice b ws.length capb] w fun e w' => e = .returned (.tuple #[.slice none 0 0, .iface 63 (.int .i64 E)]) ∧ Below w.heap.size w w' := by
  have hE2 := unhide hE
  unfold getF at hE2
  by_cases h0 : bsF bs = 0
  · rw [if_pos h0] at hE2
    have hck := check_ok a cap bs w hr (hide h0)
    cases hany : ws.any now with
    | true =>
      obtain rfl : E = 1 := by rw [← hE2, if_pos hany]
      have htn := total_no b capb ws w hs (by omega) (hide hany)
      obtain ⟨N, hN⟩ : ∃ N, ws.length = N := ⟨_, rfl⟩
      obtain ⟨M, hM⟩ : ∃ M, bs.length = M := ⟨_, rfl⟩
      rw [hM] at hck ⊢
      rw [hN] at htn ⊢
      clear hN hM hE hne hE2 h0 hany hm zl zs
      go_enter Tryz.func124, Tryz.ntmps124
      go_wp2_with fail
      refine hck.mono ?_
      clear hck
      rintro e w1 ⟨rfl, hw1⟩
      obtain rfl : w = w1 := hw1.symm
      clear hw1
      go_wp2_with fail
      refine htn.mono ?_
      clear htn
      rintro e w1 ⟨rfl, hw1⟩
      obtain rfl : w = w1 := hw1.symm
      clear hw1
      go_wp2
      go_ret2
      exact ⟨rfl, Below.refl _ _⟩
    | false =>
      rw [if_neg (by rw [hany]; simp)] at hE2
      have hW := now_any.1 hany
      have htk := total_ok b capb ws w hs zs (hide hW)
      have ht : total ws ≠ bs.length := fun h => unhide hne (by rw [← hE2, if_pos h])
      obtain rfl : E = 3 := by rw [← hE2, if_neg ht]
      obtain ⟨N, hN⟩ : ∃ N, ws.length = N := ⟨_, rfl⟩
      obtain ⟨M, hM⟩ : ∃ M, bs.length = M := ⟨_, rfl⟩
      obtain ⟨Z, hZ⟩ : ∃ Z, total ws = Z := ⟨_, rfl⟩
      rw [hM] at hck ht ⊢
      rw [hZ] at ht htk
      rw [hN] at htk ⊢
      have n1 : ((M : Int) == (Z : Int)) = false := by rw [beq_eq_false_iff_ne]; omega
      have n2 : ((M : Int) != (Z : Int)) = true := by simp; omega
      have n3 : (M == Z) = false := by rw [beq_eq_false_iff_ne]; omega
      clear hN hM hZ hE hne hE2 h0 hany hm zl zs hW ht
      go_enter Tryz.func124, Tryz.ntmps124
      go_wp2_with fail
      refine hck.mono ?_
      clear hck
      rintro e w1 ⟨rfl, hw1⟩
      obtain rfl : w = w1 := hw1.symm
      clear hw1
      go_wp2_with fail
      refine htk.mono ?_
      clear htk
      rintro e w1 ⟨rfl, hw1⟩
      obtain rfl : w = w1 := hw1.symm
      clear hw1
      go_wp2
      go_ret2
      exact ⟨rfl, Below.refl _ _⟩
  · rw [if_neg h0] at hE2
    have hck := check_no a cap bs E w hr (by omega) (hide hE2) hne
    obtain ⟨N, hN⟩ : ∃ N, ws.length = N := ⟨_, rfl⟩
    obtain ⟨M, hM⟩ : ∃ M, bs.length = M := ⟨_, rfl⟩
    rw [hM] at hck ⊢
    rw [hN]
    clear hN hM hE hne hE2 h0 hm zl zs
    go_enter Tryz.func124, Tryz.ntmps124
    go_wp2_with fail
    refine hck.mono ?_
    clear hck
    rintro e w1 ⟨rfl, hw1⟩
    obtain rfl : w = w1 := hw1.symm
    clear hw1
    go_wp2
    go_ret2
    exact ⟨rfl, Below.refl _ _⟩

set_option maxRecDepth 100000 in
set_option maxHeartbeats 8000000 in
theorem get_ok (a : Option Addr) (cap : Nat) (bs : List Int) (b : Option Addr) (capb : Nat) (ws : List Int) (w : World) (hr : Row w a bs) (hs : Row w b ws) (hm : bs.length ≤ cap) (hm9 : cap ≤ 9223372036854775807) (zs : ws.length ≤ 17592186044416) (hE : Hid (getF bs ws = 0)) :
    Calls Tryz.prog 124 #[.slice a bs.length cap, .slice b ws.length capb] w fun e w' => ∃ v, e = .returned (.tuple #[v, .nilIface]) ∧ Has w' w.heap.size v (gets bs ws) ∧ Below w.heap.size w w' := by
  obtain ⟨⟨h400, hbit⟩, hW, ht⟩ := getF_zero.1 (unhide hE)
  have hck := check_ok a cap bs w hr (hide (bsF_zero.2 ⟨h400, hbit⟩))
  have htk := total_ok b capb ws w hs zs (hide hW)
  rw [ht] at htk
  have HW := hide hW
  have HBI := hide hbit
  have HT := hide ht
  have HG : Hid (upto (fun i => num 0 (cutAt bs ws i)) ws.length = gets bs ws) := hide rfl
  have HM0 : Hid (bs.length = (bs.drop (pre ws 0)).length) := hide rfl
  have hr0 : Row w a (bs.drop (pre ws 0)) := hr
  obtain ⟨r, hrr⟩ : ∃ r, gets bs ws = r := ⟨_, rfl⟩
  rw [hrr] at HG ⊢
  obtain ⟨N, hN⟩ : ∃ N, ws.length = N := ⟨_, rfl⟩
  have HN := hide hN
  obtain ⟨M0, hM0⟩ : ∃ M, bs.length = M := ⟨_, rfl⟩
  rw [hN] at HG htk zs ⊢
  rw [hM0] at hck htk h400 HM0 hm ⊢
  have n1 : ((M0 : Int) == (M0 : Int)) = true := by simp
  have HL0 := hide hM0
  clear hN hM0 hE hW hbit ht hrr
  go_enter Tryz.func124, Tryz.ntmps124
  go_wp2_with fail
  refine hck.mono ?_
  clear hck
  rintro e w1 ⟨rfl, hw1⟩
  obtain rfl : w = w1 := hw1.symm
  clear hw1
  go_wp2_with fail
  refine htk.mono ?_
  clear htk
  rintro e w1 ⟨rfl, hw1⟩
  obtain rfl : w = w1 := hw1.symm
  clear hw1
  go_wp2_with (at_make; refine wpList_mkL _ rfl _ rfl N rfl (by omega) ?_; intro w2 hv2 hb2)
  rw [← Lap.mid_zero (fun i => num 0 (cutAt bs ws i)) (fun _ => 0) N] at hv2
  go_wp2
  go_loopw [0, 35] (fun lv i wr => ∃ (j : Nat) (A : Option Addr) (M C : Nat), j ≤ N ∧ i = .int .i64 j ∧ lv = .slice A M C ∧ Hid (M = (bs.drop (pre ws j)).length) ∧ M ≤ 400 ∧ M ≤ C ∧ C ≤ 9223372036854775807 ∧ Row w A (bs.drop (pre ws j)) ∧
      Has wr w.heap.size (.slice (some ⟨w.heap.size, 0, none⟩) N N) (Lap.mid (fun i => num 0 (cutAt bs ws i)) (fun _ => 0) N j) ∧ Below w.heap.size w wr) (fun _ i _ => N - (intOf i).toNat)
  case atStart => exact ⟨0, a, M0, cap, Nat.zero_le _, rfl, rfl, HM0, h400, hm, hm9, hr0, hv2, hb2⟩
  case round =>
    obtain ⟨j, A, M, C, hj, rfl, rfl, HM, hM4, hMC, hC9, hrA, hv, hB⟩ := hrel
    clear hv2 hb2 hr0 HM0
    by_cases hlt : j < N
    · have hjs : j < ws.length := by rw [unhide HN]; exact hlt
      obtain ⟨b1, off1, rfl, _, hc1⟩ := Scl.cell_at (hs.below hB) (by omega)
      have c1 := hc1 j hjs
      have h1 := unhide HW j hjs
      have hp := pre_total ws (j := j + 1) hjs
      rw [pre_succ, unhide HT, unhide HL0] at hp
      have hlen := unhide HM
      rw [List.length_drop, unhide HL0] at hlen
      have HC1 : Hid ((at0 ws j).toNat = (cutAt bs ws j).length) := hide (cutAt_length (unhide HT) hjs).symm
      have HP := hide (pre_succ ws j)
      have HCB : Hid (Bit (cutAt bs ws j)) := hide (bit_take (bit_drop (unhide HBI) _) _)
      have HCD : Hid (cutAt bs ws j = (bs.drop (pre ws j)).take (at0 ws j).toNat) := hide rfl
      obtain ⟨X, hX⟩ : ∃ X : Nat, at0 ws j = X := ⟨(at0 ws j).toNat, by omega⟩
      rw [hX] at c1 h1 hp HC1 HP HCD
      rw [Int.toNat_natCast] at hp HC1 HP HCD
      have hX20 : X ≤ 20 := by omega
      have hXM : X ≤ (bs.drop (pre ws j)).length := by rw [← unhide HM]; omega
      have hMC' : (bs.drop (pre ws j)).length ≤ C := by rw [← unhide HM]; exact hMC
      obtain ⟨A1, run1, hr1⟩ := row_first hrA C hMC' hXM
      obtain ⟨A2, run2, hr2⟩ := row_rest hrA C hMC' hXM
      rw [← unhide HM] at run1 run2
      rw [← unhide HCD] at hr1
      have hnum := number A1 C (cutAt bs ws j) wr (hr1.below hB) (by rw [← unhide HC1]; exact hX20) HCB
      rw [← unhide HC1] at hnum
      have hdr : Row w A2 (bs.drop (pre ws (j + 1))) := by
        rw [unhide HP, ← List.drop_drop]
        exact hr2
      have HM2 : Hid (M - X = (bs.drop (pre ws (j + 1))).length) := hide (by rw [unhide HP, List.length_drop, unhide HL0]; omega)
      obtain ⟨G, hG⟩ : ∃ G, num 0 (cutAt bs ws j) = G := ⟨_, rfl⟩
      rw [hG] at hnum
      have c2 := hv.get (j := j) (by rw [Lap.mid_length]; exact hlt)
      have f2 := hv.frozen j
      obtain ⟨m1, -, m2⟩ := Mid.put_mid hv hlt hG 0
      have Q1 := hide m1
      have Q2 := hide (m2 w hB (Nat.le_refl _))
      have hXM2 : X ≤ M := by rw [unhide HM]; exact hXM
      have d1 : M - X ≤ 400 := by omega
      have d2 : M - X ≤ C - X := by omega
      have d3 : C - X ≤ 9223372036854775807 := by omega
      clear hc1 h1 hp hlen hX hG hrA hjs hXM hMC' hr1 hr2 m1 m2 HC1 HCB HCD HP
      go_wp2_with fail
      refine hnum.mono ?_
      clear hnum
      rintro e w3 ⟨rfl, hw3⟩
      obtain rfl : wr = w3 := hw3.symm
      clear hw3
      go_wp2
      go_roundw
      case rel => exact ⟨j + 1, A2, M - X, C - X, by omega, by go_num, rfl, HM2, d1, d2, d3, hdr, unhide Q1, unhide Q2⟩
      case measure => simp [intOf]; omega
    · obtain rfl : j = N := by omega
      have hv3 := hv
      rw [Lap.mid_all, unhide HG] at hv3
      go_wp2
      go_ret2
      exact ⟨_, rfl, hv3, hB⟩

end Go.Proofs.YthkibjhhlcfceaiGreatDoor.Wid
