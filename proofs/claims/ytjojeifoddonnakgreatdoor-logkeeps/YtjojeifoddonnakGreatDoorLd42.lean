/-
  width.octets: the bytes of a text, one after another.
-/
import Derived.Test.YtjojeifoddonnakGreatDoorLd20
import Derived.Test.YtjojeifoddonnakGreatDoorLd08
import Derived.Test.YtjojeifoddonnakGreatDoorLd19
import Derived.Test.YtjojeifoddonnakGreatDoorLd16
import Derived.Laws.IdiomStrings
namespace Go.Proofs.YtjojeifoddonnakGreatDoor.Wid
open Go.RowKit Go.Shelf
open Go.Proofs.YtjojeifoddonnakGreatDoor.Tre Go.Proofs.YtjojeifoddonnakGreatDoor.Scl Go.Proofs.YtjojeifoddonnakGreatDoor.Bnd Go.Proofs.YtjojeifoddonnakGreatDoor.Itr Go.Proofs.YtjojeifoddonnakGreatDoor.Hrn
set_option linter.unusedVariables false
attribute [local go_sem] Oper.semAt_some

theorem RowB.row {n₀ : Nat} {w : World} {a : Option Addr} {l : List Int} (h : RowB n₀ w a l) (hn : n₀ ≤ w.heap.size) : Row w a l := by
  rcases h with h | ⟨b, off, ha, hlt, hc⟩
  · exact Or.inl h
  · exact Or.inr ⟨b, off, ha, Nat.lt_of_lt_of_le hlt hn, hc⟩

theorem run_idx' (s : ByteArray) (i : Nat) (h : i < s.size) (w : World) : (Instr.index 9 (.string s) (.int .i64 i)).run Tryz.prog w = .ok (.int .u8 (at0 (byt s) i)) w := by
  rw [run_index_string w 9 s .i64 i Tryz.underlying9, dif_pos ⟨by omega, by omega⟩]
  have e : ((i : Int)).toNat = i := by omega
  rw [← byt_at s h]
  simp only [e]
theorem byt_in (s : ByteArray) (i : Nat) : 0 ≤ at0 (byt s) i ∧ at0 (byt s) i ≤ 255 := by
  by_cases hi : i < (byt s).length
  · have e : at0 (byt s) i = (byt s)[i] := by simp [at0, hi]
    have := byt_byts s (byt s)[i] (List.getElem_mem hi)
    omega
  · rw [at0_none (by omega)]; omega

/-- The bytes of a text, each by its place. -/
abbrev encO (s : ByteArray) (i : Nat) : Array Value := #[.int .i64 (at0 (byt s) i)]

set_option maxRecDepth 100000 in
set_option maxHeartbeats 4000000 in
theorem octets1 (n : Nat) (hn : 1 ≤ n) (L Bs n₀ : Nat) (s : ByteArray) (K : Nat) (hKK : Hid (s.size = K)) (hK9 : K ≤ 1000) (J Jx : List Nat → World → Prop) (W : World)
    (hJ : AbidesFrom W.heap.size J)
    (hY : ∀ pre x W1, J pre W1 → pre.length < K → YieldAt Fence.wide (n - 1) Tryz.prog L (encO s x) W1 fun e W' =>
      (e = .returned (.bool true) ∧ J (pre ++ [x]) W' ∧ Kp n₀ Bs W1 W') ∨ (e = .returned (.bool false) ∧ Jx (pre ++ [x]) W'))
    (hBs : W.cell? ⟨Bs, 0, none⟩ = some (.string s)) (h0 : J [] W) :
    CallsIn Fence.wide n Tryz.prog 91 #[.func (.yield L) #[] #[], .pointer (some ⟨Bs, 0, none⟩)] W fun e W' => (∃ v, e = .returned v) ∧
      ((∃ ys, ys = List.range K ∧ J ys W') ∨ (∃ pre, (∃ k, k ≤ K ∧ pre = List.range k) ∧ Jx pre W')) := by
  have hmx : Tryz.prog.follows .mixedOrders = true := by kernel_rfl
  have HY := hide hY
  have hsz : ∀ W, (Builtin.len_ #[9] 3 #[.string s]).run Tryz.prog W = .ok (.int .i64 (K : Int)) W := fun W => by rw [run_len_string W 9 3 s Tryz.underlying9, unhide hKK]; rfl
  clear hY
  refine callsIn_of_wp Tryz.func91 rfl trivial ?_ rfl
  simp only [Tryz.ntmps91, List.size_toArray, List.length_cons, List.length_nil, Nat.reduceAdd, Nat.reduceSub, Array.replicate_succ, Array.replicate_zero, List.push_toArray, List.append_toArray, List.nil_append, List.cons_append]
  gi_wp2
  gi_loopw [6] (fun i wr => ∃ k : Nat, k ≤ K ∧ i = .int .i64 k ∧ J (List.range k) wr ∧ Kp n₀ Bs W wr) (fun i _ => K - (intOf i).toNat)
  case atStart => exact ⟨0, Nat.zero_le _, by first | rfl | go_num, h0, Kp.refl _ _ _⟩
  case round =>
    obtain ⟨k, hk, rfl, hJs, hK⟩ := hrel
    have hB1 := hK.cell hBs
    by_cases hlt : k < K
    · obtain ⟨fn, tmps, assign, body, hy, hR⟩ := unhide HY _ k wr hJs (by rw [List.length_range]; exact hlt)
      have hR' := hR.mono (R' := fun e W' => ∃ t : Bool, e = .returned (.bool t) ∧ Hid ((t = true ∧ J (List.range (k + 1)) W' ∧ Kp n₀ Bs wr W') ∨ (t = false ∧ Jx (List.range (k + 1)) W'))) (by
        rw [← List.range_succ]
        rintro e W' (⟨rfl, h1, h2⟩ | ⟨rfl, h1⟩)
        · exact ⟨true, rfl, hide (.inl ⟨rfl, h1, h2⟩)⟩
        · exact ⟨false, rfl, hide (.inr ⟨rfl, h1⟩)⟩)
      have hix := run_idx' s k (by rw [unhide hKK]; exact hlt)
      obtain ⟨z0, z9⟩ := byt_in s k
      dsimp only [encO] at hy
      obtain ⟨Z, hZ⟩ : ∃ Z, at0 (byt s) k = Z := ⟨_, rfl⟩
      rw [hZ] at hix z0 z9 hy
      have hkK2 : k + 1 ≤ K := hlt
      clear hR hBs HY hZ
      gi_wp2
      refine hR'.mono ?_
      rintro e W3 ⟨t, rfl, ht⟩
      cases t
      all_goals (rcases unhide ht with ⟨h1, hJ3, hk3⟩ | ⟨h1, hJx3⟩ <;> first | (cases h1; done) | clear h1 ht)
      all_goals (first
        | (gi_wp2
           go_roundw
           case rel => exact ⟨k + 1, hkK2, by first | rfl | go_num, hJ3, hK.trans hk3⟩
           case measure => simp [intOf]; try omega)
        | (gi_wp2
           refine bodyPost_ret (results_none rfl _ _ _) rfl ?_
           exact ⟨⟨_, rfl⟩, .inr ⟨_, ⟨k + 1, hkK2, rfl⟩, hJx3⟩⟩))
    · obtain rfl : k = K := by omega
      gi_wp2
      go_end0
      exact ⟨⟨_, rfl⟩, .inl ⟨_, rfl, hJs⟩⟩
theorem octets_stops (n : Nat) (hn : 1 ≤ n) (Bs n₀ : Nat) (s : ByteArray) (K : Nat) (hKK : Hid (s.size = K)) (hK9 : K ≤ 1000) (w : World) (hlt : Bs < w.heap.size)
    (hBs : w.cell? ⟨Bs, 0, none⟩ = some (.string s)) :
    SeqStopsK Fence.wide n Tryz.prog 91 #[.pointer (some ⟨Bs, 0, none⟩)] (encO s) (Kp n₀ Bs) (fun ys => ys = List.range K) (fun pre => ∃ k, k ≤ K ∧ pre = List.range k) K w := fun L J Jx W hW hJ _ hY h0 =>
  octets1 n hn L Bs n₀ s K hKK hK9 J Jx W hJ hY ((hW.cell (p := ⟨Bs, 0, none⟩) hlt).trans hBs) h0
theorem octets_in (n : Nat) (s : ByteArray) (w : World) :
    CallsIn Fence.wide n Tryz.prog 73 #[.string s] w fun e w' => e = .returned (.func (.func 91) #[] #[.pointer (some ⟨w.heap.size, 0, none⟩)]) ∧ w' = w.alloc (.cells #[.string s] 9) := by
  refine callsIn_of_wp Tryz.func73 rfl trivial ?_ rfl
  simp only [Tryz.ntmps73, List.size_toArray, List.length_cons, List.length_nil, Nat.reduceAdd, Nat.reduceSub, Array.replicate_succ, Array.replicate_zero, List.push_toArray, List.append_toArray, List.nil_append, List.cons_append]
  gi_wp2
  go_ret
  exact ⟨rfl, rfl⟩

end Go.Proofs.YtjojeifoddonnakGreatDoor.Wid

/-
  width.Bits: by its contract.
-/
namespace Go.Proofs.YtjojeifoddonnakGreatDoor.Wid
open Go.RowKit Go.Shelf
open Go.Proofs.YtjojeifoddonnakGreatDoor.Tre Go.Proofs.YtjojeifoddonnakGreatDoor.Scl Go.Proofs.YtjojeifoddonnakGreatDoor.Bnd Go.Proofs.YtjojeifoddonnakGreatDoor.Itr Go.Proofs.YtjojeifoddonnakGreatDoor.Hrn
set_option linter.unusedVariables false
attribute [local go_sem] Oper.semAt_some

/-- It is a 1. -/
def one1 (x : Int) : Bool := x == 1
theorem any_one (l : List Int) : l.any one1 = l.any (fun x => x == 1) := rfl
theorem any_drop' {p : Int → Bool} {l : List Int} {k : Nat} (h : k < l.length) : (l.drop k).any p = (p (at0 l k) || (l.drop (k + 1)).any p) := by
  rw [List.drop_eq_getElem_cons h, List.any_cons]
  have e : at0 l k = l[k] := by simp [at0, h]
  rw [e]

/-- Where a 1 is, told as a Boolean. -/
def Found (T : Bool) (w : World) (e : Ending) (w' : World) : Prop := (∃ r : Int, e = .returned (.int .i64 r) ∧ decide (0 ≤ r) = T) ∧ w' = w
set_option maxHeartbeats 1000000 in
theorem index1 (a : Option Addr) (cap : Nat) (l : List Int) (w : World) (hr : Row w a l) (zl : l.length ≤ 1000) :
    Calls Tryz.prog 92 #[.slice a l.length cap, .int .i64 1] w fun e w' => Found (l.any one1) w e w' := by
  have HS0 : Hid ((l.drop 0).any one1 = l.any one1) := hide (by rw [List.drop_zero])
  obtain ⟨T, hT⟩ : ∃ T, l.any one1 = T := ⟨_, rfl⟩
  rw [hT] at HS0 ⊢
  obtain ⟨N, hN⟩ : ∃ N, l.length = N := ⟨_, rfl⟩
  have HN := hide hN
  rw [hN] at zl ⊢
  clear hN hT
  go_enter Tryz.func92, Tryz.ntmps92
  go_wp2
  go_loopw [8] (fun i wr => ∃ k : Nat, k ≤ N ∧ i = .int .i64 k ∧ Hid ((l.drop k).any one1 = T) ∧ w = wr) (fun i _ => N - (intOf i).toNat)
  case atStart => exact ⟨0, Nat.zero_le _, rfl, HS0, rfl⟩
  case round =>
    obtain ⟨k, hk, rfl, HK, rfl⟩ := hrel
    clear HS0
    by_cases hkl : k < N
    · have hkl' : k < l.length := by rw [unhide HN]; exact hkl
      obtain ⟨b2, off2, rfl, _, hc2⟩ := Scl.cell_at hr (by omega)
      have e1 := hc2 k hkl'
      have HK2 : Hid ((one1 (at0 l k) || (l.drop (k + 1)).any one1) = T) := hide (by rw [← any_drop' hkl']; exact unhide HK)
      obtain ⟨X, hX⟩ : ∃ X, at0 l k = X := ⟨_, rfl⟩
      rw [hX] at e1 HK2
      clear hX hc2 hkl' HK
      by_cases hx : X = 1
      · subst hx
        obtain rfl : true = T := by rw [← unhide HK2]; rfl
        clear HK2
        go_wp2
        go_ret
        exact ⟨⟨_, rfl, by simp⟩, rfl⟩
      · have HK3 : Hid ((l.drop (k + 1)).any one1 = T) := hide (by
          rw [← unhide HK2]
          have : one1 X = false := by simp [one1]; exact hx
          rw [this, Bool.false_or])
        have x1 : ((1 : Int) == X) = false := by rw [beq_eq_false_iff_ne]; omega
        have x2 : (X == (1 : Int)) = false := by rw [beq_eq_false_iff_ne]; omega
        clear HK2
        go_wp2
        go_roundw
        case rel => exact ⟨k + 1, by omega, by go_num, HK3, by first | trivial | rfl⟩
        case measure => simp [intOf]; omega
    · obtain rfl : k = N := by omega
      obtain rfl : false = T := by rw [← unhide HK, ← unhide HN, List.drop_length]; rfl
      clear HK
      go_wp2
      go_ret
      exact ⟨⟨_, rfl, by simp⟩, rfl⟩
theorem contains1 (a : Option Addr) (cap : Nat) (l : List Int) (w : World) (hr : Row w a l) (zl : l.length ≤ 1000) :
    Calls Tryz.prog 75 #[.slice a l.length cap, .int .i64 1] w fun e w' => e = .returned (.bool (l.any one1)) ∧ w' = w := by
  have hix := index1 a cap l w hr zl
  obtain ⟨T, hT⟩ : ∃ T, l.any one1 = T := ⟨_, rfl⟩
  rw [hT] at hix ⊢
  clear hT
  go_enter Tryz.func75, Tryz.ntmps75
  go_wp2_with fail
  refine hix.mono ?_
  clear hix
  rintro e w' ⟨⟨r, rfl, hr2⟩, hw⟩
  obtain rfl : w = w' := hw.symm
  have HR := hide hr2
  clear hr2 hw
  go_wp2
  go_ret
  exact ⟨by rw [← unhide HR]; rfl, rfl⟩

theorem upto_add' (f : Nat → Int) (n k : Nat) : upto f (n + k) = upto f n ++ upto (fun i => f (n + i)) k := by
  induction k with
  | zero => simp [upto]
  | succ k ih => rw [← Nat.add_assoc, upto_succ, ih, upto_succ, List.append_assoc]
theorem opn_step' (b : List Int) (j : Nat) : upto (opnF b) (8 * j) ++ bin 8 (at0 b j) = upto (opnF b) (8 * (j + 1)) := by
  rw [show 8 * (j + 1) = 8 * j + 8 by omega, upto_add']
  congr 1
  rw [eq_upto (bin 8 (at0 b j)), bin_length]
  exact upto_congr fun i hi => (opnF_at b j i hi).symm
/-- The bits of so many bytes. -/
def opens (b : List Int) (pre : List Nat) : List Int := (pre.map fun i => bin 8 (at0 b i)).flatten
theorem opens_step (b : List Int) (pre : List Nat) (x : Nat) : opens b (pre ++ [x]) = opens b pre ++ bin 8 (at0 b x) := by simp [opens]
theorem opens_length (b : List Int) (pre : List Nat) : (opens b pre).length = 8 * pre.length := by
  induction pre with
  | nil => rfl
  | cons x pre ih =>
    have e : opens b (x :: pre) = bin 8 (at0 b x) ++ opens b pre := by simp [opens]
    rw [e, List.length_append, bin_length, ih, List.length_cons]
    omega
theorem opens_range (b : List Int) (k : Nat) : opens b (List.range k) = upto (opnF b) (8 * k) := by
  induction k with
  | zero => rfl
  | succ k ih => rw [List.range_succ, opens_step, ih, opn_step']

/-- The boxes of Bits: the bits, the text. -/
def BitB (n₀ : Nat) (sv v : Value) (O : List Int) (W : World) : Prop :=
  Boxed W n₀ 22 v ∧ Boxed W (n₀ + 1) 9 sv ∧ Has W n₀ v O
theorem BitB.keeps {n₀ : Nat} {sv v : Value} {O : List Int} {W W' : World} {row : Option Nat} (h : BitB n₀ sv v O W) (hg : W.grownBy W' row) (hrow : ∀ r, row = some r → ∃ o : Obj, W.heap[r]? = some o ∧ o.isCells = false) : BitB n₀ sv v O W' := by
  obtain ⟨b1, b2, h1⟩ := h
  exact ⟨boxed_keeps b1 hg hrow, boxed_keeps b2 hg hrow, row_keeps h1 hg hrow⟩
/-- Eight bits more. -/
theorem BitB.more {n₀ : Nat} {sv v v' : Value} {O O' : List Int} {W w1 : World} (h : BitB n₀ sv v O W) (hn : n₀ ≤ W.heap.size) (h' : Has w1 n₀ v' O') (hg : W.grownBy w1 v.ownBlock) :
    Boxed w1 n₀ 22 v ∧ BitB n₀ sv v' O' (w1.setCell ⟨n₀, 0, none⟩ v') ∧ KeepsOthers W (w1.setCell ⟨n₀, 0, none⟩ v') ∧ Below n₀ W (w1.setCell ⟨n₀, 0, none⟩ v') := by
  obtain ⟨b1, b2, h1⟩ := h
  have d1 := b1.kept hg (b1.not_row (by decide) h1)
  have d2 := b2.kept hg (b2.not_row (by decide) h1)
  exact ⟨d1, ⟨d1.set v', d2.other (by omega) v', row_box h' d1 (by decide) v'⟩, (row_others h1 hg).trans (KeepsOthers.setCell _ _ _),
    ((Below.refl n₀ W).grown hg hn (fun j e => (h1.lt j e).1)).setCell (p := ⟨n₀, 0, none⟩) (Nat.le_refl _) _⟩
/-- Between two rounds of Bits. -/
def BitI (w : World) (s : ByteArray) (pre : List Nat) (W : World) : Prop :=
  (∃ v, BitB w.heap.size (.string s) v (opens (byt s) pre) W) ∧ Below w.heap.size w W
theorem bitI_own (w : World) (s : ByteArray) (D : Nat) (hD : w.heap.size ≤ D) : OwnFrom D (BitI w s) := by
  rintro q X Y row ⟨⟨v, h1⟩, hB⟩ hg hrow
  exact ⟨⟨v, h1.keeps hg (fun r e => (hrow r e).2)⟩, hB.grown hg hB.size (fun k e => by have := (hrow k e).1; omega)⟩

/-- What Bits tells of as many bytes as there are to be. -/
def BitSays (l : List Int) (n : Nat) (w : World) (e : Ending) (w' : World) : Prop :=
  (((l.drop n).any one1 = true ∧ e = .returned (.tuple #[.slice none 0 0, .iface 48 (.int .i64 2)])) ∨ ((l.drop n).any one1 = false ∧ ∃ v, e = .returned (.tuple #[v, .nilIface]) ∧ Has w' w.heap.size v (l.take n))) ∧ Below w.heap.size w w'

set_option maxRecDepth 100000 in
set_option maxHeartbeats 8000000 in
theorem bits_go (s : ByteArray) (n K : Nat) (w : World) (h400 : n ≤ 400) (hK : Hid (s.size = K)) (hKn : K = (n + 7) / 8) :
    Calls Tryz.prog 59 #[.string s, .int .i64 n] w fun e w' => BitSays (opn (byt s)) n w e w' := by
  have hsz : ∀ W, (Builtin.len_ #[9] 3 #[.string s]).run Tryz.prog W = .ok (.int .i64 (K : Int)) W := fun W => by rw [run_len_string W 9 3 s Tryz.underlying9, unhide hK]; rfl
  obtain ⟨N8, hN8⟩ : ∃ N8, n + 8 = N8 := ⟨_, rfl⟩
  obtain ⟨N7, hN7⟩ : ∃ N7, n + 7 = N7 := ⟨_, rfl⟩
  have w1 : IntKind.i64.wrap ((n : Int) + 8) = (N8 : Int) := by rw [IntWalk.i64_in _ (by omega)]; omega
  have w2 : IntKind.i64.wrap ((N8 : Int) - 1) = (N7 : Int) := by rw [IntWalk.i64_in _ (by omega)]; omega
  have w3 : Int.tdiv (N7 : Int) 8 = (K : Int) := by rw [Int.tdiv_eq_ediv_of_nonneg (by omega)]; omega
  have hkk : ((K : Int) == (K : Int)) = true := by simp
  have d0 : decide ((n : Int) < 0) = false := by simp
  have d4 : decide (400 < (n : Int)) = false := by simp; omega
  have d5 : decide (400 < n) = false := by simp; omega
  have HOP : Hid (opens (byt s) (List.range K) = opn (byt s)) := hide (by
    rw [opens_range]
    unfold opn
    rw [byt_length, unhide hK])
  have HON : Hid (n ≤ (opn (byt s)).length ∧ (opn (byt s)).length ≤ 408) := hide (by rw [opn_length, byt_length, unhide hK]; omega)
  have hK9 : K ≤ 51 := by omega
  have hN89 : N8 ≤ 408 := by omega
  have hN79 : N7 ≤ 407 := by omega
  clear hN8 hN7 hKn
  refine (callsIn_wide (n := 5)).1 ?_
  refine callsIn_of_wp_marks Tryz.func59 rfl trivial ?_ rfl
  simp only [Tryz.ntmps59, List.size_toArray, List.length_cons, List.length_nil, Nat.reduceAdd, Nat.reduceSub, Array.replicate_succ, Array.replicate_zero, List.push_toArray, List.append_toArray, List.nil_append, List.cons_append]
  gi_wp2_with (refine ⟨trivial, ?_⟩; gi_at_call 73; refine (octets_in _ _ _).mono ?_; rintro e w' ⟨rfl, rfl⟩)
  have b1 := (Boxed.new w 22 (.slice none 0 0)).alloc (.cells #[.string s] 9)
  have b2 := Boxed.new (w.alloc (.cells #[.slice none 0 0] 22)) 9 (.string s)
  have hB0 : Below w.heap.size w ((w.alloc (.cells #[.slice none 0 0] 22)).alloc (.cells #[.string s] 9)) := ((Below.refl _ w).alloc (Nat.le_refl _) _).alloc (by simp) _
  have hn5 : w.heap.size + 1 < ((w.alloc (.cells #[.slice none 0 0] 22)).alloc (.cells #[.string s] 9)).heap.size := by simp
  simp only [World.size_alloc] at b2
  obtain ⟨W0, hW0⟩ : ∃ W0, ((w.alloc (.cells #[.slice none 0 0] 22)).alloc (.cells #[.string s] 9)) = W0 := ⟨_, rfl⟩
  rw [hW0] at b1 b2 hB0 hn5 ⊢
  clear hW0
  have hs0 := hB0.size
  refine wpIn_rangeFunc_ownG rfl (by omega) (gf := 91) (lb := #[.pointer (some ⟨w.heap.size + 1, 0, none⟩)]) rfl trivial (enters_of Tryz.func91 (by kernel_rfl) rfl)
    (octets_stops _ (by omega) (w.heap.size + 1) w.heap.size s K hK (by omega) W0 hn5 b2.cell) Kp.trans (kp_b hs0 hn5) (Below.refl _ _) (fun _ => rfl)
    (BitI w s) (fun _ _ _ => False) (bitI_own w s _ hs0) (fun _ _ _ _ _ hs _ _ => hs)
    ⟨⟨_, ⟨b1, b2, Has.nil _ _⟩⟩, hB0⟩
    (fun x => { tmps := #[.string s, .int .i64 n, undef, undef, .slice none 0 0, .nilIface, .pointer (some ⟨w.heap.size, 0, none⟩), .int .i64 (at0 (byt s) x), .int .i64 n, .bool false, .bool false, .int .i64 n, .bool false, .bool false, undef, .string s, .int .i64 K, .int .i64 n, .int .i64 N8, .int .i64 N7, .int .i64 K, .bool false, undef, .string s,
      .func (.func 91) #[] #[.pointer (some ⟨w.heap.size + 1, 0, none⟩)], .int .i64 (at0 (byt s) x), undef, undef, undef, undef, undef, undef, undef, undef, undef, undef, undef], defers := [] }) ?assign ?body ?done ?stop
  case assign =>
    intro L x W K hK
    gi_wp2
    exact hK
  case body =>
    rintro L pre x W ⟨⟨v, hEB⟩, hB⟩ hlt
    obtain ⟨c0, c9⟩ := byt_in s x
    have HMP := hide (opens_step (byt s) pre x)
    obtain ⟨C, hC⟩ : ∃ C, at0 (byt s) x = C := ⟨_, rfl⟩
    rw [hC] at c0 c9 HMP ⊢
    have hol : (opens (byt s) pre).length ≤ 1000 := by rw [opens_length]; omega
    have hWs := hB.size
    have hsp := spell v (opens (byt s) pre) C 8 w.heap.size W hEB.2.2 hWs (by omega) c0 (hide (by omega)) hol
    rw [← unhide HMP] at hsp
    have hcb := hEB.1.cell
    have h2 := hEB.2.1
    clear hC hol hlt b1 b2 hB0 hn5 hs0 c0 c9 HMP
    gi_wp2_with (
      refine ⟨trivial, ?_⟩
      gi_at_call 74
      refine (CallsIn.inRound L (callsIn_wide.2 hsp)).mono ?_
      rintro e w6 ⟨v6, rfl, k6, g6, -⟩
      obtain ⟨d1, d2, d3, d4⟩ := BitB.more hEB hWs k6 g6
      obtain ⟨pa, na, ca, rfl⟩ := k6.shape
      have f1 := d1.cell
      have f2 := d1.frozen)
    exact ⟨d3.from _, ⟨d4, d2.2.1.trans h2.symm⟩, ⟨⟨_, d2⟩, hB.trans d4⟩⟩
  case done =>
    rintro D ys W hD rfl ⟨⟨v, hEB⟩, hB⟩ hK2
    rw [unhide HOP] at hEB
    obtain ⟨l, hl⟩ : ∃ l, opn (byt s) = l := ⟨_, rfl⟩
    rw [hl] at hEB HON
    obtain ⟨v1, run1, k1⟩ := hEB.2.2.first (unhide HON).1
    have hcb := hEB.1.cell
    obtain ⟨A, C, rfl, hrow⟩ := hEB.2.2.row
    have hAC : l.length ≤ C := by
      rcases hEB.2.2.2 with ⟨e, _⟩ | ⟨g, cap, cur, e, _, _, hc, _⟩
      · have := (Value.slice.inj e).2.1; have := (Value.slice.inj e).2.2; omega
      · have := (Value.slice.inj e).2.2; omega
    obtain ⟨A2, run2, hr2⟩ := row_rest hrow C hAC (unhide HON).1
    have hcon := contains1 A2 (C - n) (l.drop n) W hr2 (by rw [List.length_drop]; have := unhide HON; omega)
    rw [List.length_drop] at hcon
    have HSA : Hid (∀ e w', ((l.drop n).any one1 = true ∧ e = .returned (.tuple #[.slice none 0 0, .iface 48 (.int .i64 2)])) ∨ ((l.drop n).any one1 = false ∧ ∃ v, e = .returned (.tuple #[v, .nilIface]) ∧ Has w' w.heap.size v (l.take n)) → Below w.heap.size w w' → BitSays (opn (byt s)) n w e w') := hide (fun e w' h hb => by rw [hl]; exact ⟨h, hb⟩)
    obtain ⟨T, hT⟩ : ∃ T, (l.drop n).any one1 = T := ⟨_, rfl⟩
    rw [hT] at hcon HSA
    obtain ⟨M, hM⟩ : ∃ M, l.length = M := ⟨_, rfl⟩
    rw [hM] at run1 run2 hcon hcb hAC
    obtain ⟨S, hS⟩ : ∃ S, M - n = S := ⟨_, rfl⟩
    rw [hS] at run2 hcon
    obtain ⟨p9, n9, q9, rfl⟩ := k1.shape
    have hb9 := hB.trans (belowK_b (w := w) (Nat.le_refl _) W D _ (.deferred none) (by omega) hK2 rfl rfl)
    clear b1 b2 hn5 hs0 hT hM hS hrow hr2 hEB hl
    cases T with
    | true =>
      gi_wp2_with (refine ⟨trivial, ?_⟩; gi_at_call 75; refine (callsIn_wide.2 hcon).mono ?_; rintro e w' ⟨rfl, hw'⟩; rw [hw']; clear hw' w')
      refine ⟨by simp, .inl ⟨_, _, rfl, run_takeDeferred hK2, ?_⟩⟩
      refine ⟨.tuple #[.slice none 0 0, .iface 48 (.int .i64 2)], ?_, unhide HSA _ _ (Or.inl ⟨by first | trivial | rfl, rfl⟩) hb9⟩
      simp [results, Tryz.f59, go_sem]
    | false =>
      gi_wp2_with (refine ⟨trivial, ?_⟩; gi_at_call 75; refine (callsIn_wide.2 hcon).mono ?_; rintro e w' ⟨rfl, hw'⟩; rw [hw']; clear hw' w')
      refine ⟨by simp, .inl ⟨_, _, rfl, run_takeDeferred hK2, ?_⟩⟩
      refine ⟨.tuple #[.slice p9 n9 q9, .nilIface], ?_, unhide HSA _ _ (Or.inr ⟨by first | trivial | rfl, _, rfl, ownsRow_putObj k1 _ hK2 rfl⟩) hb9⟩
      simp [results, Tryz.f59, go_sem]
  case stop =>
    rintro D c pre W _ _ h _
    exact h.elim

theorem bits_ok (s : ByteArray) (n : Nat) (w : World) (hs9 : s.size ≤ 9223372036854775807) (hE : Hid (btF (byt s) n = 0)) :
    Calls Tryz.prog 59 #[.string s, .int .i64 n] w fun e w' => ∃ v, e = .returned (.tuple #[v, .nilIface]) ∧ Has w' w.heap.size v ((opn (byt s)).take n) ∧ Below w.heap.size w w' := by
  obtain ⟨h1, h2, h3⟩ := btF_zero.1 (unhide hE)
  rw [byt_length] at h2
  have hT : ((opn (byt s)).drop n).any one1 = false := by
    have h := unhide hE
    unfold btF at h
    rw [if_neg (by omega), if_neg (by rw [byt_length]; omega), Int.toNat_natCast] at h
    split at h
    · omega
    · rename_i h9
      exact Bool.eq_false_iff.2 h9
  refine (bits_go s n _ w h1 (hide rfl) h2).mono ?_
  rintro e w' ⟨h, hb⟩
  rcases h with ⟨h, _⟩ | ⟨_, v, h, hv⟩
  · rw [hT] at h; cases h
  · exact ⟨v, h, hv, hb⟩
set_option maxRecDepth 100000 in
set_option maxHeartbeats 4000000 in
theorem bits_no (s : ByteArray) (n E : Int) (w : World) (hs9 : s.size ≤ 9223372036854775807) (hE : Hid (btF (byt s) n = E)) (hne : Hid (E ≠ 0)) :
    Calls Tryz.prog 59 #[.string s, .int .i64 n] w fun e w' => e = .returned (.tuple #[.slice none 0 0, .iface 48 (.int .i64 E)]) ∧ Below w.heap.size w w' := by
  have hE2 := unhide hE
  unfold btF at hE2
  by_cases h0 : n < 0
  · rw [if_pos (Or.inl h0)] at hE2
    subst hE2
    have d0 : decide (n < 0) = true := by simpa using h0
    clear hE hne
    go_enter Tryz.func59, Tryz.ntmps59
    go_wp2
    go_ret2
    exact ⟨rfl, Below.refl _ _⟩
  · have d0 : decide (n < 0) = false := by simpa using h0
    by_cases h4 : 400 < n
    · rw [if_pos (Or.inr h4)] at hE2
      subst hE2
      have d4 : decide (400 < n) = true := by simpa using h4
      clear hE hne
      go_enter Tryz.func59, Tryz.ntmps59
      go_wp2
      go_ret2
      exact ⟨rfl, Below.refl _ _⟩
    · rw [if_neg (by omega)] at hE2
      obtain ⟨m, rfl⟩ : ∃ m : Nat, n = m := ⟨n.toNat, by omega⟩
      rw [byt_length] at hE2
      by_cases hk : s.size = (m + 7) / 8
      · rw [if_neg (by omega), Int.toNat_natCast] at hE2
        have hT : ((opn (byt s)).drop m).any one1 = true := by
          cases h : ((opn (byt s)).drop m).any one1 with
          | true => rfl
          | false => rw [any_one] at h; rw [h] at hE2; exact absurd hE2.symm (unhide hne)
        obtain rfl : E = 2 := by rw [← hE2]; exact if_pos hT
        refine (bits_go s m _ w (by omega) (hide rfl) hk).mono ?_
        rintro e w' ⟨h, hb⟩
        rcases h with ⟨_, h⟩ | ⟨h, _⟩
        · exact ⟨h, hb⟩
        · rw [hT] at h; cases h
      · rw [if_pos (by omega)] at hE2
        subst hE2
        have d4 : decide (400 < (m : Int)) = false := by simpa using h4
        obtain ⟨K, hK⟩ : ∃ K, s.size = K := ⟨_, rfl⟩
        obtain ⟨K2, hK2⟩ : ∃ K2, (m + 7) / 8 = K2 := ⟨_, rfl⟩
        have hsz : ∀ W, (Builtin.len_ #[9] 3 #[.string s]).run Tryz.prog W = .ok (.int .i64 (K : Int)) W := fun W => by rw [run_len_string W 9 3 s Tryz.underlying9, hK]; rfl
        obtain ⟨N8, hN8⟩ : ∃ N8, m + 8 = N8 := ⟨_, rfl⟩
        obtain ⟨N7, hN7⟩ : ∃ N7, m + 7 = N7 := ⟨_, rfl⟩
        have w1 : IntKind.i64.wrap ((m : Int) + 8) = (N8 : Int) := by rw [IntWalk.i64_in _ (by omega)]; omega
        have w2 : IntKind.i64.wrap ((N8 : Int) - 1) = (N7 : Int) := by rw [IntWalk.i64_in _ (by omega)]; omega
        have w3 : Int.tdiv (N7 : Int) 8 = (K2 : Int) := by rw [Int.tdiv_eq_ediv_of_nonneg (by omega)]; omega
        have n1 : ((K : Int) == (K2 : Int)) = false := by rw [beq_eq_false_iff_ne]; omega
        have n2 : ((K : Int) != (K2 : Int)) = true := by simp; omega
        have n3 : (K == K2) = false := by rw [beq_eq_false_iff_ne]; omega
        have hK29 : K2 ≤ 51 := by omega
        clear hK hK2 hk hE hne
        have hN89 : N8 ≤ 408 := by omega
        have hN79 : N7 ≤ 407 := by omega
        clear hN8 hN7
        go_enter Tryz.func59, Tryz.ntmps59
        go_wp2
        go_ret2
        exact ⟨rfl, Below.refl _ _⟩

end Go.Proofs.YtjojeifoddonnakGreatDoor.Wid
