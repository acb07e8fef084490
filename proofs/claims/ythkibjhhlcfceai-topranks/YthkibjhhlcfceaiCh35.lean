/-
  horn.Encode: by its contract.
-/
import Derived.Test.YthkibjhhlcfceaiCh31
import Derived.Test.YthkibjhhlcfceaiCh33
import Derived.Test.YthkibjhhlcfceaiCh34
import Derived.Test.YthkibjhhlcfceaiCh32
import Derived.Deep.QuietTactic
import Derived.BigQuiet
import Derived.Test.YthkibjhhlcfceaiCh30
namespace Go.Proofs.Ythkibjhhlcfceai.Hrn
open Go.RowKit Go.Shelf
open Go.Proofs.Ythkibjhhlcfceai.Tre Go.Proofs.Ythkibjhhlcfceai.Scl Go.Proofs.Ythkibjhhlcfceai.Itr
set_option linter.unusedVariables false
attribute [local go_sem] Oper.semAt_some

theorem encode_no (a : Option Addr) (cap : Nat) (f : List Int) (b : Option Addr) (capb : Nat) (l : List Int) (E : Int) (w : World) (hrf : Row w a f) (hm : f.length ≤ cap) (hm9 : cap ≤ 9223372036854775807) (hrl : Row w b l) (zl : l.length ≤ 9223372036854775807) (hE : Hid (RowF f l E)) (hne : Hid (E ≠ 0)) :
    Calls Try.prog 8 #[.slice a f.length cap, .slice b l.length capb] w fun e w' => e = .returned (.tuple #[.string { data := #[] }, .iface 52 (.int .i64 E)]) ∧ Below w.heap.size w w' := by
  have hb0 : Below w.heap.size w (w.alloc (.cells #[.slice a f.length cap] 23)) := (Below.refl _ _).alloc (Nat.le_refl _) _
  have hck := check_no a cap f b capb l E (w.alloc (.cells #[.slice a f.length cap] 23)) (hrf.below hb0) (by omega) (hrl.below hb0) zl hE hne
  obtain ⟨N, hN⟩ : ∃ N, l.length = N := ⟨_, rfl⟩
  obtain ⟨M, hM⟩ : ∃ M, f.length = M := ⟨_, rfl⟩
  rw [hN, hM] at hck
  rw [hM] at hb0
  rw [hN, hM]
  clear hN hM hE hne hm hm9 zl
  go_enter Try.func8, Try.ntmps8
  go_wp2_with fail
  refine hck.mono ?_
  rintro e w1 ⟨rfl, hb1⟩
  go_wp2
  go_ret2
  have hb2 := Below.chain hb0 hb1
  exact ⟨rfl, hb2.alloc hb2.size _⟩

/-- 'x = append(x, b)', x a slice of bytes in a box: all that a walk owes behind it. -/
theorem steppedY {W w1 : World} {n₀ B : Nat} {v v' : Value} {l l' : List Int} {tmp : Obj} (hv : Boxed W B 58 v) (h : HasY W n₀ v l) (hn : n₀ ≤ W.heap.size) (hB : n₀ ≤ B)
    (h' : HasY w1 n₀ v' l') (hg : (W.alloc tmp).grownBy w1 v.ownBlock) :
    Boxed w1 B 58 v ∧ Boxed (w1.setCell ⟨B, 0, none⟩ v') B 58 v' ∧ HasY (w1.setCell ⟨B, 0, none⟩ v') n₀ v' l' ∧ KeepsOthers W (w1.setCell ⟨B, 0, none⟩ v') ∧ Below n₀ W (w1.setCell ⟨B, 0, none⟩ v') ∧
      (∀ C t u, Boxed W C t u → t ≠ 5 → C ≠ B → Boxed (w1.setCell ⟨B, 0, none⟩ v') C t u) := by
  obtain ⟨h1, h2, h3, h4, h5⟩ := hv.appended (by decide) h hn hB h' hg
  exact ⟨h1, h2, h3, h4, h5, fun C t u hC ht hne => ((hC.alloc tmp).kept hg (hC.not_row ht h)).other hne v'⟩

/-- The boxes of Encode: where the shares start, the bytes, the number, the row. -/
def EncB (n₀ : Nat) (sv lv v : Value) (X : Int) (O : List Int) (W : World) : Prop :=
  Boxed W n₀ 23 sv ∧ Boxed W (n₀ + 1) 58 v ∧ Boxed W (n₀ + 1 + 1) 3 (.int .i64 X) ∧ Boxed W (n₀ + 1 + 1 + 1) 23 lv ∧ HasY W n₀ v O
theorem EncB.keeps {n₀ : Nat} {sv lv v : Value} {X : Int} {O : List Int} {W W' : World} {row : Option Nat} (h : EncB n₀ sv lv v X O W) (hg : W.grownBy W' row) (hrow : ∀ r, row = some r → ∃ o : Obj, W.heap[r]? = some o ∧ o.isCells = false) : EncB n₀ sv lv v X O W' := by
  obtain ⟨b1, b2, b3, b4, h1⟩ := h
  exact ⟨boxed_keeps b1 hg hrow, boxed_keeps b2 hg hrow, boxed_keeps b3 hg hrow, boxed_keeps b4 hg hrow, row_keeps h1 hg hrow⟩
/-- Another number. -/
theorem EncB.number {n₀ : Nat} {sv lv v : Value} {X : Int} {O : List Int} {W : World} (h : EncB n₀ sv lv v X O W) (Y : Int) : EncB n₀ sv lv v Y O (W.setCell ⟨n₀ + 1 + 1, 0, none⟩ (.int .i64 Y)) := by
  obtain ⟨b1, b2, b3, b4, h1⟩ := h
  exact ⟨b1.other (by omega) _, b2.other (by omega) _, b3.set _, b4.other (by omega) _, row_box h1 b3 (by decide) _⟩
/-- A byte more. -/
theorem EncB.byte {n₀ : Nat} {sv lv v v' : Value} {X c : Int} {O : List Int} {W w1 : World} {tmp : Obj} (h : EncB n₀ sv lv v X O W) (hn : n₀ ≤ W.heap.size) (h' : HasY w1 n₀ v' (O ++ [c])) (hg : (W.alloc tmp).grownBy w1 v.ownBlock) :
    Boxed w1 (n₀ + 1) 58 v ∧ Boxed w1 (n₀ + 1 + 1) 3 (.int .i64 X) ∧ EncB n₀ sv lv v' X (O ++ [c]) (w1.setCell ⟨n₀ + 1, 0, none⟩ v') ∧ KeepsOthers W (w1.setCell ⟨n₀ + 1, 0, none⟩ v') ∧ Below n₀ W (w1.setCell ⟨n₀ + 1, 0, none⟩ v') := by
  obtain ⟨b1, b2, b3, b4, h1⟩ := h
  obtain ⟨d1, d2, d3, d4, d5, d6⟩ := steppedY b2 h1 hn (by omega) h' hg
  exact ⟨d1, (b3.alloc tmp).kept hg (b3.not_row (by decide) h1), ⟨d6 _ _ _ b1 (by decide) (by omega), d2, d6 _ _ _ b3 (by decide) (by omega), d6 _ _ _ b4 (by decide) (by omega), d3⟩, d4, d5⟩

/-- Between two rounds of Encode. -/
def EncI (w1 : World) (f l : List Int) (sv lv : Value) (pre : List Nat) (W : World) : Prop :=
  (∃ v X O, EncB w1.heap.size sv lv v X O.reverse W ∧ enc f (pre.reverse.map (cl l)) (65536, []) = (X, O)) ∧ Below w1.heap.size w1 W
theorem encI_own (w1 : World) (f l : List Int) (sv lv : Value) (D : Nat) (hD : w1.heap.size ≤ D) : OwnFrom D (EncI w1 f l sv lv) := by
  rintro s X Y row ⟨⟨v, x, O, h1, h2⟩, hB⟩ hg hrow
  exact ⟨⟨v, x, O, h1.keeps hg (fun r e => (hrow r e).2), h2⟩, hB.grown hg hB.size (fun k e => by have := (hrow k e).1; omega)⟩

/-- The number in its box. -/
def numAt (W : World) (B : Nat) : Nat := match W.cell? ⟨B, 0, none⟩ with
  | some (.int _ x) => x.toNat
  | _ => 0
theorem numAt_is {W : World} {B : Nat} {t : TypeId} {x : Int} (h : Boxed W B t (.int .i64 x)) : numAt W B = x.toNat := by
  unfold numAt
  rw [h.cell]

theorem enc_len (f l : List Int) (z : Int × List Int) : (enc f l z).2.length ≤ l.length + z.2.length := by
  induction l with
  | nil => simp [enc]
  | cons s l ih =>
    simp only [enc, List.length_append, List.length_cons]
    have : (offb (at0 f s.toNat) (enc f l z).1).length ≤ 1 := by unfold offb; split <;> simp
    omega
/-- The low bytes, the lowest first. -/
def low (X : Int) (k : Nat) : List Int := (List.range k).map fun t => X / 256 ^ t % 256
theorem low_succ (X : Int) (k : Nat) : low X (k + 1) = low X k ++ [X / 256 ^ k % 256] := by simp [low, List.range_succ]
theorem low_length (X : Int) (k : Nat) : (low X k).length = k := by simp [low]
theorem low_three {X : Int} (h : Mid X) : (low X 3).reverse = three X := by
  obtain ⟨h1, h2⟩ := h
  have e1 : low X 3 = [X % 256, X / 256 % 256, X / 65536 % 256] := by
    simp [low, List.range_succ]
  rw [e1]
  unfold three
  have : X / 65536 % 256 = X / 65536 := by omega
  rw [this]
  rfl
theorem div_more (X : Int) (k : Nat) : X / 256 ^ k / 256 = X / 256 ^ (k + 1) := by
  rw [Int.pow_succ, Int.ediv_ediv_of_nonneg (Int.le_of_lt (pow_pos' (by omega) k))]

set_option maxRecDepth 100000 in
set_option maxHeartbeats 8000000 in
theorem encode_ok (a : Option Addr) (cap : Nat) (f : List Int) (b : Option Addr) (capb : Nat) (l : List Int) (w : World) (hrf : Row w a f) (hm : f.length ≤ cap) (hm9 : cap ≤ 9223372036854775807) (hrl : Row w b l) (hE : Hid (RowF f l 0)) :
    Calls Try.prog 8 #[.slice a f.length cap, .slice b l.length capb] w fun e w' => e = .returned (.tuple #[.string (str (code f l)), .nilIface]) ∧ Below w.heap.size w w' := by
  have hb0 : Below w.heap.size w (w.alloc (.cells #[.slice a f.length cap] 23)) := (Below.refl _ _).alloc (Nat.le_refl _) _
  have hck := check_ok a cap f b capb l (w.alloc (.cells #[.slice a f.length cap] 23)) (hrf.below hb0) (hrl.below hb0) hE
  have hc0 := Boxed.new w 23 (.slice a f.length cap)
  obtain ⟨hf0, h60, hl0⟩ := (unhide hE).zero
  have hf := hide hf0
  have hl := hide hl0
  have hf1 := hf0.1
  have hf2 := hf0.2.1
  clear hE hf0 hl0
  refine (callsIn_wide (n := 5)).1 ?_
  refine callsIn_of_wp_marks Try.func8 rfl trivial ?_ rfl
  simp only [Try.ntmps8, List.size_toArray, List.length_cons, List.length_nil, Nat.reduceAdd, Nat.reduceSub, Array.replicate_succ, Array.replicate_zero, List.push_toArray, List.append_toArray, List.nil_append, List.cons_append]
  gi_wp2_with (first
    | (refine ⟨trivial, ?_⟩; gi_at_call 25; refine (callsIn_wide.2 hck).mono ?_; rintro e w1 ⟨v, rfl, k1, hb1⟩; obtain ⟨g3, q3, rfl, hg3, hg4, -, -⟩ := k1.one (by rw [upto_length]; exact hf1); rw [upto_length] at k1 ⊢)
    | (refine ⟨trivial, ?_⟩; gi_at_call 26; refine (backward_in _ _ _ _ _).mono ?_; rintro e w' ⟨rfl, rfl⟩))
  have b1 := (((Boxed.new w1 23 (.slice (some ⟨g3, 0, none⟩) f.length q3)).alloc (.cells #[.slice none 0 0] 58)).alloc (.cells #[.int .i64 65536] 3)).alloc (.cells #[.slice b l.length capb] 23)
  have b2 := ((Boxed.new (w1.alloc (.cells #[.slice (some ⟨g3, 0, none⟩) f.length q3] 23)) 58 (.slice none 0 0)).alloc (.cells #[.int .i64 65536] 3)).alloc (.cells #[.slice b l.length capb] 23)
  have b3 := (Boxed.new ((w1.alloc (.cells #[.slice (some ⟨g3, 0, none⟩) f.length q3] 23)).alloc (.cells #[.slice none 0 0] 58)) 3 (.int .i64 65536)).alloc (.cells #[.slice b l.length capb] 23)
  have b4 := Boxed.new (((w1.alloc (.cells #[.slice (some ⟨g3, 0, none⟩) f.length q3] 23)).alloc (.cells #[.slice none 0 0] 58)).alloc (.cells #[.int .i64 65536] 3)) 23 (.slice b l.length capb)
  have hB0 : Below w1.heap.size w1 ((((w1.alloc (.cells #[.slice (some ⟨g3, 0, none⟩) f.length q3] 23)).alloc (.cells #[.slice none 0 0] 58)).alloc (.cells #[.int .i64 65536] 3)).alloc (.cells #[.slice b l.length capb] 23)) :=
    ((((Below.refl _ w1).alloc (Nat.le_refl _) _).alloc (by simp) _).alloc (by simp; omega) _).alloc (by simp; omega) _
  have hn5 : w1.heap.size + 1 + 1 + 1 < ((((w1.alloc (.cells #[.slice (some ⟨g3, 0, none⟩) f.length q3] 23)).alloc (.cells #[.slice none 0 0] 58)).alloc (.cells #[.int .i64 65536] 3)).alloc (.cells #[.slice b l.length capb] 23)).heap.size := by simp
  simp only [World.size_alloc] at b2 b3 b4
  obtain ⟨W0, hW0⟩ : ∃ W0, ((((w1.alloc (.cells #[.slice (some ⟨g3, 0, none⟩) f.length q3] 23)).alloc (.cells #[.slice none 0 0] 58)).alloc (.cells #[.int .i64 65536] 3)).alloc (.cells #[.slice b l.length capb] 23)) = W0 := ⟨_, rfl⟩
  rw [hW0] at b1 b2 b3 b4 hB0 hn5 ⊢
  clear hW0 hck
  have hsz := hB0.size
  have hb2 := Below.chain hb0 hb1
  have hrf1 := hrf.below hb2
  have hrl1 := hrl.below hb2
  have hcb : Boxed w1 w.heap.size 23 (.slice a f.length cap) := (hb1.block _ hc0.lt).trans hc0
  have hwlt : w.heap.size < w1.heap.size := hcb.lt
  refine wpIn_rangeFunc_ownG rfl (by omega) (gf := 59) (lb := #[.pointer (some ⟨w1.heap.size + 1 + 1 + 1, 0, none⟩)]) rfl trivial (enters_of Try.func59 (by kernel_rfl) rfl)
    (backward_stops _ (by omega) (w1.heap.size + 1 + 1 + 1) w1.heap.size b capb l (by omega) W0 hn5 hsz b4.cell ((rowB_of hrl1).below hB0)) Kp.trans (kp_b hsz hn5) (Below.refl _ _) (fun _ => rfl)
    (EncI w1 f l (.slice (some ⟨g3, 0, none⟩) f.length q3) (.slice b l.length capb)) (fun _ _ _ => False) (encI_own w1 f l _ _ _ hsz) (fun _ _ _ _ _ hs _ _ => hs)
    ⟨⟨_, 65536, [], ⟨b1, b2, b3, b4, HasY.nil _ _⟩, rfl⟩, hB0⟩
    (fun x => { tmps := #[.slice a f.length cap, .slice b l.length capb, .pointer (some ⟨w.heap.size, 0, none⟩), undef, .string { data := #[] }, .nilIface, .pointer (some ⟨w1.heap.size, 0, none⟩), .nilIface, .pointer (some ⟨w1.heap.size + 1, 0, none⟩), .pointer (some ⟨w1.heap.size + 1 + 1, 0, none⟩), undef, .int .i64 (cl l x), undef,
      .tuple #[.slice (some ⟨g3, 0, none⟩) f.length q3, .nilIface], .slice a f.length cap, .slice b l.length capb, .tuple #[.slice (some ⟨g3, 0, none⟩) f.length q3, .nilIface], .slice (some ⟨g3, 0, none⟩) f.length q3, .nilIface, .nilIface, .bool false, undef, .slice b l.length capb,
      .func (.func 59) #[] #[.pointer (some ⟨w1.heap.size + 1 + 1 + 1, 0, none⟩)], .int .i64 x, .int .i64 (cl l x),
      undef, undef, undef, undef, undef, undef, undef, undef, undef, undef, undef, undef, undef, undef, undef, undef, undef, undef, undef, undef, undef, undef, undef, undef, undef, undef, undef, undef, undef, undef, undef, undef, undef, undef, undef, undef, undef, undef, undef, undef, undef, undef, undef, undef], defers := [] }) ?assign ?body ?done ?stop
  case assign =>
    intro L x W K hK
    gi_wp2
    exact hK
  case body =>
    rintro L pre x W ⟨⟨v, X, O, hEB, hen⟩, hB⟩ hlt
    have hpos : 0 < l.length := by omega
    have hsg : Sgn f (cl l x) := unhide hl _ (cl_mem hpos x)
    have HSI : Hid (Signs f (pre.reverse.map (cl l))) := hide (fun s hs => by
      obtain ⟨i, _, rfl⟩ := List.mem_map.1 hs
      exact unhide hl _ (cl_mem hpos i))
    have HX : Hid (Mid X) := hide (by
      have h := enc_in (unhide hf) (unhide HSI) (z := (65536, [])) least
      rw [hen] at h
      exact h)
    have hOl : O.length ≤ 60 := by
      have h := enc_len f (pre.reverse.map (cl l)) (65536, [])
      rw [hen] at h
      simp at h
      omega
    have HEN2 : Hid (enc f ((pre ++ [x]).reverse.map (cl l)) (65536, []) = (put f (cl l x).toNat X, offb (at0 f (cl l x).toNat) X ++ O)) := hide (by
      rw [List.reverse_append]
      simp only [List.reverse_cons, List.reverse_nil, List.nil_append, List.cons_append, List.map_cons, enc, hen])
    obtain ⟨S, hS⟩ : ∃ S : Nat, cl l x = S := ⟨(cl l x).toNat, by have := hsg.1; omega⟩
    rw [hS] at hsg HEN2 ⊢
    obtain ⟨g0, g1, g2⟩ := hsg
    rw [Int.toNat_natCast] at g2 HEN2
    have hSf : S < f.length := by omega
    obtain ⟨s1, s2, s3, s4⟩ := share_in (unhide hf) hSf g2
    obtain ⟨p1, p2, p3, p4⟩ := put_parts (unhide hf) hSf g2 (unhide HX)
    have HPU : Hid (put f S X = ren (at0 f S) X / at0 f S * 256 + ren (at0 f S) X % at0 f S + pfx f S) := hide rfl
    have HRN : Hid (ren (at0 f S) X = if 65536 * at0 f S ≤ X then X / 256 else X) := hide rfl
    have HOF : Hid (offb (at0 f S) X = if 65536 * at0 f S ≤ X then [X % 256] else []) := hide rfl
    have hcbW : W.cell? ⟨w.heap.size, 0, none⟩ = some (.slice a f.length cap) := (hB.cell (p := ⟨w.heap.size, 0, none⟩) hwlt).trans hcb.cell
    obtain ⟨b0, off0, rfl, hb0lt, hcf⟩ := cell_at hrf1 (by omega)
    have c1 : W.cell? ⟨b0, off0 + S, none⟩ = some (.int .i64 (at0 f S)) := (hB.cell (p := ⟨b0, off0 + S, none⟩) hb0lt).trans (hcf S hSf)
    have HC2 : Hid (∀ V, Below w1.heap.size w1 V → V.cell? ⟨g3, S, none⟩ = some (.int .i64 (pfx f S))) := hide (fun V hV => (hV.cell (p := ⟨g3, S, none⟩) hg4).trans (by
      have h1 := k1.get (j := S) (by rw [upto_length]; exact hSf)
      rw [upto_at _ hSf] at h1
      exact h1))
    obtain ⟨F, hF⟩ : ∃ F, at0 f S = F := ⟨_, rfl⟩
    rw [hF] at s1 s2 s4 HEN2 p1 p2 p3 p4 HPU HRN HOF c1
    obtain ⟨P, hP⟩ : ∃ P, pfx f S = P := ⟨_, rfl⟩
    rw [hP] at s3 s4 HPU HC2
    obtain ⟨Rn, hR⟩ : ∃ Rn, ren F X = Rn := ⟨_, rfl⟩
    rw [hR] at p1 p2 p3 p4 HPU HRN
    obtain ⟨M, hM⟩ : ∃ M, f.length = M := ⟨_, rfl⟩
    rw [hM] at hSf hcbW hEB ⊢
    obtain ⟨x1, x2⟩ := unhide HX
    have hWs := hB.size
    have h4 := hEB.2.2.2.1
    obtain ⟨sv, hsv⟩ : ∃ sv, Value.slice b l.length capb = sv := ⟨_, rfl⟩
    rw [hsv] at hEB h4
    have HSV := hide hsv
    clear hF hP hR hM hcf g0 g1 g2 hS HSI hen hpos hlt b1 b2 b3 b4 hB0 hn5 hsz hsv k1
    gi_wp2
    gi_loopw [30] (fun _ wr => ∃ (v' : Value) (X' : Int) (O' : List Int), EncB w1.heap.size (.slice (some ⟨g3, 0, none⟩) M q3) sv v' X' O'.reverse wr ∧ Hid ((X' = X ∧ O' = O) ∨ (65536 * F ≤ X ∧ X' = X / 256 ∧ O' = [X % 256] ++ O)) ∧ KeepsOthers W wr ∧ Below w1.heap.size W wr) (fun _ wr => numAt wr (w1.heap.size + 1 + 1))
    case atStart => exact ⟨v, X, O, hEB, hide (Or.inl ⟨rfl, rfl⟩), KeepsOthers.refl _, Below.refl _ _⟩
    case round =>
      obtain ⟨v', X', O', hE2, HW, hk2, hb2'⟩ := hrel
      clear hEB c1 hcbW
      have hx0 : 0 ≤ X' := by rcases unhide HW with ⟨h, _⟩ | ⟨_, h, _⟩ <;> omega
      have hx9 : X' < 16777216 := by rcases unhide HW with ⟨h, _⟩ | ⟨_, h, _⟩ <;> omega
      have c3 := hE2.2.2.1.cell
      have hn2 : w1.heap.size ≤ wr.heap.size := Nat.le_trans hWs hb2'.size
      by_cases hge : 65536 * F ≤ X'
      · have hst : X' = X ∧ O' = O := by
          rcases unhide HW with h | ⟨_, h, _⟩
          · exact h
          · omega
        have hd : decide (65536 * F ≤ X') = true := by simpa using hge
        obtain ⟨rfl, rfl⟩ := hst
        obtain ⟨C, hC⟩ : ∃ C, X' % 256 = C := ⟨_, rfl⟩
        obtain ⟨Y, hY⟩ : ∃ Y, X' / 256 = Y := ⟨_, rfl⟩
        have HW2 : Hid ((Y = X' ∧ [C] ++ O' = O') ∨ (65536 * F ≤ X' ∧ Y = X' / 256 ∧ [C] ++ O' = [X' % 256] ++ O')) := hide (Or.inr ⟨hge, hY.symm, by rw [hC]⟩)
        have t2 : Int.tdiv X' 256 = Y := by rw [Int.tdiv_eq_ediv_of_nonneg (by omega)]; exact hY
        have t4 : Int.tmod X' 256 = C := by rw [Int.tmod_eq_emod_of_nonneg (by omega)]; exact hC
        have y0 : 0 ≤ Y := by omega
        have y9 : Y ≤ 65535 := by omega
        have yl : Y < X' := by omega
        have cc0 : 0 ≤ C := by omega
        have cc9 : C ≤ 255 := by omega
        have u3 : C % 256 = C := by omega
        have c4 := hE2.2.1.cell
        have hyl : O'.reverse.length + 1 ≤ 1000000 := by rw [List.length_reverse]; omega
        have HYL := hide hyl
        have HM0 := hide (numAt_is hE2.2.2.1)
        clear hC hY HW hyl
        gi_wp2_with (
          gi_at_builtin
          refine wpListIn_appy _ rfl _ _ rfl w1.heap.size v' O'.reverse C _ _ rfl (hE2.2.2.2.2.alloc _) rfl (cell_byte _ _ _) (unhide HYL) (by simp; omega) ?_
          intro u1 w6 k6 g6 at6
          obtain ⟨d1, d0, d2, d3, d4⟩ := EncB.byte hE2 hn2 k6 g6
          obtain ⟨pa, na, ca, rfl⟩ := k6.any
          have f1 := d1.cell
          have f2 := d1.frozen
          have f3 := d0.cell
          have f4 := d0.frozen)
        go_roundw
        case rel => exact ⟨_, Y, [C] ++ O', by simpa using d2.number Y, HW2, (hk2.trans d3).trans (KeepsOthers.setCell _ _ _), (hb2'.trans d4).setCell (p := ⟨w1.heap.size + 1 + 1, 0, none⟩) (by simp; omega) _⟩
        case measure =>
          rw [unhide HM0, numAt_is (d2.number Y).2.2.1]
          omega
      · have hd : decide (65536 * F ≤ X') = false := by simpa using hge
        have HX2 : Hid (X' = Rn ∧ O' = offb F X ++ O) := hide (by
          rcases unhide HW with ⟨h1, h2⟩ | ⟨h0, h1, h2⟩
          · rw [unhide HRN, unhide HOF, if_neg (by omega), if_neg (by omega)]
            exact ⟨h1, h2⟩
          · rw [unhide HRN, unhide HOF, if_pos h0, if_pos h0]
            exact ⟨h1, h2⟩)
        obtain ⟨rfl, e2⟩ := unhide HX2
        have HD2 : Hid (enc f ((pre ++ [x]).reverse.map (cl l)) (65536, []) = (put f S X, O')) := hide (by rw [unhide HEN2, e2])
        obtain ⟨q, hq⟩ : ∃ q, X' / F = q := ⟨_, rfl⟩
        obtain ⟨m, hm⟩ : ∃ m, X' % F = m := ⟨_, rfl⟩
        rw [hq] at p1 p2 HPU
        rw [hm] at p3 p4 HPU
        have t1 : Int.tdiv X' F = q := by rw [Int.tdiv_eq_ediv_of_nonneg (by omega)]; exact hq
        have t2 : Int.tmod X' F = m := by rw [Int.tmod_eq_emod_of_nonneg (by omega)]; exact hm
        have hF0 : (F == 0) = false := by rw [beq_eq_false_iff_ne]; omega
        obtain ⟨Z, hZ⟩ : ∃ Z, q * 256 + m + P = Z := ⟨_, rfl⟩
        have HPZ : Hid (put f S X = Z) := hide (by rw [unhide HPU]; exact hZ)
        rw [unhide HPZ] at HD2
        have w1' : IntKind.i64.wrap (q * 256 + m + P) = Z := by rw [hZ]; exact IntWalk.i64_in _ (by omega)
        have w2' : IntKind.i64.wrap (q * 256 + m) = q * 256 + m := IntWalk.i64_in _ (by omega)
        have w3' : IntKind.i64.wrap (q * 256) = q * 256 := IntWalk.i64_in _ (by omega)
        have c5 := hE2.1.cell
        have c6 := unhide HC2 wr (hB.trans hb2')
        have c7 := hE2.2.2.1.frozen
        have HE3 : Hid (∀ x, EncB w1.heap.size (.slice (some ⟨g3, 0, none⟩) M q3) sv v' Z O'.reverse ((wr.drewN x).setCell ⟨w1.heap.size + 1 + 1, 0, none⟩ (.int .i64 Z))) := hide (fun x => EncB.number (W := wr.drewN x) hE2 Z)
        have HK3 : Hid (∀ x, KeepsOthers W ((wr.drewN x).setCell ⟨w1.heap.size + 1 + 1, 0, none⟩ (.int .i64 Z))) := hide (fun x => (hk2.trans (show KeepsOthers wr (wr.drewN x) from ⟨Nat.le_refl _, fun _ _ h _ => h⟩)).trans (KeepsOthers.setCell _ _ _))
        have HB3 : Hid (∀ x, Below w1.heap.size W ((wr.drewN x).setCell ⟨w1.heap.size + 1 + 1, 0, none⟩ (.int .i64 Z))) := hide (fun x => (hb2'.trans (show Below w1.heap.size wr (wr.drewN x) from ⟨rfl, rfl, rfl, Nat.le_refl _, fun _ _ => rfl⟩)).setCell (p := ⟨w1.heap.size + 1 + 1, 0, none⟩) (by simp; omega) _)
        clear HX2 HW e2 hq hm hZ HRN HOF HPU HEN2 HC2
        gi_wp2
        refine region_last _ rfl (by kernel_rfl) (by kernel_rfl) (by kernel_rfl) ?_
        simp only [calm]
        repeat (gi_big_quiet_step (fail))
        refine wpQuietIn_nil ?_
        intro _ hw'
        obtain ⟨nq, hw''⟩ := hw'
        subst hw''
        gi_wp2
        exact ⟨(unhide HK3 nq).from _, ⟨unhide HB3 nq, (unhide HE3 nq).2.2.2.1.trans h4.symm⟩, ⟨⟨v', Z, O', by rw [unhide HSV]; exact unhide HE3 nq, unhide HD2⟩, hB.trans (unhide HB3 nq)⟩⟩
  case done =>
    rintro D ys W hD rfl ⟨⟨v, X, O, hEB, hen⟩, hB⟩ hK
    rw [dn_all] at hen
    have HX : Hid (Mid X) := hide (by
      have h := enc_in (unhide hf) (unhide hl) (z := (65536, [])) least
      rw [hen] at h
      exact h)
    have hOl : O.length ≤ 60 := by
      have h := enc_len f l (65536, [])
      rw [hen] at h
      simp at h
      omega
    have HCD : Hid ((low X 3).reverse ++ O = code f l) := hide (by rw [low_three (unhide HX)]; unfold code; rw [hen])
    have HBY := hide (code_byts (unhide hf) (unhide hl))
    obtain ⟨cd, hcd⟩ : ∃ cd, code f l = cd := ⟨_, rfl⟩
    rw [hcd] at HCD HBY
    have HCE := hide hcd
    obtain ⟨x1, x2⟩ := unhide HX
    have hWs := hB.size
    have hBw := Below.chain hb2 hB
    obtain ⟨lv, hlv⟩ : ∃ lv, Value.slice b l.length capb = lv := ⟨_, rfl⟩
    obtain ⟨sv, hsv⟩ : ∃ sv, Value.slice (some ⟨g3, 0, none⟩) f.length q3 = sv := ⟨_, rfl⟩
    rw [hlv, hsv] at hEB
    have HX0 : Hid (X = X / 256 ^ 0) := hide (by simp)
    have HO0 : Hid (O.reverse = O.reverse ++ low X 0) := hide (by simp [low])
    clear b1 b2 b3 b4 hn5 hcd hsv hlv hen k1
    gi_wp2
    gi_loopw [55] (fun i wr => ∃ (k : Nat) (v' : Value) (X' : Int) (O' : List Int), k ≤ 3 ∧ i = .int .i64 k ∧ EncB w1.heap.size sv lv v' X' O' wr ∧ Hid (X' = X / 256 ^ k) ∧ Hid (O' = O.reverse ++ low X k) ∧ KeepsOthers W wr ∧ Below w1.heap.size W wr) (fun i _ => 3 - (intOf i).toNat)
    case atStart => exact ⟨0, v, X, O.reverse, Nat.zero_le _, rfl, hEB, HX0, HO0, KeepsOthers.refl _, Below.refl _ _⟩
    case round =>
      obtain ⟨k, v', X', O', hk, rfl, hE2, HX', HO', hk2, hb2'⟩ := hrel
      clear hEB HX0 HO0
      have c3 := hE2.2.2.1.cell
      have hn2 : w1.heap.size ≤ wr.heap.size := Nat.le_trans hWs hb2'.size
      have hpk : (0 : Int) < 256 ^ k := pow_pos' (by omega) k
      have hx0 : 0 ≤ X' := by rw [unhide HX']; exact Int.ediv_nonneg (by omega) (by omega)
      have hx9 : X' < 16777216 := by
        have : X / 256 ^ k ≤ X := Int.ediv_le_self _ (by omega)
        rw [unhide HX']; omega
      have hOk : O'.length = O.length + k := by rw [unhide HO', List.length_append, List.length_reverse, low_length]
      by_cases hlt : k < 3
      · obtain ⟨C, hC⟩ : ∃ C, X' % 256 = C := ⟨_, rfl⟩
        obtain ⟨Y, hY⟩ : ∃ Y, X' / 256 = Y := ⟨_, rfl⟩
        have t2 : Int.tdiv X' 256 = Y := by rw [Int.tdiv_eq_ediv_of_nonneg (by omega)]; exact hY
        have t4 : Int.tmod X' 256 = C := by rw [Int.tmod_eq_emod_of_nonneg (by omega)]; exact hC
        have y0 : 0 ≤ Y := by omega
        have y9 : Y ≤ 65535 := by omega
        have cc0 : 0 ≤ C := by omega
        have cc9 : C ≤ 255 := by omega
        have u3 : C % 256 = C := by omega
        have c4 := hE2.2.1.cell
        have HX2 : Hid (Y = X / 256 ^ (k + 1)) := hide (by rw [← hY, unhide HX', div_more])
        have HO2 : Hid (O' ++ [C] = O.reverse ++ low X (k + 1)) := hide (by rw [low_succ, ← List.append_assoc, ← unhide HO', ← hC, unhide HX'])
        have HYL : Hid (O'.length + 1 ≤ 1000000) := hide (by omega)
        clear hC hY hpk HX' HO' hOk
        gi_wp2_with (
          gi_at_builtin
          refine wpListIn_appy _ rfl _ _ rfl w1.heap.size v' O' C _ _ rfl (hE2.2.2.2.2.alloc _) rfl (cell_byte _ _ _) (unhide HYL) (by simp; omega) ?_
          intro u1 w6 k6 g6 at6
          obtain ⟨d1, d0, d2, d3, d4⟩ := EncB.byte hE2 hn2 k6 g6
          obtain ⟨pa, na, ca, rfl⟩ := k6.any
          have f1 := d1.cell
          have f2 := d1.frozen
          have f3 := d0.cell
          have f4 := d0.frozen)
        go_roundw
        case rel => exact ⟨k + 1, _, Y, O' ++ [C], by omega, by go_num, d2.number Y, HX2, HO2, (hk2.trans d3).trans (KeepsOthers.setCell _ _ _), (hb2'.trans d4).setCell (p := ⟨w1.heap.size + 1 + 1, 0, none⟩) (by simp; omega) _⟩
        case measure => simp [intOf]; omega
      · obtain rfl : k = 3 := by omega
        have HRV : Hid (O'.reverse = cd) := hide (by rw [← unhide HCD, unhide HO', List.reverse_append, List.reverse_reverse])
        obtain ⟨g, c, rfl, hg1, hg2, -, -⟩ := hE2.2.2.2.2.one (by omega)
        have HKL : Hid (cd.length = O'.length) := hide (by rw [← unhide HRV, List.length_reverse])
        have hrv := reverse g O'.length c w1.heap.size O' wr (by omega) hE2.2.2.2.2
        obtain ⟨K, hKK⟩ : ∃ K, O'.length = K := ⟨_, rfl⟩
        rw [unhide HRV] at hrv
        rw [hKK] at hrv HKL hE2
        have b5 := hE2.2.1
        have hrw := hE2.2.2.2.2
        have c4 := b5.cell
        have HCV : Hid (∀ W7, HasY W7 w1.heap.size (.slice (some ⟨g, 0, none⟩) K c) cd → (convert 58 9 (.slice (some ⟨g, 0, none⟩) K c)).run Try.prog W7 = .ok (.string (str cd)) W7) := hide (fun W7 h7 => by
          have h := run_str W7 ⟨g, 0, none⟩ c cd (unhide HBY) (fun j hj => by rw [addr_plain, Nat.zero_add]; exact h7.get hj)
          rw [unhide HKL] at h
          exact h)
        have HK7 : Hid (∀ W7, wr.grownBy W7 (some g) → KeepsOthers W W7 ∧ Below w1.heap.size W W7 ∧ Boxed W7 (w1.heap.size + 1) 58 (.slice (some ⟨g, 0, none⟩) K c)) := hide (fun W7 h7 =>
          ⟨hk2.trans (row_others hrw h7), hb2'.trans ((Below.refl w1.heap.size wr).grown h7 hn2 (fun j e => by cases e; exact hg1)), b5.kept h7 (b5.not_row (by decide) hrw)⟩)
        clear HX' HO' hOk hpk hKK
        gi_wp2_with (
          refine ⟨trivial, ?_⟩
          gi_at_call 27
          refine (callsIn_wide.2 hrv).mono ?_
          rintro e w7 ⟨rfl, hy7, hg7⟩
          obtain ⟨k7, l7, b7⟩ := unhide HK7 w7 hg7
          have c7 := b7.cell
          have hcv := unhide HCV w7 hy7)
        have hkD := k7.same D _ hK rfl
        refine ⟨by simp, .inl ⟨_, _, rfl, run_takeDeferred hkD, ?_⟩⟩
        refine ⟨.tuple #[.string (str cd), .nilIface], ?_, by rw [unhide HCE], (hBw.trans (l7.mono (Nat.le_of_lt hwlt))).trans (belowK_b (w := w) (Nat.le_refl _) _ D _ _ (by omega) hkD rfl rfl)⟩
        simp [results, Try.f8, go_sem]
  case stop =>
    rintro D c pre W _ _ h _
    exact h.elim

end Go.Proofs.Ythkibjhhlcfceai.Hrn

/-
  horn.begin and horn.fill: by their contracts.
-/
namespace Go.Proofs.Ythkibjhhlcfceai.Hrn
open Go.RowKit
open Go.Proofs.Ythkibjhhlcfceai.Tre Go.Proofs.Ythkibjhhlcfceai.Scl
set_option linter.unusedVariables false

theorem str_extract (l : List Int) (k : Nat) : (str l).extract k (str l).size = str (l.drop k) := by
  apply ByteArray.ext
  rw [ByteArray.data_extract]
  show (u8s l).toArray.extract k (u8s l).toArray.size = (u8s (l.drop k)).toArray
  simp [u8s]
  rw [List.take_of_length_le (by simp)]
/-- A text's byte; the rest of a text; is it empty? -/
theorem run_byte {l : List Int} (hb : Byts l) {i : Nat} (h : i < l.length) (w : World) : (Instr.index 9 (.string (str l)) (.int .i64 i)).run Try.prog w = .ok (.int .u8 (at0 l i)) w := by
  have hs : i < (str l).size := by rw [str_size]; exact h
  rw [run_index_string w 9 (str l) .i64 i Try.underlying9, dif_pos ⟨by omega, by omega⟩]
  have e : ((i : Int)).toNat = i := by omega
  have e2 := byt_at (str l) hs
  rw [byt_str hb] at e2
  rw [← e2]
  simp only [e]
theorem run_cut {l : List Int} {k : Nat} (h : k ≤ l.length) (w : World) : (Instr.slice 9 (.string (str l)) (some (.int .i64 k)) none none).run Try.prog w = .ok (.string (str (l.drop k))) w := by
  rw [run_slice_string_from_if w 9 (str l) .i64 k Try.underlying9, if_pos ⟨by omega, by rw [str_size]; omega⟩]
  rw [show ((k : Int)).toNat = k by omega, str_extract]
theorem str_none (l : List Int) : ((str l).toList == []) = decide (l.length = 0) := by
  rw [str_toList]
  cases l <;> simp [u8s]

theorem fill_stop {r : List Int} {x y : Int} {r' : List Int} (hx : 65536 ≤ x) (h : fill r x = some (y, r')) : y = x ∧ r' = r := by
  cases r with
  | nil => simp only [fill, if_pos hx] at h; cases h; exact ⟨rfl, rfl⟩
  | cons b r => simp only [fill, if_pos hx] at h; cases h; exact ⟨rfl, rfl⟩

set_option maxRecDepth 100000 in
set_option maxHeartbeats 4000000 in
theorem fill_ok (x : Int) (r : List Int) (y : Int) (r' : List Int) (w : World) (h0 : 0 ≤ x) (h9 : x < 16777216) (hb : Hid (Byts r)) (h : Hid (fill r x = some (y, r'))) :
    Calls Try.prog 32 #[.int .i64 x, .string (str r)] w fun e w' => e = .returned (.tuple #[.int .i64 y, .string (str r'), .nilIface]) ∧ w' = w := by
  go_enter Try.func32, Try.ntmps32
  go_wp2
  go_loopw [0, 1] (fun n t wr => ∃ (z : Int) (q : List Int), n = .int .i64 z ∧ t = .string (str q) ∧ 0 ≤ z ∧ z < 16777216 ∧ Hid (Byts q) ∧ Hid (fill q z = some (y, r')) ∧ w = wr) (fun _ t _ => match t with | .string s => s.size | _ => 0)
  case atStart => exact ⟨x, r, rfl, rfl, h0, h9, hb, h, rfl⟩
  case round =>
    obtain ⟨z, q, rfl, rfl, z0, z9, HB, HF, rfl⟩ := hrel
    clear h hb
    by_cases hz : z < 65536
    · have hd : decide (z < 65536) = true := by simpa using hz
      cases q with
      | nil =>
        have h1 := unhide HF
        rw [fill, if_neg (by omega)] at h1
        cases h1
      | cons c q =>
        have hn1 := str_none (c :: q)
        rw [show decide ((c :: q).length = 0) = false by simp] at hn1
        have hc := (unhide HB) c (by simp)
        have hix : ∀ W, (Instr.index 9 (.string (str (c :: q))) (.int .i64 0)).run Try.prog W = .ok (.int .u8 c) W := fun W => run_byte (unhide HB) (i := 0) (by simp) W
        have hct : ∀ W, (Instr.slice 9 (.string (str (c :: q))) (some (.int .i64 1)) none none).run Try.prog W = .ok (.string (str q)) W := fun W => run_cut (l := c :: q) (k := 1) (by simp) W
        have HB2 : Hid (Byts q) := hide (fun b h => (unhide HB) b (by simp [h]))
        have HF2 : Hid (fill q (z * 256 + c) = some (y, r')) := hide (by have h1 := unhide HF; rw [fill, if_neg (by omega)] at h1; exact h1)
        have HSZ : Hid ((str q).size < (str (c :: q)).size) := hide (by rw [str_size, str_size]; simp)
        obtain ⟨c0, c9⟩ := hc
        have n1 : IntKind.i64.wrap (z * 256 + c) = z * 256 + c := IntWalk.i64_in _ (by omega)
        have n2 : IntKind.i64.wrap (z * 256) = z * 256 := IntWalk.i64_in _ (by omega)
        obtain ⟨s, hs⟩ : ∃ s, str (c :: q) = s := ⟨_, rfl⟩
        rw [hs] at hn1 hix hct HSZ ⊢
        clear hs HB HF
        go_wp2
        go_roundw
        case rel => exact ⟨z * 256 + c, q, by first | rfl | go_num, rfl, by omega, by omega, HB2, HF2, by first | trivial | rfl⟩
        case measure => exact unhide HSZ
    · have hd : decide (z < 65536) = false := by simpa using hz
      obtain ⟨rfl, rfl⟩ := fill_stop (by omega) (unhide HF)
      go_wp2
      go_ret3
      exact ⟨rfl, rfl⟩

set_option maxRecDepth 100000 in
set_option maxHeartbeats 4000000 in
theorem fill_no (x : Int) (r : List Int) (w : World) (h0 : 0 ≤ x) (h9 : x < 16777216) (hb : Hid (Byts r)) (h : Hid (fill r x = none)) :
    Calls Try.prog 32 #[.int .i64 x, .string (str r)] w fun e w' => e = .returned (.tuple #[.int .i64 0, .string { data := #[] }, .iface 52 (.int .i64 2)]) ∧ w' = w := by
  go_enter Try.func32, Try.ntmps32
  go_wp2
  go_loopw [0, 1] (fun n t wr => ∃ (z : Int) (q : List Int), n = .int .i64 z ∧ t = .string (str q) ∧ 0 ≤ z ∧ z < 16777216 ∧ Hid (Byts q) ∧ Hid (fill q z = none) ∧ w = wr) (fun _ t _ => match t with | .string s => s.size | _ => 0)
  case atStart => exact ⟨x, r, rfl, rfl, h0, h9, hb, h, rfl⟩
  case round =>
    obtain ⟨z, q, rfl, rfl, z0, z9, HB, HF, rfl⟩ := hrel
    clear h hb
    by_cases hz : z < 65536
    · have hd : decide (z < 65536) = true := by simpa using hz
      cases q with
      | nil =>
        have hn1 := str_none []
        rw [show decide (([] : List Int).length = 0) = true by rfl] at hn1
        obtain ⟨s, hs⟩ : ∃ s, str [] = s := ⟨_, rfl⟩
        rw [hs] at hn1 ⊢
        clear hs HB HF
        go_wp2
        go_ret3
        exact ⟨rfl, rfl⟩
      | cons c q =>
        have hn1 := str_none (c :: q)
        rw [show decide ((c :: q).length = 0) = false by simp] at hn1
        have hc := (unhide HB) c (by simp)
        have hix : ∀ W, (Instr.index 9 (.string (str (c :: q))) (.int .i64 0)).run Try.prog W = .ok (.int .u8 c) W := fun W => run_byte (unhide HB) (i := 0) (by simp) W
        have hct : ∀ W, (Instr.slice 9 (.string (str (c :: q))) (some (.int .i64 1)) none none).run Try.prog W = .ok (.string (str q)) W := fun W => run_cut (l := c :: q) (k := 1) (by simp) W
        have HB2 : Hid (Byts q) := hide (fun b h => (unhide HB) b (by simp [h]))
        have HF2 : Hid (fill q (z * 256 + c) = none) := hide (by have h1 := unhide HF; rw [fill, if_neg (by omega)] at h1; exact h1)
        have HSZ : Hid ((str q).size < (str (c :: q)).size) := hide (by rw [str_size, str_size]; simp)
        obtain ⟨c0, c9⟩ := hc
        have n1 : IntKind.i64.wrap (z * 256 + c) = z * 256 + c := IntWalk.i64_in _ (by omega)
        have n2 : IntKind.i64.wrap (z * 256) = z * 256 := IntWalk.i64_in _ (by omega)
        obtain ⟨s, hs⟩ : ∃ s, str (c :: q) = s := ⟨_, rfl⟩
        rw [hs] at hn1 hix hct HSZ ⊢
        clear hs HB HF
        go_wp2
        go_roundw
        case rel => exact ⟨z * 256 + c, q, by first | rfl | go_num, rfl, by omega, by omega, HB2, HF2, by first | trivial | rfl⟩
        case measure => exact unhide HSZ
    · have h1 := unhide HF
      rw [fill_enough q (by omega)] at h1
      cases h1

/-- The number of the first i bytes. -/
def nm (bs : List Int) : Nat → Int
  | 0 => 0
  | i + 1 => nm bs i * 256 + at0 bs i
theorem nm_in {bs : List Int} (hb : Byts bs) : ∀ i, i ≤ 3 → i ≤ bs.length → 0 ≤ nm bs i ∧ nm bs i < 256 ^ i := by
  intro i
  induction i with
  | zero => intro _ _; exact ⟨by simp [nm], by simp [nm]⟩
  | succ i ih =>
    intro h3 hl
    obtain ⟨a, b⟩ := ih (by omega) (by omega)
    have e : at0 bs i = bs[i] := by simp [at0, show i < bs.length by omega]
    obtain ⟨c, d⟩ := hb bs[i] (List.getElem_mem _)
    rw [nm, Int.pow_succ, e]
    omega
theorem nm_small {bs : List Int} (hb : Byts bs) {i : Nat} (h3 : i ≤ 3) (hl : 3 ≤ bs.length) : 0 ≤ nm bs i ∧ nm bs i < 16777216 := by
  obtain ⟨a, b⟩ := nm_in hb i h3 (by omega)
  have key : ∀ i : Nat, i < 4 → (256 : Int) ^ i ≤ 16777216 := by decide
  have := key i (by omega)
  exact ⟨a, by omega⟩
theorem nm_three (bs : List Int) : nm bs 3 = at0 bs 0 * 65536 + at0 bs 1 * 256 + at0 bs 2 := by
  simp only [nm]
  omega

/-- What begin tells: the first number, and the rest. -/
theorem begin_short (bs : List Int) (w : World) (h : bs.length < 3) :
    Calls Try.prog 30 #[.string (str bs)] w fun e w' => e = .returned (.tuple #[.int .i64 0, .string { data := #[] }, .iface 52 (.int .i64 2)]) ∧ w' = w := by
  have hsz : ∀ W, (Builtin.len_ #[9] 3 #[.string (str bs)]).run Try.prog W = .ok (.int .i64 (bs.length : Int)) W := fun W => by rw [run_len_string W 9 3 (str bs) Try.underlying9, str_size]; rfl
  obtain ⟨Z, hZ⟩ : ∃ Z, bs.length = Z := ⟨_, rfl⟩
  rw [hZ] at hsz h
  obtain ⟨s, hs⟩ : ∃ s, str bs = s := ⟨_, rfl⟩
  rw [hs] at hsz ⊢
  have hd : decide ((Z : Int) < 3) = true := by simp; omega
  clear hs hZ
  go_enter Try.func30, Try.ntmps30
  go_wp2
  go_ret3
  exact ⟨rfl, rfl⟩

/-- .. by the number. -/
def Beg (bs : List Int) (w : World) (e : Ending) (w' : World) : Prop :=
  (∃ n, w' = w.drewN n) ∧ ((nm bs 3 < 65536 ∧ e = .returned (.tuple #[.int .i64 0, .string { data := #[] }, .iface 52 (.int .i64 2)])) ∨ (65536 ≤ nm bs 3 ∧ e = .returned (.tuple #[.int .i64 (nm bs 3), .string (str (bs.drop 3)), .nilIface])))

set_option maxRecDepth 100000 in
set_option maxHeartbeats 4000000 in
theorem begin_at (bs : List Int) (w : World) (hb : Hid (Byts bs)) (h : 3 ≤ bs.length) (h9 : bs.length ≤ 9223372036854775807) :
    Calls Try.prog 30 #[.string (str bs)] w fun e w' => Beg bs w e w' := by
  have hsz : ∀ W, (Builtin.len_ #[9] 3 #[.string (str bs)]).run Try.prog W = .ok (.int .i64 (bs.length : Int)) W := fun W => by rw [run_len_string W 9 3 (str bs) Try.underlying9, str_size]; rfl
  have hct : ∀ W, (Instr.slice 9 (.string (str bs)) (some (.int .i64 3)) none none).run Try.prog W = .ok (.string (str (bs.drop 3))) W := fun W => run_cut (l := bs) (k := 3) h W
  have HIX : Hid (∀ i : Nat, i < 3 → ∀ W, (Instr.index 9 (.string (str bs)) (.int .i64 i)).run Try.prog W = .ok (.int .u8 (at0 bs i)) W) := hide (fun i hi W => run_byte (unhide hb) (by omega) W)
  have HBT : Hid (∀ i, i < 3 → 0 ≤ at0 bs i ∧ at0 bs i ≤ 255) := hide (fun i hi => by
    have e : at0 bs i = bs[i] := by simp [at0, show i < bs.length by omega]
    have := unhide hb bs[i] (List.getElem_mem _)
    omega)
  have HNM : Hid (∀ i, i ≤ 3 → 0 ≤ nm bs i ∧ nm bs i < 16777216) := hide (fun i hi => nm_small (unhide hb) hi h)
  have HP0 : Hid (∀ e w' n, nm bs 3 < 65536 → e = Ending.returned (.tuple #[.int .i64 0, .string { data := #[] }, .iface 52 (.int .i64 2)]) → w' = w.drewN n → Beg bs w e w') := hide (fun e w' n h1 h2 h3 => ⟨⟨n, h3⟩, Or.inl ⟨h1, h2⟩⟩)
  have HP1 : Hid (∀ e w' n, 65536 ≤ nm bs 3 → e = Ending.returned (.tuple #[.int .i64 (nm bs 3), .string (str (bs.drop 3)), .nilIface]) → w' = w.drewN n → Beg bs w e w') := hide (fun e w' n h1 h2 h3 => ⟨⟨n, h3⟩, Or.inr ⟨h1, h2⟩⟩)
  obtain ⟨Z, hZ⟩ : ∃ Z, bs.length = Z := ⟨_, rfl⟩
  rw [hZ] at hsz h h9
  obtain ⟨s, hs⟩ : ∃ s, str bs = s := ⟨_, rfl⟩
  rw [hs] at hsz hct HIX ⊢
  obtain ⟨s3, hs3⟩ : ∃ s3, str (bs.drop 3) = s3 := ⟨_, rfl⟩
  rw [hs3] at hct HP1
  have hd : decide ((Z : Int) < 3) = false := by simp; omega
  clear hs hZ hs3 hb
  go_enter Try.func30, Try.ntmps30
  go_wp2
  go_loopw [5, 11] (fun n i wr => ∃ (k : Nat) (X : Int), k ≤ 3 ∧ i = .int .i64 k ∧ n = .int .i64 X ∧ Hid (nm bs k = X) ∧ w = wr) (fun _ i _ => 3 - (intOf i).toNat)
  case atStart => exact ⟨0, 0, Nat.zero_le _, rfl, rfl, hide rfl, rfl⟩
  case round =>
    obtain ⟨k, X, hk, rfl, rfl, HX, rfl⟩ := hrel
    obtain ⟨x0, x9⟩ := unhide HNM k hk
    rw [unhide HX] at x0 x9
    by_cases hlt : k < 3
    · have hix := unhide HIX k hlt
      obtain ⟨c0, c9⟩ := unhide HBT k hlt
      have h2 := unhide HNM (k + 1) hlt
      have HX2 : Hid (nm bs (k + 1) = X * 256 + at0 bs k) := hide (by rw [nm, unhide HX])
      rw [unhide HX2] at h2
      obtain ⟨c, hc⟩ : ∃ c, at0 bs k = c := ⟨_, rfl⟩
      rw [hc] at hix c0 c9 HX2 h2
      have n1 : IntKind.i64.wrap (X * 256 + c) = X * 256 + c := IntWalk.i64_in _ (by omega)
      have n2 : IntKind.i64.wrap (X * 256) = X * 256 := IntWalk.i64_in _ (by omega)
      clear hc HX
      go_wp2
      go_roundw
      case rel => exact ⟨k + 1, X * 256 + c, by omega, by go_num, by first | rfl | go_num, HX2, by first | trivial | rfl⟩
      case measure => simp [intOf]; omega
    · obtain rfl : k = 3 := by omega
      by_cases hx : X < 65536
      · have hdx : decide (X < 65536) = true := by simpa using hx
        go_wp2
        go_ret3
        exact unhide HP0 _ _ 0 (by rw [unhide HX]; exact hx) rfl rfl
      · have hdx : decide (X < 65536) = false := by simpa using hx
        go_wp2
        go_quiet (fail)
        go_wp2
        go_ret3
        exact unhide HP1 _ _ _ (by rw [unhide HX]; omega) (by rw [unhide HX]; rfl) rfl

end Go.Proofs.Ythkibjhhlcfceai.Hrn

/-
  scale.Find: by its contracts.
-/
namespace Go.Proofs.Ythkibjhhlcfceai.Scl
open Go.RowKit
open Go.Proofs.Ythkibjhhlcfceai.Tre Go.Proofs.Ythkibjhhlcfceai.Lap Go.Proofs.Ythkibjhhlcfceai.Mid
set_option linter.unusedVariables false

theorem find_no (a : Option Addr) (cap : Nat) (f : List Int) (p : Int) (w : World) (hl : f.length ≤ 9223372036854775807) (hr : Row w a f) (h : Hid (¬ right f)) :
    Calls Try.prog 31 #[.slice a f.length cap, .int .i64 p] w fun e w' => e = .returned (.tuple #[.int .i64 0, .iface 52 (.int .i64 3)]) ∧ Below w.heap.size w w' := by
  go_enter Try.func31, Try.ntmps31
  go_wp2_with fail
  refine (starts_no a cap f w hl hr h).mono ?_
  rintro e w1 ⟨rfl, hb1⟩
  go_wp2
  go_ret2
  exact ⟨rfl, hb1⟩

theorem find_range (a : Option Addr) (cap : Nat) (f : List Int) (p : Int) (w : World) (hr : Row w a f) (h : Hid (right f)) (hp : p < 0 ∨ (0 ≤ p ∧ 256 ≤ p)) :
    Calls Try.prog 31 #[.slice a f.length cap, .int .i64 p] w fun e w' => e = .returned (.tuple #[.int .i64 0, .iface 52 (.int .i64 1)]) ∧ Below w.heap.size w w' := by
  rcases hp with hp | ⟨hp, hp'⟩
  · have hd1 : decide (p < 0) = true := by simpa using hp
    go_enter Try.func31, Try.ntmps31
    go_wp2_with fail
    refine (starts_ok a cap f w hr h).mono ?_
    rintro e w1 ⟨v, rfl, k1, hb1⟩
    obtain ⟨p3, n3, q3, rfl⟩ := k1.shape
    go_wp2
    go_ret2
    exact ⟨rfl, hb1⟩
  · have hd1 : decide (p < 0) = false := by simp; omega
    have hd2 : decide (256 ≤ p) = true := by simpa using hp'
    go_enter Try.func31, Try.ntmps31
    go_wp2_with fail
    refine (starts_ok a cap f w hr h).mono ?_
    rintro e w1 ⟨v, rfl, k1, hb1⟩
    obtain ⟨p3, n3, q3, rfl⟩ := k1.shape
    go_wp2
    go_ret2
    exact ⟨rfl, hb1⟩

/-- The last one so far that starts not behind p, and has a share. -/
def Last (f : List Int) (p : Int) (j s : Nat) : Prop := (∀ i, i < j → pfx f i ≤ p → 0 < at0 f i → i ≤ s) ∧ ((s < j ∧ pfx f s ≤ p ∧ 0 < at0 f s) ∨ (s = 0 ∧ ∀ i, i < j → ¬ (pfx f i ≤ p ∧ 0 < at0 f i)))
theorem last_zero (f : List Int) (p : Int) : Last f p 0 0 := ⟨fun i hi => by omega, Or.inr ⟨rfl, fun i hi => by omega⟩⟩
theorem last_yes {f : List Int} {p : Int} {j s : Nat} (h : Last f p j s) (h1 : pfx f j ≤ p) (h2 : 0 < at0 f j) : Last f p (j + 1) j :=
  ⟨fun i hi _ _ => by omega, Or.inl ⟨by omega, h1, h2⟩⟩
theorem last_no {f : List Int} {p : Int} {j s : Nat} (h : Last f p j s) (h1 : ¬ (pfx f j ≤ p ∧ 0 < at0 f j)) : Last f p (j + 1) s := by
  refine ⟨fun i hi a b => ?_, ?_⟩
  · by_cases e : i = j
    · subst e; exact absurd ⟨a, b⟩ h1
    · exact h.1 i (by omega) a b
  · rcases h.2 with ⟨a, b, c⟩ | ⟨a, b⟩
    · exact Or.inl ⟨by omega, b, c⟩
    · refine Or.inr ⟨a, fun i hi => ?_⟩
      by_cases e : i = j
      · subst e; exact h1
      · exact b i (by omega)
theorem last_is {f : List Int} {p : Int} {s k : Nat} (hf : right f) (h : Last f p f.length s) (hk : IsAt f p k) : s = k := by
  obtain ⟨k1, k2, k3⟩ := hk
  have hkp : 0 < at0 f k := by omega
  have hle := h.1 k k1 k2 hkp
  rcases h.2 with ⟨a, b, c⟩ | ⟨a, b⟩
  · rcases Nat.lt_or_ge k s with e | e
    · have h1 := pfx_mono hf.2.2.1 (i := k + 1) (j := s) (by omega) (by omega)
      rw [pfx] at h1
      omega
    · omega
  · exact absurd ⟨k2, hkp⟩ (b k k1)

set_option maxHeartbeats 2000000 in
theorem find_ok (a : Option Addr) (cap : Nat) (f : List Int) (p : Int) (k : Nat) (w : World) (hr : Row w a f) (h : Hid (right f)) (hp0 : 0 ≤ p) (hp : p ≤ 255) (hk : Hid (IsAt f p k)) :
    Calls Try.prog 31 #[.slice a f.length cap, .int .i64 p] w fun e w' => e = .returned (.tuple #[.int .i64 k, .nilIface]) ∧ Below w.heap.size w w' := by
  obtain ⟨h1, h40, h0, ht⟩ := unhide h
  have hck := starts_ok a cap f w hr h
  have HI : Hid (∀ s, Last f p f.length s → s = k) := hide (fun s hs => last_is (unhide h) hs (unhide hk))
  have hd1 : decide (p < 0) = false := by simp; omega
  have hd2 : decide (256 ≤ p) = false := by simp; omega
  obtain ⟨N, hN⟩ : ∃ N, f.length = N := ⟨_, rfl⟩
  have HN := hide hN
  rw [hN] at hck h1 h40 HI ⊢
  clear hN h0 ht h hk
  go_enter Try.func31, Try.ntmps31
  go_wp2_with fail
  refine hck.mono ?_
  clear hck
  rintro e w1 ⟨v, rfl, k1, hb1⟩
  obtain ⟨g, cc, rfl, hg0, hg1, hcc, hc9⟩ := k1.one (by rw [upto_length]; exact h1)
  rw [upto_length] at k1 ⊢
  have hr1 := hr.below hb1
  obtain ⟨b, off, rfl, hb, hc⟩ := cell_at hr1 (by rw [unhide HN]; exact h1)
  have HC := hide hc
  have HC1 := hide (fun j (hj : j < N) => k1.get (j := j) (by rw [upto_length]; exact hj))
  clear hc hcc hc9
  go_wp2
  go_loopw [8, 28] (fun s i wr => ∃ (j S : Nat), j ≤ N ∧ i = .int .i64 j ∧ s = .int .i64 S ∧ Hid (Last f p j S) ∧ w1 = wr) (fun _ i _ => N - (intOf i).toNat)
  case atStart => exact ⟨0, 0, Nat.zero_le _, rfl, rfl, hide (last_zero f p), rfl⟩
  case round =>
    obtain ⟨j, S, hj, rfl, rfl, HS, rfl⟩ := hrel
    by_cases hlt : j < N
    · have hlt' : j < f.length := by rw [unhide HN]; exact hlt
      have c1 := unhide HC j hlt'
      have c2 := unhide HC1 j hlt
      rw [upto_at _ hlt] at c2
      have L1 := hide (fun a b => last_yes (unhide HS) a b)
      have L2 := hide (fun a => last_no (unhide HS) a)
      obtain ⟨X, hX⟩ : ∃ X, at0 f j = X := ⟨_, rfl⟩
      obtain ⟨T, hT⟩ : ∃ T, pfx f j = T := ⟨_, rfl⟩
      rw [hX] at c1 L1 L2
      rw [hT] at c2 L1 L2
      clear hX hT hlt'
      by_cases hx1 : T ≤ p
      · have d1 : decide (T ≤ p) = true := by simpa using hx1
        by_cases hx2 : 0 < X
        · have d2 : decide (0 < X) = true := by simpa using hx2
          have L3 := hide (unhide L1 hx1 hx2)
          clear L1 L2
          go_wp2
          go_roundw
          case rel => exact ⟨j + 1, j, by omega, by go_num, rfl, L3, by first | trivial | rfl⟩
          case measure => simp [intOf]; omega
        · have d2 : decide (0 < X) = false := by simpa using hx2
          have L3 := hide (unhide L2 (fun hh => hx2 hh.2))
          clear L1 L2
          go_wp2
          go_roundw
          case rel => exact ⟨j + 1, S, by omega, by go_num, rfl, L3, by first | trivial | rfl⟩
          case measure => simp [intOf]; omega
      · have d1 : decide (T ≤ p) = false := by simpa using hx1
        have L3 := hide (unhide L2 (fun hh => hx1 hh.1))
        clear L1 L2
        go_wp2
        go_roundw
        case rel => exact ⟨j + 1, S, by omega, by go_num, rfl, L3, by first | trivial | rfl⟩
        case measure => simp [intOf]; omega
    · obtain rfl : j = N := by omega
      obtain rfl := unhide HI S (unhide HS)
      go_wp2
      go_ret2
      exact ⟨rfl, hb1⟩

end Go.Proofs.Ythkibjhhlcfceai.Scl
