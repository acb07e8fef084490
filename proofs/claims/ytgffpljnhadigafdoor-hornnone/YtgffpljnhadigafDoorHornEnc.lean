/-
  horn.Encode: by its contract.
-/
import Derived.Test.YtgffpljnhadigafDoorHornCheck
import Derived.Test.YtgffpljnhadigafDoorHornSays
import Derived.Test.YtgffpljnhadigafDoorBackward
import Derived.Test.YtgffpljnhadigafDoorRevs
import Derived.Test.YtgffpljnhadigafDoorRegionLast
namespace Go.Proofs.YtgffpljnhadigafDoor.Hrn
open Go.RowKit Go.Shelf
open Go.Proofs.YtgffpljnhadigafDoor.Tre Go.Proofs.YtgffpljnhadigafDoor.Scl Go.Proofs.YtgffpljnhadigafDoor.Itr
set_option linter.unusedVariables false
attribute [local go_sem] Oper.semAt_some

theorem encode_no (a : Option Addr) (cap : Nat) (f : List Int) (b : Option Addr) (capb : Nat) (l : List Int) (E : Int) (w : World) (hrf : Row w a f) (hm : f.length ≤ cap) (hm9 : cap ≤ 9223372036854775807) (hrl : Row w b l) (zl : l.length ≤ 9223372036854775807) (hE : Hid (RowF f l E)) (hne : Hid (E ≠ 0)) :
    Calls Tryd.prog 21 #[.slice a f.length cap, .slice b l.length capb] w fun e w' => e = .returned (.tuple #[.string { data := #[] }, .iface 48 (.int .i64 E)]) ∧ Below w.heap.size w w' := by
  have hb0 : Below w.heap.size w (w.alloc (.cells #[.slice a f.length cap] 22)) := (Below.refl _ _).alloc (Nat.le_refl _) _
  have hck := check_no a cap f b capb l E (w.alloc (.cells #[.slice a f.length cap] 22)) (hrf.below hb0) (by omega) (hrl.below hb0) zl hE hne
  obtain ⟨N, hN⟩ : ∃ N, l.length = N := ⟨_, rfl⟩
  obtain ⟨M, hM⟩ : ∃ M, f.length = M := ⟨_, rfl⟩
  rw [hN, hM] at hck
  rw [hM] at hb0
  rw [hN, hM]
  clear hN hM hE hne hm hm9 zl
  go_enter Tryd.func21, Tryd.ntmps21
  go_wp2_with fail
  refine hck.mono ?_
  rintro e w1 ⟨rfl, hb1⟩
  go_wp2
  go_ret2
  have hb2 := Below.chain hb0 hb1
  exact ⟨rfl, hb2.alloc hb2.size _⟩

/-- 'x = append(x, b)', x a slice of bytes in a box: all that a walk owes behind it. -/
theorem steppedY {W w1 : World} {n₀ B : Nat} {v v' : Value} {l l' : List Int} {tmp : Obj} (hv : Boxed W B 50 v) (h : HasY W n₀ v l) (hn : n₀ ≤ W.heap.size) (hB : n₀ ≤ B)
    (h' : HasY w1 n₀ v' l') (hg : (W.alloc tmp).grownBy w1 v.ownBlock) :
    Boxed w1 B 50 v ∧ Boxed (w1.setCell ⟨B, 0, none⟩ v') B 50 v' ∧ HasY (w1.setCell ⟨B, 0, none⟩ v') n₀ v' l' ∧ KeepsOthers W (w1.setCell ⟨B, 0, none⟩ v') ∧ Below n₀ W (w1.setCell ⟨B, 0, none⟩ v') ∧
      (∀ C t u, Boxed W C t u → t ≠ 5 → C ≠ B → Boxed (w1.setCell ⟨B, 0, none⟩ v') C t u) := by
  obtain ⟨h1, h2, h3, h4, h5⟩ := hv.appended (by decide) h hn hB h' hg
  exact ⟨h1, h2, h3, h4, h5, fun C t u hC ht hne => ((hC.alloc tmp).kept hg (hC.not_row ht h)).other hne v'⟩

/-- The boxes of Encode: where the shares start, the bytes, the number, the row. -/
def EncB (n₀ : Nat) (sv lv v : Value) (X : Int) (O : List Int) (W : World) : Prop :=
  Boxed W n₀ 22 sv ∧ Boxed W (n₀ + 1) 50 v ∧ Boxed W (n₀ + 1 + 1) 3 (.int .i64 X) ∧ Boxed W (n₀ + 1 + 1 + 1) 22 lv ∧ HasY W n₀ v O
theorem EncB.keeps {n₀ : Nat} {sv lv v : Value} {X : Int} {O : List Int} {W W' : World} {row : Option Nat} (h : EncB n₀ sv lv v X O W) (hg : W.grownBy W' row) (hrow : ∀ r, row = some r → ∃ o : Obj, W.heap[r]? = some o ∧ o.isCells = false) : EncB n₀ sv lv v X O W' := by
  obtain ⟨b1, b2, b3, b4, h1⟩ := h
  exact ⟨boxed_keeps b1 hg hrow, boxed_keeps b2 hg hrow, boxed_keeps b3 hg hrow, boxed_keeps b4 hg hrow, row_keeps h1 hg hrow⟩
/-- Another number. -/
theorem EncB.number {n₀ : Nat} {sv lv v : Value} {X : Int} {O : List Int} {W : World} (h : EncB n₀ sv lv v X O W) (Y : Int) : EncB n₀ sv lv v Y O (W.setCell ⟨n₀ + 1 + 1, 0, none⟩ (.int .i64 Y)) := by
  obtain ⟨b1, b2, b3, b4, h1⟩ := h
  exact ⟨b1.other (by omega) _, b2.other (by omega) _, b3.set _, b4.other (by omega) _, row_box h1 b3 (by decide) _⟩
/-- A byte more. -/
theorem EncB.byte {n₀ : Nat} {sv lv v v' : Value} {X c : Int} {O : List Int} {W w1 : World} {tmp : Obj} (h : EncB n₀ sv lv v X O W) (hn : n₀ ≤ W.heap.size) (h' : HasY w1 n₀ v' (O ++ [c])) (hg : (W.alloc tmp).grownBy w1 v.ownBlock) :
    Boxed w1 (n₀ + 1) 50 v ∧ Boxed w1 (n₀ + 1 + 1) 3 (.int .i64 X) ∧ EncB n₀ sv lv v' X (O ++ [c]) (w1.setCell ⟨n₀ + 1, 0, none⟩ v') ∧ KeepsOthers W (w1.setCell ⟨n₀ + 1, 0, none⟩ v') ∧ Below n₀ W (w1.setCell ⟨n₀ + 1, 0, none⟩ v') := by
  obtain ⟨b1, b2, b3, b4, h1⟩ := h
  obtain ⟨d1, d2, d3, d4, d5, d6⟩ := steppedY b2 h1 hn (by omega) h' hg
  exact ⟨d1, (b3.alloc tmp).kept hg (b3.not_row (by decide) h1), ⟨d6 _ _ _ b1 (by decide) (by omega), d2, d6 _ _ _ b3 (by decide) (by omega), d6 _ _ _ b4 (by decide) (by omega), d3⟩, d4, d5⟩

/-- Between two rounds of Encode. -/
def EncI (w1 : World) (f l : List Int) (sv lv : Value) (pre : List Nat) (W : World) : Prop :=
  (∃ v X O, EncB w1.heap.size sv lv v X O.reverse W ∧ enc f (pre.reverse.map (cl l)) (65536, []) = (X, O)) ∧ Below w1.heap.size w1 W
theorem encI_own (w1 : World) (f l : List Int) (sv lv : Value) (D : Nat) (hD : w1.heap.size ≤ D) : OwnFrom D (EncI w1 f l sv lv) := by
  rintro s X Y row ⟨⟨v, x, O, h1, h2⟩, hB⟩ hg hrow
  exact ⟨⟨v, x, O, h1.keeps hg (fun r e => (hrow r e).2), h2⟩, hB.grown hg hB.size (fun k e => by have := (hrow k e).1; omega)⟩

/-- The number in its box. -/
def numAt (W : World) (B : Nat) : Nat := match W.cell? ⟨B, 0, none⟩ with
  | some (.int _ x) => x.toNat
  | _ => 0
theorem numAt_is {W : World} {B : Nat} {t : TypeId} {x : Int} (h : Boxed W B t (.int .i64 x)) : numAt W B = x.toNat := by
  unfold numAt
  rw [h.cell]

theorem enc_len (f l : List Int) (z : Int × List Int) : (enc f l z).2.length ≤ l.length + z.2.length := by
  induction l with
  | nil => simp [enc]
  | cons s l ih =>
    simp only [enc, List.length_append, List.length_cons]
    have : (offb (at0 f s.toNat) (enc f l z).1).length ≤ 1 := by unfold offb; split <;> simp
    omega
/-- The low bytes, the lowest first. -/
def low (X : Int) (k : Nat) : List Int := (List.range k).map fun t => X / 256 ^ t % 256
theorem low_succ (X : Int) (k : Nat) : low X (k + 1) = low X k ++ [X / 256 ^ k % 256] := by simp [low, List.range_succ]
theorem low_length (X : Int) (k : Nat) : (low X k).length = k := by simp [low]
theorem low_three {X : Int} (h : Mid X) : (low X 3).reverse = three X := by
  obtain ⟨h1, h2⟩ := h
  have e1 : low X 3 = [X % 256, X / 256 % 256, X / 65536 % 256] := by
    simp [low, List.range_succ]
  rw [e1]
  unfold three
  have : X / 65536 % 256 = X / 65536 := by omega
  rw [this]
  rfl
theorem div_more (X : Int) (k : Nat) : X / 256 ^ k / 256 = X / 256 ^ (k + 1) := by
  rw [Int.pow_succ, Int.ediv_ediv_of_nonneg (Int.le_of_lt (pow_pos' (by omega) k))]

set_option maxRecDepth 100000 in
set_option maxHeartbeats 8000000 in
theorem encode_ok (a : Option Addr) (cap : Nat) (f : List Int) (b : Option Addr) (capb : Nat) (l : List Int) (w : World) (hrf : Row w a f) (hm : f.length ≤ cap) (hm9 : cap ≤ 9223372036854775807) (hrl : Row w b l) (hE : Hid (RowF f l 0)) :
    Calls Tryd.prog 21 #[.slice a f.length cap, .slice b l.length capb] w fun e w' => e = .returned (.tuple #[.string (str (code f l)), .nilIface]) ∧ Below w.heap.size w w' := by
  have hb0 : Below w.heap.size w (w.alloc (.cells #[.slice a f.length cap] 22)) := (Below.refl _ _).alloc (Nat.le_refl _) _
  have hck := check_ok a cap f b capb l (w.alloc (.cells #[.slice a f.length cap] 22)) (hrf.below hb0) (hrl.below hb0) hE
  have hc0 := Boxed.new w 22 (.slice a f.length cap)
  obtain ⟨hf0, h60, hl0⟩ := (unhide hE).zero
  have hf := hide hf0
  have hl := hide hl0
  have hf1 := hf0.1
  have hf2 := hf0.2.1
  clear hE hf0 hl0
  refine (callsIn_wide (n := 5)).1 ?_
  refine callsIn_of_wp_marks Tryd.func21 rfl trivial ?_ rfl
  simp only [Tryd.ntmps21, List.size_toArray, List.length_cons, List.length_nil, Nat.reduceAdd, Nat.reduceSub, Array.replicate_succ, Array.replicate_zero, List.push_toArray, List.append_toArray, List.nil_append, List.cons_append]
  gi_wp2_with (first
    | (refine ⟨trivial, ?_⟩; gi_at_call 29; refine (callsIn_wide.2 hck).mono ?_; rintro e w1 ⟨v, rfl, k1, hb1⟩; obtain ⟨g3, q3, rfl, hg3, hg4, -, -⟩ := k1.one (by rw [upto_length]; exact hf1); rw [upto_length] at k1 ⊢)
    | (refine ⟨trivial, ?_⟩; gi_at_call 30; refine (backward_in _ _ _ _ _).mono ?_; rintro e w' ⟨rfl, rfl⟩))
  have b1 := (((Boxed.new w1 22 (.slice (some ⟨g3, 0, none⟩) f.length q3)).alloc (.cells #[.slice none 0 0] 50)).alloc (.cells #[.int .i64 65536] 3)).alloc (.cells #[.slice b l.length capb] 22)
  have b2 := ((Boxed.new (w1.alloc (.cells #[.slice (some ⟨g3, 0, none⟩) f.length q3] 22)) 50 (.slice none 0 0)).alloc (.cells #[.int .i64 65536] 3)).alloc (.cells #[.slice b l.length capb] 22)
  have b3 := (Boxed.new ((w1.alloc (.cells #[.slice (some ⟨g3, 0, none⟩) f.length q3] 22)).alloc (.cells #[.slice none 0 0] 50)) 3 (.int .i64 65536)).alloc (.cells #[.slice b l.length capb] 22)
  have b4 := Boxed.new (((w1.alloc (.cells #[.slice (some ⟨g3, 0, none⟩) f.length q3] 22)).alloc (.cells #[.slice none 0 0] 50)).alloc (.cells #[.int .i64 65536] 3)) 22 (.slice b l.length capb)
  have hB0 : Below w1.heap.size w1 ((((w1.alloc (.cells #[.slice (some ⟨g3, 0, none⟩) f.length q3] 22)).alloc (.cells #[.slice none 0 0] 50)).alloc (.cells #[.int .i64 65536] 3)).alloc (.cells #[.slice b l.length capb] 22)) :=
    ((((Below.refl _ w1).alloc (Nat.le_refl _) _).alloc (by simp) _).alloc (by simp; omega) _).alloc (by simp; omega) _
  have hn5 : w1.heap.size + 1 + 1 + 1 < ((((w1.alloc (.cells #[.slice (some ⟨g3, 0, none⟩) f.length q3] 22)).alloc (.cells #[.slice none 0 0] 50)).alloc (.cells #[.int .i64 65536] 3)).alloc (.cells #[.slice b l.length capb] 22)).heap.size := by simp
  simp only [World.size_alloc] at b2 b3 b4
  obtain ⟨W0, hW0⟩ : ∃ W0, ((((w1.alloc (.cells #[.slice (some ⟨g3, 0, none⟩) f.length q3] 22)).alloc (.cells #[.slice none 0 0] 50)).alloc (.cells #[.int .i64 65536] 3)).alloc (.cells #[.slice b l.length capb] 22)) = W0 := ⟨_, rfl⟩
  rw [hW0] at b1 b2 b3 b4 hB0 hn5 ⊢
  clear hW0 hck
  have hsz := hB0.size
  have hb2 := Below.chain hb0 hb1
  have hrf1 := hrf.below hb2
  have hrl1 := hrl.below hb2
  have hcb : Boxed w1 w.heap.size 22 (.slice a f.length cap) := (hb1.block _ hc0.lt).trans hc0
  have hwlt : w.heap.size < w1.heap.size := hcb.lt
  refine wpIn_rangeFunc_ownG rfl (by omega) (gf := 42) (lb := #[.pointer (some ⟨w1.heap.size + 1 + 1 + 1, 0, none⟩)]) rfl trivial (enters_of Tryd.func42 (by kernel_rfl) rfl)
    (backward_stops _ (by omega) (w1.heap.size + 1 + 1 + 1) w1.heap.size b capb l (by omega) W0 hn5 hsz b4.cell ((rowB_of hrl1).below hB0)) Kp.trans (kp_b hsz hn5) (Below.refl _ _) (fun _ => rfl)
    (EncI w1 f l (.slice (some ⟨g3, 0, none⟩) f.length q3) (.slice b l.length capb)) (fun _ _ _ => False) (encI_own w1 f l _ _ _ hsz) (fun _ _ _ _ _ hs _ _ => hs)
    ⟨⟨_, 65536, [], ⟨b1, b2, b3, b4, HasY.nil _ _⟩, rfl⟩, hB0⟩
    (fun x => { tmps := #[.slice a f.length cap, .slice b l.length capb, .pointer (some ⟨w.heap.size, 0, none⟩), undef, .string { data := #[] }, .nilIface, .pointer (some ⟨w1.heap.size, 0, none⟩), .nilIface, .pointer (some ⟨w1.heap.size + 1, 0, none⟩), .pointer (some ⟨w1.heap.size + 1 + 1, 0, none⟩), undef, .int .i64 (cl l x), undef,
      .tuple #[.slice (some ⟨g3, 0, none⟩) f.length q3, .nilIface], .slice a f.length cap, .slice b l.length capb, .tuple #[.slice (some ⟨g3, 0, none⟩) f.length q3, .nilIface], .slice (some ⟨g3, 0, none⟩) f.length q3, .nilIface, .nilIface, .bool false, undef, .slice b l.length capb,
      .func (.func 42) #[] #[.pointer (some ⟨w1.heap.size + 1 + 1 + 1, 0, none⟩)], .int .i64 x, .int .i64 (cl l x),
      undef, undef, undef, undef, undef, undef, undef, undef, undef, undef, undef, undef, undef, undef, undef, undef, undef, undef, undef, undef, undef, undef, undef, undef, undef, undef, undef, undef, undef, undef, undef, undef, undef, undef, undef, undef, undef, undef, undef, undef, undef, undef, undef, undef], defers := [] }) ?assign ?body ?done ?stop
  case assign =>
    intro L x W K hK
    gi_wp2
    exact hK
  case body =>
    rintro L pre x W ⟨⟨v, X, O, hEB, hen⟩, hB⟩ hlt
    have hpos : 0 < l.length := by omega
    have hsg : Sgn f (cl l x) := unhide hl _ (cl_mem hpos x)
    have HSI : Hid (Signs f (pre.reverse.map (cl l))) := hide (fun s hs => by
      obtain ⟨i, _, rfl⟩ := List.mem_map.1 hs
      exact unhide hl _ (cl_mem hpos i))
    have HX : Hid (Mid X) := hide (by
      have h := enc_in (unhide hf) (unhide HSI) (z := (65536, [])) least
      rw [hen] at h
      exact h)
    have hOl : O.length ≤ 60 := by
      have h := enc_len f (pre.reverse.map (cl l)) (65536, [])
      rw [hen] at h
      simp at h
      omega
    have HEN2 : Hid (enc f ((pre ++ [x]).reverse.map (cl l)) (65536, []) = (put f (cl l x).toNat X, offb (at0 f (cl l x).toNat) X ++ O)) := hide (by
      rw [List.reverse_append]
      simp only [List.reverse_cons, List.reverse_nil, List.nil_append, List.cons_append, List.map_cons, enc, hen])
    obtain ⟨S, hS⟩ : ∃ S : Nat, cl l x = S := ⟨(cl l x).toNat, by have := hsg.1; omega⟩
    rw [hS] at hsg HEN2 ⊢
    obtain ⟨g0, g1, g2⟩ := hsg
    rw [Int.toNat_natCast] at g2 HEN2
    have hSf : S < f.length := by omega
    obtain ⟨s1, s2, s3, s4⟩ := share_in (unhide hf) hSf g2
    obtain ⟨p1, p2, p3, p4⟩ := put_parts (unhide hf) hSf g2 (unhide HX)
    have HPU : Hid (put f S X = ren (at0 f S) X / at0 f S * 256 + ren (at0 f S) X % at0 f S + pfx f S) := hide rfl
    have HRN : Hid (ren (at0 f S) X = if 65536 * at0 f S ≤ X then X / 256 else X) := hide rfl
    have HOF : Hid (offb (at0 f S) X = if 65536 * at0 f S ≤ X then [X % 256] else []) := hide rfl
    have hcbW : W.cell? ⟨w.heap.size, 0, none⟩ = some (.slice a f.length cap) := (hB.cell (p := ⟨w.heap.size, 0, none⟩) hwlt).trans hcb.cell
    obtain ⟨b0, off0, rfl, hb0lt, hcf⟩ := cell_at hrf1 (by omega)
    have c1 : W.cell? ⟨b0, off0 + S, none⟩ = some (.int .i64 (at0 f S)) := (hB.cell (p := ⟨b0, off0 + S, none⟩) hb0lt).trans (hcf S hSf)
    have HC2 : Hid (∀ V, Below w1.heap.size w1 V → V.cell? ⟨g3, S, none⟩ = some (.int .i64 (pfx f S))) := hide (fun V hV => (hV.cell (p := ⟨g3, S, none⟩) hg4).trans (by
      have h1 := k1.get (j := S) (by rw [upto_length]; exact hSf)
      rw [upto_at _ hSf] at h1
      exact h1))
    obtain ⟨F, hF⟩ : ∃ F, at0 f S = F := ⟨_, rfl⟩
    rw [hF] at s1 s2 s4 HEN2 p1 p2 p3 p4 HPU HRN HOF c1
    obtain ⟨P, hP⟩ : ∃ P, pfx f S = P := ⟨_, rfl⟩
    rw [hP] at s3 s4 HPU HC2
    obtain ⟨Rn, hR⟩ : ∃ Rn, ren F X = Rn := ⟨_, rfl⟩
    rw [hR] at p1 p2 p3 p4 HPU HRN
    obtain ⟨M, hM⟩ : ∃ M, f.length = M := ⟨_, rfl⟩
    rw [hM] at hSf hcbW hEB ⊢
    obtain ⟨x1, x2⟩ := unhide HX
    have hWs := hB.size
    have h4 := hEB.2.2.2.1
    obtain ⟨sv, hsv⟩ : ∃ sv, Value.slice b l.length capb = sv := ⟨_, rfl⟩
    rw [hsv] at hEB h4
    have HSV := hide hsv
    clear hF hP hR hM hcf g0 g1 g2 hS HSI hen hpos hlt b1 b2 b3 b4 hB0 hn5 hsz hsv k1
    gi_wp2
    gi_loopw [30] (fun _ wr => ∃ (v' : Value) (X' : Int) (O' : List Int), EncB w1.heap.size (.slice (some ⟨g3, 0, none⟩) M q3) sv v' X' O'.reverse wr ∧ Hid ((X' = X ∧ O' = O) ∨ (65536 * F ≤ X ∧ X' = X / 256 ∧ O' = [X % 256] ++ O)) ∧ KeepsOthers W wr ∧ Below w1.heap.size W wr) (fun _ wr => numAt wr (w1.heap.size + 1 + 1))
    case atStart => exact ⟨v, X, O, hEB, hide (Or.inl ⟨rfl, rfl⟩), KeepsOthers.refl _, Below.refl _ _⟩
    case round =>
      obtain ⟨v', X', O', hE2, HW, hk2, hb2'⟩ := hrel
      clear hEB c1 hcbW
      have hx0 : 0 ≤ X' := by rcases unhide HW with ⟨h, _⟩ | ⟨_, h, _⟩ <;> omega
      have hx9 : X' < 16777216 := by rcases unhide HW with ⟨h, _⟩ | ⟨_, h, _⟩ <;> omega
      have c3 := hE2.2.2.1.cell
      have hn2 : w1.heap.size ≤ wr.heap.size := Nat.le_trans hWs hb2'.size
      by_cases hge : 65536 * F ≤ X'
      · have hst : X' = X ∧ O' = O := by
          rcases unhide HW with h | ⟨_, h, _⟩
          · exact h
          · omega
        have hd : decide (65536 * F ≤ X') = true := by simpa using hge
        obtain ⟨rfl, rfl⟩ := hst
        obtain ⟨C, hC⟩ : ∃ C, X' % 256 = C := ⟨_, rfl⟩
        obtain ⟨Y, hY⟩ : ∃ Y, X' / 256 = Y := ⟨_, rfl⟩
        have HW2 : Hid ((Y = X' ∧ [C] ++ O' = O') ∨ (65536 * F ≤ X' ∧ Y = X' / 256 ∧ [C] ++ O' = [X' % 256] ++ O')) := hide (Or.inr ⟨hge, hY.symm, by rw [hC]⟩)
        have t2 : Int.tdiv X' 256 = Y := by rw [Int.tdiv_eq_ediv_of_nonneg (by omega)]; exact hY
        have t4 : Int.tmod X' 256 = C := by rw [Int.tmod_eq_emod_of_nonneg (by omega)]; exact hC
        have y0 : 0 ≤ Y := by omega
        have y9 : Y ≤ 65535 := by omega
        have yl : Y < X' := by omega
        have cc0 : 0 ≤ C := by omega
        have cc9 : C ≤ 255 := by omega
        have u3 : C % 256 = C := by omega
        have c4 := hE2.2.1.cell
        have hyl : O'.reverse.length + 1 ≤ 1000000 := by rw [List.length_reverse]; omega
        have HYL := hide hyl
        have HM0 := hide (numAt_is hE2.2.2.1)
        clear hC hY HW hyl
        gi_wp2_with (
          gi_at_builtin
          refine wpListIn_appy _ rfl _ _ rfl w1.heap.size v' O'.reverse C _ _ rfl (hE2.2.2.2.2.alloc _) rfl (cell_byte _ _ _) (unhide HYL) (by simp; omega) ?_
          intro u1 w6 k6 g6 at6
          obtain ⟨d1, d0, d2, d3, d4⟩ := EncB.byte hE2 hn2 k6 g6
          obtain ⟨pa, na, ca, rfl⟩ := k6.any
          have f1 := d1.cell
          have f2 := d1.frozen
          have f3 := d0.cell
          have f4 := d0.frozen)
        go_roundw
        case rel => exact ⟨_, Y, [C] ++ O', by simpa using d2.number Y, HW2, (hk2.trans d3).trans (KeepsOthers.setCell _ _ _), (hb2'.trans d4).setCell (p := ⟨w1.heap.size + 1 + 1, 0, none⟩) (by simp; omega) _⟩
        case measure =>
          rw [unhide HM0, numAt_is (d2.number Y).2.2.1]
          omega
      · have hd : decide (65536 * F ≤ X') = false := by simpa using hge
        have HX2 : Hid (X' = Rn ∧ O' = offb F X ++ O) := hide (by
          rcases unhide HW with ⟨h1, h2⟩ | ⟨h0, h1, h2⟩
          · rw [unhide HRN, unhide HOF, if_neg (by omega), if_neg (by omega)]
            exact ⟨h1, h2⟩
          · rw [unhide HRN, unhide HOF, if_pos h0, if_pos h0]
            exact ⟨h1, h2⟩)
        obtain ⟨rfl, e2⟩ := unhide HX2
        have HD2 : Hid (enc f ((pre ++ [x]).reverse.map (cl l)) (65536, []) = (put f S X, O')) := hide (by rw [unhide HEN2, e2])
        obtain ⟨q, hq⟩ : ∃ q, X' / F = q := ⟨_, rfl⟩
        obtain ⟨m, hm⟩ : ∃ m, X' % F = m := ⟨_, rfl⟩
        rw [hq] at p1 p2 HPU
        rw [hm] at p3 p4 HPU
        have t1 : Int.tdiv X' F = q := by rw [Int.tdiv_eq_ediv_of_nonneg (by omega)]; exact hq
        have t2 : Int.tmod X' F = m := by rw [Int.tmod_eq_emod_of_nonneg (by omega)]; exact hm
        have hF0 : (F == 0) = false := by rw [beq_eq_false_iff_ne]; omega
        obtain ⟨Z, hZ⟩ : ∃ Z, q * 256 + m + P = Z := ⟨_, rfl⟩
        have HPZ : Hid (put f S X = Z) := hide (by rw [unhide HPU]; exact hZ)
        rw [unhide HPZ] at HD2
        have w1' : IntKind.i64.wrap (q * 256 + m + P) = Z := by rw [hZ]; exact IntWalk.i64_in _ (by omega)
        have w2' : IntKind.i64.wrap (q * 256 + m) = q * 256 + m := IntWalk.i64_in _ (by omega)
        have w3' : IntKind.i64.wrap (q * 256) = q * 256 := IntWalk.i64_in _ (by omega)
        have c5 := hE2.1.cell
        have c6 := unhide HC2 wr (hB.trans hb2')
        have c7 := hE2.2.2.1.frozen
        have HE3 : Hid (∀ x, EncB w1.heap.size (.slice (some ⟨g3, 0, none⟩) M q3) sv v' Z O'.reverse ((wr.drewN x).setCell ⟨w1.heap.size + 1 + 1, 0, none⟩ (.int .i64 Z))) := hide (fun x => EncB.number (W := wr.drewN x) hE2 Z)
        have HK3 : Hid (∀ x, KeepsOthers W ((wr.drewN x).setCell ⟨w1.heap.size + 1 + 1, 0, none⟩ (.int .i64 Z))) := hide (fun x => (hk2.trans (show KeepsOthers wr (wr.drewN x) from ⟨Nat.le_refl _, fun _ _ h _ => h⟩)).trans (KeepsOthers.setCell _ _ _))
        have HB3 : Hid (∀ x, Below w1.heap.size W ((wr.drewN x).setCell ⟨w1.heap.size + 1 + 1, 0, none⟩ (.int .i64 Z))) := hide (fun x => (hb2'.trans (show Below w1.heap.size wr (wr.drewN x) from ⟨rfl, rfl, rfl, Nat.le_refl _, fun _ _ => rfl⟩)).setCell (p := ⟨w1.heap.size + 1 + 1, 0, none⟩) (by simp; omega) _)
        clear HX2 HW e2 hq hm hZ HRN HOF HPU HEN2 HC2
        gi_wp2
        refine region_last _ rfl (by kernel_rfl) (by kernel_rfl) (by kernel_rfl) ?_
        simp only [calm]
        repeat (gi_big_quiet_step (fail))
        refine wpQuietIn_nil ?_
        intro _ hw'
        obtain ⟨nq, hw''⟩ := hw'
        subst hw''
        gi_wp2
        exact ⟨(unhide HK3 nq).from _, ⟨unhide HB3 nq, (unhide HE3 nq).2.2.2.1.trans h4.symm⟩, ⟨⟨v', Z, O', by rw [unhide HSV]; exact unhide HE3 nq, unhide HD2⟩, hB.trans (unhide HB3 nq)⟩⟩
  case done =>
    rintro D ys W hD rfl ⟨⟨v, X, O, hEB, hen⟩, hB⟩ hK
    rw [dn_all] at hen
    have HX : Hid (Mid X) := hide (by
      have h := enc_in (unhide hf) (unhide hl) (z := (65536, [])) least
      rw [hen] at h
      exact h)
    have hOl : O.length ≤ 60 := by
      have h := enc_len f l (65536, [])
      rw [hen] at h
      simp at h
      omega
    have HCD : Hid ((low X 3).reverse ++ O = code f l) := hide (by rw [low_three (unhide HX)]; unfold code; rw [hen])
    have HBY := hide (code_byts (unhide hf) (unhide hl))
    obtain ⟨cd, hcd⟩ : ∃ cd, code f l = cd := ⟨_, rfl⟩
    rw [hcd] at HCD HBY
    have HCE := hide hcd
    obtain ⟨x1, x2⟩ := unhide HX
    have hWs := hB.size
    have hBw := Below.chain hb2 hB
    obtain ⟨lv, hlv⟩ : ∃ lv, Value.slice b l.length capb = lv := ⟨_, rfl⟩
    obtain ⟨sv, hsv⟩ : ∃ sv, Value.slice (some ⟨g3, 0, none⟩) f.length q3 = sv := ⟨_, rfl⟩
    rw [hlv, hsv] at hEB
    have HX0 : Hid (X = X / 256 ^ 0) := hide (by simp)
    have HO0 : Hid (O.reverse = O.reverse ++ low X 0) := hide (by simp [low])
    clear b1 b2 b3 b4 hn5 hcd hsv hlv hen k1
    gi_wp2
    gi_loopw [55] (fun i wr => ∃ (k : Nat) (v' : Value) (X' : Int) (O' : List Int), k ≤ 3 ∧ i = .int .i64 k ∧ EncB w1.heap.size sv lv v' X' O' wr ∧ Hid (X' = X / 256 ^ k) ∧ Hid (O' = O.reverse ++ low X k) ∧ KeepsOthers W wr ∧ Below w1.heap.size W wr) (fun i _ => 3 - (intOf i).toNat)
    case atStart => exact ⟨0, v, X, O.reverse, Nat.zero_le _, rfl, hEB, HX0, HO0, KeepsOthers.refl _, Below.refl _ _⟩
    case round =>
      obtain ⟨k, v', X', O', hk, rfl, hE2, HX', HO', hk2, hb2'⟩ := hrel
      clear hEB HX0 HO0
      have c3 := hE2.2.2.1.cell
      have hn2 : w1.heap.size ≤ wr.heap.size := Nat.le_trans hWs hb2'.size
      have hpk : (0 : Int) < 256 ^ k := pow_pos' (by omega) k
      have hx0 : 0 ≤ X' := by rw [unhide HX']; exact Int.ediv_nonneg (by omega) (by omega)
      have hx9 : X' < 16777216 := by
        have : X / 256 ^ k ≤ X := Int.ediv_le_self _ (by omega)
        rw [unhide HX']; omega
      have hOk : O'.length = O.length + k := by rw [unhide HO', List.length_append, List.length_reverse, low_length]
      by_cases hlt : k < 3
      · obtain ⟨C, hC⟩ : ∃ C, X' % 256 = C := ⟨_, rfl⟩
        obtain ⟨Y, hY⟩ : ∃ Y, X' / 256 = Y := ⟨_, rfl⟩
        have t2 : Int.tdiv X' 256 = Y := by rw [Int.tdiv_eq_ediv_of_nonneg (by omega)]; exact hY
        have t4 : Int.tmod X' 256 = C := by rw [Int.tmod_eq_emod_of_nonneg (by omega)]; exact hC
        have y0 : 0 ≤ Y := by omega
        have y9 : Y ≤ 65535 := by omega
        have cc0 : 0 ≤ C := by omega
        have cc9 : C ≤ 255 := by omega
        have u3 : C % 256 = C := by omega
        have c4 := hE2.2.1.cell
        have HX2 : Hid (Y = X / 256 ^ (k + 1)) := hide (by rw [← hY, unhide HX', div_more])
        have HO2 : Hid (O' ++ [C] = O.reverse ++ low X (k + 1)) := hide (by rw [low_succ, ← List.append_assoc, ← unhide HO', ← hC, unhide HX'])
        have HYL : Hid (O'.length + 1 ≤ 1000000) := hide (by omega)
        clear hC hY hpk HX' HO' hOk
        gi_wp2_with (
          gi_at_builtin
          refine wpListIn_appy _ rfl _ _ rfl w1.heap.size v' O' C _ _ rfl (hE2.2.2.2.2.alloc _) rfl (cell_byte _ _ _) (unhide HYL) (by simp; omega) ?_
          intro u1 w6 k6 g6 at6
          obtain ⟨d1, d0, d2, d3, d4⟩ := EncB.byte hE2 hn2 k6 g6
          obtain ⟨pa, na, ca, rfl⟩ := k6.any
          have f1 := d1.cell
          have f2 := d1.frozen
          have f3 := d0.cell
          have f4 := d0.frozen)
        go_roundw
        case rel => exact ⟨k + 1, _, Y, O' ++ [C], by omega, by go_num, d2.number Y, HX2, HO2, (hk2.trans d3).trans (KeepsOthers.setCell _ _ _), (hb2'.trans d4).setCell (p := ⟨w1.heap.size + 1 + 1, 0, none⟩) (by simp; omega) _⟩
        case measure => simp [intOf]; omega
      · obtain rfl : k = 3 := by omega
        have HRV : Hid (O'.reverse = cd) := hide (by rw [← unhide HCD, unhide HO', List.reverse_append, List.reverse_reverse])
        obtain ⟨g, c, rfl, hg1, hg2, -, -⟩ := hE2.2.2.2.2.one (by omega)
        have HKL : Hid (cd.length = O'.length) := hide (by rw [← unhide HRV, List.length_reverse])
        have hrv := reverse g O'.length c w1.heap.size O' wr (by omega) hE2.2.2.2.2
        obtain ⟨K, hKK⟩ : ∃ K, O'.length = K := ⟨_, rfl⟩
        rw [unhide HRV] at hrv
        rw [hKK] at hrv HKL hE2
        have b5 := hE2.2.1
        have hrw := hE2.2.2.2.2
        have c4 := b5.cell
        have HCV : Hid (∀ W7, HasY W7 w1.heap.size (.slice (some ⟨g, 0, none⟩) K c) cd → (convert 50 9 (.slice (some ⟨g, 0, none⟩) K c)).run Tryd.prog W7 = .ok (.string (str cd)) W7) := hide (fun W7 h7 => by
          have h := run_str W7 ⟨g, 0, none⟩ c cd (unhide HBY) (fun j hj => by rw [addr_plain, Nat.zero_add]; exact h7.get hj)
          rw [unhide HKL] at h
          exact h)
        have HK7 : Hid (∀ W7, wr.grownBy W7 (some g) → KeepsOthers W W7 ∧ Below w1.heap.size W W7 ∧ Boxed W7 (w1.heap.size + 1) 50 (.slice (some ⟨g, 0, none⟩) K c)) := hide (fun W7 h7 =>
          ⟨hk2.trans (row_others hrw h7), hb2'.trans ((Below.refl w1.heap.size wr).grown h7 hn2 (fun j e => by cases e; exact hg1)), b5.kept h7 (b5.not_row (by decide) hrw)⟩)
        clear HX' HO' hOk hpk hKK
        gi_wp2_with (
          refine ⟨trivial, ?_⟩
          gi_at_call 31
          refine (callsIn_wide.2 hrv).mono ?_
          rintro e w7 ⟨rfl, hy7, hg7⟩
          obtain ⟨k7, l7, b7⟩ := unhide HK7 w7 hg7
          have c7 := b7.cell
          have hcv := unhide HCV w7 hy7)
        have hkD := k7.same D _ hK rfl
        refine ⟨by simp, .inl ⟨_, _, rfl, run_takeDeferred hkD, ?_⟩⟩
        refine ⟨.tuple #[.string (str cd), .nilIface], ?_, by rw [unhide HCE], (hBw.trans (l7.mono (Nat.le_of_lt hwlt))).trans (belowK_b (w := w) (Nat.le_refl _) _ D _ _ (by omega) hkD rfl rfl)⟩
        simp [results, Tryd.f21, go_sem]
  case stop =>
    rintro D c pre W _ _ h _
    exact h.elim

end Go.Proofs.YtgffpljnhadigafDoor.Hrn
