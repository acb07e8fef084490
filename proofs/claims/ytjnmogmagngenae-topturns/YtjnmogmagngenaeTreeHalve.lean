/-
  tree.halve: of each two neighbours the sum's half and the difference: by its contract.
-/
import Derived.Test.YtjnmogmagngenaeTreeFace
import Derived.Test.YtjnmogmagngenaePairTwo
namespace Go.Proofs.Ytjnmogmagngenae.Tre
open Go.RowKit Go.Shelf
set_option linter.unusedVariables false
attribute [local go_sem] Oper.semAt_some

/-- Two slices do not lie in one row. -/
def Apart (u v : Value) : Prop := u.ownBlock = none ∨ u.ownBlock ≠ v.ownBlock
theorem Apart.symm {u v : Value} (h : Apart u v) : Apart v u := by
  unfold Apart at *
  rcases h with h | h
  · by_cases hv : v.ownBlock = none
    · exact Or.inl hv
    · exact Or.inr (by rw [h]; exact hv)
  · exact Or.inr (Ne.symm h)

/-- 'x = append(x, ..)', x in a box: all that a walk owes behind it. -/
theorem stepped {W w1 : World} {n₀ B : Nat} {v v' : Value} {l l' : List Int} {tmp : Obj} (hv : Boxed W B 27 v) (h : Has W n₀ v l) (hn : n₀ ≤ W.heap.size) (hB : n₀ ≤ B)
    (h' : Has w1 n₀ v' l') (hg : (W.alloc tmp).grownBy w1 v.ownBlock) (hat : v'.ownBlock = v.ownBlock ∨ v'.ownBlock = some (W.alloc tmp).heap.size) :
    Boxed w1 B 27 v ∧ Boxed (w1.setCell ⟨B, 0, none⟩ v') B 27 v' ∧ Has (w1.setCell ⟨B, 0, none⟩ v') n₀ v' l' ∧ KeepsOthers W (w1.setCell ⟨B, 0, none⟩ v') ∧ Below n₀ W (w1.setCell ⟨B, 0, none⟩ v') ∧
      (∀ C t u, Boxed W C t u → t ≠ 3 → C ≠ B → Boxed (w1.setCell ⟨B, 0, none⟩ v') C t u) ∧
      (∀ u m, Has W n₀ u m → Apart u v → Has (w1.setCell ⟨B, 0, none⟩ v') n₀ u m ∧ Apart u v') := by
  obtain ⟨h1, h2, h3, h4, h5⟩ := hv.appended (by decide) h hn hB h' hg
  refine ⟨h1, h2, h3, h4, h5, fun C t u hC ht hne => ?_, fun u m hu ha => ⟨?_, ?_⟩⟩
  · exact ((hC.alloc tmp).kept hg (hC.not_row ht h)).other hne v'
  · have hu1 : Has w1 n₀ u m := (hu.alloc tmp).kept hg ha
    exact hu1.kept (grownBy_setCell' w1 B v') (Or.inr (h1.not_row (by decide) hu1).symm)
  · rcases hat with e | e
    · unfold Apart; rw [e]; exact ha
    · cases hb : u.ownBlock with
      | none => exact Or.inl hb
      | some k =>
        refine Or.inr ?_
        rw [e, hb]
        have := (hu.lt k hb).2
        intro hh
        cases hh
        simp at this
        omega

theorem kp_b {w : World} {n₀ Bs : Nat} (hn : n₀ ≤ w.heap.size) (hs : Bs < w.heap.size) : ∀ (W : World) (l : Nat) (o o' : Obj), w.heap.size ≤ l → W.heap[l]? = some o → o.isCells = false → o.isWalk = false → Kp n₀ Bs W (W.putObj l o') :=
  fun W l o o' hl _ _ _ => ⟨⟨rfl, rfl, rfl, by simp, fun k hk => World.putObj_heap_other (by omega)⟩, World.putObj_heap_other (by omega)⟩

theorem boxed_keeps {X Y : World} {row : Option Nat} {B : Nat} {t : TypeId} {v : Value} (h : Boxed X B t v) (hg : X.grownBy Y row) (hrow : ∀ r, row = some r → ∃ o : Obj, X.heap[r]? = some o ∧ o.isCells = false) : Boxed Y B t v := by
  refine h.kept hg fun e' => ?_
  obtain ⟨o, ho, hc⟩ := hrow B e'.symm
  rw [show X.heap[B]? = _ from h] at ho; cases ho; cases hc
theorem has_keeps {X Y : World} {row : Option Nat} {n₀ : Nat} {v : Value} {l : List Int} (h : Has X n₀ v l) (hg : X.grownBy Y row) (hrow : ∀ r, row = some r → ∃ o : Obj, X.heap[r]? = some o ∧ o.isCells = false) : Has Y n₀ v l := by
  refine h.kept hg ?_
  rcases h.2 with ⟨rfl, _⟩ | ⟨g, cap, cur, rfl, _, hgb, _⟩
  · exact .inl rfl
  · refine .inr fun e' => ?_
    obtain ⟨o, ho, hc⟩ := hrow g (by simpa [Value.ownBlock] using e'.symm)
    rw [hgb] at ho; cases ho; cases hc

theorem has_others {W w1 : World} {n₀ : Nat} {v : Value} {l : List Int} (h : Has W n₀ v l) (hg : W.grownBy w1 v.ownBlock) : KeepsOthers W w1 := by
  refine KeepsOthers.of_grownBy hg fun j o ej hj => ?_
  rcases h.2 with ⟨rfl, _⟩ | ⟨g, cap, cur, rfl, _, hgb, _⟩
  · simp [Value.ownBlock] at ej
  · obtain rfl : g = j := by simpa [Value.ownBlock] using ej
    rw [hgb] at hj; cases hj; rfl
theorem has_box {W : World} {n₀ B : Nat} {t : TypeId} {v u : Value} {l : List Int} (h : Has W n₀ v l) (hb : Boxed W B t u) (ht : t ≠ 3) (u' : Value) : Has (W.setCell ⟨B, 0, none⟩ u') n₀ v l :=
  h.kept (grownBy_setCell' W B u') (Or.inr (hb.not_row ht h).symm)

/-- Between two rounds of halve. -/
def HalveI (w : World) (l : List Int) (lv : Value) (pre : List Nat) (W : World) : Prop :=
  (∃ v1 v2, Boxed W w.heap.size 27 (.slice none 0 0) ∧ Boxed W (w.heap.size + 1) 23 .nilIface ∧ Boxed W (w.heap.size + 1 + 1) 27 v1 ∧ Boxed W (w.heap.size + 1 + 1 + 1) 27 v2 ∧ Boxed W (w.heap.size + 1 + 1 + 1 + 1) 27 lv ∧
    Has W w.heap.size v1 (pre.map (sumAt l)) ∧ Has W w.heap.size v2 (pre.map (difAt l)) ∧ Apart v1 v2) ∧ Below w.heap.size w W

theorem halveI_own (w : World) (l : List Int) (lv : Value) (D : Nat) (hD : w.heap.size ≤ D) : OwnFrom D (HalveI w l lv) := by
  rintro s X Y row ⟨⟨v1, v2, b1, b2, b3, b4, b5, h1, h2, h3⟩, hB⟩ hg hrow
  have hr := fun r e => (hrow r e).2
  exact ⟨⟨v1, v2, boxed_keeps b1 hg hr, boxed_keeps b2 hg hr, boxed_keeps b3 hg hr, boxed_keeps b4 hg hr, boxed_keeps b5 hg hr, has_keeps h1 hg hr, has_keeps h2 hg hr, h3⟩,
    hB.grown hg hB.size (fun k e => by have := (hrow k e).1; omega)⟩

set_option maxRecDepth 100000 in
set_option maxHeartbeats 4000000 in
theorem halve (a : Option Addr) (cap : Nat) (l : List Int) (w : World) (hl : l.length ≤ 1000) (hi : In 2000 l) (hr : Sl w.heap.size w a cap l) :
    Calls Try.prog 40 #[.slice a l.length cap] w fun e w' => ∃ v, e = .returned (.tuple #[v, .nilIface]) ∧ Has w' w.heap.size v (sums l ++ difs l) ∧ Below w.heap.size w w' := by
  refine (callsIn_wide (n := 5)).1 ?_
  refine callsIn_of_wp_marks Try.func40 rfl trivial ?_ rfl
  simp only [Try.ntmps40, List.size_toArray, List.length_cons, List.length_nil, Nat.reduceAdd, Nat.reduceSub, Array.replicate_succ, Array.replicate_zero, List.push_toArray, List.append_toArray, List.nil_append, List.cons_append]
  gi_wp2_with (refine ⟨trivial, ?_⟩; gi_at_call 61; refine (neighbours_in _ _ _ _ _).mono ?_; rintro e w' ⟨rfl, rfl⟩)
  have hn5 : w.heap.size + 1 + 1 + 1 + 1 < (((((w.alloc (.cells #[.slice none 0 0] 27)).alloc (.cells #[.nilIface] 23)).alloc (.cells #[.slice none 0 0] 27)).alloc (.cells #[.slice none 0 0] 27)).alloc (.cells #[.slice a l.length cap] 27)).heap.size := by simp
  have b1 := (((((Boxed.new w 27 (.slice none 0 0)).alloc (.cells #[.nilIface] 23)).alloc (.cells #[.slice none 0 0] 27)).alloc (.cells #[.slice none 0 0] 27)).alloc (.cells #[.slice a l.length cap] 27))
  have b2 := ((((Boxed.new (w.alloc (.cells #[.slice none 0 0] 27)) 23 .nilIface).alloc (.cells #[.slice none 0 0] 27)).alloc (.cells #[.slice none 0 0] 27)).alloc (.cells #[.slice a l.length cap] 27))
  have b3 := (((Boxed.new ((w.alloc (.cells #[.slice none 0 0] 27)).alloc (.cells #[.nilIface] 23)) 27 (.slice none 0 0)).alloc (.cells #[.slice none 0 0] 27)).alloc (.cells #[.slice a l.length cap] 27))
  have b4 := ((Boxed.new (((w.alloc (.cells #[.slice none 0 0] 27)).alloc (.cells #[.nilIface] 23)).alloc (.cells #[.slice none 0 0] 27)) 27 (.slice none 0 0)).alloc (.cells #[.slice a l.length cap] 27))
  have b5 := (Boxed.new ((((w.alloc (.cells #[.slice none 0 0] 27)).alloc (.cells #[.nilIface] 23)).alloc (.cells #[.slice none 0 0] 27)).alloc (.cells #[.slice none 0 0] 27)) 27 (.slice a l.length cap))
  have hB0 : Below w.heap.size w (((((w.alloc (.cells #[.slice none 0 0] 27)).alloc (.cells #[.nilIface] 23)).alloc (.cells #[.slice none 0 0] 27)).alloc (.cells #[.slice none 0 0] 27)).alloc (.cells #[.slice a l.length cap] 27)) :=
    (((((Below.refl _ w).alloc (Nat.le_refl _) _).alloc (by simp) _).alloc (by simp; omega) _).alloc (by simp; omega) _).alloc (by simp; omega) _
  simp only [World.size_alloc] at b2 b3 b4 b5
  obtain ⟨W0, hW0⟩ : ∃ W0, (((((w.alloc (.cells #[.slice none 0 0] 27)).alloc (.cells #[.nilIface] 23)).alloc (.cells #[.slice none 0 0] 27)).alloc (.cells #[.slice none 0 0] 27)).alloc (.cells #[.slice a l.length cap] 27)) = W0 := ⟨_, rfl⟩
  rw [hW0] at b1 b2 b3 b4 b5 hB0 hn5 ⊢
  clear hW0
  have hsz := hB0.size
  refine wpIn_rangeFunc_ownG rfl (by omega) (gf := 73) (lb := #[.pointer (some ⟨w.heap.size + 1 + 1 + 1 + 1, 0, none⟩)]) rfl trivial (enters_of Try.func73 (by kernel_rfl) rfl)
    (neighbours_stops _ (by omega) (w.heap.size + 1 + 1 + 1 + 1) w.heap.size a cap l hl W0 hn5 hsz b5.cell (hr.below hB0)) Kp.trans (kp_b hsz hn5) (Below.refl _ _) (fun _ => rfl)
    (HalveI w l (.slice a l.length cap)) (fun _ _ _ => False) (halveI_own w l _ _ hsz) (fun _ _ _ _ _ hs _ _ => hs)
    ⟨⟨_, _, b1, b2, b3, b4, b5, Has.nil _ _, Has.nil _ _, Or.inl rfl⟩, hB0⟩
    (fun x => { tmps := #[.slice a l.length cap, undef, .pointer (some ⟨w.heap.size, 0, none⟩), .pointer (some ⟨w.heap.size + 1, 0, none⟩), .pointer (some ⟨w.heap.size + 1 + 1, 0, none⟩), .pointer (some ⟨w.heap.size + 1 + 1 + 1, 0, none⟩), .int .i64 (at0 l (2 * x)), .int .i64 (at0 l (2 * x + 1)), undef, undef, undef,
      .slice a l.length cap, .func (.func 73) #[] #[.pointer (some ⟨w.heap.size + 1 + 1 + 1 + 1, 0, none⟩)], .int .i64 (at0 l (2 * x)), .int .i64 (at0 l (2 * x + 1)), undef, undef, undef, undef, undef, undef, undef, undef, undef, undef, undef, undef, undef, undef, undef, undef, undef, undef, undef, undef, undef], defers := [] }) ?assign ?body ?done ?stop
  case assign =>
    intro L x W K hK
    gi_wp2
    exact hK
  case body =>
    rintro L pre x W ⟨⟨v1, v2, c1, c2, c3, c4, c5, h1, h2, h3⟩, hB⟩ hlt
    obtain ⟨x0, x1⟩ := hi.at (by omega) (2 * x)
    obtain ⟨y0, y1⟩ := hi.at (by omega) (2 * x + 1)
    obtain ⟨X, hX⟩ : ∃ X, at0 l (2 * x) = X := ⟨_, rfl⟩
    obtain ⟨Y, hY⟩ : ∃ Y, at0 l (2 * x + 1) = Y := ⟨_, rfl⟩
    rw [hX] at x0 x1 ⊢
    rw [hY] at y0 y1 ⊢
    have HX := hide hX
    have HY := hide hY
    clear hX hY
    have hc3 := c3.cell
    have hpl : (pre.map (sumAt l)).length + 1 ≤ 1000000 := by rw [List.length_map]; omega
    have hql : (pre.map (difAt l)).length + 1 ≤ 1000000 := by rw [List.length_map]; omega
    have hWs := hB.size
    gi_wp2_with (first
      | (refine ⟨trivial, ?_⟩; gi_at_call 62; refine (CallsIn.inRound L (callsIn_wide.2 (Par.fwd_ok X Y W x0 x1 y0 y1))).mono ?_; rintro e w' ⟨rfl, hw'⟩; rw [hw']; clear hw' w')
      | (gi_at_builtin
         refine wpListIn_app _ rfl _ _ rfl w.heap.size v1 (pre.map (sumAt l)) [(X + Y) / 2] _ _ rfl (h1.alloc _) rfl (row_one _ _ _) hpl (by simp; omega) ?_
         intro u1 w1 k1 g1 at1
         obtain ⟨d1, d2, d3, d4, d5, d6, d7⟩ := stepped c3 h1 hB.size (by omega) k1 g1 at1
         clear h1 c3 hc3
         obtain ⟨p1, n1, q1, rfl⟩ := k1.shape
         have e1 := d1.cell
         have e2 := d1.frozen
         have c4' := d6 _ _ _ c4 (by decide) (by omega)
         have c4c := c4'.cell
         obtain ⟨h2', h3'⟩ := d7 _ _ h2 h3.symm)
      | (gi_at_builtin
         refine wpListIn_app _ rfl _ _ rfl w.heap.size v2 (pre.map (difAt l)) [X - Y] _ _ rfl (h2'.alloc _) rfl (row_one' (by simp)) hql (Nat.le_trans (Nat.le_trans hB.size d5.size) (by simp)) ?_
         intro u2 w2 k2 g2 at2
         obtain ⟨f1, f2, f3, f4, f5, f6, f7⟩ := stepped c4' h2' (Nat.le_trans hB.size d5.size) (by omega) k2 g2 at2
         clear h2'
         obtain ⟨p2, n2, q2, rfl⟩ := k2.shape
         have e3 := f1.cell
         have e4 := f1.frozen))
    have es : (pre ++ [x]).map (sumAt l) = pre.map (sumAt l) ++ [(X + Y) / 2] := by rw [List.map_append, List.map_singleton, sumAt, unhide HX, unhide HY]
    have ed : (pre ++ [x]).map (difAt l) = pre.map (difAt l) ++ [X - Y] := by rw [List.map_append, List.map_singleton, difAt, unhide HX, unhide HY]
    obtain ⟨m1, m2⟩ := f7 _ _ d3 h3'.symm
    have c5' := f6 _ _ _ (d6 _ _ _ c5 (by decide) (by omega)) (by decide) (by omega)
    refine ⟨(d4.trans f4).from _, ⟨d5.trans f5, c5'.trans c5.symm⟩, ⟨⟨_, _, f6 _ _ _ (d6 _ _ _ c1 (by decide) (by omega)) (by decide) (by omega), f6 _ _ _ (d6 _ _ _ c2 (by decide) (by omega)) (by decide) (by omega), f6 _ _ _ d2 (by decide) (by omega), f2, c5', ?_, ?_, m2⟩, hB.trans (d5.trans f5)⟩⟩
    · rw [es]; exact m1
    · rw [ed]; exact f3
  case done =>
    rintro D ys W hD rfl ⟨⟨v1, v2, c1, c2, c3, c4, c5, h1, h2, h3⟩, hB⟩ hK
    have h1' : Has W w.heap.size v1 (sums l) := h1
    have h2' : Has W w.heap.size v2 (difs l) := h2
    clear h1 h2
    have hsd : (sums l).length + (difs l).length ≤ 1000000 := by rw [sums_length, difs_length]; omega
    have HSD := hide hsd
    clear hsd
    obtain ⟨n2, hn2⟩ : ∃ n2, n2 = (difs l).length := ⟨_, rfl⟩
    obtain ⟨p2, q2, rfl, r2⟩ := h2'.row
    rw [← hn2] at c4
    have HN := hide hn2
    clear hn2
    have hc3 := c3.cell
    have hc4 := c4.cell
    have hWs := hB.size
    gi_wp2_with (
         gi_at_builtin
         refine wpListIn_app _ rfl _ _ rfl w.heap.size v1 (sums l) (difs l) p2 q2 rfl h1' (congrArg (fun n => Value.slice p2 n q2) (unhide HN)) r2 (unhide HSD) (by omega) ?_
         intro u1 w1 k1 g1 at1
         have d1 := c1.kept g1 (c1.not_row (by decide) h1')
         have d2 := c2.kept g1 (c2.not_row (by decide) h1')
         obtain ⟨p1, n1, q1, rfl⟩ := k1.shape
         have hd1 := d1.cell
         have hd2 := d1.frozen
         have d3 := d2.other (B' := w.heap.size) (by omega) (Value.slice p1 n1 q1)
         have hd3 := d3.cell
         have hd4 := d3.frozen)
    have dR1 := (d1.set (Value.slice p1 n1 q1)).other (B' := w.heap.size + 1) (by omega) Value.nilIface
    have dR2 := d3.set Value.nilIface
    have hk1 : KeepsOthers W ((w1.setCell ⟨w.heap.size, 0, none⟩ (Value.slice p1 n1 q1)).setCell ⟨w.heap.size + 1, 0, none⟩ Value.nilIface) := ((has_others h1' g1).trans (KeepsOthers.setCell _ _ _)).trans (KeepsOthers.setCell _ _ _)
    have hk9 := hk1.same D _ hK rfl
    have kk : Has ((w1.setCell ⟨w.heap.size, 0, none⟩ (Value.slice p1 n1 q1)).setCell ⟨w.heap.size + 1, 0, none⟩ Value.nilIface) w.heap.size (Value.slice p1 n1 q1) (sums l ++ difs l) := has_box (has_box k1 d1 (by decide) _) d3 (by decide) _
    have hb9 : Below w.heap.size w ((w1.setCell ⟨w.heap.size, 0, none⟩ (Value.slice p1 n1 q1)).setCell ⟨w.heap.size + 1, 0, none⟩ Value.nilIface) :=
      hB.trans ((((Below.refl w.heap.size W).grown g1 hB.size (fun j e => (h1'.lt j e).1)).setCell (p := ⟨w.heap.size, 0, none⟩) (Nat.le_refl _) _).setCell (p := ⟨w.heap.size + 1, 0, none⟩) (by simp) _)
    refine ⟨by simp, .inl ⟨_, _, rfl, run_takeDeferred hk9, ?_⟩⟩
    have hr1 := cell_kept dR1.cell (grownBy_putObj' _ D (.deferred none)) (fun r e => by cases e; exact ⟨_, hk9, rfl⟩)
    have hr2 := cell_kept dR2.cell (grownBy_putObj' _ D (.deferred none)) (fun r e => by cases e; exact ⟨_, hk9, rfl⟩)
    refine ⟨.tuple #[Value.slice p1 n1 q1, .nilIface], ?_, Value.slice p1 n1 q1, rfl, ownsRow_putObj kk _ hk9 rfl, hb9.trans (belowK_b (w := w) (Nat.le_refl _) _ D _ _ (by omega) hk9 rfl rfl)⟩
    simp [results, Try.f40, go_sem, hr1, hr2]
  case stop =>
    rintro D c pre W _ _ h _
    exact h.elim

end Go.Proofs.Ytjnmogmagngenae.Tre
