/-
  tree.join: of halves and differences the two of each: by its contract.
-/
import Derived.Test.YtjnmogmagngenaeTreeHalve
import Derived.Test.YtjnmogmagngenaeBeyond
namespace Go.Proofs.Ytjnmogmagngenae.Tre
open Go.RowKit Go.Shelf
set_option linter.unusedVariables false
attribute [local go_sem] Oper.semAt_some

/-- What the i-th of both halves give. -/
def jOne (l : List Int) (i : Nat) : Int := at0 l i + (at0 l (l.length / 2 + i) + 1) / 2
def jTwo (l : List Int) (i : Nat) : Int := at0 l i + (at0 l (l.length / 2 + i) + 1) / 2 - at0 l (l.length / 2 + i)
def jAll (l : List Int) (pre : List Nat) : List Int := pre.flatMap fun i => [jOne l i, jTwo l i]
theorem jAll_snoc (l : List Int) (pre : List Nat) (i : Nat) : jAll l (pre ++ [i]) = jAll l pre ++ [jOne l i, jTwo l i] := by simp [jAll]
theorem jAll_length (l : List Int) (pre : List Nat) : (jAll l pre).length = 2 * pre.length := by
  induction pre with
  | nil => rfl
  | cons x r ih =>
    have : (jAll l (x :: r)).length = 2 + (jAll l r).length := by simp [jAll]; omega
    rw [this, ih, List.length_cons]; omega
/-- What one level back makes of a list. -/
def jn (l : List Int) : List Int := joins (l.take (l.length / 2)) (l.drop (l.length / 2))
theorem at0_take {l : List Int} {n i : Nat} (h : i < n) : at0 (l.take n) i = at0 l i := by simp [at0, h]
theorem at0_drop (l : List Int) (n i : Nat) : at0 (l.drop n) i = at0 l (n + i) := by simp [at0]
theorem jAll_range (l : List Int) : jAll l (List.range (l.length / 2)) = jn l := by
  unfold jn joins
  have e : (l.take (l.length / 2)).length = l.length / 2 := by rw [List.length_take]; omega
  rw [e]
  show flat (jOne l) (jTwo l) (l.length / 2) = _
  refine flat_congr fun i hi => ?_
  unfold oneAt twoAt jOne jTwo
  rw [at0_take hi, at0_drop]
  exact ⟨rfl, rfl⟩

def JoinI (w : World) (l : List Int) (lv : Value) (pre : List Nat) (W : World) : Prop :=
  (∃ v, Boxed W w.heap.size 27 (.slice none 0 0) ∧ Boxed W (w.heap.size + 1) 23 .nilIface ∧ Boxed W (w.heap.size + 1 + 1) 27 v ∧ Boxed W (w.heap.size + 1 + 1 + 1) 27 lv ∧ Has W w.heap.size v (jAll l pre)) ∧ Below w.heap.size w W
theorem joinI_own (w : World) (l : List Int) (lv : Value) (D : Nat) (hD : w.heap.size ≤ D) : OwnFrom D (JoinI w l lv) := by
  rintro s X Y row ⟨⟨v, b1, b2, b3, b4, h1⟩, hB⟩ hg hrow
  have hr := fun r e => (hrow r e).2
  exact ⟨⟨v, boxed_keeps b1 hg hr, boxed_keeps b2 hg hr, boxed_keeps b3 hg hr, boxed_keeps b4 hg hr, has_keeps h1 hg hr⟩, hB.grown hg hB.size (fun k e => by have := (hrow k e).1; omega)⟩

def JoinPost (l : List Int) (n₀ : Nat) (e : Ending) (w' : World) : Prop :=
  ((jn l).any (out 4000) = true ∧ e = .returned (.tuple #[.slice none 0 0, .iface 45 (.int .i64 1)])) ∨ ((jn l).any (out 4000) = false ∧ ∃ v, e = .returned (.tuple #[v, .nilIface]) ∧ Has w' n₀ v (jn l))

theorem drew_keeps (W : World) : KeepsOthers W W.drew := KeepsOthers.drew W

set_option maxRecDepth 100000 in
set_option maxHeartbeats 4000000 in
theorem join (a : Option Addr) (cap : Nat) (l : List Int) (w : World) (hl : l.length ≤ 1000) (he : Hid (l.length = 2 * (l.length / 2))) (hi : In 4000 l) (hr : Sl w.heap.size w a cap l) :
    Calls Try.prog 41 #[.slice a l.length cap] w fun e w' => JoinPost l w.heap.size e w' ∧ Below w.heap.size w w' := by
  refine (callsIn_wide (n := 5)).1 ?_
  refine callsIn_of_wp_marks Try.func41 rfl trivial ?_ rfl
  simp only [Try.ntmps41, List.size_toArray, List.length_cons, List.length_nil, Nat.reduceAdd, Nat.reduceSub, Array.replicate_succ, Array.replicate_zero, List.push_toArray, List.append_toArray, List.nil_append, List.cons_append]
  gi_wp2_with (refine ⟨trivial, ?_⟩; gi_at_call 63; refine (facing_in _ _ _ _ _).mono ?_; rintro e w' ⟨rfl, rfl⟩)
  have hn5 : w.heap.size + 1 + 1 + 1 < ((((w.alloc (.cells #[.slice none 0 0] 27)).alloc (.cells #[.nilIface] 23)).alloc (.cells #[.slice none 0 0] 27)).alloc (.cells #[.slice a l.length cap] 27)).heap.size := by simp
  have b1 := ((((Boxed.new w 27 (.slice none 0 0)).alloc (.cells #[.nilIface] 23)).alloc (.cells #[.slice none 0 0] 27)).alloc (.cells #[.slice a l.length cap] 27))
  have b2 := (((Boxed.new (w.alloc (.cells #[.slice none 0 0] 27)) 23 .nilIface).alloc (.cells #[.slice none 0 0] 27)).alloc (.cells #[.slice a l.length cap] 27))
  have b3 := ((Boxed.new ((w.alloc (.cells #[.slice none 0 0] 27)).alloc (.cells #[.nilIface] 23)) 27 (.slice none 0 0)).alloc (.cells #[.slice a l.length cap] 27))
  have b4 := (Boxed.new (((w.alloc (.cells #[.slice none 0 0] 27)).alloc (.cells #[.nilIface] 23)).alloc (.cells #[.slice none 0 0] 27)) 27 (.slice a l.length cap))
  have hB0 : Below w.heap.size w ((((w.alloc (.cells #[.slice none 0 0] 27)).alloc (.cells #[.nilIface] 23)).alloc (.cells #[.slice none 0 0] 27)).alloc (.cells #[.slice a l.length cap] 27)) :=
    ((((Below.refl _ w).alloc (Nat.le_refl _) _).alloc (by simp) _).alloc (by simp; omega) _).alloc (by simp; omega) _
  simp only [World.size_alloc] at b2 b3 b4
  obtain ⟨W0, hW0⟩ : ∃ W0, ((((w.alloc (.cells #[.slice none 0 0] 27)).alloc (.cells #[.nilIface] 23)).alloc (.cells #[.slice none 0 0] 27)).alloc (.cells #[.slice a l.length cap] 27)) = W0 := ⟨_, rfl⟩
  rw [hW0] at b1 b2 b3 b4 hB0 hn5 ⊢
  clear hW0
  have hsz := hB0.size
  refine wpIn_rangeFunc_ownG rfl (by omega) (gf := 76) (lb := #[.pointer (some ⟨w.heap.size + 1 + 1 + 1, 0, none⟩)]) rfl trivial (enters_of Try.func76 (by kernel_rfl) rfl)
    (facing_stops _ (by omega) (w.heap.size + 1 + 1 + 1) w.heap.size a cap l hl (unhide he) W0 hn5 hsz b4.cell (hr.below hB0)) Kp.trans (kp_b hsz hn5) (Below.refl _ _) (fun _ => rfl)
    (JoinI w l (.slice a l.length cap)) (fun _ _ _ => False) (joinI_own w l _ _ hsz) (fun _ _ _ _ _ hs _ _ => hs)
    ⟨⟨_, b1, b2, b3, b4, Has.nil _ _⟩, hB0⟩
    (fun x => { tmps := #[.slice a l.length cap, undef, .pointer (some ⟨w.heap.size, 0, none⟩), .pointer (some ⟨w.heap.size + 1, 0, none⟩), .pointer (some ⟨w.heap.size + 1 + 1, 0, none⟩), .int .i64 (at0 l x), .int .i64 (at0 l (l.length / 2 + x)), undef, undef, undef,
      .slice a l.length cap, .func (.func 76) #[] #[.pointer (some ⟨w.heap.size + 1 + 1 + 1, 0, none⟩)], .int .i64 (at0 l x), .int .i64 (at0 l (l.length / 2 + x)), undef, undef, undef, undef, undef, undef, undef, undef, undef, undef, undef, undef, undef, undef, undef, undef, undef, undef, undef, undef], defers := [] }) ?assign ?body ?done ?stop
  case assign =>
    intro L x W K hK
    gi_wp2
    exact hK
  case body =>
    rintro L pre x W ⟨⟨v1, c1, c2, c3, c4, h1⟩, hB⟩ hlt
    obtain ⟨x0, x1⟩ := hi.at (by omega) x
    obtain ⟨y0, y1⟩ := hi.at (by omega) (l.length / 2 + x)
    obtain ⟨X, hX⟩ : ∃ X, at0 l x = X := ⟨_, rfl⟩
    obtain ⟨Y, hY⟩ : ∃ Y, at0 l (l.length / 2 + x) = Y := ⟨_, rfl⟩
    rw [hX] at x0 x1 ⊢
    rw [hY] at y0 y1 ⊢
    have HX := hide hX
    have HY := hide hY
    clear hX hY
    have hc3 := c3.cell
    have hpl : (jAll l pre).length + 2 ≤ 1000000 := by rw [jAll_length]; omega
    have HPL := hide hpl
    clear hpl
    have hWs := hB.size
    gi_wp2_with (first
      | (refine ⟨trivial, ?_⟩; gi_at_call 64; refine (CallsIn.inRound L (callsIn_wide.2 (Par.inv_ok X Y W x0 x1 y0 y1))).mono ?_; rintro e w' ⟨rfl, hw'⟩; rw [hw']; clear hw' w')
      | (gi_at_builtin
         refine wpListIn_app _ rfl _ _ rfl w.heap.size v1 (jAll l pre) [X + (Y + 1) / 2, X + (Y + 1) / 2 - Y] _ _ rfl (h1.alloc _) rfl (row_two _ _ _ _) (unhide HPL) (by simp; omega) ?_
         intro u1 w1 k1 g1 at1
         obtain ⟨d1, d2, d3, d4, d5, d6, d7⟩ := stepped c3 h1 hB.size (by omega) k1 g1 at1
         clear h1 c3 hc3
         obtain ⟨p1, n1, q1, rfl⟩ := k1.shape
         have e1 := d1.cell
         have e2 := d1.frozen))
    have es : jAll l (pre ++ [x]) = jAll l pre ++ [X + (Y + 1) / 2, X + (Y + 1) / 2 - Y] := by rw [jAll_snoc, jOne, jTwo, unhide HX, unhide HY]
    have c4' := d6 _ _ _ c4 (by decide) (by omega)
    refine ⟨d4.from _, ⟨d5, c4'.trans c4.symm⟩, ⟨⟨_, d6 _ _ _ c1 (by decide) (by omega), d6 _ _ _ c2 (by decide) (by omega), d2, c4', ?_⟩, hB.trans d5⟩⟩
    rw [es]; exact d3
  case done =>
    rintro D ys W hD rfl ⟨⟨v1, c1, c2, c3, c4, h1⟩, hB⟩ hK
    rw [jAll_range] at h1
    have hmx : Try.prog.follows .mixedOrders = true := by kernel_rfl
    have hjl : (jn l).length ≤ 9223372036854775807 := by rw [jn, joins_length, List.length_take]; omega
    have HJL := hide hjl
    clear hjl
    obtain ⟨n2, hn2⟩ : ∃ n2, n2 = (jn l).length := ⟨_, rfl⟩
    obtain ⟨p2, q2, rfl, r2⟩ := h1.row
    rw [← hn2] at c3
    have HN := hide hn2
    clear hn2
    have hc3 := c3.cell
    have hWs := hB.size
    have hb1 : Below W.heap.size W (W.drew.alloc (.cells #[.int .i64 4000] 3)) := ⟨rfl, rfl, rfl, by simp, fun k hk => Below.heap_alloc W.drew _ k hk⟩
    have hr1 := r2.below hb1
    have hcc : (W.drew.alloc (.cells #[.int .i64 4000] 3)).cell? ⟨W.heap.size, 0, none⟩ = some (.int .i64 4000) := boxed_cell W.drew 4000 3
    have c1' : Boxed (W.drew.alloc (.cells #[.int .i64 4000] 3)) _ _ _ := Boxed.alloc (W := W.drew) c1 (.cells #[.int .i64 4000] 3)
    have c2' : Boxed (W.drew.alloc (.cells #[.int .i64 4000] 3)) _ _ _ := Boxed.alloc (W := W.drew) c2 (.cells #[.int .i64 4000] 3)
    have c3' : Boxed (W.drew.alloc (.cells #[.int .i64 4000] 3)) _ _ _ := Boxed.alloc (W := W.drew) c3 (.cells #[.int .i64 4000] 3)
    have hlt3 := c3.lt
    have hne3 : ¬ (w.heap.size + 1 + 1 = W.heap.size) := by omega
    have hne4 : ¬ (W.heap.size = w.heap.size + 1 + 1) := by omega
    obtain ⟨t, ht⟩ : ∃ t, (jn l).any (out 4000) = t := ⟨_, rfl⟩
    have HT := hide ht
    clear ht
    gi_wp2
    gi_region_with_o (first
      | (refine ⟨trivial, ?_⟩; gi_at_call 56; refine (callsIn_wide.2 (beyond 4000 W.drew)).mono ?_; rintro e w' ⟨rfl, rfl⟩)
      | (refine ⟨trivial, ?_⟩; gi_at_call 37; rw [unhide HN]; refine (callsIn_wide.2 (containsFunc 4000 p2 q2 (jn l) W.heap.size (W.drew.alloc (.cells #[.int .i64 4000] 3)) (by omega) (by omega) (unhide HJL) hr1 hcc)).mono ?_; rw [unhide HT]; rintro e w' ⟨rfl, rfl⟩))
    all_goals
      have v1 : Boxed (W.alloc (.cells #[.int .i64 4000] 3)).drew _ _ _ := c1.alloc (.cells #[.int .i64 4000] 3)
      have v2 : Boxed (W.alloc (.cells #[.int .i64 4000] 3)).drew _ _ _ := c2.alloc (.cells #[.int .i64 4000] 3)
      have v3 : Boxed (W.alloc (.cells #[.int .i64 4000] 3)).drew _ _ _ := c3.alloc (.cells #[.int .i64 4000] 3)
      have hk : KeepsOthers W (W.alloc (.cells #[.int .i64 4000] 3)).drew := (KeepsOthers.alloc _ _).trans (KeepsOthers.drew _)
      have hkV := hk.same D _ hK rfl
      have hBV : Below w.heap.size w (W.alloc (.cells #[.int .i64 4000] 3)).drew := hB.trans (Below.drew ((Below.refl w.heap.size W).alloc hWs _))
      have hHV : Has (W.alloc (.cells #[.int .i64 4000] 3)).drew w.heap.size (.slice p2 n2 q2) (jn l) := by rw [unhide HN]; exact h1.alloc _
      obtain ⟨V, hV⟩ : ∃ V, (W.alloc (.cells #[.int .i64 4000] 3)).drew = V := ⟨_, rfl⟩
      rw [hV] at v1 v2 v3 hkV hBV hHV ⊢
      clear hV hk hb1 hr1 hcc c1' c2' c3' c1 c2 c3 c4 h1 r2 hc3 hB hK
      have hv1 := v1.cell
      have hv2 := v1.frozen
      have hv3 := v3.cell
      cases t
      · have d3 := v2.other (B' := w.heap.size) (by omega) (Value.slice p2 n2 q2)
        have hd3 := d3.cell
        have hd4 := d3.frozen
        gi_wp2
        have dR1 := (v1.set (Value.slice p2 n2 q2)).other (B' := w.heap.size + 1) (by omega) Value.nilIface
        have dR2 := d3.set Value.nilIface
        have hk9 := ((KeepsOthers.setCell V ⟨w.heap.size, 0, none⟩ (Value.slice p2 n2 q2)).trans (KeepsOthers.setCell _ ⟨w.heap.size + 1, 0, none⟩ Value.nilIface)).same D _ hkV rfl
        have kk := has_box (has_box hHV v1 (by decide) (Value.slice p2 n2 q2)) d3 (by decide) Value.nilIface
        have hb9 := hBV.trans (((Below.refl w.heap.size V).setCell (p := ⟨w.heap.size, 0, none⟩) (Nat.le_refl _) (Value.slice p2 n2 q2)).setCell (p := ⟨w.heap.size + 1, 0, none⟩) (by simp) Value.nilIface)
        refine ⟨by simp, .inl ⟨_, _, rfl, run_takeDeferred hk9, ?_⟩⟩
        have hr1 := cell_kept dR1.cell (grownBy_putObj' _ D (.deferred none)) (fun r e => by cases e; exact ⟨_, hk9, rfl⟩)
        have hr2 := cell_kept dR2.cell (grownBy_putObj' _ D (.deferred none)) (fun r e => by cases e; exact ⟨_, hk9, rfl⟩)
        refine ⟨.tuple #[Value.slice p2 n2 q2, .nilIface], ?_, ?_, hb9.trans (belowK_b (w := w) (Nat.le_refl _) _ D _ _ (by omega) hk9 rfl rfl)⟩
        · simp [results, Try.f41, go_sem, hr1, hr2]
        · exact Or.inr ⟨unhide HT, _, rfl, ownsRow_putObj kk _ hk9 rfl⟩
      · have d3 := v2.other (B' := w.heap.size) (by omega) (Value.slice none 0 0)
        have hd3 := d3.cell
        have hd4 := d3.frozen
        gi_wp2
        have dR1 := (v1.set (Value.slice none 0 0)).other (B' := w.heap.size + 1) (by omega) (Value.iface 45 (.int .i64 1))
        have dR2 := d3.set (Value.iface 45 (.int .i64 1))
        have hk9 := ((KeepsOthers.setCell V ⟨w.heap.size, 0, none⟩ (Value.slice none 0 0)).trans (KeepsOthers.setCell _ ⟨w.heap.size + 1, 0, none⟩ (Value.iface 45 (.int .i64 1)))).same D _ hkV rfl
        have hb9 := hBV.trans (((Below.refl w.heap.size V).setCell (p := ⟨w.heap.size, 0, none⟩) (Nat.le_refl _) (Value.slice none 0 0)).setCell (p := ⟨w.heap.size + 1, 0, none⟩) (by simp) (Value.iface 45 (.int .i64 1)))
        refine ⟨by simp, .inl ⟨_, _, rfl, run_takeDeferred hk9, ?_⟩⟩
        have hr1 := cell_kept dR1.cell (grownBy_putObj' _ D (.deferred none)) (fun r e => by cases e; exact ⟨_, hk9, rfl⟩)
        have hr2 := cell_kept dR2.cell (grownBy_putObj' _ D (.deferred none)) (fun r e => by cases e; exact ⟨_, hk9, rfl⟩)
        refine ⟨.tuple #[Value.slice none 0 0, Value.iface 45 (.int .i64 1)], ?_, ?_, hb9.trans (belowK_b (w := w) (Nat.le_refl _) _ D _ _ (by omega) hk9 rfl rfl)⟩
        · simp [results, Try.f41, go_sem, hr1, hr2]
        · exact Or.inl ⟨unhide HT, rfl⟩
  case stop =>
    rintro D c pre W _ _ h _
    exact h.elim

theorem join_no (a : Option Addr) (cap : Nat) (l : List Int) (w : World) (hl : l.length ≤ 1000) (he : Hid (l.length = 2 * (l.length / 2))) (hi : In 4000 l) (hr : Sl w.heap.size w a cap l) (h : Hid ((jn l).any (out 4000) = true)) :
    Calls Try.prog 41 #[.slice a l.length cap] w fun e w' => e = .returned (.tuple #[.slice none 0 0, .iface 45 (.int .i64 1)]) ∧ Below w.heap.size w w' :=
  (join a cap l w hl he hi hr).mono fun e w' ⟨hp, hb⟩ => by
    rcases hp with ⟨_, he⟩ | ⟨hn, _⟩
    · exact ⟨he, hb⟩
    · have hh := unhide h; rw [hn] at hh; cases hh
theorem join_ok (a : Option Addr) (cap : Nat) (l : List Int) (w : World) (hl : l.length ≤ 1000) (he : Hid (l.length = 2 * (l.length / 2))) (hi : In 4000 l) (hr : Sl w.heap.size w a cap l) (h : Hid ((jn l).any (out 4000) = false)) :
    Calls Try.prog 41 #[.slice a l.length cap] w fun e w' => ∃ v, e = .returned (.tuple #[v, .nilIface]) ∧ Has w' w.heap.size v (jn l) ∧ Below w.heap.size w w' :=
  (join a cap l w hl he hi hr).mono fun e w' ⟨hp, hb⟩ => by
    rcases hp with ⟨hn, _⟩ | ⟨_, v, he, hv⟩
    · have hh := unhide h; rw [hn] at hh; cases hh
    · exact ⟨v, he, hv, hb⟩

end Go.Proofs.Ytjnmogmagngenae.Tre
