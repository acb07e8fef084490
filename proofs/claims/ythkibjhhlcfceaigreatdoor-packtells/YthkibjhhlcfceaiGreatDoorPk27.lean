/-
  Package pulse: rowsAfter: by its contract.
-/
import Derived.Test.YthkibjhhlcfceaiGreatDoorPk25
import Derived.Test.YthkibjhhlcfceaiGreatDoorPk15
import Derived.Test.YthkibjhhlcfceaiGreatDoorPk26
import Derived.Test.YthkibjhhlcfceaiGreatDoorPk11
namespace Go.Proofs.YthkibjhhlcfceaiGreatDoor.Pls
open Go.RowKit
open Go.Proofs.YthkibjhhlcfceaiGreatDoor.Tre Go.Proofs.YthkibjhhlcfceaiGreatDoor.Lap Go.Proofs.YthkibjhhlcfceaiGreatDoor.Cnt Go.Proofs.YthkibjhhlcfceaiGreatDoor.Mid
set_option linter.unusedVariables false

theorem rowsAfter (b L : Nat) (X : Int) (hb : b ≤ 6) (hL : L ≤ 8) (h0 : -(L : Int) ≤ X) (h1 : X ≤ L) (w : World) :
    Calls Tryz.prog 84 #[.int .i64 X, .int .i64 b, .int .i64 L] w fun e w' => e = .returned (.int .i64 (V (L - X.natAbs) b)) ∧ Below w.heap.size w w' := by
  have hD := hide (dist X w (by omega) (by omega))
  obtain ⟨K, hK⟩ : ∃ K, L - X.natAbs = K := ⟨_, rfl⟩
  obtain ⟨d, hd⟩ : ∃ d, X.natAbs = d := ⟨_, rfl⟩
  have hsub : (L : Int) - (d : Int) = (K : Int) := by omega
  have hK8 : K ≤ 8 := by omega
  rw [hK]
  rw [hd] at hD
  clear hK hd h0 h1
  go_enter Tryz.func84, Tryz.ntmps84
  go_wp2_with fail
  refine (unhide hD).mono ?_
  rintro e w1 ⟨rfl, rfl⟩
  go_wp2_with fail
  refine (of_ok b K hb hK8 w).mono ?_
  rintro e w2 ⟨rfl, hb2⟩
  go_wp2
  go_ret
  exact ⟨rfl, hb2⟩

end Go.Proofs.YthkibjhhlcfceaiGreatDoor.Pls

/-
  Package pulse: Rank, where nothing is wrong: by its contract.
-/
namespace Go.Proofs.YthkibjhhlcfceaiGreatDoor.Pls
open Go.RowKit
open Go.Proofs.YthkibjhhlcfceaiGreatDoor.Tre Go.Proofs.YthkibjhhlcfceaiGreatDoor.Lap Go.Proofs.YthkibjhhlcfceaiGreatDoor.Cnt Go.Proofs.YthkibjhhlcfceaiGreatDoor.Mid
set_option linter.unusedVariables false

set_option maxRecDepth 100000 in
set_option maxHeartbeats 8000000 in
theorem rank_ok (a : Option Addr) (cap : Nat) (l : List Int) (w : World) (hr : Row w a l) (h : Hid (fault l = 0)) :
    Calls Tryz.prog 50 #[.slice a l.length cap] w fun e w' => e = .returned (.tuple #[.int .i64 (rk l (loud l)), .nilIface]) ∧ Below w.heap.size w w' := by
  obtain ⟨h1, h2, h3⟩ := fault_ok (unhide h)
  have hR9 : Hid (rk l (loud l) ≤ 20256) := hide (by have h4 := (rk_in l h1 h3).2; have h5 := (V_in (loud l) l.length (by omega) (by omega)).2; omega)
  have hck := hide (check_ok a cap l w hr h)
  have hLd : Hid (∀ i, loud (l.drop i) ≤ 8) := hide (fun i => by
    have e := loud_append (l.take i) (l.drop i)
    rw [List.take_append_drop] at e
    omega)
  have hst : Hid ((0 : Int) + rk (l.drop 0) (loud (l.drop 0)) = rk l (loud l)) := hide (by rw [List.drop_zero]; omega)
  have hst2 : Hid (loud l = loud (l.drop 0)) := hide (by rw [List.drop_zero])
  obtain ⟨K, hK⟩ : ∃ K, loud l = K := ⟨_, rfl⟩
  obtain ⟨R, hR⟩ : ∃ R, rk l K = R := ⟨_, rfl⟩
  rw [hK] at hck h3 hR9 hst hst2 ⊢
  rw [hR] at hR9 hst ⊢
  clear hK hR h
  go_enter Tryz.func50, Tryz.ntmps50
  go_wp2_with fail
  refine (unhide hck).mono ?_
  rintro e w1 ⟨rfl, hb1⟩
  clear hck
  go_wp2
  go_loopw [4, 6, 20] (fun v4 v6 i wr => ∃ (j L : Nat) (A : Int), j ≤ l.length ∧ i = .int .i64 j ∧ v4 = .int .i64 L ∧ v6 = .int .i64 A ∧ Hid (L = loud (l.drop j)) ∧ Hid (A + rk (l.drop j) (loud (l.drop j)) = R) ∧ L ≤ 8 ∧ 0 ≤ A ∧ A ≤ 20256 ∧ Below w.heap.size w wr) (fun _ _ i _ => l.length - (intOf i).toNat)
  case atStart => exact ⟨0, K, 0, Nat.zero_le _, rfl, rfl, rfl, hst2, hst, h3, by omega, by omega, hb1⟩
  case round =>
    obtain ⟨j, L, A, hj, rfl, rfl, rfl, HL, HA, hL, hA0, hA9, hB⟩ := hrel
    clear hst hst2 hb1
    by_cases hlt : j < l.length
    · obtain ⟨b, off, rfl, hb, hc⟩ := Mid.row_cell hr (by omega)
      have hcj := (hB.cell (p := ⟨b, off + j, none⟩) hb).trans (hc j hlt)
      have HC : Hid (∀ w' : World, Below w.heap.size w w' → w'.cell? ⟨b, off + j, none⟩ = some (.int .i64 (at0 l j))) := hide (fun w' hB' => (hB'.cell (p := ⟨b, off + j, none⟩) hb).trans (hc j hlt))
      clear hc
      have hd := rk_drop hlt
      rw [← unhide HL] at hd
      obtain ⟨d1, d2⟩ := hd
      rw [← unhide HL] at HA
      obtain ⟨L', hL'⟩ : ∃ L', loud (l.drop (j + 1)) = L' := ⟨_, rfl⟩
      obtain ⟨X, hX⟩ : ∃ X, at0 l j = X := ⟨_, rfl⟩
      obtain ⟨m, hm⟩ : ∃ m, l.length - 1 - j = m := ⟨_, rfl⟩
      obtain ⟨S, hS⟩ : ∃ S, (X + (L : Int)).toNat = S := ⟨_, rfl⟩
      have hlast : Hid (∀ B, B = A + ahead m L S → B + rk (l.drop (j + 1)) (loud (l.drop (j + 1))) = R ∧ B ≤ 20256) := hide (by
        rintro B rfl
        have h4 := unhide HA
        rw [d2, hm, hX, hS] at h4
        have h5 := (rk_in (l.drop (j + 1)) (by rw [List.length_drop]; omega) (unhide hLd _)).1
        have h6 := unhide hR9
        omega)
      rw [hX] at d1 hcj HC
      rw [hL'] at d1
      have hXS : X + (L : Int) = (S : Int) := by omega
      have hX0 : -(L : Int) ≤ X := by omega
      have hX1 : X ≤ (L : Int) := by omega
      have hdist := hide (dist X)
      obtain ⟨D, hD⟩ : ∃ D, X.natAbs = D := ⟨_, rfl⟩
      rw [hD] at d1 hdist
      have hLD : (L : Int) - (D : Int) = (L' : Int) := by omega
      have hS2 : S ≤ 2 * L := by omega
      have hm1 : (l.length : Int) - 1 - (j : Int) = (m : Int) := by omega
      have hm5 : m ≤ 5 := by omega
      have hL8 : L' ≤ 8 := by omega
      have HL' : Hid (L' = loud (l.drop (j + 1))) := hide hL'.symm
      clear hL' hX hm hS d2 hD d1 HA HL
      go_wp2
      go_loopw [6, 34] (fun v6 i wr => ∃ (s : Nat) (B : Int), s ≤ S ∧ i = .int .i64 s ∧ v6 = .int .i64 B ∧ Hid (B = A + ahead m L s) ∧ Below w.heap.size w wr) (fun _ i _ => S - (intOf i).toNat)
      case atStart => exact ⟨0, A, Nat.zero_le _, rfl, rfl, hide (by rw [ahead_zero]; omega), hB⟩
      case round =>
        obtain ⟨s, B, hs, rfl, rfl, HB, hB2⟩ := hrel
        clear hB hcj
        have hin := ahead_in (m := m) (L := L) (s := s) (by omega) (by omega) (by omega)
        have hB0 : 0 ≤ B := by rw [unhide HB]; omega
        have hB9 : B ≤ 40512 := by rw [unhide HB]; omega
        clear hin
        by_cases hlt2 : s < S
        · obtain ⟨Y, hY⟩ : ∃ Y, (s : Int) - (L : Int) = Y := ⟨_, rfl⟩
          have hra := hide (rowsAfter m L Y (by omega) hL (by omega) (by omega) wr)
          obtain ⟨r0, r1⟩ := rows_in (m := m) (L := L) (s := s) (by omega) (by omega)
          have HR : Hid (V (L - Y.natAbs) m = rows m L s) := hide (by rw [← hY]; rfl)
          rw [unhide HR] at hra
          have HS : Hid (B + rows m L s = A + ahead m L (s + 1)) := hide (by rw [ahead_succ, unhide HB]; omega)
          obtain ⟨Q, hQ⟩ : ∃ Q, rows m L s = Q := ⟨_, rfl⟩
          rw [hQ] at r0 r1 hra HS
          clear hQ HR HB
          have hsub : IntKind.i64.wrap ((s : Int) - (L : Int)) = Y := by rw [IntWalk.i64_in _ (by omega)]; exact hY
          clear hY
          go_wp2_with fail
          refine (unhide hra).mono ?_
          rintro e w2 ⟨rfl, hb2⟩
          go_wp2
          go_roundw
          case rel => exact ⟨s + 1, B + Q, by omega, by go_num, by go_num, HS, hB2.trans (hb2.mono hB2.size)⟩
          case measure => simp [intOf]; omega
        · obtain rfl : s = S := by omega
          obtain ⟨e1, e2⟩ := unhide hlast B (unhide HB)
          have E1 := hide e1
          clear e1 HB hlast
          have hcj := unhide HC wr hB2
          go_wp2_with fail
          refine (unhide hdist wr (by omega) (by omega)).mono ?_
          rintro e w3 ⟨rfl, rfl⟩
          go_wp2
          go_roundw
          case rel => exact ⟨j + 1, L', B, by omega, by go_num, by go_num, rfl, HL', E1, hL8, hB0, e2, hB2⟩
          case measure => simp [intOf]; omega
    · obtain rfl : j = l.length := by omega
      have hz : Hid (A = R) := hide (by
        have h4 := unhide HA
        rw [List.drop_eq_nil_of_le (Nat.le_refl _)] at h4
        simp only [rk] at h4
        omega)
      go_wp2
      go_ret2
      refine ⟨?_, hB⟩
      rw [← unhide hz]
      rfl

theorem rank_no (a : Option Addr) (cap : Nat) (l : List Int) (w : World) (hl : l.length ≤ 9223372036854775807) (hr : Row w a l) (h : Hid (fault l ≠ 0)) :
    Calls Tryz.prog 50 #[.slice a l.length cap] w fun e w' => e = .returned (.tuple #[.int .i64 0, .iface 63 (.int .i64 (fault l))]) ∧ Below w.heap.size w w' := by
  go_enter Tryz.func50, Tryz.ntmps50
  go_wp2_with fail
  refine (check_no a cap l w hl hr h).mono ?_
  rintro e w1 ⟨rfl, hb1⟩
  go_wp2
  go_ret2
  exact ⟨rfl, hb1⟩

end Go.Proofs.YthkibjhhlcfceaiGreatDoor.Pls

/-
  A slice of slices that this call has made itself: made, one of them set, one appended; and what it is to read.
-/
namespace Go.Proofs.YthkibjhhlcfceaiGreatDoor
open Go.RowKit
open Go.Proofs.YthkibjhhlcfceaiGreatDoor.Tre
set_option linter.unusedVariables false

theorem info_ints : (Tryz.prog.info? 22).map (fun i => (i.zero, i.size, i.bytes)) = some (some (.slice none 0 0), 1, 24) := by kernel_rfl

/-- A slice of this call's own (its block at base or behind) holds these slices. -/
def HasS (w : World) (base : Nat) (v : Value) (vs : List Value) : Prop := w.ownsRow base 22 1 v vs.length vs
theorem HasS.nil (w : World) (base : Nat) : HasS w base (.slice none 0 0) [] := World.ownsRow_nil _ _ _ _
theorem HasS.kept {w w' : World} {base : Nat} {v : Value} {vs : List Value} {row : Option Nat} (h : HasS w base v vs) (hg : w.grownBy w' row) (hne : v.ownBlock = none ∨ v.ownBlock ≠ row) : HasS w' base v vs := World.ownsRow.kept h hg hne
theorem HasS.alloc {w : World} {base : Nat} {v : Value} {vs : List Value} (h : HasS w base v vs) (o : Obj) : HasS (w.alloc o) base v vs := World.ownsRow.alloc h o
theorem HasS.below {w w' : World} {base : Nat} {v : Value} {vs : List Value} (h : HasS w base v vs) (hb : Below w.heap.size w w') : HasS w' base v vs := by
  refine ⟨h.1, ?_⟩
  rcases h.2 with hn | ⟨g, cap, cur, rfl, hbg, hgg, rest⟩
  · exact .inl hn
  · exact .inr ⟨g, cap, cur, rfl, hbg, (hb.block g (Array.getElem?_eq_some_iff.1 hgg).1).trans hgg, rest⟩
theorem HasS.lt {w : World} {base : Nat} {v : Value} {vs : List Value} (h : HasS w base v vs) : ∀ k, v.ownBlock = some k → base ≤ k ∧ k < w.heap.size := World.ownsRow.lt h
theorem HasS.get {w : World} {base g n c : Nat} {vs : List Value} (h : HasS w base (.slice (some ⟨g, 0, none⟩) n c) vs) (hn : n = vs.length) {j : Nat} {V : Value} (hj : vs[j]? = some V) : w.cell? ⟨g, j, none⟩ = some V := by
  have hlt : j < vs.length := (List.getElem?_eq_some_iff.1 hj).1
  subst hn
  have := World.ownsRow.cellAt h j (by omega)
  rw [this]
  simp [hj]
theorem HasS.put {w : World} {base g n c : Nat} {vs : List Value} (h : HasS w base (.slice (some ⟨g, 0, none⟩) n c) vs) (hn : n = vs.length) (j : Nat) (V : Value) :
    HasS (w.setCell ⟨g, j, none⟩ V) base (.slice (some ⟨g, 0, none⟩) n c) (vs.set j V) ∧ w.grownBy (w.setCell ⟨g, j, none⟩ V) (some g) := by
  subst hn
  have := World.ownsRow.stored h j V
  refine ⟨?_, this.2⟩
  unfold HasS
  rw [List.length_set]
  exact this.1
theorem HasS.frozen {w : World} {base g n c : Nat} {vs : List Value} (h : HasS w base (.slice (some ⟨g, 0, none⟩) n c) vs) (hn : n = vs.length) (j : Nat) : w.frozen? ⟨g, j, none⟩ = false := by
  subst hn
  exact World.ownsRow.frozenAt h j

/-- What such a slice is to read. -/
theorem HasS.rws {w : World} {base : Nat} {v : Value} {vs : List Value} {ll : List (List Int)} (h : HasS w base v vs) (hl : ll.length = vs.length) (hc : ∀ r, r < ll.length → ∃ V, vs[r]? = some V ∧ Sli w V (rowAt ll r)) :
    ∃ a cap, v = .slice a ll.length cap ∧ Rws w a ll := by
  have h' := h
  rcases h.2 with ⟨h1, h2⟩ | ⟨g, cap, cur, hv, hb, hg, r⟩
  · have e : ll = [] := List.length_eq_zero_iff.1 (by omega)
    subst e
    exact ⟨none, 0, h1, Or.inl rfl⟩
  · refine ⟨some ⟨g, 0, none⟩, cap, by rw [hl]; exact hv, ?_⟩
    by_cases hl0 : ll = []
    · exact Or.inl hl0
    · refine Or.inr ⟨g, 0, rfl, (Array.getElem?_eq_some_iff.1 hg).1, fun j hj => ?_⟩
      subst hv
      obtain ⟨V, hV, hs⟩ := hc j hj
      rw [Nat.zero_add]
      exact cel_of (h'.get rfl hV) hs

/-- make of slices: nil ones of this call's own. -/
theorem wpList_mks {ops : Array Oper} {rest : List Oper} {o : Oper} {a : Act} {Q : Exit → Act → World → Prop} (w : World) (hgd : o.guard = none) (s : Operand)
    (ho : o.op = .makeSlice 52 s s) (n : Nat) (hs : a.eval s = .int .i64 n) (hn : n ≤ 1000000)
    (h : ∀ w', HasS w' w.heap.size (.slice (some ⟨w.heap.size, 0, none⟩) n n) (List.replicate n (.slice none 0 0)) → Below w.heap.size w w' → w.heap.size < w'.heap.size → wpList Tryz.prog ops Q rest (a.put o.dst (.slice (some ⟨w.heap.size, 0, none⟩) n n)) w') :
    wpList Tryz.prog ops Q (o :: rest) a w := by
  obtain ⟨i0, hi, hz0, hz1, hz2⟩ := info_parts info_ints
  refine wpList_make_full w hgd s s 52 ho w.heap.size 22 i0 (.slice none 0 0) 1 Tryz.underlying52 hi hz0 hz1 _ _ _ _ n hs hs rfl rfl (by rw [hz2]; omega) (by unfold maxLen; omega) (Nat.le_refl _) ?_
  intro w2 hown hgrow
  rw [Nat.mul_one] at hown
  refine h w2 ?_ ((Below.refl _ _).grown hgrow (Nat.le_refl _) (by intro k hk; cases hk)) ?_
  · unfold HasS
    rw [List.length_replicate, ← toList_madeCells_one]
    exact hown
  · exact (World.ownsRow.lt hown w.heap.size rfl).2

/-- append of one slice. -/
theorem run_apps (w : World) (base : Nat) (v : Value) (vs : List Value) (ty : TypeId) (hv : HasS w base v vs) (V : Value) (b off cap : Nat) (hV : V.oneCell' = true) (hc : w.cell? ⟨b, off, none⟩ = some V) (hlen : vs.length + 1 ≤ 1000000) (hbase : base ≤ w.heap.size) :
    ∃ v' w', (Builtin.append_ #[52, 52] ty #[v, .slice (some ⟨b, off, none⟩) 1 cap]).run Tryz.prog w = .ok v' w' ∧ HasS w' base v' (vs ++ [V]) ∧ w.grownBy w' v.ownBlock ∧ (v'.ownBlock = v.ownBlock ∨ v'.ownBlock = some w.heap.size) := by
  obtain ⟨i, hi, hz0, hz1, hz2⟩ := info_parts info_ints
  have hcs : ∀ (j : Nat) (u : Value), ([V] : List Value)[j]? = some u → w.cell? ((⟨b, off, none⟩ : Addr).add j) = some u := by
    intro j u hu
    have hj : j = 0 := by
      rcases Nat.lt_or_ge j 1 with h | h
      · omega
      · rw [List.getElem?_eq_none (by simpa using h)] at hu; cases hu
    subst hj
    rw [addr_plain, Nat.add_zero, hc]
    simpa using hu
  obtain ⟨v', w', h1, h2, h3, h4, h5⟩ := run_append_own_at (P := Tryz.prog) w base 52 ty 22 i (.slice none 0 0) 1 24 Tryz.underlying52 hi hz0 hz1 hz2 rfl (by omega) v vs.length vs hv ⟨b, off, none⟩ 1 cap [V] (by simp) hcs
    (by intro u hu; obtain rfl : u = V := by simpa using hu
        exact hV) (by simp only [maxLen]; omega) (by omega) hbase
  refine ⟨v', w', h1, ?_, h3, h5⟩
  unfold HasS
  rw [List.length_append]
  exact h2

theorem wpList_apps {ops : Array Oper} {rest : List Oper} {o : Oper} {a : Act} {Q : Exit → Act → World → Prop} (w : World) (hgd : o.guard = none) (s x : Operand)
    (ho : o.op = .call { callee := .builtin .append, args := #[s, x], argTypes := #[52, 52] }) (base : Nat) (v : Value) (vs : List Value) (V : Value) (b off cap : Nat) (hs : a.eval s = v) (hv : HasS w base v vs)
    (hx : a.eval x = .slice (some ⟨b, off, none⟩) 1 cap) (hV : V.oneCell' = true) (hc : w.cell? ⟨b, off, none⟩ = some V) (hlen : vs.length + 1 ≤ 1000000) (hbase : base ≤ w.heap.size)
    (h : ∀ v' w', HasS w' base v' (vs ++ [V]) → w.grownBy w' v.ownBlock → (v'.ownBlock = v.ownBlock ∨ v'.ownBlock = some w.heap.size) → wpList Tryz.prog ops Q rest (a.put o.dst v') w') :
    wpList Tryz.prog ops Q (o :: rest) a w := by
  refine wpList_plain hgd fun K hK => ?_
  obtain ⟨v', w', hrun, h2, h3, h4⟩ := run_apps w base v vs o.type hv V b off cap hV hc hlen hbase
  unfold Oper.wp
  simp [execOp, ho, resolve, invoke, builtin, hs, hx, hrun, Result.andThen]
  exact hK _ _ (h v' w' h2 h3 h4)

end Go.Proofs.YthkibjhhlcfceaiGreatDoor
