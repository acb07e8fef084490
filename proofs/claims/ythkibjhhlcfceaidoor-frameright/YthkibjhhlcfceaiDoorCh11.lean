/-
  Parts that get their gains first, and their pulses then.
-/
import Derived.Test.YthkibjhhlcfceaiDoorCh10
import Derived.Test.YthkibjhhlcfceaiDoorCh02
import Derived.Deep.QuietTactic
import Derived.BigQuiet
namespace Go.Proofs.YthkibjhhlcfceaiDoor.Frm
open Go.RowKit
open Go.Proofs.YthkibjhhlcfceaiDoor.Tre Go.Proofs.YthkibjhhlcfceaiDoor.Bnd Go.Proofs.YthkibjhhlcfceaiDoor.Pls Go.Proofs.YthkibjhhlcfceaiDoor.Gai Go.Proofs.YthkibjhhlcfceaiDoor.Shr
set_option linter.unusedVariables false

theorem given_is {gs s : List Int} {B : Int} (hs : Sizes s) (h8 : s.length ≤ 8) (hB : 0 ≤ B) : Inv s (vals gs) B (given gs s B) := (share_is (d := vals gs) hs h8 hB).1
/-- Who is not loud gets none. -/
theorem given_low {ll : List (List Int)} {s : List Int} {B : Int} (hs : Sizes s) (h8 : s.length ≤ 8) (hB : 0 ≤ B) (hl : ll.length = s.length) {i : Nat} (hi : i < s.length) :
    0 ≤ at0 (given (gls ll) s B) i ∧ at0 (given (gls ll) s B) i ≤ 8 ∧ ((at0 (given (gls ll) s B) i).toNat = 0 ∨ 0 < loud (rowAt ll i)) := by
  have h := given_is (gs := gls ll) hs h8 hB
  have h1 := h.pls i (by rw [h.len]; exact hi)
  refine ⟨h1.1, h1.2, ?_⟩
  by_cases hz : loud (rowAt ll i) = 0
  · left
    have e : at0 (vals (gls ll)) i = 0 := by
      rw [vals_at _ (by rw [gls_length, hl]; exact hi), gls_at (by rw [hl]; exact hi), hz]
      rfl
    rw [h.low i (by rw [h.len]; exact hi) e]
    rfl
  · right; omega
/-- Gains, without pulses yet. -/
def q0 (gs : List Int) (k : Nat) : List (Int × Value) := (gs.take k).map fun g => (g, .slice none 0 0)
theorem q0_length {gs : List Int} {k : Nat} (h : k ≤ gs.length) : (q0 gs k).length = k := by simp [q0]; omega
theorem q0_step {gs : List Int} {k : Nat} (h : k < gs.length) : q0 gs (k + 1) = q0 gs k ++ [(at0 gs k, .slice none 0 0)] := by
  have e : at0 gs k = gs[k] := by simp [at0, h]
  unfold q0
  rw [List.take_succ_eq_append_getElem h, List.map_append, e]
  rfl
theorem q0_at {gs : List Int} {k r : Nat} (h : r < k) (hk : k ≤ gs.length) : (q0 gs k)[r]? = some (at0 gs r, .slice none 0 0) := by
  have e : at0 gs r = gs[r]'(by omega) := by simp [at0, show r < gs.length by omega]
  unfold q0
  rw [List.getElem?_map, List.getElem?_take, if_pos h, List.getElem?_eq_getElem (by omega), e]
  rfl
def bare (gs : List Int) : List Prt := gs.map fun g => (g, [])
theorem bare_length (gs : List Int) : (bare gs).length = gs.length := by simp [bare]
theorem bare_at {gs : List Int} {r : Nat} (h : r < gs.length) : prt (bare gs) r = (at0 gs r, []) := by
  have e : at0 gs r = gs[r] := by simp [at0, h]
  rw [prt_get (by rw [bare_length]; exact h), e]
  simp [bare]
theorem bare_gns (gs : List Int) : gns (bare gs) = gs := by simp [gns, bare, Function.comp_def]
theorem sli_nil (w : World) : Sli w (.slice none 0 0) [] := ⟨none, 0, rfl, fun _ => rfl, Nat.le_refl _, by omega, Or.inl rfl⟩

/-- One part's pulses are set. -/
theorem parts_put {wr w2 : World} {n0 n1 g N c j : Nat} {qs : List (Int × Value)} {gs : List Int} {P : Nat → List Int → Prop} {v : Value} {lj : List Int} (hS : HasP wr n0 (.slice (some ⟨g, 0, none⟩) N c) qs) (hq : qs.length = N) (hj : j < N) (hgn : g < n1) (hn1 : n1 ≤ wr.heap.size)
    (hA : ∀ r, r < N → ∃ V, qs[r]? = some (at0 gs r, V)) (hd : ∀ r, r < j → ∃ V l, qs[r]? = some (at0 gs r, V) ∧ Has wr n1 V l ∧ P r l) (hv : Has w2 wr.heap.size v lj) (hP : P j lj) (hb : Below wr.heap.size wr w2) :
    HasP (w2.setCell ⟨g, j * 2 + 1, none⟩ v) n0 (.slice (some ⟨g, 0, none⟩) N c) (qs.set j (at0 gs j, v)) ∧ (∀ r, r < N → ∃ V, (qs.set j (at0 gs j, v))[r]? = some (at0 gs r, V)) ∧
      (∀ r, r < j + 1 → ∃ V l, (qs.set j (at0 gs j, v))[r]? = some (at0 gs r, V) ∧ Has (w2.setCell ⟨g, j * 2 + 1, none⟩ v) n1 V l ∧ P r l) := by
  obtain ⟨Vj, hVj⟩ := hA j hj
  obtain ⟨h1, h2⟩ := (hS.below hb).put hq.symm hVj v
  have hk : ∀ (V : Value) (m : List Int), Has w2 n1 V m → Has (w2.setCell ⟨g, j * 2 + 1, none⟩ v) n1 V m := by
    intro V m hV
    refine hV.kept h2 ?_
    cases hb' : V.ownBlock with
    | none => exact Or.inl rfl
    | some k =>
      refine Or.inr fun e => ?_
      cases e
      have := (hV.lt _ hb').1
      omega
  refine ⟨h1, fun r hr => ?_, fun r hr => ?_⟩
  · by_cases e : r = j
    · subst e
      exact ⟨v, by rw [List.getElem?_set_self (by omega)]⟩
    · obtain ⟨V, hV⟩ := hA r hr
      exact ⟨V, by rw [List.getElem?_set_ne (by omega)]; exact hV⟩
  · by_cases e : r = j
    · subst e
      exact ⟨v, lj, by rw [List.getElem?_set_self (by omega)], hk _ _ (hv.mono hn1), hP⟩
    · obtain ⟨V, l, hV, hH, hp⟩ := hd r (by omega)
      exact ⟨V, l, by rw [List.getElem?_set_ne (by omega)]; exact hV, hk _ _ (hH.below hb), hp⟩
/-- All are set: what is to be read. -/
theorem parts_done {w : World} {n0 n1 : Nat} {v : Value} {qs : List (Int × Value)} {gs : List Int} {P : Nat → List Int → Prop} (hS : HasP w n0 v qs) (hq : qs.length = gs.length) (hd : ∀ r, r < gs.length → ∃ V l, qs[r]? = some (at0 gs r, V) ∧ Has w n1 V l ∧ P r l) :
    ∃ ps : List Prt, ps.length = gs.length ∧ (∀ r, r < gs.length → (prt ps r).1 = at0 gs r ∧ P r (prt ps r).2) ∧ ∃ a cap, v = .slice a ps.length cap ∧ Pts w a ps ∧ ps.length ≤ cap ∧ cap ≤ 9223372036854775807 := by
  have key : ∀ m, m ≤ gs.length → ∃ ps : List Prt, ps.length = m ∧ ∀ r, r < m → (prt ps r).1 = at0 gs r ∧ P r (prt ps r).2 ∧ ∃ V, qs[r]? = some ((prt ps r).1, V) ∧ Sli w V (prt ps r).2 := by
    intro m
    induction m with
    | zero => intro _; exact ⟨[], rfl, fun r hr => by omega⟩
    | succ m ih =>
      intro hm
      obtain ⟨ps, h1, h2⟩ := ih (by omega)
      obtain ⟨V, l, hV, hH, hp⟩ := hd m (by omega)
      refine ⟨ps ++ [(at0 gs m, l)], by simp [h1], fun r hr => ?_⟩
      by_cases e : r = m
      · subst e
        have e2 : prt (ps ++ [(at0 gs r, l)]) r = (at0 gs r, l) := by rw [← h1]; exact prt_last ps _
        rw [e2]
        exact ⟨rfl, hp, V, hV, hH.sli⟩
      · rw [prt_append (by omega)]
        exact h2 r (by omega)
  obtain ⟨ps, h1, h2⟩ := key gs.length (Nat.le_refl _)
  refine ⟨ps, h1, fun r hr => ⟨(h2 r hr).1, (h2 r hr).2.1⟩, hS.pts (by rw [h1, hq]) fun r hr => ?_⟩
  rw [h1] at hr
  exact (h2 r hr).2.2

/-- .. behind a mark. -/
theorem parts_new {w : World} {n0 n1 : Nat} {v : Value} {qs : List (Int × Value)} {gs : List Int} {P : Nat → List Int → Prop} (hS : HasP w n0 v qs) (h01 : n0 ≤ n1) (hq : qs.length = gs.length) (hd : ∀ r, r < gs.length → ∃ V l, qs[r]? = some (at0 gs r, V) ∧ Has w n1 V l ∧ P r l) :
    ∃ ps : List Prt, ps.length = gs.length ∧ (∀ r, r < gs.length → (prt ps r).1 = at0 gs r ∧ P r (prt ps r).2) ∧ ∃ a cap, v = .slice a ps.length cap ∧ PtsN n0 w a ps ∧ ps.length ≤ cap ∧ cap ≤ 9223372036854775807 := by
  have key : ∀ m, m ≤ gs.length → ∃ ps : List Prt, ps.length = m ∧ ∀ r, r < m → (prt ps r).1 = at0 gs r ∧ P r (prt ps r).2 ∧ ∃ V, qs[r]? = some ((prt ps r).1, V) ∧ SliN n0 w V (prt ps r).2 := by
    intro m
    induction m with
    | zero => intro _; exact ⟨[], rfl, fun r hr => by omega⟩
    | succ m ih =>
      intro hm
      obtain ⟨ps, h1, h2⟩ := ih (by omega)
      obtain ⟨V, l, hV, hH, hp⟩ := hd m (by omega)
      refine ⟨ps ++ [(at0 gs m, l)], by simp [h1], fun r hr => ?_⟩
      by_cases e : r = m
      · subst e
        have e2 : prt (ps ++ [(at0 gs r, l)]) r = (at0 gs r, l) := by rw [← h1]; exact prt_last ps _
        rw [e2]
        obtain ⟨A, C, s1, s2, s3, s4, s5⟩ := rowN_of hH
        exact ⟨rfl, hp, V, hV, A, C, s1, s2, s3, s4, s5.mono h01⟩
      · rw [prt_append (by omega)]
        exact h2 r (by omega)
  obtain ⟨ps, h1, h2⟩ := key gs.length (Nat.le_refl _)
  refine ⟨ps, h1, fun r hr => ⟨(h2 r hr).1, (h2 r hr).2.1⟩, hS.ptsN (by rw [h1, hq]) fun r hr => ?_⟩
  rw [h1] at hr
  exact (h2 r hr).2.2

theorem grownBy_setCellAt (W : World) (g j : Nat) (v : Value) : W.grownBy (W.setCell ⟨g, j, none⟩ v) (some g) :=
  ⟨rfl, rfl, rfl, (KeepsWalks.setCell W _ v).size, fun k _ hk => Below.heap_setCell _ _ _ k (fun e => hk (by rw [e]))⟩

end Go.Proofs.YthkibjhhlcfceaiDoor.Frm

/-
  make of parts: of this call's own, without a gain and without pulses; a gain is set.
-/
namespace Go.Proofs.YthkibjhhlcfceaiDoor.Frm
open Go.RowKit
open Go.Proofs.YthkibjhhlcfceaiDoor.Tre
set_option linter.unusedVariables false

/-- The first k gains are set, of n parts. -/
def qz (gs : List Int) (n k : Nat) : List (Int × Value) := (List.range n).map fun i => (if i < k then at0 gs i else 0, .slice none 0 0)
theorem qz_length (gs : List Int) (n k : Nat) : (qz gs n k).length = n := by simp [qz]
theorem qz_at {gs : List Int} {n k i : Nat} (h : i < n) : (qz gs n k)[i]? = some (if i < k then at0 gs i else 0, .slice none 0 0) := by
  simp [qz, h]
theorem qz_zero (gs : List Int) (n : Nat) : qz gs n 0 = List.replicate n (0, .slice none 0 0) := by
  apply List.ext_getElem?
  intro i
  by_cases h : i < n
  · rw [qz_at h, List.getElem?_replicate, if_pos h, if_neg (by omega)]
  · rw [List.getElem?_eq_none (by rw [qz_length]; omega), List.getElem?_replicate, if_neg h]
theorem qz_all (gs : List Int) : qz gs gs.length gs.length = q0 gs gs.length := by
  apply List.ext_getElem?
  intro i
  by_cases h : i < gs.length
  · rw [qz_at h, q0_at h (Nat.le_refl _), if_pos h]
  · rw [List.getElem?_eq_none (by rw [qz_length]; omega), List.getElem?_eq_none (by rw [q0_length (Nat.le_refl _)]; omega)]
theorem qz_set {gs : List Int} {n k : Nat} (h : k < n) {G : Int} (hG : at0 gs k = G) : (qz gs n k).set k (G, .slice none 0 0) = qz gs n (k + 1) := by
  apply List.ext_getElem?
  intro i
  by_cases hi : i < n
  · by_cases e : i = k
    · subst e
      rw [List.getElem?_set_self (by rw [qz_length]; exact h), qz_at h, if_pos (by omega), hG]
    · rw [List.getElem?_set_ne (by omega), qz_at hi, qz_at hi]
      by_cases e2 : i < k
      · rw [if_pos e2, if_pos (by omega)]
      · rw [if_neg e2, if_neg (by omega)]
  · rw [List.getElem?_eq_none (by rw [List.length_set, qz_length]; omega), List.getElem?_eq_none (by rw [qz_length]; omega)]
theorem pcs_set0 {qs : List (Int × Value)} {j : Nat} {q : Int × Value} (h : qs[j]? = some q) (G : Int) : (pcs qs).set (j * 2) (.int .i64 G) = pcs (qs.set j (G, q.2)) := by
  induction qs generalizing j with
  | nil => simp at h
  | cons r qs ih =>
    have e : ∀ x rs, pcs (x :: rs) = .int .i64 x.1 :: x.2 :: pcs rs := fun _ _ => rfl
    cases j with
    | zero =>
      obtain rfl : r = q := by simpa using h
      rfl
    | succ j =>
      have := ih (j := j) (by simpa using h)
      rw [List.set_cons_succ, e, e, ← this, show (j + 1) * 2 = j * 2 + 2 by omega]
      rfl
theorem HasP.put0 {w : World} {base g n c : Nat} {qs : List (Int × Value)} (h : HasP w base (.slice (some ⟨g, 0, none⟩) n c) qs) (hn : n = qs.length) {j : Nat} {q : Int × Value} (hj : qs[j]? = some q) (G : Int) :
    HasP (w.setCell ⟨g, j * 2, none⟩ (.int .i64 G)) base (.slice (some ⟨g, 0, none⟩) n c) (qs.set j (G, q.2)) ∧ w.grownBy (w.setCell ⟨g, j * 2, none⟩ (.int .i64 G)) (some g) := by
  subst hn
  have := World.ownsRow.stored h (j * 2) (.int .i64 G)
  refine ⟨?_, this.2⟩
  unfold HasP
  rw [List.length_set, ← pcs_set0 hj]
  exact this.1
theorem made_parts (n : Nat) : (madeCells #[Value.int .i64 0, .slice none 0 0] (n * 2)).toList = pcs (List.replicate n (0, .slice none 0 0)) := by
  apply List.ext_getElem?
  intro j
  by_cases hj : j < n * 2
  · have hr : (List.replicate n ((0 : Int), Value.slice none 0 0))[j / 2]? = some (0, .slice none 0 0) := by rw [List.getElem?_replicate, if_pos (by omega)]
    obtain ⟨e0, e1⟩ := pcs_at hr
    rcases Nat.mod_two_eq_zero_or_one j with h | h
    · rw [show j / 2 * 2 = j by omega] at e0
      rw [e0]
      simp [madeCells, hj, h]
    · rw [show j / 2 * 2 + 1 = j by omega] at e1
      rw [e1]
      simp [madeCells, hj, h]
  · rw [List.getElem?_eq_none (by simp [madeCells]; omega), List.getElem?_eq_none (by rw [pcs_length, List.length_replicate]; omega)]

theorem wpList_mkp {ops : Array Oper} {rest : List Oper} {o : Oper} {a : Act} {Q : Exit → Act → World → Prop} (w : World) (hgd : o.guard = none) (s : Operand)
    (ho : o.op = .makeSlice 23 s s) (n : Nat) (hs : a.eval s = .int .i64 n) (hn : n ≤ 1000000)
    (h : ∀ w', HasP w' w.heap.size (.slice (some ⟨w.heap.size, 0, none⟩) n n) (List.replicate n (0, .slice none 0 0)) → Below w.heap.size w w' → w.heap.size < w'.heap.size → wpList Tryd.prog ops Q rest (a.put o.dst (.slice (some ⟨w.heap.size, 0, none⟩) n n)) w') :
    wpList Tryd.prog ops Q (o :: rest) a w := by
  obtain ⟨i0, hi, hz0, hz1, hz2⟩ := info_parts info_part
  refine wpList_make_full w hgd s s 23 ho w.heap.size 29 i0 (.agg #[.int .i64 0, .slice none 0 0]) 2 Tryd.underlying23 hi hz0 hz1 _ _ _ _ n hs hs rfl rfl (by rw [hz2]; omega) (by unfold maxLen; omega) (Nat.le_refl _) ?_
  intro w2 hown hgrow
  refine h w2 ?_ ((Below.refl _ _).grown hgrow (Nat.le_refl _) (by intro k hk; cases hk)) ?_
  · unfold HasP
    rw [List.length_replicate, ← made_parts]
    exact hown
  · exact (World.ownsRow.lt hown w.heap.size rfl).2

end Go.Proofs.YthkibjhhlcfceaiDoor.Frm

/-
  sound.Distance: by its contract.
-/
namespace Go.Proofs.YthkibjhhlcfceaiDoor.Pls
open Go.RowKit
set_option linter.unusedVariables false

theorem dist (n : Int) (w : World) (h0 : -1000000 ≤ n) (h1 : n ≤ 1000000) :
    Calls Tryd.prog 58 #[.int .i64 n] w fun e w' => e = .returned (.int .i64 (n.natAbs : Int)) ∧ w = w' := by
  go_enter Tryd.func58, Tryd.ntmps58
  go_wp2
  all_goals (go_ret; exact ⟨ret_int (by omega), rfl⟩)

end Go.Proofs.YthkibjhhlcfceaiDoor.Pls
