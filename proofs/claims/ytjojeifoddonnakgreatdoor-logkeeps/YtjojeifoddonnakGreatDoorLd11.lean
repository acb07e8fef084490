/-
  hornref2.NewPlayer: by its contract.
-/
import Derived.Test.YtjojeifoddonnakGreatDoorLd03
import Derived.Test.YtjojeifoddonnakGreatDoorLd08
namespace Go.Proofs.YtjojeifoddonnakGreatDoor.Hid18
open Go.RowKit
open Go.Proofs.YtjojeifoddonnakGreatDoor.Tre Go.Proofs.YtjojeifoddonnakGreatDoor.Bnd
set_option linter.unusedVariables false

set_option maxHeartbeats 4000000 in
theorem refNew (a : Option Addr) (cap : Nat) (s : List Int) (B : Int) (w : World) (hs : Row w a s) (zs : s.length ≤ 9223372036854775807) :
    Calls Tryz.prog 11 #[.slice a s.length cap, .int .i64 B] w fun e w' => e = .returned (.int .i64 (newF s B)) ∧ Below w.heap.size w w' := by
  by_cases h1 : bf s = 0
  · have CB := hide (refBands_ok a cap s w zs hs (hide h1))
    obtain ⟨n0, n8, hsz, n32⟩ := bf_ok h1
    have e1 : newF s B = if B < 0 ∨ 400 < B then 1 else if total s % 2 = 0 then 0 else 3 := by unfold newF; rw [if_pos h1]
    rw [e1]
    obtain ⟨TT, hTT⟩ : ∃ TT, total s = TT := ⟨_, rfl⟩
    obtain ⟨N, hN⟩ : ∃ N, s.length = N := ⟨_, rfl⟩
    rw [hTT] at n32 CB
    rw [hN] at CB
    rw [hTT, hN]
    have hmod : Int.tmod (TT : Int) 2 = ((TT % 2 : Nat) : Int) := rfl
    clear hTT hN h1 e1 zs hsz n8 n0
    by_cases hB0 : B < 0
    · have d1 : decide (B < 0) = true := decide_eq_true hB0
      rw [if_pos (Or.inl hB0)]
      go_enter Tryz.func11, Tryz.ntmps11
      go_wp2_with fail
      refine (unhide CB).mono ?_
      rintro e w1 ⟨rfl, hb1⟩
      go_wp2
      go_ret
      exact ⟨rfl, hb1⟩
    · have d1 : decide (B < 0) = false := decide_eq_false hB0
      by_cases hB4 : 400 < B
      · have d2 : decide (400 < B) = true := decide_eq_true hB4
        rw [if_pos (Or.inr hB4)]
        go_enter Tryz.func11, Tryz.ntmps11
        go_wp2_with fail
        refine (unhide CB).mono ?_
        rintro e w1 ⟨rfl, hb1⟩
        go_wp2
        go_ret
        exact ⟨rfl, hb1⟩
      · have d2 : decide (400 < B) = false := decide_eq_false hB4
        rw [if_neg (by omega)]
        by_cases hT : TT % 2 = 0
        · rw [if_pos hT]
          rw [hT] at hmod
          clear hT
          go_enter Tryz.func11, Tryz.ntmps11
          go_wp2_with fail
          refine (unhide CB).mono ?_
          rintro e w1 ⟨rfl, hb1⟩
          go_wp2
          go_ret
          exact ⟨rfl, hb1⟩
        · rw [if_neg hT]
          have h1 : TT % 2 = 1 := by omega
          rw [h1] at hmod
          clear hT h1
          go_enter Tryz.func11, Tryz.ntmps11
          go_wp2_with fail
          refine (unhide CB).mono ?_
          rintro e w1 ⟨rfl, hb1⟩
          go_wp2
          go_ret
          exact ⟨rfl, hb1⟩
  · have CB := hide (refBands_no a cap s w zs hs (hide h1))
    have e1 : newF s B = bf s := by unfold newF; rw [if_neg h1]
    rw [e1]
    obtain ⟨F, hF⟩ : ∃ F, bf s = F := ⟨_, rfl⟩
    obtain ⟨N, hN⟩ : ∃ N, s.length = N := ⟨_, rfl⟩
    rw [hF] at h1 CB
    rw [hN] at CB
    rw [hF, hN]
    have d0 : (F == 0) = false := by rw [beq_eq_false_iff_ne]; exact h1
    clear hF hN h1 e1 zs
    go_enter Tryz.func11, Tryz.ntmps11
    go_wp2_with fail
    refine (unhide CB).mono ?_
    rintro e w1 ⟨rfl, hb1⟩
    go_wp2
    go_ret
    exact ⟨rfl, hb1⟩

end Go.Proofs.YtjojeifoddonnakGreatDoor.Hid18

/-
  Parts of a frame in memory: where a slice's address says; a slice of parts that this call has made itself.
-/
namespace Go.Proofs.YtjojeifoddonnakGreatDoor.Frm
open Go.RowKit
open Go.Proofs.YtjojeifoddonnakGreatDoor.Tre
set_option linter.unusedVariables false

/-- The parts lie where a slice's address says. -/
def Pts (w : World) (a : Option Addr) (ps : List Prt) : Prop :=
  ps = [] ∨ ∃ b off, a = some ⟨b, off, none⟩ ∧ b < w.heap.size ∧ ∀ r, r < ps.length → w.cell? ⟨b, off + r * 2, none⟩ = some (.int .i64 (prt ps r).1) ∧ Cel w ⟨b, off + r * 2 + 1, none⟩ (prt ps r).2
theorem Pts.below {w w' : World} {a : Option Addr} {ps : List Prt} (h : Pts w a ps) (hb : Below w.heap.size w w') : Pts w' a ps := by
  rcases h with h | ⟨b, off, ha, hlt, hc⟩
  · exact Or.inl h
  · exact Or.inr ⟨b, off, ha, Nat.lt_of_lt_of_le hlt hb.size, fun r hr => ⟨(hb.cell (p := ⟨b, off + r * 2, none⟩) hlt).trans (hc r hr).1, (hc r hr).2.below hlt hb⟩⟩
theorem Pts.at {w : World} {a : Option Addr} {ps : List Prt} (h : Pts w a ps) {k : Nat} (hk : k < ps.length) :
    ∃ b off, a = some ⟨b, off, none⟩ ∧ b < w.heap.size ∧ ∀ r, r < ps.length → w.cell? ⟨b, off + r * 2, none⟩ = some (.int .i64 (prt ps r).1) ∧ Cel w ⟨b, off + r * 2 + 1, none⟩ (prt ps r).2 := by
  rcases h with h | h
  · subst h; exact absurd hk (by simp)
  · exact h

theorem info_part : (Tryz.prog.info? 63).map (fun i => (i.zero, i.size, i.bytes)) = some (some (.agg #[.int .i64 0, .slice none 0 0]), 2, 32) := by kernel_rfl

/-- The cells of parts. -/
def pcs (qs : List (Int × Value)) : List Value := qs.flatMap fun p => [.int .i64 p.1, p.2]
theorem pcs_length (qs : List (Int × Value)) : (pcs qs).length = qs.length * 2 := by
  induction qs with
  | nil => rfl
  | cons q qs ih =>
    have e : pcs (q :: qs) = .int .i64 q.1 :: q.2 :: pcs qs := rfl
    rw [e, List.length_cons, List.length_cons, ih, List.length_cons]
    omega
theorem pcs_at {qs : List (Int × Value)} {j : Nat} {q : Int × Value} (h : qs[j]? = some q) : (pcs qs)[j * 2]? = some (.int .i64 q.1) ∧ (pcs qs)[j * 2 + 1]? = some q.2 := by
  induction qs generalizing j with
  | nil => simp at h
  | cons r qs ih =>
    have e : pcs (r :: qs) = .int .i64 r.1 :: r.2 :: pcs qs := rfl
    cases j with
    | zero =>
      obtain rfl : r = q := by simpa using h
      exact ⟨rfl, rfl⟩
    | succ j =>
      have := ih (j := j) (by simpa using h)
      rw [e]
      rw [show (j + 1) * 2 = j * 2 + 2 by omega]
      exact this
theorem pcs_append (qs : List (Int × Value)) (q : Int × Value) : pcs (qs ++ [q]) = pcs qs ++ [.int .i64 q.1, q.2] := by simp [pcs]
theorem pcs_set {qs : List (Int × Value)} {j : Nat} {q : Int × Value} (h : qs[j]? = some q) (V : Value) : (pcs qs).set (j * 2 + 1) V = pcs (qs.set j (q.1, V)) := by
  induction qs generalizing j with
  | nil => simp at h
  | cons r qs ih =>
    have e : ∀ x rs, pcs (x :: rs) = .int .i64 x.1 :: x.2 :: pcs rs := fun _ _ => rfl
    cases j with
    | zero =>
      obtain rfl : r = q := by simpa using h
      rfl
    | succ j =>
      have := ih (j := j) (by simpa using h)
      rw [List.set_cons_succ, e, e, ← this, show (j + 1) * 2 + 1 = j * 2 + 1 + 2 by omega]
      rfl

/-- A slice of parts of this call's own (its block at base or behind). -/
def HasP (w : World) (base : Nat) (v : Value) (qs : List (Int × Value)) : Prop := w.ownsRow base 63 2 v qs.length (pcs qs)
theorem HasP.nil (w : World) (base : Nat) : HasP w base (.slice none 0 0) [] := World.ownsRow_nil _ _ _ _
theorem HasP.kept {w w' : World} {base : Nat} {v : Value} {qs : List (Int × Value)} {row : Option Nat} (h : HasP w base v qs) (hg : w.grownBy w' row) (hne : v.ownBlock = none ∨ v.ownBlock ≠ row) : HasP w' base v qs := World.ownsRow.kept h hg hne
theorem HasP.alloc {w : World} {base : Nat} {v : Value} {qs : List (Int × Value)} (h : HasP w base v qs) (o : Obj) : HasP (w.alloc o) base v qs := World.ownsRow.alloc h o
theorem HasP.below {w w' : World} {base : Nat} {v : Value} {qs : List (Int × Value)} (h : HasP w base v qs) (hb : Below w.heap.size w w') : HasP w' base v qs := by
  refine ⟨h.1, ?_⟩
  rcases h.2 with hn | ⟨g, cap, cur, rfl, hbg, hgg, rest⟩
  · exact .inl hn
  · exact .inr ⟨g, cap, cur, rfl, hbg, (hb.block g (Array.getElem?_eq_some_iff.1 hgg).1).trans hgg, rest⟩
theorem HasP.lt {w : World} {base : Nat} {v : Value} {qs : List (Int × Value)} (h : HasP w base v qs) : ∀ k, v.ownBlock = some k → base ≤ k ∧ k < w.heap.size := World.ownsRow.lt h
theorem HasP.one {w : World} {base : Nat} {v : Value} {qs : List (Int × Value)} (h : HasP w base v qs) (h0 : 0 < qs.length) : ∃ g c, v = .slice (some ⟨g, 0, none⟩) qs.length c ∧ base ≤ g ∧ g < w.heap.size ∧ qs.length ≤ c ∧ c ≤ 9223372036854775807 := by
  rcases h.2 with ⟨_, e⟩ | ⟨g, cap, cur, hv, hb, hg, hn, hm, _⟩
  · omega
  · exact ⟨g, cap, hv, hb, (Array.getElem?_eq_some_iff.1 hg).1, hn, by simpa [maxLen] using hm⟩
theorem HasP.shape {w : World} {base : Nat} {v : Value} {qs : List (Int × Value)} (h : HasP w base v qs) : ∃ a cap, v = .slice a qs.length cap := by
  rcases h.2 with ⟨h1, h2⟩ | ⟨g, cap, cur, hv, _⟩
  · exact ⟨none, 0, by rw [h2]; exact h1⟩
  · exact ⟨some ⟨g, 0, none⟩, cap, hv⟩
theorem HasP.get {w : World} {base g n c : Nat} {qs : List (Int × Value)} (h : HasP w base (.slice (some ⟨g, 0, none⟩) n c) qs) (hn : n = qs.length) {j : Nat} {q : Int × Value} (hj : qs[j]? = some q) :
    w.cell? ⟨g, j * 2, none⟩ = some (.int .i64 q.1) ∧ w.cell? ⟨g, j * 2 + 1, none⟩ = some q.2 := by
  have hlt : j < qs.length := (List.getElem?_eq_some_iff.1 hj).1
  subst hn
  obtain ⟨e0, e1⟩ := pcs_at hj
  exact ⟨by rw [World.ownsRow.cellAt h (j * 2) (by omega)]; exact e0, by rw [World.ownsRow.cellAt h (j * 2 + 1) (by omega)]; exact e1⟩
theorem HasP.put {w : World} {base g n c : Nat} {qs : List (Int × Value)} (h : HasP w base (.slice (some ⟨g, 0, none⟩) n c) qs) (hn : n = qs.length) {j : Nat} {q : Int × Value} (hj : qs[j]? = some q) (V : Value) :
    HasP (w.setCell ⟨g, j * 2 + 1, none⟩ V) base (.slice (some ⟨g, 0, none⟩) n c) (qs.set j (q.1, V)) ∧ w.grownBy (w.setCell ⟨g, j * 2 + 1, none⟩ V) (some g) := by
  subst hn
  have := World.ownsRow.stored h (j * 2 + 1) V
  refine ⟨?_, this.2⟩
  unfold HasP
  rw [List.length_set, ← pcs_set hj]
  exact this.1
theorem HasP.frozen {w : World} {base g n c : Nat} {qs : List (Int × Value)} (h : HasP w base (.slice (some ⟨g, 0, none⟩) n c) qs) (hn : n = qs.length) (j : Nat) : w.frozen? ⟨g, j, none⟩ = false := by
  subst hn
  exact World.ownsRow.frozenAt h j
/-- What such a slice is to read. -/
theorem HasP.pts {w : World} {base : Nat} {v : Value} {qs : List (Int × Value)} {ps : List Prt} (h : HasP w base v qs) (hl : ps.length = qs.length) (hc : ∀ r, r < ps.length → ∃ V, qs[r]? = some ((prt ps r).1, V) ∧ Sli w V (prt ps r).2) :
    ∃ a cap, v = .slice a ps.length cap ∧ Pts w a ps ∧ ps.length ≤ cap ∧ cap ≤ 9223372036854775807 := by
  have h' := h
  rcases h.2 with ⟨h1, h2⟩ | ⟨g, cap, cur, hv, hb, hg, hn, hm, _⟩
  · have e : ps = [] := List.length_eq_zero_iff.1 (by omega)
    subst e
    exact ⟨none, 0, h1, Or.inl rfl, Nat.le_refl _, by omega⟩
  · refine ⟨some ⟨g, 0, none⟩, cap, by rw [hl]; exact hv, ?_, by omega, by simpa [maxLen] using hm⟩
    by_cases hl0 : ps = []
    · exact Or.inl hl0
    · refine Or.inr ⟨g, 0, rfl, (Array.getElem?_eq_some_iff.1 hg).1, fun j hj => ?_⟩
      subst hv
      obtain ⟨V, hV, hs⟩ := hc j hj
      obtain ⟨c0, c1⟩ := h'.get rfl hV
      rw [Nat.zero_add]
      exact ⟨c0, cel_of c1 hs⟩

/-- append of one part. -/
theorem run_appp (w : World) (base : Nat) (v : Value) (qs : List (Int × Value)) (ty : TypeId) (hv : HasP w base v qs) (q : Int × Value) (b cap : Nat) (hV : q.2.oneCell' = true) (hc0 : w.cell? ⟨b, 0, none⟩ = some (.int .i64 q.1)) (hc1 : w.cell? ⟨b, 1, none⟩ = some q.2) (hlen : qs.length + 1 ≤ 1000000) (hbase : base ≤ w.heap.size) :
    ∃ v' w', (Builtin.append_ #[36, 36] ty #[v, .slice (some ⟨b, 0, none⟩) 1 cap]).run Tryz.prog w = .ok v' w' ∧ HasP w' base v' (qs ++ [q]) ∧ w.grownBy w' v.ownBlock ∧ (v'.ownBlock = v.ownBlock ∨ v'.ownBlock = some w.heap.size) := by
  obtain ⟨i, hi, hz0, hz1, hz2⟩ := info_parts info_part
  have hcs : ∀ (j : Nat) (u : Value), ([.int .i64 q.1, q.2] : List Value)[j]? = some u → w.cell? ((⟨b, 0, none⟩ : Addr).add j) = some u := by
    intro j u hu
    rw [addr_plain, Nat.zero_add]
    match j, hu with
    | 0, hu => rw [hc0]; simpa using hu
    | 1, hu => rw [hc1]; simpa using hu
    | j + 2, hu => simp at hu
  obtain ⟨v', w', h1, h2, h3, h4, h5⟩ := run_append_own_at (P := Tryz.prog) w base 36 ty 63 i (.agg #[.int .i64 0, .slice none 0 0]) 2 32 Tryz.underlying36 hi hz0 hz1 hz2 rfl (by omega) v qs.length (pcs qs) hv ⟨b, 0, none⟩ 1 cap [.int .i64 q.1, q.2] (by simp) hcs
    (by intro u hu
        have : u = .int .i64 q.1 ∨ u = q.2 := by simpa using hu
        rcases this with rfl | rfl
        · rfl
        · exact hV) (by simp only [maxLen]; omega) (by omega) hbase
  refine ⟨v', w', h1, ?_, h3, h5⟩
  unfold HasP
  rw [List.length_append, pcs_append]
  exact h2
theorem wpList_appp {ops : Array Oper} {rest : List Oper} {o : Oper} {a : Act} {Q : Exit → Act → World → Prop} (w : World) (hgd : o.guard = none) (s x : Operand)
    (ho : o.op = .call { callee := .builtin .append, args := #[s, x], argTypes := #[36, 36] }) (base : Nat) (v : Value) (qs : List (Int × Value)) (q : Int × Value) (b cap : Nat) (hs : a.eval s = v) (hv : HasP w base v qs)
    (hx : a.eval x = .slice (some ⟨b, 0, none⟩) 1 cap) (hV : q.2.oneCell' = true) (hc0 : w.cell? ⟨b, 0, none⟩ = some (.int .i64 q.1)) (hc1 : w.cell? ⟨b, 1, none⟩ = some q.2) (hlen : qs.length + 1 ≤ 1000000) (hbase : base ≤ w.heap.size)
    (h : ∀ v' w', HasP w' base v' (qs ++ [q]) → w.grownBy w' v.ownBlock → (v'.ownBlock = v.ownBlock ∨ v'.ownBlock = some w.heap.size) → wpList Tryz.prog ops Q rest (a.put o.dst v') w') :
    wpList Tryz.prog ops Q (o :: rest) a w := by
  refine wpList_plain hgd fun K hK => ?_
  obtain ⟨v', w', hrun, h2, h3, h4⟩ := run_appp w base v qs o.type hv q b cap hV hc0 hc1 hlen hbase
  unfold Oper.wp
  simp [execOp, ho, resolve, invoke, builtin, hs, hx, hrun, Result.andThen]
  exact hK _ _ (h v' w' h2 h3 h4)

end Go.Proofs.YtjojeifoddonnakGreatDoor.Frm

/-
  Parts of a frame that lie in memory behind a mark: no older block is among theirs.
-/
namespace Go.Proofs.YtjojeifoddonnakGreatDoor.Frm
open Go.RowKit
open Go.Proofs.YtjojeifoddonnakGreatDoor.Tre
set_option linter.unusedVariables false

/-- A row behind a mark. -/
def RowN (n : Nat) (w : World) (a : Option Addr) (l : List Int) : Prop :=
  l = [] ∨ ∃ b off, a = some ⟨b, off, none⟩ ∧ n ≤ b ∧ b < w.heap.size ∧ ∀ j, j < l.length → w.cell? ⟨b, off + j, none⟩ = some (.int .i64 (l.getD j 0))
theorem RowN.row {n : Nat} {w : World} {a : Option Addr} {l : List Int} (h : RowN n w a l) : Row w a l := by
  rcases h with h | ⟨b, off, e, _, hb, hc⟩
  · exact Or.inl h
  · exact Or.inr ⟨b, off, e, hb, hc⟩
theorem RowN.mono {n m : Nat} {w : World} {a : Option Addr} {l : List Int} (h : RowN n w a l) (hm : m ≤ n) : RowN m w a l := by
  rcases h with h | ⟨b, off, e, hn, hb, hc⟩
  · exact Or.inl h
  · exact Or.inr ⟨b, off, e, Nat.le_trans hm hn, hb, hc⟩
/-- What keeps all blocks but one keeps a row behind it. -/
theorem RowN.but {n c : Nat} {w w' : World} {a : Option Addr} {l : List Int} (h : RowN n w a l) (hg : w.grownBy w' (some c)) (hc : c < n) : RowN n w' a l := by
  rcases h with h | ⟨b, off, e, hn, hb, hcs⟩
  · exact Or.inl h
  · refine Or.inr ⟨b, off, e, hn, Nat.lt_of_lt_of_le hb hg.size, fun j hj => ?_⟩
    rw [World.cell?_of_block (a := ⟨b, off + j, none⟩) (hg.block b hb (fun e => by cases e; omega))]
    exact hcs j hj
theorem RowN.below {n : Nat} {w w' : World} {a : Option Addr} {l : List Int} (h : RowN n w a l) (hb : Below w.heap.size w w') : RowN n w' a l := by
  rcases h with h | ⟨b, off, e, hn, hb', hcs⟩
  · exact Or.inl h
  · exact Or.inr ⟨b, off, e, hn, Nat.lt_of_lt_of_le hb' hb.size, fun j hj => (hb.cell (p := ⟨b, off + j, none⟩) hb').trans (hcs j hj)⟩
theorem rowN_of {w : World} {base : Nat} {v : Value} {l : List Int} (h : Has w base v l) : ∃ a cap, v = .slice a l.length cap ∧ (a = none → cap = 0) ∧ l.length ≤ cap ∧ cap ≤ 9223372036854775807 ∧ RowN base w a l := by
  obtain ⟨A, C, e, h2, h3, h4, h5⟩ := h.sli
  refine ⟨A, C, e, h2, h3, h4, ?_⟩
  rcases h5 with h5 | ⟨b, off, ea, hb, hc⟩
  · exact Or.inl h5
  · refine Or.inr ⟨b, off, ea, ?_, hb, hc⟩
    subst ea
    exact (h.lt b (by rw [e]; rfl)).1

/-- A slice of integers in a cell, behind a mark. -/
def CelN (n : Nat) (w : World) (p : Addr) (l : List Int) : Prop := ∃ A C, w.cell? p = some (.slice A l.length C) ∧ (A = none → C = 0) ∧ l.length ≤ C ∧ C ≤ 9223372036854775807 ∧ RowN n w A l
def PtsN (n : Nat) (w : World) (a : Option Addr) (ps : List Prt) : Prop :=
  ps = [] ∨ ∃ b off, a = some ⟨b, off, none⟩ ∧ n ≤ b ∧ b < w.heap.size ∧ ∀ r, r < ps.length → w.cell? ⟨b, off + r * 2, none⟩ = some (.int .i64 (prt ps r).1) ∧ CelN n w ⟨b, off + r * 2 + 1, none⟩ (prt ps r).2
theorem PtsN.pts {n : Nat} {w : World} {a : Option Addr} {ps : List Prt} (h : PtsN n w a ps) : Pts w a ps := by
  rcases h with h | ⟨b, off, e, _, hb, hc⟩
  · exact Or.inl h
  · refine Or.inr ⟨b, off, e, hb, fun r hr => ⟨(hc r hr).1, ?_⟩⟩
    obtain ⟨A, C, h1, h2, h3, h4, h5⟩ := (hc r hr).2
    exact ⟨A, C, h1, h2, h3, h4, h5.row⟩
theorem PtsN.mono {n m : Nat} {w : World} {a : Option Addr} {ps : List Prt} (h : PtsN n w a ps) (hm : m ≤ n) : PtsN m w a ps := by
  rcases h with h | ⟨b, off, e, hn, hb, hc⟩
  · exact Or.inl h
  · refine Or.inr ⟨b, off, e, Nat.le_trans hm hn, hb, fun r hr => ⟨(hc r hr).1, ?_⟩⟩
    obtain ⟨A, C, h1, h2, h3, h4, h5⟩ := (hc r hr).2
    exact ⟨A, C, h1, h2, h3, h4, h5.mono hm⟩
theorem PtsN.below {n : Nat} {w w' : World} {a : Option Addr} {ps : List Prt} (h : PtsN n w a ps) (hb : Below w.heap.size w w') : PtsN n w' a ps := by
  rcases h with h | ⟨b, off, e, hn, hb', hc⟩
  · exact Or.inl h
  · refine Or.inr ⟨b, off, e, hn, Nat.lt_of_lt_of_le hb' hb.size, fun r hr => ⟨(hb.cell (p := ⟨b, off + r * 2, none⟩) hb').trans (hc r hr).1, ?_⟩⟩
    obtain ⟨A, C, h1, h2, h3, h4, h5⟩ := (hc r hr).2
    exact ⟨A, C, (hb.cell (p := ⟨b, off + r * 2 + 1, none⟩) hb').trans h1, h2, h3, h4, h5.below hb⟩
theorem PtsN.but {n c : Nat} {w w' : World} {a : Option Addr} {ps : List Prt} (h : PtsN n w a ps) (hg : w.grownBy w' (some c)) (hc' : c < n) : PtsN n w' a ps := by
  rcases h with h | ⟨b, off, e, hn, hb', hc⟩
  · exact Or.inl h
  · have hk : ∀ j, w'.cell? ⟨b, j, none⟩ = w.cell? ⟨b, j, none⟩ := fun j => World.cell?_of_block (a := ⟨b, j, none⟩) (hg.block b hb' (fun e => by cases e; omega))
    refine Or.inr ⟨b, off, e, hn, Nat.lt_of_lt_of_le hb' hg.size, fun r hr => ⟨(hk _).trans (hc r hr).1, ?_⟩⟩
    obtain ⟨A, C, h1, h2, h3, h4, h5⟩ := (hc r hr).2
    exact ⟨A, C, (hk _).trans h1, h2, h3, h4, h5.but hg hc'⟩
theorem PtsN.at {n : Nat} {w : World} {a : Option Addr} {ps : List Prt} (h : PtsN n w a ps) {k : Nat} (hk : k < ps.length) :
    ∃ b off, a = some ⟨b, off, none⟩ ∧ n ≤ b ∧ b < w.heap.size ∧ ∀ r, r < ps.length → w.cell? ⟨b, off + r * 2, none⟩ = some (.int .i64 (prt ps r).1) ∧ CelN n w ⟨b, off + r * 2 + 1, none⟩ (prt ps r).2 := by
  rcases h with h | h
  · subst h; exact absurd hk (by simp)
  · exact h
/-- A value that is a slice of these integers, behind a mark. -/
def SliN (n : Nat) (w : World) (V : Value) (l : List Int) : Prop := ∃ A C, V = .slice A l.length C ∧ (A = none → C = 0) ∧ l.length ≤ C ∧ C ≤ 9223372036854775807 ∧ RowN n w A l
theorem HasP.ptsN {w : World} {base : Nat} {v : Value} {qs : List (Int × Value)} {ps : List Prt} (h : HasP w base v qs) (hl : ps.length = qs.length) (hc : ∀ r, r < ps.length → ∃ V, qs[r]? = some ((prt ps r).1, V) ∧ SliN base w V (prt ps r).2) :
    ∃ a cap, v = .slice a ps.length cap ∧ PtsN base w a ps ∧ ps.length ≤ cap ∧ cap ≤ 9223372036854775807 := by
  have h' := h
  rcases h.2 with ⟨h1, h2⟩ | ⟨g, cap, cur, hv, hb, hg, hn, hm, _⟩
  · have e : ps = [] := List.length_eq_zero_iff.1 (by omega)
    subst e
    exact ⟨none, 0, h1, Or.inl rfl, Nat.le_refl _, by omega⟩
  · refine ⟨some ⟨g, 0, none⟩, cap, by rw [hl]; exact hv, ?_, by omega, by simpa [maxLen] using hm⟩
    by_cases hl0 : ps = []
    · exact Or.inl hl0
    · refine Or.inr ⟨g, 0, rfl, hb, (Array.getElem?_eq_some_iff.1 hg).1, fun j hj => ?_⟩
      subst hv
      obtain ⟨V, hV, A, C, s1, s2, s3, s4, s5⟩ := hc j hj
      obtain ⟨c0, c1⟩ := h'.get rfl hV
      rw [Nat.zero_add]
      exact ⟨c0, A, C, by rw [c1, s1], s2, s3, s4, s5⟩

end Go.Proofs.YtjojeifoddonnakGreatDoor.Frm

/-
  Parts that get their gains first, and their pulses then.
-/
namespace Go.Proofs.YtjojeifoddonnakGreatDoor.Frm
open Go.RowKit
open Go.Proofs.YtjojeifoddonnakGreatDoor.Tre Go.Proofs.YtjojeifoddonnakGreatDoor.Bnd Go.Proofs.YtjojeifoddonnakGreatDoor.Pls Go.Proofs.YtjojeifoddonnakGreatDoor.Gai Go.Proofs.YtjojeifoddonnakGreatDoor.Shr
set_option linter.unusedVariables false

theorem given_is {gs s : List Int} {B : Int} (hs : Sizes s) (h8 : s.length ≤ 8) (hB : 0 ≤ B) : Inv s (vals gs) B (given gs s B) := (share_is (d := vals gs) hs h8 hB).1
/-- Who is not loud gets none. -/
theorem given_low {ll : List (List Int)} {s : List Int} {B : Int} (hs : Sizes s) (h8 : s.length ≤ 8) (hB : 0 ≤ B) (hl : ll.length = s.length) {i : Nat} (hi : i < s.length) :
    0 ≤ at0 (given (gls ll) s B) i ∧ at0 (given (gls ll) s B) i ≤ 8 ∧ ((at0 (given (gls ll) s B) i).toNat = 0 ∨ 0 < loud (rowAt ll i)) := by
  have h := given_is (gs := gls ll) hs h8 hB
  have h1 := h.pls i (by rw [h.len]; exact hi)
  refine ⟨h1.1, h1.2, ?_⟩
  by_cases hz : loud (rowAt ll i) = 0
  · left
    have e : at0 (vals (gls ll)) i = 0 := by
      rw [vals_at _ (by rw [gls_length, hl]; exact hi), gls_at (by rw [hl]; exact hi), hz]
      rfl
    rw [h.low i (by rw [h.len]; exact hi) e]
    rfl
  · right; omega
/-- Gains, without pulses yet. -/
def q0 (gs : List Int) (k : Nat) : List (Int × Value) := (gs.take k).map fun g => (g, .slice none 0 0)
theorem q0_length {gs : List Int} {k : Nat} (h : k ≤ gs.length) : (q0 gs k).length = k := by simp [q0]; omega
theorem q0_step {gs : List Int} {k : Nat} (h : k < gs.length) : q0 gs (k + 1) = q0 gs k ++ [(at0 gs k, .slice none 0 0)] := by
  have e : at0 gs k = gs[k] := by simp [at0, h]
  unfold q0
  rw [List.take_succ_eq_append_getElem h, List.map_append, e]
  rfl
theorem q0_at {gs : List Int} {k r : Nat} (h : r < k) (hk : k ≤ gs.length) : (q0 gs k)[r]? = some (at0 gs r, .slice none 0 0) := by
  have e : at0 gs r = gs[r]'(by omega) := by simp [at0, show r < gs.length by omega]
  unfold q0
  rw [List.getElem?_map, List.getElem?_take, if_pos h, List.getElem?_eq_getElem (by omega), e]
  rfl
def bare (gs : List Int) : List Prt := gs.map fun g => (g, [])
theorem bare_length (gs : List Int) : (bare gs).length = gs.length := by simp [bare]
theorem bare_at {gs : List Int} {r : Nat} (h : r < gs.length) : prt (bare gs) r = (at0 gs r, []) := by
  have e : at0 gs r = gs[r] := by simp [at0, h]
  rw [prt_get (by rw [bare_length]; exact h), e]
  simp [bare]
theorem bare_gns (gs : List Int) : gns (bare gs) = gs := by simp [gns, bare, Function.comp_def]
theorem sli_nil (w : World) : Sli w (.slice none 0 0) [] := ⟨none, 0, rfl, fun _ => rfl, Nat.le_refl _, by omega, Or.inl rfl⟩

/-- One part's pulses are set. -/
theorem parts_put {wr w2 : World} {n0 n1 g N c j : Nat} {qs : List (Int × Value)} {gs : List Int} {P : Nat → List Int → Prop} {v : Value} {lj : List Int} (hS : HasP wr n0 (.slice (some ⟨g, 0, none⟩) N c) qs) (hq : qs.length = N) (hj : j < N) (hgn : g < n1) (hn1 : n1 ≤ wr.heap.size)
    (hA : ∀ r, r < N → ∃ V, qs[r]? = some (at0 gs r, V)) (hd : ∀ r, r < j → ∃ V l, qs[r]? = some (at0 gs r, V) ∧ Has wr n1 V l ∧ P r l) (hv : Has w2 wr.heap.size v lj) (hP : P j lj) (hb : Below wr.heap.size wr w2) :
    HasP (w2.setCell ⟨g, j * 2 + 1, none⟩ v) n0 (.slice (some ⟨g, 0, none⟩) N c) (qs.set j (at0 gs j, v)) ∧ (∀ r, r < N → ∃ V, (qs.set j (at0 gs j, v))[r]? = some (at0 gs r, V)) ∧
      (∀ r, r < j + 1 → ∃ V l, (qs.set j (at0 gs j, v))[r]? = some (at0 gs r, V) ∧ Has (w2.setCell ⟨g, j * 2 + 1, none⟩ v) n1 V l ∧ P r l) := by
  obtain ⟨Vj, hVj⟩ := hA j hj
  obtain ⟨h1, h2⟩ := (hS.below hb).put hq.symm hVj v
  have hk : ∀ (V : Value) (m : List Int), Has w2 n1 V m → Has (w2.setCell ⟨g, j * 2 + 1, none⟩ v) n1 V m := by
    intro V m hV
    refine hV.kept h2 ?_
    cases hb' : V.ownBlock with
    | none => exact Or.inl rfl
    | some k =>
      refine Or.inr fun e => ?_
      cases e
      have := (hV.lt _ hb').1
      omega
  refine ⟨h1, fun r hr => ?_, fun r hr => ?_⟩
  · by_cases e : r = j
    · subst e
      exact ⟨v, by rw [List.getElem?_set_self (by omega)]⟩
    · obtain ⟨V, hV⟩ := hA r hr
      exact ⟨V, by rw [List.getElem?_set_ne (by omega)]; exact hV⟩
  · by_cases e : r = j
    · subst e
      exact ⟨v, lj, by rw [List.getElem?_set_self (by omega)], hk _ _ (hv.mono hn1), hP⟩
    · obtain ⟨V, l, hV, hH, hp⟩ := hd r (by omega)
      exact ⟨V, l, by rw [List.getElem?_set_ne (by omega)]; exact hV, hk _ _ (hH.below hb), hp⟩
/-- All are set: what is to be read. -/
theorem parts_done {w : World} {n0 n1 : Nat} {v : Value} {qs : List (Int × Value)} {gs : List Int} {P : Nat → List Int → Prop} (hS : HasP w n0 v qs) (hq : qs.length = gs.length) (hd : ∀ r, r < gs.length → ∃ V l, qs[r]? = some (at0 gs r, V) ∧ Has w n1 V l ∧ P r l) :
    ∃ ps : List Prt, ps.length = gs.length ∧ (∀ r, r < gs.length → (prt ps r).1 = at0 gs r ∧ P r (prt ps r).2) ∧ ∃ a cap, v = .slice a ps.length cap ∧ Pts w a ps ∧ ps.length ≤ cap ∧ cap ≤ 9223372036854775807 := by
  have key : ∀ m, m ≤ gs.length → ∃ ps : List Prt, ps.length = m ∧ ∀ r, r < m → (prt ps r).1 = at0 gs r ∧ P r (prt ps r).2 ∧ ∃ V, qs[r]? = some ((prt ps r).1, V) ∧ Sli w V (prt ps r).2 := by
    intro m
    induction m with
    | zero => intro _; exact ⟨[], rfl, fun r hr => by omega⟩
    | succ m ih =>
      intro hm
      obtain ⟨ps, h1, h2⟩ := ih (by omega)
      obtain ⟨V, l, hV, hH, hp⟩ := hd m (by omega)
      refine ⟨ps ++ [(at0 gs m, l)], by simp [h1], fun r hr => ?_⟩
      by_cases e : r = m
      · subst e
        have e2 : prt (ps ++ [(at0 gs r, l)]) r = (at0 gs r, l) := by rw [← h1]; exact prt_last ps _
        rw [e2]
        exact ⟨rfl, hp, V, hV, hH.sli⟩
      · rw [prt_append (by omega)]
        exact h2 r (by omega)
  obtain ⟨ps, h1, h2⟩ := key gs.length (Nat.le_refl _)
  refine ⟨ps, h1, fun r hr => ⟨(h2 r hr).1, (h2 r hr).2.1⟩, hS.pts (by rw [h1, hq]) fun r hr => ?_⟩
  rw [h1] at hr
  exact (h2 r hr).2.2

/-- .. behind a mark. -/
theorem parts_new {w : World} {n0 n1 : Nat} {v : Value} {qs : List (Int × Value)} {gs : List Int} {P : Nat → List Int → Prop} (hS : HasP w n0 v qs) (h01 : n0 ≤ n1) (hq : qs.length = gs.length) (hd : ∀ r, r < gs.length → ∃ V l, qs[r]? = some (at0 gs r, V) ∧ Has w n1 V l ∧ P r l) :
    ∃ ps : List Prt, ps.length = gs.length ∧ (∀ r, r < gs.length → (prt ps r).1 = at0 gs r ∧ P r (prt ps r).2) ∧ ∃ a cap, v = .slice a ps.length cap ∧ PtsN n0 w a ps ∧ ps.length ≤ cap ∧ cap ≤ 9223372036854775807 := by
  have key : ∀ m, m ≤ gs.length → ∃ ps : List Prt, ps.length = m ∧ ∀ r, r < m → (prt ps r).1 = at0 gs r ∧ P r (prt ps r).2 ∧ ∃ V, qs[r]? = some ((prt ps r).1, V) ∧ SliN n0 w V (prt ps r).2 := by
    intro m
    induction m with
    | zero => intro _; exact ⟨[], rfl, fun r hr => by omega⟩
    | succ m ih =>
      intro hm
      obtain ⟨ps, h1, h2⟩ := ih (by omega)
      obtain ⟨V, l, hV, hH, hp⟩ := hd m (by omega)
      refine ⟨ps ++ [(at0 gs m, l)], by simp [h1], fun r hr => ?_⟩
      by_cases e : r = m
      · subst e
        have e2 : prt (ps ++ [(at0 gs r, l)]) r = (at0 gs r, l) := by rw [← h1]; exact prt_last ps _
        rw [e2]
        obtain ⟨A, C, s1, s2, s3, s4, s5⟩ := rowN_of hH
        exact ⟨rfl, hp, V, hV, A, C, s1, s2, s3, s4, s5.mono h01⟩
      · rw [prt_append (by omega)]
        exact h2 r (by omega)
  obtain ⟨ps, h1, h2⟩ := key gs.length (Nat.le_refl _)
  refine ⟨ps, h1, fun r hr => ⟨(h2 r hr).1, (h2 r hr).2.1⟩, hS.ptsN (by rw [h1, hq]) fun r hr => ?_⟩
  rw [h1] at hr
  exact (h2 r hr).2.2

theorem grownBy_setCellAt (W : World) (g j : Nat) (v : Value) : W.grownBy (W.setCell ⟨g, j, none⟩ v) (some g) :=
  ⟨rfl, rfl, rfl, (KeepsWalks.setCell W _ v).size, fun k _ hk => Below.heap_setCell _ _ _ k (fun e => hk (by rw [e]))⟩

end Go.Proofs.YtjojeifoddonnakGreatDoor.Frm

/-
  Rows and parts that lie in memory in blocks of a set.
-/
namespace Go.Proofs.YtjojeifoddonnakGreatDoor.Frm
open Go.RowKit
open Go.Proofs.YtjojeifoddonnakGreatDoor.Tre
set_option linter.unusedVariables false

/-- A row in a block of a set. -/
def RowIn (R : Nat → Prop) (w : World) (a : Option Addr) (l : List Int) : Prop :=
  l = [] ∨ ∃ b off, a = some ⟨b, off, none⟩ ∧ R b ∧ b < w.heap.size ∧ ∀ j, j < l.length → w.cell? ⟨b, off + j, none⟩ = some (.int .i64 (l.getD j 0))
def CelIn (R : Nat → Prop) (w : World) (p : Addr) (l : List Int) : Prop := ∃ A C, w.cell? p = some (.slice A l.length C) ∧ (A = none → C = 0) ∧ l.length ≤ C ∧ C ≤ 9223372036854775807 ∧ RowIn R w A l
def PtsIn (R : Nat → Prop) (w : World) (a : Option Addr) (ps : List Prt) : Prop :=
  ps = [] ∨ ∃ b off, a = some ⟨b, off, none⟩ ∧ R b ∧ b < w.heap.size ∧ ∀ r, r < ps.length → w.cell? ⟨b, off + r * 2, none⟩ = some (.int .i64 (prt ps r).1) ∧ CelIn R w ⟨b, off + r * 2 + 1, none⟩ (prt ps r).2
/-- A value that is a slice of these integers, in a block of a set. -/
def SliIn (R : Nat → Prop) (w : World) (V : Value) (l : List Int) : Prop := ∃ A C, V = .slice A l.length C ∧ (A = none → C = 0) ∧ l.length ≤ C ∧ C ≤ 9223372036854775807 ∧ RowIn R w A l
section
variable {R S : Nat → Prop} {w w' : World} {a : Option Addr} {l : List Int} {ps : List Prt} {n : Nat}
theorem RowIn.row (h : RowIn R w a l) : Row w a l := by
  rcases h with h | ⟨b, off, e, _, hb, hc⟩
  · exact Or.inl h
  · exact Or.inr ⟨b, off, e, hb, hc⟩
theorem RowIn.mono (h : RowIn R w a l) (hm : ∀ j, R j → S j) : RowIn S w a l := by
  rcases h with h | ⟨b, off, e, hn, hb, hc⟩
  · exact Or.inl h
  · exact Or.inr ⟨b, off, e, hm b hn, hb, hc⟩
theorem RowIn.kept (h : RowIn R w a l) (hz : w.heap.size ≤ w'.heap.size) (hk : ∀ j, R j → j < w.heap.size → w'.heap[j]? = w.heap[j]?) : RowIn R w' a l := by
  rcases h with h | ⟨b, off, e, hn, hb, hc⟩
  · exact Or.inl h
  · refine Or.inr ⟨b, off, e, hn, Nat.lt_of_lt_of_le hb hz, fun j hj => ?_⟩
    rw [World.cell?_of_block (a := ⟨b, off + j, none⟩) (hk b hn hb)]
    exact hc j hj
theorem RowIn.below (h : RowIn R w a l) (hb : Below w.heap.size w w') : RowIn R w' a l := h.kept hb.size (fun j _ hj => hb.block j hj)
theorem RowN.rin (h : RowN n w a l) : RowIn (fun j => n ≤ j ∧ j < w.heap.size) w a l := by
  rcases h with h | ⟨b, off, e, hn, hb, hc⟩
  · exact Or.inl h
  · exact Or.inr ⟨b, off, e, ⟨hn, hb⟩, hb, hc⟩
theorem CelIn.kept {p : Addr} (h : CelIn R w p l) (hz : w.heap.size ≤ w'.heap.size) (hp : w'.cell? p = w.cell? p) (hk : ∀ j, R j → j < w.heap.size → w'.heap[j]? = w.heap[j]?) : CelIn R w' p l := by
  obtain ⟨A, C, h1, h2, h3, h4, h5⟩ := h
  exact ⟨A, C, hp.trans h1, h2, h3, h4, h5.kept hz hk⟩
theorem PtsIn.pts (h : PtsIn R w a ps) : Pts w a ps := by
  rcases h with h | ⟨b, off, e, _, hb, hc⟩
  · exact Or.inl h
  · refine Or.inr ⟨b, off, e, hb, fun r hr => ⟨(hc r hr).1, ?_⟩⟩
    obtain ⟨A, C, h1, h2, h3, h4, h5⟩ := (hc r hr).2
    exact ⟨A, C, h1, h2, h3, h4, h5.row⟩
theorem PtsIn.mono (h : PtsIn R w a ps) (hm : ∀ j, R j → S j) : PtsIn S w a ps := by
  rcases h with h | ⟨b, off, e, hn, hb, hc⟩
  · exact Or.inl h
  · refine Or.inr ⟨b, off, e, hm b hn, hb, fun r hr => ⟨(hc r hr).1, ?_⟩⟩
    obtain ⟨A, C, h1, h2, h3, h4, h5⟩ := (hc r hr).2
    exact ⟨A, C, h1, h2, h3, h4, h5.mono hm⟩
theorem PtsIn.kept (h : PtsIn R w a ps) (hz : w.heap.size ≤ w'.heap.size) (hk : ∀ j, R j → j < w.heap.size → w'.heap[j]? = w.heap[j]?) : PtsIn R w' a ps := by
  rcases h with h | ⟨b, off, e, hn, hb, hc⟩
  · exact Or.inl h
  · have hcell : ∀ j, w'.cell? ⟨b, j, none⟩ = w.cell? ⟨b, j, none⟩ := fun j => World.cell?_of_block (a := ⟨b, j, none⟩) (hk b hn hb)
    exact Or.inr ⟨b, off, e, hn, Nat.lt_of_lt_of_le hb hz, fun r hr => ⟨(hcell _).trans (hc r hr).1, (hc r hr).2.kept hz (hcell _) hk⟩⟩
theorem PtsIn.below (h : PtsIn R w a ps) (hb : Below w.heap.size w w') : PtsIn R w' a ps := h.kept hb.size (fun j _ hj => hb.block j hj)
theorem PtsN.pin (h : PtsN n w a ps) : PtsIn (fun j => n ≤ j ∧ j < w.heap.size) w a ps := by
  rcases h with h | ⟨b, off, e, hn, hb, hc⟩
  · exact Or.inl h
  · refine Or.inr ⟨b, off, e, ⟨hn, hb⟩, hb, fun r hr => ⟨(hc r hr).1, ?_⟩⟩
    obtain ⟨A, C, h1, h2, h3, h4, h5⟩ := (hc r hr).2
    exact ⟨A, C, h1, h2, h3, h4, h5.rin⟩
theorem PtsIn.at (h : PtsIn R w a ps) {k : Nat} (hk : k < ps.length) :
    ∃ b off, a = some ⟨b, off, none⟩ ∧ R b ∧ b < w.heap.size ∧ ∀ r, r < ps.length → w.cell? ⟨b, off + r * 2, none⟩ = some (.int .i64 (prt ps r).1) ∧ CelIn R w ⟨b, off + r * 2 + 1, none⟩ (prt ps r).2 := by
  rcases h with h | h
  · subst h; exact absurd hk (by simp)
  · exact h
end
theorem HasP.ptsIn {R : Nat → Prop} {w : World} {base : Nat} {v : Value} {qs : List (Int × Value)} {ps : List Prt} (h : HasP w base v qs) (hR : ∀ j, base ≤ j → j < w.heap.size → R j) (hl : ps.length = qs.length) (hc : ∀ r, r < ps.length → ∃ V, qs[r]? = some ((prt ps r).1, V) ∧ SliIn R w V (prt ps r).2) :
    ∃ a cap, v = .slice a ps.length cap ∧ PtsIn R w a ps ∧ ps.length ≤ cap ∧ cap ≤ 9223372036854775807 := by
  have h' := h
  rcases h.2 with ⟨h1, h2⟩ | ⟨g, cap, cur, hv, hb, hg, hn, hm, _⟩
  · have e : ps = [] := List.length_eq_zero_iff.1 (by omega)
    subst e
    exact ⟨none, 0, h1, Or.inl rfl, Nat.le_refl _, by omega⟩
  · refine ⟨some ⟨g, 0, none⟩, cap, by rw [hl]; exact hv, ?_, by omega, by simpa [maxLen] using hm⟩
    by_cases hl0 : ps = []
    · exact Or.inl hl0
    · have hgs := (Array.getElem?_eq_some_iff.1 hg).1
      refine Or.inr ⟨g, 0, rfl, hR g hb hgs, hgs, fun j hj => ?_⟩
      subst hv
      obtain ⟨V, hV, A, C, s1, s2, s3, s4, s5⟩ := hc j hj
      obtain ⟨c0, c1⟩ := h'.get rfl hV
      rw [Nat.zero_add]
      exact ⟨c0, A, C, by rw [c1, s1], s2, s3, s4, s5⟩

end Go.Proofs.YtjojeifoddonnakGreatDoor.Frm

/-
  More numbers of chapter 17: what is read without a fault is a frame, and what is one is read without a fault. No program here.
-/
namespace Go.Proofs.YtjojeifoddonnakGreatDoor.Pck
open Go.Proofs.YtjojeifoddonnakGreatDoor.Tre Go.Proofs.YtjojeifoddonnakGreatDoor.Bnd Go.Proofs.YtjojeifoddonnakGreatDoor.Cnt Go.Proofs.YtjojeifoddonnakGreatDoor.Pls Go.Proofs.YtjojeifoddonnakGreatDoor.Gai Go.Proofs.YtjojeifoddonnakGreatDoor.Shr Go.Proofs.YtjojeifoddonnakGreatDoor.Frm Go.Proofs.YtjojeifoddonnakGreatDoor.Wid
set_option linter.unusedVariables false

/-- In how many bits the ranks are. -/
def rws (s gv : List Int) : List Int := upto (fun i => (Bt (at0 gv i).toNat (at0 s i).toNat : Int)) s.length
theorem rws_length (s gv : List Int) : (rws s gv).length = s.length := upto_length _ _
theorem rws_at {s gv : List Int} {i : Nat} (h : i < s.length) : at0 (rws s gv) i = (Bt (at0 gv i).toNat (at0 s i).toNat : Int) := by unfold rws; exact upto_at _ h
theorem rws_pre {s gv : List Int} {j : Nat} (h : j ≤ s.length) : pre (rws s gv) j = cs s gv j := by
  induction j with
  | zero => rfl
  | succ j ih => rw [pre_succ, ih (by omega), rws_at (by omega), Int.toNat_natCast]; rfl
theorem rws_total (s gv : List Int) : total (rws s gv) = cost s gv := by unfold total cost; rw [rws_length, rws_pre (Nat.le_refl _)]
theorem rws_wbs {s : List Int} {B : Int} {ps : List Prt} (h : Right s B ps) : rws s (lds ps) = wbs ps := by
  refine eq_of_at (by rw [rws_length, wbs_length, h.len]) fun i hi => ?_
  rw [rws_length] at hi
  have hi' : i < ps.length := by rw [h.len]; exact hi
  have hf := h.fit i hi'
  rw [rws_at hi, lds_at hi', Int.toNat_natCast, ← hf, Int.toNat_natCast]
  unfold at0 wbs
  rw [List.getElem?_map, List.getElem?_eq_getElem hi', prt_get hi']
  rfl
theorem rws_wds {s gv : List Int} (hs : Sizes s) (hp : Shr.Pls gv) (hl : gv.length = s.length) : Wds (rws s gv) := by
  intro i hi
  rw [rws_length] at hi
  have h1 := hs i hi
  have h2 := hp i (by rw [hl]; exact hi)
  have h3 := Bt_le (k := (at0 gv i).toNat) (n := (at0 s i).toNat) (by omega) (by omega)
  rw [rws_at hi]
  omega
/-- What is right is short. -/
theorem right_short {s : List Int} {B : Int} {ps : List Prt} (h1 : bf s = 0) (hB : 0 ≤ B) (h : Right s B ps) : 6 * ps.length + cost s (lds ps) ≤ 400 ∧ Shr.Pls (lds ps) := by
  obtain ⟨n0, n8, hsz, n32⟩ := bf_ok h1
  have hinv : Inv s (vals (gns ps)) B (given (gns ps) s B) := given_is hsz n8 hB
  rw [(h.costs h1 hB).1]
  have := cs_le hsz hinv.pls hinv.len (Nat.le_refl _)
  have e := h.len
  unfold cost
  exact ⟨by omega, hinv.pls⟩
theorem right_pck {s : List Int} {B : Int} {ps : List Prt} (h1 : bf s = 0) (hB : 0 ≤ B) (h4 : B ≤ 400) (h : Right s B ps) : PckF ps s B 0 ∧ putF (nums ps) (wids ps) = 0 := by
  have h2 := (right_short h1 hB h).1
  exact ⟨Or.inr ⟨h.frm h1 ⟨hB, h4⟩, by rw [if_neg (by omega)]⟩, by rw [pack_put h, if_neg (by omega)]⟩

theorem pre_six {n j : Nat} (h : j ≤ n) : pre (List.replicate n (6 : Int)) j = 6 * j := by
  induction j with
  | zero => rfl
  | succ j ih =>
    have e : at0 (List.replicate n (6 : Int)) j = 6 := by
      unfold at0
      rw [List.getElem?_replicate, if_pos (by omega)]
      rfl
    rw [pre_succ, ih (by omega), e]
    omega
theorem six_at {n j : Nat} (h : j < n) : at0 (List.replicate n (6 : Int)) j = 6 := by
  unfold at0
  rw [List.getElem?_replicate, if_pos h]
  rfl
/-- The gains are read. -/
theorem gets_six {A : List Int} {n : Nat} (hA : Bit A) (hn : n ≤ 8) (h : 6 * n ≤ A.length) : getF (A.take (6 * n)) (List.replicate n 6) = 0 ∧ gets (A.take (6 * n)) (List.replicate n 6) = rgs A n := by
  have hl : (A.take (6 * n)).length = 6 * n := by rw [List.length_take]; omega
  have ht : total (List.replicate n (6 : Int)) = 6 * n := by unfold total; rw [List.length_replicate, pre_six (Nat.le_refl _)]
  refine ⟨getF_zero.2 ⟨⟨by omega, bit_take hA _⟩, fun i hi => ?_, by rw [ht, hl]⟩, ?_⟩
  · rw [List.length_replicate] at hi
    rw [six_at hi]
    omega
  · unfold gets rgs
    rw [List.length_replicate]
    refine eq_of_at (by rw [upto_length, upto_length]) fun i hi => ?_
    rw [upto_length] at hi
    rw [upto_at _ hi, upto_at _ hi]
    unfold cutAt rg
    rw [pre_six (by omega), six_at hi, List.drop_take, List.take_take, Nat.min_eq_left (by omega)]
    rfl
/-- The ranks are read. -/
theorem gets_rank {A s gv : List Int} (hA : Bit A) (hs : Sizes s) (hp : Shr.Pls gv) (hl : gv.length = s.length) (h4 : 6 * s.length + cost s gv ≤ 400) (h : 6 * s.length + cost s gv ≤ A.length) :
    getF ((A.take (6 * s.length + cost s gv)).drop (6 * s.length)) (rws s gv) = 0 ∧ gets ((A.take (6 * s.length + cost s gv)).drop (6 * s.length)) (rws s gv) = upto (rr A s gv) s.length := by
  have hlen : ((A.take (6 * s.length + cost s gv)).drop (6 * s.length)).length = cost s gv := by rw [List.length_drop, List.length_take]; omega
  refine ⟨getF_zero.2 ⟨⟨by omega, bit_drop (bit_take hA _) _⟩, rws_wds hs hp hl, by rw [rws_total, hlen]⟩, ?_⟩
  unfold gets
  rw [rws_length]
  refine eq_of_at (by rw [upto_length, upto_length]) fun i hi => ?_
  rw [upto_length] at hi
  rw [upto_at _ hi, upto_at _ hi]
  have h1 : cs s gv i + Bt (at0 gv i).toNat (at0 s i).toNat ≤ cost s gv := by
    have := pre_total (rws s gv) (j := i + 1) (by rw [rws_length]; omega)
    rw [pre_succ, rws_pre (by omega), rws_at hi, rws_total, Int.toNat_natCast] at this
    exact this
  unfold cutAt rr
  rw [rws_pre (by omega), rws_at hi, Int.toNat_natCast, List.drop_drop, List.drop_take, List.take_take, Nat.min_eq_left (by omega)]
theorem opn_whole (b : List Int) {K : Nat} (h : K ≤ b.length) (h6 : K ≤ 6) : btF (b.take K) ((8 * K : Nat) : Int) = 0 ∧ (opn (b.take K)).take (8 * K) = (opn b).take (8 * K) := by
  have hl : (b.take K).length = K := by rw [List.length_take]; omega
  refine ⟨btF_zero.2 ⟨by omega, by rw [hl]; omega, fun j h1 h2 => by rw [hl] at h2; omega⟩, ?_⟩
  rw [opn_take b h, List.take_take, Nat.min_self]

section
variable {b s : List Int} {B : Int}
/-- What is read so is a frame. -/
theorem read_is (hb : ∀ x ∈ b, 0 ≤ x ∧ x < 256) (h1 : bf s = 0) (hB : 0 ≤ B) (h4 : B ≤ 400) (hg : ∀ i, i < s.length → gok (rg (opn b) i) = true) (ht : btF b ((6 * s.length + cost s (rgv (opn b) s B) : Nat) : Int) = 0)
    {ps : List Prt} (hl : ps.length = s.length) (hp : ∀ i, i < s.length → (prt ps i).1 = rg (opn b) i ∧ Rd (opn b) s (rgv (opn b) s B) i (prt ps i).2) : IsP b s B ps := by
  obtain ⟨n0, n8, hsz, n32⟩ := bf_ok h1
  have hgn : gns ps = rgs (opn b) s.length := by
    refine eq_of_at (by rw [gns_length, rgs, upto_length, hl]) fun i hi => ?_
    rw [gns_length] at hi
    unfold rgs
    rw [gns_at hi, upto_at _ (by rw [← hl]; exact hi), (hp i (by rw [← hl]; exact hi)).1]
  have hgv : given (gns ps) s B = rgv (opn b) s B := by rw [hgn]; rfl
  have hinv : Inv s (vals (rgs (opn b) s.length)) B (rgv (opn b) s B) := given_is hsz n8 hB
  have hr : Right s B ps := by
    refine ⟨hl, fun i hi => ?_, fun i hi => ?_, fun i hi => ?_⟩
    · have hi' : i < s.length := by rw [← hl]; exact hi
      obtain ⟨z1, z2, z3⟩ := (hp i hi').2
      have := hsz i hi'
      omega
    · have hi' : i < s.length := by rw [← hl]; exact hi
      obtain ⟨z1, z2, z3⟩ := (hp i hi').2
      have h1 := hsz i hi'
      have h2 := hinv.pls i (by rw [hinv.len]; exact hi')
      exact ⟨by rw [(hp i hi').1]; exact hg i hi', fault_none (by omega) (loud_all (by omega)) (by omega)⟩
    · have hi' : i < s.length := by rw [← hl]; exact hi
      obtain ⟨z1, z2, z3⟩ := (hp i hi').2
      have h2 := hinv.pls i (by rw [hinv.len]; exact hi')
      rw [hgv]
      omega
  have hld : lds ps = rgv (opn b) s B := by rw [(hr.costs h1 hB).1, hgv]
  obtain ⟨t1, t2, t3⟩ := btF_zero.1 ht
  refine ⟨hr.frm h1 ⟨hB, h4⟩, by rw [hld, hl]; exact t1, ?_⟩
  have hA : Bit (opn b) := opn_bit hb
  have htot : total (wids ps) = 6 * s.length + cost s (rgv (opn b) s B) := by rw [pack_total hr, hld, hl]
  have hlA : 6 * s.length + cost s (rgv (opn b) s B) ≤ (opn b).length := by rw [opn_length]; omega
  have hlen : ((opn b).take (6 * s.length + cost s (rgv (opn b) s B))).length = 6 * s.length + cost s (rgv (opn b) s B) := by rw [List.length_take]; omega
  have hget : gets ((opn b).take (6 * s.length + cost s (rgv (opn b) s B))) (wids ps) = nums ps := by
    refine eq_of_at (by rw [gets_length, wids_length, nums_length]) fun i hi => ?_
    rw [gets_length, wids_length] at hi
    unfold gets
    rw [upto_at _ (by rw [wids_length]; exact hi)]
    by_cases e : i < ps.length
    · rw [nums_gain e, (hp i (by omega)).1]
      unfold cutAt rg
      rw [pre_gains (by omega), wids_gain e, List.drop_take, List.take_take, Nat.min_eq_left (by omega)]
      rfl
    · obtain ⟨j, rfl⟩ : ∃ j, i = ps.length + j := ⟨i - ps.length, by omega⟩
      have hj : j < ps.length := by omega
      have hj' : j < s.length := by omega
      obtain ⟨z1, z2, z3⟩ := (hp j hj').2
      have h1 : cs s (rgv (opn b) s B) j + Bt (at0 (rgv (opn b) s B) j).toNat (at0 s j).toNat ≤ cost s (rgv (opn b) s B) := by
        have := pre_total (rws s (rgv (opn b) s B)) (j := j + 1) (by rw [rws_length]; omega)
        rw [pre_succ, rws_pre (by omega), rws_at hj', rws_total, Int.toNat_natCast] at this
        exact this
      rw [nums_rank hj]
      unfold cutAt
      rw [pre_ranks hr (by omega), wids_rank hj, Int.toNat_natCast, hld, z1, z2, z3, hl, List.drop_take, List.take_take, Nat.min_eq_left (by omega)]
      rfl
  have hput := puts_gets (bs := (opn b).take (6 * s.length + cost s (rgv (opn b) s B))) (bit_take hA _) (pack_wds hr) (by rw [htot, hlen])
  rw [hget] at hput
  unfold pbits
  rw [hput]
  exact oct_bits hb t2 t3
/-- What is a frame is read so. -/
theorem IsP.bits {qs : List Prt} (h : IsP b s B qs) : btF b ((6 * s.length + cost s (rgv (opn b) s B) : Nat) : Int) = 0 := by
  have hr := (frm_zero h.1).2.2.2
  have hsz := h.size
  have h4 := h.2.1
  have hb := pack_bit hr
  have hlen := pack_length hr
  have hld := h.given
  rw [hr.len, hld] at h4 hlen
  rw [hld] at hsz
  refine btF_zero.2 ⟨h4, hsz, fun j h1 h2 => ?_⟩
  have e := opn_oct hb j (by rw [hlen]; omega)
  rw [h.2.2] at e
  rw [e, at0_none (by rw [hlen]; exact h1)]
  omega
theorem IsP.least {qs : List Prt} (h : IsP b s B qs) : (6 * s.length + 7) / 8 ≤ b.length := by
  have := h.size
  omega
end

end Go.Proofs.YtjojeifoddonnakGreatDoor.Pck

/-
  make of parts: of this call's own, without a gain and without pulses; a gain is set.
-/
namespace Go.Proofs.YtjojeifoddonnakGreatDoor.Frm
open Go.RowKit
open Go.Proofs.YtjojeifoddonnakGreatDoor.Tre
set_option linter.unusedVariables false

/-- The first k gains are set, of n parts. -/
def qz (gs : List Int) (n k : Nat) : List (Int × Value) := (List.range n).map fun i => (if i < k then at0 gs i else 0, .slice none 0 0)
theorem qz_length (gs : List Int) (n k : Nat) : (qz gs n k).length = n := by simp [qz]
theorem qz_at {gs : List Int} {n k i : Nat} (h : i < n) : (qz gs n k)[i]? = some (if i < k then at0 gs i else 0, .slice none 0 0) := by
  simp [qz, h]
theorem qz_zero (gs : List Int) (n : Nat) : qz gs n 0 = List.replicate n (0, .slice none 0 0) := by
  apply List.ext_getElem?
  intro i
  by_cases h : i < n
  · rw [qz_at h, List.getElem?_replicate, if_pos h, if_neg (by omega)]
  · rw [List.getElem?_eq_none (by rw [qz_length]; omega), List.getElem?_replicate, if_neg h]
theorem qz_all (gs : List Int) : qz gs gs.length gs.length = q0 gs gs.length := by
  apply List.ext_getElem?
  intro i
  by_cases h : i < gs.length
  · rw [qz_at h, q0_at h (Nat.le_refl _), if_pos h]
  · rw [List.getElem?_eq_none (by rw [qz_length]; omega), List.getElem?_eq_none (by rw [q0_length (Nat.le_refl _)]; omega)]
theorem qz_set {gs : List Int} {n k : Nat} (h : k < n) {G : Int} (hG : at0 gs k = G) : (qz gs n k).set k (G, .slice none 0 0) = qz gs n (k + 1) := by
  apply List.ext_getElem?
  intro i
  by_cases hi : i < n
  · by_cases e : i = k
    · subst e
      rw [List.getElem?_set_self (by rw [qz_length]; exact h), qz_at h, if_pos (by omega), hG]
    · rw [List.getElem?_set_ne (by omega), qz_at hi, qz_at hi]
      by_cases e2 : i < k
      · rw [if_pos e2, if_pos (by omega)]
      · rw [if_neg e2, if_neg (by omega)]
  · rw [List.getElem?_eq_none (by rw [List.length_set, qz_length]; omega), List.getElem?_eq_none (by rw [qz_length]; omega)]
theorem pcs_set0 {qs : List (Int × Value)} {j : Nat} {q : Int × Value} (h : qs[j]? = some q) (G : Int) : (pcs qs).set (j * 2) (.int .i64 G) = pcs (qs.set j (G, q.2)) := by
  induction qs generalizing j with
  | nil => simp at h
  | cons r qs ih =>
    have e : ∀ x rs, pcs (x :: rs) = .int .i64 x.1 :: x.2 :: pcs rs := fun _ _ => rfl
    cases j with
    | zero =>
      obtain rfl : r = q := by simpa using h
      rfl
    | succ j =>
      have := ih (j := j) (by simpa using h)
      rw [List.set_cons_succ, e, e, ← this, show (j + 1) * 2 = j * 2 + 2 by omega]
      rfl
theorem HasP.put0 {w : World} {base g n c : Nat} {qs : List (Int × Value)} (h : HasP w base (.slice (some ⟨g, 0, none⟩) n c) qs) (hn : n = qs.length) {j : Nat} {q : Int × Value} (hj : qs[j]? = some q) (G : Int) :
    HasP (w.setCell ⟨g, j * 2, none⟩ (.int .i64 G)) base (.slice (some ⟨g, 0, none⟩) n c) (qs.set j (G, q.2)) ∧ w.grownBy (w.setCell ⟨g, j * 2, none⟩ (.int .i64 G)) (some g) := by
  subst hn
  have := World.ownsRow.stored h (j * 2) (.int .i64 G)
  refine ⟨?_, this.2⟩
  unfold HasP
  rw [List.length_set, ← pcs_set0 hj]
  exact this.1
theorem made_parts (n : Nat) : (madeCells #[Value.int .i64 0, .slice none 0 0] (n * 2)).toList = pcs (List.replicate n (0, .slice none 0 0)) := by
  apply List.ext_getElem?
  intro j
  by_cases hj : j < n * 2
  · have hr : (List.replicate n ((0 : Int), Value.slice none 0 0))[j / 2]? = some (0, .slice none 0 0) := by rw [List.getElem?_replicate, if_pos (by omega)]
    obtain ⟨e0, e1⟩ := pcs_at hr
    rcases Nat.mod_two_eq_zero_or_one j with h | h
    · rw [show j / 2 * 2 = j by omega] at e0
      rw [e0]
      simp [madeCells, hj, h]
    · rw [show j / 2 * 2 + 1 = j by omega] at e1
      rw [e1]
      simp [madeCells, hj, h]
  · rw [List.getElem?_eq_none (by simp [madeCells]; omega), List.getElem?_eq_none (by rw [pcs_length, List.length_replicate]; omega)]

theorem wpList_mkp {ops : Array Oper} {rest : List Oper} {o : Oper} {a : Act} {Q : Exit → Act → World → Prop} (w : World) (hgd : o.guard = none) (s : Operand)
    (ho : o.op = .makeSlice 36 s s) (n : Nat) (hs : a.eval s = .int .i64 n) (hn : n ≤ 1000000)
    (h : ∀ w', HasP w' w.heap.size (.slice (some ⟨w.heap.size, 0, none⟩) n n) (List.replicate n (0, .slice none 0 0)) → Below w.heap.size w w' → w.heap.size < w'.heap.size → wpList Tryz.prog ops Q rest (a.put o.dst (.slice (some ⟨w.heap.size, 0, none⟩) n n)) w') :
    wpList Tryz.prog ops Q (o :: rest) a w := by
  obtain ⟨i0, hi, hz0, hz1, hz2⟩ := info_parts info_part
  refine wpList_make_full w hgd s s 36 ho w.heap.size 63 i0 (.agg #[.int .i64 0, .slice none 0 0]) 2 Tryz.underlying36 hi hz0 hz1 _ _ _ _ n hs hs rfl rfl (by rw [hz2]; omega) (by unfold maxLen; omega) (Nat.le_refl _) ?_
  intro w2 hown hgrow
  refine h w2 ?_ ((Below.refl _ _).grown hgrow (Nat.le_refl _) (by intro k hk; cases hk)) ?_
  · unfold HasP
    rw [List.length_replicate, ← made_parts]
    exact hown
  · exact (World.ownsRow.lt hown w.heap.size rfl).2

end Go.Proofs.YtjojeifoddonnakGreatDoor.Frm
