/-
  A slice of bytes that this call has made itself: what it holds, append of one byte, and one byte read or set.
-/
import Derived.Test.YthkibjhhlcfceaiCh04
import Derived.Deep.QuietTactic
import Derived.BigQuiet
import Derived.Test.YthkibjhhlcfceaiCh20
import Derived.Sort.QuietThIn
import Derived.Sort.QuietTacIn
import Derived.Sort.BigQuietIn
import Derived.OrdersIn
import Derived.RangeFuncCalls
namespace Go.Proofs.Ythkibjhhlcfceai
open Go.RowKit
open Go.Proofs.Ythkibjhhlcfceai.Tre
set_option linter.unusedVariables false

theorem info_byte : (Try.prog.info? 5).map (fun i => (i.zero, i.size, i.bytes)) = some (some (.int .u8 0), 1, 1) := by kernel_rfl

/-- A slice of bytes of this call's own (its block at base or behind) holds l. -/
def HasY (w : World) (base : Nat) (v : Value) (l : List Int) : Prop := w.ownsRow base 5 1 v l.length (l.map (Value.int .u8))

theorem HasY.nil (w : World) (base : Nat) : HasY w base (.slice none 0 0) [] := World.ownsRow_nil _ _ _ _
theorem HasY.kept {w w' : World} {base : Nat} {v : Value} {l : List Int} {row : Option Nat} (h : HasY w base v l) (hg : w.grownBy w' row) (hne : v.ownBlock = none ∨ v.ownBlock ≠ row) : HasY w' base v l := World.ownsRow.kept h hg hne
theorem HasY.alloc {w : World} {base : Nat} {v : Value} {l : List Int} (h : HasY w base v l) (o : Obj) : HasY (w.alloc o) base v l := World.ownsRow.alloc h o
theorem HasY.below {w w' : World} {base : Nat} {v : Value} {l : List Int} (h : HasY w base v l) (hb : Below w.heap.size w w') : HasY w' base v l := by
  refine ⟨h.1, ?_⟩
  rcases h.2 with hn | ⟨g, cap, cur, rfl, hbg, hgg, rest⟩
  · exact .inl hn
  · exact .inr ⟨g, cap, cur, rfl, hbg, (hb.block g (Array.getElem?_eq_some_iff.1 hgg).1).trans hgg, rest⟩
theorem HasY.lt {w : World} {base : Nat} {v : Value} {l : List Int} (h : HasY w base v l) : ∀ k, v.ownBlock = some k → base ≤ k ∧ k < w.heap.size := World.ownsRow.lt h
theorem HasY.shape {w : World} {base : Nat} {v : Value} {l : List Int} (h : HasY w base v l) : ∃ a cap, v = .slice a l.length cap := by
  rcases h.2 with ⟨h1, h2⟩ | ⟨g, cap, cur, hv, _⟩
  · exact ⟨none, 0, by rw [h2]; exact h1⟩
  · exact ⟨some ⟨g, 0, none⟩, cap, hv⟩
theorem HasY.any {w : World} {base : Nat} {v : Value} {l : List Int} (h : HasY w base v l) : ∃ a n cap, v = .slice a n cap := by
  obtain ⟨a, cap, e⟩ := h.shape
  exact ⟨a, _, cap, e⟩
theorem HasY.one {w : World} {base : Nat} {v : Value} {l : List Int} (h : HasY w base v l) (h0 : 0 < l.length) : ∃ g c, v = .slice (some ⟨g, 0, none⟩) l.length c ∧ base ≤ g ∧ g < w.heap.size ∧ l.length ≤ c ∧ c ≤ 9223372036854775807 := by
  rcases h.2 with ⟨_, e⟩ | ⟨g, cap, cur, hv, hb, hg, hn, hm, _⟩
  · omega
  · exact ⟨g, cap, hv, hb, (Array.getElem?_eq_some_iff.1 hg).1, hn, by simpa [maxLen] using hm⟩
theorem HasY.len {w : World} {base g n c : Nat} {l : List Int} (h : HasY w base (.slice (some ⟨g, 0, none⟩) n c) l) : n = l.length := by
  obtain ⟨a, cap, e⟩ := h.shape
  exact (Value.slice.inj e).2.1
theorem HasY.get {w : World} {base g n c : Nat} {l : List Int} (h : HasY w base (.slice (some ⟨g, 0, none⟩) n c) l) {j : Nat} (hj : j < l.length) : w.cell? ⟨g, j, none⟩ = some (.int .u8 (at0 l j)) := by
  obtain rfl := h.len
  rw [World.ownsRow.cellAt h j (by omega)]
  simp [at0, hj]
theorem HasY.put {w : World} {base g n c : Nat} {l : List Int} (h : HasY w base (.slice (some ⟨g, 0, none⟩) n c) l) (j : Nat) (x : Int) :
    HasY (w.setCell ⟨g, j, none⟩ (.int .u8 x)) base (.slice (some ⟨g, 0, none⟩) n c) (l.set j x) ∧ w.grownBy (w.setCell ⟨g, j, none⟩ (.int .u8 x)) (some g) := by
  obtain rfl := h.len
  have := World.ownsRow.stored h j (.int .u8 x)
  rw [← List.map_set] at this
  refine ⟨?_, this.2⟩
  unfold HasY
  rw [List.length_set]
  exact this.1
theorem HasY.frozen {w : World} {base g n c : Nat} {l : List Int} (h : HasY w base (.slice (some ⟨g, 0, none⟩) n c) l) (j : Nat) : w.frozen? ⟨g, j, none⟩ = false := by
  obtain rfl := h.len
  exact World.ownsRow.frozenAt h j

theorem cell_byte (w : World) (x : Int) (t : TypeId) : (w.alloc (.cells #[.int .u8 x] t)).cell? ⟨w.heap.size, 0, none⟩ = some (.int .u8 x) := by rw [World.cell?_alloc_at _ _ _ _ rfl]; rfl
theorem cell_byte' {w : World} {x : Int} {t : TypeId} {n : Nat} (h : w.heap.size = n) : (w.alloc (.cells #[.int .u8 x] t)).cell? ⟨n, 0, none⟩ = some (.int .u8 x) := by subst h; exact cell_byte w x t

/-- append of one byte. -/
theorem run_appy (w : World) (base : Nat) (v : Value) (l : List Int) (x : Int) (ty : TypeId) (hv : HasY w base v l) (b : Nat) (cap : Nat) (hr : w.cell? ⟨b, 0, none⟩ = some (.int .u8 x)) (hlen : l.length + 1 ≤ 1000000) (hbase : base ≤ w.heap.size) :
    ∃ v' w', (Builtin.append_ #[58, 58] ty #[v, .slice (some ⟨b, 0, none⟩) 1 cap]).run Try.prog w = .ok v' w' ∧ HasY w' base v' (l ++ [x]) ∧ w.grownBy w' v.ownBlock ∧ (v'.ownBlock = v.ownBlock ∨ v'.ownBlock = some w.heap.size) := by
  obtain ⟨i, hi, hz0, hz1, hz2⟩ := info_parts info_byte
  have hc : ∀ (j : Nat) (u : Value), ([x].map (Value.int .u8))[j]? = some u → w.cell? ((⟨b, 0, none⟩ : Addr).add j) = some u := by
    intro j u hu
    cases j with
    | zero => simp at hu; rw [addr_plain, Nat.add_zero, hr, hu]
    | succ j => simp at hu
  obtain ⟨v', w', h1, h2, h3, h4, h5⟩ := run_append_own_at (P := Try.prog) w base 58 ty 5 i (.int .u8 0) 1 1 Try.underlying58 hi hz0 hz1 hz2 rfl (by omega) v l.length (l.map (Value.int .u8)) hv ⟨b, 0, none⟩ 1 cap ([x].map (Value.int .u8)) (by simp) hc
    (by intro u hu; obtain ⟨z, _, rfl⟩ := List.mem_map.1 hu; rfl) (by simp only [maxLen]; omega) (by omega) hbase
  refine ⟨v', w', h1, ?_, h3, h5⟩
  unfold HasY
  rw [List.length_append, List.map_append]
  exact h2

theorem wpListIn_appy {F : Fence} {n : Nat} {ops : Array Oper} {rest : List Oper} {o : Oper} {a : Act} {Q : Exit → Act → World → Prop} (w : World) (hgd : o.guard = none) (s x : Operand)
    (ho : o.op = .call { callee := .builtin .append, args := #[s, x], argTypes := #[58, 58] }) (base : Nat) (v : Value) (l : List Int) (c : Int) (b cap : Nat) (hs : a.eval s = v) (hv : HasY w base v l)
    (hx : a.eval x = .slice (some ⟨b, 0, none⟩) 1 cap) (hr : w.cell? ⟨b, 0, none⟩ = some (.int .u8 c)) (hlen : l.length + 1 ≤ 1000000) (hbase : base ≤ w.heap.size)
    (h : ∀ v' w', HasY w' base v' (l ++ [c]) → w.grownBy w' v.ownBlock → (v'.ownBlock = v.ownBlock ∨ v'.ownBlock = some w.heap.size) → wpListIn F n Try.prog ops Q rest (a.put o.dst v') w') :
    wpListIn F n Try.prog ops Q (o :: rest) a w := by
  refine wpListIn_plain hgd fun K hK => ?_
  obtain ⟨v', w', hrun, h2, h3, h4⟩ := run_appy w base v l c o.type hv b cap hr hlen hbase
  unfold Oper.wpIn
  refine ⟨?_, ?_⟩
  · simp [Oper.about, ho, resolve, Target.leads, Sem.run_pure]
  · rw [Oper.semAt_plain F _ _ (by rw [ho]; intro c hc'; cases hc')]
    simp [execOp, ho, resolve, invoke, builtin, hs, hx, hrun, Result.andThen]
    exact hK _ _ (h v' w' h2 h3 h4)

end Go.Proofs.Ythkibjhhlcfceai

/-
  slices.Reverse of bytes: by its contract.
-/
namespace Go.Proofs.Ythkibjhhlcfceai
open Go.RowKit
open Go.Proofs.Ythkibjhhlcfceai.Tre
set_option linter.unusedVariables false

theorem grown_trans {A B C : World} {row : Option Nat} (h : A.grownBy B row) (k : B.grownBy C row) : A.grownBy C row :=
  ⟨k.os.trans h.os, k.tape.trans h.tape, k.output.trans h.output, Nat.le_trans h.size k.size, fun j hj hne => (k.block j (Nat.lt_of_lt_of_le hj h.size) hne).trans (h.block j hj hne)⟩
theorem grown_drew (w : World) (n : Nat) (row : Option Nat) : w.grownBy (w.drewN n) row := ⟨rfl, rfl, rfl, Nat.le_refl _, fun _ _ _ => rfl⟩

/-- The first i and the last i are exchanged. -/
def rvs (l : List Int) (n i : Nat) : List Int := upto (fun t => if t < i ∨ n - i ≤ t then at0 l (n - 1 - t) else at0 l t) n
theorem rvs_at {l : List Int} {n i t : Nat} (h : t < n) : at0 (rvs l n i) t = if t < i ∨ n - i ≤ t then at0 l (n - 1 - t) else at0 l t := upto_at _ h
theorem rvs_length (l : List Int) (n i : Nat) : (rvs l n i).length = n := upto_length _ _
theorem rvs_zero {l : List Int} {n : Nat} (h : l.length = n) : rvs l n 0 = l := by
  refine eq_of_at (by rw [rvs_length, h]) fun t ht => ?_
  rw [rvs_length] at ht
  rw [rvs_at ht, if_neg (by omega)]
theorem rvs_all {l : List Int} {n i : Nat} (h : l.length = n) (hi : n ≤ 2 * i + 1) : rvs l n i = l.reverse := by
  refine eq_of_at (by rw [rvs_length, List.length_reverse, h]) fun t ht => ?_
  rw [rvs_length] at ht
  rw [rvs_at ht]
  have e : at0 l.reverse t = at0 l (n - 1 - t) := by
    unfold at0
    rw [List.getElem?_reverse (by omega), h]
  rw [e]
  split
  · rfl
  · have : n - 1 - t = t := by omega
    rw [this]
theorem rvs_step {l : List Int} {n i j : Nat} (hj : j + i + 1 = n) (h : i < j) : ((rvs l n i).set i (at0 l j)).set j (at0 l i) = rvs l n (i + 1) := by
  refine eq_of_at (by rw [List.length_set, List.length_set, rvs_length, rvs_length]) fun t ht => ?_
  rw [List.length_set, List.length_set, rvs_length] at ht
  have hs : ∀ (m : List Int) (k : Nat) (x : Int), k < m.length → at0 (m.set k x) t = if t = k then x else at0 m t := by
    intro m k x hk
    by_cases e : k = t
    · subst e
      rw [if_pos rfl]
      unfold at0
      rw [List.getElem?_set_self hk]; rfl
    · rw [if_neg (fun h => e h.symm)]
      unfold at0
      rw [List.getElem?_set_ne e]
  rw [hs _ _ _ (by rw [List.length_set, rvs_length]; omega), hs _ _ _ (by rw [rvs_length]; omega), rvs_at ht, rvs_at ht]
  by_cases e1 : t = j
  · rw [if_pos e1, if_pos (by omega)]
    have : n - 1 - t = i := by omega
    rw [this]
  · rw [if_neg e1]
    by_cases e2 : t = i
    · rw [if_pos e2, if_pos (by omega)]
      have : n - 1 - t = j := by omega
      rw [this]
    · rw [if_neg e2]
      by_cases e3 : t < i ∨ n - i ≤ t
      · rw [if_pos e3, if_pos (by omega)]
      · rw [if_neg e3, if_neg (by omega)]

set_option maxRecDepth 100000 in
set_option maxHeartbeats 4000000 in
theorem reverse (g n c base : Nat) (l : List Int) (w : World) (hn : n ≤ 1000) (hv : HasY w base (.slice (some ⟨g, 0, none⟩) n c) l) :
    Calls Try.prog 27 #[.slice (some ⟨g, 0, none⟩) n c] w fun e w' => e = .returned (.tuple #[]) ∧ HasY w' base (.slice (some ⟨g, 0, none⟩) n c) l.reverse ∧ w.grownBy w' (some g) := by
  have HL := hide hv.len.symm
  have h0 : HasY w base (.slice (some ⟨g, 0, none⟩) n c) (rvs l n 0) := by rw [rvs_zero (unhide HL)]; exact hv
  have hs1 : IntKind.i64.wrap ((n : Int) - 1) = (n : Int) - 1 := IntWalk.i64_in _ (by omega)
  clear hv
  go_enter Try.func27, Try.ntmps27
  go_wp2
  go_loopw [2, 3] (fun vi vj wr => ∃ i : Nat, vi = .int .i64 i ∧ vj = .int .i64 ((n : Int) - 1 - i) ∧ i ≤ n ∧ HasY wr base (.slice (some ⟨g, 0, none⟩) n c) (rvs l n i) ∧ w.grownBy wr (some g)) (fun vi _ _ => n - (intOf vi).toNat)
  case atStart => exact ⟨0, rfl, by first | rfl | go_num, Nat.zero_le _, h0, World.grownBy.refl _ _⟩
  case round =>
    obtain ⟨i, rfl, rfl, hi, hv, hg⟩ := hrel
    clear h0
    by_cases hlt : 2 * i + 1 < n
    · obtain ⟨j, hj⟩ : ∃ j, j + i + 1 = n := ⟨n - 1 - i, by omega⟩
      have hij : i < j := by omega
      have ej : (n : Int) - 1 - (i : Int) = (j : Int) := by omega
      have HST := hide (rvs_step (l := l) hj hij)
      have c1 := hv.get (j := i) (by rw [rvs_length]; omega)
      have c2 := hv.get (j := j) (by rw [rvs_length]; omega)
      rw [rvs_at (by omega), if_neg (by omega)] at c1 c2
      have f1 := hv.frozen i
      have f2 := hv.frozen j
      obtain ⟨X, hX⟩ : ∃ X, at0 l i = X := ⟨_, rfl⟩
      obtain ⟨Y, hY⟩ : ∃ Y, at0 l j = Y := ⟨_, rfl⟩
      rw [hX] at c1 HST
      rw [hY] at c2 HST
      have hd : decide ((i : Int) < (j : Int)) = true := by simpa using hij
      have hd' : decide (i < j) = true := by simpa using hij
      have hjn : j < n := by omega
      have hin : i < n := by omega
      have HJ : Hid ((j : Int) - 1 = (n : Int) - 1 - ((i + 1 : Nat) : Int)) := hide (by omega)
      have wj : IntKind.i64.wrap ((j : Int) - 1) = (j : Int) - 1 := IntWalk.i64_in _ (by omega)
      rw [ej]
      clear hX hY ej hj hs1
      go_wp2
      go_region
      have m1 := HasY.put (show HasY wr.drew _ _ _ from hv) i Y
      have m2 := m1.1.put j X
      rw [unhide HST] at m2
      have hg3 := grown_trans hg (grown_trans (grown_drew wr 1 (some g)) (grown_trans m1.2 m2.2))
      go_wp2
      go_roundw
      case rel => exact ⟨i + 1, by go_num, by rw [← unhide HJ], by omega, m2.1, hg3⟩
      case measure => simp [intOf]; omega
    · have hd : decide ((i : Int) < (n : Int) - 1 - (i : Int)) = false := by simp; omega
      have HR := hide (rvs_all (l := l) (i := i) (unhide HL) (by omega))
      rw [unhide HR] at hv
      clear HR
      go_wp2
      go_end0
      exact ⟨rfl, hv, hg⟩

end Go.Proofs.Ythkibjhhlcfceai

/-
  A region that draws its order, in a round of a range over a function, whose operations only read but for the last one, which waits for all others: one walk of the text's order serves every order.
-/
namespace Go.Proofs.Ythkibjhhlcfceai.Itr
open Go.RowKit
set_option linter.unusedVariables false

section
variable {F : Fence} {n : Nat} {P : Program} {C : World → Prop} {ops ops' : Array Oper} {k : Nat} {o o' : Oper} {L : Nat}

theorem quiet_round {p : Oper} {a : Act} {K : Act → Prop} {K' : Act → World → Prop} {Q : Exit → Act → World → Prop} {w : World} (hnd : ∀ c, p.op ≠ .defer c) (hw : C w) (h : ∀ a w', C w' → K a → K' a w')
    (ha : p.askedIn F P a C) (hq : p.quietIn F n P a C K) : p.wpIn (F.inRound L) n P a w K' Q := by
  obtain ⟨v, h1, h2⟩ := hq
  have h3 := h1 w hw
  refine ⟨ha w hw, ?_⟩
  rw [Fence.inRound_round, Oper.semAt_some _ _ _ hnd]
  unfold Oper.quietAtIn at h3
  cases hr : (execOp a.eval p).run P w with
  | halt x w' => rw [hr] at h3; exact h3.elim
  | ok x w' =>
    rw [hr] at h3
    cases x with
    | value u =>
      obtain ⟨rfl, rfl⟩ := h3
      exact h _ _ hw h2
    | skip =>
      obtain ⟨rfl, rfl⟩ := h3
      exact h _ _ hw h2
    | enter f args =>
      obtain ⟨rfl, hd, hc⟩ := h3
      exact ⟨hd, CallsIn.inRound L (hc.mono fun e w'' ⟨he, hw''⟩ => by subst he; exact h _ _ hw'' h2)⟩
    | _ => exact h3.elim

theorem any_last {Q1 : Act → Prop} {Q : Exit → Act → World → Prop} (h : Lasts ops ops' k o o') (hQ : ∀ a w, C w → Q1 a → o.wpIn (F.inRound L) n P a w (fun a w => Q .normal a w) Q) :
    ∀ (fuel : Nat) (s : Array Bool) (a : Act) (w : World), s.size = k + 1 → s.getD k true = false → C w → wpAnyQIn F n P .any ops' C Q1 fuel s a → wpAnyIn (F.inRound L) n P .any ops Q fuel s a w := by
  have rd : ∀ s, Region.ready .any ops' s = [] ↔ Region.ready .any ops s = [] := fun s => by
    rw [List.eq_nil_iff_forall_not_mem, List.eq_nil_iff_forall_not_mem]
    exact ⟨fun x i hi => x i ((h.ready s i).2 hi), fun x i hi => x i ((h.ready s i).1 hi)⟩
  intro fuel
  induction fuel with
  | zero =>
    intro s a w hs hk hw hh
    exact absurd ((rd s).1 hh.1) (h.goes s hs hk)
  | succ fuel ih =>
    intro s a w hs hk hw hh
    refine ⟨fun h0 => absurd h0 (h.goes s hs hk), fun i hi => ?_⟩
    have hq := hh.2 i ((h.ready s i).2 hi)
    by_cases e : i = k
    · subst e
      obtain ⟨v, _, hK⟩ := yieldsQuiet_of_qOpIn h.at_k' hq
      rw [h.dst'] at hK
      have hend := h.ends s hs hi
      have hq1 : Q1 a := by
        cases fuel with
        | zero => exact hK.2
        | succ m => exact hK.1 ((rd _).2 hend)
      unfold wpOpIn
      simp only [h.at_k]
      have hwt : Region.wanted o (yielded ops a.tmps) = true := by simp [Region.wanted, (h.plain i o h.at_k).1]
      rw [if_pos hwt]
      refine Oper.wpIn_mono (fun a' w' hn => ?_) (hQ a w hw hq1)
      cases fuel with
      | zero => exact ⟨hend, hn⟩
      | succ m => exact ⟨fun _ => hn, fun j hj => by rw [hend] at hj; cases hj⟩
    · unfold qOpIn at hq
      unfold wpOpIn
      rw [h.same i e] at hq
      cases hp : ops[i]? with
      | none =>
        obtain ⟨_, q, h2, _⟩ := mem_ready.1 hi
        rw [hp] at h2; cases h2
      | some p =>
        simp only [hp] at hq ⊢
        obtain ⟨hg, hnd⟩ := h.plain i p hp
        have hwt : ∀ ops2, Region.wanted p (yielded ops2 a.tmps) = true := fun ops2 => by simp [Region.wanted, hg]
        rw [if_pos (hwt _)] at hq ⊢
        refine quiet_round hnd hw (fun a' w' hw' hk' => ih _ a' w' (by simp [hs]) ?_ hw' hk') hq.1 hq.2
        have e1 : (s.setIfInBounds i true).getD k true = s.getD k true := by simp [Array.getD, show k < s.size by omega, e]
        rw [e1]; exact hk
end

/-- A region that draws its order, in a round: the text's order, the last operation behind all others. -/
theorem region_last {F : Fence} {n : Nat} {P : Program} {L id : Nat} {Q : Exit → Act → World → Prop} {a : Act} {w : World} {l : List Oper} (o : Oper) (ho : l.getLast? = some o) (hm : P.follows .mixedOrders = true) (hB : Region.lexB .any (calm l).toArray = true) (hf : fits l = true)
    (h : wpQuietIn F n P (calm l).toArray (fun w' => ∃ n, w' = w.drewN n) (fun a' => ∀ w', (∃ n, w' = w.drewN n) → o.wpIn (F.inRound L) n P a' w' (fun a w => Q .normal a w) Q) (calm l) a) :
    (Code.region id l.toArray true).wpIn (F.inRound L) n P Q a w := by
  obtain ⟨o2, ho2, hL⟩ := lasts_of hf
  rw [ho] at ho2
  cases ho2
  have hne : 0 < l.length := by
    cases l with
    | nil => cases ho
    | cons a b => simp
  simp only [Region.lexB, Bool.and_eq_true] at hB
  have h2 := wpAnyQIn_lex (F := F) (n := n) (C := fun w' => ∃ n, w' = w.drewN n) (md := .any) hB.1 (calm l) 0 (Array.replicate (calm l).toArray.size false) a (by simp) (by simpa using hB.2) h
  refine wpIn_region_any hm (any_last hL (Q1 := fun a' => ∀ w', (∃ n, w' = w.drewN n) → o.wpIn (F.inRound L) n P a' w' (fun a w => Q .normal a w) Q) (fun a w hw hq => hq w hw) _ _ _ _ (by simp; omega) (by simp [Array.getD]; omega) ⟨1, rfl⟩ ?_)
  have e1 : l.toArray.size = (calm l).length := by rw [calm_length]; simp
  have e2 : Array.replicate l.toArray.size false = Array.replicate (calm l).toArray.size false := by rw [e1]; simp
  rw [e2, e1]
  exact h2

end Go.Proofs.Ythkibjhhlcfceai.Itr
