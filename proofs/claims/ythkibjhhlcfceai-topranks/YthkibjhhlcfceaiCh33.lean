/-
  What horn.Encode, Decode and Most are to tell, for their contracts.
-/
import Derived.Test.YthkibjhhlcfceaiCh32
import Derived.Test.YthkibjhhlcfceaiCh28
import Derived.RangeFuncNested
import Derived.RangeFuncBound
import Derived.RangeFuncCalls
import Derived.RangeFuncLeaves
import Derived.Shelf.Abstract
import Derived.Shelf.RegionOpen
import Derived.WalkKit
import Derived.OwnWalkIn
import Derived.TacticsInMore
import Derived.LoopNIn
import Derived.LoopIn
import Derived.Test.YthkibjhhlcfceaiCh00
import Derived.Test.YthkibjhhlcfceaiCh03
namespace Go.Proofs.Ythkibjhhlcfceai.Hrn
open Go.RowKit
open Go.Proofs.Ythkibjhhlcfceai.Tre Go.Proofs.Ythkibjhhlcfceai.Scl
set_option linter.unusedVariables false

/-- What Decode tells: the row of these bytes, or that they are none. -/
def Tld (f bs : List Int) (n : Nat) (w : World) (e : Ending) (w' : World) : Prop :=
  ((∃ v l, e = .returned (.tuple #[v, .nilIface]) ∧ IsRow f bs n l ∧ Has w' w.heap.size v l) ∨ (e = .returned (.tuple #[.slice none 0 0, .iface 52 (.int .i64 2)]) ∧ ∀ l, ¬ IsRow f bs n l)) ∧ Below w.heap.size w w'
theorem Tld.row {f bs : List Int} {n : Nat} {w w' : World} {e : Ending} (hf : right f) {l : List Int} (h : Tld f bs n w e w') (hl : IsRow f bs n l) : ∃ v, e = .returned (.tuple #[v, .nilIface]) ∧ Has w' w.heap.size v l ∧ Below w.heap.size w w' := by
  obtain ⟨h1 | h1, hb⟩ := h
  · obtain ⟨v, m, he, hm, hh⟩ := h1
    rw [IsRow.one hf hl hm]
    exact ⟨v, he, hh, hb⟩
  · exact absurd hl (h1.2 l)
theorem Tld.none {f bs : List Int} {n : Nat} {w w' : World} {e : Ending} (h : Tld f bs n w e w') (hl : ∀ l, ¬ IsRow f bs n l) : e = .returned (.tuple #[.slice none 0 0, .iface 52 (.int .i64 2)]) ∧ Below w.heap.size w w' := by
  obtain ⟨h1 | h1, hb⟩ := h
  · obtain ⟨v, m, he, hm, hh⟩ := h1
    exact absurd hm (hl m)
  · exact ⟨h1.1, hb⟩

theorem fact_byts : Byts [1, 0, 0] := by intro b hb; simp at hb; omega
theorem fact_same : ((str [1, 0, 0]).toList == [1, 0, 0]) = true := by rw [str_toList]; rfl
theorem code_nil (f : List Int) : code f [] = [1, 0, 0] := rfl
theorem isRow_nil (f : List Int) : IsRow f [1, 0, 0] 0 [] := ⟨rfl, fun s hs => by simp at hs, rfl⟩
theorem isRow_code {f l : List Int} (hl : Signs f l) : IsRow f (code f l) l.length l := ⟨rfl, hl, rfl⟩

end Go.Proofs.Ythkibjhhlcfceai.Hrn

/-
  Words for a range over a function: what a round keeps, rows below a mark, boxes beside slices of this call's own.
-/
namespace Go.Proofs.Ythkibjhhlcfceai.Itr
open Go.RowKit Go.Shelf
open Go.Proofs.Ythkibjhhlcfceai.Tre
set_option linter.unusedVariables false

/-- What a round must keep: all below n₀, and the box. -/
def Kp (n₀ Bs : Nat) (W W' : World) : Prop := Below n₀ W W' ∧ W'.heap[Bs]? = W.heap[Bs]?
theorem Kp.refl (n₀ Bs : Nat) (W : World) : Kp n₀ Bs W W := ⟨Below.refl _ _, rfl⟩
theorem Kp.trans {n₀ Bs : Nat} {A B C : World} (h : Kp n₀ Bs A B) (k : Kp n₀ Bs B C) : Kp n₀ Bs A C := ⟨h.1.trans k.1, k.2.trans h.2⟩
theorem Kp.cell {n₀ Bs : Nat} {A B : World} (h : Kp n₀ Bs A B) {v : Value} (hc : A.cell? ⟨Bs, 0, none⟩ = some v) : B.cell? ⟨Bs, 0, none⟩ = some v :=
  (World.cell?_of_block (a := ⟨Bs, 0, none⟩) h.2).trans hc

/-- A row that lies below n₀. -/
def RowB (n₀ : Nat) (w : World) (a : Option Addr) (l : List Int) : Prop :=
  l = [] ∨ ∃ b off, a = some ⟨b, off, none⟩ ∧ b < n₀ ∧ ∀ j, j < l.length → w.cell? ⟨b, off + j, none⟩ = some (.int .i64 (l.getD j 0))
theorem RowB.at {n₀ : Nat} {w : World} {a : Option Addr} {l : List Int} (h : RowB n₀ w a l) (hk : 0 < l.length) :
    ∃ b off, a = some ⟨b, off, none⟩ ∧ b < n₀ ∧ ∀ j, j < l.length → w.cell? ⟨b, off + j, none⟩ = some (.int .i64 (l.getD j 0)) := by
  rcases h with h | h
  · subst h; exact absurd hk (by simp)
  · exact h
theorem RowB.below {n₀ : Nat} {w w' : World} {a : Option Addr} {l : List Int} (h : RowB n₀ w a l) (hb : Below n₀ w w') : RowB n₀ w' a l := by
  rcases h with h | ⟨b, off, ha, hlt, hc⟩
  · exact Or.inl h
  · exact Or.inr ⟨b, off, ha, hlt, fun j hj => (hb.cell (p := ⟨b, off + j, none⟩) hlt).trans (hc j hj)⟩
theorem rowB_of {w : World} {a : Option Addr} {l : List Int} (h : Row w a l) : RowB w.heap.size w a l := h

theorem drew_by (w : World) : w.grownBy w.drew none := ⟨rfl, rfl, rfl, Nat.le_refl _, fun _ _ _ => rfl⟩
theorem drewN_by (w : World) (n : Nat) : w.grownBy (w.drewN n) none := ⟨rfl, rfl, rfl, Nat.le_refl _, fun _ _ _ => rfl⟩

theorem kp_b {w : World} {n₀ Bs : Nat} (hn : n₀ ≤ w.heap.size) (hs : Bs < w.heap.size) : ∀ (W : World) (l : Nat) (o o' : Obj), w.heap.size ≤ l → W.heap[l]? = some o → o.isCells = false → o.isWalk = false → Kp n₀ Bs W (W.putObj l o') :=
  fun W l o o' hl _ _ _ => ⟨⟨rfl, rfl, rfl, by simp, fun k hk => World.putObj_heap_other (by omega)⟩, World.putObj_heap_other (by omega)⟩

theorem boxed_keeps {X Y : World} {row : Option Nat} {B : Nat} {t : TypeId} {v : Value} (h : Boxed X B t v) (hg : X.grownBy Y row) (hrow : ∀ r, row = some r → ∃ o : Obj, X.heap[r]? = some o ∧ o.isCells = false) : Boxed Y B t v := by
  refine h.kept hg fun e' => ?_
  obtain ⟨o, ho, hc⟩ := hrow B e'.symm
  rw [show X.heap[B]? = _ from h] at ho; cases ho; cases hc
theorem row_keeps {e : TypeId} {X Y : World} {row : Option Nat} {n₀ n : Nat} {v : Value} {xs : List Value} (h : X.ownsRow n₀ e 1 v n xs) (hg : X.grownBy Y row) (hrow : ∀ r, row = some r → ∃ o : Obj, X.heap[r]? = some o ∧ o.isCells = false) : Y.ownsRow n₀ e 1 v n xs := by
  refine World.ownsRow.kept h hg ?_
  rcases h.2 with ⟨rfl, _⟩ | ⟨g, cap, cur, rfl, _, hgb, _⟩
  · exact .inl rfl
  · refine .inr fun e' => ?_
    obtain ⟨o, ho, hc⟩ := hrow g (by simpa [Value.ownBlock] using e'.symm)
    rw [hgb] at ho; cases ho; cases hc
theorem row_others {e : TypeId} {W w1 : World} {n₀ n : Nat} {v : Value} {xs : List Value} (h : W.ownsRow n₀ e 1 v n xs) (hg : W.grownBy w1 v.ownBlock) : KeepsOthers W w1 := by
  refine KeepsOthers.of_grownBy hg fun j o ej hj => ?_
  rcases h.2 with ⟨rfl, _⟩ | ⟨g, cap, cur, rfl, _, hgb, _⟩
  · simp [Value.ownBlock] at ej
  · obtain rfl : g = j := by simpa [Value.ownBlock] using ej
    rw [hgb] at hj; cases hj; rfl
theorem row_box {e : TypeId} {W : World} {n₀ n B : Nat} {t : TypeId} {v u : Value} {xs : List Value} (h : W.ownsRow n₀ e 1 v n xs) (hb : Boxed W B t u) (ht : t ≠ e) (u' : Value) : (W.setCell ⟨B, 0, none⟩ u').ownsRow n₀ e 1 v n xs :=
  World.ownsRow.kept h (grownBy_setCell' W B u') (Or.inr (hb.not_row ht h).symm)

end Go.Proofs.Ythkibjhhlcfceai.Itr

/-
  slices.Backward of integers: the iterator, by its contract.
-/
namespace Go.Proofs.Ythkibjhhlcfceai.Itr
open Go.RowKit Go.Shelf
open Go.Proofs.Ythkibjhhlcfceai.Tre
set_option linter.unusedVariables false
attribute [local go_sem] Oper.semAt_some

/-- The number at a place; behind the last one the last. -/
def cl (l : List Int) (i : Nat) : Int := at0 l (min i (l.length - 1))
theorem cl_at {l : List Int} {i : Nat} (h : i < l.length) : cl l i = at0 l i := by
  unfold cl
  rw [Nat.min_eq_left (by omega)]
theorem cl_mem {l : List Int} (h : 0 < l.length) (i : Nat) : cl l i ∈ l := by
  unfold cl
  have hm : min i (l.length - 1) < l.length := by omega
  have e : at0 l (min i (l.length - 1)) = l[min i (l.length - 1)] := by simp [at0, hm]
  rw [e]
  exact List.getElem_mem hm
/-- The first k of the places of N, the last one first. -/
def dn (N k : Nat) : List Nat := (List.range k).map fun t => N - 1 - t
theorem dn_succ (N k : Nat) : dn N (k + 1) = dn N k ++ [N - 1 - k] := by simp [dn, List.range_succ]
theorem dn_length (N k : Nat) : (dn N k).length = k := by simp [dn]
theorem dn_all (l : List Int) : (dn l.length l.length).reverse.map (cl l) = l := by
  refine eq_of_at (by simp [dn]) fun i hi => ?_
  have hi' : i < l.length := by simpa [dn] using hi
  have e : ((dn l.length l.length).reverse.map (cl l))[i]? = some (cl l i) := by
    rw [List.getElem?_map, List.getElem?_reverse (by rw [dn_length]; exact hi'), dn_length]
    unfold dn
    rw [List.getElem?_map, List.getElem?_range (by omega)]
    simp only [Option.map_some]
    have : l.length - 1 - (l.length - 1 - i) = i := by omega
    rw [this]
  rw [show at0 ((dn l.length l.length).reverse.map (cl l)) i = cl l i by unfold at0; rw [e]; rfl, cl_at hi']

abbrev encB (l : List Int) (i : Nat) : Array Value := #[.int .i64 i, .int .i64 (cl l i)]

set_option maxRecDepth 100000 in
set_option maxHeartbeats 4000000 in
theorem backward1 (n : Nat) (hn : 1 ≤ n) (L Bs n₀ : Nat) (a : Option Addr) (cap : Nat) (l : List Int) (hl : l.length ≤ 1000) (J Jx : List Nat → World → Prop) (W : World)
    (hJ : AbidesFrom W.heap.size J)
    (hY : ∀ pre x W1, J pre W1 → pre.length < l.length → YieldAt Fence.wide (n - 1) Try.prog L (encB l x) W1 fun e W' =>
      (e = .returned (.bool true) ∧ J (pre ++ [x]) W' ∧ Kp n₀ Bs W1 W') ∨ (e = .returned (.bool false) ∧ Jx (pre ++ [x]) W'))
    (hBs : W.cell? ⟨Bs, 0, none⟩ = some (.slice a l.length cap)) (hr : RowB n₀ W a l) (h0 : J [] W) :
    CallsIn Fence.wide n Try.prog 59 #[.func (.yield L) #[] #[], .pointer (some ⟨Bs, 0, none⟩)] W fun e W' => (∃ v, e = .returned v) ∧
      ((∃ ys, ys = dn l.length l.length ∧ J ys W') ∨ (∃ pre, (∃ k, k ≤ l.length ∧ pre = dn l.length k) ∧ Jx pre W')) := by
  have hmx : Try.prog.follows .mixedOrders = true := by kernel_rfl
  obtain ⟨N, hN⟩ : ∃ N, l.length = N := ⟨_, rfl⟩
  have HN := hide hN
  have HY := hide hY
  rw [hN] at hl hBs HY ⊢
  have hs1 : IntKind.i64.wrap ((N : Int) - 1) = (N : Int) - 1 := IntWalk.i64_in _ (by omega)
  clear hN hY
  refine callsIn_of_wp Try.func59 rfl trivial ?_ rfl
  simp only [Try.ntmps59, List.size_toArray, List.length_cons, List.length_nil, Nat.reduceAdd, Nat.reduceSub, Array.replicate_succ, Array.replicate_zero, List.push_toArray, List.append_toArray, List.nil_append, List.cons_append]
  gi_wp2
  gi_loopw [3] (fun i wr => ∃ k : Nat, k ≤ N ∧ i = .int .i64 ((N : Int) - 1 - k) ∧ J (dn N k) wr ∧ Kp n₀ Bs W wr) (fun i _ => (intOf i + 1).toNat)
  case atStart => exact ⟨0, Nat.zero_le _, by first | rfl | go_num, h0, Kp.refl _ _ _⟩
  case round =>
    obtain ⟨k, hk, rfl, hJs, hK⟩ := hrel
    by_cases hlt : k < N
    · obtain ⟨x, hx⟩ : ∃ x, N - 1 - k = x := ⟨_, rfl⟩
      have hxN : x < N := by omega
      have hxl : x < l.length := by rw [unhide HN]; exact hxN
      have ej : (N : Int) - 1 - (k : Int) = (x : Int) := by omega
      obtain ⟨b, off, rfl, hb, hc⟩ := hr.at (show 0 < l.length by omega)
      obtain ⟨fn, tmps, assign, body, hy, hR⟩ := unhide HY _ x wr hJs (by rw [dn_length]; exact hlt)
      have HDN : Hid (dn N k ++ [x] = dn N (k + 1)) := hide (by rw [dn_succ, hx])
      obtain ⟨y, hy'⟩ : ∃ y, y = cl l x := ⟨_, rfl⟩
      dsimp only [encB] at hy
      rw [← hy'] at hy
      have hB1 := hK.cell hBs
      have hc1 : wr.cell? ⟨b, off + x, none⟩ = some (.int .i64 y) := (hK.1.cell (p := ⟨b, off + x, none⟩) hb).trans ((hc x hxl).trans (by rw [hy', cl_at hxl, List.getD_eq_getElem?_getD]; rfl))
      have hR' := hR.mono (R' := fun e W' => ∃ t : Bool, e = .returned (.bool t) ∧ Hid ((t = true ∧ J (dn N (k + 1)) W' ∧ Kp n₀ Bs wr W') ∨ (t = false ∧ Jx (dn N (k + 1)) W'))) (by
        rw [unhide HDN]
        rintro e W' (⟨rfl, h1, h2⟩ | ⟨rfl, h1⟩)
        · exact ⟨true, rfl, hide (.inl ⟨rfl, h1, h2⟩)⟩
        · exact ⟨false, rfl, hide (.inr ⟨rfl, h1⟩)⟩)
      have hx0 : 0 ≤ (x : Int) := by omega
      have HJ : Hid ((x : Int) - 1 = (N : Int) - 1 - ((k + 1 : Nat) : Int)) := hide (by omega)
      have wj : IntKind.i64.wrap ((x : Int) - 1) = (x : Int) - 1 := IntWalk.i64_in _ (by omega)
      rw [ej]
      clear hR hy' hc hBs HY ej hx hxl hs1
      gi_wp2
      refine hR'.mono ?_
      rintro e W3 ⟨t, rfl, ht⟩
      cases t
      all_goals (rcases unhide ht with ⟨h1, hJ3, hk3⟩ | ⟨h1, hJx3⟩ <;> first | (cases h1; done) | clear h1 ht)
      all_goals (first
        | (gi_wp2
           go_roundw
           case rel => exact ⟨k + 1, by omega, by rw [← unhide HJ], hJ3, hK.trans hk3⟩
           case measure => simp [intOf]; try omega)
        | (gi_wp2
           refine bodyPost_ret (results_none rfl _ _ _) rfl ?_
           exact ⟨⟨_, rfl⟩, .inr ⟨_, ⟨k + 1, by omega, rfl⟩, hJx3⟩⟩))
    · obtain rfl : k = N := by omega
      have hd : decide ((0 : Int) ≤ (k : Int) - 1 - (k : Int)) = false := by simp; omega
      gi_wp2
      go_end0
      exact ⟨⟨_, rfl⟩, .inl ⟨_, rfl, hJs⟩⟩

theorem backward_stops (n : Nat) (hn : 1 ≤ n) (Bs n₀ : Nat) (a : Option Addr) (cap : Nat) (l : List Int) (hl : l.length ≤ 1000) (w : World) (hlt : Bs < w.heap.size) (hn₀ : n₀ ≤ w.heap.size)
    (hBs : w.cell? ⟨Bs, 0, none⟩ = some (.slice a l.length cap)) (hr : RowB n₀ w a l) :
    SeqStopsK Fence.wide n Try.prog 59 #[.pointer (some ⟨Bs, 0, none⟩)] (encB l) (Kp n₀ Bs) (fun ys => ys = dn l.length l.length) (fun pre => ∃ k, k ≤ l.length ∧ pre = dn l.length k) l.length w := fun L J Jx W hW hJ _ hY h0 =>
  backward1 n hn L Bs n₀ a cap l hl J Jx W hJ hY ((hW.cell (p := ⟨Bs, 0, none⟩) hlt).trans hBs) (hr.below (hW.mono hn₀)) h0

theorem backward_in (n : Nat) (a : Option Addr) (len cap : Nat) (w : World) :
    CallsIn Fence.wide n Try.prog 26 #[.slice a len cap] w fun e w' => e = .returned (.func (.func 59) #[] #[.pointer (some ⟨w.heap.size, 0, none⟩)]) ∧ w' = w.alloc (.cells #[.slice a len cap] 23) := by
  refine callsIn_of_wp Try.func26 rfl trivial ?_ rfl
  simp only [Try.ntmps26, List.size_toArray, List.length_cons, List.length_nil, Nat.reduceAdd, Nat.reduceSub, Array.replicate_succ, Array.replicate_zero, List.push_toArray, List.append_toArray, List.nil_append, List.cons_append]
  gi_wp2
  go_ret
  exact ⟨rfl, rfl⟩

end Go.Proofs.Ythkibjhhlcfceai.Itr
