/-
  tree.facing: the iterator, by its contract.
-/
import Derived.Test.YtjnmogmagngenaeTreeIter
import Derived.Sort.QuietIn
namespace Go.Proofs.Ytjnmogmagngenae.Tre
open Go.RowKit Go.Shelf
set_option linter.unusedVariables false
attribute [local go_sem] Oper.semAt_some

theorem drewN_by (w : World) (n : Nat) : w.grownBy (w.drewN n) none := ⟨rfl, rfl, rfl, Nat.le_refl _, fun _ _ _ => rfl⟩

abbrev encF (l : List Int) (i : Nat) : Array Value := #[.int .i64 (at0 l i), .int .i64 (at0 l (l.length / 2 + i))]

set_option maxRecDepth 100000 in
set_option maxHeartbeats 4000000 in
theorem facing1 (n : Nat) (hn : 1 ≤ n) (L Bs n₀ b off cap : Nat) (l : List Int) (hl : l.length ≤ 1000) (hcap : l.length ≤ cap) (hcm : cap ≤ 9223372036854775807) (hl0 : 0 < l.length / 2) (hb : b < n₀) (J Jx : List Nat → World → Prop) (W : World)
    (hJ : AbidesFrom W.heap.size J)
    (hY : ∀ pre x W1, J pre W1 → pre.length < l.length / 2 → YieldAt Fence.wide (n - 1) Try.prog L (encF l x) W1 fun e W' =>
      (e = .returned (.bool true) ∧ J (pre ++ [x]) W' ∧ Kp n₀ Bs W1 W') ∨ (e = .returned (.bool false) ∧ Jx (pre ++ [x]) W'))
    (hBs : W.cell? ⟨Bs, 0, none⟩ = some (.slice (some ⟨b, off, none⟩) l.length cap)) (hc : ∀ j, j < l.length → W.cell? ⟨b, off + j, none⟩ = some (.int .i64 (l.getD j 0))) (h0 : J [] W) :
    CallsIn Fence.wide n Try.prog 76 #[.func (.yield L) #[] #[], .pointer (some ⟨Bs, 0, none⟩)] W fun e W' => (∃ v, e = .returned v) ∧
      ((∃ ys, ys = List.range (l.length / 2) ∧ J ys W') ∨ (∃ pre, (∃ k, k ≤ l.length / 2 ∧ pre = List.range k) ∧ Jx pre W')) := by
  have hmx : Try.prog.follows .mixedOrders = true := by kernel_rfl
  refine callsIn_of_wp Try.func76 rfl trivial ?_ rfl
  simp only [Try.ntmps76, List.size_toArray, List.length_cons, List.length_nil, Nat.reduceAdd, Nat.reduceSub, Array.replicate_succ, Array.replicate_zero, List.push_toArray, List.append_toArray, List.nil_append, List.cons_append]
  have hq : Int.tdiv (l.length : Int) 2 = ((l.length / 2 : Nat) : Int) := rfl
  gi_wp2
  gi_quiet (fail)
  obtain ⟨V, hV⟩ : ∃ V, V = W.drewN nq := ⟨_, rfl⟩
  have hJ0 : J [] V := by rw [hV]; exact hJ _ _ _ none h0 (drewN_by W nq) (fun r e => by cases e)
  have hVK : Kp n₀ Bs W V := by rw [hV]; exact ⟨⟨rfl, rfl, rfl, Nat.le_refl _, fun _ _ => rfl⟩, rfl⟩
  rw [← hV]
  clear hV
  gi_wp2
  gi_loopw [19] (fun i wr => ∃ k : Nat, k ≤ l.length / 2 ∧ i = .int .i64 k ∧ J (List.range k) wr ∧ Kp n₀ Bs W wr) (fun i _ => l.length / 2 - (intOf i).toNat)
  case atStart => exact ⟨0, Nat.zero_le _, rfl, hJ0, hVK⟩
  case round =>
    obtain ⟨k, hk, rfl, hJs, hK⟩ := hrel
    by_cases hlt : k < l.length / 2
    · obtain ⟨x, hx⟩ : ∃ x, x = at0 l k := ⟨_, rfl⟩
      obtain ⟨y, hy'⟩ : ∃ y, y = at0 l (l.length / 2 + k) := ⟨_, rfl⟩
      obtain ⟨fn, tmps, assign, body, hy, hR⟩ := hY _ k wr hJs (by rw [List.length_range]; exact hlt)
      dsimp only [encF] at hy
      rw [← hx, ← hy'] at hy
      have hc1 : wr.cell? ⟨b, off + k, none⟩ = some (.int .i64 x) := (hK.1.cell (p := ⟨b, off + k, none⟩) hb).trans ((hc k (by omega)).trans (by rw [hx, List.getD_eq_getElem?_getD]; rfl))
      have hc2 : wr.cell? ⟨b, off + l.length / 2 + k, none⟩ = some (.int .i64 y) := (hK.1.cell (p := ⟨b, off + l.length / 2 + k, none⟩) hb).trans (by rw [Nat.add_assoc]; exact (hc (l.length / 2 + k) (by omega)).trans (by rw [hy', List.getD_eq_getElem?_getD]; rfl))
      have HX := hide hx
      have HY := hide hy'
      clear hx hy' hc hBs hY
      have hR' := hR.mono (R' := fun e W' => ∃ t : Bool, e = .returned (.bool t) ∧ Hid ((t = true ∧ J (List.range k ++ [k]) W' ∧ Kp n₀ Bs wr W') ∨ (t = false ∧ Jx (List.range k ++ [k]) W'))) (by
        rintro e W' (⟨rfl, h1, h2⟩ | ⟨rfl, h1⟩)
        · exact ⟨true, rfl, hide (.inl ⟨rfl, h1, h2⟩)⟩
        · exact ⟨false, rfl, hide (.inr ⟨rfl, h1⟩)⟩)
      clear hR
      gi_wp2
      refine hR'.mono ?_
      rintro e W3 ⟨t, rfl, ht⟩
      cases t
      all_goals (rcases unhide ht with ⟨h1, hJ3, hk3⟩ | ⟨h1, hJx3⟩ <;> first | (cases h1; done) | clear h1 ht)
      all_goals (first
        | (gi_wp2
           go_roundw
           case rel => exact ⟨k + 1, by omega, by go_num, by rw [List.range_succ]; exact hJ3, hK.trans hk3⟩
           case measure => simp [intOf]; omega)
        | (gi_wp2
           refine bodyPost_ret (results_none rfl _ _ _) rfl ?_
           exact ⟨⟨_, rfl⟩, .inr ⟨_, ⟨k + 1, by omega, List.range_succ.symm⟩, hJx3⟩⟩))
    · obtain rfl : k = l.length / 2 := by omega
      gi_wp2
      go_end0
      exact ⟨⟨_, rfl⟩, .inl ⟨_, rfl, hJs⟩⟩

set_option maxRecDepth 100000 in
set_option maxHeartbeats 4000000 in
theorem facing1_nil (n : Nat) (L Bs : Nat) (J : List Nat → World → Prop) (W : World) (hJ : AbidesFrom W.heap.size J)
    (hBs : W.cell? ⟨Bs, 0, none⟩ = some (.slice none 0 0)) (h0 : J [] W) :
    CallsIn Fence.wide n Try.prog 76 #[.func (.yield L) #[] #[], .pointer (some ⟨Bs, 0, none⟩)] W fun e W' => (∃ v, e = .returned v) ∧ J [] W' := by
  have hmx : Try.prog.follows .mixedOrders = true := by kernel_rfl
  refine callsIn_of_wp Try.func76 rfl trivial ?_ rfl
  simp only [Try.ntmps76, List.size_toArray, List.length_cons, List.length_nil, Nat.reduceAdd, Nat.reduceSub, Array.replicate_succ, Array.replicate_zero, List.push_toArray, List.append_toArray, List.nil_append, List.cons_append]
  gi_wp2
  gi_quiet (fail)
  obtain ⟨V, hV⟩ : ∃ V, V = W.drewN nq := ⟨_, rfl⟩
  have hJ0 : J [] V := by rw [hV]; exact hJ _ _ _ none h0 (drewN_by W nq) (fun r e => by cases e)
  rw [← hV]
  clear hV
  gi_wp2
  gi_loopw [19] (fun i wr => i = .int .i64 0 ∧ J [] wr) (fun _ _ => 0)
  case atStart => exact ⟨rfl, hJ0⟩
  case round =>
    obtain ⟨rfl, hJs⟩ := hrel
    gi_wp2
    go_end0
    exact ⟨⟨_, rfl⟩, hJs⟩

/-- A slice that may be gone over: none, and nil; or somewhere below n₀, and no longer than its room. -/
def Sl (n₀ : Nat) (w : World) (a : Option Addr) (cap : Nat) (l : List Int) : Prop :=
  (l = [] ∧ a = none ∧ cap = 0) ∨ ∃ b off, a = some ⟨b, off, none⟩ ∧ b < n₀ ∧ 0 < l.length ∧ l.length ≤ cap ∧ cap ≤ 9223372036854775807 ∧ ∀ j, j < l.length → w.cell? ⟨b, off + j, none⟩ = some (.int .i64 (l.getD j 0))
theorem Sl.below {n₀ : Nat} {w w' : World} {a : Option Addr} {cap : Nat} {l : List Int} (h : Sl n₀ w a cap l) (hb : Below n₀ w w') : Sl n₀ w' a cap l := by
  rcases h with h | ⟨b, off, ha, hlt, h0, h1, h2, hc⟩
  · exact Or.inl h
  · exact Or.inr ⟨b, off, ha, hlt, h0, h1, h2, fun j hj => (hb.cell (p := ⟨b, off + j, none⟩) hlt).trans (hc j hj)⟩
theorem Sl.rowB {n₀ : Nat} {w : World} {a : Option Addr} {cap : Nat} {l : List Int} (h : Sl n₀ w a cap l) : RowB n₀ w a l := by
  rcases h with ⟨h, _⟩ | ⟨b, off, ha, hlt, h0, h1, h2, hc⟩
  · exact Or.inl h
  · exact Or.inr ⟨b, off, ha, hlt, hc⟩

theorem neighbours_stops (n : Nat) (hn : 1 ≤ n) (Bs n₀ : Nat) (a : Option Addr) (cap : Nat) (l : List Int) (hl : l.length ≤ 1000) (w : World) (hlt : Bs < w.heap.size) (hn₀ : n₀ ≤ w.heap.size)
    (hBs : w.cell? ⟨Bs, 0, none⟩ = some (.slice a l.length cap)) (hr : Sl n₀ w a cap l) :
    SeqStopsK Fence.wide n Try.prog 73 #[.pointer (some ⟨Bs, 0, none⟩)] (encN l) (Kp n₀ Bs) (fun ys => ys = List.range (l.length / 2)) (fun pre => ∃ k, k ≤ l.length / 2 ∧ pre = List.range k) (l.length / 2) w := fun L J Jx W hW hJ _ hY h0 =>
  neighbours1 n hn L Bs n₀ a cap l hl J Jx W hJ hY ((hW.cell (p := ⟨Bs, 0, none⟩) hlt).trans hBs) (hr.below (hW.mono hn₀)).rowB h0

theorem facing_stops (n : Nat) (hn : 1 ≤ n) (Bs n₀ : Nat) (a : Option Addr) (cap : Nat) (l : List Int) (hl : l.length ≤ 1000) (he : l.length = 2 * (l.length / 2)) (w : World) (hlt : Bs < w.heap.size) (hn₀ : n₀ ≤ w.heap.size)
    (hBs : w.cell? ⟨Bs, 0, none⟩ = some (.slice a l.length cap)) (hr : Sl n₀ w a cap l) :
    SeqStopsK Fence.wide n Try.prog 76 #[.pointer (some ⟨Bs, 0, none⟩)] (encF l) (Kp n₀ Bs) (fun ys => ys = List.range (l.length / 2)) (fun pre => ∃ k, k ≤ l.length / 2 ∧ pre = List.range k) (l.length / 2) w := fun L J Jx W hW hJ _ hY h0 => by
  have hc' := (hW.cell (p := ⟨Bs, 0, none⟩) hlt).trans hBs
  rcases hr.below (hW.mono hn₀) with ⟨rfl, rfl, rfl⟩ | ⟨b, off, rfl, hb, hl0, h1, h2, hc⟩
  · exact (facing1_nil n L Bs J W hJ hc' h0).mono fun e W' ⟨he, hj⟩ => ⟨he, .inl ⟨_, rfl, hj⟩⟩
  · exact facing1 n hn L Bs n₀ b off cap l hl h1 h2 (by omega) hb J Jx W hJ hY hc' hc h0

theorem neighbours_in (n : Nat) (a : Option Addr) (len cap : Nat) (w : World) :
    CallsIn Fence.wide n Try.prog 61 #[.slice a len cap] w fun e w' => e = .returned (.func (.func 73) #[] #[.pointer (some ⟨w.heap.size, 0, none⟩)]) ∧ w' = w.alloc (.cells #[.slice a len cap] 27) := by
  refine callsIn_of_wp Try.func61 rfl trivial ?_ rfl
  simp only [Try.ntmps61, List.size_toArray, List.length_cons, List.length_nil, Nat.reduceAdd, Nat.reduceSub, Array.replicate_succ, Array.replicate_zero, List.push_toArray, List.append_toArray, List.nil_append, List.cons_append]
  gi_wp2
  go_ret
  exact ⟨rfl, rfl⟩
theorem facing_in (n : Nat) (a : Option Addr) (len cap : Nat) (w : World) :
    CallsIn Fence.wide n Try.prog 63 #[.slice a len cap] w fun e w' => e = .returned (.func (.func 76) #[] #[.pointer (some ⟨w.heap.size, 0, none⟩)]) ∧ w' = w.alloc (.cells #[.slice a len cap] 27) := by
  refine callsIn_of_wp Try.func63 rfl trivial ?_ rfl
  simp only [Try.ntmps63, List.size_toArray, List.length_cons, List.length_nil, Nat.reduceAdd, Nat.reduceSub, Array.replicate_succ, Array.replicate_zero, List.push_toArray, List.append_toArray, List.nil_append, List.cons_append]
  gi_wp2
  go_ret
  exact ⟨rfl, rfl⟩

end Go.Proofs.Ytjnmogmagngenae.Tre
