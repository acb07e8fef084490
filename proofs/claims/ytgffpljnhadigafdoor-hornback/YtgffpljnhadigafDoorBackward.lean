/-
  slices.Backward of integers: the iterator, by its contract.
-/
import Derived.Test.YtgffpljnhadigafDoorIterBase
namespace Go.Proofs.YtgffpljnhadigafDoor.Itr
open Go.RowKit Go.Shelf
open Go.Proofs.YtgffpljnhadigafDoor.Tre
set_option linter.unusedVariables false
attribute [local go_sem] Oper.semAt_some

/-- The number at a place; behind the last one the last. -/
def cl (l : List Int) (i : Nat) : Int := at0 l (min i (l.length - 1))
theorem cl_at {l : List Int} {i : Nat} (h : i < l.length) : cl l i = at0 l i := by
  unfold cl
  rw [Nat.min_eq_left (by omega)]
theorem cl_mem {l : List Int} (h : 0 < l.length) (i : Nat) : cl l i ∈ l := by
  unfold cl
  have hm : min i (l.length - 1) < l.length := by omega
  have e : at0 l (min i (l.length - 1)) = l[min i (l.length - 1)] := by simp [at0, hm]
  rw [e]
  exact List.getElem_mem hm
/-- The first k of the places of N, the last one first. -/
def dn (N k : Nat) : List Nat := (List.range k).map fun t => N - 1 - t
theorem dn_succ (N k : Nat) : dn N (k + 1) = dn N k ++ [N - 1 - k] := by simp [dn, List.range_succ]
theorem dn_length (N k : Nat) : (dn N k).length = k := by simp [dn]
theorem dn_all (l : List Int) : (dn l.length l.length).reverse.map (cl l) = l := by
  refine eq_of_at (by simp [dn]) fun i hi => ?_
  have hi' : i < l.length := by simpa [dn] using hi
  have e : ((dn l.length l.length).reverse.map (cl l))[i]? = some (cl l i) := by
    rw [List.getElem?_map, List.getElem?_reverse (by rw [dn_length]; exact hi'), dn_length]
    unfold dn
    rw [List.getElem?_map, List.getElem?_range (by omega)]
    simp only [Option.map_some]
    have : l.length - 1 - (l.length - 1 - i) = i := by omega
    rw [this]
  rw [show at0 ((dn l.length l.length).reverse.map (cl l)) i = cl l i by unfold at0; rw [e]; rfl, cl_at hi']

abbrev encB (l : List Int) (i : Nat) : Array Value := #[.int .i64 i, .int .i64 (cl l i)]

set_option maxRecDepth 100000 in
set_option maxHeartbeats 4000000 in
theorem backward1 (n : Nat) (hn : 1 ≤ n) (L Bs n₀ : Nat) (a : Option Addr) (cap : Nat) (l : List Int) (hl : l.length ≤ 1000) (J Jx : List Nat → World → Prop) (W : World)
    (hJ : AbidesFrom W.heap.size J)
    (hY : ∀ pre x W1, J pre W1 → pre.length < l.length → YieldAt Fence.wide (n - 1) Tryd.prog L (encB l x) W1 fun e W' =>
      (e = .returned (.bool true) ∧ J (pre ++ [x]) W' ∧ Kp n₀ Bs W1 W') ∨ (e = .returned (.bool false) ∧ Jx (pre ++ [x]) W'))
    (hBs : W.cell? ⟨Bs, 0, none⟩ = some (.slice a l.length cap)) (hr : RowB n₀ W a l) (h0 : J [] W) :
    CallsIn Fence.wide n Tryd.prog 42 #[.func (.yield L) #[] #[], .pointer (some ⟨Bs, 0, none⟩)] W fun e W' => (∃ v, e = .returned v) ∧
      ((∃ ys, ys = dn l.length l.length ∧ J ys W') ∨ (∃ pre, (∃ k, k ≤ l.length ∧ pre = dn l.length k) ∧ Jx pre W')) := by
  have hmx : Tryd.prog.follows .mixedOrders = true := by kernel_rfl
  obtain ⟨N, hN⟩ : ∃ N, l.length = N := ⟨_, rfl⟩
  have HN := hide hN
  have HY := hide hY
  rw [hN] at hl hBs HY ⊢
  have hs1 : IntKind.i64.wrap ((N : Int) - 1) = (N : Int) - 1 := IntWalk.i64_in _ (by omega)
  clear hN hY
  refine callsIn_of_wp Tryd.func42 rfl trivial ?_ rfl
  simp only [Tryd.ntmps42, List.size_toArray, List.length_cons, List.length_nil, Nat.reduceAdd, Nat.reduceSub, Array.replicate_succ, Array.replicate_zero, List.push_toArray, List.append_toArray, List.nil_append, List.cons_append]
  gi_wp2
  gi_loopw [3] (fun i wr => ∃ k : Nat, k ≤ N ∧ i = .int .i64 ((N : Int) - 1 - k) ∧ J (dn N k) wr ∧ Kp n₀ Bs W wr) (fun i _ => (intOf i + 1).toNat)
  case atStart => exact ⟨0, Nat.zero_le _, by first | rfl | go_num, h0, Kp.refl _ _ _⟩
  case round =>
    obtain ⟨k, hk, rfl, hJs, hK⟩ := hrel
    by_cases hlt : k < N
    · obtain ⟨x, hx⟩ : ∃ x, N - 1 - k = x := ⟨_, rfl⟩
      have hxN : x < N := by omega
      have hxl : x < l.length := by rw [unhide HN]; exact hxN
      have ej : (N : Int) - 1 - (k : Int) = (x : Int) := by omega
      obtain ⟨b, off, rfl, hb, hc⟩ := hr.at (show 0 < l.length by omega)
      obtain ⟨fn, tmps, assign, body, hy, hR⟩ := unhide HY _ x wr hJs (by rw [dn_length]; exact hlt)
      have HDN : Hid (dn N k ++ [x] = dn N (k + 1)) := hide (by rw [dn_succ, hx])
      obtain ⟨y, hy'⟩ : ∃ y, y = cl l x := ⟨_, rfl⟩
      dsimp only [encB] at hy
      rw [← hy'] at hy
      have hB1 := hK.cell hBs
      have hc1 : wr.cell? ⟨b, off + x, none⟩ = some (.int .i64 y) := (hK.1.cell (p := ⟨b, off + x, none⟩) hb).trans ((hc x hxl).trans (by rw [hy', cl_at hxl, List.getD_eq_getElem?_getD]; rfl))
      have hR' := hR.mono (R' := fun e W' => ∃ t : Bool, e = .returned (.bool t) ∧ Hid ((t = true ∧ J (dn N (k + 1)) W' ∧ Kp n₀ Bs wr W') ∨ (t = false ∧ Jx (dn N (k + 1)) W'))) (by
        rw [unhide HDN]
        rintro e W' (⟨rfl, h1, h2⟩ | ⟨rfl, h1⟩)
        · exact ⟨true, rfl, hide (.inl ⟨rfl, h1, h2⟩)⟩
        · exact ⟨false, rfl, hide (.inr ⟨rfl, h1⟩)⟩)
      have hx0 : 0 ≤ (x : Int) := by omega
      have HJ : Hid ((x : Int) - 1 = (N : Int) - 1 - ((k + 1 : Nat) : Int)) := hide (by omega)
      have wj : IntKind.i64.wrap ((x : Int) - 1) = (x : Int) - 1 := IntWalk.i64_in _ (by omega)
      rw [ej]
      clear hR hy' hc hBs HY ej hx hxl hs1
      gi_wp2
      refine hR'.mono ?_
      rintro e W3 ⟨t, rfl, ht⟩
      cases t
      all_goals (rcases unhide ht with ⟨h1, hJ3, hk3⟩ | ⟨h1, hJx3⟩ <;> first | (cases h1; done) | clear h1 ht)
      all_goals (first
        | (gi_wp2
           go_roundw
           case rel => exact ⟨k + 1, by omega, by rw [← unhide HJ], hJ3, hK.trans hk3⟩
           case measure => simp [intOf]; try omega)
        | (gi_wp2
           refine bodyPost_ret (results_none rfl _ _ _) rfl ?_
           exact ⟨⟨_, rfl⟩, .inr ⟨_, ⟨k + 1, by omega, rfl⟩, hJx3⟩⟩))
    · obtain rfl : k = N := by omega
      have hd : decide ((0 : Int) ≤ (k : Int) - 1 - (k : Int)) = false := by simp; omega
      gi_wp2
      go_end0
      exact ⟨⟨_, rfl⟩, .inl ⟨_, rfl, hJs⟩⟩

theorem backward_stops (n : Nat) (hn : 1 ≤ n) (Bs n₀ : Nat) (a : Option Addr) (cap : Nat) (l : List Int) (hl : l.length ≤ 1000) (w : World) (hlt : Bs < w.heap.size) (hn₀ : n₀ ≤ w.heap.size)
    (hBs : w.cell? ⟨Bs, 0, none⟩ = some (.slice a l.length cap)) (hr : RowB n₀ w a l) :
    SeqStopsK Fence.wide n Tryd.prog 42 #[.pointer (some ⟨Bs, 0, none⟩)] (encB l) (Kp n₀ Bs) (fun ys => ys = dn l.length l.length) (fun pre => ∃ k, k ≤ l.length ∧ pre = dn l.length k) l.length w := fun L J Jx W hW hJ _ hY h0 =>
  backward1 n hn L Bs n₀ a cap l hl J Jx W hJ hY ((hW.cell (p := ⟨Bs, 0, none⟩) hlt).trans hBs) (hr.below (hW.mono hn₀)) h0

theorem backward_in (n : Nat) (a : Option Addr) (len cap : Nat) (w : World) :
    CallsIn Fence.wide n Tryd.prog 30 #[.slice a len cap] w fun e w' => e = .returned (.func (.func 42) #[] #[.pointer (some ⟨w.heap.size, 0, none⟩)]) ∧ w' = w.alloc (.cells #[.slice a len cap] 22) := by
  refine callsIn_of_wp Tryd.func30 rfl trivial ?_ rfl
  simp only [Tryd.ntmps30, List.size_toArray, List.length_cons, List.length_nil, Nat.reduceAdd, Nat.reduceSub, Array.replicate_succ, Array.replicate_zero, List.push_toArray, List.append_toArray, List.nil_append, List.cons_append]
  gi_wp2
  go_ret
  exact ⟨rfl, rfl⟩

end Go.Proofs.YtgffpljnhadigafDoor.Itr
