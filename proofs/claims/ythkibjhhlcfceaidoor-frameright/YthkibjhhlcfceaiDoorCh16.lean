/-
  share.outside, share.check: by their contracts.
-/
import Derived.Test.YthkibjhhlcfceaiDoorCh02
import Derived.Test.YthkibjhhlcfceaiDoorCh06
import Derived.Test.YthkibjhhlcfceaiDoorCh05
import Derived.Test.YthkibjhhlcfceaiDoorCh04
import Derived.Laws.CopyOwn
import Derived.Deep.RegionLaw
import Derived.Deep.WholeRow
namespace Go.Proofs.YthkibjhhlcfceaiDoor.Shr
open Go.RowKit
open Go.Proofs.YthkibjhhlcfceaiDoor.Tre Go.Proofs.YthkibjhhlcfceaiDoor.Cnt Go.Proofs.YthkibjhhlcfceaiDoor.Bnd
set_option linter.unusedVariables false

/-- A number is not from 0 to m. -/
def outs (m n : Int) : Bool := decide (n < 0) || decide (m < n)
theorem any_of (c : Int) (l : List Int) (k : Nat) (hk : k < l.length) (h : outs c l[k] = true) : l.any (outs c) = true :=
  List.any_eq_true.2 ⟨l[k], List.getElem_mem hk, h⟩
theorem any_step (c : Int) (l : List Int) (k : Nat) (hk : k < l.length) (h0 : (l.take k).any (outs c) = false) (h : outs c l[k] = false) : (l.take (k + 1)).any (outs c) = false := by
  rw [List.take_succ_eq_append_getElem hk, List.any_append, h0]
  simp [h]

theorem outside1 (c n : Int) (B : Nat) (w : World) (hc : w.cell? ⟨B, 0, none⟩ = some (.int .i64 c)) :
    Calls Tryd.prog 65 #[.int .i64 n, .pointer (some ⟨B, 0, none⟩)] w fun e w' => e = .returned (.bool (outs c n)) ∧ w' = w := by
  by_cases h1 : n < 0
  · have h3 : decide (n < 0) = true := by simpa using h1
    go_enter Tryd.func65, Tryd.ntmps65
    go_wp2
    go_ret
    exact ⟨by simp [outs, h3], rfl⟩
  · have h2 : decide (n < 0) = false := by simpa using h1
    go_enter Tryd.func65, Tryd.ntmps65
    go_wp2
    go_ret
    exact ⟨by simp [outs, h2], rfl⟩

set_option maxHeartbeats 400000 in
theorem indexFunc (c : Int) (a : Option Addr) (cap : Nat) (l : List Int) (B : Nat) (w : World) (hl : l.length ≤ 9223372036854775807) (hr : Row w a l) (hc : w.cell? ⟨B, 0, none⟩ = some (.int .i64 c)) :
    Calls Tryd.prog 47 #[.slice a l.length cap, .func (.func 65) #[] #[.pointer (some ⟨B, 0, none⟩)]] w
      fun e w' => (∃ r : Int, e = .returned (.int .i64 r) ∧ (decide (0 ≤ r)) = l.any (outs c)) ∧ w' = w := by
  go_enter Tryd.func47, Tryd.ntmps47
  go_wp2
  go_loop [8] (fun i => ∃ k : Nat, k ≤ l.length ∧ i = .int .i64 k ∧ (l.take k).any (outs c) = false) (fun i => l.length - (intOf i).toNat)
  case atStart => exact ⟨0, Nat.zero_le _, rfl, by simp⟩
  case round =>
    obtain ⟨k, hk, rfl, hno⟩ := hrel
    have HNO : Hid ((l.take k).any (outs c) = false) := hno
    clear hno
    by_cases hlt : k < l.length
    · obtain ⟨b, off, rfl, hb, hcs⟩ := hr.at hlt
      have hck := hcs k hlt
      clear hcs
      go_wp2_with (go_at_call 65; refine (outside1 c _ _ _ hc).mono ?_; rintro e w' ⟨rfl, rfl⟩)
      · go_ret
        have hh : outs c l[k] = true := by assumption
        exact ⟨⟨k, rfl, by rw [any_of c l k hlt hh]; simp⟩, rfl⟩
      · have hh : outs c l[k] = false := by assumption
        go_round
        case rel => exact ⟨k + 1, by omega, by go_num, any_step c l k hlt HNO.out hh⟩
        case measure => simp [intOf]; omega
    · go_wp2
      go_ret
      have hh := HNO.out
      rw [List.take_of_length_le (by omega)] at hh
      exact ⟨⟨-1, rfl, by rw [hh]; rfl⟩, rfl⟩

theorem containsFunc (c : Int) (a : Option Addr) (cap : Nat) (l : List Int) (B : Nat) (w : World) (hl : l.length ≤ 9223372036854775807) (hr : Row w a l) (hc : w.cell? ⟨B, 0, none⟩ = some (.int .i64 c)) :
    Calls Tryd.prog 24 #[.slice a l.length cap, .func (.func 65) #[] #[.pointer (some ⟨B, 0, none⟩)]] w
      fun e w' => e = .returned (.bool (l.any (outs c))) ∧ w' = w := by
  go_enter Tryd.func24, Tryd.ntmps24
  go_wp2_with fail
  refine (indexFunc c a cap l B w hl hr hc).mono ?_
  rintro e w' ⟨⟨r, rfl, hr2⟩, rfl⟩
  have HR := hide hr2
  clear hr2
  go_wp2
  go_ret
  exact ⟨by rw [← unhide HR]; rfl, rfl⟩

theorem boxed_cell (w : World) (c : Int) (t : TypeId) : (w.alloc (.cells #[.int .i64 c] t)).cell? ⟨w.heap.size, 0, none⟩ = some (.int .i64 c) := by
  rw [World.cell?_alloc_at _ _ _ _ rfl]; rfl
theorem below_box (w : World) (v : Value) (t : TypeId) : Below w.heap.size w (w.alloc (.cells #[v] t)) := (Below.refl _ _).alloc (Nat.le_refl _) _

theorem outside (c : Int) (w : World) : Calls Tryd.prog 49 #[.int .i64 c] w fun e w' => ∃ B : Nat, e = .returned (.func (.func 65) #[] #[.pointer (some ⟨B, 0, none⟩)]) ∧ w'.cell? ⟨B, 0, none⟩ = some (.int .i64 c) ∧ Below w.heap.size w w' := by
  have hmf : ∀ (fn : Fn) (first cap : Array Value) (w : World), (Instr.makeFunc fn first cap).run Tryd.prog w = .ok (.func fn first cap) w := fun _ _ _ _ => rfl
  go_enter Tryd.func49, Tryd.ntmps49
  go_wp2
  go_ret
  exact ⟨_, rfl, boxed_cell _ _ _, below_box _ _ _⟩

/-- The fault of sizes, and of numbers that bands have. -/
def chkF (s p : List Int) (m : Int) : Int := if bf s = 0 then (if p.length = s.length then (if p.any (outs m) = true then 1 else 0) else 3) else bf s
theorem costF_chk (s p : List Int) : costF s p = chkF s p 8 := rfl
theorem ofF_chk (s d : List Int) (B : Int) : ofF s d B = if chkF s d 8000 = 0 then (if outs 400 B = true then 1 else 0) else chkF s d 8000 := by
  have e : (lou : Int → Bool) = outs 8000 := rfl
  have e2 : (outs 400 B = true) ↔ (B < 0 ∨ 400 < B) := by simp [outs]
  unfold ofF chkF
  rw [e]
  by_cases h1 : bf s = 0
  · rw [if_pos h1, if_pos h1]
    by_cases h2 : d.length = s.length
    · rw [if_pos h2, if_pos h2]
      by_cases h3 : d.any (outs 8000) = true
      · rw [if_pos h3, if_pos h3, if_neg (by omega)]
      · rw [if_neg h3, if_neg h3, if_pos rfl]
        by_cases h4 : B < 0 ∨ 400 < B
        · rw [if_pos h4, if_pos (e2.2 h4)]
        · rw [if_neg h4, if_neg (mt e2.1 h4)]
    · rw [if_neg h2, if_neg h2, if_neg (by omega)]
  · rw [if_neg h1, if_neg h1, if_neg h1]

set_option maxHeartbeats 1000000 in
theorem check (a : Option Addr) (cap : Nat) (s : List Int) (b : Option Addr) (capb : Nat) (p : List Int) (m : Int) (w : World) (zs : s.length ≤ 9223372036854775807) (zp : p.length ≤ 9223372036854775807) (hr : Row w a s) (hp : Row w b p) :
    Calls Tryd.prog 27 #[.slice a s.length cap, .slice b p.length capb, .int .i64 m] w fun e w' => e = .returned (Ev.errV (chkF s p m)) ∧ Below w.heap.size w w' := by
  have HF : Hid (chkF s p m = if bf s = 0 then (if p.length = s.length then (if p.any (outs m) = true then 1 else 0) else 3) else bf s) := hide rfl
  obtain ⟨F, hF⟩ : ∃ F, chkF s p m = F := ⟨_, rfl⟩
  rw [hF] at HF ⊢
  clear hF
  by_cases h1 : bf s = 0
  · have hk := check_ok a cap s w zs hr h1
    have HF1 := unhide HF
    rw [if_pos h1] at HF1
    have HF2 := hide HF1
    obtain ⟨T, hT⟩ : ∃ T, (total s : Int) = T := ⟨_, rfl⟩
    rw [hT] at hk
    have hcf := hide (fun B W h1 h2 => containsFunc m b capb p B W zp h1 h2)
    obtain ⟨N, hN⟩ : ∃ N, s.length = N := ⟨_, rfl⟩
    obtain ⟨M, hM⟩ : ∃ M, p.length = M := ⟨_, rfl⟩
    rw [hN] at hk zs HF2 ⊢
    rw [hM] at hcf zp HF2 ⊢
    clear hT HF HF1 h1 hN hM hr
    by_cases h2 : M = N
    · have hne : ((M : Int) != (N : Int)) = false := by simp [h2]
      have HF3 := unhide HF2
      rw [if_pos h2] at HF3
      have HF4 := hide HF3
      have HP := hide hp
      clear HF2 HF3 h2 hp
      go_enter Tryd.func27, Tryd.ntmps27
      go_wp2_with fail
      refine hk.mono ?_
      clear hk
      rintro e w1 ⟨rfl, rfl⟩
      go_wp2_with fail
      refine (outside m _).mono ?_
      rintro e w2 ⟨B, rfl, hc2, hb2⟩
      go_wp2_with fail
      refine (unhide hcf B w2 ((unhide HP).below hb2) hc2).mono ?_
      rintro e w3 ⟨rfl, rfl⟩
      cases hT : p.any (outs m)
      · have e0 : F = 0 := by rw [unhide HF4, hT]; rfl
        subst e0
        clear HF4 hT
        go_wp2
        go_ret
        exact ⟨rfl, hb2⟩
      · have e0 : F = 1 := by rw [unhide HF4, hT]; rfl
        subst e0
        clear HF4 hT
        go_wp2
        go_ret
        exact ⟨rfl, hb2⟩
    · have hne : ((M : Int) != (N : Int)) = true := by simp; omega
      have HF3 := unhide HF2
      rw [if_neg h2] at HF3
      subst HF3
      clear HF2 h2 hcf hp
      go_enter Tryd.func27, Tryd.ntmps27
      go_wp2_with fail
      refine hk.mono ?_
      clear hk
      rintro e w1 ⟨rfl, rfl⟩
      go_wp2
      go_ret
      exact ⟨rfl, Below.refl _ _⟩
  · have hk := check_no a cap s w zs hr h1
    have e0 := unhide HF
    rw [if_neg h1] at e0
    rw [← e0] at hk h1
    have HE := hide (Ev.errV_ne h1)
    obtain ⟨N, hN⟩ : ∃ N, s.length = N := ⟨_, rfl⟩
    obtain ⟨M, hM⟩ : ∃ M, p.length = M := ⟨_, rfl⟩
    rw [hN] at hk ⊢
    rw [hM]
    clear hN hM zs zp hr hp HF e0 h1
    go_enter Tryd.func27, Tryd.ntmps27
    go_wp2_with fail
    refine hk.mono ?_
    clear hk
    rintro e w1 ⟨rfl, rfl⟩
    go_wp2
    go_ret
    exact ⟨by rw [unhide HE]; rfl, Below.refl _ _⟩

end Go.Proofs.YthkibjhhlcfceaiDoor.Shr

/-
  copy onto a slice of integers that this call has made itself.
-/
namespace Go.Proofs.YthkibjhhlcfceaiDoor
open Go.RowKit
set_option linter.unusedVariables false

theorem size_int : (Tryd.prog.info? 3).map (·.size) = some 1 := by kernel_rfl

set_option maxRecDepth 100000 in
theorem run_cpy (w : World) (base : Nat) (v : Value) (L m : List Int) (ty : TypeId) (hv : Has w base v L) (ad : Option Addr) (cap : Nat) (hr : Row w ad m) (hle : m.length ≤ L.length) :
    ∃ w', (Builtin.copy_ #[22, 22] ty #[v, .slice ad m.length cap]).run Tryd.prog w = .ok (goInt m.length) w' ∧ Has w' base v (m ++ L.drop m.length) ∧ w.grownBy w' v.ownBlock := by
  by_cases hm : m = []
  · subst hm
    obtain ⟨a, c, rfl, _⟩ := hv.row
    exact ⟨w, run_copy_none w _ _ _ 3 _ _ _ _ _ _ Tryd.underlying22 size_int (Nat.min_eq_left (Nat.zero_le _)), by simpa using hv, World.grownBy.refl _ _⟩
  · have hm0 : 0 < m.length := List.length_pos_iff.2 hm
    obtain ⟨b, off, rfl, hb, hcs⟩ := hr.at hm0
    have hlen : L.length = (L.map (Value.int .i64)).length := by simp
    rcases hv.2 with ⟨_, h0⟩ | ⟨g, gcap, cur, rfl, hbg, hg, hnc, hcm, hsz, htake⟩
    · omega
    · have hc : ∀ (j : Nat) (u : Value), (m.map (Value.int .i64))[j]? = some u → w.cell? ((⟨b, off, none⟩ : Addr).add j) = some u := by
        intro j u hu
        have hj : j < m.length := by
          rcases Nat.lt_or_ge j m.length with h | h
          · exact h
          · rw [List.getElem?_eq_none (by simpa using h)] at hu; cases hu
        rw [addr_plain, hcs j hj]
        simp [List.getElem?_map, List.getElem?_eq_getElem hj] at hu
        simp [List.getD_eq_getElem?_getD, List.getElem?_eq_getElem hj, hu]
      have hrun := run_copy_row (P := Tryd.prog) w 22 22 ty 3 g 0 L.length gcap ⟨b, off, none⟩ m.length cap cur 3 (m.map (Value.int .i64)) Tryd.underlying22 size_int hg (by rw [List.length_map]; exact (Nat.min_eq_left hle).symm) hc
        (by rw [List.length_map]; omega) (by intro u hu; obtain ⟨z, _, rfl⟩ := List.mem_map.1 hu; rfl)
      rw [List.length_map] at hrun
      refine ⟨_, hrun, ⟨by simp, .inr ⟨g, gcap, _, ?_, hbg, setRow_heap w g cur _ 3 _ hg, ?_, hcm, ?_, ?_⟩⟩, ⟨rfl, rfl, rfl, by simp [World.setRow], fun k _ hk => setRow_other w g k _ (fun e => hk (by simp [Value.ownBlock, e]))⟩⟩
      · congr 1; simp; omega
      · simp; omega
      · simp; omega
      · have ed : (L.map (Value.int .i64)).drop m.length = (cur.toList.drop m.length).take (L.length - m.length) := by
          rw [← htake, Nat.mul_one, List.drop_take]
        have el : (m ++ L.drop m.length).length = m.length + (L.length - m.length) := by simp
        rw [el, Nat.mul_one, List.map_append, List.map_drop, ed]
        simp only [List.take_zero, List.nil_append, Nat.zero_add]
        rw [List.take_append, List.take_of_length_le (by simp)]
        simp

theorem wpList_cpy {ops : Array Oper} {rest : List Oper} {o : Oper} {a : Act} {Q : Exit → Act → World → Prop} (w : World) (hgd : o.guard = none) (s x : Operand)
    (ho : o.op = .call { callee := .builtin .copy, args := #[s, x], argTypes := #[22, 22] }) (base : Nat) (v : Value) (L m : List Int) (ad : Option Addr) (cap : Nat) (hs : a.eval s = v) (hv : Has w base v L)
    (hx : a.eval x = .slice ad m.length cap) (hr : Row w ad m) (hle : m.length ≤ L.length)
    (h : ∀ w', Has w' base v (m ++ L.drop m.length) → w.grownBy w' v.ownBlock → wpList Tryd.prog ops Q rest (a.put o.dst (goInt m.length)) w') :
    wpList Tryd.prog ops Q (o :: rest) a w := by
  refine wpList_plain hgd fun K hK => ?_
  obtain ⟨w', hrun, h2, h3⟩ := run_cpy w base v L m o.type hv ad cap hr hle
  unfold Oper.wp
  simp [execOp, ho, resolve, invoke, builtin, hs, hx, hrun, Result.andThen]
  exact hK _ _ (h w' h2 h3)

end Go.Proofs.YthkibjhhlcfceaiDoor

/-
  slices.Repeat of one number, seven times: by its contract.
-/
namespace Go.Proofs.YthkibjhhlcfceaiDoor.Cnt
open Go.RowKit
set_option linter.unusedVariables false

theorem mul64 (w : World) :
    Calls Tryd.prog 87 #[.int .u64 1, .int .u64 7] w fun e w' => e = .returned (.tuple #[.int .u64 0, .int .u64 7]) ∧ w = w' := by
  have b1 : bits .and .u64 1 4294967295 = 1 := by decide
  have b7 : bits .and .u64 7 4294967295 = 7 := by decide
  have b0 : bits .and .u64 0 4294967295 = 0 := by decide
  go_enter Tryd.func87, Tryd.ntmps87
  go_wp2
  go_ret2
  exact ⟨rfl, rfl⟩

theorem mul (w : World) :
    Calls Tryd.prog 84 #[.int .u64 1, .int .u64 7] w fun e w' => e = .returned (.tuple #[.int .u64 0, .int .u64 7]) ∧ w = w' := by
  go_enter Tryd.func84, Tryd.ntmps84
  go_wp2_with fail
  refine (mul64 w).mono ?_
  rintro e w' ⟨rfl, rfl⟩
  go_wp2
  go_ret2
  exact ⟨rfl, rfl⟩

/-- j ones, and zeros behind them: seven together. -/
def ones (j : Nat) : List Value := (List.replicate j (1 : Int) ++ List.replicate (7 - j) 0).map (Value.int .i64)

theorem has_ones {w w' : World} (h : w'.heap[w.heap.size]? = some (.cells (ones 7).toArray 3 (0, 0))) : Has w' w.heap.size (.slice (some ⟨w.heap.size, 0, none⟩) 7 7) (List.replicate 7 1) := by
  refine ⟨by rfl, .inr ⟨w.heap.size, 7, _, rfl, Nat.le_refl _, h, by decide, by decide, by rfl, by rfl⟩⟩
theorem ones_at {w' : World} {g : Nat} {j k : Nat} {v : Value} (h : w'.heap[g]? = some (.cells (ones k).toArray 3 (0, 0))) (hv : (ones k)[j]? = some v) : w'.cell? ((⟨g, 0, none⟩ : Addr).add j) = some v := by
  rw [addr_plain, Nat.zero_add]
  simp [World.cell?, h, hv]
theorem ones_sub {j m k : Nat} {v : Value} (hm : m ≤ k) (h : ((List.replicate m (1 : Int)).map (Value.int .i64))[j]? = some v) : (ones k)[j]? = some v := by
  have hj : j < m := by
    rcases Nat.lt_or_ge j m with h' | h'
    · exact h'
    · rw [List.getElem?_eq_none (by simpa using h')] at h; cases h
  unfold ones
  rw [List.map_append, List.getElem?_append_left (by simp; omega)]
  simp only [List.map_replicate, List.getElem?_replicate] at h ⊢
  rw [if_pos hj] at h
  rw [if_pos (by omega)]
  exact h
theorem ones_one {m : Nat} : ∀ v ∈ (List.replicate m (1 : Int)).map (Value.int .i64), v.oneCell' = true := by
  intro v hv
  obtain ⟨z, _, rfl⟩ := List.mem_map.1 hv
  rfl

theorem first_copy (w : World) (b off cap : Nat) (hr : Row w (some ⟨b, off, none⟩) [1]) (ty : TypeId) :
    (Builtin.copy_ #[22, 22] ty #[.slice (some ⟨w.heap.size, 0, none⟩) 7 7, .slice (some ⟨b, off, none⟩) 1 cap]).run Tryd.prog (w.alloc (.cells (ones 0).toArray 3)) = .ok (.int .i64 1) (w.alloc (.cells (ones 1).toArray 3)) := by
  obtain ⟨b', off', e, hb, hc⟩ := hr.at (k := 0) (by decide)
  cases e
  have hrun := run_copy_row (P := Tryd.prog) (w.alloc (.cells (ones 0).toArray 3)) 22 22 ty 3 w.heap.size 0 7 7 ⟨b, off, none⟩ 1 cap (ones 0).toArray 3 [.int .i64 1] Tryd.underlying22 size_int (heap_alloc_new _ _) rfl
    (by
      intro j v hv
      cases j with
      | succ j => cases hv
      | zero =>
        rw [addr_plain, World.cell?_alloc_past _ _ _ hb, hc 0 (by decide)]
        exact hv) (by decide) (by intro v hv; rw [List.mem_singleton.1 hv]; rfl)
  rw [World.setRow_alloc_new] at hrun
  exact hrun

theorem splice_ones : splice (ones 1) 1 ((List.replicate 1 (1 : Int)).map (Value.int .i64)) = ones 2 ∧ splice (ones 2) 2 ((List.replicate 2 (1 : Int)).map (Value.int .i64)) = ones 4 ∧ splice (ones 4) 4 ((List.replicate 3 (1 : Int)).map (Value.int .i64)) = ones 7 := ⟨rfl, rfl, rfl⟩

set_option maxHeartbeats 4000000 in
theorem repeat7 (a : Option Addr) (cap : Nat) (w : World) (hr : Row w a [1]) :
    Calls Tryd.prog 77 #[.slice a 1 cap, .int .i64 7] w fun e w' => ∃ v, e = .returned v ∧ Has w' w.heap.size v (List.replicate 7 1) ∧ Below w.heap.size w w' := by
  obtain ⟨b, off, rfl, hb, hc⟩ := hr.at (k := 0) (by decide)
  have hmk : ∀ w, (Instr.makeSlice 22 (.int .i64 7) (.int .i64 7)).run Tryd.prog w = .ok (.slice (some ⟨w.heap.size, 0, none⟩) 7 7) (w.alloc (.cells (ones 0).toArray 3)) := fun _ => by kernel_rfl
  have hcp := first_copy w b off cap hr 3
  have hnew : Hid ((w.alloc (.cells (ones 1).toArray 3)).heap[w.heap.size]? = some (.cells (ones 1).toArray 3 (0, 0))) := hide (heap_alloc_new _ _)
  have hbA : Below w.heap.size w (w.alloc (.cells (ones 1).toArray 3)) := (Below.refl _ _).alloc (Nat.le_refl _) _
  obtain ⟨sp1, sp2, sp4⟩ := splice_ones
  have hs1 := hide sp1
  have hs2 := hide sp2
  have hs4 := hide sp4
  clear sp1 sp2 sp4
  clear hc
  go_enter Tryd.func77, Tryd.ntmps77
  go_wp2_with fail
  refine (mul w).mono ?_
  rintro e w' ⟨rfl, rfl⟩
  go_wp2
  go_loopw [8] (fun n wr => ∃ j : Nat, (j = 1 ∨ j = 2 ∨ j = 4 ∨ j = 7) ∧ n = .int .i64 j ∧ Hid (wr.heap[w.heap.size]? = some (.cells (ones j).toArray 3 (0, 0))) ∧ Below w.heap.size w wr) (fun n _ => 7 - (intOf n).toNat)
  case atStart => exact ⟨1, Or.inl rfl, rfl, hnew, hbA⟩
  case round =>
    obtain ⟨j, hj, rfl, H, hB⟩ := hrel
    have hBd : Below w.heap.size w wr.drew := hB.trans ⟨rfl, rfl, rfl, Nat.le_refl _, fun _ _ => rfl⟩
    rcases hj with rfl | rfl | rfl | rfl
    · go_wp2
      go_region_law (refine step_copy_splice rfl (.tmp 41) (.tmp 44) 22 22 rfl 3 Tryd.underlying22 size_int (some ⟨w.heap.size, 1, none⟩) (some ⟨w.heap.size, 0, none⟩) 6 6 1 7 (by simp [Act.eval, Act.put]) (by simp [Act.eval, Act.put]) w.heap.size 1 (ones 1) 3 (unhide H) ((List.replicate 1 (1 : Int)).map (Value.int .i64)) rfl (fun _ => ⟨rfl, _, rfl, fun j v hv => ones_at (unhide H) (ones_sub (by decide) hv)⟩) (by decide) ones_one w.heap.size w hBd (Nat.le_refl _) ?_; intro w4 hg4 hb4)
      go_wp2
      go_roundw
      case rel => ((repeat apply Exists.intro); exact ⟨⟨2, Or.inr (Or.inl rfl), rfl, by rw [← unhide hs1]; exact hg4, hb4⟩, rfl⟩)
      case measure => (simp [intOf, Act.put]; decide)
    · go_wp2
      go_region_law (refine step_copy_splice rfl (.tmp 41) (.tmp 44) 22 22 rfl 3 Tryd.underlying22 size_int (some ⟨w.heap.size, 2, none⟩) (some ⟨w.heap.size, 0, none⟩) 5 5 2 7 (by simp [Act.eval, Act.put]) (by simp [Act.eval, Act.put]) w.heap.size 2 (ones 2) 3 (unhide H) ((List.replicate 2 (1 : Int)).map (Value.int .i64)) rfl (fun _ => ⟨rfl, _, rfl, fun j v hv => ones_at (unhide H) (ones_sub (by decide) hv)⟩) (by decide) ones_one w.heap.size w hBd (Nat.le_refl _) ?_; intro w4 hg4 hb4)
      go_wp2
      go_roundw
      case rel => ((repeat apply Exists.intro); exact ⟨⟨4, Or.inr (Or.inr (Or.inl rfl)), rfl, by rw [← unhide hs2]; exact hg4, hb4⟩, rfl⟩)
      case measure => (simp [intOf, Act.put]; decide)
    · go_wp2
      go_region_law (refine step_copy_splice rfl (.tmp 41) (.tmp 44) 22 22 rfl 3 Tryd.underlying22 size_int (some ⟨w.heap.size, 4, none⟩) (some ⟨w.heap.size, 0, none⟩) 3 3 4 7 (by simp [Act.eval, Act.put]) (by simp [Act.eval, Act.put]) w.heap.size 4 (ones 4) 3 (unhide H) ((List.replicate 3 (1 : Int)).map (Value.int .i64)) rfl (fun _ => ⟨rfl, _, rfl, fun j v hv => ones_at (unhide H) (ones_sub (by decide) hv)⟩) (by decide) ones_one w.heap.size w hBd (Nat.le_refl _) ?_; intro w4 hg4 hb4)
      go_wp2
      go_roundw
      case rel => ((repeat apply Exists.intro); exact ⟨⟨7, Or.inr (Or.inr (Or.inr rfl)), rfl, by rw [← unhide hs4]; exact hg4, hb4⟩, rfl⟩)
      case measure => (simp [intOf, Act.put]; decide)
    · go_wp2
      go_ret
      exact ⟨_, rfl, has_ones (unhide H), hB⟩

end Go.Proofs.YthkibjhhlcfceaiDoor.Cnt
