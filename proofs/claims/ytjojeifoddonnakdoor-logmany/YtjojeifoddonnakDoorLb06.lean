/-
  make of integers: zeros of this call's own.
-/
import Derived.Test.YtjojeifoddonnakDoorLb05
import Derived.Test.YtjojeifoddonnakDoorLb00
import Derived.Deep.QuietTactic
import Derived.BigQuiet
namespace Go.Proofs.YtjojeifoddonnakDoor
open Go.RowKit
open Go.Proofs.YtjojeifoddonnakDoor.Tre
set_option linter.unusedVariables false

theorem upto_zeros (n : Nat) : upto (fun _ => 0) n = List.replicate n 0 := by
  refine eq_of_at (by rw [upto_length, List.length_replicate]) fun i hi => ?_
  rw [upto_length] at hi
  rw [upto_at _ hi]
  simp [at0, hi]

theorem wpList_mk {ops : Array Oper} {rest : List Oper} {o : Oper} {a : Act} {Q : Exit → Act → World → Prop} (w : World) (hgd : o.guard = none) (s : Operand)
    (ho : o.op = .makeSlice 27 s s) (n : Nat) (hs : a.eval s = .int .i64 n) (hn : n ≤ 1000000)
    (h : ∀ w', Has w' w.heap.size (.slice (some ⟨w.heap.size, 0, none⟩) n n) (upto (fun _ => 0) n) → Below w.heap.size w w' → wpList Tryd.prog ops Q rest (a.put o.dst (.slice (some ⟨w.heap.size, 0, none⟩) n n)) w') :
    wpList Tryd.prog ops Q (o :: rest) a w := by
  obtain ⟨i0, hi, hz0, hz1, hz2⟩ := info_parts info_int
  refine wpList_make_full w hgd s s 27 ho w.heap.size 3 i0 (.int .i64 0) 1 Tryd.underlying27 hi hz0 hz1 _ _ _ _ n hs hs rfl rfl (by rw [hz2]; omega) (by unfold maxLen; omega) (Nat.le_refl _) ?_
  intro w2 hown hgrow
  rw [Nat.mul_one] at hown
  refine h w2 ?_ ((Below.refl _ _).grown hgrow (Nat.le_refl _) (by intro k hk; cases hk))
  unfold Has
  rw [upto_zeros, List.map_replicate, List.length_replicate, ← toList_madeCells_one]
  exact hown

end Go.Proofs.YtjojeifoddonnakDoor

/-
  A part of a row ('l[t:q]', 'l[:n]'), whatever lies beneath it: nil and empty ones too.
-/
namespace Go.Proofs.YtjojeifoddonnakDoor
open Go.RowKit
open Go.Proofs.YtjojeifoddonnakDoor.Tre
set_option linter.unusedVariables false

set_option maxRecDepth 100000 in
theorem size_ints (w : World) : (sizeOf (Tryd.prog.elem 27)).run Tryd.prog w = .ok 1 w := by
  have h : Tryd.prog.elem 27 = 3 := by kernel_rfl
  obtain ⟨i, hi, hz0, hz1, hz2⟩ := info_parts info_int
  rw [h]
  simp [sizeOf, typeInfo, hi, hz1]
set_option maxRecDepth 100000 in
theorem row_cut {w : World} {a : Option Addr} {l : List Int} (h : Row w a l) (cap : Nat) (hm : l.length ≤ cap) {t q : Nat} (htq : t ≤ q) (hq : q ≤ l.length) :
    ∃ A, (∀ W, (Instr.slice 27 (.slice a l.length cap) (some (.int .i64 t)) (some (.int .i64 q)) none).run Tryd.prog W = .ok (.slice A (q - t) (cap - t)) W) ∧ Row w A ((l.drop t).take (q - t)) := by
  refine ⟨if cap = t then a else a.map (·.add (t * 1)), fun W => ?_, ?_⟩
  · rw [run_slice_lh W 27 a l.length cap Tryd.underlying27 .i64 .i64 t q (by omega) (by omega) (by omega), size_ints]
    simp [Result.andThen, sliced]
  · by_cases he : q = t
    · refine Or.inl ?_
      rw [he, Nat.sub_self, List.take_zero]
    · obtain ⟨b, off, rfl, hb, hc⟩ := h.at (k := 0) (by omega)
      rw [if_neg (by omega), Nat.mul_one, Option.map_some, addr_plain]
      exact (h.drop t).take _
set_option maxRecDepth 100000 in
theorem row_first {w : World} {a : Option Addr} {l : List Int} (h : Row w a l) (cap : Nat) (hm : l.length ≤ cap) {q : Nat} (hq : q ≤ l.length) :
    ∃ A, (∀ W, (Instr.slice 27 (.slice a l.length cap) none (some (.int .i64 q)) none).run Tryd.prog W = .ok (.slice A q cap) W) ∧ Row w A (l.take q) := by
  refine ⟨if cap = 0 then a else a.map (·.add (0 * 1)), fun W => ?_, ?_⟩
  · rw [run_slice_h W 27 a l.length cap Tryd.underlying27 .i64 q (by omega) (by omega), size_ints]
    simp [Result.andThen, sliced]
  · by_cases he : q = 0
    · refine Or.inl ?_
      rw [he, List.take_zero]
    · obtain ⟨b, off, rfl, hb, hc⟩ := h.at (k := 0) (by omega)
      rw [if_neg (by omega), Nat.zero_mul, Option.map_some, addr_plain, Nat.add_zero]
      exact h.take _

end Go.Proofs.YtjojeifoddonnakDoor

/-
  The rest of a row ('l[t:]'), whatever lies beneath it; the first ones of a slice of this call's own ('v[:n]').
-/
namespace Go.Proofs.YtjojeifoddonnakDoor
open Go.RowKit
open Go.Proofs.YtjojeifoddonnakDoor.Tre
set_option linter.unusedVariables false

set_option maxRecDepth 100000 in
theorem row_rest {w : World} {a : Option Addr} {l : List Int} (h : Row w a l) (cap : Nat) (hm : l.length ≤ cap) {t : Nat} (ht : t ≤ l.length) :
    ∃ A, (∀ W, (Instr.slice 27 (.slice a l.length cap) (some (.int .i64 t)) none none).run Tryd.prog W = .ok (.slice A (l.length - t) (cap - t)) W) ∧ Row w A (l.drop t) := by
  refine ⟨if cap = t then a else a.map (·.add (t * 1)), fun W => ?_, ?_⟩
  · rw [run_slice_l W 27 a l.length cap Tryd.underlying27 .i64 t (by omega) (by omega), size_ints]
    simp [Result.andThen, sliced]
  · by_cases he : l.length = t
    · refine Or.inl ?_
      rw [← he, List.drop_length]
    · obtain ⟨b, off, rfl, hb, hc⟩ := h.at (k := 0) (by omega)
      rw [if_neg (by omega), Nat.mul_one, Option.map_some, addr_plain]
      exact h.drop t
set_option maxRecDepth 100000 in
theorem Has.first {w : World} {base : Nat} {v : Value} {l : List Int} (h : Has w base v l) {n : Nat} (hn : n ≤ l.length) :
    ∃ v', (∀ W, (Instr.slice 27 v none (some (.int .i64 n)) none).run Tryd.prog W = .ok v' W) ∧ Has w base v' (l.take n) := by
  have hl : (l.take n).length = n := by rw [List.length_take]; omega
  rcases h.2 with ⟨rfl, h0⟩ | ⟨g, cap, cur, rfl, hb, hg, hc, hm, hs, hx⟩
  · obtain rfl : l = [] := List.eq_nil_of_length_eq_zero h0
    obtain rfl : n = 0 := by simpa using hn
    refine ⟨.slice none 0 0, fun W => ?_, Has.nil _ _⟩
    rw [run_slice_h W 27 none 0 0 Tryd.underlying27 .i64 ((0 : Nat) : Int) (by omega) (by omega), size_ints]
    simp [Result.andThen, sliced]
  · refine ⟨.slice (some ⟨g, 0, none⟩) n cap, fun W => ?_, ?_⟩
    · rw [run_slice_h W 27 _ l.length cap Tryd.underlying27 .i64 n (by omega) (by omega), size_ints]
      simp [Result.andThen, sliced, addr_plain]
    · unfold Has
      rw [hl]
      refine ⟨by rw [List.length_map, hl, Nat.mul_one], Or.inr ⟨g, cap, cur, rfl, hb, hg, by omega, hm, hs, ?_⟩⟩
      rw [List.map_take, ← hx, List.take_take, Nat.mul_one, Nat.mul_one, Nat.min_eq_left hn]

end Go.Proofs.YtjojeifoddonnakDoor

/-
  width.check, total: by their contracts.
-/
namespace Go.Proofs.YtjojeifoddonnakDoor.Wid
open Go.RowKit
open Go.Proofs.YtjojeifoddonnakDoor.Tre Go.Proofs.YtjojeifoddonnakDoor.Scl Go.Proofs.YtjojeifoddonnakDoor.Bnd
set_option linter.unusedVariables false

theorem any_of {p : Int → Bool} (l : List Int) (k : Nat) (hk : k < l.length) (h : p l[k] = true) : l.any p = true :=
  List.any_eq_true.2 ⟨l[k], List.getElem_mem hk, h⟩
theorem any_step {p : Int → Bool} (l : List Int) (k : Nat) (hk : k < l.length) (h0 : (l.take k).any p = false) (h : p l[k] = false) : (l.take (k + 1)).any p = false := by
  rw [List.take_succ_eq_append_getElem hk, List.any_append, h0]
  simp [h]

theorem nob1 (n : Int) (w : World) : Calls Tryd.prog 66 #[.int .i64 n] w fun e w' => e = .returned (.bool (nob n)) ∧ w' = w := by
  by_cases h0 : n = 0
  · subst h0
    go_enter Tryd.func66, Tryd.ntmps66
    go_wp2
    go_ret
    exact ⟨rfl, rfl⟩
  · by_cases h1 : n = 1
    · subst h1
      go_enter Tryd.func66, Tryd.ntmps66
      go_wp2
      go_ret
      exact ⟨rfl, rfl⟩
    · have e : nob n = true := by simp [nob]; omega
      have e0 : (n != 0) = true := by simpa using h0
      have e1 : (n != 1) = true := by simpa using h1
      have f0 : (n == 0) = false := by simpa using h0
      have f1 : (n == 1) = false := by simpa using h1
      rw [e]
      clear e h0 h1
      go_enter Tryd.func66, Tryd.ntmps66
      go_wp2
      go_ret
      exact ⟨rfl, rfl⟩
theorem now1 (n : Int) (w : World) : Calls Tryd.prog 67 #[.int .i64 n] w fun e w' => e = .returned (.bool (now n)) ∧ w' = w := by
  by_cases h1 : n < 0
  · have h3 : decide (n < 0) = true := by simpa using h1
    go_enter Tryd.func67, Tryd.ntmps67
    go_wp2
    go_ret
    exact ⟨by simp [now, h3], rfl⟩
  · have h2 : decide (n < 0) = false := by simpa using h1
    go_enter Tryd.func67, Tryd.ntmps67
    go_wp2
    go_ret
    exact ⟨by simp [now, h2], rfl⟩

set_option maxHeartbeats 400000 in
theorem nobIndex (a : Option Addr) (cap : Nat) (l : List Int) (w : World) (hl : l.length ≤ 9223372036854775807) (hr : Row w a l) :
    Calls Tryd.prog 31 #[.slice a l.length cap, .func (.func 66) #[] #[]] w
      fun e w' => (∃ r : Int, e = .returned (.int .i64 r) ∧ (decide (0 ≤ r)) = l.any nob) ∧ w' = w := by
  go_enter Tryd.func31, Tryd.ntmps31
  go_wp2
  go_loop [8] (fun i => ∃ k : Nat, k ≤ l.length ∧ i = .int .i64 k ∧ (l.take k).any nob = false) (fun i => l.length - (intOf i).toNat)
  case atStart => exact ⟨0, Nat.zero_le _, rfl, by simp⟩
  case round =>
    obtain ⟨k, hk, rfl, hno⟩ := hrel
    have HNO : Hid ((l.take k).any nob = false) := hno
    clear hno
    by_cases hlt : k < l.length
    · obtain ⟨b, off, rfl, hb, hcs⟩ := hr.at hlt
      have hck := hcs k hlt
      clear hcs
      go_wp2_with (go_at_call 66; refine (nob1 _ _).mono ?_; rintro e w' ⟨rfl, rfl⟩)
      · go_ret
        have hh : nob l[k] = true := by assumption
        exact ⟨⟨k, rfl, by rw [any_of l k hlt hh]; simp⟩, rfl⟩
      · have hh : nob l[k] = false := by assumption
        go_round
        case rel => exact ⟨k + 1, by omega, by go_num, any_step l k hlt HNO.out hh⟩
        case measure => simp [intOf]; omega
    · go_wp2
      go_ret
      have hh := HNO.out
      rw [List.take_of_length_le (by omega)] at hh
      exact ⟨⟨-1, rfl, by rw [hh]; rfl⟩, rfl⟩
theorem nobContains (a : Option Addr) (cap : Nat) (l : List Int) (w : World) (hl : l.length ≤ 9223372036854775807) (hr : Row w a l) :
    Calls Tryd.prog 20 #[.slice a l.length cap, .func (.func 66) #[] #[]] w
      fun e w' => e = .returned (.bool (l.any nob)) ∧ w' = w := by
  go_enter Tryd.func20, Tryd.ntmps20
  go_wp2_with fail
  refine (nobIndex a cap l w hl hr).mono ?_
  rintro e w' ⟨⟨r, rfl, hr2⟩, rfl⟩
  have HR := hide hr2
  clear hr2
  go_wp2
  go_ret
  exact ⟨by rw [← unhide HR]; rfl, rfl⟩
set_option maxHeartbeats 400000 in
theorem nowIndex (a : Option Addr) (cap : Nat) (l : List Int) (w : World) (hl : l.length ≤ 9223372036854775807) (hr : Row w a l) :
    Calls Tryd.prog 31 #[.slice a l.length cap, .func (.func 67) #[] #[]] w
      fun e w' => (∃ r : Int, e = .returned (.int .i64 r) ∧ (decide (0 ≤ r)) = l.any now) ∧ w' = w := by
  go_enter Tryd.func31, Tryd.ntmps31
  go_wp2
  go_loop [8] (fun i => ∃ k : Nat, k ≤ l.length ∧ i = .int .i64 k ∧ (l.take k).any now = false) (fun i => l.length - (intOf i).toNat)
  case atStart => exact ⟨0, Nat.zero_le _, rfl, by simp⟩
  case round =>
    obtain ⟨k, hk, rfl, hno⟩ := hrel
    have HNO : Hid ((l.take k).any now = false) := hno
    clear hno
    by_cases hlt : k < l.length
    · obtain ⟨b, off, rfl, hb, hcs⟩ := hr.at hlt
      have hck := hcs k hlt
      clear hcs
      go_wp2_with (go_at_call 67; refine (now1 _ _).mono ?_; rintro e w' ⟨rfl, rfl⟩)
      · go_ret
        have hh : now l[k] = true := by assumption
        exact ⟨⟨k, rfl, by rw [any_of l k hlt hh]; simp⟩, rfl⟩
      · have hh : now l[k] = false := by assumption
        go_round
        case rel => exact ⟨k + 1, by omega, by go_num, any_step l k hlt HNO.out hh⟩
        case measure => simp [intOf]; omega
    · go_wp2
      go_ret
      have hh := HNO.out
      rw [List.take_of_length_le (by omega)] at hh
      exact ⟨⟨-1, rfl, by rw [hh]; rfl⟩, rfl⟩
theorem nowContains (a : Option Addr) (cap : Nat) (l : List Int) (w : World) (hl : l.length ≤ 9223372036854775807) (hr : Row w a l) :
    Calls Tryd.prog 20 #[.slice a l.length cap, .func (.func 67) #[] #[]] w
      fun e w' => e = .returned (.bool (l.any now)) ∧ w' = w := by
  go_enter Tryd.func20, Tryd.ntmps20
  go_wp2_with fail
  refine (nowIndex a cap l w hl hr).mono ?_
  rintro e w' ⟨⟨r, rfl, hr2⟩, rfl⟩
  have HR := hide hr2
  clear hr2
  go_wp2
  go_ret
  exact ⟨by rw [← unhide HR]; rfl, rfl⟩

theorem check_no (a : Option Addr) (cap : Nat) (l : List Int) (E : Int) (w : World) (hr : Row w a l) (zl : l.length ≤ 9223372036854775807) (hE : Hid (bsF l = E)) (hne : Hid (E ≠ 0)) :
    Calls Tryd.prog 49 #[.slice a l.length cap] w fun e w' => e = .returned (.iface 41 (.int .i64 E)) ∧ w' = w := by
  by_cases h4 : 400 < l.length
  · obtain rfl : E = 4 := by rw [← unhide hE]; unfold bsF; rw [if_pos h4]
    clear hE hne
    go_enter Tryd.func49, Tryd.ntmps49
    go_wp2
    go_ret
    exact ⟨rfl, rfl⟩
  · have hE2 := unhide hE
    unfold bsF at hE2
    rw [if_neg h4] at hE2
    have hany : l.any nob = true := by
      cases h : l.any nob with
      | true => rfl
      | false => rw [h] at hE2; exact absurd hE2.symm (unhide hne)
    obtain rfl : E = 1 := by rw [← hE2, if_pos hany]
    have hcf := nobContains a cap l w zl hr
    rw [hany] at hcf
    clear hE hne hE2 hany
    go_enter Tryd.func49, Tryd.ntmps49
    go_wp2_with fail
    refine hcf.mono ?_
    clear hcf
    rintro e w1 ⟨rfl, rfl⟩
    go_wp2
    go_ret
    exact ⟨rfl, rfl⟩
theorem check_ok (a : Option Addr) (cap : Nat) (l : List Int) (w : World) (hr : Row w a l) (hE : Hid (bsF l = 0)) :
    Calls Tryd.prog 49 #[.slice a l.length cap] w fun e w' => e = .returned .nilIface ∧ w' = w := by
  obtain ⟨h4, hb⟩ := bsF_zero.1 (unhide hE)
  have hcf := nobContains a cap l w (by omega) hr
  rw [nob_any.2 hb] at hcf
  clear hE hb
  go_enter Tryd.func49, Tryd.ntmps49
  go_wp2_with fail
  refine hcf.mono ?_
  clear hcf
  rintro e w1 ⟨rfl, rfl⟩
  go_wp2
  go_ret
  exact ⟨rfl, rfl⟩

theorem pre_w {ws : List Int} (h : Wds ws) {j : Nat} (hj : j ≤ ws.length) : pre ws j ≤ 20 * j := by
  induction j with
  | zero => exact Nat.le_refl _
  | succ j ih =>
    have := ih (by omega)
    have := h j (by omega)
    rw [pre_succ]
    omega

theorem total_no (a : Option Addr) (cap : Nat) (ws : List Int) (w : World) (hr : Row w a ws) (zs : ws.length ≤ 9223372036854775807) (hE : Hid (ws.any now = true)) :
    Calls Tryd.prog 50 #[.slice a ws.length cap] w fun e w' => e = .returned (.tuple #[.int .i64 0, .iface 41 (.int .i64 1)]) ∧ w' = w := by
  have hcf := nowContains a cap ws w zs hr
  rw [unhide hE] at hcf
  clear hE
  go_enter Tryd.func50, Tryd.ntmps50
  go_wp2_with fail
  refine hcf.mono ?_
  clear hcf
  rintro e w1 ⟨rfl, rfl⟩
  go_wp2
  go_ret2
  exact ⟨rfl, rfl⟩
set_option maxHeartbeats 1000000 in
theorem total_ok (a : Option Addr) (cap : Nat) (ws : List Int) (w : World) (hr : Row w a ws) (zs : ws.length ≤ 17592186044416) (hE : Hid (Wds ws)) :
    Calls Tryd.prog 50 #[.slice a ws.length cap] w fun e w' => e = .returned (.tuple #[.int .i64 (total ws : Int), .nilIface]) ∧ w' = w := by
  have hcf := nowContains a cap ws w (by omega) hr
  rw [now_any.2 (unhide hE)] at hcf
  obtain ⟨N, hN⟩ : ∃ N, ws.length = N := ⟨_, rfl⟩
  have HN := hide hN
  obtain ⟨Z, hZ⟩ : ∃ Z, total ws = Z := ⟨_, rfl⟩
  have HZ : Hid (pre ws N = Z) := hide (by rw [← hZ, ← hN]; rfl)
  rw [hZ]
  rw [hN] at hcf zs ⊢
  clear hN hZ
  go_enter Tryd.func50, Tryd.ntmps50
  go_wp2_with fail
  refine hcf.mono ?_
  clear hcf
  rintro e w1 ⟨rfl, rfl⟩
  go_wp2
  go_loopw [4, 12] (fun t i wr => ∃ j T : Nat, j ≤ N ∧ i = .int .i64 j ∧ t = .int .i64 T ∧ Hid (pre ws j = T) ∧ T ≤ 20 * j ∧ wr = w1) (fun _ i _ => N - (intOf i).toNat)
  case atStart => exact ⟨0, 0, Nat.zero_le _, rfl, rfl, rfl, by omega, rfl⟩
  case round =>
    obtain ⟨j, T, hj, rfl, rfl, HT, hT, rfl⟩ := hrel
    by_cases hlt : j < N
    · have hlt' : j < ws.length := by rw [unhide HN]; exact hlt
      obtain ⟨b, off, rfl, hb, hc⟩ := Scl.cell_at hr (by omega)
      have c1 := hc j hlt'
      have h1 := unhide hE j hlt'
      have HS : Hid (pre ws (j + 1) = T + (at0 ws j).toNat) := hide (by rw [pre_succ, unhide HT])
      obtain ⟨X, hX⟩ : ∃ X : Nat, at0 ws j = X := ⟨(at0 ws j).toNat, by omega⟩
      rw [hX] at c1 HS h1
      rw [Int.toNat_natCast] at HS
      have h20 : X ≤ 20 := by omega
      have hT2 : T + X ≤ 20 * (j + 1) := by omega
      clear hc hX hlt' h1 HT
      go_wp2
      go_roundw
      case rel => exact ⟨j + 1, T + X, by omega, by go_num, by go_num, HS, hT2, by first | trivial | rfl⟩
      case measure => simp [intOf]; omega
    · obtain rfl : j = N := by omega
      obtain rfl : T = Z := (unhide HT).symm.trans (unhide HZ)
      go_wp2
      go_ret2
      exact ⟨rfl, rfl⟩

end Go.Proofs.YtjojeifoddonnakDoor.Wid

/-
  make of integers, up to all that memory bears: zeros of this call's own.
-/
namespace Go.Proofs.YtjojeifoddonnakDoor
open Go.RowKit
open Go.Proofs.YtjojeifoddonnakDoor.Tre
set_option linter.unusedVariables false

theorem wpList_mkL {ops : Array Oper} {rest : List Oper} {o : Oper} {a : Act} {Q : Exit → Act → World → Prop} (w : World) (hgd : o.guard = none) (s : Operand)
    (ho : o.op = .makeSlice 27 s s) (n : Nat) (hs : a.eval s = .int .i64 n) (hn : n ≤ 17592186044416)
    (h : ∀ w', Has w' w.heap.size (.slice (some ⟨w.heap.size, 0, none⟩) n n) (upto (fun _ => 0) n) → Below w.heap.size w w' → wpList Tryd.prog ops Q rest (a.put o.dst (.slice (some ⟨w.heap.size, 0, none⟩) n n)) w') :
    wpList Tryd.prog ops Q (o :: rest) a w := by
  obtain ⟨i0, hi, hz0, hz1, hz2⟩ := info_parts info_int
  refine wpList_make_full w hgd s s 27 ho w.heap.size 3 i0 (.int .i64 0) 1 Tryd.underlying27 hi hz0 hz1 _ _ _ _ n hs hs rfl rfl (by rw [hz2]; omega) (by unfold maxLen; omega) (Nat.le_refl _) ?_
  intro w2 hown hgrow
  rw [Nat.mul_one] at hown
  refine h w2 ?_ ((Below.refl _ _).grown hgrow (Nat.le_refl _) (by intro k hk; cases hk))
  unfold Has
  rw [upto_zeros, List.map_replicate, List.length_replicate, ← toList_madeCells_one]
  exact hown

end Go.Proofs.YtjojeifoddonnakDoor
