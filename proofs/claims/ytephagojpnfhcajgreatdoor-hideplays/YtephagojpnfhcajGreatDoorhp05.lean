/-
  A row's numbers, each in its cell (package lap).
-/
import Derived.Test.YtephagojpnfhcajGreatDoorhp00
import Derived.Test.YtephagojpnfhcajGreatDoorhp04
import Derived.Test.YtephagojpnfhcajGreatDoorhp01
import Derived.Deep.QuietTactic
import Derived.BigQuiet
namespace Go.Proofs.YtephagojpnfhcajGreatDoor.Lap
open Go.RowKit
open Go.Proofs.YtephagojpnfhcajGreatDoor.Tre
set_option linter.unusedVariables false

theorem row_cell {w : World} {a : Option Addr} {l : List Int} (h : Row w a l) (h0 : 0 < l.length) : ∃ b off, a = some ⟨b, off, none⟩ ∧ ∀ j, j < l.length → w.cell? ⟨b, off + j, none⟩ = some (.int .i64 (at0 l j)) := by
  obtain ⟨b, off, e, _, hc⟩ := h.at h0
  exact ⟨b, off, e, fun j hj => (hc j hj).trans (by rw [List.getD_eq_getElem?_getD]; rfl)⟩

end Go.Proofs.YtephagojpnfhcajGreatDoor.Lap

/-
  hornref1.Unlap: by its contract.
-/
namespace Go.Proofs.YtephagojpnfhcajGreatDoor.Lap
open Go.RowKit
open Go.Proofs.YtephagojpnfhcajGreatDoor.Tre
set_option linter.unusedVariables false

theorem at_fr {l : List Int} {n j : Nat} (hn : n = l.length / 2) (h : j < n) : at0 (fr l) j = at0 l j := by subst hn; unfold fr at0; rw [List.getElem?_take, if_pos h]
theorem at_bk {l : List Int} {n : Nat} (hn : n = l.length / 2) (j : Nat) : at0 (bk l) j = at0 l (n + j) := by subst hn; unfold bk at0; rw [List.getElem?_drop]
theorem evs_step {l : List Int} {n j T : Nat} (hn : n = l.length / 2) (h : j < n) (hT : T = n + (j - 1)) : upto (evF (fr l) (bk l)) (j + 1) = upto (evF (fr l) (bk l)) j ++ [at0 l j - (at0 l T + at0 l (n + j) + 2) / 4] := by
  rw [upto_succ]
  unfold evF lf
  rw [at_fr hn h, at_bk hn, at_bk hn, hT]
theorem unlap_step {l : List Int} {n j T : Nat} (hn : n = l.length / 2) (h : j < n) (hT : T = if j + 1 < n then j + 1 else j) : flat (at0 (evs l)) (at0 (ods l)) (j + 1) = flat (at0 (evs l)) (at0 (ods l)) j ++ [at0 (evs l) j, at0 l (n + j) + (at0 (evs l) j + at0 (evs l) T) / 2] := by
  rw [flat_succ]
  have e : min (j + 1) ((evs l).length - 1) = T := by
    rw [evs_length, ← hn, hT]
    by_cases h3 : j + 1 < n
    · rw [if_pos h3, Nat.min_eq_left (by omega)]
    · rw [if_neg h3, Nat.min_eq_right (by omega)]; omega
  have e2 : at0 (ods l) j = odF (evs l) (bk l) j := by unfold ods; rw [← hn]; exact upto_at _ h
  rw [e2]
  unfold odF gs
  rw [at_bk hn, e]

theorem row_two' {w : World} {x y : Int} {t : TypeId} {n : Nat} (h : w.heap.size = n) : Row (w.alloc (.cells #[.int .i64 x, .int .i64 y] t)) (some ⟨n, 0, none⟩) [x, y] := by
  subst h; exact row_two w x y t

set_option maxRecDepth 100000 in
set_option maxHeartbeats 8000000 in
theorem refUnlap (a : Option Addr) (cap : Nat) (l : List Int) (w : World) (hl : l.length ≤ 32) (he : Hid (l.length = 2 * (l.length / 2))) (hi : In 4000 l) (hr : Row w a l) :
    Calls Tryz.prog 85 #[.slice a l.length cap] w fun e w' => ∃ v, e = .returned v ∧ Has w' w.heap.size v (unlap l) ∧ Below w.heap.size w w' := by
  obtain ⟨n, hn⟩ : ∃ n, n = l.length / 2 := ⟨_, rfl⟩
  have hdv : Int.tdiv (l.length : Int) 2 = (n : Int) := by rw [hn]; rfl
  have hn9 : n ≤ 16 := by omega
  have hN2 : 2 * n ≤ l.length := by omega
  have hN3 : l.length ≤ 2 * n := by have := unhide he; omega
  have HN := hide hn
  have hi2 : In (2 * 2000) l := hi
  have hin := evs_in (by omega) hi2
  have HLE : Hid ((evs l).length = n) := hide (by rw [evs_length]; exact hn.symm)
  obtain ⟨L, hL⟩ : ∃ L, l.length = L := ⟨_, rfl⟩
  rw [hL] at hdv hN2 hN3 hl ⊢
  have HL := hide hL
  clear hn hL
  go_enter Tryz.func85, Tryz.ntmps85
  go_wp2
  go_loopw [4, 6] (fun d i wr => ∃ j : Nat, j ≤ n ∧ i = .int .i64 j ∧ Has wr w.heap.size d (upto (evF (fr l) (bk l)) j) ∧ Below w.heap.size w wr) (fun _ i _ => n - (intOf i).toNat)
  case atStart => exact ⟨0, Nat.zero_le _, rfl, Has.nil _ _, Below.refl _ _⟩
  case round =>
    obtain ⟨j, hj, rfl, h1, hB⟩ := hrel
    by_cases hlt : j < n
    · obtain ⟨b, off, rfl, hc⟩ := row_cell (hr.below hB) (by rw [unhide HL]; omega)
      rw [unhide HL] at hc
      obtain ⟨T, hT⟩ : ∃ T, T = n + (j - 1) := ⟨_, rfl⟩
      have HS := hide (evs_step (unhide HN) hlt hT)
      obtain ⟨O, hO⟩ : ∃ O, O = n + j := ⟨_, rfl⟩
      rw [← hO] at HS
      have hjl : j < L := by omega
      have hOl : O < L := by omega
      have hTl : T < L := by omega
      have c1 := hc j hjl
      have c2 := hc O hOl
      have c3 := hc T hTl
      obtain ⟨x0, x1⟩ := hi.at (by omega) j
      obtain ⟨y0, y1⟩ := hi.at (by omega) O
      obtain ⟨z0, z1⟩ := hi.at (by omega) T
      obtain ⟨X, hX⟩ : ∃ X, at0 l j = X := ⟨_, rfl⟩
      obtain ⟨Y, hY⟩ : ∃ Y, at0 l O = Y := ⟨_, rfl⟩
      obtain ⟨Z, hZ⟩ : ∃ Z, at0 l T = Z := ⟨_, rfl⟩
      rw [hX] at c1 x0 x1 HS
      rw [hY] at c2 y0 y1 HS
      rw [hZ] at c3 z0 z1 HS
      clear hX hY hZ hc
      have hO2 : IntKind.i64.wrap ((n : Int) + (j : Int)) = (O : Int) := by rw [IntWalk.i64_in _ (by omega)]; omega
      have hln : Hid ((upto (evF (fr l) (bk l)) j).length + 1 ≤ 1000000) := hide (by rw [upto_length]; omega)
      by_cases h3 : 0 < j
      all_goals (first
        | (obtain ⟨P, hP⟩ : ∃ P, P = j - 1 := ⟨_, rfl⟩
           have hP2 : (j : Int) - 1 = (P : Int) := by omega
           have hT3 : IntKind.i64.wrap ((n : Int) + (P : Int)) = (T : Int) := by rw [IntWalk.i64_in _ (by omega)]; omega
           clear hT hP hO
           go_wp2
           go_quiet ((go_at_call 127; exact Calls.quiet_of_same (down4 (Z + Y + 2) _ (by omega) (by omega)))))
        | (obtain rfl : O = T := by omega
           obtain rfl : Y = Z := by rw [c2] at c3; cases c3; rfl
           clear hT hO
           go_wp2
           go_quiet ((go_at_call 127; exact Calls.quiet_of_same (down4 (Y + Y + 2) _ (by omega) (by omega))))))
      all_goals
        have h1V : Has (wr.drewN nq) w.heap.size u4 (upto (evF (fr l) (bk l)) j) := h1
        have c1V : (wr.drewN nq).cell? ⟨b, off + j, none⟩ = some (.int .i64 X) := c1
        have hBV : Below w.heap.size w (wr.drewN nq) := hB.trans ⟨rfl, rfl, rfl, Nat.le_refl _, fun _ _ => rfl⟩
        obtain ⟨V, hV⟩ : ∃ V, wr.drewN nq = V := ⟨_, rfl⟩
        rw [hV] at h1V c1V hBV ⊢
        clear hV h1 c1 c2 c3 hB
        have hVs := hBV.size
        go_wp2_with (at_builtin; refine wpList_app _ rfl _ _ rfl w.heap.size u4 (upto (evF (fr l) (bk l)) j) _ _ _ rfl (h1V.alloc _) rfl (row_one _ _ _) (unhide hln) (by simp; omega) ?_; intro s' w1 k1 g1 at1)
        obtain ⟨d1, d2⟩ := stepped_plain h1V hVs k1 g1 at1
        go_wp2
        go_roundw
        case rel => exact ⟨j + 1, by omega, by go_num, by rw [unhide HS]; exact k1, hBV.trans d1⟩
        case measure => simp [intOf]; omega
    · obtain rfl : n = j := by omega
      have h1' : Has wr w.heap.size u4 (evs l) := by unfold evs; rw [← unhide HN]; exact h1
      clear h1
      obtain ⟨p2, q2, rfl, -⟩ := h1'.row
      rw [unhide HLE] at h1' ⊢
      go_wp2
      go_loopw [5, 9] (fun s i wr => ∃ j : Nat, j ≤ n ∧ i = .int .i64 j ∧ Has wr w.heap.size s (flat (at0 (evs l)) (at0 (ods l)) j) ∧ Has wr w.heap.size (.slice p2 n q2) (evs l) ∧ Off (.slice p2 n q2) s ∧ Below w.heap.size w wr) (fun _ i _ => n - (intOf i).toNat)
      case atStart => exact ⟨0, Nat.zero_le _, rfl, Has.nil _ _, h1', off_nil _, hB⟩
      case round =>
        obtain ⟨j, hj, rfl, h1, h2, h3, hB2⟩ := hrel
        clear h1' hB
        by_cases hlt : j < n
        · obtain ⟨b, off, rfl, hc⟩ := row_cell (hr.below hB2) (by rw [unhide HL]; omega)
          rw [unhide HL] at hc
          obtain ⟨g, c, e1, hg1, hg2, hg3, hg4⟩ := h2.one (by rw [unhide HLE]; omega)
          rw [unhide HLE] at e1
          obtain ⟨rfl, -, rfl⟩ := Value.slice.inj e1
          obtain ⟨T, hT⟩ : ∃ T, T = if j + 1 < n then j + 1 else j := ⟨_, rfl⟩
          have HS := hide (unlap_step (unhide HN) hlt hT)
          obtain ⟨O, hO⟩ : ∃ O, O = n + j := ⟨_, rfl⟩
          rw [← hO] at HS
          have hOl : O < L := by omega
          have hTn : T < n := by rw [hT]; split <;> omega
          have c1 := hc O hOl
          have c2 := h2.get (j := j) (by rw [unhide HLE]; exact hlt)
          have c3 := h2.get (j := T) (by rw [unhide HLE]; exact hTn)
          obtain ⟨x0, x1⟩ := hi.at (by omega) O
          obtain ⟨y0, y1⟩ := hin.at (by omega) j
          obtain ⟨z0, z1⟩ := hin.at (by omega) T
          obtain ⟨X, hX⟩ : ∃ X, at0 l O = X := ⟨_, rfl⟩
          obtain ⟨Y, hY⟩ : ∃ Y, at0 (evs l) j = Y := ⟨_, rfl⟩
          obtain ⟨Z, hZ⟩ : ∃ Z, at0 (evs l) T = Z := ⟨_, rfl⟩
          rw [hX] at c1 x0 x1 HS
          rw [hY] at c2 y0 y1 HS
          rw [hZ] at c3 z0 z1 HS
          clear hX hY hZ hc
          have hO2 : IntKind.i64.wrap ((n : Int) + (j : Int)) = (O : Int) := by rw [IntWalk.i64_in _ (by omega)]; omega
          have hln : Hid ((flat (at0 (evs l)) (at0 (ods l)) j).length + 2 ≤ 1000000) := hide (by rw [flat_length]; omega)
          have hmx : Tryz.prog.follows .mixedOrders = true := by kernel_rfl
          clear hO
          by_cases h4 : j + 1 < n
          all_goals (first
            | (rw [if_pos h4] at hT
               have hT2 : (j : Int) + 1 = (T : Int) := by omega
               clear hT
               go_wp2
               go_quiet ((go_at_call 127; exact Calls.quiet_of_same (down2 (Y + Z) _ (by omega) (by omega))))
               have hwr : IntKind.i64.wrap (X + (Y + Z) / 2) = X + (Y + Z) / 2 := IntWalk.i64_in _ (by omega))
            | (rw [if_neg h4] at hT
               obtain rfl := hT
               obtain rfl : Y = Z := by rw [c2] at c3; cases c3; rfl
               go_wp2
               go_quiet ((go_at_call 127; exact Calls.quiet_of_same (down2 (Y + Y) _ (by omega) (by omega))))
               have hwr : IntKind.i64.wrap (X + (Y + Y) / 2) = X + (Y + Y) / 2 := IntWalk.i64_in _ (by omega)))
          all_goals
            have h1V : Has (wr.drewN nq) w.heap.size u5 (flat (at0 (evs l)) (at0 (ods l)) _) := h1
            have h2V : Has (wr.drewN nq) w.heap.size (.slice (some ⟨g, 0, none⟩) n q2) (evs l) := h2
            have c1V : (wr.drewN nq).cell? ⟨b, off + O, none⟩ = some (.int .i64 X) := c1
            have c2V : (wr.drewN nq).cell? ⟨g, _, none⟩ = some (.int .i64 Y) := c2
            have hBV : Below w.heap.size w (wr.drewN nq) := hB2.trans ⟨rfl, rfl, rfl, Nat.le_refl _, fun _ _ => rfl⟩
            obtain ⟨V, hV⟩ : ∃ V, wr.drewN nq = V := ⟨_, rfl⟩
            rw [hV] at h1V h2V c1V c2V hBV ⊢
            clear hV h1 h2 c1 c2 c3 hB2
            have hVs := hBV.size
            go_wp2
            go_region_law (refine step_app _ rfl _ _ rfl w.heap.size u5 (flat (at0 (evs l)) (at0 (ods l)) _) _ _ _ rfl (Has.alloc (w := V.drew) h1V _) rfl (row_two' (w := V.drew) rfl) (unhide hln) (by simp; omega) ?_; intro s' w1 k1 g1 at1)
          all_goals
            obtain ⟨d1, d2⟩ := stepped_plain (W := V.drew) h1V hVs k1 g1 at1
            obtain ⟨h2', h3'⟩ := d2 _ _ h2V h3
            go_wp2
            go_roundw
            case rel => exact ⟨_, hlt, by go_num, by rw [unhide HS]; exact k1, h2', h3', hBV.trans ⟨d1.os, d1.tape, d1.output, d1.size, d1.block⟩⟩
            case measure => simp [intOf]; omega
        · obtain rfl : n = j := by omega
          go_wp2
          go_ret
          refine ⟨_, rfl, ?_, hB2⟩
          unfold unlap
          rw [← unhide HN]
          exact h1

end Go.Proofs.YtephagojpnfhcajGreatDoor.Lap

/-
  A slice of texts: one that this call has made itself (append of one), and one that lies somewhere.
-/
namespace Go.Proofs.YtephagojpnfhcajGreatDoor
open Go.RowKit
open Go.Proofs.YtephagojpnfhcajGreatDoor.Tre
set_option linter.unusedVariables false

theorem info_str : (Tryz.prog.info? 9).map (fun i => (i.zero, i.size, i.bytes)) = some (some (.string ⟨#[]⟩), 1, 16) := by kernel_rfl

/-- The texts of a slice lie in memory. -/
def RowT (w : World) (a : Option Addr) (l : List ByteArray) : Prop :=
  l = [] ∨ ∃ b off, a = some ⟨b, off, none⟩ ∧ b < w.heap.size ∧ ∀ j, j < l.length → w.cell? ⟨b, off + j, none⟩ = some (.string (l.getD j ⟨#[]⟩))
theorem RowT.below {w w' : World} {a : Option Addr} {l : List ByteArray} (h : RowT w a l) (hb : Below w.heap.size w w') : RowT w' a l := by
  rcases h with h | ⟨b, off, e, hlt, hc⟩
  · exact Or.inl h
  · exact Or.inr ⟨b, off, e, Nat.lt_of_lt_of_le hlt hb.size, fun j hj => (hb.cell (p := ⟨b, off + j, none⟩) hlt).trans (hc j hj)⟩
theorem RowT.at {w : World} {a : Option Addr} {l : List ByteArray} (h : RowT w a l) {k : Nat} (hk : k < l.length) : ∃ b off, a = some ⟨b, off, none⟩ ∧ b < w.heap.size ∧ ∀ j, j < l.length → w.cell? ⟨b, off + j, none⟩ = some (.string (l.getD j ⟨#[]⟩)) := by
  rcases h with h | h
  · subst h; exact absurd hk (by simp)
  · exact h

/-- A slice of texts of this call's own (its block at base or behind) holds l. -/
def HasT (w : World) (base : Nat) (v : Value) (l : List ByteArray) : Prop := w.ownsRow base 9 1 v l.length (l.map Value.string)
theorem HasT.nil (w : World) (base : Nat) : HasT w base (.slice none 0 0) [] := World.ownsRow_nil _ _ _ _
theorem HasT.kept {w w' : World} {base : Nat} {v : Value} {l : List ByteArray} {row : Option Nat} (h : HasT w base v l) (hg : w.grownBy w' row) (hne : v.ownBlock = none ∨ v.ownBlock ≠ row) : HasT w' base v l := World.ownsRow.kept h hg hne
theorem HasT.alloc {w : World} {base : Nat} {v : Value} {l : List ByteArray} (h : HasT w base v l) (o : Obj) : HasT (w.alloc o) base v l := World.ownsRow.alloc h o
theorem HasT.below {w w' : World} {base : Nat} {v : Value} {l : List ByteArray} (h : HasT w base v l) (hb : Below w.heap.size w w') : HasT w' base v l := by
  refine ⟨h.1, ?_⟩
  rcases h.2 with hn | ⟨g, cap, cur, rfl, hbg, hgg, rest⟩
  · exact .inl hn
  · exact .inr ⟨g, cap, cur, rfl, hbg, (hb.block g (Array.getElem?_eq_some_iff.1 hgg).1).trans hgg, rest⟩
theorem HasT.lt {w : World} {base : Nat} {v : Value} {l : List ByteArray} (h : HasT w base v l) : ∀ k, v.ownBlock = some k → base ≤ k ∧ k < w.heap.size := World.ownsRow.lt h
theorem HasT.mono {w : World} {base base' : Nat} {v : Value} {l : List ByteArray} (h : HasT w base v l) (hb : base' ≤ base) : HasT w base' v l := by
  refine ⟨h.1, ?_⟩
  rcases h.2 with hn | ⟨k, cap, cur, rfl, hbg, rest⟩
  · exact .inl hn
  · exact .inr ⟨k, cap, cur, rfl, Nat.le_trans hb hbg, rest⟩
theorem HasT.shape {w : World} {base : Nat} {v : Value} {l : List ByteArray} (h : HasT w base v l) : ∃ a cap, v = .slice a l.length cap ∧ RowT w a l ∧ l.length ≤ cap ∧ cap ≤ 9223372036854775807 := by
  have h' := h
  rcases h.2 with ⟨h1, h2⟩ | ⟨g, cap, cur, hv, hb, hg, hn, hm, _⟩
  · have e : l = [] := List.length_eq_zero_iff.1 (by omega)
    subst e
    exact ⟨none, 0, h1, Or.inl rfl, Nat.le_refl _, by omega⟩
  · refine ⟨some ⟨g, 0, none⟩, cap, hv, Or.inr ⟨g, 0, rfl, (Array.getElem?_eq_some_iff.1 hg).1, fun j hj => ?_⟩, hn, by simpa [maxLen] using hm⟩
    subst hv
    rw [Nat.zero_add, World.ownsRow.cellAt h' j (by omega)]
    simp [List.getD_eq_getElem?_getD, hj]

/-- append of one text. -/
theorem run_appt (w : World) (base : Nat) (v : Value) (l : List ByteArray) (x : ByteArray) (ty : TypeId) (hv : HasT w base v l) (b off cap : Nat) (hr : w.cell? ⟨b, off, none⟩ = some (.string x)) (hlen : l.length + 1 ≤ 1000000) (hbase : base ≤ w.heap.size) :
    ∃ v' w', (Builtin.append_ #[42, 42] ty #[v, .slice (some ⟨b, off, none⟩) 1 cap]).run Tryz.prog w = .ok v' w' ∧ HasT w' base v' (l ++ [x]) ∧ w.grownBy w' v.ownBlock ∧ (v'.ownBlock = v.ownBlock ∨ v'.ownBlock = some w.heap.size) := by
  obtain ⟨i, hi, hz0, hz1, hz2⟩ := info_parts info_str
  have hc : ∀ (j : Nat) (u : Value), ([x].map Value.string)[j]? = some u → w.cell? ((⟨b, off, none⟩ : Addr).add j) = some u := by
    intro j u hu
    cases j with
    | zero => simp at hu; rw [addr_plain, Nat.add_zero, hr, hu]
    | succ j => simp at hu
  obtain ⟨v', w', h1, h2, h3, h4, h5⟩ := run_append_own_at (P := Tryz.prog) w base 42 ty 9 i (.string ⟨#[]⟩) 1 16 Tryz.underlying42 hi hz0 hz1 hz2 rfl (by omega) v l.length (l.map Value.string) hv ⟨b, off, none⟩ 1 cap ([x].map Value.string) (by simp) hc
    (by intro u hu; obtain ⟨z, _, rfl⟩ := List.mem_map.1 hu; rfl) (by simp only [maxLen]; omega) (by omega) hbase
  refine ⟨v', w', h1, ?_, h3, h5⟩
  unfold HasT
  rw [List.length_append, List.map_append]
  exact h2
theorem wpList_appt {ops : Array Oper} {rest : List Oper} {o : Oper} {a : Act} {Q : Exit → Act → World → Prop} (w : World) (hgd : o.guard = none) (s x : Operand)
    (ho : o.op = .call { callee := .builtin .append, args := #[s, x], argTypes := #[42, 42] }) (base : Nat) (v : Value) (l : List ByteArray) (c : ByteArray) (b off cap : Nat) (hs : a.eval s = v) (hv : HasT w base v l)
    (hx : a.eval x = .slice (some ⟨b, off, none⟩) 1 cap) (hr : w.cell? ⟨b, off, none⟩ = some (.string c)) (hlen : l.length + 1 ≤ 1000000) (hbase : base ≤ w.heap.size)
    (h : ∀ v' w', HasT w' base v' (l ++ [c]) → w.grownBy w' v.ownBlock → (v'.ownBlock = v.ownBlock ∨ v'.ownBlock = some w.heap.size) → wpList Tryz.prog ops Q rest (a.put o.dst v') w') :
    wpList Tryz.prog ops Q (o :: rest) a w := by
  refine wpList_plain hgd fun K hK => ?_
  obtain ⟨v', w', hrun, h2, h3, h4⟩ := run_appt w base v l c o.type hv b off cap hr hlen hbase
  unfold Oper.wp
  simp [execOp, ho, resolve, invoke, builtin, hs, hx, hrun, Result.andThen]
  exact hK _ _ (h v' w' h2 h3 h4)
theorem cell_str (w : World) (x : ByteArray) (t : TypeId) : (w.alloc (.cells #[.string x] t)).cell? ⟨w.heap.size, 0, none⟩ = some (.string x) := by rw [World.cell?_alloc_at _ _ _ _ rfl]; rfl

end Go.Proofs.YtephagojpnfhcajGreatDoor

/-
  sound.sum of distances, sound.Distances of a few numbers: by their contracts.
-/
namespace Go.Proofs.YtephagojpnfhcajGreatDoor.Pls
open Go.RowKit
open Go.Proofs.YtephagojpnfhcajGreatDoor.Tre
set_option linter.unusedVariables false

set_option maxHeartbeats 400000 in
theorem sumL (a : Option Addr) (cap : Nat) (l : List Int) (w : World) (hl : l.length ≤ 32) (hi : In 4000 l) (hr : Row w a l) :
    Calls Tryz.prog 116 #[.slice a l.length cap, .func (.func 54) #[] #[]] w fun e w' => e = .returned (.int .i64 (loud l : Int)) ∧ w = w' := by
  go_enter Tryz.func116, Tryz.ntmps116
  go_wp2
  go_loop [5, 10] (fun t i => ∃ k t' : Nat, k ≤ l.length ∧ i = .int .i64 k ∧ t = .int .i64 t' ∧ Hid (t' = loud (l.take k)) ∧ t' ≤ 128000) (fun _ i => l.length - (intOf i).toNat)
  case atStart => exact ⟨0, 0, Nat.zero_le _, rfl, rfl, rfl, by omega⟩
  case round =>
    obtain ⟨k, t, hk, rfl, rfl, HT, ht⟩ := hrel
    by_cases hlt : k < l.length
    · obtain ⟨b, off, rfl, hb, hcs⟩ := hr.at hlt
      have hck := hcs k hlt
      clear hcs
      obtain ⟨e1, e2⟩ := hi _ (List.getElem_mem hlt)
      have HS : Hid (t + l[k].natAbs = loud (l.take (k + 1))) := hide (by rw [loud_step hlt, unhide HT])
      have HB : Hid (t + l[k].natAbs ≤ 128000) := hide (by
        have h1 := loud_in (b := 4000) (hi.take (k + 1))
        rw [← unhide HS] at h1
        have h2 := List.length_take_le (k + 1) l
        omega)
      have hn : l[k].natAbs ≤ 4000 := by omega
      go_wp2_with fail
      refine (dist l[k] w (by omega) (by omega)).mono ?_
      obtain ⟨d, hd⟩ : ∃ d, l[k].natAbs = d := ⟨_, rfl⟩
      rw [hd] at HS HB hn ⊢
      clear hd
      rintro e w' ⟨rfl, rfl⟩
      go_wp2
      go_round
      case rel => exact ⟨k + 1, t + d, by omega, by go_num, by go_num, HS, unhide HB⟩
      case measure => simp [intOf]; omega
    · go_wp2
      go_ret
      exact ⟨ret_int (by rw [unhide HT, List.take_of_length_le (by omega)]), rfl⟩

theorem dists (a : Option Addr) (cap : Nat) (l : List Int) (w : World) (hl : l.length ≤ 32) (hi : In 4000 l) (hr : Row w a l) :
    Calls Tryz.prog 70 #[.slice a l.length cap] w fun e w' => e = .returned (.int .i64 (loud l : Int)) ∧ w = w' := by
  go_enter Tryz.func70, Tryz.ntmps70
  go_wp2_with fail
  refine (sumL a cap l w hl hi hr).mono ?_
  rintro e w2 ⟨rfl, rfl⟩
  go_wp2
  go_ret
  exact ⟨rfl, rfl⟩

end Go.Proofs.YtephagojpnfhcajGreatDoor.Pls

/-
  sound.Loud of a few numbers: by their contracts.
-/
namespace Go.Proofs.YtephagojpnfhcajGreatDoor.Pls
open Go.RowKit
open Go.Proofs.YtephagojpnfhcajGreatDoor.Tre Go.Proofs.YtephagojpnfhcajGreatDoor.Lap
set_option linter.unusedVariables false

theorem loud_ok (a : Option Addr) (cap : Nat) (l : List Int) (w : World) (hl : l.length ≤ 32) (hi : In 1000 l) (hr : Row w a l) :
    Calls Tryz.prog 52 #[.slice a l.length cap] w fun e w' => e = .returned (.tuple #[.int .i64 (loud l : Int), .nilIface]) ∧ Below w.heap.size w w' := by
  go_enter Tryz.func52, Tryz.ntmps52
  go_wp2_with fail
  refine (snd_ok a cap l w hl hi hr).mono ?_
  rintro e w1 ⟨rfl, hb1⟩
  have hr1 := hr.below hb1
  go_wp2_with fail
  refine (dists a cap l w1 hl (hi.mono (by omega)) hr1).mono ?_
  rintro e w2 ⟨rfl, rfl⟩
  go_wp2
  go_ret2
  exact ⟨rfl, hb1⟩

end Go.Proofs.YtephagojpnfhcajGreatDoor.Pls

/-
  Package pulse: Check: by its contracts.
-/
namespace Go.Proofs.YtephagojpnfhcajGreatDoor.Pls
open Go.RowKit
open Go.Proofs.YtephagojpnfhcajGreatDoor.Tre Go.Proofs.YtephagojpnfhcajGreatDoor.Lap
set_option linter.unusedVariables false

set_option maxHeartbeats 1000000 in
theorem check_ok (a : Option Addr) (cap : Nat) (l : List Int) (w : World) (hr : Row w a l) (h : Hid (fault l = 0)) :
    Calls Tryz.prog 23 #[.slice a l.length cap] w fun e w' => e = .returned (.tuple #[.int .i64 (loud l : Int), .nilIface]) ∧ Below w.heap.size w w' := by
  obtain ⟨h1, h2, h3⟩ := fault_ok (unhide h)
  have hb1 : Below w.heap.size w (w.alloc (.cells #[.int .i64 8] 3)) := (Below.refl _ _).alloc (Nat.le_refl _) _
  have HA := hide (any_of_in h2)
  have hr1 := hr.below hb1
  have hL := hide (loud_ok a cap l (w.alloc (.cells #[.int .i64 8] 3)) (by omega) (h2.mono (by omega)) hr1)
  obtain ⟨k, hk⟩ : ∃ k, loud l = k := ⟨_, rfl⟩
  rw [hk] at hL h3 ⊢
  clear hk
  go_enter Tryz.func23, Tryz.ntmps23
  go_wp2_with fail
  refine (beyond 8 w).mono ?_
  rintro e w1 ⟨rfl, rfl⟩
  go_wp2_with fail
  refine (containsFunc 8 a cap l w.heap.size (w.alloc (.cells #[.int .i64 8] 3)) (by omega) (by omega) (by omega) hr1 (boxed_cell w 8 3)).mono ?_
  rw [unhide HA]
  rintro e w1 ⟨rfl, rfl⟩
  go_wp2_with fail
  refine (unhide hL).mono ?_
  rintro e w2 ⟨rfl, hb2⟩
  go_wp2
  go_ret2
  exact ⟨rfl, Below.chain hb1 hb2⟩

set_option maxHeartbeats 1000000 in
theorem check_no (a : Option Addr) (cap : Nat) (l : List Int) (w : World) (hl : l.length ≤ 9223372036854775807) (hr : Row w a l) (h : Hid (fault l ≠ 0)) :
    Calls Tryz.prog 23 #[.slice a l.length cap] w fun e w' => e = .returned (.tuple #[.int .i64 0, .iface 63 (.int .i64 (fault l))]) ∧ Below w.heap.size w w' := by
  by_cases h1 : 6 < l.length
  · have hv : fault l = 4 := by unfold fault; rw [if_pos h1]
    rw [hv]
    clear hv h
    go_enter Tryz.func23, Tryz.ntmps23
    go_wp2
    go_ret2
    exact ⟨rfl, Below.refl _ _⟩
  · have hb1 : Below w.heap.size w (w.alloc (.cells #[.int .i64 8] 3)) := (Below.refl _ _).alloc (Nat.le_refl _) _
    have hr1 := hr.below hb1
    cases hany : l.any (out 8)
    · have h2 : In 8 l := in_of_any hany
      have hk : 8 < loud l := by
        rcases Nat.lt_or_ge 8 (loud l) with h' | h'
        · exact h'
        · exact absurd (fault_none (by omega) h2 h') (unhide h)
      have hv : fault l = 4 := by unfold fault; rw [if_neg h1, hany, if_neg (by simp), if_pos hk]
      rw [hv]
      have HA := hide hany
      have hle := loud_in (b := 8) h2
      have hL := hide (loud_ok a cap l (w.alloc (.cells #[.int .i64 8] 3)) (by omega) (h2.mono (by omega)) hr1)
      have hl6 : loud l ≤ 48 := by omega
      obtain ⟨k, hk'⟩ : ∃ k, loud l = k := ⟨_, rfl⟩
      rw [hk'] at hL hk hl6
      clear hv h hany hk' hle h2
      go_enter Tryz.func23, Tryz.ntmps23
      go_wp2_with fail
      refine (beyond 8 w).mono ?_
      rintro e w1 ⟨rfl, rfl⟩
      go_wp2_with fail
      refine (containsFunc 8 a cap l w.heap.size (w.alloc (.cells #[.int .i64 8] 3)) (by omega) (by omega) (by omega) hr1 (boxed_cell w 8 3)).mono ?_
      rw [unhide HA]
      rintro e w1 ⟨rfl, rfl⟩
      go_wp2_with fail
      refine (unhide hL).mono ?_
      rintro e w2 ⟨rfl, hb2⟩
      go_wp2
      go_ret2
      exact ⟨rfl, Below.chain hb1 hb2⟩
    · have hv : fault l = 1 := by unfold fault; rw [if_neg h1, hany, if_pos rfl]
      rw [hv]
      have HA := hide hany
      clear hv h hany
      go_enter Tryz.func23, Tryz.ntmps23
      go_wp2_with fail
      refine (beyond 8 w).mono ?_
      rintro e w1 ⟨rfl, rfl⟩
      go_wp2_with fail
      refine (containsFunc 8 a cap l w.heap.size (w.alloc (.cells #[.int .i64 8] 3)) (by omega) (by omega) (by omega) hr1 (boxed_cell w 8 3)).mono ?_
      rw [unhide HA]
      rintro e w1 ⟨rfl, rfl⟩
      go_wp2
      go_ret2
      exact ⟨rfl, hb1⟩

end Go.Proofs.YtephagojpnfhcajGreatDoor.Pls

/-
  lap.guess, lap.lift: by their contracts.
-/
namespace Go.Proofs.YtephagojpnfhcajGreatDoor.Lap
open Go.RowKit
open Go.Proofs.YtephagojpnfhcajGreatDoor.Tre
set_option linter.unusedVariables false

set_option maxHeartbeats 1000000 in
theorem guess (a : Option Addr) (n cap : Nat) (l : List Int) (i : Nat) (w : World) (hn : Hid (n = l.length)) (hl : n ≤ 1000) (hi : i < n) (hin : In 100000 l) (hr : Row w a l) :
    Calls Tryz.prog 114 #[.slice a n cap, .int .i64 i] w fun e w' => e = .returned (.int .i64 (gs l i)) ∧ ∃ q, w' = w.drewN q := by
  obtain ⟨b, off, rfl, hc⟩ := row_cell hr (by rw [← unhide hn]; omega)
  obtain ⟨x0, x1⟩ := hin.at (by omega) i
  obtain ⟨k, hk⟩ : ∃ k, k = min (i + 1) (n - 1) := ⟨_, rfl⟩
  obtain ⟨y0, y1⟩ := hin.at (by omega) k
  have hc1 := hc i (by rw [← unhide hn]; exact hi)
  have hc2 := hc k (by rw [← unhide hn]; omega)
  have HG : Hid (gs l i = (at0 l i + at0 l k) / 2) := hide (by unfold gs; rw [← unhide hn, ← hk])
  clear hc
  obtain ⟨X, hX⟩ : ∃ X, at0 l i = X := ⟨_, rfl⟩
  obtain ⟨Y, hY⟩ : ∃ Y, at0 l k = Y := ⟨_, rfl⟩
  rw [hX, hY] at HG
  rw [hX] at x0 x1 hc1
  rw [hY] at y0 y1 hc2
  clear hX hY
  obtain ⟨G, hG⟩ : ∃ G, gs l i = G := ⟨_, rfl⟩
  rw [hG] at HG ⊢
  clear hG
  have hkn : k < n := by omega
  by_cases h : i + 1 < n
  · obtain rfl : k = i + 1 := by omega
    have hm : ¬ ((n : Int) - 1 < (i : Int) + 1) := by omega
    clear hk
    go_enter Tryz.func114, Tryz.ntmps114
    go_wp2
    go_quiet (fail)
    go_wp2
    go_ret
    exact ⟨ret_int (unhide HG).symm, nq, rfl⟩
  · obtain rfl : i = k := by omega
    obtain rfl : X = Y := by rw [hc1] at hc2; cases hc2; rfl
    have hm : (n : Int) - 1 = (i : Int) := by omega
    clear hk
    go_enter Tryz.func114, Tryz.ntmps114
    go_wp2
    go_quiet (fail)
    go_wp2
    go_ret
    exact ⟨ret_int (unhide HG).symm, nq, rfl⟩

set_option maxHeartbeats 1000000 in
theorem lift (a : Option Addr) (n cap : Nat) (l : List Int) (i : Nat) (w : World) (hn : Hid (n = l.length)) (hl : n ≤ 1000) (hi : i < n) (hin : In 100000 l) (hr : Row w a l) :
    Calls Tryz.prog 115 #[.slice a n cap, .int .i64 i] w fun e w' => e = .returned (.int .i64 (lf l i)) ∧ ∃ q, w' = w.drewN q := by
  obtain ⟨b, off, rfl, hc⟩ := row_cell hr (by rw [← unhide hn]; omega)
  obtain ⟨x0, x1⟩ := hin.at (by omega) i
  obtain ⟨k, hk⟩ : ∃ k, k = i - 1 := ⟨_, rfl⟩
  obtain ⟨y0, y1⟩ := hin.at (by omega) k
  have hc1 := hc i (by rw [← unhide hn]; exact hi)
  have hc2 := hc k (by rw [← unhide hn]; omega)
  have HG : Hid (lf l i = (at0 l k + at0 l i + 2) / 4) := hide (by unfold lf; rw [← hk])
  clear hc
  obtain ⟨X, hX⟩ : ∃ X, at0 l i = X := ⟨_, rfl⟩
  obtain ⟨Y, hY⟩ : ∃ Y, at0 l k = Y := ⟨_, rfl⟩
  rw [hX, hY] at HG
  rw [hX] at x0 x1 hc1
  rw [hY] at y0 y1 hc2
  clear hX hY
  obtain ⟨G, hG⟩ : ∃ G, lf l i = G := ⟨_, rfl⟩
  rw [hG] at HG ⊢
  clear hG
  have hkn : k < n := by omega
  by_cases h : 0 < i
  · have hm : (i : Int) - 1 = (k : Int) := by omega
    have hm0 : ¬ ((k : Int) < 0) := by omega
    clear hk
    go_enter Tryz.func115, Tryz.ntmps115
    go_wp2
    go_quiet (fail)
    go_wp2
    go_ret
    exact ⟨ret_int (unhide HG).symm, nq, rfl⟩
  · obtain rfl : i = 0 := by omega
    obtain rfl : k = 0 := by omega
    obtain rfl : X = Y := by rw [hc1] at hc2; cases hc2; rfl
    clear hk
    rw [Nat.add_zero] at hc1
    go_enter Tryz.func115, Tryz.ntmps115
    go_wp2
    go_quiet (fail)
    go_wp2
    go_ret
    exact ⟨ret_int (unhide HG).symm, nq, rfl⟩

end Go.Proofs.YtephagojpnfhcajGreatDoor.Lap

/-
  A number of a list of this call's own is set.
-/
namespace Go.Proofs.YtephagojpnfhcajGreatDoor.Lap
open Go.RowKit
open Go.Proofs.YtephagojpnfhcajGreatDoor.Tre
set_option linter.unusedVariables false

/-- One more number of a list of this call's own is as by f. -/
theorem put_mid {wr : World} {base g n c j : Nat} {f f0 : Nat → Int} {X : Int} (h : Has wr base (.slice (some ⟨g, 0, none⟩) n c) (mid f f0 n j)) (hj : j < n) (hx : f j = X) (q : Nat) :
    Has ((wr.drewN q).setCell ⟨g, j, none⟩ (.int .i64 X)) base (.slice (some ⟨g, 0, none⟩) n c) (mid f f0 n (j + 1)) ∧
      (∀ u m, Has wr base u m → Off u (.slice (some ⟨g, 0, none⟩) n c) → Has ((wr.drewN q).setCell ⟨g, j, none⟩ (.int .i64 X)) base u m) ∧
      (∀ w, Below base w wr → base ≤ g → Below base w ((wr.drewN q).setCell ⟨g, j, none⟩ (.int .i64 X))) := by
  have h1 : Has (wr.drewN q) base (.slice (some ⟨g, 0, none⟩) n c) (mid f f0 n j) := h
  obtain ⟨h2, h3⟩ := h1.put j X
  refine ⟨?_, fun u m hu ho => ?_, fun w hb hg => ?_⟩
  · rw [← mid_set f f0 hj, hx]; exact h2
  · exact Has.beside (show Has (wr.drewN q) base u m from hu) rfl ho h3
  · exact Below.setCell (w := wr.drewN q) (p := ⟨g, j, none⟩) (hb.trans ⟨rfl, rfl, rfl, Nat.le_refl _, fun _ _ => rfl⟩) hg _

end Go.Proofs.YtephagojpnfhcajGreatDoor.Lap

/-
  lap.cut, lap.mesh: by their contracts.
-/
namespace Go.Proofs.YtephagojpnfhcajGreatDoor.Lap
open Go.RowKit
open Go.Proofs.YtephagojpnfhcajGreatDoor.Tre
set_option linter.unusedVariables false

/-- Nil has no room; else it is no longer than its room. -/
def Roomy (a : Option Addr) (len cap : Nat) : Prop := (a = none → cap = 0) ∧ len ≤ cap ∧ cap ≤ 9223372036854775807

theorem has_roomy {w : World} {base : Nat} {a : Option Addr} {n cap : Nat} {l : List Int} (h : Has w base (.slice a n cap) l) : Roomy a n cap := by
  rcases h.2 with ⟨e, _⟩ | ⟨g, c, cur, e, hb, hg, hn, hm, _⟩
  · obtain ⟨rfl, rfl, rfl⟩ := Value.slice.inj e
    exact ⟨fun _ => rfl, Nat.le_refl _, by omega⟩
  · obtain ⟨rfl, rfl, rfl⟩ := Value.slice.inj e
    exact ⟨fun h => (by cases h), hn, by simpa [maxLen] using hm⟩

set_option maxHeartbeats 2000000 in
theorem cut (a : Option Addr) (cap : Nat) (l : List Int) (w : World) (hl : l.length ≤ 1000) (he : Hid (l.length = 2 * (l.length / 2))) (hm : Roomy a l.length cap) (hr : Row w a l) :
    Calls Tryz.prog 124 #[.slice a l.length cap] w fun e w' => ∃ s d, e = .returned (.tuple #[s, d]) ∧ Has w' w.heap.size s (fr l) ∧ Has w' w.heap.size d (bk l) ∧ Off s d ∧ Below w.heap.size w w' := by
  obtain ⟨m1, m2, m3⟩ := hm
  have hdv : Int.tdiv (l.length : Int) 2 = ((l.length / 2 : Nat) : Int) := rfl
  by_cases h0 : 0 < l.length
  · obtain ⟨b, off, rfl, hb, _⟩ := hr.at h0
    obtain ⟨n, hn⟩ : ∃ n, l.length / 2 = n := ⟨_, rfl⟩
    have H1 : Hid ((fr l).length = n) := hide (by rw [fr_length, hn])
    have H2 : Hid ((bk l).length = l.length - n) := hide (by rw [bk_length (unhide he)]; have := unhide he; omega)
    have r1 : Row w _ (fr l) := hr.take (l.length / 2)
    have r2 : Row w (some ⟨b, off + n, none⟩) (bk l) := by have := hr.drop (l.length / 2); rw [hn] at this; unfold bk; rw [hn]; exact this
    rw [hn] at hdv
    have hn1 : n < l.length := by omega
    obtain ⟨N, hN⟩ : ∃ N, l.length = N := ⟨_, rfl⟩
    rw [hN] at hdv H2 m2 hl h0 hn1 ⊢
    clear hn hN he hr
    have hcn : n ≤ cap := by omega
    have hne : ¬ (cap = n) := by omega
    go_enter Tryz.func124, Tryz.ntmps124
    go_wp2_with (first
      | (at_builtin; refine wpList_app _ rfl _ _ rfl w.heap.size _ [] (fr l) (some ⟨b, off, none⟩) cap rfl (Has.nil _ _) (congrArg (fun n => Value.slice (some ⟨b, off, none⟩) n cap) (unhide H1).symm) r1 (by rw [unhide H1]; simp; omega) (Nat.le_refl _) ?_; intro s1 w1 k1 g1 at1; rw [List.nil_append] at k1; have b1 : Below w.heap.size w w1 := (Below.refl _ _).grown g1 (Nat.le_refl _) (fun k e => by cases e); have r2' := r2.below b1; clear r1)
      | (at_builtin; refine wpList_app _ rfl _ _ rfl w.heap.size _ [] (bk l) (some ⟨b, off + n, none⟩) (cap - n) rfl (Has.nil _ _) (congrArg (fun k => Value.slice (some ⟨b, off + n, none⟩) k (cap - n)) (unhide H2).symm) r2' (by rw [unhide H2]; simp; omega) b1.size ?_; intro s2 w2 k2 g2 at2; rw [List.nil_append] at k2))
    obtain ⟨k1', ho⟩ := apart k1 g2 at2 (off_nil _)
    go_ret2
    exact ⟨_, _, rfl, k1', k2, ho, b1.grown g2 b1.size (fun k e => by cases e)⟩
  · obtain rfl : l = [] := List.eq_nil_of_length_eq_zero (by omega)
    have rn : ∀ (x : World) (b : Option Addr), Row x b [] := fun _ _ => Or.inl rfl
    have hfin : ∀ (s1 s2 : Value) (w1 w2 : World), Has w1 w.heap.size s1 [] → w.grownBy w1 none → Has w2 w.heap.size s2 [] → w1.grownBy w2 none → (s2.ownBlock = none ∨ s2.ownBlock = some w1.heap.size) →
        ∃ s d, Ending.returned (.tuple #[s1, s2]) = .returned (.tuple #[s, d]) ∧ Has w2 w.heap.size s (fr []) ∧ Has w2 w.heap.size d (bk []) ∧ Off s d ∧ Below w.heap.size w w2 := by
      intro s1 s2 w1 w2 k1 g1 k2 g2 at2
      have b1 : Below w.heap.size w w1 := (Below.refl _ _).grown g1 (Nat.le_refl _) (fun k e => by cases e)
      obtain ⟨k1', ho⟩ := apart (v := .slice none 0 0) k1 g2 at2 (off_nil _)
      exact ⟨_, _, rfl, k1', k2, ho, b1.grown g2 b1.size (fun k e => by cases e)⟩
    clear he hr hl h0
    cases a with
    | none =>
      obtain rfl := m1 rfl
      go_enter Tryz.func124, Tryz.ntmps124
      go_wp2
      go_ret2
      exact hfin _ _ _ _ (Has.nil _ _) (World.grownBy.refl _ _) (Has.nil _ _) (World.grownBy.refl _ _) (Or.inl rfl)
    | some x =>
      go_enter Tryz.func124, Tryz.ntmps124
      go_wp2
      go_ret2
      exact hfin _ _ _ _ (Has.nil _ _) (World.grownBy.refl _ _) (Has.nil _ _) (World.grownBy.refl _ _) (Or.inl rfl)

set_option maxHeartbeats 2000000 in
theorem mesh (n : Nat) (a : Option Addr) (cap : Nat) (l : List Int) (a' : Option Addr) (cap' : Nat) (m : List Int) (w : World) (hn : n ≤ 1000) (ha : Hid (n = l.length)) (hb : Hid (n = m.length)) (hr : Row w a l) (hr' : Row w a' m) :
    Calls Tryz.prog 125 #[.slice a n cap, .slice a' n cap'] w fun e w' => ∃ v, e = .returned v ∧ Has w' w.heap.size v (flat (at0 l) (at0 m) n) ∧ Below w.heap.size w w' := by
  go_enter Tryz.func125, Tryz.ntmps125
  go_wp2
  go_loopw [5, 10] (fun v i wr => ∃ j : Nat, j ≤ n ∧ i = .int .i64 j ∧ Has wr w.heap.size v (flat (at0 l) (at0 m) j) ∧ Below w.heap.size w wr) (fun _ i _ => n - (intOf i).toNat)
  case atStart => exact ⟨0, Nat.zero_le _, rfl, Has.nil _ _, Below.refl _ _⟩
  case round =>
    obtain ⟨j, hj, rfl, h1, hB⟩ := hrel
    by_cases hlt : j < n
    · obtain ⟨b, off, rfl, hc⟩ := row_cell (hr.below hB) (by rw [← unhide ha]; omega)
      obtain ⟨b', off', rfl, hc'⟩ := row_cell (hr'.below hB) (by rw [← unhide hb]; omega)
      have hc1 := hc j (by rw [← unhide ha]; omega)
      have hc2 := hc' j (by rw [← unhide hb]; omega)
      have hWs := hB.size
      have e1 := hide (flat_succ (at0 l) (at0 m) j)
      obtain ⟨X, hX⟩ : ∃ X, at0 l j = X := ⟨_, rfl⟩
      obtain ⟨Y, hY⟩ : ∃ Y, at0 m j = Y := ⟨_, rfl⟩
      rw [hX, hY] at e1
      rw [hX] at hc1
      rw [hY] at hc2
      have hln : Hid ((flat (at0 l) (at0 m) j).length + 2 ≤ 1000000) := hide (by rw [flat_length]; omega)
      clear hX hY hc hc'
      go_wp2_with (at_builtin; refine wpList_app _ rfl _ _ rfl w.heap.size u5 (flat (at0 l) (at0 m) j) [X, Y] _ _ rfl (h1.alloc _) rfl (row_two _ _ _ _) (unhide hln) (by simp; omega) ?_; intro s' w1 k1 g1 at1)
      obtain ⟨d1, d2⟩ := stepped_plain h1 hWs k1 g1 at1
      go_wp2
      go_roundw
      case rel => exact ⟨j + 1, by omega, by go_num, by rw [unhide e1]; exact k1, hB.trans d1⟩
      case measure => simp [intOf]; omega
    · obtain rfl : j = n := by omega
      go_wp2
      go_ret
      exact ⟨_, rfl, h1, hB⟩

end Go.Proofs.YtephagojpnfhcajGreatDoor.Lap

/-
  share.outside, share.check: by their contracts.
-/
namespace Go.Proofs.YtephagojpnfhcajGreatDoor.Shr
open Go.RowKit
open Go.Proofs.YtephagojpnfhcajGreatDoor.Tre Go.Proofs.YtephagojpnfhcajGreatDoor.Cnt Go.Proofs.YtephagojpnfhcajGreatDoor.Bnd
set_option linter.unusedVariables false

/-- A number is not from 0 to m. -/
def outs (m n : Int) : Bool := decide (n < 0) || decide (m < n)
theorem any_of (c : Int) (l : List Int) (k : Nat) (hk : k < l.length) (h : outs c l[k] = true) : l.any (outs c) = true :=
  List.any_eq_true.2 ⟨l[k], List.getElem_mem hk, h⟩
theorem any_step (c : Int) (l : List Int) (k : Nat) (hk : k < l.length) (h0 : (l.take k).any (outs c) = false) (h : outs c l[k] = false) : (l.take (k + 1)).any (outs c) = false := by
  rw [List.take_succ_eq_append_getElem hk, List.any_append, h0]
  simp [h]

theorem outside1 (c n : Int) (B : Nat) (w : World) (hc : w.cell? ⟨B, 0, none⟩ = some (.int .i64 c)) :
    Calls Tryz.prog 141 #[.int .i64 n, .pointer (some ⟨B, 0, none⟩)] w fun e w' => e = .returned (.bool (outs c n)) ∧ w' = w := by
  by_cases h1 : n < 0
  · have h3 : decide (n < 0) = true := by simpa using h1
    go_enter Tryz.func141, Tryz.ntmps141
    go_wp2
    go_ret
    exact ⟨by simp [outs, h3], rfl⟩
  · have h2 : decide (n < 0) = false := by simpa using h1
    go_enter Tryz.func141, Tryz.ntmps141
    go_wp2
    go_ret
    exact ⟨by simp [outs, h2], rfl⟩

set_option maxHeartbeats 400000 in
theorem indexFunc (c : Int) (a : Option Addr) (cap : Nat) (l : List Int) (B : Nat) (w : World) (hl : l.length ≤ 9223372036854775807) (hr : Row w a l) (hc : w.cell? ⟨B, 0, none⟩ = some (.int .i64 c)) :
    Calls Tryz.prog 76 #[.slice a l.length cap, .func (.func 141) #[] #[.pointer (some ⟨B, 0, none⟩)]] w
      fun e w' => (∃ r : Int, e = .returned (.int .i64 r) ∧ (decide (0 ≤ r)) = l.any (outs c)) ∧ w' = w := by
  go_enter Tryz.func76, Tryz.ntmps76
  go_wp2
  go_loop [8] (fun i => ∃ k : Nat, k ≤ l.length ∧ i = .int .i64 k ∧ (l.take k).any (outs c) = false) (fun i => l.length - (intOf i).toNat)
  case atStart => exact ⟨0, Nat.zero_le _, rfl, by simp⟩
  case round =>
    obtain ⟨k, hk, rfl, hno⟩ := hrel
    have HNO : Hid ((l.take k).any (outs c) = false) := hno
    clear hno
    by_cases hlt : k < l.length
    · obtain ⟨b, off, rfl, hb, hcs⟩ := hr.at hlt
      have hck := hcs k hlt
      clear hcs
      go_wp2_with (go_at_call 141; refine (outside1 c _ _ _ hc).mono ?_; rintro e w' ⟨rfl, rfl⟩)
      · go_ret
        have hh : outs c l[k] = true := by assumption
        exact ⟨⟨k, rfl, by rw [any_of c l k hlt hh]; simp⟩, rfl⟩
      · have hh : outs c l[k] = false := by assumption
        go_round
        case rel => exact ⟨k + 1, by omega, by go_num, any_step c l k hlt HNO.out hh⟩
        case measure => simp [intOf]; omega
    · go_wp2
      go_ret
      have hh := HNO.out
      rw [List.take_of_length_le (by omega)] at hh
      exact ⟨⟨-1, rfl, by rw [hh]; rfl⟩, rfl⟩

theorem containsFunc (c : Int) (a : Option Addr) (cap : Nat) (l : List Int) (B : Nat) (w : World) (hl : l.length ≤ 9223372036854775807) (hr : Row w a l) (hc : w.cell? ⟨B, 0, none⟩ = some (.int .i64 c)) :
    Calls Tryz.prog 42 #[.slice a l.length cap, .func (.func 141) #[] #[.pointer (some ⟨B, 0, none⟩)]] w
      fun e w' => e = .returned (.bool (l.any (outs c))) ∧ w' = w := by
  go_enter Tryz.func42, Tryz.ntmps42
  go_wp2_with fail
  refine (indexFunc c a cap l B w hl hr hc).mono ?_
  rintro e w' ⟨⟨r, rfl, hr2⟩, rfl⟩
  have HR := hide hr2
  clear hr2
  go_wp2
  go_ret
  exact ⟨by rw [← unhide HR]; rfl, rfl⟩

theorem boxed_cell (w : World) (c : Int) (t : TypeId) : (w.alloc (.cells #[.int .i64 c] t)).cell? ⟨w.heap.size, 0, none⟩ = some (.int .i64 c) := by
  rw [World.cell?_alloc_at _ _ _ _ rfl]; rfl
theorem below_box (w : World) (v : Value) (t : TypeId) : Below w.heap.size w (w.alloc (.cells #[v] t)) := (Below.refl _ _).alloc (Nat.le_refl _) _

theorem outside (c : Int) (w : World) : Calls Tryz.prog 108 #[.int .i64 c] w fun e w' => ∃ B : Nat, e = .returned (.func (.func 141) #[] #[.pointer (some ⟨B, 0, none⟩)]) ∧ w'.cell? ⟨B, 0, none⟩ = some (.int .i64 c) ∧ Below w.heap.size w w' := by
  have hmf : ∀ (fn : Fn) (first cap : Array Value) (w : World), (Instr.makeFunc fn first cap).run Tryz.prog w = .ok (.func fn first cap) w := fun _ _ _ _ => rfl
  go_enter Tryz.func108, Tryz.ntmps108
  go_wp2
  go_ret
  exact ⟨_, rfl, boxed_cell _ _ _, below_box _ _ _⟩

/-- The fault of sizes, and of numbers that bands have. -/
def chkF (s p : List Int) (m : Int) : Int := if bf s = 0 then (if p.length = s.length then (if p.any (outs m) = true then 1 else 0) else 3) else bf s
theorem costF_chk (s p : List Int) : costF s p = chkF s p 8 := rfl
theorem ofF_chk (s d : List Int) (B : Int) : ofF s d B = if chkF s d 8000 = 0 then (if outs 400 B = true then 1 else 0) else chkF s d 8000 := by
  have e : (lou : Int → Bool) = outs 8000 := rfl
  have e2 : (outs 400 B = true) ↔ (B < 0 ∨ 400 < B) := by simp [outs]
  unfold ofF chkF
  rw [e]
  by_cases h1 : bf s = 0
  · rw [if_pos h1, if_pos h1]
    by_cases h2 : d.length = s.length
    · rw [if_pos h2, if_pos h2]
      by_cases h3 : d.any (outs 8000) = true
      · rw [if_pos h3, if_pos h3, if_neg (by omega)]
      · rw [if_neg h3, if_neg h3, if_pos rfl]
        by_cases h4 : B < 0 ∨ 400 < B
        · rw [if_pos h4, if_pos (e2.2 h4)]
        · rw [if_neg h4, if_neg (mt e2.1 h4)]
    · rw [if_neg h2, if_neg h2, if_neg (by omega)]
  · rw [if_neg h1, if_neg h1, if_neg h1]

set_option maxHeartbeats 1000000 in
theorem check (a : Option Addr) (cap : Nat) (s : List Int) (b : Option Addr) (capb : Nat) (p : List Int) (m : Int) (w : World) (zs : s.length ≤ 9223372036854775807) (zp : p.length ≤ 9223372036854775807) (hr : Row w a s) (hp : Row w b p) :
    Calls Tryz.prog 107 #[.slice a s.length cap, .slice b p.length capb, .int .i64 m] w fun e w' => e = .returned (Ev.errV (chkF s p m)) ∧ Below w.heap.size w w' := by
  have HF : Hid (chkF s p m = if bf s = 0 then (if p.length = s.length then (if p.any (outs m) = true then 1 else 0) else 3) else bf s) := hide rfl
  obtain ⟨F, hF⟩ : ∃ F, chkF s p m = F := ⟨_, rfl⟩
  rw [hF] at HF ⊢
  clear hF
  by_cases h1 : bf s = 0
  · have hk := check_ok a cap s w zs hr h1
    have HF1 := unhide HF
    rw [if_pos h1] at HF1
    have HF2 := hide HF1
    obtain ⟨T, hT⟩ : ∃ T, (total s : Int) = T := ⟨_, rfl⟩
    rw [hT] at hk
    have hcf := hide (fun B W h1 h2 => containsFunc m b capb p B W zp h1 h2)
    obtain ⟨N, hN⟩ : ∃ N, s.length = N := ⟨_, rfl⟩
    obtain ⟨M, hM⟩ : ∃ M, p.length = M := ⟨_, rfl⟩
    rw [hN] at hk zs HF2 ⊢
    rw [hM] at hcf zp HF2 ⊢
    clear hT HF HF1 h1 hN hM hr
    by_cases h2 : M = N
    · have hne : ((M : Int) != (N : Int)) = false := by simp [h2]
      have HF3 := unhide HF2
      rw [if_pos h2] at HF3
      have HF4 := hide HF3
      have HP := hide hp
      clear HF2 HF3 h2 hp
      go_enter Tryz.func107, Tryz.ntmps107
      go_wp2_with fail
      refine hk.mono ?_
      clear hk
      rintro e w1 ⟨rfl, rfl⟩
      go_wp2_with fail
      refine (outside m _).mono ?_
      rintro e w2 ⟨B, rfl, hc2, hb2⟩
      go_wp2_with fail
      refine (unhide hcf B w2 ((unhide HP).below hb2) hc2).mono ?_
      rintro e w3 ⟨rfl, rfl⟩
      cases hT : p.any (outs m)
      · have e0 : F = 0 := by rw [unhide HF4, hT]; rfl
        subst e0
        clear HF4 hT
        go_wp2
        go_ret
        exact ⟨rfl, hb2⟩
      · have e0 : F = 1 := by rw [unhide HF4, hT]; rfl
        subst e0
        clear HF4 hT
        go_wp2
        go_ret
        exact ⟨rfl, hb2⟩
    · have hne : ((M : Int) != (N : Int)) = true := by simp; omega
      have HF3 := unhide HF2
      rw [if_neg h2] at HF3
      subst HF3
      clear HF2 h2 hcf hp
      go_enter Tryz.func107, Tryz.ntmps107
      go_wp2_with fail
      refine hk.mono ?_
      clear hk
      rintro e w1 ⟨rfl, rfl⟩
      go_wp2
      go_ret
      exact ⟨rfl, Below.refl _ _⟩
  · have hk := check_no a cap s w zs hr h1
    have e0 := unhide HF
    rw [if_neg h1] at e0
    rw [← e0] at hk h1
    have HE := hide (Ev.errV_ne h1)
    obtain ⟨N, hN⟩ : ∃ N, s.length = N := ⟨_, rfl⟩
    obtain ⟨M, hM⟩ : ∃ M, p.length = M := ⟨_, rfl⟩
    rw [hN] at hk ⊢
    rw [hM]
    clear hN hM zs zp hr hp HF e0 h1
    go_enter Tryz.func107, Tryz.ntmps107
    go_wp2_with fail
    refine hk.mono ?_
    clear hk
    rintro e w1 ⟨rfl, rfl⟩
    go_wp2
    go_ret
    exact ⟨by rw [unhide HE]; rfl, Below.refl _ _⟩

end Go.Proofs.YtephagojpnfhcajGreatDoor.Shr

/-
  The rest of a row ('l[t:]'), whatever lies beneath it; the first ones of a slice of this call's own ('v[:n]').
-/
namespace Go.Proofs.YtephagojpnfhcajGreatDoor
open Go.RowKit
open Go.Proofs.YtephagojpnfhcajGreatDoor.Tre
set_option linter.unusedVariables false

set_option maxRecDepth 100000 in
theorem row_rest {w : World} {a : Option Addr} {l : List Int} (h : Row w a l) (cap : Nat) (hm : l.length ≤ cap) {t : Nat} (ht : t ≤ l.length) :
    ∃ A, (∀ W, (Instr.slice 22 (.slice a l.length cap) (some (.int .i64 t)) none none).run Tryz.prog W = .ok (.slice A (l.length - t) (cap - t)) W) ∧ Row w A (l.drop t) := by
  refine ⟨if cap = t then a else a.map (·.add (t * 1)), fun W => ?_, ?_⟩
  · rw [run_slice_l W 22 a l.length cap Tryz.underlying22 .i64 t (by omega) (by omega), size_ints]
    simp [Result.andThen, sliced]
  · by_cases he : l.length = t
    · refine Or.inl ?_
      rw [← he, List.drop_length]
    · obtain ⟨b, off, rfl, hb, hc⟩ := h.at (k := 0) (by omega)
      rw [if_neg (by omega), Nat.mul_one, Option.map_some, addr_plain]
      exact h.drop t
set_option maxRecDepth 100000 in
theorem Has.first {w : World} {base : Nat} {v : Value} {l : List Int} (h : Has w base v l) {n : Nat} (hn : n ≤ l.length) :
    ∃ v', (∀ W, (Instr.slice 22 v none (some (.int .i64 n)) none).run Tryz.prog W = .ok v' W) ∧ Has w base v' (l.take n) := by
  have hl : (l.take n).length = n := by rw [List.length_take]; omega
  rcases h.2 with ⟨rfl, h0⟩ | ⟨g, cap, cur, rfl, hb, hg, hc, hm, hs, hx⟩
  · obtain rfl : l = [] := List.eq_nil_of_length_eq_zero h0
    obtain rfl : n = 0 := by simpa using hn
    refine ⟨.slice none 0 0, fun W => ?_, Has.nil _ _⟩
    rw [run_slice_h W 22 none 0 0 Tryz.underlying22 .i64 ((0 : Nat) : Int) (by omega) (by omega), size_ints]
    simp [Result.andThen, sliced]
  · refine ⟨.slice (some ⟨g, 0, none⟩) n cap, fun W => ?_, ?_⟩
    · rw [run_slice_h W 22 _ l.length cap Tryz.underlying22 .i64 n (by omega) (by omega), size_ints]
      simp [Result.andThen, sliced, addr_plain]
    · unfold Has
      rw [hl]
      refine ⟨by rw [List.length_map, hl, Nat.mul_one], Or.inr ⟨g, cap, cur, rfl, hb, hg, by omega, hm, hs, ?_⟩⟩
      rw [List.map_take, ← hx, List.take_take, Nat.mul_one, Nat.mul_one, Nat.min_eq_left hn]

end Go.Proofs.YtephagojpnfhcajGreatDoor

/-
  width.check, total: by their contracts.
-/
namespace Go.Proofs.YtephagojpnfhcajGreatDoor.Wid
open Go.RowKit
open Go.Proofs.YtephagojpnfhcajGreatDoor.Tre Go.Proofs.YtephagojpnfhcajGreatDoor.Scl Go.Proofs.YtephagojpnfhcajGreatDoor.Bnd
set_option linter.unusedVariables false

theorem any_of {p : Int → Bool} (l : List Int) (k : Nat) (hk : k < l.length) (h : p l[k] = true) : l.any p = true :=
  List.any_eq_true.2 ⟨l[k], List.getElem_mem hk, h⟩
theorem any_step {p : Int → Bool} (l : List Int) (k : Nat) (hk : k < l.length) (h0 : (l.take k).any p = false) (h : p l[k] = false) : (l.take (k + 1)).any p = false := by
  rw [List.take_succ_eq_append_getElem hk, List.any_append, h0]
  simp [h]

theorem nob1 (n : Int) (w : World) : Calls Tryz.prog 99 #[.int .i64 n] w fun e w' => e = .returned (.bool (nob n)) ∧ w' = w := by
  by_cases h0 : n = 0
  · subst h0
    go_enter Tryz.func99, Tryz.ntmps99
    go_wp2
    go_ret
    exact ⟨rfl, rfl⟩
  · by_cases h1 : n = 1
    · subst h1
      go_enter Tryz.func99, Tryz.ntmps99
      go_wp2
      go_ret
      exact ⟨rfl, rfl⟩
    · have e : nob n = true := by simp [nob]; omega
      have e0 : (n != 0) = true := by simpa using h0
      have e1 : (n != 1) = true := by simpa using h1
      have f0 : (n == 0) = false := by simpa using h0
      have f1 : (n == 1) = false := by simpa using h1
      rw [e]
      clear e h0 h1
      go_enter Tryz.func99, Tryz.ntmps99
      go_wp2
      go_ret
      exact ⟨rfl, rfl⟩
theorem now1 (n : Int) (w : World) : Calls Tryz.prog 97 #[.int .i64 n] w fun e w' => e = .returned (.bool (now n)) ∧ w' = w := by
  by_cases h1 : n < 0
  · have h3 : decide (n < 0) = true := by simpa using h1
    go_enter Tryz.func97, Tryz.ntmps97
    go_wp2
    go_ret
    exact ⟨by simp [now, h3], rfl⟩
  · have h2 : decide (n < 0) = false := by simpa using h1
    go_enter Tryz.func97, Tryz.ntmps97
    go_wp2
    go_ret
    exact ⟨by simp [now, h2], rfl⟩

set_option maxHeartbeats 400000 in
theorem nobIndex (a : Option Addr) (cap : Nat) (l : List Int) (w : World) (hl : l.length ≤ 9223372036854775807) (hr : Row w a l) :
    Calls Tryz.prog 76 #[.slice a l.length cap, .func (.func 99) #[] #[]] w
      fun e w' => (∃ r : Int, e = .returned (.int .i64 r) ∧ (decide (0 ≤ r)) = l.any nob) ∧ w' = w := by
  go_enter Tryz.func76, Tryz.ntmps76
  go_wp2
  go_loop [8] (fun i => ∃ k : Nat, k ≤ l.length ∧ i = .int .i64 k ∧ (l.take k).any nob = false) (fun i => l.length - (intOf i).toNat)
  case atStart => exact ⟨0, Nat.zero_le _, rfl, by simp⟩
  case round =>
    obtain ⟨k, hk, rfl, hno⟩ := hrel
    have HNO : Hid ((l.take k).any nob = false) := hno
    clear hno
    by_cases hlt : k < l.length
    · obtain ⟨b, off, rfl, hb, hcs⟩ := hr.at hlt
      have hck := hcs k hlt
      clear hcs
      go_wp2_with (go_at_call 99; refine (nob1 _ _).mono ?_; rintro e w' ⟨rfl, rfl⟩)
      · go_ret
        have hh : nob l[k] = true := by assumption
        exact ⟨⟨k, rfl, by rw [any_of l k hlt hh]; simp⟩, rfl⟩
      · have hh : nob l[k] = false := by assumption
        go_round
        case rel => exact ⟨k + 1, by omega, by go_num, any_step l k hlt HNO.out hh⟩
        case measure => simp [intOf]; omega
    · go_wp2
      go_ret
      have hh := HNO.out
      rw [List.take_of_length_le (by omega)] at hh
      exact ⟨⟨-1, rfl, by rw [hh]; rfl⟩, rfl⟩
theorem nobContains (a : Option Addr) (cap : Nat) (l : List Int) (w : World) (hl : l.length ≤ 9223372036854775807) (hr : Row w a l) :
    Calls Tryz.prog 42 #[.slice a l.length cap, .func (.func 99) #[] #[]] w
      fun e w' => e = .returned (.bool (l.any nob)) ∧ w' = w := by
  go_enter Tryz.func42, Tryz.ntmps42
  go_wp2_with fail
  refine (nobIndex a cap l w hl hr).mono ?_
  rintro e w' ⟨⟨r, rfl, hr2⟩, rfl⟩
  have HR := hide hr2
  clear hr2
  go_wp2
  go_ret
  exact ⟨by rw [← unhide HR]; rfl, rfl⟩
set_option maxHeartbeats 400000 in
theorem nowIndex (a : Option Addr) (cap : Nat) (l : List Int) (w : World) (hl : l.length ≤ 9223372036854775807) (hr : Row w a l) :
    Calls Tryz.prog 76 #[.slice a l.length cap, .func (.func 97) #[] #[]] w
      fun e w' => (∃ r : Int, e = .returned (.int .i64 r) ∧ (decide (0 ≤ r)) = l.any now) ∧ w' = w := by
  go_enter Tryz.func76, Tryz.ntmps76
  go_wp2
  go_loop [8] (fun i => ∃ k : Nat, k ≤ l.length ∧ i = .int .i64 k ∧ (l.take k).any now = false) (fun i => l.length - (intOf i).toNat)
  case atStart => exact ⟨0, Nat.zero_le _, rfl, by simp⟩
  case round =>
    obtain ⟨k, hk, rfl, hno⟩ := hrel
    have HNO : Hid ((l.take k).any now = false) := hno
    clear hno
    by_cases hlt : k < l.length
    · obtain ⟨b, off, rfl, hb, hcs⟩ := hr.at hlt
      have hck := hcs k hlt
      clear hcs
      go_wp2_with (go_at_call 97; refine (now1 _ _).mono ?_; rintro e w' ⟨rfl, rfl⟩)
      · go_ret
        have hh : now l[k] = true := by assumption
        exact ⟨⟨k, rfl, by rw [any_of l k hlt hh]; simp⟩, rfl⟩
      · have hh : now l[k] = false := by assumption
        go_round
        case rel => exact ⟨k + 1, by omega, by go_num, any_step l k hlt HNO.out hh⟩
        case measure => simp [intOf]; omega
    · go_wp2
      go_ret
      have hh := HNO.out
      rw [List.take_of_length_le (by omega)] at hh
      exact ⟨⟨-1, rfl, by rw [hh]; rfl⟩, rfl⟩
theorem nowContains (a : Option Addr) (cap : Nat) (l : List Int) (w : World) (hl : l.length ≤ 9223372036854775807) (hr : Row w a l) :
    Calls Tryz.prog 42 #[.slice a l.length cap, .func (.func 97) #[] #[]] w
      fun e w' => e = .returned (.bool (l.any now)) ∧ w' = w := by
  go_enter Tryz.func42, Tryz.ntmps42
  go_wp2_with fail
  refine (nowIndex a cap l w hl hr).mono ?_
  rintro e w' ⟨⟨r, rfl, hr2⟩, rfl⟩
  have HR := hide hr2
  clear hr2
  go_wp2
  go_ret
  exact ⟨by rw [← unhide HR]; rfl, rfl⟩

theorem check_no (a : Option Addr) (cap : Nat) (l : List Int) (E : Int) (w : World) (hr : Row w a l) (zl : l.length ≤ 9223372036854775807) (hE : Hid (bsF l = E)) (hne : Hid (E ≠ 0)) :
    Calls Tryz.prog 60 #[.slice a l.length cap] w fun e w' => e = .returned (.iface 63 (.int .i64 E)) ∧ w' = w := by
  by_cases h4 : 400 < l.length
  · obtain rfl : E = 4 := by rw [← unhide hE]; unfold bsF; rw [if_pos h4]
    clear hE hne
    go_enter Tryz.func60, Tryz.ntmps60
    go_wp2
    go_ret
    exact ⟨rfl, rfl⟩
  · have hE2 := unhide hE
    unfold bsF at hE2
    rw [if_neg h4] at hE2
    have hany : l.any nob = true := by
      cases h : l.any nob with
      | true => rfl
      | false => rw [h] at hE2; exact absurd hE2.symm (unhide hne)
    obtain rfl : E = 1 := by rw [← hE2, if_pos hany]
    have hcf := nobContains a cap l w zl hr
    rw [hany] at hcf
    clear hE hne hE2 hany
    go_enter Tryz.func60, Tryz.ntmps60
    go_wp2_with fail
    refine hcf.mono ?_
    clear hcf
    rintro e w1 ⟨rfl, rfl⟩
    go_wp2
    go_ret
    exact ⟨rfl, rfl⟩
theorem check_ok (a : Option Addr) (cap : Nat) (l : List Int) (w : World) (hr : Row w a l) (hE : Hid (bsF l = 0)) :
    Calls Tryz.prog 60 #[.slice a l.length cap] w fun e w' => e = .returned .nilIface ∧ w' = w := by
  obtain ⟨h4, hb⟩ := bsF_zero.1 (unhide hE)
  have hcf := nobContains a cap l w (by omega) hr
  rw [nob_any.2 hb] at hcf
  clear hE hb
  go_enter Tryz.func60, Tryz.ntmps60
  go_wp2_with fail
  refine hcf.mono ?_
  clear hcf
  rintro e w1 ⟨rfl, rfl⟩
  go_wp2
  go_ret
  exact ⟨rfl, rfl⟩

theorem pre_w {ws : List Int} (h : Wds ws) {j : Nat} (hj : j ≤ ws.length) : pre ws j ≤ 20 * j := by
  induction j with
  | zero => exact Nat.le_refl _
  | succ j ih =>
    have := ih (by omega)
    have := h j (by omega)
    rw [pre_succ]
    omega

theorem total_no (a : Option Addr) (cap : Nat) (ws : List Int) (w : World) (hr : Row w a ws) (zs : ws.length ≤ 9223372036854775807) (hE : Hid (ws.any now = true)) :
    Calls Tryz.prog 56 #[.slice a ws.length cap] w fun e w' => e = .returned (.tuple #[.int .i64 0, .iface 63 (.int .i64 1)]) ∧ w' = w := by
  have hcf := nowContains a cap ws w zs hr
  rw [unhide hE] at hcf
  clear hE
  go_enter Tryz.func56, Tryz.ntmps56
  go_wp2_with fail
  refine hcf.mono ?_
  clear hcf
  rintro e w1 ⟨rfl, rfl⟩
  go_wp2
  go_ret2
  exact ⟨rfl, rfl⟩
set_option maxHeartbeats 1000000 in
theorem total_ok (a : Option Addr) (cap : Nat) (ws : List Int) (w : World) (hr : Row w a ws) (zs : ws.length ≤ 17592186044416) (hE : Hid (Wds ws)) :
    Calls Tryz.prog 56 #[.slice a ws.length cap] w fun e w' => e = .returned (.tuple #[.int .i64 (total ws : Int), .nilIface]) ∧ w' = w := by
  have hcf := nowContains a cap ws w (by omega) hr
  rw [now_any.2 (unhide hE)] at hcf
  obtain ⟨N, hN⟩ : ∃ N, ws.length = N := ⟨_, rfl⟩
  have HN := hide hN
  obtain ⟨Z, hZ⟩ : ∃ Z, total ws = Z := ⟨_, rfl⟩
  have HZ : Hid (pre ws N = Z) := hide (by rw [← hZ, ← hN]; rfl)
  rw [hZ]
  rw [hN] at hcf zs ⊢
  clear hN hZ
  go_enter Tryz.func56, Tryz.ntmps56
  go_wp2_with fail
  refine hcf.mono ?_
  clear hcf
  rintro e w1 ⟨rfl, rfl⟩
  go_wp2
  go_loopw [4, 12] (fun t i wr => ∃ j T : Nat, j ≤ N ∧ i = .int .i64 j ∧ t = .int .i64 T ∧ Hid (pre ws j = T) ∧ T ≤ 20 * j ∧ wr = w1) (fun _ i _ => N - (intOf i).toNat)
  case atStart => exact ⟨0, 0, Nat.zero_le _, rfl, rfl, rfl, by omega, rfl⟩
  case round =>
    obtain ⟨j, T, hj, rfl, rfl, HT, hT, rfl⟩ := hrel
    by_cases hlt : j < N
    · have hlt' : j < ws.length := by rw [unhide HN]; exact hlt
      obtain ⟨b, off, rfl, hb, hc⟩ := Scl.cell_at hr (by omega)
      have c1 := hc j hlt'
      have h1 := unhide hE j hlt'
      have HS : Hid (pre ws (j + 1) = T + (at0 ws j).toNat) := hide (by rw [pre_succ, unhide HT])
      obtain ⟨X, hX⟩ : ∃ X : Nat, at0 ws j = X := ⟨(at0 ws j).toNat, by omega⟩
      rw [hX] at c1 HS h1
      rw [Int.toNat_natCast] at HS
      have h20 : X ≤ 20 := by omega
      have hT2 : T + X ≤ 20 * (j + 1) := by omega
      clear hc hX hlt' h1 HT
      go_wp2
      go_roundw
      case rel => exact ⟨j + 1, T + X, by omega, by go_num, by go_num, HS, hT2, by first | trivial | rfl⟩
      case measure => simp [intOf]; omega
    · obtain rfl : j = N := by omega
      obtain rfl : T = Z := (unhide HT).symm.trans (unhide HZ)
      go_wp2
      go_ret2
      exact ⟨rfl, rfl⟩

end Go.Proofs.YtephagojpnfhcajGreatDoor.Wid

/-
  make of integers, up to all that memory bears: zeros of this call's own.
-/
namespace Go.Proofs.YtephagojpnfhcajGreatDoor
open Go.RowKit
open Go.Proofs.YtephagojpnfhcajGreatDoor.Tre
set_option linter.unusedVariables false

theorem wpList_mkL {ops : Array Oper} {rest : List Oper} {o : Oper} {a : Act} {Q : Exit → Act → World → Prop} (w : World) (hgd : o.guard = none) (s : Operand)
    (ho : o.op = .makeSlice 22 s s) (n : Nat) (hs : a.eval s = .int .i64 n) (hn : n ≤ 17592186044416)
    (h : ∀ w', Has w' w.heap.size (.slice (some ⟨w.heap.size, 0, none⟩) n n) (upto (fun _ => 0) n) → Below w.heap.size w w' → wpList Tryz.prog ops Q rest (a.put o.dst (.slice (some ⟨w.heap.size, 0, none⟩) n n)) w') :
    wpList Tryz.prog ops Q (o :: rest) a w := by
  obtain ⟨i0, hi, hz0, hz1, hz2⟩ := info_parts info_int
  refine wpList_make_full w hgd s s 22 ho w.heap.size 3 i0 (.int .i64 0) 1 Tryz.underlying22 hi hz0 hz1 _ _ _ _ n hs hs rfl rfl (by rw [hz2]; omega) (by unfold maxLen; omega) (Nat.le_refl _) ?_
  intro w2 hown hgrow
  rw [Nat.mul_one] at hown
  refine h w2 ?_ ((Below.refl _ _).grown hgrow (Nat.le_refl _) (by intro k hk; cases hk))
  unfold Has
  rw [upto_zeros, List.map_replicate, List.length_replicate, ← toList_madeCells_one]
  exact hown

end Go.Proofs.YtephagojpnfhcajGreatDoor
