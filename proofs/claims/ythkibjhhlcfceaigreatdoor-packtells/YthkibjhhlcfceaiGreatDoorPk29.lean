/-
  width.Put: by its contract.
-/
import Derived.Test.YthkibjhhlcfceaiGreatDoorPk28
import Derived.Test.YthkibjhhlcfceaiGreatDoorPk04
import Derived.Test.YthkibjhhlcfceaiGreatDoorPk03
import Derived.Test.YthkibjhhlcfceaiGreatDoorPk05
import Derived.Test.YthkibjhhlcfceaiGreatDoorPk02
namespace Go.Proofs.YthkibjhhlcfceaiGreatDoor.Wid
open Go.RowKit
open Go.Proofs.YthkibjhhlcfceaiGreatDoor.Tre Go.Proofs.YthkibjhhlcfceaiGreatDoor.Scl Go.Proofs.YthkibjhhlcfceaiGreatDoor.Bnd
set_option linter.unusedVariables false

theorem drop_at' {l : List Int} {k : Nat} (h : k < l.length) : l.drop k = at0 l k :: l.drop (k + 1) := by
  rw [List.drop_eq_getElem_cons h]
  simp [at0, h]
theorem pf_step' {l ws : List Int} {j : Nat} (h1 : j < l.length) (h2 : j < ws.length) : pf (l.drop j) (ws.drop j) = if Fit (at0 l j) (at0 ws j) then pf (l.drop (j + 1)) (ws.drop (j + 1)) else 1 := by
  rw [drop_at' h1, drop_at' h2, pf]
theorem pf_now {l ws : List Int} (hl : l.length = ws.length) (h : ws.any now = true) : pf l ws = 1 := by
  rcases pf_in l ws with h0 | h0
  · exfalso
    have h1 := (pf_zero hl).1 h0
    have h2 : ws.any now = false := now_any.2 (fun i hi => ⟨(h1 i hi).1, (h1 i hi).2.1⟩)
    rw [h] at h2
    cases h2
  · exact h0

/-- What Put tells. -/
def PutSays (l ws : List Int) (w : World) (e : Ending) (w' : World) : Prop :=
  ((putF l ws ≠ 0 ∧ e = .returned (.tuple #[.slice none 0 0, .iface 63 (.int .i64 (putF l ws))])) ∨ (putF l ws = 0 ∧ ∃ v, e = .returned (.tuple #[v, .nilIface]) ∧ Has w' w.heap.size v (puts l ws))) ∧ Below w.heap.size w w'

theorem wpList_mk0 {ops : Array Oper} {rest : List Oper} {o : Oper} {a : Act} {Q : Exit → Act → World → Prop} (w : World) (hgd : o.guard = none) (c : Operand)
    (ho : o.op = .makeSlice 22 (.const (.int .i64 0)) c) (n : Nat) (hs : a.eval c = .int .i64 n) (hn : n ≤ 1000000)
    (h : ∀ w', Has w' w.heap.size (.slice (some ⟨w.heap.size, 0, none⟩) 0 n) [] → Below w.heap.size w w' → wpList Tryz.prog ops Q rest (a.put o.dst (.slice (some ⟨w.heap.size, 0, none⟩) 0 n)) w') :
    wpList Tryz.prog ops Q (o :: rest) a w := by
  obtain ⟨i0, hi, hz0, hz1, hz2⟩ := info_parts info_int
  refine wpList_make_own w hgd _ c 22 ho w.heap.size 3 i0 (.int .i64 0) 1 Tryz.underlying22 hi hz0 hz1 .i64 .i64 _ n rfl hs rfl (by rw [hz2]; omega) (by unfold maxLen; omega) (Nat.le_refl _) ?_
  intro w2 hown hgrow
  exact h w2 hown ((Below.refl _ _).grown hgrow (Nat.le_refl _) (by intro k hk; cases hk))

set_option maxRecDepth 100000 in
set_option maxHeartbeats 8000000 in
theorem put (a : Option Addr) (cap : Nat) (l : List Int) (b : Option Addr) (capb : Nat) (ws : List Int) (w : World) (hr : Row w a l) (hs : Row w b ws) (zl : l.length ≤ 17592186044416) (zs : ws.length ≤ 17592186044416) :
    Calls Tryz.prog 52 #[.slice a l.length cap, .slice b ws.length capb] w fun e w' => PutSays l ws w e w' := by
  by_cases hlen : l.length = ws.length
  · have HP1 : Hid (pf l ws = 1 → PutSays l ws w (.returned (.tuple #[.slice none 0 0, .iface 63 (.int .i64 1)])) w) := hide (fun h => by
      have e : putF l ws = 1 := by unfold putF; rw [if_pos hlen, if_neg (by omega)]
      exact ⟨Or.inl (by rw [e]; exact ⟨by omega, rfl⟩), Below.refl _ _⟩)
    cases hany : ws.any now with
    | true =>
      have hp := pf_now hlen hany
      have htn := total_no b capb ws w hs (by omega) (hide hany)
      obtain ⟨N, hN⟩ : ∃ N, ws.length = N := ⟨_, rfl⟩
      rw [hlen, hN]
      rw [hN] at htn
      have HP := hide (unhide HP1 hp)
      have hne : ((N : Int) == (N : Int)) = true := by simp
      clear hN hlen HP1 hp hany
      go_enter Tryz.func52, Tryz.ntmps52
      go_wp2_with fail
      refine htn.mono ?_
      clear htn
      rintro e w1 ⟨rfl, rfl⟩
      go_wp2
      go_ret2
      exact unhide HP
    | false =>
      have hW := now_any.1 hany
      have htk := total_ok b capb ws w hs zs (hide hW)
      have HT0 := hide (puts_length l hW)
      have HP4 : Hid (pf l ws = 0 → 400 < total ws → PutSays l ws w (.returned (.tuple #[.slice none 0 0, .iface 63 (.int .i64 4)])) w) := hide (fun h h4 => by
        have e : putF l ws = 4 := by unfold putF; rw [if_pos hlen, if_pos h, if_pos (by rw [unhide HT0]; exact h4)]
        exact ⟨Or.inl (by rw [e]; exact ⟨by omega, rfl⟩), Below.refl _ _⟩)
      have HP0 : Hid (pf l ws = 0 → ¬ 400 < total ws → ∀ v w', Has w' w.heap.size v (puts l ws) → Below w.heap.size w w' → PutSays l ws w (.returned (.tuple #[v, .nilIface])) w') := hide (fun h h4 v w' hv hb => by
        have e : putF l ws = 0 := by unfold putF; rw [if_pos hlen, if_pos h, if_neg (by rw [unhide HT0]; exact h4)]
        exact ⟨Or.inr ⟨e, v, rfl, hv⟩, hb⟩)
      have HFI : Hid (pf l ws = 0 → ∀ i, i < ws.length → Fit (at0 l i) (at0 ws i)) := hide (fun h => (pf_zero hlen).1 h)
      have HF0 : Hid (pf (l.drop 0) (ws.drop 0) = pf l ws) := hide (by rw [List.drop_zero, List.drop_zero])
      have HAL : Hid (putUp l ws ws.length = puts l ws) := hide (putUp_all l ws)
      have HUL : Hid (∀ j, j ≤ ws.length → (putUp l ws j).length ≤ total ws) := hide (fun j hj => by rw [putUp_length l hW hj]; exact pre_total ws hj)
      have HW := hide hW
      obtain ⟨P, hP⟩ : ∃ P, pf l ws = P := ⟨_, rfl⟩
      rw [hP] at HP1 HP4 HP0 HF0 HFI
      have HPP : Hid (P = 0 ∨ P = 1) := hide (by rw [← hP]; exact pf_in l ws)
      obtain ⟨Z, hZ⟩ : ∃ Z, total ws = Z := ⟨_, rfl⟩
      rw [hZ] at HP4 HP0 HUL htk
      obtain ⟨N, hN⟩ : ∃ N, ws.length = N := ⟨_, rfl⟩
      have HN := hide hN
      have HNl : Hid (l.length = N) := hide (hlen.trans hN)
      rw [hN] at HAL HUL htk HFI
      rw [hlen, hN] at zl
      rw [hlen, hN]
      have hne : ((N : Int) == (N : Int)) = true := by simp
      clear hP hN hlen zs hW hany hZ HT0
      go_enter Tryz.func52, Tryz.ntmps52
      go_wp2_with fail
      refine htk.mono ?_
      clear htk
      rintro e w1 ⟨rfl, hw1⟩
      obtain rfl : w = w1 := hw1.symm
      clear hw1
      go_wp2
      go_loopw [29] (fun i wr => ∃ j : Nat, j ≤ N ∧ i = .int .i64 j ∧ Hid (pf (l.drop j) (ws.drop j) = P) ∧ w = wr) (fun i _ => N - (intOf i).toNat)
      case atStart => exact ⟨0, Nat.zero_le _, rfl, HF0, rfl⟩
      case round =>
        obtain ⟨j, hj, rfl, HF, rfl⟩ := hrel
        clear HF0
        by_cases hlt : j < N
        · have hlt1 : j < l.length := by rw [unhide HNl]; exact hlt
          have hlt2 : j < ws.length := by rw [unhide HN]; exact hlt
          have HF2 : Hid ((if Fit (at0 l j) (at0 ws j) then pf (l.drop (j + 1)) (ws.drop (j + 1)) else 1) = P) := hide (by rw [← pf_step' hlt1 hlt2]; exact unhide HF)
          have hwj := unhide HW j hlt2
          obtain ⟨b1, off1, rfl, _, hc1⟩ := Scl.cell_at hr (by omega)
          obtain ⟨b2, off2, rfl, _, hc2⟩ := Scl.cell_at hs (by omega)
          have c1 := hc1 j hlt1
          have c2 := hc2 j hlt2
          obtain ⟨Y, hY⟩ : ∃ Y, at0 l j = Y := ⟨_, rfl⟩
          obtain ⟨X, hX⟩ : ∃ X : Nat, at0 ws j = X := ⟨(at0 ws j).toNat, by omega⟩
          rw [hY] at c1
          rw [hX] at c2 hwj
          rw [hX, hY] at HF2
          have hX20 : X ≤ 20 := by omega
          clear hY hX hc1 hc2 hlt1 hlt2 HF hwj
          by_cases hy1 : Y < 0
          · have dz : decide (Y < 0) = true := by simpa using hy1
            have HP := hide (unhide HP1 (by rw [← unhide HF2, if_neg (fun h => by have := h.2.2.1; omega)]))
            clear HF2
            go_wp2
            go_ret2
            exact unhide HP
          · have dz : decide (Y < 0) = false := by simpa using hy1
            have hp := two_pos X
            by_cases hy2 : Y < 2 ^ X
            · have hq : Y / 2 ^ X = 0 := Int.ediv_eq_zero_of_lt (by omega) hy2
              have HF3 : Hid (pf (l.drop (j + 1)) (ws.drop (j + 1)) = P) := hide (by
                rw [← unhide HF2, if_pos ⟨by omega, by omega, by omega, by rw [Int.toNat_natCast]; exact hy2⟩])
              clear HF2 hy2 hp
              go_wp2
              go_roundw
              case rel => exact ⟨j + 1, by omega, by go_num, HF3, by first | trivial | rfl⟩
              case measure => simp [intOf]; omega
            · have hq : 1 ≤ Y / 2 ^ X := (Int.le_ediv_iff_mul_le hp).2 (by omega)
              have HP := hide (unhide HP1 (by rw [← unhide HF2, if_neg (fun h => by have := h.2.2.2; rw [Int.toNat_natCast] at this; omega)]))
              obtain ⟨G, hG⟩ : ∃ G : Int, Y / 2 ^ X = G := ⟨_, rfl⟩
              rw [hG] at hq
              have hn1 : (G == 0) = false := by rw [beq_eq_false_iff_ne]; omega
              have hn2 : (G != 0) = true := by simp; omega
              clear HF2 hy2 hp
              go_wp2
              go_ret2
              exact unhide HP
        · obtain rfl : j = N := by omega
          obtain rfl : P = 0 := by
            rw [← unhide HF, ← unhide HN, List.drop_length]
            cases l.drop ws.length <;> rfl
          clear HF HP1 HPP
          by_cases h4 : 400 < Z
          · have HP := hide (unhide HP4 rfl h4)
            clear HP4 HP0 HFI
            go_wp2
            go_ret2
            exact unhide HP
          · have HFI2 : Hid (∀ i, i < j → Fit (at0 l i) (at0 ws i)) := hide (unhide HFI rfl)
            have HP2 := hide (unhide HP0 rfl h4)
            clear HP4 HP0 HFI
            go_wp2_with (at_make; refine wpList_mk0 _ rfl _ rfl Z rfl (by omega) ?_; intro w2 hv2 hb2)
            rw [← putUp_zero l ws] at hv2
            go_wp2
            go_loopw [10, 54] (fun v i wr => ∃ k : Nat, k ≤ j ∧ i = .int .i64 k ∧ Has wr w.heap.size v (putUp l ws k) ∧ Below w.heap.size w wr) (fun _ i _ => j - (intOf i).toNat)
            case atStart => exact ⟨0, Nat.zero_le _, rfl, hv2, hb2⟩
            case round =>
              clear hv2 hb2
              obtain ⟨k, hk, rfl, hv, hB⟩ := hrel
              by_cases hkl : k < j
              · have hlt1 : k < l.length := by rw [unhide HNl]; exact hkl
                have hlt2 : k < ws.length := by rw [unhide HN]; exact hkl
                have hwj := unhide HW k hlt2
                have hft := unhide HFI2 k hkl
                have HPU := hide (putUp_step l ws hlt2)
                have hul := unhide HUL k (by omega)
                obtain ⟨b1, off1, rfl, _, hc1⟩ := Scl.cell_at (hr.below hB) (by omega)
                obtain ⟨b2, off2, rfl, _, hc2⟩ := Scl.cell_at (hs.below hB) (by omega)
                have c1 := hc1 k hlt1
                have c2 := hc2 k hlt2
                obtain ⟨Y, hY⟩ : ∃ Y, at0 l k = Y := ⟨_, rfl⟩
                obtain ⟨X, hX⟩ : ∃ X : Nat, at0 ws k = X := ⟨(at0 ws k).toNat, by omega⟩
                rw [hY] at c1
                rw [hX] at c2 hwj
                rw [hX, hY] at hft HPU
                rw [Int.toNat_natCast] at HPU
                obtain ⟨-, -, y0, y9⟩ := hft
                rw [Int.toNat_natCast] at y9
                have hsp := spell u10 (putUp l ws k) Y X w.heap.size wr hv hB.size (by omega) y0 (hide y9) (by omega)
                rw [← unhide HPU] at hsp
                clear hY hX hc1 hc2 hlt1 hlt2 hwj y9 HPU hul
                go_wp2_with fail
                refine hsp.mono ?_
                clear hsp
                rintro e w3 ⟨v3, rfl, k3, g3, -⟩
                have hB3 := hB.grown g3 hB.size (fun q e => (hv.lt q e).1)
                clear hB hv g3
                go_wp2
                go_roundw
                case rel => exact ⟨k + 1, by omega, by go_num, k3, hB3⟩
                case measure => simp [intOf]; omega
              · obtain rfl : k = j := by omega
                rw [unhide HAL] at hv
                obtain ⟨p9, n9, q9, rfl⟩ := hv.shape
                go_wp2
                go_ret2
                exact unhide HP2 _ _ hv hB
  · have e : putF l ws = 3 := by unfold putF; rw [if_neg hlen]
    have HP : Hid (PutSays l ws w (.returned (.tuple #[.slice none 0 0, .iface 63 (.int .i64 3)])) w) := hide ⟨Or.inl (by rw [e]; exact ⟨by omega, rfl⟩), Below.refl _ _⟩
    obtain ⟨N, hN⟩ : ∃ N, ws.length = N := ⟨_, rfl⟩
    obtain ⟨M, hM⟩ : ∃ M, l.length = M := ⟨_, rfl⟩
    rw [hN, hM] at hlen
    rw [hN, hM]
    have hne : ((M : Int) == (N : Int)) = false := by rw [beq_eq_false_iff_ne]; omega
    have hne2 : (M == N) = false := by rw [beq_eq_false_iff_ne]; omega
    have hne3 : ((M : Int) != (N : Int)) = true := by simp; omega
    clear hN hM e
    go_enter Tryz.func52, Tryz.ntmps52
    go_wp2
    go_ret2
    exact unhide HP

theorem put_no (a : Option Addr) (cap : Nat) (l : List Int) (b : Option Addr) (capb : Nat) (ws : List Int) (E : Int) (w : World) (hr : Row w a l) (hs : Row w b ws) (zl : l.length ≤ 17592186044416) (zs : ws.length ≤ 17592186044416) (hE : Hid (putF l ws = E)) (hne : Hid (E ≠ 0)) :
    Calls Tryz.prog 52 #[.slice a l.length cap, .slice b ws.length capb] w fun e w' => e = .returned (.tuple #[.slice none 0 0, .iface 63 (.int .i64 E)]) ∧ Below w.heap.size w w' := by
  refine (put a cap l b capb ws w hr hs zl zs).mono ?_
  rintro e w' ⟨h, hb⟩
  rw [unhide hE] at h
  rcases h with ⟨_, h⟩ | ⟨h, _⟩
  · exact ⟨h, hb⟩
  · exact absurd h (unhide hne)
theorem put_ok (a : Option Addr) (cap : Nat) (l : List Int) (b : Option Addr) (capb : Nat) (ws : List Int) (w : World) (hr : Row w a l) (hs : Row w b ws) (zl : l.length ≤ 17592186044416) (zs : ws.length ≤ 17592186044416) (hE : Hid (putF l ws = 0)) :
    Calls Tryz.prog 52 #[.slice a l.length cap, .slice b ws.length capb] w fun e w' => ∃ v, e = .returned (.tuple #[v, .nilIface]) ∧ Has w' w.heap.size v (puts l ws) ∧ Below w.heap.size w w' := by
  refine (put a cap l b capb ws w hr hs zl zs).mono ?_
  rintro e w' ⟨h, hb⟩
  rcases h with ⟨h, _⟩ | ⟨_, v, h, hv⟩
  · exact absurd (unhide hE) h
  · exact ⟨v, h, hv, hb⟩

end Go.Proofs.YthkibjhhlcfceaiGreatDoor.Wid

/-
  A slice of bytes that this call has made itself: what it holds, append of one byte, and one byte read or set.
-/
namespace Go.Proofs.YthkibjhhlcfceaiGreatDoor
open Go.RowKit
open Go.Proofs.YthkibjhhlcfceaiGreatDoor.Tre
set_option linter.unusedVariables false

theorem info_byte : (Tryz.prog.info? 5).map (fun i => (i.zero, i.size, i.bytes)) = some (some (.int .u8 0), 1, 1) := by kernel_rfl

/-- A slice of bytes of this call's own (its block at base or behind) holds l. -/
def HasY (w : World) (base : Nat) (v : Value) (l : List Int) : Prop := w.ownsRow base 5 1 v l.length (l.map (Value.int .u8))

theorem HasY.nil (w : World) (base : Nat) : HasY w base (.slice none 0 0) [] := World.ownsRow_nil _ _ _ _
theorem HasY.kept {w w' : World} {base : Nat} {v : Value} {l : List Int} {row : Option Nat} (h : HasY w base v l) (hg : w.grownBy w' row) (hne : v.ownBlock = none ∨ v.ownBlock ≠ row) : HasY w' base v l := World.ownsRow.kept h hg hne
theorem HasY.alloc {w : World} {base : Nat} {v : Value} {l : List Int} (h : HasY w base v l) (o : Obj) : HasY (w.alloc o) base v l := World.ownsRow.alloc h o
theorem HasY.below {w w' : World} {base : Nat} {v : Value} {l : List Int} (h : HasY w base v l) (hb : Below w.heap.size w w') : HasY w' base v l := by
  refine ⟨h.1, ?_⟩
  rcases h.2 with hn | ⟨g, cap, cur, rfl, hbg, hgg, rest⟩
  · exact .inl hn
  · exact .inr ⟨g, cap, cur, rfl, hbg, (hb.block g (Array.getElem?_eq_some_iff.1 hgg).1).trans hgg, rest⟩
theorem HasY.lt {w : World} {base : Nat} {v : Value} {l : List Int} (h : HasY w base v l) : ∀ k, v.ownBlock = some k → base ≤ k ∧ k < w.heap.size := World.ownsRow.lt h
theorem HasY.shape {w : World} {base : Nat} {v : Value} {l : List Int} (h : HasY w base v l) : ∃ a cap, v = .slice a l.length cap := by
  rcases h.2 with ⟨h1, h2⟩ | ⟨g, cap, cur, hv, _⟩
  · exact ⟨none, 0, by rw [h2]; exact h1⟩
  · exact ⟨some ⟨g, 0, none⟩, cap, hv⟩
theorem HasY.any {w : World} {base : Nat} {v : Value} {l : List Int} (h : HasY w base v l) : ∃ a n cap, v = .slice a n cap := by
  obtain ⟨a, cap, e⟩ := h.shape
  exact ⟨a, _, cap, e⟩
theorem HasY.one {w : World} {base : Nat} {v : Value} {l : List Int} (h : HasY w base v l) (h0 : 0 < l.length) : ∃ g c, v = .slice (some ⟨g, 0, none⟩) l.length c ∧ base ≤ g ∧ g < w.heap.size ∧ l.length ≤ c ∧ c ≤ 9223372036854775807 := by
  rcases h.2 with ⟨_, e⟩ | ⟨g, cap, cur, hv, hb, hg, hn, hm, _⟩
  · omega
  · exact ⟨g, cap, hv, hb, (Array.getElem?_eq_some_iff.1 hg).1, hn, by simpa [maxLen] using hm⟩
theorem HasY.len {w : World} {base g n c : Nat} {l : List Int} (h : HasY w base (.slice (some ⟨g, 0, none⟩) n c) l) : n = l.length := by
  obtain ⟨a, cap, e⟩ := h.shape
  exact (Value.slice.inj e).2.1
theorem HasY.get {w : World} {base g n c : Nat} {l : List Int} (h : HasY w base (.slice (some ⟨g, 0, none⟩) n c) l) {j : Nat} (hj : j < l.length) : w.cell? ⟨g, j, none⟩ = some (.int .u8 (at0 l j)) := by
  obtain rfl := h.len
  rw [World.ownsRow.cellAt h j (by omega)]
  simp [at0, hj]
theorem HasY.put {w : World} {base g n c : Nat} {l : List Int} (h : HasY w base (.slice (some ⟨g, 0, none⟩) n c) l) (j : Nat) (x : Int) :
    HasY (w.setCell ⟨g, j, none⟩ (.int .u8 x)) base (.slice (some ⟨g, 0, none⟩) n c) (l.set j x) ∧ w.grownBy (w.setCell ⟨g, j, none⟩ (.int .u8 x)) (some g) := by
  obtain rfl := h.len
  have := World.ownsRow.stored h j (.int .u8 x)
  rw [← List.map_set] at this
  refine ⟨?_, this.2⟩
  unfold HasY
  rw [List.length_set]
  exact this.1
theorem HasY.frozen {w : World} {base g n c : Nat} {l : List Int} (h : HasY w base (.slice (some ⟨g, 0, none⟩) n c) l) (j : Nat) : w.frozen? ⟨g, j, none⟩ = false := by
  obtain rfl := h.len
  exact World.ownsRow.frozenAt h j

theorem cell_byte (w : World) (x : Int) (t : TypeId) : (w.alloc (.cells #[.int .u8 x] t)).cell? ⟨w.heap.size, 0, none⟩ = some (.int .u8 x) := by rw [World.cell?_alloc_at _ _ _ _ rfl]; rfl
theorem cell_byte' {w : World} {x : Int} {t : TypeId} {n : Nat} (h : w.heap.size = n) : (w.alloc (.cells #[.int .u8 x] t)).cell? ⟨n, 0, none⟩ = some (.int .u8 x) := by subst h; exact cell_byte w x t

/-- append of one byte. -/
theorem run_appy (w : World) (base : Nat) (v : Value) (l : List Int) (x : Int) (ty : TypeId) (hv : HasY w base v l) (b : Nat) (cap : Nat) (hr : w.cell? ⟨b, 0, none⟩ = some (.int .u8 x)) (hlen : l.length + 1 ≤ 1000000) (hbase : base ≤ w.heap.size) :
    ∃ v' w', (Builtin.append_ #[101, 101] ty #[v, .slice (some ⟨b, 0, none⟩) 1 cap]).run Tryz.prog w = .ok v' w' ∧ HasY w' base v' (l ++ [x]) ∧ w.grownBy w' v.ownBlock ∧ (v'.ownBlock = v.ownBlock ∨ v'.ownBlock = some w.heap.size) := by
  obtain ⟨i, hi, hz0, hz1, hz2⟩ := info_parts info_byte
  have hc : ∀ (j : Nat) (u : Value), ([x].map (Value.int .u8))[j]? = some u → w.cell? ((⟨b, 0, none⟩ : Addr).add j) = some u := by
    intro j u hu
    cases j with
    | zero => simp at hu; rw [addr_plain, Nat.add_zero, hr, hu]
    | succ j => simp at hu
  obtain ⟨v', w', h1, h2, h3, h4, h5⟩ := run_append_own_at (P := Tryz.prog) w base 101 ty 5 i (.int .u8 0) 1 1 Tryz.underlying101 hi hz0 hz1 hz2 rfl (by omega) v l.length (l.map (Value.int .u8)) hv ⟨b, 0, none⟩ 1 cap ([x].map (Value.int .u8)) (by simp) hc
    (by intro u hu; obtain ⟨z, _, rfl⟩ := List.mem_map.1 hu; rfl) (by simp only [maxLen]; omega) (by omega) hbase
  refine ⟨v', w', h1, ?_, h3, h5⟩
  unfold HasY
  rw [List.length_append, List.map_append]
  exact h2

theorem wpListIn_appy {F : Fence} {n : Nat} {ops : Array Oper} {rest : List Oper} {o : Oper} {a : Act} {Q : Exit → Act → World → Prop} (w : World) (hgd : o.guard = none) (s x : Operand)
    (ho : o.op = .call { callee := .builtin .append, args := #[s, x], argTypes := #[101, 101] }) (base : Nat) (v : Value) (l : List Int) (c : Int) (b cap : Nat) (hs : a.eval s = v) (hv : HasY w base v l)
    (hx : a.eval x = .slice (some ⟨b, 0, none⟩) 1 cap) (hr : w.cell? ⟨b, 0, none⟩ = some (.int .u8 c)) (hlen : l.length + 1 ≤ 1000000) (hbase : base ≤ w.heap.size)
    (h : ∀ v' w', HasY w' base v' (l ++ [c]) → w.grownBy w' v.ownBlock → (v'.ownBlock = v.ownBlock ∨ v'.ownBlock = some w.heap.size) → wpListIn F n Tryz.prog ops Q rest (a.put o.dst v') w') :
    wpListIn F n Tryz.prog ops Q (o :: rest) a w := by
  refine wpListIn_plain hgd fun K hK => ?_
  obtain ⟨v', w', hrun, h2, h3, h4⟩ := run_appy w base v l c o.type hv b cap hr hlen hbase
  unfold Oper.wpIn
  refine ⟨?_, ?_⟩
  · simp [Oper.about, ho, resolve, Target.leads, Sem.run_pure]
  · rw [Oper.semAt_plain F _ _ (by rw [ho]; intro c hc'; cases hc')]
    simp [execOp, ho, resolve, invoke, builtin, hs, hx, hrun, Result.andThen]
    exact hK _ _ (h v' w' h2 h3 h4)

end Go.Proofs.YthkibjhhlcfceaiGreatDoor

/-
  A slice of bytes of this call's own: append of one byte, outside a fence; the text that it holds.
-/
namespace Go.Proofs.YthkibjhhlcfceaiGreatDoor
open Go.RowKit
open Go.Proofs.YthkibjhhlcfceaiGreatDoor.Tre Go.Proofs.YthkibjhhlcfceaiGreatDoor.Hrn
set_option linter.unusedVariables false

theorem wpList_appy {ops : Array Oper} {rest : List Oper} {o : Oper} {a : Act} {Q : Exit → Act → World → Prop} (w : World) (hgd : o.guard = none) (s x : Operand)
    (ho : o.op = .call { callee := .builtin .append, args := #[s, x], argTypes := #[101, 101] }) (base : Nat) (v : Value) (l : List Int) (c : Int) (b cap : Nat) (hs : a.eval s = v) (hv : HasY w base v l)
    (hx : a.eval x = .slice (some ⟨b, 0, none⟩) 1 cap) (hr : w.cell? ⟨b, 0, none⟩ = some (.int .u8 c)) (hlen : l.length + 1 ≤ 1000000) (hbase : base ≤ w.heap.size)
    (h : ∀ v' w', HasY w' base v' (l ++ [c]) → w.grownBy w' v.ownBlock → (v'.ownBlock = v.ownBlock ∨ v'.ownBlock = some w.heap.size) → wpList Tryz.prog ops Q rest (a.put o.dst v') w') :
    wpList Tryz.prog ops Q (o :: rest) a w := by
  refine wpList_plain hgd fun K hK => ?_
  obtain ⟨v', w', hrun, h2, h3, h4⟩ := run_appy w base v l c o.type hv b cap hr hlen hbase
  unfold Oper.wp
  simp [execOp, ho, resolve, invoke, builtin, hs, hx, hrun, Result.andThen]
  exact hK _ _ (h v' w' h2 h3 h4)
theorem stepped_y {W w1 : World} {n₀ : Nat} {v v' : Value} {l l' : List Int} {tmp : Obj} (h : HasY W n₀ v l) (hn : n₀ ≤ W.heap.size)
    (hg : (W.alloc tmp).grownBy w1 v.ownBlock) : Below n₀ W w1 := ((Below.refl n₀ W).alloc hn tmp).grown hg (by simp; omega) (fun j e => (h.lt j e).1)
theorem run_str_nil (w : World) : (convert 101 9 (.slice none 0 0)).run Tryz.prog w = .ok (.string (str [])) w := by
  simp [convert, run_underlying Tryz.underlying101, run_underlying Tryz.underlying9, run_underlying Tryz.underlying5]
  rfl
/-- string(b) of what such a slice holds. -/
theorem run_str_y {w : World} {base : Nat} {v : Value} {l : List Int} (h : HasY w base v l) (hb : Byts l) : (convert 101 9 v).run Tryz.prog w = .ok (.string (str l)) w := by
  by_cases h0 : l = []
  · subst h0
    rcases h.2 with ⟨rfl, _⟩ | ⟨g, cap, cur, rfl, _⟩
    · exact run_str_nil w
    · exact run_str w ⟨g, 0, none⟩ cap [] hb (fun j hj => by simp at hj)
  · obtain ⟨g, c, rfl, _⟩ := h.one (List.length_pos_iff.2 h0)
    exact run_str w ⟨g, 0, none⟩ c l hb (fun j hj => by rw [addr_plain, Nat.zero_add]; exact h.get hj)

end Go.Proofs.YthkibjhhlcfceaiGreatDoor
