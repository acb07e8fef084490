/-
  width.Put: by its contract.
-/
import Derived.Test.YtpinmcgaaplkiagWidthCheck
import Derived.Test.YtpinmcgaaplkiagWidthSpell
namespace Go.Proofs.Ytpinmcgaaplkiag.Wid
open Go.RowKit
open Go.Proofs.Ytpinmcgaaplkiag.Tre Go.Proofs.Ytpinmcgaaplkiag.Scl Go.Proofs.Ytpinmcgaaplkiag.Bnd
set_option linter.unusedVariables false

theorem drop_at' {l : List Int} {k : Nat} (h : k < l.length) : l.drop k = at0 l k :: l.drop (k + 1) := by
  rw [List.drop_eq_getElem_cons h]
  simp [at0, h]
theorem pf_step' {l ws : List Int} {j : Nat} (h1 : j < l.length) (h2 : j < ws.length) : pf (l.drop j) (ws.drop j) = if Fit (at0 l j) (at0 ws j) then pf (l.drop (j + 1)) (ws.drop (j + 1)) else 1 := by
  rw [drop_at' h1, drop_at' h2, pf]
theorem pf_now {l ws : List Int} (hl : l.length = ws.length) (h : ws.any now = true) : pf l ws = 1 := by
  rcases pf_in l ws with h0 | h0
  · exfalso
    have h1 := (pf_zero hl).1 h0
    have h2 : ws.any now = false := now_any.2 (fun i hi => ⟨(h1 i hi).1, (h1 i hi).2.1⟩)
    rw [h] at h2
    cases h2
  · exact h0

/-- What Put tells. -/
def PutSays (l ws : List Int) (w : World) (e : Ending) (w' : World) : Prop :=
  ((putF l ws ≠ 0 ∧ e = .returned (.tuple #[.slice none 0 0, .iface 47 (.int .i64 (putF l ws))])) ∨ (putF l ws = 0 ∧ ∃ v, e = .returned (.tuple #[v, .nilIface]) ∧ Has w' w.heap.size v (puts l ws))) ∧ Below w.heap.size w w'

theorem wpList_mk0 {ops : Array Oper} {rest : List Oper} {o : Oper} {a : Act} {Q : Exit → Act → World → Prop} (w : World) (hgd : o.guard = none) (c : Operand)
    (ho : o.op = .makeSlice 23 (.const (.int .i64 0)) c) (n : Nat) (hs : a.eval c = .int .i64 n) (hn : n ≤ 1000000)
    (h : ∀ w', Has w' w.heap.size (.slice (some ⟨w.heap.size, 0, none⟩) 0 n) [] → Below w.heap.size w w' → wpList Try.prog ops Q rest (a.put o.dst (.slice (some ⟨w.heap.size, 0, none⟩) 0 n)) w') :
    wpList Try.prog ops Q (o :: rest) a w := by
  obtain ⟨i0, hi, hz0, hz1, hz2⟩ := info_parts info_int
  refine wpList_make_own w hgd _ c 23 ho w.heap.size 3 i0 (.int .i64 0) 1 Try.underlying23 hi hz0 hz1 .i64 .i64 _ n rfl hs rfl (by rw [hz2]; omega) (by unfold maxLen; omega) (Nat.le_refl _) ?_
  intro w2 hown hgrow
  exact h w2 hown ((Below.refl _ _).grown hgrow (Nat.le_refl _) (by intro k hk; cases hk))

set_option maxRecDepth 100000 in
set_option maxHeartbeats 8000000 in
theorem put (a : Option Addr) (cap : Nat) (l : List Int) (b : Option Addr) (capb : Nat) (ws : List Int) (w : World) (hr : Row w a l) (hs : Row w b ws) (zl : l.length ≤ 17592186044416) (zs : ws.length ≤ 17592186044416) :
    Calls Try.prog 12 #[.slice a l.length cap, .slice b ws.length capb] w fun e w' => PutSays l ws w e w' := by
  by_cases hlen : l.length = ws.length
  · have HP1 : Hid (pf l ws = 1 → PutSays l ws w (.returned (.tuple #[.slice none 0 0, .iface 47 (.int .i64 1)])) w) := hide (fun h => by
      have e : putF l ws = 1 := by unfold putF; rw [if_pos hlen, if_neg (by omega)]
      exact ⟨Or.inl (by rw [e]; exact ⟨by omega, rfl⟩), Below.refl _ _⟩)
    cases hany : ws.any now with
    | true =>
      have hp := pf_now hlen hany
      have htn := total_no b capb ws w hs (by omega) (hide hany)
      obtain ⟨N, hN⟩ : ∃ N, ws.length = N := ⟨_, rfl⟩
      rw [hlen, hN]
      rw [hN] at htn
      have HP := hide (unhide HP1 hp)
      have hne : ((N : Int) == (N : Int)) = true := by simp
      clear hN hlen HP1 hp hany
      go_enter Try.func12, Try.ntmps12
      go_wp2_with fail
      refine htn.mono ?_
      clear htn
      rintro e w1 ⟨rfl, rfl⟩
      go_wp2
      go_ret2
      exact unhide HP
    | false =>
      have hW := now_any.1 hany
      have htk := total_ok b capb ws w hs zs (hide hW)
      have HT0 := hide (puts_length l hW)
      have HP4 : Hid (pf l ws = 0 → 400 < total ws → PutSays l ws w (.returned (.tuple #[.slice none 0 0, .iface 47 (.int .i64 4)])) w) := hide (fun h h4 => by
        have e : putF l ws = 4 := by unfold putF; rw [if_pos hlen, if_pos h, if_pos (by rw [unhide HT0]; exact h4)]
        exact ⟨Or.inl (by rw [e]; exact ⟨by omega, rfl⟩), Below.refl _ _⟩)
      have HP0 : Hid (pf l ws = 0 → ¬ 400 < total ws → ∀ v w', Has w' w.heap.size v (puts l ws) → Below w.heap.size w w' → PutSays l ws w (.returned (.tuple #[v, .nilIface])) w') := hide (fun h h4 v w' hv hb => by
        have e : putF l ws = 0 := by unfold putF; rw [if_pos hlen, if_pos h, if_neg (by rw [unhide HT0]; exact h4)]
        exact ⟨Or.inr ⟨e, v, rfl, hv⟩, hb⟩)
      have HFI : Hid (pf l ws = 0 → ∀ i, i < ws.length → Fit (at0 l i) (at0 ws i)) := hide (fun h => (pf_zero hlen).1 h)
      have HF0 : Hid (pf (l.drop 0) (ws.drop 0) = pf l ws) := hide (by rw [List.drop_zero, List.drop_zero])
      have HAL : Hid (putUp l ws ws.length = puts l ws) := hide (putUp_all l ws)
      have HUL : Hid (∀ j, j ≤ ws.length → (putUp l ws j).length ≤ total ws) := hide (fun j hj => by rw [putUp_length l hW hj]; exact pre_total ws hj)
      have HW := hide hW
      obtain ⟨P, hP⟩ : ∃ P, pf l ws = P := ⟨_, rfl⟩
      rw [hP] at HP1 HP4 HP0 HF0 HFI
      have HPP : Hid (P = 0 ∨ P = 1) := hide (by rw [← hP]; exact pf_in l ws)
      obtain ⟨Z, hZ⟩ : ∃ Z, total ws = Z := ⟨_, rfl⟩
      rw [hZ] at HP4 HP0 HUL htk
      obtain ⟨N, hN⟩ : ∃ N, ws.length = N := ⟨_, rfl⟩
      have HN := hide hN
      have HNl : Hid (l.length = N) := hide (hlen.trans hN)
      rw [hN] at HAL HUL htk HFI
      rw [hlen, hN] at zl
      rw [hlen, hN]
      have hne : ((N : Int) == (N : Int)) = true := by simp
      clear hP hN hlen zs hW hany hZ HT0
      go_enter Try.func12, Try.ntmps12
      go_wp2_with fail
      refine htk.mono ?_
      clear htk
      rintro e w1 ⟨rfl, hw1⟩
      obtain rfl : w = w1 := hw1.symm
      clear hw1
      go_wp2
      go_loopw [29] (fun i wr => ∃ j : Nat, j ≤ N ∧ i = .int .i64 j ∧ Hid (pf (l.drop j) (ws.drop j) = P) ∧ w = wr) (fun i _ => N - (intOf i).toNat)
      case atStart => exact ⟨0, Nat.zero_le _, rfl, HF0, rfl⟩
      case round =>
        obtain ⟨j, hj, rfl, HF, rfl⟩ := hrel
        clear HF0
        by_cases hlt : j < N
        · have hlt1 : j < l.length := by rw [unhide HNl]; exact hlt
          have hlt2 : j < ws.length := by rw [unhide HN]; exact hlt
          have HF2 : Hid ((if Fit (at0 l j) (at0 ws j) then pf (l.drop (j + 1)) (ws.drop (j + 1)) else 1) = P) := hide (by rw [← pf_step' hlt1 hlt2]; exact unhide HF)
          have hwj := unhide HW j hlt2
          obtain ⟨b1, off1, rfl, _, hc1⟩ := cell_at hr (by omega)
          obtain ⟨b2, off2, rfl, _, hc2⟩ := cell_at hs (by omega)
          have c1 := hc1 j hlt1
          have c2 := hc2 j hlt2
          obtain ⟨Y, hY⟩ : ∃ Y, at0 l j = Y := ⟨_, rfl⟩
          obtain ⟨X, hX⟩ : ∃ X : Nat, at0 ws j = X := ⟨(at0 ws j).toNat, by omega⟩
          rw [hY] at c1
          rw [hX] at c2 hwj
          rw [hX, hY] at HF2
          have hX20 : X ≤ 20 := by omega
          clear hY hX hc1 hc2 hlt1 hlt2 HF hwj
          by_cases hy1 : Y < 0
          · have dz : decide (Y < 0) = true := by simpa using hy1
            have HP := hide (unhide HP1 (by rw [← unhide HF2, if_neg (fun h => by have := h.2.2.1; omega)]))
            clear HF2
            go_wp2
            go_ret2
            exact unhide HP
          · have dz : decide (Y < 0) = false := by simpa using hy1
            have hp := two_pos X
            by_cases hy2 : Y < 2 ^ X
            · have hq : Y / 2 ^ X = 0 := Int.ediv_eq_zero_of_lt (by omega) hy2
              have HF3 : Hid (pf (l.drop (j + 1)) (ws.drop (j + 1)) = P) := hide (by
                rw [← unhide HF2, if_pos ⟨by omega, by omega, by omega, by rw [Int.toNat_natCast]; exact hy2⟩])
              clear HF2 hy2 hp
              go_wp2
              go_roundw
              case rel => exact ⟨j + 1, by omega, by go_num, HF3, by first | trivial | rfl⟩
              case measure => simp [intOf]; omega
            · have hq : 1 ≤ Y / 2 ^ X := (Int.le_ediv_iff_mul_le hp).2 (by omega)
              have HP := hide (unhide HP1 (by rw [← unhide HF2, if_neg (fun h => by have := h.2.2.2; rw [Int.toNat_natCast] at this; omega)]))
              obtain ⟨G, hG⟩ : ∃ G : Int, Y / 2 ^ X = G := ⟨_, rfl⟩
              rw [hG] at hq
              have hn1 : (G == 0) = false := by rw [beq_eq_false_iff_ne]; omega
              have hn2 : (G != 0) = true := by simp; omega
              clear HF2 hy2 hp
              go_wp2
              go_ret2
              exact unhide HP
        · obtain rfl : j = N := by omega
          obtain rfl : P = 0 := by
            rw [← unhide HF, ← unhide HN, List.drop_length]
            cases l.drop ws.length <;> rfl
          clear HF HP1 HPP
          by_cases h4 : 400 < Z
          · have HP := hide (unhide HP4 rfl h4)
            clear HP4 HP0 HFI
            go_wp2
            go_ret2
            exact unhide HP
          · have HFI2 : Hid (∀ i, i < j → Fit (at0 l i) (at0 ws i)) := hide (unhide HFI rfl)
            have HP2 := hide (unhide HP0 rfl h4)
            clear HP4 HP0 HFI
            go_wp2_with (at_make; refine wpList_mk0 _ rfl _ rfl Z rfl (by omega) ?_; intro w2 hv2 hb2)
            rw [← putUp_zero l ws] at hv2
            go_wp2
            go_loopw [10, 54] (fun v i wr => ∃ k : Nat, k ≤ j ∧ i = .int .i64 k ∧ Has wr w.heap.size v (putUp l ws k) ∧ Below w.heap.size w wr) (fun _ i _ => j - (intOf i).toNat)
            case atStart => exact ⟨0, Nat.zero_le _, rfl, hv2, hb2⟩
            case round =>
              clear hv2 hb2
              obtain ⟨k, hk, rfl, hv, hB⟩ := hrel
              by_cases hkl : k < j
              · have hlt1 : k < l.length := by rw [unhide HNl]; exact hkl
                have hlt2 : k < ws.length := by rw [unhide HN]; exact hkl
                have hwj := unhide HW k hlt2
                have hft := unhide HFI2 k hkl
                have HPU := hide (putUp_step l ws hlt2)
                have hul := unhide HUL k (by omega)
                obtain ⟨b1, off1, rfl, _, hc1⟩ := cell_at (hr.below hB) (by omega)
                obtain ⟨b2, off2, rfl, _, hc2⟩ := cell_at (hs.below hB) (by omega)
                have c1 := hc1 k hlt1
                have c2 := hc2 k hlt2
                obtain ⟨Y, hY⟩ : ∃ Y, at0 l k = Y := ⟨_, rfl⟩
                obtain ⟨X, hX⟩ : ∃ X : Nat, at0 ws k = X := ⟨(at0 ws k).toNat, by omega⟩
                rw [hY] at c1
                rw [hX] at c2 hwj
                rw [hX, hY] at hft HPU
                rw [Int.toNat_natCast] at HPU
                obtain ⟨-, -, y0, y9⟩ := hft
                rw [Int.toNat_natCast] at y9
                have hsp := spell u10 (putUp l ws k) Y X w.heap.size wr hv hB.size (by omega) y0 (hide y9) (by omega)
                rw [← unhide HPU] at hsp
                clear hY hX hc1 hc2 hlt1 hlt2 hwj y9 HPU hul
                go_wp2_with fail
                refine hsp.mono ?_
                clear hsp
                rintro e w3 ⟨v3, rfl, k3, g3, -⟩
                have hB3 := hB.grown g3 hB.size (fun q e => (hv.lt q e).1)
                clear hB hv g3
                go_wp2
                go_roundw
                case rel => exact ⟨k + 1, by omega, by go_num, k3, hB3⟩
                case measure => simp [intOf]; omega
              · obtain rfl : k = j := by omega
                rw [unhide HAL] at hv
                obtain ⟨p9, n9, q9, rfl⟩ := hv.shape
                go_wp2
                go_ret2
                exact unhide HP2 _ _ hv hB
  · have e : putF l ws = 3 := by unfold putF; rw [if_neg hlen]
    have HP : Hid (PutSays l ws w (.returned (.tuple #[.slice none 0 0, .iface 47 (.int .i64 3)])) w) := hide ⟨Or.inl (by rw [e]; exact ⟨by omega, rfl⟩), Below.refl _ _⟩
    obtain ⟨N, hN⟩ : ∃ N, ws.length = N := ⟨_, rfl⟩
    obtain ⟨M, hM⟩ : ∃ M, l.length = M := ⟨_, rfl⟩
    rw [hN, hM] at hlen
    rw [hN, hM]
    have hne : ((M : Int) == (N : Int)) = false := by rw [beq_eq_false_iff_ne]; omega
    have hne2 : (M == N) = false := by rw [beq_eq_false_iff_ne]; omega
    have hne3 : ((M : Int) != (N : Int)) = true := by simp; omega
    clear hN hM e
    go_enter Try.func12, Try.ntmps12
    go_wp2
    go_ret2
    exact unhide HP

theorem put_no (a : Option Addr) (cap : Nat) (l : List Int) (b : Option Addr) (capb : Nat) (ws : List Int) (E : Int) (w : World) (hr : Row w a l) (hs : Row w b ws) (zl : l.length ≤ 17592186044416) (zs : ws.length ≤ 17592186044416) (hE : Hid (putF l ws = E)) (hne : Hid (E ≠ 0)) :
    Calls Try.prog 12 #[.slice a l.length cap, .slice b ws.length capb] w fun e w' => e = .returned (.tuple #[.slice none 0 0, .iface 47 (.int .i64 E)]) ∧ Below w.heap.size w w' := by
  refine (put a cap l b capb ws w hr hs zl zs).mono ?_
  rintro e w' ⟨h, hb⟩
  rw [unhide hE] at h
  rcases h with ⟨_, h⟩ | ⟨h, _⟩
  · exact ⟨h, hb⟩
  · exact absurd h (unhide hne)
theorem put_ok (a : Option Addr) (cap : Nat) (l : List Int) (b : Option Addr) (capb : Nat) (ws : List Int) (w : World) (hr : Row w a l) (hs : Row w b ws) (zl : l.length ≤ 17592186044416) (zs : ws.length ≤ 17592186044416) (hE : Hid (putF l ws = 0)) :
    Calls Try.prog 12 #[.slice a l.length cap, .slice b ws.length capb] w fun e w' => ∃ v, e = .returned (.tuple #[v, .nilIface]) ∧ Has w' w.heap.size v (puts l ws) ∧ Below w.heap.size w w' := by
  refine (put a cap l b capb ws w hr hs zl zs).mono ?_
  rintro e w' ⟨h, hb⟩
  rcases h with ⟨h, _⟩ | ⟨_, v, h, hv⟩
  · exact absurd (unhide hE) h
  · exact ⟨v, h, hv, hb⟩

end Go.Proofs.Ytpinmcgaaplkiag.Wid
