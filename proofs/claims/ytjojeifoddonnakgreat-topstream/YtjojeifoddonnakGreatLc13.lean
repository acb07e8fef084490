/-
  width.spell, number: by their contracts.
-/
import Derived.Test.YtjojeifoddonnakGreatLc02
import Derived.Test.YtjojeifoddonnakGreatLc07
import Derived.Test.YtjojeifoddonnakGreatLc04
import Derived.Deep.QuietTactic
import Derived.BigQuiet
namespace Go.Proofs.YtjojeifoddonnakGreat.Wid
open Go.RowKit
open Go.Proofs.YtjojeifoddonnakGreat.Tre Go.Proofs.YtjojeifoddonnakGreat.Scl Go.Proofs.YtjojeifoddonnakGreat.Bnd
set_option linter.unusedVariables false

/-- A slice grows, and grows again: all else of the first world stays. -/
def Same (w : World) (v u : Value) : Prop := u.ownBlock = v.ownBlock ∨ ∃ k, u.ownBlock = some k ∧ w.heap.size ≤ k
theorem grown_on {w W w1 : World} {v u u' : Value} {tmp : Obj} (hg : w.grownBy W v.ownBlock) (hs : Same w v u) (hg1 : (W.alloc tmp).grownBy w1 u.ownBlock) (hat : u'.ownBlock = u.ownBlock ∨ u'.ownBlock = some (W.alloc tmp).heap.size) :
    w.grownBy w1 v.ownBlock ∧ Same w v u' := by
  have h2 : W.grownBy (W.alloc tmp) none := World.grownBy_alloc W tmp none
  have hz := h2.size
  refine ⟨⟨hg1.os.trans (h2.os.trans hg.os), hg1.tape.trans (h2.tape.trans hg.tape), hg1.output.trans (h2.output.trans hg.output), Nat.le_trans hg.size (Nat.le_trans hz hg1.size), fun k hk hne => ?_⟩, ?_⟩
  · have hkW := Nat.lt_of_lt_of_le hk hg.size
    have e1 : w1.heap[k]? = (W.alloc tmp).heap[k]? := hg1.block k (Nat.lt_of_lt_of_le hkW hz) (by
      rcases hs with e | ⟨q, e, hq⟩
      · rw [e]; exact hne
      · rw [e]; intro hh; cases hh; omega)
    exact e1.trans ((h2.block k hkW (by intro hh; cases hh)).trans (hg.block k hk hne))
  · rcases hat with e | e
    · unfold Same at *; rw [e]; exact hs
    · exact Or.inr ⟨_, e, Nat.le_trans hg.size hz⟩

set_option maxRecDepth 100000 in
set_option maxHeartbeats 4000000 in
theorem spell (v : Value) (l : List Int) (n : Int) (W base : Nat) (w : World) (hv : Has w base v l) (hbs : base ≤ w.heap.size) (h20 : W ≤ 20) (h0 : 0 ≤ n) (h1 : Hid (n < 2 ^ W)) (hl : l.length ≤ 1000) :
    Calls Tryz.prog 64 #[v, .int .i64 n, .int .i64 W] w fun e w' => ∃ v', e = .returned v' ∧ Has w' base v' (l ++ bin W n) ∧ w.grownBy w' v.ownBlock ∧ Hid (Same w v v') := by
  have HO0 : Hid (l ++ bin W (n % 2 ^ W) = l ++ bin W n) := hide (by rw [bin_mod h0 (unhide h1)])
  have HLN : Hid ((l ++ bin W n).length ≤ 1020) := hide (by rw [List.length_append, bin_length]; omega)
  have hn9 : n ≤ 1048576 := by have := unhide h1; have := (two_le' h20).2; omega
  obtain ⟨tg, htg⟩ : ∃ tg, l ++ bin W n = tg := ⟨_, rfl⟩
  rw [htg] at HO0 HLN ⊢
  have hs0 : IntKind.i64.wrap ((W : Int) - 1) = (W : Int) - 1 := IntWalk.i64_in _ (by omega)
  clear htg h1 hl
  go_enter Tryz.func64, Tryz.ntmps64
  go_wp2
  go_loopw [0, 9] (fun u i wr => ∃ (j m : Nat) (O : List Int), j + m = W ∧ i = .int .i64 j ∧ Has wr base u O ∧ Hid (O ++ bin m (n % 2 ^ m) = tg) ∧ w.grownBy wr v.ownBlock ∧ Hid (Same w v u)) (fun _ i _ => W - (intOf i).toNat)
  case atStart => exact ⟨0, W, l, by omega, rfl, hv, HO0, World.grownBy.refl _ _, hide (Or.inl rfl)⟩
  case round =>
    clear HO0 hv
    obtain ⟨j, m, O, hjm, rfl, hv, HO, hg, HS⟩ := hrel
    have hsz := hg.size
    cases m with
    | zero =>
      obtain rfl : j = W := by omega
      have HO2 : Hid (O = tg) := hide (by rw [← unhide HO, bin, List.append_nil])
      rw [unhide HO2] at hv
      obtain ⟨p9, n9, q9, rfl⟩ := hv.shape
      clear HO
      go_wp2
      go_ret
      exact ⟨_, rfl, hv, hg, HS⟩
    | succ m =>
      have HO2 : Hid ((O ++ [n / 2 ^ m % 2]) ++ bin m (n % 2 ^ m) = tg) := hide (by rw [← unhide HO, bin_next]; simp)
      have hln : Hid (O.length + 1 ≤ 17592186044416) := hide (by
        have e := congrArg List.length (unhide HO)
        rw [List.length_append] at e
        have := unhide HLN
        omega)
      have hjW : j < W := by omega
      have hex : ((W : Int) - 1 - (j : Int)).toNat = m := by omega
      have hsh : IntKind.i64.wrap ((W : Int) - 1 - (j : Int)) = (W : Int) - 1 - (j : Int) := IntWalk.i64_in _ (by omega)
      have hp := two_pos m
      have q0 : 0 ≤ n / 2 ^ m := Int.ediv_nonneg h0 (by omega)
      have q9 : n / 2 ^ m ≤ 1048576 := Int.le_trans (Int.ediv_le_self _ h0) hn9
      have ha := and_one q0 q9
      obtain ⟨Q, hQ⟩ : ∃ Q, n / 2 ^ m = Q := ⟨_, rfl⟩
      rw [hQ] at HO2 ha q0 q9
      obtain ⟨D, hD⟩ : ∃ D, Q % 2 = D := ⟨_, rfl⟩
      rw [hD] at HO2 ha
      have hm1 : j + 1 + m = W := by omega
      have hWs : base ≤ wr.heap.size := Nat.le_trans hbs hsz
      clear HO hD hp hjm
      go_wp2_with (at_builtin; refine wpList_appL _ rfl _ _ rfl base u0 O [D] _ _ rfl (hv.alloc _) rfl (row_one _ _ _) (unhide hln) (by simp; omega) ?_; intro s' w6 k6 g6 at6)
      obtain ⟨hg6, hs6⟩ := grown_on hg (unhide HS) g6 at6
      have HS6 := hide hs6
      clear hv hg HS hs6 g6 at6
      go_wp2
      go_roundw
      case rel => exact ⟨j + 1, m, _, hm1, by go_num, k6, HO2, hg6, HS6⟩
      case measure => simp [intOf]; omega

set_option maxRecDepth 100000 in
set_option maxHeartbeats 4000000 in
theorem number (a : Option Addr) (cap : Nat) (l : List Int) (w : World) (hr : Row w a l) (h20 : l.length ≤ 20) (hb : Hid (Bit l)) :
    Calls Tryz.prog 97 #[.slice a l.length cap] w fun e w' => e = .returned (.int .i64 (num 0 l)) ∧ w' = w := by
  have HS := hide (num_small' (unhide hb) h20)
  obtain ⟨N, hN⟩ : ∃ N, l.length = N := ⟨_, rfl⟩
  have HN := hide hN
  have HA : Hid (num 0 (l.take N) = num 0 l) := hide (by rw [← hN, List.take_length])
  obtain ⟨R, hR⟩ : ∃ R, num 0 l = R := ⟨_, rfl⟩
  rw [hR] at HA
  rw [hN] at h20
  rw [hN, hR]
  clear hN hR
  go_enter Tryz.func97, Tryz.ntmps97
  go_wp2
  go_loopw [3, 8] (fun n i wr => ∃ (k : Nat) (X : Int), k ≤ N ∧ i = .int .i64 k ∧ n = .int .i64 X ∧ Hid (num 0 (l.take k) = X) ∧ w = wr) (fun _ i _ => N - (intOf i).toNat)
  case atStart => exact ⟨0, 0, Nat.zero_le _, rfl, rfl, rfl, rfl⟩
  case round =>
    obtain ⟨k, X, hk, rfl, rfl, HX, rfl⟩ := hrel
    by_cases hkl : k < N
    · have hkl' : k < l.length := by rw [unhide HN]; exact hkl
      obtain ⟨b2, off2, rfl, _, hc2⟩ := Scl.cell_at hr (by omega)
      have e1 := hc2 k hkl'
      have hs := unhide HS k
      have hbt := bit_at (unhide hb) k
      have HX2 : Hid (num 0 (l.take (k + 1)) = 2 * X + at0 l k) := hide (by rw [num_take' hkl', unhide HX])
      rw [unhide HX] at hs
      obtain ⟨B, hB⟩ : ∃ B, at0 l k = B := ⟨_, rfl⟩
      rw [hB] at e1 hbt HX2
      have ho := or_bit hs.1 hs.2 hbt
      have ho2 : bits .or .i64 (X * 2) B = 2 * X + B := by rw [Int.mul_comm X 2]; exact ho
      have w1 : IntKind.i64.wrap (2 * X) = 2 * X := IntWalk.i64_in _ (by omega)
      have w2 : IntKind.i64.wrap (X * 2) = X * 2 := IntWalk.i64_in _ (by omega)
      clear hB hc2 hkl' HX hbt hs
      go_wp2
      go_roundw
      case rel => exact ⟨k + 1, 2 * X + B, by omega, by go_num, by first | rfl | go_num, HX2, by first | trivial | rfl⟩
      case measure => simp [intOf]; omega
    · obtain rfl : k = N := by omega
      obtain rfl : X = R := (unhide HX).symm.trans (unhide HA)
      go_wp2
      go_ret
      exact ⟨rfl, rfl⟩

end Go.Proofs.YtjojeifoddonnakGreat.Wid

/-
  width.Put: by its contract.
-/
namespace Go.Proofs.YtjojeifoddonnakGreat.Wid
open Go.RowKit
open Go.Proofs.YtjojeifoddonnakGreat.Tre Go.Proofs.YtjojeifoddonnakGreat.Scl Go.Proofs.YtjojeifoddonnakGreat.Bnd
set_option linter.unusedVariables false

theorem drop_at' {l : List Int} {k : Nat} (h : k < l.length) : l.drop k = at0 l k :: l.drop (k + 1) := by
  rw [List.drop_eq_getElem_cons h]
  simp [at0, h]
theorem pf_step' {l ws : List Int} {j : Nat} (h1 : j < l.length) (h2 : j < ws.length) : pf (l.drop j) (ws.drop j) = if Fit (at0 l j) (at0 ws j) then pf (l.drop (j + 1)) (ws.drop (j + 1)) else 1 := by
  rw [drop_at' h1, drop_at' h2, pf]
theorem pf_now {l ws : List Int} (hl : l.length = ws.length) (h : ws.any now = true) : pf l ws = 1 := by
  rcases pf_in l ws with h0 | h0
  · exfalso
    have h1 := (pf_zero hl).1 h0
    have h2 : ws.any now = false := now_any.2 (fun i hi => ⟨(h1 i hi).1, (h1 i hi).2.1⟩)
    rw [h] at h2
    cases h2
  · exact h0

/-- What Put tells. -/
def PutSays (l ws : List Int) (w : World) (e : Ending) (w' : World) : Prop :=
  ((putF l ws ≠ 0 ∧ e = .returned (.tuple #[.slice none 0 0, .iface 60 (.int .i64 (putF l ws))])) ∨ (putF l ws = 0 ∧ ∃ v, e = .returned (.tuple #[v, .nilIface]) ∧ Has w' w.heap.size v (puts l ws))) ∧ Below w.heap.size w w'

theorem wpList_mk0 {ops : Array Oper} {rest : List Oper} {o : Oper} {a : Act} {Q : Exit → Act → World → Prop} (w : World) (hgd : o.guard = none) (c : Operand)
    (ho : o.op = .makeSlice 23 (.const (.int .i64 0)) c) (n : Nat) (hs : a.eval c = .int .i64 n) (hn : n ≤ 1000000)
    (h : ∀ w', Has w' w.heap.size (.slice (some ⟨w.heap.size, 0, none⟩) 0 n) [] → Below w.heap.size w w' → wpList Tryz.prog ops Q rest (a.put o.dst (.slice (some ⟨w.heap.size, 0, none⟩) 0 n)) w') :
    wpList Tryz.prog ops Q (o :: rest) a w := by
  obtain ⟨i0, hi, hz0, hz1, hz2⟩ := info_parts info_int
  refine wpList_make_own w hgd _ c 23 ho w.heap.size 3 i0 (.int .i64 0) 1 Tryz.underlying23 hi hz0 hz1 .i64 .i64 _ n rfl hs rfl (by rw [hz2]; omega) (by unfold maxLen; omega) (Nat.le_refl _) ?_
  intro w2 hown hgrow
  exact h w2 hown ((Below.refl _ _).grown hgrow (Nat.le_refl _) (by intro k hk; cases hk))

set_option maxRecDepth 100000 in
set_option maxHeartbeats 8000000 in
theorem put (a : Option Addr) (cap : Nat) (l : List Int) (b : Option Addr) (capb : Nat) (ws : List Int) (w : World) (hr : Row w a l) (hs : Row w b ws) (zl : l.length ≤ 17592186044416) (zs : ws.length ≤ 17592186044416) :
    Calls Tryz.prog 30 #[.slice a l.length cap, .slice b ws.length capb] w fun e w' => PutSays l ws w e w' := by
  by_cases hlen : l.length = ws.length
  · have HP1 : Hid (pf l ws = 1 → PutSays l ws w (.returned (.tuple #[.slice none 0 0, .iface 60 (.int .i64 1)])) w) := hide (fun h => by
      have e : putF l ws = 1 := by unfold putF; rw [if_pos hlen, if_neg (by omega)]
      exact ⟨Or.inl (by rw [e]; exact ⟨by omega, rfl⟩), Below.refl _ _⟩)
    cases hany : ws.any now with
    | true =>
      have hp := pf_now hlen hany
      have htn := total_no b capb ws w hs (by omega) (hide hany)
      obtain ⟨N, hN⟩ : ∃ N, ws.length = N := ⟨_, rfl⟩
      rw [hlen, hN]
      rw [hN] at htn
      have HP := hide (unhide HP1 hp)
      have hne : ((N : Int) == (N : Int)) = true := by simp
      clear hN hlen HP1 hp hany
      go_enter Tryz.func30, Tryz.ntmps30
      go_wp2_with fail
      refine htn.mono ?_
      clear htn
      rintro e w1 ⟨rfl, rfl⟩
      go_wp2
      go_ret2
      exact unhide HP
    | false =>
      have hW := now_any.1 hany
      have htk := total_ok b capb ws w hs zs (hide hW)
      have HT0 := hide (puts_length l hW)
      have HP4 : Hid (pf l ws = 0 → 400 < total ws → PutSays l ws w (.returned (.tuple #[.slice none 0 0, .iface 60 (.int .i64 4)])) w) := hide (fun h h4 => by
        have e : putF l ws = 4 := by unfold putF; rw [if_pos hlen, if_pos h, if_pos (by rw [unhide HT0]; exact h4)]
        exact ⟨Or.inl (by rw [e]; exact ⟨by omega, rfl⟩), Below.refl _ _⟩)
      have HP0 : Hid (pf l ws = 0 → ¬ 400 < total ws → ∀ v w', Has w' w.heap.size v (puts l ws) → Below w.heap.size w w' → PutSays l ws w (.returned (.tuple #[v, .nilIface])) w') := hide (fun h h4 v w' hv hb => by
        have e : putF l ws = 0 := by unfold putF; rw [if_pos hlen, if_pos h, if_neg (by rw [unhide HT0]; exact h4)]
        exact ⟨Or.inr ⟨e, v, rfl, hv⟩, hb⟩)
      have HFI : Hid (pf l ws = 0 → ∀ i, i < ws.length → Fit (at0 l i) (at0 ws i)) := hide (fun h => (pf_zero hlen).1 h)
      have HF0 : Hid (pf (l.drop 0) (ws.drop 0) = pf l ws) := hide (by rw [List.drop_zero, List.drop_zero])
      have HAL : Hid (putUp l ws ws.length = puts l ws) := hide (putUp_all l ws)
      have HUL : Hid (∀ j, j ≤ ws.length → (putUp l ws j).length ≤ total ws) := hide (fun j hj => by rw [putUp_length l hW hj]; exact pre_total ws hj)
      have HW := hide hW
      obtain ⟨P, hP⟩ : ∃ P, pf l ws = P := ⟨_, rfl⟩
      rw [hP] at HP1 HP4 HP0 HF0 HFI
      have HPP : Hid (P = 0 ∨ P = 1) := hide (by rw [← hP]; exact pf_in l ws)
      obtain ⟨Z, hZ⟩ : ∃ Z, total ws = Z := ⟨_, rfl⟩
      rw [hZ] at HP4 HP0 HUL htk
      obtain ⟨N, hN⟩ : ∃ N, ws.length = N := ⟨_, rfl⟩
      have HN := hide hN
      have HNl : Hid (l.length = N) := hide (hlen.trans hN)
      rw [hN] at HAL HUL htk HFI
      rw [hlen, hN] at zl
      rw [hlen, hN]
      have hne : ((N : Int) == (N : Int)) = true := by simp
      clear hP hN hlen zs hW hany hZ HT0
      go_enter Tryz.func30, Tryz.ntmps30
      go_wp2_with fail
      refine htk.mono ?_
      clear htk
      rintro e w1 ⟨rfl, hw1⟩
      obtain rfl : w = w1 := hw1.symm
      clear hw1
      go_wp2
      go_loopw [29] (fun i wr => ∃ j : Nat, j ≤ N ∧ i = .int .i64 j ∧ Hid (pf (l.drop j) (ws.drop j) = P) ∧ w = wr) (fun i _ => N - (intOf i).toNat)
      case atStart => exact ⟨0, Nat.zero_le _, rfl, HF0, rfl⟩
      case round =>
        obtain ⟨j, hj, rfl, HF, rfl⟩ := hrel
        clear HF0
        by_cases hlt : j < N
        · have hlt1 : j < l.length := by rw [unhide HNl]; exact hlt
          have hlt2 : j < ws.length := by rw [unhide HN]; exact hlt
          have HF2 : Hid ((if Fit (at0 l j) (at0 ws j) then pf (l.drop (j + 1)) (ws.drop (j + 1)) else 1) = P) := hide (by rw [← pf_step' hlt1 hlt2]; exact unhide HF)
          have hwj := unhide HW j hlt2
          obtain ⟨b1, off1, rfl, _, hc1⟩ := Scl.cell_at hr (by omega)
          obtain ⟨b2, off2, rfl, _, hc2⟩ := Scl.cell_at hs (by omega)
          have c1 := hc1 j hlt1
          have c2 := hc2 j hlt2
          obtain ⟨Y, hY⟩ : ∃ Y, at0 l j = Y := ⟨_, rfl⟩
          obtain ⟨X, hX⟩ : ∃ X : Nat, at0 ws j = X := ⟨(at0 ws j).toNat, by omega⟩
          rw [hY] at c1
          rw [hX] at c2 hwj
          rw [hX, hY] at HF2
          have hX20 : X ≤ 20 := by omega
          clear hY hX hc1 hc2 hlt1 hlt2 HF hwj
          by_cases hy1 : Y < 0
          · have dz : decide (Y < 0) = true := by simpa using hy1
            have HP := hide (unhide HP1 (by rw [← unhide HF2, if_neg (fun h => by have := h.2.2.1; omega)]))
            clear HF2
            go_wp2
            go_ret2
            exact unhide HP
          · have dz : decide (Y < 0) = false := by simpa using hy1
            have hp := two_pos X
            by_cases hy2 : Y < 2 ^ X
            · have hq : Y / 2 ^ X = 0 := Int.ediv_eq_zero_of_lt (by omega) hy2
              have HF3 : Hid (pf (l.drop (j + 1)) (ws.drop (j + 1)) = P) := hide (by
                rw [← unhide HF2, if_pos ⟨by omega, by omega, by omega, by rw [Int.toNat_natCast]; exact hy2⟩])
              clear HF2 hy2 hp
              go_wp2
              go_roundw
              case rel => exact ⟨j + 1, by omega, by go_num, HF3, by first | trivial | rfl⟩
              case measure => simp [intOf]; omega
            · have hq : 1 ≤ Y / 2 ^ X := (Int.le_ediv_iff_mul_le hp).2 (by omega)
              have HP := hide (unhide HP1 (by rw [← unhide HF2, if_neg (fun h => by have := h.2.2.2; rw [Int.toNat_natCast] at this; omega)]))
              obtain ⟨G, hG⟩ : ∃ G : Int, Y / 2 ^ X = G := ⟨_, rfl⟩
              rw [hG] at hq
              have hn1 : (G == 0) = false := by rw [beq_eq_false_iff_ne]; omega
              have hn2 : (G != 0) = true := by simp; omega
              clear HF2 hy2 hp
              go_wp2
              go_ret2
              exact unhide HP
        · obtain rfl : j = N := by omega
          obtain rfl : P = 0 := by
            rw [← unhide HF, ← unhide HN, List.drop_length]
            cases l.drop ws.length <;> rfl
          clear HF HP1 HPP
          by_cases h4 : 400 < Z
          · have HP := hide (unhide HP4 rfl h4)
            clear HP4 HP0 HFI
            go_wp2
            go_ret2
            exact unhide HP
          · have HFI2 : Hid (∀ i, i < j → Fit (at0 l i) (at0 ws i)) := hide (unhide HFI rfl)
            have HP2 := hide (unhide HP0 rfl h4)
            clear HP4 HP0 HFI
            go_wp2_with (at_make; refine wpList_mk0 _ rfl _ rfl Z rfl (by omega) ?_; intro w2 hv2 hb2)
            rw [← putUp_zero l ws] at hv2
            go_wp2
            go_loopw [10, 54] (fun v i wr => ∃ k : Nat, k ≤ j ∧ i = .int .i64 k ∧ Has wr w.heap.size v (putUp l ws k) ∧ Below w.heap.size w wr) (fun _ i _ => j - (intOf i).toNat)
            case atStart => exact ⟨0, Nat.zero_le _, rfl, hv2, hb2⟩
            case round =>
              clear hv2 hb2
              obtain ⟨k, hk, rfl, hv, hB⟩ := hrel
              by_cases hkl : k < j
              · have hlt1 : k < l.length := by rw [unhide HNl]; exact hkl
                have hlt2 : k < ws.length := by rw [unhide HN]; exact hkl
                have hwj := unhide HW k hlt2
                have hft := unhide HFI2 k hkl
                have HPU := hide (putUp_step l ws hlt2)
                have hul := unhide HUL k (by omega)
                obtain ⟨b1, off1, rfl, _, hc1⟩ := Scl.cell_at (hr.below hB) (by omega)
                obtain ⟨b2, off2, rfl, _, hc2⟩ := Scl.cell_at (hs.below hB) (by omega)
                have c1 := hc1 k hlt1
                have c2 := hc2 k hlt2
                obtain ⟨Y, hY⟩ : ∃ Y, at0 l k = Y := ⟨_, rfl⟩
                obtain ⟨X, hX⟩ : ∃ X : Nat, at0 ws k = X := ⟨(at0 ws k).toNat, by omega⟩
                rw [hY] at c1
                rw [hX] at c2 hwj
                rw [hX, hY] at hft HPU
                rw [Int.toNat_natCast] at HPU
                obtain ⟨-, -, y0, y9⟩ := hft
                rw [Int.toNat_natCast] at y9
                have hsp := spell u10 (putUp l ws k) Y X w.heap.size wr hv hB.size (by omega) y0 (hide y9) (by omega)
                rw [← unhide HPU] at hsp
                clear hY hX hc1 hc2 hlt1 hlt2 hwj y9 HPU hul
                go_wp2_with fail
                refine hsp.mono ?_
                clear hsp
                rintro e w3 ⟨v3, rfl, k3, g3, -⟩
                have hB3 := hB.grown g3 hB.size (fun q e => (hv.lt q e).1)
                clear hB hv g3
                go_wp2
                go_roundw
                case rel => exact ⟨k + 1, by omega, by go_num, k3, hB3⟩
                case measure => simp [intOf]; omega
              · obtain rfl : k = j := by omega
                rw [unhide HAL] at hv
                obtain ⟨p9, n9, q9, rfl⟩ := hv.shape
                go_wp2
                go_ret2
                exact unhide HP2 _ _ hv hB
  · have e : putF l ws = 3 := by unfold putF; rw [if_neg hlen]
    have HP : Hid (PutSays l ws w (.returned (.tuple #[.slice none 0 0, .iface 60 (.int .i64 3)])) w) := hide ⟨Or.inl (by rw [e]; exact ⟨by omega, rfl⟩), Below.refl _ _⟩
    obtain ⟨N, hN⟩ : ∃ N, ws.length = N := ⟨_, rfl⟩
    obtain ⟨M, hM⟩ : ∃ M, l.length = M := ⟨_, rfl⟩
    rw [hN, hM] at hlen
    rw [hN, hM]
    have hne : ((M : Int) == (N : Int)) = false := by rw [beq_eq_false_iff_ne]; omega
    have hne2 : (M == N) = false := by rw [beq_eq_false_iff_ne]; omega
    have hne3 : ((M : Int) != (N : Int)) = true := by simp; omega
    clear hN hM e
    go_enter Tryz.func30, Tryz.ntmps30
    go_wp2
    go_ret2
    exact unhide HP

theorem put_no (a : Option Addr) (cap : Nat) (l : List Int) (b : Option Addr) (capb : Nat) (ws : List Int) (E : Int) (w : World) (hr : Row w a l) (hs : Row w b ws) (zl : l.length ≤ 17592186044416) (zs : ws.length ≤ 17592186044416) (hE : Hid (putF l ws = E)) (hne : Hid (E ≠ 0)) :
    Calls Tryz.prog 30 #[.slice a l.length cap, .slice b ws.length capb] w fun e w' => e = .returned (.tuple #[.slice none 0 0, .iface 60 (.int .i64 E)]) ∧ Below w.heap.size w w' := by
  refine (put a cap l b capb ws w hr hs zl zs).mono ?_
  rintro e w' ⟨h, hb⟩
  rw [unhide hE] at h
  rcases h with ⟨_, h⟩ | ⟨h, _⟩
  · exact ⟨h, hb⟩
  · exact absurd h (unhide hne)
theorem put_ok (a : Option Addr) (cap : Nat) (l : List Int) (b : Option Addr) (capb : Nat) (ws : List Int) (w : World) (hr : Row w a l) (hs : Row w b ws) (zl : l.length ≤ 17592186044416) (zs : ws.length ≤ 17592186044416) (hE : Hid (putF l ws = 0)) :
    Calls Tryz.prog 30 #[.slice a l.length cap, .slice b ws.length capb] w fun e w' => ∃ v, e = .returned (.tuple #[v, .nilIface]) ∧ Has w' w.heap.size v (puts l ws) ∧ Below w.heap.size w w' := by
  refine (put a cap l b capb ws w hr hs zl zs).mono ?_
  rintro e w' ⟨h, hb⟩
  rcases h with ⟨h, _⟩ | ⟨_, v, h, hv⟩
  · exact absurd (unhide hE) h
  · exact ⟨v, h, hv, hb⟩

end Go.Proofs.YtjojeifoddonnakGreat.Wid

/-
  width.Get: by its contract.
-/
namespace Go.Proofs.YtjojeifoddonnakGreat.Wid
open Go.RowKit
open Go.Proofs.YtjojeifoddonnakGreat.Tre Go.Proofs.YtjojeifoddonnakGreat.Scl Go.Proofs.YtjojeifoddonnakGreat.Bnd
set_option linter.unusedVariables false

set_option maxRecDepth 100000 in
set_option maxHeartbeats 4000000 in
theorem get_no (a : Option Addr) (cap : Nat) (bs : List Int) (b : Option Addr) (capb : Nat) (ws : List Int) (E : Int) (w : World) (hr : Row w a bs) (hs : Row w b ws) (hm : bs.length ≤ cap) (hm9 : cap ≤ 9223372036854775807) (zl : bs.length ≤ 17592186044416) (zs : ws.length ≤ 17592186044416) (hE : Hid (getF bs ws = E)) (hne : Hid (E ≠ 0)) :
    Calls Tryz.prog 112 #[.slice a bs.length cap, .slice b ws.length capb] w fun e w' => e = .returned (.tuple #[.slice none 0 0, .iface 60 (.int .i64 E)]) ∧ Below w.heap.size w w' := by
  have hE2 := unhide hE
  unfold getF at hE2
  by_cases h0 : bsF bs = 0
  · rw [if_pos h0] at hE2
    have hck := check_ok a cap bs w hr (hide h0)
    cases hany : ws.any now with
    | true =>
      obtain rfl : E = 1 := by rw [← hE2, if_pos hany]
      have htn := total_no b capb ws w hs (by omega) (hide hany)
      obtain ⟨N, hN⟩ : ∃ N, ws.length = N := ⟨_, rfl⟩
      obtain ⟨M, hM⟩ : ∃ M, bs.length = M := ⟨_, rfl⟩
      rw [hM] at hck ⊢
      rw [hN] at htn ⊢
      clear hN hM hE hne hE2 h0 hany hm zl zs
      go_enter Tryz.func112, Tryz.ntmps112
      go_wp2_with fail
      refine hck.mono ?_
      clear hck
      rintro e w1 ⟨rfl, hw1⟩
      obtain rfl : w = w1 := hw1.symm
      clear hw1
      go_wp2_with fail
      refine htn.mono ?_
      clear htn
      rintro e w1 ⟨rfl, hw1⟩
      obtain rfl : w = w1 := hw1.symm
      clear hw1
      go_wp2
      go_ret2
      exact ⟨rfl, Below.refl _ _⟩
    | false =>
      rw [if_neg (by rw [hany]; simp)] at hE2
      have hW := now_any.1 hany
      have htk := total_ok b capb ws w hs zs (hide hW)
      have ht : total ws ≠ bs.length := fun h => unhide hne (by rw [← hE2, if_pos h])
      obtain rfl : E = 3 := by rw [← hE2, if_neg ht]
      obtain ⟨N, hN⟩ : ∃ N, ws.length = N := ⟨_, rfl⟩
      obtain ⟨M, hM⟩ : ∃ M, bs.length = M := ⟨_, rfl⟩
      obtain ⟨Z, hZ⟩ : ∃ Z, total ws = Z := ⟨_, rfl⟩
      rw [hM] at hck ht ⊢
      rw [hZ] at ht htk
      rw [hN] at htk ⊢
      have n1 : ((M : Int) == (Z : Int)) = false := by rw [beq_eq_false_iff_ne]; omega
      have n2 : ((M : Int) != (Z : Int)) = true := by simp; omega
      have n3 : (M == Z) = false := by rw [beq_eq_false_iff_ne]; omega
      clear hN hM hZ hE hne hE2 h0 hany hm zl zs hW ht
      go_enter Tryz.func112, Tryz.ntmps112
      go_wp2_with fail
      refine hck.mono ?_
      clear hck
      rintro e w1 ⟨rfl, hw1⟩
      obtain rfl : w = w1 := hw1.symm
      clear hw1
      go_wp2_with fail
      refine htk.mono ?_
      clear htk
      rintro e w1 ⟨rfl, hw1⟩
      obtain rfl : w = w1 := hw1.symm
      clear hw1
      go_wp2
      go_ret2
      exact ⟨rfl, Below.refl _ _⟩
  · rw [if_neg h0] at hE2
    have hck := check_no a cap bs E w hr (by omega) (hide hE2) hne
    obtain ⟨N, hN⟩ : ∃ N, ws.length = N := ⟨_, rfl⟩
    obtain ⟨M, hM⟩ : ∃ M, bs.length = M := ⟨_, rfl⟩
    rw [hM] at hck ⊢
    rw [hN]
    clear hN hM hE hne hE2 h0 hm zl zs
    go_enter Tryz.func112, Tryz.ntmps112
    go_wp2_with fail
    refine hck.mono ?_
    clear hck
    rintro e w1 ⟨rfl, hw1⟩
    obtain rfl : w = w1 := hw1.symm
    clear hw1
    go_wp2
    go_ret2
    exact ⟨rfl, Below.refl _ _⟩

set_option maxRecDepth 100000 in
set_option maxHeartbeats 8000000 in
theorem get_ok (a : Option Addr) (cap : Nat) (bs : List Int) (b : Option Addr) (capb : Nat) (ws : List Int) (w : World) (hr : Row w a bs) (hs : Row w b ws) (hm : bs.length ≤ cap) (hm9 : cap ≤ 9223372036854775807) (zs : ws.length ≤ 17592186044416) (hE : Hid (getF bs ws = 0)) :
    Calls Tryz.prog 112 #[.slice a bs.length cap, .slice b ws.length capb] w fun e w' => ∃ v, e = .returned (.tuple #[v, .nilIface]) ∧ Has w' w.heap.size v (gets bs ws) ∧ Below w.heap.size w w' := by
  obtain ⟨⟨h400, hbit⟩, hW, ht⟩ := getF_zero.1 (unhide hE)
  have hck := check_ok a cap bs w hr (hide (bsF_zero.2 ⟨h400, hbit⟩))
  have htk := total_ok b capb ws w hs zs (hide hW)
  rw [ht] at htk
  have HW := hide hW
  have HBI := hide hbit
  have HT := hide ht
  have HG : Hid (upto (fun i => num 0 (cutAt bs ws i)) ws.length = gets bs ws) := hide rfl
  have HM0 : Hid (bs.length = (bs.drop (pre ws 0)).length) := hide rfl
  have hr0 : Row w a (bs.drop (pre ws 0)) := hr
  obtain ⟨r, hrr⟩ : ∃ r, gets bs ws = r := ⟨_, rfl⟩
  rw [hrr] at HG ⊢
  obtain ⟨N, hN⟩ : ∃ N, ws.length = N := ⟨_, rfl⟩
  have HN := hide hN
  obtain ⟨M0, hM0⟩ : ∃ M, bs.length = M := ⟨_, rfl⟩
  rw [hN] at HG htk zs ⊢
  rw [hM0] at hck htk h400 HM0 hm ⊢
  have n1 : ((M0 : Int) == (M0 : Int)) = true := by simp
  have HL0 := hide hM0
  clear hN hM0 hE hW hbit ht hrr
  go_enter Tryz.func112, Tryz.ntmps112
  go_wp2_with fail
  refine hck.mono ?_
  clear hck
  rintro e w1 ⟨rfl, hw1⟩
  obtain rfl : w = w1 := hw1.symm
  clear hw1
  go_wp2_with fail
  refine htk.mono ?_
  clear htk
  rintro e w1 ⟨rfl, hw1⟩
  obtain rfl : w = w1 := hw1.symm
  clear hw1
  go_wp2_with (at_make; refine wpList_mkL _ rfl _ rfl N rfl (by omega) ?_; intro w2 hv2 hb2)
  rw [← Lap.mid_zero (fun i => num 0 (cutAt bs ws i)) (fun _ => 0) N] at hv2
  go_wp2
  go_loopw [0, 35] (fun lv i wr => ∃ (j : Nat) (A : Option Addr) (M C : Nat), j ≤ N ∧ i = .int .i64 j ∧ lv = .slice A M C ∧ Hid (M = (bs.drop (pre ws j)).length) ∧ M ≤ 400 ∧ M ≤ C ∧ C ≤ 9223372036854775807 ∧ Row w A (bs.drop (pre ws j)) ∧
      Has wr w.heap.size (.slice (some ⟨w.heap.size, 0, none⟩) N N) (Lap.mid (fun i => num 0 (cutAt bs ws i)) (fun _ => 0) N j) ∧ Below w.heap.size w wr) (fun _ i _ => N - (intOf i).toNat)
  case atStart => exact ⟨0, a, M0, cap, Nat.zero_le _, rfl, rfl, HM0, h400, hm, hm9, hr0, hv2, hb2⟩
  case round =>
    obtain ⟨j, A, M, C, hj, rfl, rfl, HM, hM4, hMC, hC9, hrA, hv, hB⟩ := hrel
    clear hv2 hb2 hr0 HM0
    by_cases hlt : j < N
    · have hjs : j < ws.length := by rw [unhide HN]; exact hlt
      obtain ⟨b1, off1, rfl, _, hc1⟩ := Scl.cell_at (hs.below hB) (by omega)
      have c1 := hc1 j hjs
      have h1 := unhide HW j hjs
      have hp := pre_total ws (j := j + 1) hjs
      rw [pre_succ, unhide HT, unhide HL0] at hp
      have hlen := unhide HM
      rw [List.length_drop, unhide HL0] at hlen
      have HC1 : Hid ((at0 ws j).toNat = (cutAt bs ws j).length) := hide (cutAt_length (unhide HT) hjs).symm
      have HP := hide (pre_succ ws j)
      have HCB : Hid (Bit (cutAt bs ws j)) := hide (bit_take (bit_drop (unhide HBI) _) _)
      have HCD : Hid (cutAt bs ws j = (bs.drop (pre ws j)).take (at0 ws j).toNat) := hide rfl
      obtain ⟨X, hX⟩ : ∃ X : Nat, at0 ws j = X := ⟨(at0 ws j).toNat, by omega⟩
      rw [hX] at c1 h1 hp HC1 HP HCD
      rw [Int.toNat_natCast] at hp HC1 HP HCD
      have hX20 : X ≤ 20 := by omega
      have hXM : X ≤ (bs.drop (pre ws j)).length := by rw [← unhide HM]; omega
      have hMC' : (bs.drop (pre ws j)).length ≤ C := by rw [← unhide HM]; exact hMC
      obtain ⟨A1, run1, hr1⟩ := row_first hrA C hMC' hXM
      obtain ⟨A2, run2, hr2⟩ := row_rest hrA C hMC' hXM
      rw [← unhide HM] at run1 run2
      rw [← unhide HCD] at hr1
      have hnum := number A1 C (cutAt bs ws j) wr (hr1.below hB) (by rw [← unhide HC1]; exact hX20) HCB
      rw [← unhide HC1] at hnum
      have hdr : Row w A2 (bs.drop (pre ws (j + 1))) := by
        rw [unhide HP, ← List.drop_drop]
        exact hr2
      have HM2 : Hid (M - X = (bs.drop (pre ws (j + 1))).length) := hide (by rw [unhide HP, List.length_drop, unhide HL0]; omega)
      obtain ⟨G, hG⟩ : ∃ G, num 0 (cutAt bs ws j) = G := ⟨_, rfl⟩
      rw [hG] at hnum
      have c2 := hv.get (j := j) (by rw [Lap.mid_length]; exact hlt)
      have f2 := hv.frozen j
      obtain ⟨m1, -, m2⟩ := Mid.put_mid hv hlt hG 0
      have Q1 := hide m1
      have Q2 := hide (m2 w hB (Nat.le_refl _))
      have hXM2 : X ≤ M := by rw [unhide HM]; exact hXM
      have d1 : M - X ≤ 400 := by omega
      have d2 : M - X ≤ C - X := by omega
      have d3 : C - X ≤ 9223372036854775807 := by omega
      clear hc1 h1 hp hlen hX hG hrA hjs hXM hMC' hr1 hr2 m1 m2 HC1 HCB HCD HP
      go_wp2_with fail
      refine hnum.mono ?_
      clear hnum
      rintro e w3 ⟨rfl, hw3⟩
      obtain rfl : wr = w3 := hw3.symm
      clear hw3
      go_wp2
      go_roundw
      case rel => exact ⟨j + 1, A2, M - X, C - X, by omega, by go_num, rfl, HM2, d1, d2, d3, hdr, unhide Q1, unhide Q2⟩
      case measure => simp [intOf]; omega
    · obtain rfl : j = N := by omega
      have hv3 := hv
      rw [Lap.mid_all, unhide HG] at hv3
      go_wp2
      go_ret2
      exact ⟨_, rfl, hv3, hB⟩

end Go.Proofs.YtjojeifoddonnakGreat.Wid
