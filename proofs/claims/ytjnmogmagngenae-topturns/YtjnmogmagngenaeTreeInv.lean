/-
  tree.Inverse, called with any list and any levels: its contract.
-/
import Derived.Test.YtjnmogmagngenaeTreeFwd
import Derived.Test.YtjnmogmagngenaeTreeJoin
namespace Go.Proofs.Ytjnmogmagngenae.Tre
open Go.RowKit
set_option linter.unusedVariables false

/-- So many are joined behind i levels of k. -/
def msz (k : Nat) (l : List Int) (i : Nat) : Nat := l.length / 2 ^ (k - i)
/-- Behind i levels of k: h is what the first came to. -/
def InvI (k : Nat) (l : List Int) (i : Nat) (h : List Int) : Prop := h.length = msz k l i ∧ back i (l.take (msz k l i)) = some h ∧ In 4000 h
/-- What the next level goes over. -/
def nextQ (k : Nat) (l : List Int) (i : Nat) (h : List Int) : List Int := h ++ (l.drop (msz k l i)).take (msz k l i)

theorem msz_le (k : Nat) (l : List Int) (i : Nat) : msz k l i ≤ l.length := Nat.div_le_self _ _
theorem msz_step {k i : Nat} {l : List Int} (hd : 2 ^ k ∣ l.length) (hi : i < k) : msz k l (i + 1) = 2 * msz k l i := by
  unfold msz
  obtain ⟨q, hq⟩ := hd
  have e1 : 2 ^ k = 2 ^ (k - i) * 2 ^ i := by rw [← Nat.pow_add]; congr 1; omega
  have e2 : 2 ^ k = 2 ^ (k - (i + 1)) * 2 ^ (i + 1) := by rw [← Nat.pow_add]; congr 1; omega
  have p1 : 0 < 2 ^ (k - i) := Nat.pow_pos (by omega)
  have p2 : 0 < 2 ^ (k - (i + 1)) := Nat.pow_pos (by omega)
  have a1 : l.length / 2 ^ (k - i) = 2 ^ i * q := by rw [hq, e1, Nat.mul_assoc, Nat.mul_div_cancel_left _ p1]
  have a2 : l.length / 2 ^ (k - (i + 1)) = 2 ^ (i + 1) * q := by rw [hq, e2, Nat.mul_assoc, Nat.mul_div_cancel_left _ p2]
  rw [a1, a2, Nat.pow_succ, Nat.mul_comm (2 ^ i) 2, Nat.mul_assoc]
theorem msz_pos {k : Nat} {l : List Int} (hd : 2 ^ k ∣ l.length) (h0 : 0 < l.length) (i : Nat) : 0 < msz k l i :=
  Nat.div_pos (Nat.le_of_dvd h0 (Nat.dvd_trans (Nat.pow_dvd_pow 2 (Nat.sub_le _ _)) hd)) (Nat.pow_pos (by omega))

theorem InvI.start {k : Nat} {l : List Int} (h : In 2000 l) : InvI k l 0 (l.take (msz k l 0)) := ⟨by rw [List.length_take]; have := msz_le k l 0; omega, rfl, (h.take _).mono (by omega)⟩

theorem nextQ_facts {k i : Nat} {l h : List Int} (hd : 2 ^ k ∣ l.length) (hl : In 2000 l) (hi : i < k) (f : InvI k l i h) :
    (nextQ k l i h).length = msz k l (i + 1) ∧ (nextQ k l i h).length = 2 * ((nextQ k l i h).length / 2) ∧ In 4000 (nextQ k l i h) ∧ nextQ k l i h ++ l.drop (msz k l (i + 1)) = h ++ l.drop (msz k l i) ∧
      back (i + 1) (l.take (msz k l (i + 1))) = (if (jn (nextQ k l i h)).any (out 4000) = true then none else some (jn (nextQ k l i h))) ∧ (jn (nextQ k l i h)).length = msz k l (i + 1) := by
  obtain ⟨h1, h2, h3⟩ := f
  have hs := msz_step hd hi
  have hle := msz_le k l (i + 1)
  have hlen : (nextQ k l i h).length = 2 * msz k l i := by
    unfold nextQ; rw [List.length_append, List.length_take, List.length_drop, h1]; omega
  have hhalf : (nextQ k l i h).length / 2 = msz k l i := by rw [hlen]; omega
  have hq1 : (nextQ k l i h).take (msz k l i) = h := by unfold nextQ; rw [← h1, List.take_left]
  have hq2 : (nextQ k l i h).drop (msz k l i) = (l.drop (msz k l i)).take (msz k l i) := by
    unfold nextQ
    have : (h ++ (l.drop (msz k l i)).take (msz k l i)).drop h.length = (l.drop (msz k l i)).take (msz k l i) := List.drop_left
    rw [h1] at this; exact this
  have hj : jn (nextQ k l i h) = joins h ((l.drop (msz k l i)).take (msz k l i)) := by unfold jn; rw [hhalf, hq1, hq2]
  refine ⟨by rw [hlen, hs], by rw [hlen]; omega, ?_, ?_, ?_, ?_⟩
  · unfold nextQ; exact h3.append (((hl.drop _).take _).mono (by omega))
  · unfold nextQ
    rw [List.append_assoc, hs, Nat.two_mul, ← List.drop_drop, List.take_append_drop]
  · have hlt : (l.take (msz k l (i + 1))).length / 2 = msz k l i := by rw [List.length_take]; omega
    rw [back, hlt, List.take_take, Nat.min_eq_left (by omega), h2]
    dsimp only
    have e : (l.take (msz k l (i + 1))).drop (msz k l i) = (l.drop (msz k l i)).take (msz k l i) := by
      rw [hs, List.drop_take]; congr 1; omega
    rw [e, hj]
  · rw [hj, joins_length, h1, hs]

theorem InvI.step {k i : Nat} {l h : List Int} (hd : 2 ^ k ∣ l.length) (hl : In 2000 l) (hi : i < k) (f : InvI k l i h) (hn : (jn (nextQ k l i h)).any (out 4000) = false) : InvI k l (i + 1) (jn (nextQ k l i h)) := by
  obtain ⟨h1, h2, h3, h4, h5, h6⟩ := nextQ_facts hd hl hi f
  refine ⟨h6, ?_, in_of_any hn⟩
  rw [h5, if_neg (by rw [hn]; simp)]
theorem back_none {k i : Nat} {l : List Int} (hd : 2 ^ k ∣ l.length) (hi : i ≤ k) (h : back i (l.take (msz k l i)) = none) : back k l = none := by
  obtain ⟨d, rfl⟩ : ∃ d, k = i + d := ⟨k - i, by omega⟩
  have : ∀ e, e ≤ d → back (i + e) (l.take (msz (i + d) l (i + e))) = none := by
    intro e
    induction e with
    | zero => intro _; exact h
    | succ e ih =>
      intro he
      have hs := msz_step (k := i + d) (i := i + e) hd (by omega)
      have hle := msz_le (i + d) l (i + e + 1)
      have hlt : (l.take (msz (i + d) l (i + e + 1))).length / 2 = msz (i + d) l (i + e) := by rw [List.length_take]; omega
      show back (i + e + 1) _ = none
      rw [back]
      show (match back (i + e) ((l.take (msz (i + d) l (i + e + 1))).take ((l.take (msz (i + d) l (i + e + 1))).length / 2)) with | none => none | some s => _) = none
      rw [hlt, List.take_take, Nat.min_eq_left (by omega), ih (by omega)]
  have h9 := this d (Nat.le_refl _)
  have e : msz (i + d) l (i + d) = l.length := by unfold msz; simp
  rwa [e, List.take_of_length_le (Nat.le_refl _)] at h9
theorem InvI.stop {k i : Nat} {l h : List Int} (hd : 2 ^ k ∣ l.length) (hl : In 2000 l) (hi : i < k) (f : InvI k l i h) (hn : (jn (nextQ k l i h)).any (out 4000) = true) : back k l = none := by
  obtain ⟨h1, h2, h3, h4, h5, h6⟩ := nextQ_facts hd hl hi f
  exact back_none hd hi (by rw [h5, if_pos hn])
theorem InvI.done {k : Nat} {l h : List Int} (f : InvI k l k h) : back k l = some h ∧ h ++ l.drop (msz k l k) = h := by
  have e : msz k l k = l.length := by unfold msz; simp
  have h2 := f.2.1
  rw [e, List.take_of_length_le (Nat.le_refl _)] at h2
  exact ⟨h2, by rw [e, List.drop_length, List.append_nil]⟩

theorem inv_no (a : Option Addr) (cap : Nat) (l : List Int) (n : Int) (w : World) (hl : l.length ≤ 9223372036854775807) (hr : Row w a l) (h : Hid (chk l n 2000 ≠ 0)) :
    Calls Try.prog 21 #[.slice a l.length cap, .int .i64 n] w fun e w' => e = .returned (.tuple #[.slice none 0 0, .iface 45 (.int .i64 (chk l n 2000))]) ∧ Below w.heap.size w w' := by
  go_enter Try.func21, Try.ntmps21
  go_wp2_with fail
  refine (check_no a cap l n 2000 w hl (by omega) (by omega) hr h).mono ?_
  rintro e w1 ⟨rfl, hb1⟩
  go_wp2
  go_ret2
  exact ⟨rfl, hb1⟩

def InvPost (l : List Int) (k n₀ : Nat) (e : Ending) (w' : World) : Prop :=
  (back k l = none ∧ e = .returned (.tuple #[.slice none 0 0, .iface 45 (.int .i64 1)])) ∨ ∃ x v, back k l = some x ∧ e = .returned (.tuple #[v, .nilIface]) ∧ Has w' n₀ v x

set_option maxHeartbeats 2000000 in
theorem inv_some (a : Option Addr) (cap : Nat) (l : List Int) (k : Nat) (w : World) (hl : l.length ≤ 9223372036854775807) (hr : Row w a l) (h : Hid (chk l k 2000 = 0)) (h0 : 0 < l.length) :
    Calls Try.prog 21 #[.slice a l.length cap, .int .i64 k] w fun e w' => InvPost l k w.heap.size e w' ∧ Below w.heap.size w w' := by
  obtain ⟨z1, z2, z3, z4, z5⟩ := chk_zero (unhide h)
  have z4' : Hid (2 ^ k ∣ l.length) := hide (by simpa using z4)
  clear z4
  go_enter Try.func21, Try.ntmps21
  go_wp2_with fail
  refine (check_ok a cap l k 2000 w hl (by omega) (by omega) hr h).mono ?_
  rintro e w1 ⟨rfl, hb1⟩
  have hr1 := hr.below hb1
  go_wp2_with (at_builtin; refine wpList_app0 _ rfl _ _ rfl w.heap.size l a cap rfl rfl hr1 (by omega) hb1.size ?_; intro tv w2 k2 b2 _)
  obtain ⟨g, c, rfl, hg, hc1, hc2⟩ := has_some k2 h0
  have hb2 := Below.chain hb1 b2
  go_loopw [20] (fun i wr => ∃ (j : Nat) (p : List Int), i = .int .i64 j ∧ j ≤ k ∧ Hid (InvI k l j p) ∧ Has wr w.heap.size (.slice (some ⟨g, 0, none⟩) l.length c) (p ++ l.drop (msz k l j)) ∧ Below w.heap.size w wr) (fun i _ => k - (intOf i).toNat)
  case atStart => exact ⟨0, _, rfl, Nat.zero_le _, hide (InvI.start z5), by rw [List.take_append_drop]; exact k2, hb2⟩
  case round =>
    obtain ⟨j, p, rfl, hjk, HP, hw, hB⟩ := hrel
    by_cases hlt : j < k
    · obtain ⟨f1, f2, f3, f4, _, f6⟩ := nextQ_facts (unhide z4') z5 hlt (unhide HP)
      obtain ⟨q, hq⟩ : ∃ q, q = nextQ k l j p := ⟨_, rfl⟩
      have HQ := hide hq
      rw [← hq] at f1 f2 f3 f4 f6
      clear hq
      rw [← f4] at hw
      have hql : q.length ≤ l.length := by rw [f1]; exact msz_le _ _ _
      have hq0 : 0 < q.length := by rw [f1]; exact msz_pos (unhide z4') h0 _
      have hsh : (l.length : Int) / 2 ^ (k - (j + 1)) = (q.length : Int) := by rw [f1, msz]; simp
      have hex : ((k : Int) - 1 - (j : Int)).toNat = k - (j + 1) := by omega
      have F1 := hide f1
      have F2 := hide f2
      have F6 := hide f6
      clear f1 f2 f4 f6
      have hqt : Hid ((q ++ l.drop (msz k l (j + 1))).length = l.length) := hide (by rw [List.length_append, List.length_drop, unhide F1]; have := msz_le k l (j + 1); omega)
      have hsl := has_sl hw hq0 (by rw [unhide hqt]; exact hc1) hc2
      cases hany : (jn q).any (out 4000)
      · have HA := hide hany
        clear hany
        have HS := hide ((unhide HP).step (unhide z4') z5 hlt (by rw [← unhide HQ]; exact unhide HA))
        go_wp2_with fail
        refine (join_ok (some ⟨g, 0, none⟩) c q wr (by omega) F2 f3 hsl HA).mono ?_
        rintro e w3 ⟨v3, rfl, hv3, hb3⟩
        obtain ⟨a3, c3, rfl, r3⟩ := hv3.row
        have hw3 := hw.below hb3
        have hjl : Hid ((jn q).length = q.length) := hide (by rw [unhide F6, unhide F1])
        have hnew : Hid (jn q ++ l.drop (msz k l (j + 1)) = jn q ++ (q ++ l.drop (msz k l (j + 1))).drop (jn q).length) := hide (by rw [unhide hjl, List.drop_left])
        obtain ⟨w4, hrun, hw4, g4⟩ := run_cpy w3 w.heap.size _ (q ++ l.drop (msz k l (j + 1))) (jn q) 3 hw3 a3 c3 r3 (by rw [unhide hjl]; simp)
        obtain ⟨n3, hn3⟩ : ∃ n3, n3 = (jn q).length := ⟨_, rfl⟩
        rw [← hn3] at hrun ⊢
        clear hn3
        go_wp2
        go_roundw
        case rel => exact ⟨j + 1, jn q, by go_num, hlt, (by rw [unhide HQ]; exact HS), by rw [unhide hnew]; exact hw4, (hB.trans (hb3.mono hB.size)).grown g4 (Nat.le_trans hB.size hb3.size) (fun r e => (hw3.lt r e).1)⟩
        case measure => simp [intOf]; omega
      · have HA := hide hany
        clear hany
        have HS := hide ((unhide HP).stop (unhide z4') z5 hlt (by rw [← unhide HQ]; exact unhide HA))
        go_wp2_with fail
        refine (join_no (some ⟨g, 0, none⟩) c q wr (by omega) F2 f3 hsl HA).mono ?_
        rintro e w3 ⟨rfl, hb3⟩
        go_wp2
        go_ret2
        exact ⟨Or.inl ⟨unhide HS, rfl⟩, hB.trans (hb3.mono hB.size)⟩
    · obtain rfl : j = k := by omega
      go_wp2
      go_ret2
      obtain ⟨d1, d2⟩ := (unhide HP).done
      exact ⟨Or.inr ⟨_, _, d1, rfl, by rw [d2] at hw; exact hw⟩, hB⟩

theorem back_nil (k : Nat) : back k [] = some [] := by
  induction k with
  | zero => rfl
  | succ k ih => rw [back]; show (match back k [] with | none => none | some s => _) = some []; rw [ih]; rfl

set_option maxHeartbeats 2000000 in
theorem inv_nil (a : Option Addr) (cap : Nat) (k : Nat) (w : World) (hk : k ≤ 5) (hr : Row w a []) (h : Hid (chk [] k 2000 = 0)) :
    Calls Try.prog 21 #[.slice a 0 cap, .int .i64 k] w fun e w' => e = .returned (.tuple #[.slice none 0 0, .nilIface]) ∧ Below w.heap.size w w' := by
  go_enter Try.func21, Try.ntmps21
  go_wp2_with fail
  refine (check_ok a cap [] k 2000 w (by simp) (by omega) (by omega) hr h).mono ?_
  rintro e w1 ⟨rfl, hb1⟩
  have hr1 := hr.below hb1
  go_wp2_with (at_builtin; refine wpList_app0 _ rfl _ _ rfl w.heap.size [] a cap rfl rfl hr1 (by simp) hb1.size ?_; intro tv w2 k2 b2 hnil)
  obtain rfl := hnil trivial
  have hb2 := Below.chain hb1 b2
  go_loopw [20] (fun i wr => ∃ (j : Nat), i = .int .i64 j ∧ j ≤ k ∧ Below w.heap.size w wr) (fun i _ => k - (intOf i).toNat)
  case atStart => exact ⟨0, rfl, Nat.zero_le _, hb2⟩
  case round =>
    obtain ⟨j, rfl, hjk, hB⟩ := hrel
    by_cases hlt : j < k
    · have hsh : (0 : Int) / 2 ^ (k - (j + 1)) = 0 := by simp
      have hex : ((k : Int) - 1 - (j : Int)).toNat = k - (j + 1) := by omega
      go_wp2_with fail
      refine (join_ok none 0 [] wr (by simp) (hide rfl) (fun _ h => by cases h) (Or.inl ⟨rfl, rfl, rfl⟩) (hide rfl)).mono ?_
      rintro e w3 ⟨v3, rfl, hv3, hb3⟩
      obtain ⟨a3, c3, rfl, r3⟩ := hv3.row
      obtain ⟨w4, hrun, hw4, g4⟩ := run_cpy w3 w.heap.size _ [] (jn []) 3 (Has.nil w3 w.heap.size) a3 c3 r3 (by decide)
      have e0 : (jn []).length = 0 := rfl
      rw [e0] at hrun ⊢
      go_wp2
      go_roundw
      case rel => exact ⟨j + 1, by go_num, hlt, (hB.trans (hb3.mono hB.size)).grown g4 (Nat.le_trans hB.size hb3.size) (fun q e => by simp [Value.ownBlock] at e)⟩
      case measure => simp [intOf]; omega
    · obtain rfl : j = k := by omega
      go_wp2
      go_ret2
      exact ⟨rfl, hB⟩

/-- Inverse, where nothing is wrong ahead. -/
theorem inv_all (a : Option Addr) (cap : Nat) (l : List Int) (k : Nat) (w : World) (hl : l.length ≤ 9223372036854775807) (hr : Row w a l) (h : Hid (chk l k 2000 = 0)) :
    Calls Try.prog 21 #[.slice a l.length cap, .int .i64 k] w fun e w' => InvPost l k w.heap.size e w' ∧ Below w.heap.size w w' := by
  by_cases h0 : 0 < l.length
  · exact inv_some a cap l k w hl hr h h0
  · obtain rfl : l = [] := List.eq_nil_of_length_eq_zero (by omega)
    have hk := (chk_zero (unhide h)).2.2.1
    exact (inv_nil a cap k w (by omega) hr h).mono fun e w' ⟨he, hb⟩ => ⟨Or.inr ⟨_, _, back_nil k, he, Has.nil _ _⟩, hb⟩
theorem inv_ok (a : Option Addr) (cap : Nat) (l x : List Int) (k : Nat) (w : World) (hl : l.length ≤ 9223372036854775807) (hr : Row w a l) (h : Hid (chk l k 2000 = 0)) (hx : Hid (back k l = some x)) :
    Calls Try.prog 21 #[.slice a l.length cap, .int .i64 k] w fun e w' => ∃ v, e = .returned (.tuple #[v, .nilIface]) ∧ Has w' w.heap.size v x ∧ Below w.heap.size w w' :=
  (inv_all a cap l k w hl hr h).mono fun e w' ⟨hp, hb⟩ => by
    rcases hp with ⟨hn, _⟩ | ⟨y, v, hy, he, hv⟩
    · rw [unhide hx] at hn; cases hn
    · rw [unhide hx] at hy; cases hy; exact ⟨v, he, hv, hb⟩
theorem inv_bad (a : Option Addr) (cap : Nat) (l : List Int) (k : Nat) (w : World) (hl : l.length ≤ 9223372036854775807) (hr : Row w a l) (h : Hid (chk l k 2000 = 0)) (hx : Hid (back k l = none)) :
    Calls Try.prog 21 #[.slice a l.length cap, .int .i64 k] w fun e w' => e = .returned (.tuple #[.slice none 0 0, .iface 45 (.int .i64 1)]) ∧ Below w.heap.size w w' :=
  (inv_all a cap l k w hl hr h).mono fun e w' ⟨hp, hb⟩ => by
    rcases hp with ⟨_, he⟩ | ⟨y, v, hy, he, hv⟩
    · exact ⟨he, hb⟩
    · rw [unhide hx] at hy; cases hy

end Go.Proofs.Ytjnmogmagngenae.Tre
