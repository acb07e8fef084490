/-
  width.spell, number: by their contracts.
-/
import Derived.Test.YtpinmcgaaplkiagWidthTwo
import Derived.Test.YtpinmcgaaplkiagScaleBase
import Derived.Test.YtpinmcgaaplkiagOwnBig
import Derived.Test.YtpinmcgaaplkiagOwnSet
import Derived.Deep.QuietTactic
import Derived.BigQuiet
namespace Go.Proofs.Ytpinmcgaaplkiag.Wid
open Go.RowKit
open Go.Proofs.Ytpinmcgaaplkiag.Tre Go.Proofs.Ytpinmcgaaplkiag.Scl Go.Proofs.Ytpinmcgaaplkiag.Bnd
set_option linter.unusedVariables false

/-- A slice grows, and grows again: all else of the first world stays. -/
def Same (w : World) (v u : Value) : Prop := u.ownBlock = v.ownBlock ∨ ∃ k, u.ownBlock = some k ∧ w.heap.size ≤ k
theorem grown_on {w W w1 : World} {v u u' : Value} {tmp : Obj} (hg : w.grownBy W v.ownBlock) (hs : Same w v u) (hg1 : (W.alloc tmp).grownBy w1 u.ownBlock) (hat : u'.ownBlock = u.ownBlock ∨ u'.ownBlock = some (W.alloc tmp).heap.size) :
    w.grownBy w1 v.ownBlock ∧ Same w v u' := by
  have h2 : W.grownBy (W.alloc tmp) none := World.grownBy_alloc W tmp none
  have hz := h2.size
  refine ⟨⟨hg1.os.trans (h2.os.trans hg.os), hg1.tape.trans (h2.tape.trans hg.tape), hg1.output.trans (h2.output.trans hg.output), Nat.le_trans hg.size (Nat.le_trans hz hg1.size), fun k hk hne => ?_⟩, ?_⟩
  · have hkW := Nat.lt_of_lt_of_le hk hg.size
    have e1 : w1.heap[k]? = (W.alloc tmp).heap[k]? := hg1.block k (Nat.lt_of_lt_of_le hkW hz) (by
      rcases hs with e | ⟨q, e, hq⟩
      · rw [e]; exact hne
      · rw [e]; intro hh; cases hh; omega)
    exact e1.trans ((h2.block k hkW (by intro hh; cases hh)).trans (hg.block k hk hne))
  · rcases hat with e | e
    · unfold Same at *; rw [e]; exact hs
    · exact Or.inr ⟨_, e, Nat.le_trans hg.size hz⟩

set_option maxRecDepth 100000 in
set_option maxHeartbeats 4000000 in
theorem spell (v : Value) (l : List Int) (n : Int) (W base : Nat) (w : World) (hv : Has w base v l) (hbs : base ≤ w.heap.size) (h20 : W ≤ 20) (h0 : 0 ≤ n) (h1 : Hid (n < 2 ^ W)) (hl : l.length ≤ 1000) :
    Calls Try.prog 27 #[v, .int .i64 n, .int .i64 W] w fun e w' => ∃ v', e = .returned v' ∧ Has w' base v' (l ++ bin W n) ∧ w.grownBy w' v.ownBlock ∧ Hid (Same w v v') := by
  have HO0 : Hid (l ++ bin W (n % 2 ^ W) = l ++ bin W n) := hide (by rw [bin_mod h0 (unhide h1)])
  have HLN : Hid ((l ++ bin W n).length ≤ 1020) := hide (by rw [List.length_append, bin_length]; omega)
  have hn9 : n ≤ 1048576 := by have := unhide h1; have := (two_le' h20).2; omega
  obtain ⟨tg, htg⟩ : ∃ tg, l ++ bin W n = tg := ⟨_, rfl⟩
  rw [htg] at HO0 HLN ⊢
  have hs0 : IntKind.i64.wrap ((W : Int) - 1) = (W : Int) - 1 := IntWalk.i64_in _ (by omega)
  clear htg h1 hl
  go_enter Try.func27, Try.ntmps27
  go_wp2
  go_loopw [0, 9] (fun u i wr => ∃ (j m : Nat) (O : List Int), j + m = W ∧ i = .int .i64 j ∧ Has wr base u O ∧ Hid (O ++ bin m (n % 2 ^ m) = tg) ∧ w.grownBy wr v.ownBlock ∧ Hid (Same w v u)) (fun _ i _ => W - (intOf i).toNat)
  case atStart => exact ⟨0, W, l, by omega, rfl, hv, HO0, World.grownBy.refl _ _, hide (Or.inl rfl)⟩
  case round =>
    clear HO0 hv
    obtain ⟨j, m, O, hjm, rfl, hv, HO, hg, HS⟩ := hrel
    have hsz := hg.size
    cases m with
    | zero =>
      obtain rfl : j = W := by omega
      have HO2 : Hid (O = tg) := hide (by rw [← unhide HO, bin, List.append_nil])
      rw [unhide HO2] at hv
      obtain ⟨p9, n9, q9, rfl⟩ := hv.shape
      clear HO
      go_wp2
      go_ret
      exact ⟨_, rfl, hv, hg, HS⟩
    | succ m =>
      have HO2 : Hid ((O ++ [n / 2 ^ m % 2]) ++ bin m (n % 2 ^ m) = tg) := hide (by rw [← unhide HO, bin_next]; simp)
      have hln : Hid (O.length + 1 ≤ 17592186044416) := hide (by
        have e := congrArg List.length (unhide HO)
        rw [List.length_append] at e
        have := unhide HLN
        omega)
      have hjW : j < W := by omega
      have hex : ((W : Int) - 1 - (j : Int)).toNat = m := by omega
      have hsh : IntKind.i64.wrap ((W : Int) - 1 - (j : Int)) = (W : Int) - 1 - (j : Int) := IntWalk.i64_in _ (by omega)
      have hp := two_pos m
      have q0 : 0 ≤ n / 2 ^ m := Int.ediv_nonneg h0 (by omega)
      have q9 : n / 2 ^ m ≤ 1048576 := Int.le_trans (Int.ediv_le_self _ h0) hn9
      have ha := and_one q0 q9
      obtain ⟨Q, hQ⟩ : ∃ Q, n / 2 ^ m = Q := ⟨_, rfl⟩
      rw [hQ] at HO2 ha q0 q9
      obtain ⟨D, hD⟩ : ∃ D, Q % 2 = D := ⟨_, rfl⟩
      rw [hD] at HO2 ha
      have hm1 : j + 1 + m = W := by omega
      have hWs : base ≤ wr.heap.size := Nat.le_trans hbs hsz
      clear HO hD hp hjm
      go_wp2_with (at_builtin; refine wpList_appL _ rfl _ _ rfl base u0 O [D] _ _ rfl (hv.alloc _) rfl (row_one _ _ _) (unhide hln) (by simp; omega) ?_; intro s' w6 k6 g6 at6)
      obtain ⟨hg6, hs6⟩ := grown_on hg (unhide HS) g6 at6
      have HS6 := hide hs6
      clear hv hg HS hs6 g6 at6
      go_wp2
      go_roundw
      case rel => exact ⟨j + 1, m, _, hm1, by go_num, k6, HO2, hg6, HS6⟩
      case measure => simp [intOf]; omega

set_option maxRecDepth 100000 in
set_option maxHeartbeats 4000000 in
theorem number (a : Option Addr) (cap : Nat) (l : List Int) (w : World) (hr : Row w a l) (h20 : l.length ≤ 20) (hb : Hid (Bit l)) :
    Calls Try.prog 29 #[.slice a l.length cap] w fun e w' => e = .returned (.int .i64 (num 0 l)) ∧ w' = w := by
  have HS := hide (num_small' (unhide hb) h20)
  obtain ⟨N, hN⟩ : ∃ N, l.length = N := ⟨_, rfl⟩
  have HN := hide hN
  have HA : Hid (num 0 (l.take N) = num 0 l) := hide (by rw [← hN, List.take_length])
  obtain ⟨R, hR⟩ : ∃ R, num 0 l = R := ⟨_, rfl⟩
  rw [hR] at HA
  rw [hN] at h20
  rw [hN, hR]
  clear hN hR
  go_enter Try.func29, Try.ntmps29
  go_wp2
  go_loopw [3, 8] (fun n i wr => ∃ (k : Nat) (X : Int), k ≤ N ∧ i = .int .i64 k ∧ n = .int .i64 X ∧ Hid (num 0 (l.take k) = X) ∧ w = wr) (fun _ i _ => N - (intOf i).toNat)
  case atStart => exact ⟨0, 0, Nat.zero_le _, rfl, rfl, rfl, rfl⟩
  case round =>
    obtain ⟨k, X, hk, rfl, rfl, HX, rfl⟩ := hrel
    by_cases hkl : k < N
    · have hkl' : k < l.length := by rw [unhide HN]; exact hkl
      obtain ⟨b2, off2, rfl, _, hc2⟩ := cell_at hr (by omega)
      have e1 := hc2 k hkl'
      have hs := unhide HS k
      have hbt := bit_at (unhide hb) k
      have HX2 : Hid (num 0 (l.take (k + 1)) = 2 * X + at0 l k) := hide (by rw [num_take' hkl', unhide HX])
      rw [unhide HX] at hs
      obtain ⟨B, hB⟩ : ∃ B, at0 l k = B := ⟨_, rfl⟩
      rw [hB] at e1 hbt HX2
      have ho := or_bit hs.1 hs.2 hbt
      have ho2 : bits .or .i64 (X * 2) B = 2 * X + B := by rw [Int.mul_comm X 2]; exact ho
      have w1 : IntKind.i64.wrap (2 * X) = 2 * X := IntWalk.i64_in _ (by omega)
      have w2 : IntKind.i64.wrap (X * 2) = X * 2 := IntWalk.i64_in _ (by omega)
      clear hB hc2 hkl' HX hbt hs
      go_wp2
      go_roundw
      case rel => exact ⟨k + 1, 2 * X + B, by omega, by go_num, by first | rfl | go_num, HX2, by first | trivial | rfl⟩
      case measure => simp [intOf]; omega
    · obtain rfl : k = N := by omega
      obtain rfl : X = R := (unhide HX).symm.trans (unhide HA)
      go_wp2
      go_ret
      exact ⟨rfl, rfl⟩

end Go.Proofs.Ytpinmcgaaplkiag.Wid
