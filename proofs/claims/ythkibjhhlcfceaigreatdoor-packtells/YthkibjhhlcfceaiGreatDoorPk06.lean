/-
  width.eights, octets: the iterators, by their contracts.
-/
import Derived.Test.YthkibjhhlcfceaiGreatDoorPk04
import Derived.Test.YthkibjhhlcfceaiGreatDoorPk05
namespace Go.Proofs.YthkibjhhlcfceaiGreatDoor.Wid
open Go.RowKit Go.Shelf
open Go.Proofs.YthkibjhhlcfceaiGreatDoor.Tre Go.Proofs.YthkibjhhlcfceaiGreatDoor.Scl Go.Proofs.YthkibjhhlcfceaiGreatDoor.Bnd Go.Proofs.YthkibjhhlcfceaiGreatDoor.Itr Go.Proofs.YthkibjhhlcfceaiGreatDoor.Hrn
set_option linter.unusedVariables false
attribute [local go_sem] Oper.semAt_some

theorem RowB.row {n₀ : Nat} {w : World} {a : Option Addr} {l : List Int} (h : RowB n₀ w a l) (hn : n₀ ≤ w.heap.size) : Row w a l := by
  rcases h with h | ⟨b, off, ha, hlt, hc⟩
  · exact Or.inl h
  · exact Or.inr ⟨b, off, ha, Nat.lt_of_lt_of_le hlt hn, hc⟩

/-- Eight bits (or what there still are), as a slice, its number, and this one moved up. -/
theorem eight_parts {w : World} {a : Option Addr} {bs : List Int} (hr : Row w a bs) (cap : Nat) (hm : bs.length ≤ cap) (hb : Bit bs) {k I Q : Nat} (hI : I = 8 * k) (hk : I < bs.length) (hQ : Q = min (I + 8) bs.length) :
    ∃ (A : Option Addr) (S T : Nat) (G V : Int), (∀ W, (Instr.slice 22 (.slice a bs.length cap) (some (.int .i64 I)) (some (.int .i64 Q)) none).run Tryz.prog W = .ok (.slice A S (cap - I)) W) ∧
      Calls Tryz.prog 122 #[.slice A S (cap - I)] w (fun e w' => e = .returned (.int .i64 G) ∧ w' = w) ∧ 1 ≤ S ∧ S + T = 8 ∧ 0 ≤ G ∧ G ≤ 255 ∧ G * 2 ^ T = V ∧ 0 ≤ V ∧ V ≤ 255 ∧ num 0 (eight bs k) = V := by
  subst hI
  obtain ⟨A, h1, h2⟩ := row_cut hr cap hm (t := 8 * k) (q := Q) (by omega) (by omega)
  have hl : ((bs.drop (8 * k)).take (Q - 8 * k)).length = Q - 8 * k := by rw [List.length_take, List.length_drop]; omega
  have hbt : Bit ((bs.drop (8 * k)).take (Q - 8 * k)) := bit_take (bit_drop hb _) _
  have h3 := number A (cap - 8 * k) _ w h2 (by rw [hl]; omega) (hide hbt)
  rw [hl] at h3
  have h4 := num_in hbt
  rw [hl] at h4
  have h5 := num_eight bs hk
  rw [← hQ] at h5
  have h6 := num_in (eight_bit hb k)
  rw [eight_length] at h6
  have h7 : (2 : Int) ^ (Q - 8 * k) ≤ 256 := by
    have key : ∀ k : Nat, k < 9 → (2 : Int) ^ k ≤ 256 := by decide +kernel
    exact key _ (by omega)
  exact ⟨A, Q - 8 * k, 8 - (Q - 8 * k), _, _, h1, h3, by omega, by omega, h4.1, by omega, h5.symm, h6.1, by have := h6.2; omega, rfl⟩

/-- The bytes of bits, each by its place. -/
abbrev encE (bs : List Int) (i : Nat) : Array Value := #[.int .i64 (num 0 (eight bs i))]

set_option maxRecDepth 100000 in
set_option maxHeartbeats 4000000 in
theorem eights1 (n : Nat) (hn : 1 ≤ n) (L Bs n₀ : Nat) (a : Option Addr) (cap : Nat) (bs : List Int) (hl : bs.length ≤ 400) (hm : bs.length ≤ cap) (hb : Hid (Bit bs)) (K : Nat) (hKK : Hid (K = (bs.length + 7) / 8)) (J Jx : List Nat → World → Prop) (W : World)
    (hJ : AbidesFrom W.heap.size J) (hn₀ : n₀ ≤ W.heap.size)
    (hY : ∀ pre x W1, J pre W1 → pre.length < K → YieldAt Fence.wide (n - 1) Tryz.prog L (encE bs x) W1 fun e W' =>
      (e = .returned (.bool true) ∧ J (pre ++ [x]) W' ∧ Kp n₀ Bs W1 W') ∨ (e = .returned (.bool false) ∧ Jx (pre ++ [x]) W'))
    (hBs : W.cell? ⟨Bs, 0, none⟩ = some (.slice a bs.length cap)) (hr : RowB n₀ W a bs) (h0 : J [] W) :
    CallsIn Fence.wide n Tryz.prog 121 #[.func (.yield L) #[] #[], .pointer (some ⟨Bs, 0, none⟩)] W fun e W' => (∃ v, e = .returned v) ∧
      ((∃ ys, ys = List.range K ∧ J ys W') ∨ (∃ pre, (∃ k, k ≤ K ∧ pre = List.range k) ∧ Jx pre W')) := by
  have hmx : Tryz.prog.follows .mixedOrders = true := by kernel_rfl
  obtain ⟨N, hN⟩ : ∃ N, bs.length = N := ⟨_, rfl⟩
  have HN := hide hN
  have HY := hide hY
  have HM := hide hm
  rw [hN] at hl hBs hKK hm
  clear hN hY
  refine callsIn_of_wp Tryz.func121 rfl trivial ?_ rfl
  simp only [Tryz.ntmps121, List.size_toArray, List.length_cons, List.length_nil, Nat.reduceAdd, Nat.reduceSub, Array.replicate_succ, Array.replicate_zero, List.push_toArray, List.append_toArray, List.nil_append, List.cons_append]
  gi_wp2
  gi_loopw [3] (fun i wr => ∃ k I : Nat, I ≤ N + 7 ∧ Hid (I = 8 * k) ∧ i = .int .i64 I ∧ J (List.range k) wr ∧ Kp n₀ Bs W wr) (fun i _ => N + 8 - (intOf i).toNat)
  case atStart => exact ⟨0, 0, by omega, rfl, by first | rfl | go_num, h0, Kp.refl _ _ _⟩
  case round =>
    obtain ⟨k, I, hI, HI, rfl, hJs, hK⟩ := hrel
    have hB1 := hK.cell hBs
    by_cases hlt : I < N
    · have hkK : k < K := by have := unhide hKK; have := unhide HI; omega
      obtain ⟨fn, tmps, assign, body, hy, hR⟩ := unhide HY _ k wr hJs (by rw [List.length_range]; exact hkK)
      have hR' := hR.mono (R' := fun e W' => ∃ t : Bool, e = .returned (.bool t) ∧ Hid ((t = true ∧ J (List.range (k + 1)) W' ∧ Kp n₀ Bs wr W') ∨ (t = false ∧ Jx (List.range (k + 1)) W'))) (by
        rw [← List.range_succ]
        rintro e W' (⟨rfl, h1, h2⟩ | ⟨rfl, h1⟩)
        · exact ⟨true, rfl, hide (.inl ⟨rfl, h1, h2⟩)⟩
        · exact ⟨false, rfl, hide (.inr ⟨rfl, h1⟩)⟩)
      have hrow := RowB.row (hr.below hK.1) (Nat.le_trans hn₀ hK.1.size)
      have HEP := hide (fun Q hQ => eight_parts hrow cap (unhide HM) (unhide hb) (unhide HI) (by rw [unhide HN]; exact hlt) (Q := Q) hQ)
      rw [unhide HN] at HEP
      obtain ⟨I8, hI8⟩ : ∃ I8, I + 8 = I8 := ⟨_, rfl⟩
      have hw8 : IntKind.i64.wrap ((I : Int) + 8) = (I8 : Int) := by rw [IntWalk.i64_in _ (by omega)]; omega
      have HI8 : Hid (I8 = 8 * (k + 1)) := hide (by have := unhide HI; omega)
      have h8N : I8 ≤ N + 7 := by omega
      have hlt8 : I < I8 := by omega
      have hkK2 : k + 1 ≤ K := hkK
      dsimp only [encE] at hy
      have HC : Hid (I8 < N ∨ I8 = N ∨ N < I8) := hide (by omega)
      have HQ : Hid (∀ Q, Q = min I8 N → Q = min (I + 8) N) := hide (fun Q h => by rw [h, hI8])
      clear hR hBs HY hI8 hI HI hkK hrow hr
      rcases unhide HC with hc | rfl | hc
      · obtain ⟨A, S, T, G, V, run1, hnum, s1, s8, g0, g9, hv, v0, v9, HV⟩ := unhide HEP I8 (unhide HQ I8 (by omega))
        rw [HV] at hy
        have hS8 : IntKind.i64.wrap (8 - (S : Int)) = (T : Int) := by rw [IntWalk.i64_in _ (by omega)]; omega
        have hwv : IntKind.i64.wrap (G * 2 ^ T) = V := by rw [hv]; exact IntWalk.i64_in _ (by omega)
        clear HEP HQ HC HV hv
        gi_wp2_with (refine ⟨trivial, ?_⟩; gi_at_call 122; refine (callsIn_wide.2 hnum).mono ?_; rintro e w' ⟨rfl, hw'⟩; rw [hw']; clear hw' w')
        refine hR'.mono ?_
        rintro e W3 ⟨t, rfl, ht⟩
        cases t
        all_goals (rcases unhide ht with ⟨h1, hJ3, hk3⟩ | ⟨h1, hJx3⟩ <;> first | (cases h1; done) | clear h1 ht)
        all_goals (first
          | (gi_wp2
             go_roundw
             case rel => exact ⟨k + 1, _, h8N, HI8, by first | rfl | go_num, hJ3, hK.trans hk3⟩
             case measure => simp [intOf]; try omega)
          | (gi_wp2
             refine bodyPost_ret (results_none rfl _ _ _) rfl ?_
             exact ⟨⟨_, rfl⟩, .inr ⟨_, ⟨k + 1, hkK2, rfl⟩, hJx3⟩⟩))
      · obtain ⟨A, S, T, G, V, run1, hnum, s1, s8, g0, g9, hv, v0, v9, HV⟩ := unhide HEP I8 (unhide HQ I8 (by omega))
        rw [HV] at hy
        have hS8 : IntKind.i64.wrap (8 - (S : Int)) = (T : Int) := by rw [IntWalk.i64_in _ (by omega)]; omega
        have hwv : IntKind.i64.wrap (G * 2 ^ T) = V := by rw [hv]; exact IntWalk.i64_in _ (by omega)
        clear HEP HQ HC HV hv
        gi_wp2_with (refine ⟨trivial, ?_⟩; gi_at_call 122; refine (callsIn_wide.2 hnum).mono ?_; rintro e w' ⟨rfl, hw'⟩; rw [hw']; clear hw' w')
        refine hR'.mono ?_
        rintro e W3 ⟨t, rfl, ht⟩
        cases t
        all_goals (rcases unhide ht with ⟨h1, hJ3, hk3⟩ | ⟨h1, hJx3⟩ <;> first | (cases h1; done) | clear h1 ht)
        all_goals (first
          | (gi_wp2
             go_roundw
             case rel => exact ⟨k + 1, _, h8N, HI8, by first | rfl | go_num, hJ3, hK.trans hk3⟩
             case measure => simp [intOf]; try omega)
          | (gi_wp2
             refine bodyPost_ret (results_none rfl _ _ _) rfl ?_
             exact ⟨⟨_, rfl⟩, .inr ⟨_, ⟨k + 1, hkK2, rfl⟩, hJx3⟩⟩))
      · obtain ⟨A, S, T, G, V, run1, hnum, s1, s8, g0, g9, hv, v0, v9, HV⟩ := unhide HEP N (unhide HQ N (by omega))
        rw [HV] at hy
        have hS8 : IntKind.i64.wrap (8 - (S : Int)) = (T : Int) := by rw [IntWalk.i64_in _ (by omega)]; omega
        have hwv : IntKind.i64.wrap (G * 2 ^ T) = V := by rw [hv]; exact IntWalk.i64_in _ (by omega)
        clear HEP HQ HC HV hv
        gi_wp2_with (refine ⟨trivial, ?_⟩; gi_at_call 122; refine (callsIn_wide.2 hnum).mono ?_; rintro e w' ⟨rfl, hw'⟩; rw [hw']; clear hw' w')
        refine hR'.mono ?_
        rintro e W3 ⟨t, rfl, ht⟩
        cases t
        all_goals (rcases unhide ht with ⟨h1, hJ3, hk3⟩ | ⟨h1, hJx3⟩ <;> first | (cases h1; done) | clear h1 ht)
        all_goals (first
          | (gi_wp2
             go_roundw
             case rel => exact ⟨k + 1, _, h8N, HI8, by first | rfl | go_num, hJ3, hK.trans hk3⟩
             case measure => simp [intOf]; try omega)
          | (gi_wp2
             refine bodyPost_ret (results_none rfl _ _ _) rfl ?_
             exact ⟨⟨_, rfl⟩, .inr ⟨_, ⟨k + 1, hkK2, rfl⟩, hJx3⟩⟩))
    · obtain rfl : k = K := by have := unhide hKK; have := unhide HI; omega
      gi_wp2
      go_end0
      exact ⟨⟨_, rfl⟩, .inl ⟨_, rfl, hJs⟩⟩

theorem eights_stops (n : Nat) (hn : 1 ≤ n) (Bs n₀ : Nat) (a : Option Addr) (cap : Nat) (bs : List Int) (hl : bs.length ≤ 400) (hm : bs.length ≤ cap) (hb : Hid (Bit bs)) (K : Nat) (hKK : Hid (K = (bs.length + 7) / 8)) (w : World) (hlt : Bs < w.heap.size) (hn₀ : n₀ ≤ w.heap.size)
    (hBs : w.cell? ⟨Bs, 0, none⟩ = some (.slice a bs.length cap)) (hr : RowB n₀ w a bs) :
    SeqStopsK Fence.wide n Tryz.prog 121 #[.pointer (some ⟨Bs, 0, none⟩)] (encE bs) (Kp n₀ Bs) (fun ys => ys = List.range K) (fun pre => ∃ k, k ≤ K ∧ pre = List.range k) K w := fun L J Jx W hW hJ _ hY h0 =>
  eights1 n hn L Bs n₀ a cap bs hl hm hb K hKK J Jx W hJ (Nat.le_trans hn₀ hW.size) hY ((hW.cell (p := ⟨Bs, 0, none⟩) hlt).trans hBs) (hr.below (hW.mono hn₀)) h0
theorem eights_in (n : Nat) (a : Option Addr) (len cap : Nat) (w : World) :
    CallsIn Fence.wide n Tryz.prog 92 #[.slice a len cap] w fun e w' => e = .returned (.func (.func 121) #[] #[.pointer (some ⟨w.heap.size, 0, none⟩)]) ∧ w' = w.alloc (.cells #[.slice a len cap] 22) := by
  refine callsIn_of_wp Tryz.func92 rfl trivial ?_ rfl
  simp only [Tryz.ntmps92, List.size_toArray, List.length_cons, List.length_nil, Nat.reduceAdd, Nat.reduceSub, Array.replicate_succ, Array.replicate_zero, List.push_toArray, List.append_toArray, List.nil_append, List.cons_append]
  gi_wp2
  go_ret
  exact ⟨rfl, rfl⟩

theorem run_idx' (s : ByteArray) (i : Nat) (h : i < s.size) (w : World) : (Instr.index 9 (.string s) (.int .i64 i)).run Tryz.prog w = .ok (.int .u8 (at0 (byt s) i)) w := by
  rw [run_index_string w 9 s .i64 i Tryz.underlying9, dif_pos ⟨by omega, by omega⟩]
  have e : ((i : Int)).toNat = i := by omega
  rw [← byt_at s h]
  simp only [e]
theorem byt_in (s : ByteArray) (i : Nat) : 0 ≤ at0 (byt s) i ∧ at0 (byt s) i ≤ 255 := by
  by_cases hi : i < (byt s).length
  · have e : at0 (byt s) i = (byt s)[i] := by simp [at0, hi]
    have := byt_byts s (byt s)[i] (List.getElem_mem hi)
    omega
  · rw [at0_none (by omega)]; omega

/-- The bytes of a text, each by its place. -/
abbrev encO (s : ByteArray) (i : Nat) : Array Value := #[.int .i64 (at0 (byt s) i)]

set_option maxRecDepth 100000 in
set_option maxHeartbeats 4000000 in
theorem octets1 (n : Nat) (hn : 1 ≤ n) (L Bs n₀ : Nat) (s : ByteArray) (K : Nat) (hKK : Hid (s.size = K)) (hK9 : K ≤ 1000) (J Jx : List Nat → World → Prop) (W : World)
    (hJ : AbidesFrom W.heap.size J)
    (hY : ∀ pre x W1, J pre W1 → pre.length < K → YieldAt Fence.wide (n - 1) Tryz.prog L (encO s x) W1 fun e W' =>
      (e = .returned (.bool true) ∧ J (pre ++ [x]) W' ∧ Kp n₀ Bs W1 W') ∨ (e = .returned (.bool false) ∧ Jx (pre ++ [x]) W'))
    (hBs : W.cell? ⟨Bs, 0, none⟩ = some (.string s)) (h0 : J [] W) :
    CallsIn Fence.wide n Tryz.prog 145 #[.func (.yield L) #[] #[], .pointer (some ⟨Bs, 0, none⟩)] W fun e W' => (∃ v, e = .returned v) ∧
      ((∃ ys, ys = List.range K ∧ J ys W') ∨ (∃ pre, (∃ k, k ≤ K ∧ pre = List.range k) ∧ Jx pre W')) := by
  have hmx : Tryz.prog.follows .mixedOrders = true := by kernel_rfl
  have HY := hide hY
  have hsz : ∀ W, (Builtin.len_ #[9] 3 #[.string s]).run Tryz.prog W = .ok (.int .i64 (K : Int)) W := fun W => by rw [run_len_string W 9 3 s Tryz.underlying9, unhide hKK]; rfl
  clear hY
  refine callsIn_of_wp Tryz.func145 rfl trivial ?_ rfl
  simp only [Tryz.ntmps145, List.size_toArray, List.length_cons, List.length_nil, Nat.reduceAdd, Nat.reduceSub, Array.replicate_succ, Array.replicate_zero, List.push_toArray, List.append_toArray, List.nil_append, List.cons_append]
  gi_wp2
  gi_loopw [6] (fun i wr => ∃ k : Nat, k ≤ K ∧ i = .int .i64 k ∧ J (List.range k) wr ∧ Kp n₀ Bs W wr) (fun i _ => K - (intOf i).toNat)
  case atStart => exact ⟨0, Nat.zero_le _, by first | rfl | go_num, h0, Kp.refl _ _ _⟩
  case round =>
    obtain ⟨k, hk, rfl, hJs, hK⟩ := hrel
    have hB1 := hK.cell hBs
    by_cases hlt : k < K
    · obtain ⟨fn, tmps, assign, body, hy, hR⟩ := unhide HY _ k wr hJs (by rw [List.length_range]; exact hlt)
      have hR' := hR.mono (R' := fun e W' => ∃ t : Bool, e = .returned (.bool t) ∧ Hid ((t = true ∧ J (List.range (k + 1)) W' ∧ Kp n₀ Bs wr W') ∨ (t = false ∧ Jx (List.range (k + 1)) W'))) (by
        rw [← List.range_succ]
        rintro e W' (⟨rfl, h1, h2⟩ | ⟨rfl, h1⟩)
        · exact ⟨true, rfl, hide (.inl ⟨rfl, h1, h2⟩)⟩
        · exact ⟨false, rfl, hide (.inr ⟨rfl, h1⟩)⟩)
      have hix := run_idx' s k (by rw [unhide hKK]; exact hlt)
      obtain ⟨z0, z9⟩ := byt_in s k
      dsimp only [encO] at hy
      obtain ⟨Z, hZ⟩ : ∃ Z, at0 (byt s) k = Z := ⟨_, rfl⟩
      rw [hZ] at hix z0 z9 hy
      have hkK2 : k + 1 ≤ K := hlt
      clear hR hBs HY hZ
      gi_wp2
      refine hR'.mono ?_
      rintro e W3 ⟨t, rfl, ht⟩
      cases t
      all_goals (rcases unhide ht with ⟨h1, hJ3, hk3⟩ | ⟨h1, hJx3⟩ <;> first | (cases h1; done) | clear h1 ht)
      all_goals (first
        | (gi_wp2
           go_roundw
           case rel => exact ⟨k + 1, hkK2, by first | rfl | go_num, hJ3, hK.trans hk3⟩
           case measure => simp [intOf]; try omega)
        | (gi_wp2
           refine bodyPost_ret (results_none rfl _ _ _) rfl ?_
           exact ⟨⟨_, rfl⟩, .inr ⟨_, ⟨k + 1, hkK2, rfl⟩, hJx3⟩⟩))
    · obtain rfl : k = K := by omega
      gi_wp2
      go_end0
      exact ⟨⟨_, rfl⟩, .inl ⟨_, rfl, hJs⟩⟩
theorem octets_stops (n : Nat) (hn : 1 ≤ n) (Bs n₀ : Nat) (s : ByteArray) (K : Nat) (hKK : Hid (s.size = K)) (hK9 : K ≤ 1000) (w : World) (hlt : Bs < w.heap.size)
    (hBs : w.cell? ⟨Bs, 0, none⟩ = some (.string s)) :
    SeqStopsK Fence.wide n Tryz.prog 145 #[.pointer (some ⟨Bs, 0, none⟩)] (encO s) (Kp n₀ Bs) (fun ys => ys = List.range K) (fun pre => ∃ k, k ≤ K ∧ pre = List.range k) K w := fun L J Jx W hW hJ _ hY h0 =>
  octets1 n hn L Bs n₀ s K hKK hK9 J Jx W hJ hY ((hW.cell (p := ⟨Bs, 0, none⟩) hlt).trans hBs) h0
theorem octets_in (n : Nat) (s : ByteArray) (w : World) :
    CallsIn Fence.wide n Tryz.prog 140 #[.string s] w fun e w' => e = .returned (.func (.func 145) #[] #[.pointer (some ⟨w.heap.size, 0, none⟩)]) ∧ w' = w.alloc (.cells #[.string s] 9) := by
  refine callsIn_of_wp Tryz.func140 rfl trivial ?_ rfl
  simp only [Tryz.ntmps140, List.size_toArray, List.length_cons, List.length_nil, Nat.reduceAdd, Nat.reduceSub, Array.replicate_succ, Array.replicate_zero, List.push_toArray, List.append_toArray, List.nil_append, List.cons_append]
  gi_wp2
  go_ret
  exact ⟨rfl, rfl⟩

end Go.Proofs.YthkibjhhlcfceaiGreatDoor.Wid
