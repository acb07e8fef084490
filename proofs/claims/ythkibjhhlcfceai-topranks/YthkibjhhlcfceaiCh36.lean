/-
  horn.Decode: by its contract.
-/
import Derived.Test.YthkibjhhlcfceaiCh35
import Derived.Test.YthkibjhhlcfceaiCh33
import Derived.Test.YthkibjhhlcfceaiCh11
namespace Go.Proofs.Ythkibjhhlcfceai.Hrn
open Go.RowKit
open Go.Proofs.Ythkibjhhlcfceai.Tre Go.Proofs.Ythkibjhhlcfceai.Scl
set_option linter.unusedVariables false

theorem below_dr (w : World) (n : Nat) : Below w.heap.size w (w.drewN n) := ⟨rfl, rfl, rfl, Nat.le_refl _, fun _ _ => rfl⟩

theorem decode_shape (a : Option Addr) (cap : Nat) (f : List Int) (s : ByteArray) (n : Int) (w : World) (hrf : Row w a f) (hm : f.length ≤ cap) (hm9 : cap ≤ 9223372036854775807) (hf : Hid (¬ right f)) :
    Calls Try.prog 10 #[.slice a f.length cap, .string s, .int .i64 n] w fun e w' => e = .returned (.tuple #[.slice none 0 0, .iface 52 (.int .i64 3)]) ∧ Below w.heap.size w w' := by
  have hck := starts_no a cap f w (by omega) hrf hf
  obtain ⟨M, hM⟩ : ∃ M, f.length = M := ⟨_, rfl⟩
  rw [hM] at hck ⊢
  clear hM hm hm9 hf
  go_enter Try.func10, Try.ntmps10
  go_wp2_with fail
  refine hck.mono ?_
  rintro e w1 ⟨rfl, hb1⟩
  go_wp2
  go_ret2
  exact ⟨rfl, hb1⟩

theorem decode_range (a : Option Addr) (cap : Nat) (f : List Int) (s : ByteArray) (n : Int) (w : World) (hrf : Row w a f) (hm : f.length ≤ cap) (hm9 : cap ≤ 9223372036854775807) (hf : Hid (right f)) (hn : n < 0 ∨ (0 ≤ n ∧ 60 < n)) :
    Calls Try.prog 10 #[.slice a f.length cap, .string s, .int .i64 n] w fun e w' => e = .returned (.tuple #[.slice none 0 0, .iface 52 (.int .i64 1)]) ∧ Below w.heap.size w w' := by
  have hck := starts_ok a cap f w hrf hf
  obtain ⟨ss, hss⟩ : ∃ ss, upto (pfx f) f.length = ss := ⟨_, rfl⟩
  rw [hss] at hck
  obtain ⟨M, hM⟩ : ∃ M, f.length = M := ⟨_, rfl⟩
  rw [hM] at hck ⊢
  clear hM hm hm9 hf hss
  rcases hn with hn | ⟨hn, hn'⟩
  · have hd : decide (n < 0) = true := by simpa using hn
    go_enter Try.func10, Try.ntmps10
    go_wp2_with fail
    refine hck.mono ?_
    rintro e w1 ⟨v, rfl, k1, hb1⟩
    obtain ⟨p3, n3, q3, rfl⟩ := k1.shape
    go_wp2
    go_ret2
    exact ⟨rfl, hb1⟩
  · have hd : decide (n < 0) = false := by simp; omega
    have hd2 : decide (60 < n) = true := by simpa using hn'
    go_enter Try.func10, Try.ntmps10
    go_wp2_with fail
    refine hck.mono ?_
    rintro e w1 ⟨v, rfl, k1, hb1⟩
    obtain ⟨p3, n3, q3, rfl⟩ := k1.shape
    go_wp2
    go_ret2
    exact ⟨rfl, hb1⟩

theorem three_bs {bs : List Int} (h : 3 ≤ bs.length) : bs = at0 bs 0 :: at0 bs 1 :: at0 bs 2 :: bs.drop 3 := by
  match bs, h with
  | a :: b :: c :: r, _ => rfl
/-- These bytes are a row just where they are read to their end, of a number that is great enough. -/
theorem row_read {f bs : List Int} (hf : right f) (hb : Byts bs) (h3 : 3 ≤ bs.length) (n : Nat) (l : List Int) : IsRow f bs n l ↔ dec f n (nm bs 3) (bs.drop 3) = some (l, 65536, []) ∧ 65536 ≤ nm bs 3 := by
  have e3 := three_bs h3
  have h := row_iff' hf (a := at0 bs 0) (b := at0 bs 1) (c := at0 bs 2) (r := bs.drop 3) (by rw [← e3]; exact hb) (n := n) (l := l)
  rw [← e3, ← nm_three] at h
  exact h

theorem decode_short (a : Option Addr) (cap : Nat) (f bs : List Int) (n : Nat) (w : World) (hrf : Row w a f) (hf : Hid (right f)) (hb : Hid (Byts bs)) (hn : n ≤ 60) (h3 : bs.length < 3) :
    Calls Try.prog 10 #[.slice a f.length cap, .string (str bs), .int .i64 n] w fun e w' => Tld f bs n w e w' := by
  have hck := starts_ok a cap f w hrf hf
  have hbe := fun w1 => begin_short bs w1 h3
  have HNO : Hid (∀ l, ¬ IsRow f bs n l) := hide (fun l => row_short h3)
  obtain ⟨ss, hss⟩ : ∃ ss, upto (pfx f) f.length = ss := ⟨_, rfl⟩
  rw [hss] at hck
  obtain ⟨M, hM⟩ : ∃ M, f.length = M := ⟨_, rfl⟩
  rw [hM] at hck ⊢
  clear hM hf hss
  go_enter Try.func10, Try.ntmps10
  go_wp2_with fail
  refine hck.mono ?_
  clear hck
  rintro e w1 ⟨v, rfl, k1, hb1⟩
  obtain ⟨p3, n3, q3, rfl⟩ := k1.shape
  go_wp2_with fail
  refine (hbe w1).mono ?_
  rintro e w2 ⟨rfl, rfl⟩
  go_wp2
  go_ret2
  exact ⟨Or.inr ⟨rfl, unhide HNO⟩, hb1⟩

set_option maxRecDepth 100000 in
set_option maxHeartbeats 16000000 in
theorem decode_long (a : Option Addr) (cap : Nat) (f bs : List Int) (n : Nat) (w : World) (hrf : Row w a f) (hf : Hid (right f)) (hb : Hid (Byts bs)) (hs9 : bs.length ≤ 9223372036854775807) (hn : n ≤ 60) (h3 : 3 ≤ bs.length) :
    Calls Try.prog 10 #[.slice a f.length cap, .string (str bs), .int .i64 n] w fun e w' => Tld f bs n w e w' := by
  obtain ⟨f1, f2, -, -⟩ := unhide hf
  have hck := starts_ok a cap f w hrf hf
  have hbe := fun w1 => begin_at bs w1 hb h3 hs9
  have HRI := hide (row_read (unhide hf) (unhide hb) h3 n)
  have HX0 := hide (nm_small (unhide hb) (i := 3) (by omega) h3)
  have HB0 : Hid (Byts (bs.drop 3)) := hide (fun b h => unhide hb b (List.mem_of_mem_drop h))
  have HP1 : Hid (∀ e w' v l, e = Ending.returned (.tuple #[v, .nilIface]) → IsRow f bs n l → Has w' w.heap.size v l → Below w.heap.size w w' → Tld f bs n w e w') := hide (fun e w' v l h1 h2 h3 h4 => ⟨Or.inl ⟨v, l, h1, h2, h3⟩, h4⟩)
  have HP0 : Hid (∀ e w', e = Ending.returned (.tuple #[.slice none 0 0, .iface 52 (.int .i64 2)]) → (∀ l, ¬ IsRow f bs n l) → Below w.heap.size w w' → Tld f bs n w e w') := hide (fun e w' h1 h2 h3 => ⟨Or.inr ⟨h1, h2⟩, h3⟩)
  obtain ⟨r0, hr0⟩ : ∃ r0, bs.drop 3 = r0 := ⟨_, rfl⟩
  obtain ⟨s, hs⟩ : ∃ s, str bs = s := ⟨_, rfl⟩
  rw [hs] at hbe ⊢
  rw [hr0] at HRI HB0
  have HR0 := hide hr0
  obtain ⟨M, hM⟩ : ∃ M, f.length = M := ⟨_, rfl⟩
  have HM := hide hM
  rw [hM] at hck f1 f2 ⊢
  clear hM hs hr0 hb
  go_enter Try.func10, Try.ntmps10
  go_wp2_with fail
  refine hck.mono ?_
  clear hck
  rintro e w1 ⟨v, rfl, k1, hb1⟩
  obtain ⟨g, cc, rfl, hg0, hg1, hcc, hc9⟩ := k1.one (by rw [upto_length]; exact f1)
  rw [upto_length] at k1 ⊢
  go_wp2_with fail
  refine (hbe w1).mono ?_
  clear hbe
  rintro e w2 ⟨⟨nd, hw2⟩, ⟨hlo, rfl⟩ | ⟨hhi, rfl⟩⟩
  · have hno : Hid (∀ l, ¬ IsRow f bs n l) := hide (fun l h => by have := ((unhide HRI l).1 h).2; omega)
    have hb2 : Below w.heap.size w w2 := by rw [hw2]; exact Below.chain hb1 (below_dr _ _)
    clear hw2
    go_wp2
    go_ret2
    exact unhide HP0 _ _ rfl (unhide hno) hb2
  · have hb12 : Below w1.heap.size w1 w2 := by rw [hw2]; exact below_dr _ _
    rw [unhide HR0]
    obtain ⟨X0, hX0⟩ : ∃ X, nm bs 3 = X := ⟨_, rfl⟩
    rw [hX0] at HRI HX0 hhi ⊢
    have HX1 : Hid (Mid X0) := hide ⟨hhi, (unhide HX0).2⟩
    have HD0 : Hid (dec f n X0 r0 = (dec f (n - 0) X0 r0).map fun z => ([] ++ z.1, z.2)) := hide (by
      rw [Nat.sub_zero]
      cases dec f n X0 r0 <;> rfl)
    have hsz1 := hb1.size
    clear hX0 hw2 HX0 hhi
    go_wp2
    go_loopw [10, 1, 11, 40] (fun x t v i wr => ∃ (j : Nat) (X : Int) (r O : List Int), j ≤ n ∧ x = .int .i64 X ∧ t = .string (str r) ∧ i = .int .i64 j ∧ Has wr w1.heap.size v O ∧ Hid (dec f n X0 r0 = (dec f (n - j) X r).map fun z => (O ++ z.1, z.2)) ∧ Hid (Mid X) ∧ Hid (Byts r) ∧ Hid (O.length = j) ∧ Below w1.heap.size w1 wr) (fun _ _ _ i _ => n - (intOf i).toNat)
    case atStart => exact ⟨0, X0, r0, [], Nat.zero_le _, rfl, rfl, rfl, Has.nil _ _, HD0, HX1, HB0, rfl, hb12⟩
    case round =>
      obtain ⟨j, X, r, O, hj, rfl, rfl, rfl, hv, HD, HX, HB, HO, hB⟩ := hrel
      clear HD0 hb12
      obtain ⟨x1, x9⟩ := unhide HX
      by_cases hlt : j < n
      · have hp0 : 0 ≤ X % 256 := by omega
        have hp9 : X % 256 ≤ 255 := by omega
        have HK := hide (sg_is (unhide hf) hp0 (by omega))
        have hfi := find_ok a cap f (X % 256) (sg f (X % 256)) wr ((hrf.below hb1).below hB) hf hp0 hp9 HK
        rw [unhide HM] at hfi
        obtain ⟨g1, g9⟩ := got_in (unhide hf) (x := X) (by omega) x9
        have HG : Hid (got f X = X / 256 * at0 f (sg f (X % 256)) + X % 256 - pfx f (sg f (X % 256))) := hide rfl
        have HD2 : Hid (dec f (n - j) X r = match fill r (got f X) with | none => none | some z => (dec f (n - (j + 1)) z.1 z.2).map fun q => ((sg f (X % 256) : Int) :: q.1, q.2)) := hide (by
          rw [show n - j = (n - (j + 1)) + 1 by omega, dec]
          rfl)
        obtain ⟨S, hS⟩ : ∃ S, sg f (X % 256) = S := ⟨_, rfl⟩
        rw [hS] at hfi HK HG HD2
        obtain ⟨k1', k2', k3'⟩ := unhide HK
        obtain ⟨s1, s2, s3, s4⟩ := share_in (unhide hf) k1' (by omega)
        have hSM : S < M := by rw [← unhide HM]; exact k1'
        have HCF : Hid (∀ W, Below w1.heap.size w1 W → ∃ b off, a = some ⟨b, off, none⟩ ∧ W.cell? ⟨b, off + S, none⟩ = some (.int .i64 (at0 f S))) := hide (fun W hW => by
          obtain ⟨bb, off, e, _, hc⟩ := cell_at ((hrf.below hb1).below hW) (by omega)
          exact ⟨bb, off, e, hc S k1'⟩)
        have HCS : Hid (∀ W, Below w1.heap.size w1 W → W.cell? ⟨g, S, none⟩ = some (.int .i64 (pfx f S))) := hide (fun W hW => by
          have h1 := (k1.below hW).get (j := S) (by rw [upto_length]; exact hSM)
          rw [upto_at _ hSM] at h1
          exact h1)
        obtain ⟨F, hF⟩ : ∃ F, at0 f S = F := ⟨_, rfl⟩
        rw [hF] at HCF s1 s2 s4 HG
        obtain ⟨P, hP⟩ : ∃ P, pfx f S = P := ⟨_, rfl⟩
        rw [hP] at HCS s3 s4 HG
        obtain ⟨Q, hQ⟩ : ∃ Q, X / 256 = Q := ⟨_, rfl⟩
        obtain ⟨m, hmm⟩ : ∃ m, X % 256 = m := ⟨_, rfl⟩
        have t1 : Int.tdiv X 256 = Q := by rw [Int.tdiv_eq_ediv_of_nonneg (by omega)]; exact hQ
        have t2 : Int.tmod X 256 = m := by rw [Int.tmod_eq_emod_of_nonneg (by omega)]; exact hmm
        rw [hQ, hmm] at HG
        rw [hmm] at hfi hp0 hp9
        obtain ⟨G, hG⟩ : ∃ G, got f X = G := ⟨_, rfl⟩
        rw [hG] at HG HD2 g1 g9
        have q0 : 0 ≤ Q := by omega
        have q9 : Q ≤ 65535 := by omega
        obtain ⟨V, hV⟩ : ∃ V, Q * F = V := ⟨_, rfl⟩
        have v0 : 0 ≤ V := by rw [← hV]; exact Int.mul_nonneg q0 (by omega)
        have v9 : V ≤ 16777216 := by
          have : Q * F ≤ Q * 256 := Int.mul_le_mul_of_nonneg_left s2 q0
          omega
        have m1 : IntKind.i64.wrap (Q * F) = V := by rw [hV]; exact IntWalk.i64_in _ (by omega)
        rw [hV] at HG
        have m2 : IntKind.i64.wrap (V + m) = V + m := IntWalk.i64_in _ (by omega)
        have m3 : IntKind.i64.wrap (V + m - P) = G := by rw [← unhide HG]; exact IntWalk.i64_in _ (by omega)
        have hln : Hid (O.length + 1 ≤ 1000000) := hide (by rw [unhide HO]; omega)
        have hWs := hB.size
        clear hF hP hQ hmm hV hS hG HK k1' k2' k3' HG
        go_wp2_with fail
        refine hfi.mono ?_
        clear hfi
        rintro e w5 ⟨rfl, hb5⟩
        have hv5 := hv.below hb5
        have hB5 := hB.trans (hb5.mono hB.size)
        have hWs5 := hB5.size
        clear hv hB hb5 hWs
        go_wp2_with (at_builtin; refine wpList_app _ rfl _ _ rfl w1.heap.size u11 O _ _ _ rfl (hv5.alloc _) rfl (row_one _ _ _) (unhide hln) (by simp; omega) ?_; intro s' w6 k6 g6 at6)
        obtain ⟨d1, d2⟩ := stepped_plain hv5 hWs5 k6 g6 at6
        have hB6 := hB5.trans d1
        obtain ⟨bb, off, rfl, c1⟩ := unhide HCF _ hB6
        have c2 := unhide HCS _ hB6
        obtain ⟨p6, n6, q6, rfl⟩ := k6.shape
        clear hv5 hB5 d1 d2 g6 at6 HCF HCS hln
        cases hfl : fill r G with
        | none =>
          have hno : Hid (∀ l, ¬ IsRow f bs n l) := hide (fun l h => by
            have h2 := ((unhide HRI l).1 h).1
            rw [unhide HD, unhide HD2, hfl] at h2
            simp at h2)
          have HFN : Hid (∀ x, Calls Try.prog 32 #[.int .i64 G, .string (str r)] (w6.drewN x) fun e w' => e = .returned (.tuple #[.int .i64 0, .string { data := #[] }, .iface 52 (.int .i64 2)]) ∧ ∃ n, w' = w6.drewN n) := hide (fun x => (fill_no G r (w6.drewN x) g1 g9 HB (hide hfl)).mono fun e w' ⟨h1, h2⟩ => ⟨h1, x, h2⟩)
          clear hfl HD HD2
          go_wp2
          go_quiet ((go_at_call 32; exact unhide HFN _))
          go_wp2
          go_ret2
          exact unhide HP0 _ _ rfl (unhide hno) (Below.chain hb1 (hB6.trans ((below_dr _ _).mono hB6.size)))
        | some z =>
          obtain ⟨Y, r2⟩ := z
          obtain ⟨hY, hr2⟩ := fill_in (unhide HB) g1 g9 hfl
          have HY := hide hY
          have HB2 : Hid (Byts r2) := hide hr2
          have HD3 : Hid (dec f n X0 r0 = (dec f (n - (j + 1)) Y r2).map fun z => ((O ++ [(S : Int)]) ++ z.1, z.2)) := hide (by
            rw [unhide HD, unhide HD2, hfl]
            simp only
            cases dec f (n - (j + 1)) Y r2 with
            | none => rfl
            | some z => simp)
          have HO2 : Hid ((O ++ [(S : Int)]).length = j + 1) := hide (by simp [unhide HO])
          have HFN : Hid (∀ x, Calls Try.prog 32 #[.int .i64 G, .string (str r)] (w6.drewN x) fun e w' => e = .returned (.tuple #[.int .i64 Y, .string (str r2), .nilIface]) ∧ ∃ n, w' = w6.drewN n) := hide (fun x => (fill_ok G r Y r2 (w6.drewN x) g1 g9 HB (hide hfl)).mono fun e w' ⟨h1, h2⟩ => ⟨h1, x, h2⟩)
          clear hfl HD HD2 HO hY hr2
          go_wp2
          go_quiet ((go_at_call 32; exact unhide HFN _))
          have k7 : Has (w6.drewN nq) w1.heap.size (.slice p6 n6 q6) (O ++ [(S : Int)]) := k6
          have hB7 : Below w1.heap.size w1 (w6.drewN nq) := hB6.trans ((below_dr _ _).mono hB6.size)
          go_wp2
          go_roundw
          case rel => exact ⟨j + 1, Y, r2, O ++ [(S : Int)], by omega, rfl, rfl, by go_num, k7, HD3, HY, HB2, HO2, hB7⟩
          case measure => simp [intOf]; omega
      · obtain rfl : j = n := by omega
        have HD2 : Hid (dec f j X0 r0 = some (O, X, r)) := hide (by rw [unhide HD, Nat.sub_self, dec]; simp)
        have hBw := Below.chain hb1 hB
        clear HD
        by_cases hx : X = 65536
        · have hx' : (X != 65536) = false := by rw [hx]; rfl
          have hn1 := str_none r
          by_cases ht : r.length = 0
          · rw [decide_eq_true ht] at hn1
            have HR : Hid (IsRow f bs j O) := hide ((unhide HRI O).2 ⟨by rw [unhide HD2, hx, List.length_eq_zero_iff.1 ht], (unhide HX1).1⟩)
            have hn2 : ((str r).toList != []) = false := by rw [bne, hn1]; rfl
            obtain ⟨pv, qv, rfl, -⟩ := hv.row
            have hv' := hv.mono hsz1
            clear HD2 hx ht
            go_wp2
            go_ret2
            exact unhide HP1 _ _ _ _ rfl (unhide HR) hv' hBw
          · rw [decide_eq_false ht] at hn1
            have hn2 : ((str r).toList != []) = true := by rw [bne, hn1]; rfl
            have hno : Hid (∀ l, ¬ IsRow f bs j l) := hide (fun l h => by
              have h2 := ((unhide HRI l).1 h).1
              rw [unhide HD2] at h2
              have h3 := (Prod.mk.inj (Prod.mk.inj (Option.some.inj h2)).2).2
              exact ht (by rw [h3]; rfl))
            obtain ⟨pv, qv, rfl, -⟩ := hv.row
            clear HD2 hx ht
            go_wp2
            go_ret2
            exact unhide HP0 _ _ rfl (unhide hno) hBw
        · have hx' : (X != 65536) = true := by rw [bne_iff_ne]; exact hx
          have hno : Hid (∀ l, ¬ IsRow f bs j l) := hide (fun l h => by
            have h2 := ((unhide HRI l).1 h).1
            rw [unhide HD2] at h2
            exact hx (Prod.mk.inj (Prod.mk.inj (Option.some.inj h2)).2).1)
          obtain ⟨pv, qv, rfl, -⟩ := hv.row
          clear HD2 hx
          go_wp2
          go_ret2
          exact unhide HP0 _ _ rfl (unhide hno) hBw

theorem decode_at (a : Option Addr) (cap : Nat) (f : List Int) (s : ByteArray) (n : Nat) (w : World) (hrf : Row w a f) (hm : f.length ≤ cap) (hm9 : cap ≤ 9223372036854775807) (hf : Hid (right f)) (hs9 : s.size ≤ 9223372036854775807) (hn : n ≤ 60) :
    Calls Try.prog 10 #[.slice a f.length cap, .string s, .int .i64 n] w fun e w' => Tld f (byt s) n w e w' := by
  have hl := byt_length s
  have hb := byt_byts s
  have e := str_byt s
  generalize byt s = bs at hl hb e ⊢
  subst e
  by_cases h3 : bs.length < 3
  · exact decode_short a cap f bs n w hrf hf (hide hb) hn h3
  · exact decode_long a cap f bs n w hrf hf (hide hb) (by omega) hn (by omega)

end Go.Proofs.Ythkibjhhlcfceai.Hrn

/-
  Slices of integers of this call's own, in a slice of slices of its own: one more is appended.
-/
namespace Go.Proofs.Ythkibjhhlcfceai
open Go.RowKit
open Go.Proofs.Ythkibjhhlcfceai.Tre
set_option linter.unusedVariables false

/-- A slice of integers and a slice of slices do not lie in one block. -/
theorem kinds_apart {w : World} {b1 b2 : Nat} {u v : Value} {l : List Int} {vs : List Value} (hu : Has w b1 u l) (hv : HasS w b2 v vs) : u.ownBlock = none ∨ u.ownBlock ≠ v.ownBlock := by
  rcases hu.2 with ⟨rfl, _⟩ | ⟨g, cap, cur, rfl, _, hgb, _⟩
  · exact Or.inl rfl
  · rcases hv.2 with ⟨rfl, _⟩ | ⟨g', cap', cur', rfl, _, hgb', _⟩
    · exact Or.inr (by simp [Value.ownBlock])
    · refine Or.inr fun e => ?_
      obtain rfl : g = g' := by simpa [Value.ownBlock] using e
      have := hgb.symm.trans hgb'
      simp at this

/-- Each is of these integers. -/
def Els (w : World) (base : Nat) (vs : List Value) (ll : List (List Int)) : Prop := vs.length = ll.length ∧ ∀ r, r < ll.length → ∃ V, vs[r]? = some V ∧ Has w base V (rowAt ll r)
theorem Els.nil (w : World) (base : Nat) : Els w base [] [] := ⟨rfl, fun r hr => by simp at hr⟩
theorem Els.below {w w' : World} {base : Nat} {vs : List Value} {ll : List (List Int)} (h : Els w base vs ll) (hb : Below w.heap.size w w') : Els w' base vs ll :=
  ⟨h.1, fun r hr => by
    obtain ⟨V, h1, h2⟩ := h.2 r hr
    exact ⟨V, h1, h2.below hb⟩⟩
theorem Els.appended {W w1 : World} {base : Nat} {v u : Value} {vs : List Value} {ll : List (List Int)} {l : List Int} {tmp : Obj} (h : Els W base vs ll) (hv : HasS W base v vs) (hu : Has W base u l) (hg : (W.alloc tmp).grownBy w1 v.ownBlock) : Els w1 base (vs ++ [u]) (ll ++ [l]) := by
  refine ⟨by rw [List.length_append, List.length_append, h.1]; rfl, fun r hr => ?_⟩
  by_cases e : r < ll.length
  · obtain ⟨V, h1, h2⟩ := h.2 r e
    refine ⟨V, by rw [List.getElem?_append_left (by rw [h.1]; exact e)]; exact h1, ?_⟩
    have e2 : rowAt (ll ++ [l]) r = rowAt ll r := by
      unfold rowAt
      rw [List.getD_eq_getElem?_getD, List.getD_eq_getElem?_getD, List.getElem?_append_left e]
    rw [e2]
    exact (h2.alloc tmp).kept hg (kinds_apart h2 hv)
  · have e2 : r = ll.length := by rw [List.length_append] at hr; simp at hr; omega
    subst e2
    refine ⟨u, by rw [← h.1, List.getElem?_concat_length], ?_⟩
    have e3 : rowAt (ll ++ [l]) ll.length = l := by simp [rowAt]
    rw [e3]
    exact (hu.alloc tmp).kept hg (kinds_apart hu hv)
theorem Els.rws {w : World} {base : Nat} {v : Value} {vs : List Value} {ll : List (List Int)} (h : Els w base vs ll) (hv : HasS w base v vs) : ∃ a cap, v = .slice a ll.length cap ∧ Rws w a ll :=
  hv.rws h.1.symm fun r hr => by
    obtain ⟨V, h1, h2⟩ := h.2 r hr
    exact ⟨V, h1, h2.sli⟩
theorem flat_next {ll : List (List Int)} {j : Nat} (h : j < ll.length) : (ll.take (j + 1)).flatten = (ll.take j).flatten ++ rowAt ll j := by
  rw [List.take_succ_eq_append_getElem h, List.flatten_append, rowAt_get h]
  simp
theorem flat_most {ll : List (List Int)} {m : Nat} (h : ∀ l ∈ ll, l.length ≤ m) : ll.flatten.length ≤ m * ll.length := by
  induction ll with
  | nil => simp
  | cons l ll ih =>
    have h1 := h l (by simp)
    have h2 := ih (fun x hx => h x (by simp [hx]))
    rw [List.flatten_cons, List.length_append, List.length_cons, Nat.mul_add]
    omega

end Go.Proofs.Ythkibjhhlcfceai
