/-
  tank.Turn: by its contract.
-/
import Derived.Test.YthkibjhhlcfceaiCh40
import Derived.Test.YthkibjhhlcfceaiCh19
import Derived.Test.YthkibjhhlcfceaiCh37
import Derived.Deep.Strs
import Derived.ChangeSame
namespace Go.Proofs.Ythkibjhhlcfceai.Tnk
open Go.RowKit
open Go.Proofs.Ythkibjhhlcfceai.Tre Go.Proofs.Ythkibjhhlcfceai.Ev
set_option linter.unusedVariables false

/-- What Turn answers. -/
def TurnSays (S E H b : Int) (w : World) (e : Ending) (w' : World) : Prop :=
  e = .returned (.tuple #[.agg #[.int .i64 (tS S E H b), .int .i64 (tE S E H b), .int .i64 (tH S E H b)], errV (turnF S E H b)]) ∧ Below w.heap.size w w'

set_option maxRecDepth 100000 in
set_option maxHeartbeats 4000000 in
theorem turn_says (S E H b : Int) (w : World) :
    Calls Try.prog 17 #[.agg #[.int .i64 S, .int .i64 E, .int .i64 H], .int .i64 b] w fun e w' => TurnSays S E H b w e w' := by
  have HP : Hid (∀ F, F ≠ 0 → turnF S E H b = F → ∀ w', Below w.heap.size w w' → TurnSays S E H b w (.returned (.tuple #[.agg #[.int .i64 0, .int .i64 0, .int .i64 0], .iface 52 (.int .i64 F)])) w') := hide (fun F hF h w' hb => by
    obtain ⟨e1, e2, e3⟩ := turn_no (S := S) (E := E) (H := H) (b := b) (by rw [h]; exact hF)
    exact ⟨by rw [e1, e2, e3, h, errV_ne hF], hb⟩)
  have CM := hide (fun W => mayG S E H W)
  have CO := hide (fun W => outside b 1000000 W)
  obtain ⟨W0, hW0⟩ : ∃ W0, ((w.alloc (.cells #[.int .i64 S, .int .i64 E, .int .i64 H] 42)).alloc (.cells #[.int .i64 0, .int .i64 0, .int .i64 0] 42)) = W0 := ⟨_, rfl⟩
  have hb0 : Below w.heap.size w W0 := by rw [← hW0]; exact ((Below.refl _ _).alloc (Nat.le_refl _) _).alloc (by simp) _
  have t0 : Tk W0 w.heap.size S E H := by rw [← hW0]; exact (Tk.new w S E H).alloc _
  have r0 : Tk W0 (w.heap.size + 1) 0 0 0 := by rw [← hW0]; simpa using Tk.new (w.alloc (.cells #[.int .i64 S, .int .i64 E, .int .i64 H] 42)) 0 0 0
  have a0 := t0.c0
  have a1 := t0.c1
  have a2 := t0.c2
  by_cases hk : Ok S E H
  · have e0 : tankF S E H = 0 := tankF_zero.2 hk
    have e1 : mayN S E H = may S E H := by unfold mayN; rw [if_pos e0]
    rw [e0, errV_zero, e1] at CM
    have hm := may_in hk
    have hk9 := hk.2.1
    have HF1 : Hid (outs b 1000000 = true → turnF S E H b = 1) := hide (fun h => by unfold turnF; rw [if_pos hk, if_pos (outs_yes.1 h)])
    have HF8 : Hid (outs b 1000000 = false → may S E H < b → turnF S E H b = 8) := hide (fun h h2 => by have := outs_no.1 h; unfold turnF; rw [if_pos hk, if_neg (by omega), if_pos h2])
    have HF0 : Hid (outs b 1000000 = false → ¬ may S E H < b → ∀ w', Below w.heap.size w w' → TurnSays S E H b w (.returned (.tuple #[.agg #[.int .i64 S, .int .i64 E, .int .i64 (may S E H - b)], .nilIface])) w') := hide (fun h h2 w' hb => by
      have h3 := outs_no.1 h
      have h0 : turnF S E H b = 0 := by unfold turnF; rw [if_pos hk, if_neg (by omega), if_neg h2]
      obtain ⟨e1, e2, e3⟩ := turn_is h0
      exact ⟨by rw [e1, e2, e3, h0, errV_zero], hb⟩)
    have HB : Hid (outs b 1000000 = false → 0 ≤ b ∧ b ≤ 1000000) := hide (fun h => outs_no.1 h)
    obtain ⟨M, hM⟩ : ∃ M, may S E H = M := ⟨_, rfl⟩
    rw [hM] at CM HF8 HF0 hm
    clear hk hM e0 e1
    go_enter Try.func17, Try.ntmps17
    go_wp2_with fail
    refine (unhide CM _).mono ?_
    rintro e w1 ⟨rfl, hb1⟩
    have t1 := t0.below hb1 t0.lt
    have r1 := r0.below hb1 r0.lt
    have hB1 := Below.chain hb0 hb1
    clear a0 a1 a2
    have a0 := t1.c0
    have a1 := t1.c1
    have a2 := t1.c2
    have q0 := r1.c0
    have q1 := r1.c1
    have q2 := r1.c2
    have f0 := r1.fz 0
    have f1 := r1.fz 1
    have f2 := r1.fz 2
    have g2 := t1.fz 2
    clear t0 r0 hb0 hb1 CM hW0
    go_wp2_with fail
    refine (unhide CO _).mono ?_
    rintro e w2 ⟨rfl, rfl⟩
    cases hO : outs b 1000000
    · have HF8' := hide (unhide HF8 hO)
      have HF0' := hide (unhide HF0 hO)
      have hbb := unhide HB hO
      clear HF1 HF8 HF0 HB hO CO
      by_cases h3 : M < b
      · have d3 : decide (M < b) = true := by simpa using h3
        have HF := hide (unhide HF8' h3)
        clear HF8' HF0'
        go_wp2
        refine bodyPost_ret (results_tank rfl _ _ _ _ _ _ rfl (r1.put 0 0 0)) rfl ?_
        exact unhide HP 8 (by omega) (unhide HF) _ (below_put hB1 (by omega) _ _ _)
      · have d3 : decide (M < b) = false := by simpa using h3
        have HF := hide (unhide HF0' (by omega))
        obtain ⟨X, hX⟩ : ∃ X, M - b = X := ⟨_, rfl⟩
        have wx : IntKind.i64.wrap (M - b) = X := by rw [hX]; exact IntWalk.i64_in _ (by omega)
        rw [hX] at HF
        have t3 := t1.has X
        have r3 := r1.other (B' := w.heap.size) (j := 2) (by omega) (.int .i64 X)
        have b0 := t3.c0
        have b1 := t3.c1
        have b2 := t3.c2
        have m0 := r3.c0
        have m1 := r3.c1
        have m2 := r3.c2
        have n0 := r3.fz 0
        have n1 := r3.fz 1
        have n2 := r3.fz 2
        have hB3 := hB1.setCell (p := ⟨w.heap.size, 2, none⟩) (Nat.le_refl _) (.int .i64 X)
        have HR := hide (r3.put S E X)
        have HB := hide (below_put hB3 (B := w.heap.size + 1) (by omega) (.int .i64 S) (.int .i64 E) (.int .i64 X))
        clear HF8' HF0' h3 hX hm hk9 hbb t1 r1 t3 r3 hB1 hB3
        go_wp2
        refine bodyPost_ret (results_tank rfl _ _ _ _ _ _ rfl (unhide HR)) rfl ?_
        exact unhide HF _ (unhide HB)
    · have HF := hide (unhide HF1 hO)
      clear HF1 HF8 HF0 HB hO CO
      go_wp2
      refine bodyPost_ret (results_tank rfl _ _ _ _ _ _ rfl (r1.put 0 0 0)) rfl ?_
      exact unhide HP 1 (by omega) (unhide HF) _ (below_put hB1 (by omega) _ _ _)
  · have e0 : tankF S E H = 1 := by unfold tankF; rw [if_neg hk]
    have e1 : mayN S E H = 0 := by unfold mayN; rw [if_neg (by omega)]
    rw [e0, errV_ne (by omega), e1] at CM
    have HF : Hid (turnF S E H b = 1) := hide (by unfold turnF; rw [if_neg hk])
    clear hk e0 e1
    go_enter Try.func17, Try.ntmps17
    go_wp2_with fail
    refine (unhide CM _).mono ?_
    rintro e w1 ⟨rfl, hb1⟩
    have r1 := r0.below hb1 r0.lt
    have hB1 := Below.chain hb0 hb1
    clear a0 a1 a2
    have q0 := r1.c0
    have q1 := r1.c1
    have q2 := r1.c2
    have f0 := r1.fz 0
    have f1 := r1.fz 1
    have f2 := r1.fz 2
    clear t0 r0 hb0 hb1 CM hW0
    go_wp2
    refine bodyPost_ret (results_tank rfl _ _ _ _ _ _ rfl (r1.put 0 0 0)) rfl ?_
    exact unhide HP 1 (by omega) (unhide HF) _ (below_put hB1 (by omega) _ _ _)

theorem turn (S E H b : Int) (w : World) :
    Calls Try.prog 17 #[.agg #[.int .i64 S, .int .i64 E, .int .i64 H], .int .i64 b] w fun e w' => e = .returned (.tuple #[.agg #[.int .i64 (tS S E H b), .int .i64 (tE S E H b), .int .i64 (tH S E H b)], errV (turnF S E H b)]) ∧ Below w.heap.size w w' := turn_says S E H b w

end Go.Proofs.Ythkibjhhlcfceai.Tnk

/-
  share.Cost: by its contract.
-/
namespace Go.Proofs.Ythkibjhhlcfceai.Shr
open Go.RowKit
open Go.Proofs.Ythkibjhhlcfceai.Tre Go.Proofs.Ythkibjhhlcfceai.Cnt Go.Proofs.Ythkibjhhlcfceai.Bnd
set_option linter.unusedVariables false

theorem cost_no (a : Option Addr) (cap : Nat) (s : List Int) (b : Option Addr) (capb : Nat) (p : List Int) (E : Int) (w : World) (hr : Row w a s) (hp : Row w b p) (zs : s.length ≤ 17592186044416) (zp : p.length ≤ 17592186044416) (hE : Hid (costF s p = E)) (hne : Hid (E ≠ 0)) :
    Calls Try.prog 15 #[.slice a s.length cap, .slice b p.length capb] w fun e w' => e = .returned (.tuple #[.int .i64 0, .iface 52 (.int .i64 E)]) ∧ Below w.heap.size w w' := by
  have hk := check a cap s b capb p 8 w (by omega) (by omega) hr hp
  rw [← costF_chk, unhide hE, Ev.errV_ne (unhide hne)] at hk
  obtain ⟨N, hN⟩ : ∃ N, s.length = N := ⟨_, rfl⟩
  obtain ⟨M, hM⟩ : ∃ M, p.length = M := ⟨_, rfl⟩
  rw [hN, hM] at hk ⊢
  clear hN hM zs zp hr hp
  go_enter Try.func15, Try.ntmps15
  go_wp2_with fail
  refine hk.mono ?_
  clear hk
  rintro e w1 ⟨rfl, hb1⟩
  go_wp2
  go_ret2
  exact ⟨rfl, hb1⟩

set_option maxRecDepth 100000 in
set_option maxHeartbeats 4000000 in
theorem cost_ok (a : Option Addr) (cap : Nat) (s : List Int) (b : Option Addr) (capb : Nat) (p : List Int) (w : World) (hr : Row w a s) (hp : Row w b p) (hE : Hid (costF s p = 0)) :
    Calls Try.prog 15 #[.slice a s.length cap, .slice b p.length capb] w fun e w' => e = .returned (.tuple #[.int .i64 (cost s p), .nilIface]) ∧ Below w.heap.size w w' := by
  obtain ⟨h1, h2, h3⟩ := costF_zero.1 (unhide hE)
  obtain ⟨h0, h8, hs, _⟩ := bf_ok h1
  have hk := check a cap s b capb p 8 w (by omega) (by omega) hr hp
  rw [← costF_chk, unhide hE, Ev.errV_zero] at hk
  have HL := hide h2
  have hpl := hide h3
  have HSZ := hide hs
  have HLE : Hid (∀ j, j ≤ s.length → cs s p j ≤ 15 * j) := hide (fun j hj => cs_le (unhide HSZ) h3 h2 hj)
  have HC : Hid (cost s p = cs s p s.length) := hide rfl
  obtain ⟨C, hC⟩ : ∃ C, cost s p = C := ⟨_, rfl⟩
  rw [hC] at HC ⊢
  rw [h2] at hk ⊢
  obtain ⟨N, hN⟩ : ∃ N, s.length = N := ⟨_, rfl⟩
  have HN := hide hN
  rw [hN] at h8 HC HLE hk ⊢
  clear hN hC h1 h2 h3 hs hE h0
  go_enter Try.func15, Try.ntmps15
  go_wp2_with fail
  refine hk.mono ?_
  clear hk
  rintro e w1 ⟨rfl, hb1⟩
  go_wp2
  go_loopw [7, 20] (fun n i wr => ∃ j U : Nat, j ≤ N ∧ i = .int .i64 j ∧ n = .int .i64 U ∧ Hid (U = cs s p j) ∧ Below w.heap.size w wr) (fun _ i _ => N - (intOf i).toNat)
  case atStart => exact ⟨0, 0, Nat.zero_le _, rfl, rfl, rfl, hb1⟩
  case round =>
    clear hb1
    obtain ⟨j, U, hj, rfl, rfl, HU, hB⟩ := hrel
    by_cases hlt : j < N
    · have hj1 : j < s.length := by rw [unhide HN]; exact hlt
      have hj2 : j < p.length := by rw [unhide HL, unhide HN]; exact hlt
      obtain ⟨b1, off1, rfl, _, hc1⟩ := cell_shr' (hr.below hB) (by omega)
      obtain ⟨b2, off2, rfl, _, hc2⟩ := cell_shr' (hp.below hB) (by omega)
      have c1 := hc1 j hj1
      have c2 := hc2 j hj2
      have g1 := unhide HSZ j hj1
      have g2 := unhide hpl j hj2
      have HST : Hid (cs s p (j + 1) = U + Bt (at0 p j).toNat (at0 s j).toNat) := hide (by rw [cs, unhide HU])
      have hle := unhide HLE (j + 1) (by omega)
      rw [unhide HST] at hle
      obtain ⟨X, hX⟩ : ∃ X : Nat, at0 s j = X := ⟨(at0 s j).toNat, by omega⟩
      obtain ⟨Y, hY⟩ : ∃ Y : Nat, at0 p j = Y := ⟨(at0 p j).toNat, by omega⟩
      rw [hX] at c1 g1
      rw [hY] at c2 g2
      have eX : (at0 s j).toNat = X := by omega
      have eY : (at0 p j).toNat = Y := by omega
      rw [eX, eY] at HST hle
      have hbt := hide (fun W => bits_is X Y (by omega) (by omega) W)
      obtain ⟨T, hT⟩ : ∃ T, Bt Y X = T := ⟨_, rfl⟩
      rw [hT] at HST hle hbt
      have hUT : U + T ≤ 1000 := by omega
      clear hc1 hc2 hj1 hj2 hX hY eX eY hT hle g1 g2
      go_wp2_with fail
      refine (unhide hbt wr).mono ?_
      rintro e w2 ⟨rfl, hb2⟩
      go_wp2
      go_roundw
      case rel => exact ⟨j + 1, U + T, by omega, by go_num, by go_num, hide (unhide HST).symm, Below.chain hB hb2⟩
      case measure => simp [intOf]; omega
    · obtain rfl : j = N := by omega
      go_wp2
      go_ret2
      exact ⟨by rw [unhide HC, unhide HU]; rfl, hB⟩

end Go.Proofs.Ythkibjhhlcfceai.Shr

/-
  From what the statement hands over to what the walks take: a tank.
-/
namespace Go.Proofs.Ythkibjhhlcfceai
open Go.ChangeShapes Go.WideShapes Go.ChangeAt Go.RowKit
set_option linter.unusedVariables false

theorem cells_tank : Try.prog.cellsOf 42 = 3 := by kernel_rfl

set_option maxRecDepth 100000 in
theorem open_tank {H : Type} {enc : TypeId × Value → H} {W : World} {base : Nat} {v : Value} {d : DataW H} {p : List MemPlace}
    (hv : Value.okWide Try.prog W .any base 42 v) (h : DataW.Trod enc Try.prog W 0 (fun _ => true) true 42 v d p) :
    ∃ x y z : Int, v = .agg #[.int .i64 x, .int .i64 y, .int .i64 z] ∧ d = .agg [.lit (.int .i64 x), .lit (.int .i64 y), .lit (.int .i64 z)] ∧ p = [] ∧ (Lit.int .i64 x).wf = true ∧ (Lit.int .i64 y).wf = true ∧ (Lit.int .i64 z).wf = true := by
  obtain ⟨cs, rfl, hs⟩ := okWide_struct Try.underlying42 hv
  rw [cells_tank] at hs
  obtain ⟨fuel, hf⟩ := h
  obtain ⟨y0, y1, y2, n, hx, hl, h0, h1, h2⟩ := Go.Deep.trod_struct3 Try.underlying42 hf
  obtain ⟨l⟩ := cs
  match l, hs with
  | [c0, c1, c2], _ =>
    simp [Value.cells, cells_int] at h0 h1 h2
    obtain ⟨n0, e0, x0, w0⟩ := DataW.trod_int Try.underlying3 h0
    obtain ⟨n1, e1, x1, w1⟩ := DataW.trod_int Try.underlying3 h1
    obtain ⟨n2, e2, x2, w2⟩ := DataW.trod_int Try.underlying3 h2
    simp at e0 e1 e2
    subst e0 e1 e2 x0 x1 x2
    simp only [Prod.mk.injEq] at hx
    exact ⟨n0, n1, n2, rfl, hx.1, by rw [hx.2]; rfl, w0, w1, w2⟩

set_option maxRecDepth 100000 in
theorem shut_tank {H : Type} {enc : TypeId × Value → H} {W : World} {base : Nat} {spare : Nat → Bool} {held : Bool} {x y z : Int} (hx : (Lit.int .i64 x).wf = true) (hy : (Lit.int .i64 y).wf = true) (hz : (Lit.int .i64 z).wf = true) :
    DataW.Trod enc Try.prog W base spare held 42 (.agg #[.int .i64 x, .int .i64 y, .int .i64 z]) (.agg [.lit (.int .i64 x), .lit (.int .i64 y), .lit (.int .i64 z)]) [] := by
  refine ⟨2, ?_⟩
  have h := Go.Deep.trod_struct3_mk (enc := enc) (P := Try.prog) (w := W) (base := base) (spare := spare) (held := held) (n := 1) (cs := [.int .i64 x, .int .i64 y, .int .i64 z]) (y0 := (.lit (.int .i64 x), [])) (y1 := (.lit (.int .i64 y), [])) (y2 := (.lit (.int .i64 z), [])) Try.underlying42 (by rw [cells_tank]; rfl)
    (by simpa [cells_int] using trod_int_mk 0 Try.underlying3 hx) (by simpa [cells_int] using trod_int_mk 0 Try.underlying3 hy) (by simpa [cells_int] using trod_int_mk 0 Try.underlying3 hz)
  simpa [Value.cells] using h

end Go.Proofs.Ythkibjhhlcfceai
