/-
  the functions that share.next makes: by their contracts.
-/
import Derived.Test.YtjojeifoddonnakGreatLc29
import Derived.RangeFuncBox
import Derived.Deep.QuietTactic
import Derived.BigQuiet
import Derived.Deep.CutBlock
namespace Go.Proofs.YtjojeifoddonnakGreat.Shr
open Go.RowKit
open Go.Proofs.YtjojeifoddonnakGreat.Tre Go.Proofs.YtjojeifoddonnakGreat.Cnt Go.Proofs.YtjojeifoddonnakGreat.Bnd
set_option linter.unusedVariables false

theorem boxed_below {W W' : World} {n B : Nat} {t : TypeId} {v : Value} (h : Boxed W B t v) (hb : Below n W W') (hn : B < n) : Boxed W' B t v := (hb.block B hn).trans h
/-- A list of numbers in a box. -/
def BoxR (W : World) (B : Nat) (l : List Int) : Prop := ∃ g off c, Boxed W B 23 (.slice (some ⟨g, off, none⟩) l.length c) ∧ g < W.heap.size ∧ ∀ i, i < l.length → W.cell? ⟨g, off + i, none⟩ = some (.int .i64 (at0 l i))
theorem BoxR.below {W w : World} {B : Nat} {l : List Int} (h : BoxR W B l) (hb : Below W.heap.size W w) : BoxR w B l := by
  obtain ⟨g, off, c, h1, h3, h4⟩ := h
  exact ⟨g, off, c, boxed_below h1 hb h1.lt, Nat.lt_of_lt_of_le h3 hb.size, fun i hi => (hb.cell (p := ⟨g, off + i, none⟩) h3).trans (h4 i hi)⟩
theorem BoxR.drew {W : World} {B : Nat} {l : List Int} (h : BoxR W B l) (n : Nat) : BoxR (W.drewN n) B l := h
theorem boxR_new {w : World} {a : Option Addr} {c : Nat} {l : List Int} (h0 : 0 < l.length) (hr : Row w a l) : BoxR (w.alloc (.cells #[.slice a l.length c] 23)) w.heap.size l := by
  have hb1 := below_box w (.slice a l.length c) 23
  obtain ⟨b, off, rfl, hb, hc⟩ := cell_shr' (hr.below hb1) h0
  exact ⟨b, off, c, Boxed.new _ _ _, hb, hc⟩

set_option maxHeartbeats 2000000 in
theorem square (i B : Nat) (o : List Int) (w : World) (hi : i < o.length) (h8 : o.length ≤ 8) (hp : Pls o) (hbx : BoxR w B o) :
    Calls Tryz.prog 106 #[.int .i64 i, .pointer (some ⟨B, 0, none⟩)] w fun e w' => e = .returned (.int .i64 ((at0 o i + 1) * (at0 o i + 1))) ∧ ∃ q, w' = w.drewN q := by
  obtain ⟨g, off, c, h1, h3, h4⟩ := hbx
  have c0 := h1.cell
  have c1 := h4 i hi
  have hq := hp i hi
  obtain ⟨P, hP⟩ : ∃ P, at0 o i = P := ⟨_, rfl⟩
  obtain ⟨N, hN⟩ : ∃ N, o.length = N := ⟨_, rfl⟩
  rw [hP] at c1 hq ⊢
  rw [hN] at c0 hi h8
  obtain ⟨A, hA⟩ : ∃ A, P + 1 = A := ⟨_, rfl⟩
  have wA : IntKind.i64.wrap (P + 1) = A := by rw [← hA]; exact IntWalk.i64_in _ (by omega)
  have hA9 : 1 ≤ A ∧ A ≤ 9 := by omega
  rw [hA]
  obtain ⟨Q, hQ⟩ : ∃ Q, A * A = Q := ⟨_, rfl⟩
  have hQ1 : 0 ≤ Q ∧ Q ≤ 81 := by
    rw [← hQ]
    exact ⟨Int.mul_nonneg (by omega) (by omega), by have := Int.mul_le_mul (a := A) (b := A) (c := 9) (d := 9) (by omega) (by omega) (by omega) (by omega); omega⟩
  have wQ : IntKind.i64.wrap (A * A) = Q := by rw [hQ]; exact IntWalk.i64_in _ (by omega)
  rw [hQ]
  clear h1 h3 h4 hP hN hA hQ hp hq hA9 hQ1
  go_enter Tryz.func106, Tryz.ntmps106
  go_wp2
  go_quiet (fail)
  go_wp2
  go_ret
  exact ⟨rfl, _, rfl⟩

/-- The function of a square, in its box. -/
def Sq (W : World) (B Bp : Nat) : Prop := Boxed W B 64 (.func (.func 106) #[] #[.pointer (some ⟨Bp, 0, none⟩)])

set_option maxHeartbeats 4000000 in
theorem louder (i b Bd Bs Bp : Nat) (d o : List Int) (w : World) (hi : i < o.length) (hb : b < o.length) (h8 : o.length ≤ 8) (hl : d.length = o.length) (hp : Pls o) (hld : Lds d) (hbd : BoxR w Bd d) (hbp : BoxR w Bp o) (hsq : Sq w Bs Bp) :
    Calls Tryz.prog 107 #[.int .i64 i, .int .i64 b, .pointer (some ⟨Bd, 0, none⟩), .pointer (some ⟨Bs, 0, none⟩)] w fun e w' => e = .returned (.bool (decide (Over d o i b))) ∧ ∃ q, w' = w.drewN q := by
  have S1 := hide (fun (k : Nat) (hk : k = i ∨ k = b) n => square k Bp o (w.drewN n) (by rcases hk with rfl | rfl <;> assumption) h8 hp (hbp.drew n))
  obtain ⟨sq, hsq2⟩ : ∃ sq : Nat → Int, ∀ k, (at0 o k + 1) * (at0 o k + 1) = sq k := ⟨_, fun _ => rfl⟩
  simp only [hsq2] at S1
  have c3 := hsq.cell
  obtain ⟨g, off, c, h1, h3, h4⟩ := hbd
  have c0 := h1.cell
  have c1 := h4 i (by omega)
  have c2 := h4 b (by omega)
  have d1 := hld i (by omega)
  have d2 := hld b (by omega)
  have o1 := hp i hi
  have o2 := hp b hb
  have HO : Hid (Over d o i b ↔ at0 d b * ((at0 o i + 1) * (at0 o i + 1)) < at0 d i * ((at0 o b + 1) * (at0 o b + 1))) := hide (by unfold Over; rw [Int.mul_assoc, Int.mul_assoc])
  rw [hsq2, hsq2] at HO
  obtain ⟨T, hT⟩ : ∃ T, decide (Over d o i b) = T := ⟨_, rfl⟩
  obtain ⟨N, hN⟩ : ∃ N, o.length = N := ⟨_, rfl⟩
  rw [hl, hN] at c0
  rw [hN] at hi hb h8
  obtain ⟨D, hD⟩ : ∃ D, at0 d i = D := ⟨_, rfl⟩
  obtain ⟨E, hE⟩ : ∃ E, at0 d b = E := ⟨_, rfl⟩
  obtain ⟨P, hP⟩ : ∃ P, at0 o i = P := ⟨_, rfl⟩
  obtain ⟨Q, hQ⟩ : ∃ Q, at0 o b = Q := ⟨_, rfl⟩
  rw [hD] at c1 d1 HO
  rw [hE] at c2 d2 HO
  have hX := hsq2 i
  have hY := hsq2 b
  rw [hP] at o1 hX
  rw [hQ] at o2 hY
  obtain ⟨X, hX'⟩ : ∃ X, sq i = X := ⟨_, rfl⟩
  obtain ⟨Y, hY'⟩ : ∃ Y, sq b = Y := ⟨_, rfl⟩
  rw [hX'] at hX HO
  rw [hY'] at hY HO
  have x1 : 0 ≤ X ∧ X ≤ 81 := by
    rw [← hX]
    exact ⟨Int.mul_nonneg (by omega) (by omega), by have := Int.mul_le_mul (a := P + 1) (b := P + 1) (c := 9) (d := 9) (by omega) (by omega) (by omega) (by omega); omega⟩
  have y1 : 0 ≤ Y ∧ Y ≤ 81 := by
    rw [← hY]
    exact ⟨Int.mul_nonneg (by omega) (by omega), by have := Int.mul_le_mul (a := Q + 1) (b := Q + 1) (c := 9) (d := 9) (by omega) (by omega) (by omega) (by omega); omega⟩
  obtain ⟨U, hU⟩ : ∃ U, D * Y = U := ⟨_, rfl⟩
  obtain ⟨V, hV⟩ : ∃ V, E * X = V := ⟨_, rfl⟩
  have u1 : 0 ≤ U ∧ U ≤ 648000 := by
    rw [← hU]
    exact ⟨Int.mul_nonneg (by omega) (by omega), by have := Int.mul_le_mul (a := D) (b := Y) (c := 8000) (d := 81) (by omega) (by omega) (by omega) (by omega); omega⟩
  have v1 : 0 ≤ V ∧ V ≤ 648000 := by
    rw [← hV]
    exact ⟨Int.mul_nonneg (by omega) (by omega), by have := Int.mul_le_mul (a := E) (b := X) (c := 8000) (d := 81) (by omega) (by omega) (by omega) (by omega); omega⟩
  rw [hU, hV] at HO
  have wU : IntKind.i64.wrap (D * sq b) = U := by rw [hY', hU]; exact IntWalk.i64_in _ (by omega)
  have wV : IntKind.i64.wrap (E * sq i) = V := by rw [hX', hV]; exact IntWalk.i64_in _ (by omega)
  have dT : decide (V < U) = T := by rw [← hT]; exact decide_eq_decide.2 (unhide HO).symm
  rw [hT]
  clear h1 h3 h4 hbp hsq hD hE hP hQ hX hY hX' hY' hsq2 hU hV hT HO hN hl hp hld x1 y1 u1 v1 d1 d2 o1 o2
  go_enter Tryz.func107, Tryz.ntmps107
  go_wp2
  go_quiet ((go_at_call 106; exact Calls.quiet_of (unhide S1 _ (by first | exact Or.inl rfl | exact Or.inr rfl) _)))
  go_wp2
  go_ret
  exact ⟨rfl, _, rfl⟩

end Go.Proofs.YtjojeifoddonnakGreat.Shr
