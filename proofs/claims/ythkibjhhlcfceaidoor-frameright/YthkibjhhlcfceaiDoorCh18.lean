/-
  count.Bits, by how many there are.
-/
import Derived.Test.YthkibjhhlcfceaiDoorCh16
import Derived.Test.YthkibjhhlcfceaiDoorCh17
import Derived.RangeFuncBox
import Derived.Deep.QuietTactic
import Derived.BigQuiet
import Derived.Deep.CutBlock
namespace Go.Proofs.YthkibjhhlcfceaiDoor.Shr
open Go.RowKit
open Go.Proofs.YthkibjhhlcfceaiDoor.Tre Go.Proofs.YthkibjhhlcfceaiDoor.Cnt Go.Proofs.YthkibjhhlcfceaiDoor.Bnd
set_option linter.unusedVariables false

theorem cell_shr' {w : World} {a : Option Addr} {l : List Int} (h : Row w a l) (h0 : 0 < l.length) : ∃ b off, a = some ⟨b, off, none⟩ ∧ b < w.heap.size ∧ ∀ j, j < l.length → w.cell? ⟨b, off + j, none⟩ = some (.int .i64 (at0 l j)) := by
  obtain ⟨b, off, e, hb, hc⟩ := h.at h0
  exact ⟨b, off, e, hb, fun j hj => (hc j hj).trans (by rw [List.getD_eq_getElem?_getD]; rfl)⟩
theorem bits_is (n k : Nat) (hn : n ≤ 6) (hk : k ≤ 8) (w : World) :
    Calls Tryd.prog 28 #[.int .i64 n, .int .i64 k] w fun e w' => e = .returned (.tuple #[.int .i64 (Bt k n : Int), .nilIface]) ∧ Below w.heap.size w w' :=
  (bits_ok n k hn hk w).mono fun e w' ⟨b, he, hb, hw⟩ => ⟨by rw [he, hb.one (Bt_is hk hn)], hw⟩

end Go.Proofs.YthkibjhhlcfceaiDoor.Shr

/-
  share.price: by its contract.
-/
namespace Go.Proofs.YthkibjhhlcfceaiDoor.Shr
open Go.RowKit
open Go.Proofs.YthkibjhhlcfceaiDoor.Tre Go.Proofs.YthkibjhhlcfceaiDoor.Cnt Go.Proofs.YthkibjhhlcfceaiDoor.Bnd
set_option linter.unusedVariables false

set_option maxHeartbeats 1000000 in
theorem price (n k : Nat) (hn : n ≤ 6) (hk : k < 8) (w : World) :
    Calls Tryd.prog 60 #[.int .i64 n, .int .i64 k] w fun e w' => e = .returned (.int .i64 (pr n k)) ∧ Below w.heap.size w w' := by
  have h1 := Bt_le (k := k) (n := n) (by omega) hn
  have h2 := Bt_le (k := k + 1) (n := n) (by omega) hn
  have HP : Hid (pr n k = (Bt (k + 1) n : Int) - (Bt k n : Int)) := hide rfl
  have b1 := bits_is n k hn (by omega) w
  have b2 := hide (fun W => bits_is n (k + 1) hn (by omega) W)
  obtain ⟨X, hX⟩ : ∃ X, Bt k n = X := ⟨_, rfl⟩
  obtain ⟨Y, hY⟩ : ∃ Y, Bt (k + 1) n = Y := ⟨_, rfl⟩
  obtain ⟨P, hP⟩ : ∃ P, pr n k = P := ⟨_, rfl⟩
  rw [hX] at h1 HP b1
  rw [hY] at h2 HP b2
  rw [hP] at HP ⊢
  have wP : IntKind.i64.wrap ((Y : Int) - (X : Int)) = P := by rw [← unhide HP]; exact IntWalk.i64_in _ (by rw [unhide HP]; omega)
  have wK : IntKind.i64.wrap ((k : Int) + 1) = ((k + 1 : Nat) : Int) := by rw [Int.natCast_add]; exact IntWalk.i64_in _ (by omega)
  obtain ⟨K, hK⟩ : ∃ K, k + 1 = K := ⟨_, rfl⟩
  rw [hK] at wK b2
  clear hX hY hP hK
  go_enter Tryd.func60, Tryd.ntmps60
  go_wp2_with fail
  refine b1.mono ?_
  clear b1
  rintro e w1 ⟨rfl, hb1⟩
  go_wp2_with fail
  refine (unhide b2 w1).mono ?_
  clear b2
  rintro e w2 ⟨rfl, hb2⟩
  go_wp2
  go_ret
  exact ⟨rfl, Below.chain hb1 hb2⟩

end Go.Proofs.YthkibjhhlcfceaiDoor.Shr

/-
  the functions that share.next makes: by their contracts.
-/
namespace Go.Proofs.YthkibjhhlcfceaiDoor.Shr
open Go.RowKit
open Go.Proofs.YthkibjhhlcfceaiDoor.Tre Go.Proofs.YthkibjhhlcfceaiDoor.Cnt Go.Proofs.YthkibjhhlcfceaiDoor.Bnd
set_option linter.unusedVariables false

theorem boxed_below {W W' : World} {n B : Nat} {t : TypeId} {v : Value} (h : Boxed W B t v) (hb : Below n W W') (hn : B < n) : Boxed W' B t v := (hb.block B hn).trans h
/-- A list of numbers in a box. -/
def BoxR (W : World) (B : Nat) (l : List Int) : Prop := ∃ g off c, Boxed W B 22 (.slice (some ⟨g, off, none⟩) l.length c) ∧ g < W.heap.size ∧ ∀ i, i < l.length → W.cell? ⟨g, off + i, none⟩ = some (.int .i64 (at0 l i))
theorem BoxR.below {W w : World} {B : Nat} {l : List Int} (h : BoxR W B l) (hb : Below W.heap.size W w) : BoxR w B l := by
  obtain ⟨g, off, c, h1, h3, h4⟩ := h
  exact ⟨g, off, c, boxed_below h1 hb h1.lt, Nat.lt_of_lt_of_le h3 hb.size, fun i hi => (hb.cell (p := ⟨g, off + i, none⟩) h3).trans (h4 i hi)⟩
theorem BoxR.drew {W : World} {B : Nat} {l : List Int} (h : BoxR W B l) (n : Nat) : BoxR (W.drewN n) B l := h
theorem boxR_new {w : World} {a : Option Addr} {c : Nat} {l : List Int} (h0 : 0 < l.length) (hr : Row w a l) : BoxR (w.alloc (.cells #[.slice a l.length c] 22)) w.heap.size l := by
  have hb1 := below_box w (.slice a l.length c) 22
  obtain ⟨b, off, rfl, hb, hc⟩ := cell_shr' (hr.below hb1) h0
  exact ⟨b, off, c, Boxed.new _ _ _, hb, hc⟩

set_option maxHeartbeats 2000000 in
theorem square (i B : Nat) (o : List Int) (w : World) (hi : i < o.length) (h8 : o.length ≤ 8) (hp : Pls o) (hbx : BoxR w B o) :
    Calls Tryd.prog 74 #[.int .i64 i, .pointer (some ⟨B, 0, none⟩)] w fun e w' => e = .returned (.int .i64 ((at0 o i + 1) * (at0 o i + 1))) ∧ ∃ q, w' = w.drewN q := by
  obtain ⟨g, off, c, h1, h3, h4⟩ := hbx
  have c0 := h1.cell
  have c1 := h4 i hi
  have hq := hp i hi
  obtain ⟨P, hP⟩ : ∃ P, at0 o i = P := ⟨_, rfl⟩
  obtain ⟨N, hN⟩ : ∃ N, o.length = N := ⟨_, rfl⟩
  rw [hP] at c1 hq ⊢
  rw [hN] at c0 hi h8
  obtain ⟨A, hA⟩ : ∃ A, P + 1 = A := ⟨_, rfl⟩
  have wA : IntKind.i64.wrap (P + 1) = A := by rw [← hA]; exact IntWalk.i64_in _ (by omega)
  have hA9 : 1 ≤ A ∧ A ≤ 9 := by omega
  rw [hA]
  obtain ⟨Q, hQ⟩ : ∃ Q, A * A = Q := ⟨_, rfl⟩
  have hQ1 : 0 ≤ Q ∧ Q ≤ 81 := by
    rw [← hQ]
    exact ⟨Int.mul_nonneg (by omega) (by omega), by have := Int.mul_le_mul (a := A) (b := A) (c := 9) (d := 9) (by omega) (by omega) (by omega) (by omega); omega⟩
  have wQ : IntKind.i64.wrap (A * A) = Q := by rw [hQ]; exact IntWalk.i64_in _ (by omega)
  rw [hQ]
  clear h1 h3 h4 hP hN hA hQ hp hq hA9 hQ1
  go_enter Tryd.func74, Tryd.ntmps74
  go_wp2
  go_quiet (fail)
  go_wp2
  go_ret
  exact ⟨rfl, _, rfl⟩

/-- The function of a square, in its box. -/
def Sq (W : World) (B Bp : Nat) : Prop := Boxed W B 40 (.func (.func 74) #[] #[.pointer (some ⟨Bp, 0, none⟩)])

set_option maxHeartbeats 4000000 in
theorem louder (i b Bd Bs Bp : Nat) (d o : List Int) (w : World) (hi : i < o.length) (hb : b < o.length) (h8 : o.length ≤ 8) (hl : d.length = o.length) (hp : Pls o) (hld : Lds d) (hbd : BoxR w Bd d) (hbp : BoxR w Bp o) (hsq : Sq w Bs Bp) :
    Calls Tryd.prog 75 #[.int .i64 i, .int .i64 b, .pointer (some ⟨Bd, 0, none⟩), .pointer (some ⟨Bs, 0, none⟩)] w fun e w' => e = .returned (.bool (decide (Over d o i b))) ∧ ∃ q, w' = w.drewN q := by
  have S1 := hide (fun (k : Nat) (hk : k = i ∨ k = b) n => square k Bp o (w.drewN n) (by rcases hk with rfl | rfl <;> assumption) h8 hp (hbp.drew n))
  obtain ⟨sq, hsq2⟩ : ∃ sq : Nat → Int, ∀ k, (at0 o k + 1) * (at0 o k + 1) = sq k := ⟨_, fun _ => rfl⟩
  simp only [hsq2] at S1
  have c3 := hsq.cell
  obtain ⟨g, off, c, h1, h3, h4⟩ := hbd
  have c0 := h1.cell
  have c1 := h4 i (by omega)
  have c2 := h4 b (by omega)
  have d1 := hld i (by omega)
  have d2 := hld b (by omega)
  have o1 := hp i hi
  have o2 := hp b hb
  have HO : Hid (Over d o i b ↔ at0 d b * ((at0 o i + 1) * (at0 o i + 1)) < at0 d i * ((at0 o b + 1) * (at0 o b + 1))) := hide (by unfold Over; rw [Int.mul_assoc, Int.mul_assoc])
  rw [hsq2, hsq2] at HO
  obtain ⟨T, hT⟩ : ∃ T, decide (Over d o i b) = T := ⟨_, rfl⟩
  obtain ⟨N, hN⟩ : ∃ N, o.length = N := ⟨_, rfl⟩
  rw [hl, hN] at c0
  rw [hN] at hi hb h8
  obtain ⟨D, hD⟩ : ∃ D, at0 d i = D := ⟨_, rfl⟩
  obtain ⟨E, hE⟩ : ∃ E, at0 d b = E := ⟨_, rfl⟩
  obtain ⟨P, hP⟩ : ∃ P, at0 o i = P := ⟨_, rfl⟩
  obtain ⟨Q, hQ⟩ : ∃ Q, at0 o b = Q := ⟨_, rfl⟩
  rw [hD] at c1 d1 HO
  rw [hE] at c2 d2 HO
  have hX := hsq2 i
  have hY := hsq2 b
  rw [hP] at o1 hX
  rw [hQ] at o2 hY
  obtain ⟨X, hX'⟩ : ∃ X, sq i = X := ⟨_, rfl⟩
  obtain ⟨Y, hY'⟩ : ∃ Y, sq b = Y := ⟨_, rfl⟩
  rw [hX'] at hX HO
  rw [hY'] at hY HO
  have x1 : 0 ≤ X ∧ X ≤ 81 := by
    rw [← hX]
    exact ⟨Int.mul_nonneg (by omega) (by omega), by have := Int.mul_le_mul (a := P + 1) (b := P + 1) (c := 9) (d := 9) (by omega) (by omega) (by omega) (by omega); omega⟩
  have y1 : 0 ≤ Y ∧ Y ≤ 81 := by
    rw [← hY]
    exact ⟨Int.mul_nonneg (by omega) (by omega), by have := Int.mul_le_mul (a := Q + 1) (b := Q + 1) (c := 9) (d := 9) (by omega) (by omega) (by omega) (by omega); omega⟩
  obtain ⟨U, hU⟩ : ∃ U, D * Y = U := ⟨_, rfl⟩
  obtain ⟨V, hV⟩ : ∃ V, E * X = V := ⟨_, rfl⟩
  have u1 : 0 ≤ U ∧ U ≤ 648000 := by
    rw [← hU]
    exact ⟨Int.mul_nonneg (by omega) (by omega), by have := Int.mul_le_mul (a := D) (b := Y) (c := 8000) (d := 81) (by omega) (by omega) (by omega) (by omega); omega⟩
  have v1 : 0 ≤ V ∧ V ≤ 648000 := by
    rw [← hV]
    exact ⟨Int.mul_nonneg (by omega) (by omega), by have := Int.mul_le_mul (a := E) (b := X) (c := 8000) (d := 81) (by omega) (by omega) (by omega) (by omega); omega⟩
  rw [hU, hV] at HO
  have wU : IntKind.i64.wrap (D * sq b) = U := by rw [hY', hU]; exact IntWalk.i64_in _ (by omega)
  have wV : IntKind.i64.wrap (E * sq i) = V := by rw [hX', hV]; exact IntWalk.i64_in _ (by omega)
  have dT : decide (V < U) = T := by rw [← hT]; exact decide_eq_decide.2 (unhide HO).symm
  rw [hT]
  clear h1 h3 h4 hbp hsq hD hE hP hQ hX hY hX' hY' hsq2 hU hV hT HO hN hl hp hld x1 y1 u1 v1 d1 d2 o1 o2
  go_enter Tryd.func75, Tryd.ntmps75
  go_wp2
  go_quiet ((go_at_call 74; exact Calls.quiet_of (unhide S1 _ (by first | exact Or.inl rfl | exact Or.inr rfl) _)))
  go_wp2
  go_ret
  exact ⟨rfl, _, rfl⟩

end Go.Proofs.YthkibjhhlcfceaiDoor.Shr
