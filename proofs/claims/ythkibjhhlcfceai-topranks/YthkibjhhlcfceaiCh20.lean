/-
  share.price: by its contract.
-/
import Derived.Test.YthkibjhhlcfceaiCh19
import Derived.RangeFuncBox
import Derived.Deep.QuietTactic
import Derived.BigQuiet
import Derived.Deep.CutBlock
import Derived.Test.YthkibjhhlcfceaiCh00
import Derived.Orders
namespace Go.Proofs.Ythkibjhhlcfceai.Shr
open Go.RowKit
open Go.Proofs.Ythkibjhhlcfceai.Tre Go.Proofs.Ythkibjhhlcfceai.Cnt Go.Proofs.Ythkibjhhlcfceai.Bnd
set_option linter.unusedVariables false

set_option maxHeartbeats 1000000 in
theorem price (n k : Nat) (hn : n ≤ 6) (hk : k < 8) (w : World) :
    Calls Try.prog 43 #[.int .i64 n, .int .i64 k] w fun e w' => e = .returned (.int .i64 (pr n k)) ∧ Below w.heap.size w w' := by
  have h1 := Bt_le (k := k) (n := n) (by omega) hn
  have h2 := Bt_le (k := k + 1) (n := n) (by omega) hn
  have HP : Hid (pr n k = (Bt (k + 1) n : Int) - (Bt k n : Int)) := hide rfl
  have b1 := bits_is n k hn (by omega) w
  have b2 := hide (fun W => bits_is n (k + 1) hn (by omega) W)
  obtain ⟨X, hX⟩ : ∃ X, Bt k n = X := ⟨_, rfl⟩
  obtain ⟨Y, hY⟩ : ∃ Y, Bt (k + 1) n = Y := ⟨_, rfl⟩
  obtain ⟨P, hP⟩ : ∃ P, pr n k = P := ⟨_, rfl⟩
  rw [hX] at h1 HP b1
  rw [hY] at h2 HP b2
  rw [hP] at HP ⊢
  have wP : IntKind.i64.wrap ((Y : Int) - (X : Int)) = P := by rw [← unhide HP]; exact IntWalk.i64_in _ (by rw [unhide HP]; omega)
  have wK : IntKind.i64.wrap ((k : Int) + 1) = ((k + 1 : Nat) : Int) := by rw [Int.natCast_add]; exact IntWalk.i64_in _ (by omega)
  obtain ⟨K, hK⟩ : ∃ K, k + 1 = K := ⟨_, rfl⟩
  rw [hK] at wK b2
  clear hX hY hP hK
  go_enter Try.func43, Try.ntmps43
  go_wp2_with fail
  refine b1.mono ?_
  clear b1
  rintro e w1 ⟨rfl, hb1⟩
  go_wp2_with fail
  refine (unhide b2 w1).mono ?_
  clear b2
  rintro e w2 ⟨rfl, hb2⟩
  go_wp2
  go_ret
  exact ⟨rfl, Below.chain hb1 hb2⟩

end Go.Proofs.Ythkibjhhlcfceai.Shr

/-
  the functions that share.next makes: by their contracts.
-/
namespace Go.Proofs.Ythkibjhhlcfceai.Shr
open Go.RowKit
open Go.Proofs.Ythkibjhhlcfceai.Tre Go.Proofs.Ythkibjhhlcfceai.Cnt Go.Proofs.Ythkibjhhlcfceai.Bnd
set_option linter.unusedVariables false

theorem boxed_below {W W' : World} {n B : Nat} {t : TypeId} {v : Value} (h : Boxed W B t v) (hb : Below n W W') (hn : B < n) : Boxed W' B t v := (hb.block B hn).trans h
/-- A list of numbers in a box. -/
def BoxR (W : World) (B : Nat) (l : List Int) : Prop := ∃ g off c, Boxed W B 23 (.slice (some ⟨g, off, none⟩) l.length c) ∧ g < W.heap.size ∧ ∀ i, i < l.length → W.cell? ⟨g, off + i, none⟩ = some (.int .i64 (at0 l i))
theorem BoxR.below {W w : World} {B : Nat} {l : List Int} (h : BoxR W B l) (hb : Below W.heap.size W w) : BoxR w B l := by
  obtain ⟨g, off, c, h1, h3, h4⟩ := h
  exact ⟨g, off, c, boxed_below h1 hb h1.lt, Nat.lt_of_lt_of_le h3 hb.size, fun i hi => (hb.cell (p := ⟨g, off + i, none⟩) h3).trans (h4 i hi)⟩
theorem BoxR.drew {W : World} {B : Nat} {l : List Int} (h : BoxR W B l) (n : Nat) : BoxR (W.drewN n) B l := h
theorem boxR_new {w : World} {a : Option Addr} {c : Nat} {l : List Int} (h0 : 0 < l.length) (hr : Row w a l) : BoxR (w.alloc (.cells #[.slice a l.length c] 23)) w.heap.size l := by
  have hb1 := below_box w (.slice a l.length c) 23
  obtain ⟨b, off, rfl, hb, hc⟩ := cell_shr' (hr.below hb1) h0
  exact ⟨b, off, c, Boxed.new _ _ _, hb, hc⟩

set_option maxHeartbeats 2000000 in
theorem square (i B : Nat) (o : List Int) (w : World) (hi : i < o.length) (h8 : o.length ≤ 8) (hp : Pls o) (hbx : BoxR w B o) :
    Calls Try.prog 69 #[.int .i64 i, .pointer (some ⟨B, 0, none⟩)] w fun e w' => e = .returned (.int .i64 ((at0 o i + 1) * (at0 o i + 1))) ∧ ∃ q, w' = w.drewN q := by
  obtain ⟨g, off, c, h1, h3, h4⟩ := hbx
  have c0 := h1.cell
  have c1 := h4 i hi
  have hq := hp i hi
  obtain ⟨P, hP⟩ : ∃ P, at0 o i = P := ⟨_, rfl⟩
  obtain ⟨N, hN⟩ : ∃ N, o.length = N := ⟨_, rfl⟩
  rw [hP] at c1 hq ⊢
  rw [hN] at c0 hi h8
  obtain ⟨A, hA⟩ : ∃ A, P + 1 = A := ⟨_, rfl⟩
  have wA : IntKind.i64.wrap (P + 1) = A := by rw [← hA]; exact IntWalk.i64_in _ (by omega)
  have hA9 : 1 ≤ A ∧ A ≤ 9 := by omega
  rw [hA]
  obtain ⟨Q, hQ⟩ : ∃ Q, A * A = Q := ⟨_, rfl⟩
  have hQ1 : 0 ≤ Q ∧ Q ≤ 81 := by
    rw [← hQ]
    exact ⟨Int.mul_nonneg (by omega) (by omega), by have := Int.mul_le_mul (a := A) (b := A) (c := 9) (d := 9) (by omega) (by omega) (by omega) (by omega); omega⟩
  have wQ : IntKind.i64.wrap (A * A) = Q := by rw [hQ]; exact IntWalk.i64_in _ (by omega)
  rw [hQ]
  clear h1 h3 h4 hP hN hA hQ hp hq hA9 hQ1
  go_enter Try.func69, Try.ntmps69
  go_wp2
  go_quiet (fail)
  go_wp2
  go_ret
  exact ⟨rfl, _, rfl⟩

/-- The function of a square, in its box. -/
def Sq (W : World) (B Bp : Nat) : Prop := Boxed W B 71 (.func (.func 69) #[] #[.pointer (some ⟨Bp, 0, none⟩)])

set_option maxHeartbeats 4000000 in
theorem louder (i b Bd Bs Bp : Nat) (d o : List Int) (w : World) (hi : i < o.length) (hb : b < o.length) (h8 : o.length ≤ 8) (hl : d.length = o.length) (hp : Pls o) (hld : Lds d) (hbd : BoxR w Bd d) (hbp : BoxR w Bp o) (hsq : Sq w Bs Bp) :
    Calls Try.prog 70 #[.int .i64 i, .int .i64 b, .pointer (some ⟨Bd, 0, none⟩), .pointer (some ⟨Bs, 0, none⟩)] w fun e w' => e = .returned (.bool (decide (Over d o i b))) ∧ ∃ q, w' = w.drewN q := by
  have S1 := hide (fun (k : Nat) (hk : k = i ∨ k = b) n => square k Bp o (w.drewN n) (by rcases hk with rfl | rfl <;> assumption) h8 hp (hbp.drew n))
  obtain ⟨sq, hsq2⟩ : ∃ sq : Nat → Int, ∀ k, (at0 o k + 1) * (at0 o k + 1) = sq k := ⟨_, fun _ => rfl⟩
  simp only [hsq2] at S1
  have c3 := hsq.cell
  obtain ⟨g, off, c, h1, h3, h4⟩ := hbd
  have c0 := h1.cell
  have c1 := h4 i (by omega)
  have c2 := h4 b (by omega)
  have d1 := hld i (by omega)
  have d2 := hld b (by omega)
  have o1 := hp i hi
  have o2 := hp b hb
  have HO : Hid (Over d o i b ↔ at0 d b * ((at0 o i + 1) * (at0 o i + 1)) < at0 d i * ((at0 o b + 1) * (at0 o b + 1))) := hide (by unfold Over; rw [Int.mul_assoc, Int.mul_assoc])
  rw [hsq2, hsq2] at HO
  obtain ⟨T, hT⟩ : ∃ T, decide (Over d o i b) = T := ⟨_, rfl⟩
  obtain ⟨N, hN⟩ : ∃ N, o.length = N := ⟨_, rfl⟩
  rw [hl, hN] at c0
  rw [hN] at hi hb h8
  obtain ⟨D, hD⟩ : ∃ D, at0 d i = D := ⟨_, rfl⟩
  obtain ⟨E, hE⟩ : ∃ E, at0 d b = E := ⟨_, rfl⟩
  obtain ⟨P, hP⟩ : ∃ P, at0 o i = P := ⟨_, rfl⟩
  obtain ⟨Q, hQ⟩ : ∃ Q, at0 o b = Q := ⟨_, rfl⟩
  rw [hD] at c1 d1 HO
  rw [hE] at c2 d2 HO
  have hX := hsq2 i
  have hY := hsq2 b
  rw [hP] at o1 hX
  rw [hQ] at o2 hY
  obtain ⟨X, hX'⟩ : ∃ X, sq i = X := ⟨_, rfl⟩
  obtain ⟨Y, hY'⟩ : ∃ Y, sq b = Y := ⟨_, rfl⟩
  rw [hX'] at hX HO
  rw [hY'] at hY HO
  have x1 : 0 ≤ X ∧ X ≤ 81 := by
    rw [← hX]
    exact ⟨Int.mul_nonneg (by omega) (by omega), by have := Int.mul_le_mul (a := P + 1) (b := P + 1) (c := 9) (d := 9) (by omega) (by omega) (by omega) (by omega); omega⟩
  have y1 : 0 ≤ Y ∧ Y ≤ 81 := by
    rw [← hY]
    exact ⟨Int.mul_nonneg (by omega) (by omega), by have := Int.mul_le_mul (a := Q + 1) (b := Q + 1) (c := 9) (d := 9) (by omega) (by omega) (by omega) (by omega); omega⟩
  obtain ⟨U, hU⟩ : ∃ U, D * Y = U := ⟨_, rfl⟩
  obtain ⟨V, hV⟩ : ∃ V, E * X = V := ⟨_, rfl⟩
  have u1 : 0 ≤ U ∧ U ≤ 648000 := by
    rw [← hU]
    exact ⟨Int.mul_nonneg (by omega) (by omega), by have := Int.mul_le_mul (a := D) (b := Y) (c := 8000) (d := 81) (by omega) (by omega) (by omega) (by omega); omega⟩
  have v1 : 0 ≤ V ∧ V ≤ 648000 := by
    rw [← hV]
    exact ⟨Int.mul_nonneg (by omega) (by omega), by have := Int.mul_le_mul (a := E) (b := X) (c := 8000) (d := 81) (by omega) (by omega) (by omega) (by omega); omega⟩
  rw [hU, hV] at HO
  have wU : IntKind.i64.wrap (D * sq b) = U := by rw [hY', hU]; exact IntWalk.i64_in _ (by omega)
  have wV : IntKind.i64.wrap (E * sq i) = V := by rw [hX', hV]; exact IntWalk.i64_in _ (by omega)
  have dT : decide (V < U) = T := by rw [← hT]; exact decide_eq_decide.2 (unhide HO).symm
  rw [hT]
  clear h1 h3 h4 hbp hsq hD hE hP hQ hX hY hX' hY' hsq2 hU hV hT HO hN hl hp hld x1 y1 u1 v1 d1 d2 o1 o2
  go_enter Try.func70, Try.ntmps70
  go_wp2
  go_quiet ((go_at_call 69; exact Calls.quiet_of (unhide S1 _ (by first | exact Or.inl rfl | exact Or.inr rfl) _)))
  go_wp2
  go_ret
  exact ⟨rfl, _, rfl⟩

end Go.Proofs.Ythkibjhhlcfceai.Shr

/-
  A region that draws its order, whose last operation waits for all others: words for the orders it may take.
-/
namespace Go.Proofs.Ythkibjhhlcfceai.Itr
open Go.RowKit
set_option linter.unusedVariables false

section
variable {ops ops' : Array Oper} {k : Nat} {o o' : Oper}
/-- What is asked of the operations: the two lists are the same but for the last one, which is stilled in the second; each waits for earlier ones alone, and the last for all. -/
structure Lasts (ops ops' : Array Oper) (k : Nat) (o o' : Oper) : Prop where
  at_k : ops[k]? = some o
  at_k' : ops'[k]? = some o'
  size : ops.size = k + 1
  size' : ops'.size = k + 1
  same : ∀ (i : Nat), i ≠ k → ops'[i]? = ops[i]?
  after : o'.after = o.after
  dst' : o'.dst = none
  plain : ∀ (i : Nat) (p : Oper), ops[i]? = some p → p.guard = none ∧ ∀ c, p.op ≠ Op.defer c
  early : ∀ (i : Nat) (p : Oper), ops[i]? = some p → ∀ e ∈ p.after, Region.binds .any e = true → e.on < i
  all : ∀ (j : Nat), j < k → ∃ e ∈ o.after, Region.binds .any e = true ∧ e.on = j

theorem Lasts.ready (h : Lasts ops ops' k o o') (s : Array Bool) (i : Nat) : i ∈ Region.ready .any ops' s ↔ i ∈ Region.ready .any ops s := by
  rw [mem_ready, mem_ready]
  by_cases e : i = k
  · subst e
    rw [h.at_k, h.at_k']
    constructor
    · rintro ⟨h1, p, h2, h3⟩
      cases h2
      exact ⟨h1, o, rfl, by rw [← h.after]; exact h3⟩
    · rintro ⟨h1, p, h2, h3⟩
      cases h2
      exact ⟨h1, o', rfl, by rw [h.after]; exact h3⟩
  · rw [h.same i e]
theorem getD_false_of {s : Array Bool} {i : Nat} (hi : i < s.size) (h : ¬ s.getD i true = false) : s.getD i false = true := by
  simp [Array.getD, hi] at h ⊢
  exact h
/-- While the last one has not come up, one is ready. -/
theorem Lasts.goes (h : Lasts ops ops' k o o') (s : Array Bool) (hs : s.size = k + 1) (hk : s.getD k true = false) : Region.ready .any ops s ≠ [] := by
  -- the first one that has not come up
  have key : ∀ m, m ≤ k → (∀ j, j < m → s.getD j false = true) ∨ ∃ i, i < m ∧ s.getD i true = false ∧ ∀ j, j < i → s.getD j false = true := by
    intro m
    induction m with
    | zero => intro _; exact Or.inl (fun j hj => by omega)
    | succ m ih =>
      intro hm
      rcases ih (by omega) with h1 | ⟨i, h1, h2, h3⟩
      · by_cases e : s.getD m true = false
        · exact Or.inr ⟨m, by omega, e, h1⟩
        · refine Or.inl (fun j hj => ?_)
          by_cases e' : j = m
          · subst e'; exact getD_false_of (by omega) e
          · exact h1 j (by omega)
      · exact Or.inr ⟨i, by omega, h2, h3⟩
  have first : ∃ i, i ≤ k ∧ s.getD i true = false ∧ ∀ j, j < i → s.getD j false = true := by
    rcases key k (Nat.le_refl _) with h1 | ⟨i, h1, h2, h3⟩
    · exact ⟨k, Nat.le_refl _, hk, h1⟩
    · exact ⟨i, by omega, h2, h3⟩
  obtain ⟨i, h1, h2, h3⟩ := first
  intro he
  have hp : ops[i]? = some (ops[i]'(by rw [h.size]; omega)) := Array.getElem?_eq_getElem _
  have hm : i ∈ Region.ready .any ops s := mem_ready.2 ⟨h2, _, hp, fun e hin hb => h3 e.on (h.early i _ hp e hin hb)⟩
  rw [he] at hm
  cases hm
/-- When the last one comes up all others have. -/
theorem Lasts.ends (h : Lasts ops ops' k o o') (s : Array Bool) (hs : s.size = k + 1) (hk : k ∈ Region.ready .any ops s) : Region.ready .any ops (s.setIfInBounds k true) = [] := by
  rw [List.eq_nil_iff_forall_not_mem]
  intro j hj
  obtain ⟨h1, p, h2, _⟩ := mem_ready.1 hj
  have hjk : j < k + 1 := by rw [← h.size]; exact (Array.getElem?_eq_some_iff.1 h2).1
  by_cases e : j = k
  · subst e
    simp [hs] at h1
  · have e1 : (s.setIfInBounds k true).getD j true = s.getD j true := by simp [Array.getD, show j < s.size by omega, show k ≠ j from fun x => e x.symm]
    rw [e1] at h1
    obtain ⟨_, q, h3, h4⟩ := mem_ready.1 hk
    rw [h.at_k] at h3
    cases h3
    obtain ⟨x, hx, hb, hon⟩ := h.all j (by omega)
    have h5 := h4 x hx hb
    rw [hon] at h5
    simp [Array.getD, show j < s.size by omega] at h1 h5
    rw [h1] at h5
    cases h5

end

/-- The last operation is stilled. -/
def calm : List Oper → List Oper
  | [] => []
  | [o] => [{ o with dst := none, op := .move (.const undef) }]
  | o :: p :: r => o :: calm (p :: r)
/-- What is asked of the operations, reckoned. -/
def fits (l : List Oper) : Bool :=
  l.all (fun o => o.guard.isNone && (match o.op with | .defer _ => false | _ => true)) &&
  (List.range l.length).all (fun i => match l[i]? with | some o => o.after.all (fun e => !Region.binds .any e || decide (e.on < i)) | none => false) &&
  (match l.getLast? with | some o => (List.range (l.length - 1)).all (fun j => o.after.any (fun e => Region.binds .any e && decide (e.on = j))) | none => false)

theorem calm_length (l : List Oper) : (calm l).length = l.length := by
  induction l with
  | nil => rfl
  | cons o l ih =>
    cases l with
    | nil => rfl
    | cons p r => simp only [calm, List.length_cons, ih]
theorem calm_same (l : List Oper) : ∀ i, i + 1 < l.length → (calm l)[i]? = l[i]? := by
  induction l with
  | nil => intro i hi; simp at hi
  | cons o l ih =>
    cases l with
    | nil => intro i hi; simp at hi
    | cons p r =>
      intro i hi
      cases i with
      | zero => simp [calm]
      | succ i =>
        simp only [calm, List.getElem?_cons_succ]
        exact ih i (by simpa using hi)
theorem calm_last (l : List Oper) (o : Oper) (h : l.getLast? = some o) : (calm l).getLast? = some { o with dst := none, op := .move (.const undef) } := by
  induction l with
  | nil => cases h
  | cons p l ih =>
    cases l with
    | nil => simp at h; subst h; simp [calm]
    | cons q r =>
      rw [List.getLast?_cons_cons] at h
      have := ih h
      simp only [calm]
      cases hc : calm (q :: r) with
      | nil => rw [hc] at this; cases this
      | cons x y => rw [List.getLast?_cons_cons, ← hc]; exact this

theorem lasts_of {l : List Oper} (h : fits l = true) : ∃ o, l.getLast? = some o ∧ Lasts l.toArray (calm l).toArray (l.length - 1) o { o with dst := none, op := .move (.const undef) } := by
  unfold fits at h
  rw [Bool.and_eq_true, Bool.and_eq_true] at h
  obtain ⟨⟨h1, h2⟩, h3⟩ := h
  cases ho : l.getLast? with
  | none => rw [ho] at h3; cases h3
  | some o =>
    rw [ho] at h3
    simp only at h3
    have hne : 0 < l.length := by
      cases l with
      | nil => cases ho
      | cons a b => simp
    have hl1 : l[l.length - 1]? = some o := by rw [← List.getLast?_eq_getElem?]; exact ho
    have hl2 := calm_last l o ho
    rw [List.getLast?_eq_getElem?, calm_length] at hl2
    refine ⟨o, rfl, ⟨by simpa using hl1, by simpa using hl2, by simp; omega, by simp [calm_length]; omega, fun i hi => ?_, rfl, rfl, fun i p hp => ?_, fun i p hp e he hb => ?_, fun j hj => ?_⟩⟩
    · by_cases e : i + 1 < l.length
      · simpa using calm_same l i e
      · have : l.length ≤ i := by omega
        simp [List.getElem?_eq_none this, List.getElem?_eq_none (show (calm l).length ≤ i by rw [calm_length]; exact this)]
    · have hp' : l[i]? = some p := by simpa using hp
      have hm := List.all_eq_true.1 h1 p (List.mem_of_getElem? hp')
      rw [Bool.and_eq_true] at hm
      refine ⟨by simpa using hm.1, fun c hc => ?_⟩
      have := hm.2
      rw [hc] at this
      cases this
    · have hp' : l[i]? = some p := by simpa using hp
      have hi : i < l.length := by
        rcases Nat.lt_or_ge i l.length with x | x
        · exact x
        · rw [List.getElem?_eq_none x] at hp'; cases hp'
      have hm := List.all_eq_true.1 h2 i (List.mem_range.2 hi)
      rw [hp'] at hm
      have hm2 := (Array.all_eq_true_iff_forall_mem.1 hm) e he
      rw [hb] at hm2
      simpa using hm2
    · have hm := List.all_eq_true.1 h3 j (List.mem_range.2 hj)
      obtain ⟨e, he, hb⟩ := Array.any_eq_true'.1 hm
      rw [Bool.and_eq_true] at hb
      exact ⟨e, he, hb.1, by simpa using hb.2⟩

end Go.Proofs.Ythkibjhhlcfceai.Itr
