/-
  hornref1.Count: by its contract.
-/
import Derived.Test.YtjnmogmagngenaiGreatDoorCh01
import Derived.Test.YtjnmogmagngenaiGreatDoorCh04
import Derived.Deep.QuietTactic
import Derived.BigQuiet
import Derived.BigRegion
import Derived.Deep.WholeRow
import Derived.Laws.CopyOwn
import Derived.Test.YtjnmogmagngenaiGreatDoorCh02
import Derived.Test.YtjnmogmagngenaiGreatDoorCh27
import Derived.Test.YtjnmogmagngenaiGreatDoorCh20
import Derived.Deep.CutBlock
namespace Go.Proofs.YtjnmogmagngenaiGreatDoor.Cnt
open Go.RowKit
open Go.Proofs.YtjnmogmagngenaiGreatDoor.Tre
set_option linter.unusedVariables false

/-- Nine numbers in memory. -/
def nine (f : Nat → Int) : Array Value := ((upto f 9).map (Value.int .i64)).toArray
theorem nine_size (f : Nat → Int) : (nine f).size = 9 := by simp [nine, upto_length]
theorem nine_at (f : Nat → Int) {j : Nat} (h : j < 9) : (nine f)[j]? = some (.int .i64 (f j)) := by simp [nine, upto, h]
theorem nine_set (f : Nat → Int) {j : Nat} (x : Int) : (nine f).setIfInBounds j (.int .i64 x) = nine (fun y => if y = j then x else f y) := by
  apply Array.ext
  · simp [nine_size]
  · intro i h1 h2
    rw [nine_size] at h2
    have e1 := nine_at (fun y => if y = j then x else f y) h2
    have e2 := nine_at f h2
    rw [Array.getElem?_eq_getElem (by rw [nine_size]; exact h2)] at e1 e2
    rw [Option.some.inj e1, Array.getElem_setIfInBounds (by rw [nine_size]; exact h2)]
    by_cases h : j = i
    · subst h; simp
    · rw [if_neg h, Option.some.inj e2, if_neg (fun e => h e.symm)]
theorem nine_congr {f g : Nat → Int} (h : ∀ i, i < 9 → f i = g i) : nine f = nine g := by unfold nine; rw [upto_congr h]
theorem nine_one (f : Nat → Int) : (nine f).all (·.oneCell') = true := by
  rw [Array.all_eq_true_iff_forall_mem]
  intro v hv
  obtain ⟨z, _, rfl⟩ := List.mem_map.1 (by simpa [nine] using hv)
  rfl
def Arr (w : World) (g : Nat) (f : Nat → Int) : Prop := w.heap[g]? = some (.cells (nine f) 127 (0, 0))
theorem Arr.cell {w : World} {g : Nat} {f : Nat → Int} (h : Arr w g f) {j : Nat} (hj : j < 9) : w.cell? ⟨g, j, none⟩ = some (.int .i64 (f j)) := by
  rw [cell_of_row w g j _ _ _ h, nine_at f hj]
theorem Arr.frozen {w : World} {g : Nat} {f : Nat → Int} (h : Arr w g f) (j : Nat) : w.frozen? ⟨g, j, none⟩ = false := frozen_of_row w g j _ _ h
theorem Arr.put {w : World} {g : Nat} {f : Nat → Int} (h : Arr w g f) (j : Nat) (x : Int) : Arr (w.setCell ⟨g, j, none⟩ (.int .i64 x)) g (fun y => if y = j then x else f y) := by
  unfold Arr
  rw [setCell_eq_setRow w g j _ _ _ _ h, setRow_heap w g _ _ _ _ h, nine_set]
theorem Arr.beside {w : World} {g g' : Nat} {f : Nat → Int} (h : Arr w g f) (hne : g ≠ g') (j : Nat) (v : Value) : Arr (w.setCell ⟨g', j, none⟩ v) g f := by
  unfold Arr
  rw [Below.heap_setCell _ _ _ _ hne]
  exact h
theorem Arr.lt {w : World} {g : Nat} {f : Nat → Int} (h : Arr w g f) : g < w.heap.size := (Array.getElem?_eq_some_iff.1 h).1

/-- What is done of one number more: the first j are as they will be, the next one is c. -/
def nx (i j : Nat) (c : Int) : Nat → Int := fun y => if y < j then V y (i + 1) else if y = j then c else 0
/-- As many as are wanted, up to k pulses. -/
def T (k i : Nat) : Nat → Int := fun y => if y < k + 1 then V y i else 0
theorem nx_zero (i : Nat) : nine (nx i 0 0) = nine (fun _ => 0) := nine_congr fun y _ => by simp [nx]
theorem nx_at (i j : Nat) (c : Int) : nx i j c j = c := by simp [nx]
theorem nx_put (i j : Nat) (c x : Int) : (fun y => if y = j then x else nx i j c y) = nx i j x := by
  funext y
  unfold nx
  by_cases h : y = j
  · subst h; simp
  · simp [h]
theorem nx_next (i j : Nat) : nx i j (V j (i + 1)) = nx i (j + 1) 0 := by
  funext y
  unfold nx
  rcases Nat.lt_trichotomy y j with h | h | h
  · rw [if_pos h, if_pos (by omega)]
  · subst h; rw [if_neg (by omega), if_pos rfl, if_pos (by omega)]
  · rw [if_neg (by omega), if_neg (by omega), if_neg (by omega)]; split <;> rfl
theorem nx_end (i k : Nat) : nx i (k + 1) 0 = T k (i + 1) := by
  funext y
  unfold nx T
  by_cases h : y < k + 1
  · rw [if_pos h, if_pos h]
  · rw [if_neg h, if_neg h]; split <;> rfl
theorem T_zero (k : Nat) : nine (T k 0) = #[.int .i64 1, .int .i64 0, .int .i64 0, .int .i64 0, .int .i64 0, .int .i64 0, .int .i64 0, .int .i64 0, .int .i64 0] := by
  have h : nine (T k 0) = nine (fun y => if y = 0 then 1 else 0) := nine_congr fun y _ => by
    unfold T
    cases y with
    | zero => simp [V_zero]
    | succ y => rw [V_none]; simp
  rw [h]; rfl
theorem T_at (k i : Nat) {y : Nat} (h : y ≤ k) : T k i y = V y i := by unfold T; rw [if_pos (by omega)]

theorem sumF_in {f : Nat → Int} {j : Nat} (h : ∀ t, t < j → 0 ≤ f t) : ∀ y, y ≤ j → 0 ≤ sumF f y ∧ sumF f y ≤ sumF f j := by
  have h0 : ∀ y, y ≤ j → 0 ≤ sumF f y := by
    intro y
    induction y with
    | zero => intro _; exact Int.le_refl _
    | succ y ih => intro hy; have := ih (by omega); have := h y (by omega); simp only [sumF]; omega
  have h1 : ∀ d, d ≤ j → sumF f (j - d) ≤ sumF f j := by
    intro d
    induction d with
    | zero => intro _; exact Int.le_refl _
    | succ d ih =>
      intro hd
      have h2 := ih (by omega)
      have h3 := h (j - (d + 1)) (by omega)
      have e : j - d = (j - (d + 1)) + 1 := by omega
      rw [e] at h2
      simp only [sumF] at h2
      omega
  intro y hy
  refine ⟨h0 y hy, ?_⟩
  have := h1 (j - y) (by omega)
  rwa [show j - (j - y) = y by omega] at this

/-- Of the last x. -/
def part (i j x : Nat) : Int := V j i + 2 * (sumF (fun t => V t i) j - sumF (fun t => V t i) (j - x))
theorem part_zero (i j : Nat) : part i j 0 = V j i := by unfold part; rw [Nat.sub_zero]; omega
theorem part_all (i j : Nat) : part i j j = V j (i + 1) := by
  unfold part
  rw [V_more, Nat.sub_self]
  simp only [sumF]
  omega
theorem part_succ (i : Nat) {j x d : Nat} (hd : j = d + (x + 1)) : part i j (x + 1) = part i j x + 2 * V d i := by
  unfold part
  have e1 : j - (x + 1) = d := by omega
  have e2 : j - x = d + 1 := by omega
  rw [e1, e2]
  simp only [sumF]
  omega
theorem part_in {i j : Nat} (hi : i < 6) (hj : j < 9) {x : Nat} (hx : x ≤ j) : 0 ≤ part i j x ∧ part i j x ≤ 20256 := by
  have h := sumF_in (f := fun t => V t i) (j := j) (fun t ht => (V_in t i (by omega) (by omega)).1) (j - x) (by omega)
  have h0 := V_in j i hj (by omega)
  have h1 := V_in j (i + 1) hj (by omega)
  rw [V_more] at h1
  unfold part
  omega

set_option maxRecDepth 100000 in
set_option maxHeartbeats 8000000 in
theorem refCount (n k : Nat) (hn : n ≤ 6) (hk : k ≤ 8) (w : World) :
    Calls Tryz.prog 83 #[.int .i64 n, .int .i64 k] w fun e w' => e = .returned (.int .i64 (V k n)) ∧ Below w.heap.size w w' := by
  have hst : Hid (Arr (w.alloc (.cells #[.int .i64 1, .int .i64 0, .int .i64 0, .int .i64 0, .int .i64 0, .int .i64 0, .int .i64 0, .int .i64 0, .int .i64 0] 127)) w.heap.size (T k 0)) := hide (by unfold Arr; rw [T_zero]; exact heap_alloc_new _ _)
  have hbA : Below w.heap.size w (w.alloc (.cells #[.int .i64 1, .int .i64 0, .int .i64 0, .int .i64 0, .int .i64 0, .int .i64 0, .int .i64 0, .int .i64 0, .int .i64 0] 127)) := (Below.refl _ _).alloc (Nat.le_refl _) _
  go_enter Tryz.func83, Tryz.ntmps83
  go_wp2
  go_loopw [6] (fun i wr => ∃ p : Nat, p ≤ n ∧ i = .int .i64 p ∧ Hid (Arr wr w.heap.size (T k p)) ∧ Below w.heap.size w wr) (fun i _ => n - (intOf i).toNat)
  case atStart => exact ⟨0, Nat.zero_le _, rfl, hst, hbA⟩
  case round =>
    obtain ⟨p, hp, rfl, H0, hB⟩ := hrel
    clear hst hbA
    by_cases hlt : p < n
    · have hsz := (unhide H0).lt
      obtain ⟨g, hg⟩ : ∃ g, g = wr.heap.size := ⟨_, rfl⟩
      have hne : w.heap.size ≠ g := by omega
      have hle : w.heap.size ≤ g := by omega
      have HA : Hid (Arr (wr.alloc (.cells #[.int .i64 0, .int .i64 0, .int .i64 0, .int .i64 0, .int .i64 0, .int .i64 0, .int .i64 0, .int .i64 0, .int .i64 0] 127)) g (nx p 0 0)) := hide (by unfold Arr; rw [nx_zero, hg]; exact heap_alloc_new _ _)
      have HB : Hid (Arr (wr.alloc (.cells #[.int .i64 0, .int .i64 0, .int .i64 0, .int .i64 0, .int .i64 0, .int .i64 0, .int .i64 0, .int .i64 0, .int .i64 0] 127)) w.heap.size (T k p)) := hide (by unfold Arr; rw [heap_alloc_old _ _ hsz]; exact unhide H0)
      have hB1 : Below w.heap.size w (wr.alloc (.cells #[.int .i64 0, .int .i64 0, .int .i64 0, .int .i64 0, .int .i64 0, .int .i64 0, .int .i64 0, .int .i64 0, .int .i64 0] 127)) := hB.alloc (by omega) _
      clear hB H0 hsz
      go_wp2
      rw [← hg]
      go_loopw [8] (fun i wr => ∃ j : Nat, j ≤ k + 1 ∧ i = .int .i64 j ∧ Hid (Arr wr w.heap.size (T k p)) ∧ Hid (Arr wr g (nx p j 0)) ∧ Below w.heap.size w wr) (fun i _ => k + 1 - (intOf i).toNat)
      case atStart => exact ⟨0, Nat.zero_le _, rfl, HB, HA, hB1⟩
      case round =>
        obtain ⟨j, hj, rfl, H0, H1, hB2⟩ := hrel
        clear HA HB hB1 hg
        by_cases hlt2 : j ≤ k
        · have hc0 := (unhide H0).cell (show j < 9 by omega)
          rw [T_at k p hlt2] at hc0
          have hc1 := (unhide H1).cell (show j < 9 by omega)
          have hf1 := (unhide H1).frozen j
          have H2 : Hid (Arr (wr.setCell ⟨g, j, none⟩ (.int .i64 (V j p))) g (nx p j (part p j 0))) := hide (by
            have h := (unhide H1).put j (V j p)
            rw [nx_put] at h
            rw [part_zero]
            exact h)
          have H3 : Hid (Arr (wr.setCell ⟨g, j, none⟩ (.int .i64 (V j p))) w.heap.size (T k p)) := hide ((unhide H0).beside hne _ _)
          have hB3 : Below w.heap.size w (wr.setCell ⟨g, j, none⟩ (.int .i64 (V j p))) := hB2.setCell (p := ⟨g, j, none⟩) hle _
          obtain ⟨Z, hZ⟩ : ∃ Z, V j p = Z := ⟨_, rfl⟩
          rw [hZ] at hc0 H2 H3 hB3
          clear H0 H1 hB2 hZ
          go_wp2
          go_loopw [9] (fun i wr => ∃ x : Nat, x ≤ j ∧ i = .int .i64 (x + 1) ∧ Hid (Arr wr w.heap.size (T k p)) ∧ Hid (Arr wr g (nx p j (part p j x))) ∧ Below w.heap.size w wr) (fun i _ => j + 1 - (intOf i).toNat)
          case atStart => exact ⟨0, Nat.zero_le _, rfl, H3, H2, hB3⟩
          case round =>
            obtain ⟨x, hx, rfl, H4, H5, hB4⟩ := hrel
            clear H2 H3 hB3 hc0 hc1 hf1
            by_cases hlt3 : x < j
            · obtain ⟨d, hd⟩ : ∃ d, j = d + (x + 1) := ⟨j - (x + 1), by omega⟩
              have HS := hide (part_succ p hd)
              have hd9 : d < 9 := by omega
              have hsub : (j : Int) - ((x : Int) + 1) = (d : Int) := by omega
              have hc0 := (unhide H4).cell hd9
              rw [T_at k p (show d ≤ k by omega)] at hc0
              have hc1 := (unhide H5).cell (show j < 9 by omega)
              rw [nx_at] at hc1
              have hf1 := (unhide H5).frozen j
              obtain ⟨x0, x1⟩ := V_in d p hd9 (by omega)
              obtain ⟨y0, y1⟩ := part_in (show p < 6 by omega) (show j < 9 by omega) (show x ≤ j by omega)
              have P1 : Hid (∀ X, X = part p j (x + 1) → Arr (wr.setCell ⟨g, j, none⟩ (.int .i64 X)) g (nx p j (part p j (x + 1)))) := hide (by
                rintro X rfl
                have h := (unhide H5).put j (part p j (x + 1))
                rw [nx_put] at h
                exact h)
              have P2 : Hid (∀ X, Arr (wr.setCell ⟨g, j, none⟩ (.int .i64 X)) w.heap.size (T k p)) := hide (fun X => (unhide H4).beside hne _ _)
              have P3 : Hid (∀ X, Below w.heap.size w (wr.setCell ⟨g, j, none⟩ (.int .i64 X)).drew) := hide (fun X => (hB4.setCell (p := ⟨g, j, none⟩) hle _).trans ⟨rfl, rfl, rfl, Nat.le_refl _, fun _ _ => rfl⟩)
              obtain ⟨X, hX⟩ : ∃ X, V d p = X := ⟨_, rfl⟩
              obtain ⟨Y, hY⟩ : ∃ Y, part p j x = Y := ⟨_, rfl⟩
              rw [hX] at hc0 x0 x1 HS
              rw [hY] at hc1 y0 y1 HS
              have hwm : IntKind.i64.wrap (2 * X) = 2 * X := IntWalk.i64_in _ (by omega)
              have hwa : IntKind.i64.wrap (Y + 2 * X) = Y + 2 * X := IntWalk.i64_in _ (by omega)
              clear hX hY hd H4 H5 hB4
              go_wp2
              go_region
              go_wp2
              go_roundw
              case rel => exact ⟨x + 1, by omega, by go_num, unhide P2 _, unhide P1 _ (unhide HS).symm, unhide P3 _⟩
              case measure => simp [intOf]; omega
            · obtain rfl : x = j := by omega
              rw [part_all, nx_next] at H5
              go_wp2
              go_roundw
              case rel => exact ⟨x + 1, by omega, by go_num, H4, H5, hB4⟩
              case measure => simp [intOf]; omega
        · obtain rfl : j = k + 1 := by omega
          rw [nx_end] at H1
          have hg1 := unhide H1
          have hg0 := unhide H0
          unfold Arr at hg1 hg0
          have hi9 : (Tryz.prog.info? 127).map (·.size) = some 9 := by kernel_rfl
          have hi : (Tryz.prog.info? 127).map (·.size) = some (nine (T k (p + 1))).size := by rw [nine_size]; exact hi9
          have ho : (nine (T k p)).size = (nine (T k (p + 1))).size := by rw [nine_size, nine_size]
          have hall := nine_one (T k (p + 1))
          have G1 := hide hg1
          have G0 := hide hg0
          have HI := hide hi
          have HO := hide ho
          have HL := hide hall
          have HE : Hid (Arr (wr.setRow w.heap.size (nine (T k (p + 1)))) w.heap.size (T k (p + 1))) := hide (setRow_heap _ _ _ _ _ _ hg0)
          have hB5 : Below w.heap.size w (wr.setRow w.heap.size (nine (T k (p + 1)))) := below_setRow hB2 (Nat.le_refl _) _
          clear hg1 hg0 hi ho hall hi9 H0 H1
          go_wp2_with (first
            | (refine wpList_load_row rfl 127 _ rfl g rfl 127 _ _ _ (unhide G1) Tryz.underlying127 rfl (unhide HI) ?_)
            | (refine wpList_store_row rfl 127 _ _ rfl w.heap.size (nine (T k (p + 1))) rfl rfl 127 _ (unhide G0) (unhide HI) (unhide HO) (unhide HL) ?_))
          go_roundw
          case rel => exact ⟨p + 1, by omega, by go_num, HE, hB5⟩
          case measure => simp [intOf]; omega
    · obtain rfl : p = n := by omega
      have hc := (unhide H0).cell (show k < 9 by omega)
      rw [T_at k p (Nat.le_refl _)] at hc
      go_wp2
      go_ret
      exact ⟨rfl, hB⟩

end Go.Proofs.YtjnmogmagngenaiGreatDoor.Cnt

/-
  hornref2.Cost, of sizes and pulses that are right: by its contract.
-/
namespace Go.Proofs.YtjnmogmagngenaiGreatDoor.Shr
open Go.RowKit
open Go.Proofs.YtjnmogmagngenaiGreatDoor.Tre Go.Proofs.YtjnmogmagngenaiGreatDoor.Cnt Go.Proofs.YtjnmogmagngenaiGreatDoor.Bnd
set_option linter.unusedVariables false

theorem cell_shr {w : World} {a : Option Addr} {l : List Int} (h : Row w a l) (h0 : 0 < l.length) : ∃ b off, a = some ⟨b, off, none⟩ ∧ b < w.heap.size ∧ ∀ j, j < l.length → w.cell? ⟨b, off + j, none⟩ = some (.int .i64 (at0 l j)) := by
  obtain ⟨b, off, e, hb, hc⟩ := h.at h0
  exact ⟨b, off, e, hb, fun j hj => (hc j hj).trans (by rw [List.getD_eq_getElem?_getD]; rfl)⟩

set_option maxRecDepth 100000 in
set_option maxHeartbeats 4000000 in
theorem refCost (a : Option Addr) (cap : Nat) (s : List Int) (b : Option Addr) (capb : Nat) (p : List Int) (w : World) (hr : Row w a s) (hp : Row w b p) (h8 : s.length ≤ 8) (hl : p.length = s.length) (hs : Hid (Sizes s)) (hpl : Hid (Pls p)) :
    Calls Tryz.prog 61 #[.slice a s.length cap, .slice b s.length capb] w fun e w' => e = .returned (.int .i64 (cost s p)) ∧ Below w.heap.size w w' := by
  have HL := hide hl
  have HLE : Hid (∀ j, j ≤ s.length → cs s p j ≤ 15 * j) := hide (fun j hj => cs_le (unhide hs) (unhide hpl) hl hj)
  have HC : Hid (cost s p = cs s p s.length) := hide rfl
  obtain ⟨C, hC⟩ : ∃ C, cost s p = C := ⟨_, rfl⟩
  rw [hC] at HC ⊢
  obtain ⟨N, hN⟩ : ∃ N, s.length = N := ⟨_, rfl⟩
  have HN := hide hN
  rw [hN] at h8 HC HLE ⊢
  clear hN hC hl
  go_enter Tryz.func61, Tryz.ntmps61
  go_wp2
  go_loopw [5, 6] (fun n i wr => ∃ j U : Nat, j ≤ N ∧ i = .int .i64 j ∧ n = .int .i64 U ∧ Hid (U = cs s p j) ∧ Below w.heap.size w wr) (fun _ i _ => N - (intOf i).toNat)
  case atStart => exact ⟨0, 0, Nat.zero_le _, rfl, rfl, rfl, Below.refl _ _⟩
  case round =>
    obtain ⟨j, U, hj, rfl, rfl, HU, hB⟩ := hrel
    by_cases hlt : j < N
    · have hj1 : j < s.length := by rw [unhide HN]; exact hlt
      have hj2 : j < p.length := by rw [unhide HL, unhide HN]; exact hlt
      obtain ⟨b1, off1, rfl, _, hc1⟩ := cell_shr (hr.below hB) (by omega)
      obtain ⟨b2, off2, rfl, _, hc2⟩ := cell_shr (hp.below hB) (by omega)
      have c1 := hc1 j hj1
      have c2 := hc2 j hj2
      have g1 := unhide hs j hj1
      have g2 := unhide hpl j hj2
      have HST : Hid (cs s p (j + 1) = U + Bt (at0 p j).toNat (at0 s j).toNat) := hide (by rw [cs, unhide HU])
      have hle := unhide HLE (j + 1) (by omega)
      rw [unhide HST] at hle
      obtain ⟨X, hX⟩ : ∃ X : Nat, at0 s j = X := ⟨(at0 s j).toNat, by omega⟩
      obtain ⟨Y, hY⟩ : ∃ Y : Nat, at0 p j = Y := ⟨(at0 p j).toNat, by omega⟩
      rw [hX] at c1 g1
      rw [hY] at c2 g2
      have eX : (at0 s j).toNat = X := by omega
      have eY : (at0 p j).toNat = Y := by omega
      rw [eX, eY] at HST hle
      have HBI := hide (Bt_is (k := Y) (n := X) (by omega) (by omega))
      have hV := (V_in Y X (by omega) (by omega)).2
      obtain ⟨T, hT⟩ : ∃ T, Bt Y X = T := ⟨_, rfl⟩
      rw [hT] at HST hle HBI
      have HRC : Hid (∀ W, Calls Tryz.prog 83 #[.int .i64 (X : Int), .int .i64 (Y : Int)] W fun e w' => e = .returned (.int .i64 (V Y X)) ∧ Below W.heap.size W w') := hide (fun W => refCount X Y (by omega) (by omega) W)
      have HRB : Hid (∀ W, Calls Tryz.prog 82 #[.int .i64 (V Y X)] W fun e w' => e = .returned (.int .i64 (T : Int)) ∧ w' = W) := hide (fun W => (refBits (V Y X) hV W).mono fun e w' ⟨b, he, hb, hw⟩ => ⟨by rw [he, hb.one (unhide HBI)], hw.symm⟩)
      obtain ⟨Z, hZ⟩ : ∃ Z, V Y X = Z := ⟨_, rfl⟩
      rw [hZ] at HRC HRB
      have wU : IntKind.i64.wrap ((U : Int) + (T : Int)) = ((U + T : Nat) : Int) := by
        have : (U : Int) + (T : Int) = ((U + T : Nat) : Int) := rfl
        rw [this]; exact IntWalk.i64_in _ (by omega)
      obtain ⟨U1, hU1⟩ : ∃ U1, U + T = U1 := ⟨_, rfl⟩
      rw [hU1] at wU HST hle
      have HU1 := hide (unhide HST).symm
      clear hX hY eX eY hT hZ hV hc1 hc2 hj1 hj2 HBI HST HU hU1
      have HBq : Hid (∀ q, Below w.heap.size w (wr.drewN q)) := hide (fun q => hB.trans ⟨rfl, rfl, rfl, Nat.le_refl _, fun _ _ => rfl⟩)
      go_wp2
      go_region_with (first
        | (go_at_call 83; refine (unhide HRC _).mono ?_; rintro e w' ⟨rfl, hb'⟩)
        | (go_at_call 82; refine (unhide HRB _).mono ?_; rintro e w' ⟨rfl, rfl⟩))
      all_goals (
        have hB2 := Below.chain (unhide HBq _) hb'
        clear hB hb' c1 c2
        go_wp2
        go_roundw
        case rel => exact ⟨j + 1, U1, by omega, by go_num, by first | rfl | go_num, HU1, hB2⟩
        case measure => simp [intOf]; omega)
    · obtain rfl : j = N := by omega
      obtain rfl : U = C := by rw [unhide HU, unhide HC]
      go_wp2
      go_ret
      exact ⟨rfl, hB⟩

end Go.Proofs.YtjnmogmagngenaiGreatDoor.Shr

/-
  hornref2.Share, of what is right: by its contract.
-/
namespace Go.Proofs.YtjnmogmagngenaiGreatDoor.Shr
open Go.RowKit
open Go.Proofs.YtjnmogmagngenaiGreatDoor.Tre Go.Proofs.YtjnmogmagngenaiGreatDoor.Cnt Go.Proofs.YtjnmogmagngenaiGreatDoor.Bnd
set_option linter.unusedVariables false

/-- What a slice of this call's own holds, as its cells say. -/
def lst (w : World) (g n : Nat) : List Int := upto (fun j => intOf ((w.cell? ⟨g, j, none⟩).getD undef)) n
theorem lst_is {w : World} {base g n c : Nat} {l : List Int} (h : Has w base (.slice (some ⟨g, 0, none⟩) n c) l) : lst w g n = l := by
  obtain ⟨e, _⟩ := h.inRow rfl
  subst e
  refine eq_of_at (upto_length _ _) fun i hi => ?_
  unfold lst at hi ⊢
  rw [upto_length] at hi
  rw [upto_at _ hi, h.get hi]
  rfl
set_option maxRecDepth 100000 in
set_option maxHeartbeats 16000000 in
theorem refShare (a : Option Addr) (cap : Nat) (s : List Int) (b : Option Addr) (capb : Nat) (d : List Int) (B : Int) (w : World) (hr : Row w a s) (hd : Row w b d) (h0 : 1 ≤ s.length) (h8 : s.length ≤ 8) (hl : d.length = s.length) (hs : Hid (Sizes s)) (hld : Hid (Lds d)) (hB0 : 0 ≤ B) (hB4 : B ≤ 400) :
    Calls Tryz.prog 40 #[.slice a s.length cap, .slice b s.length capb, .int .i64 B] w fun e w' => ∃ v, e = .returned v ∧ Has w' w.heap.size v (share s d B) ∧ Below w.heap.size w w' := by
  have HI0 := hide (inv_zero (d := d) (unhide hs) hB0)
  have HG0 : Hid (go s d B 100 (upto (fun _ => 0) s.length) = share s d B) := hide rfl
  have HS0 : Hid (64 < sm (upto (fun _ => 0) s.length) s.length + ((100 : Nat) : Int)) := hide (by rw [sm_zeros _ _ (Nat.le_refl _)]; omega)
  have HL := hide hl
  have CC := hide (fun (P : List Int) (g : Nat) W (h1 : Row W a s) (h2 : Row W (some ⟨g, 0, none⟩) P) h3 h4 => refCost a cap s (some ⟨g, 0, none⟩) s.length P W h1 h2 h8 h3 hs h4)
  obtain ⟨R, hR⟩ : ∃ R, share s d B = R := ⟨_, rfl⟩
  rw [hR] at HG0 ⊢
  obtain ⟨N, hN⟩ : ∃ N, s.length = N := ⟨_, rfl⟩
  have HN := hide hN
  rw [hN] at h0 h8 HI0 HG0 HS0 CC ⊢
  clear hN hR hl
  go_enter Tryz.func40, Tryz.ntmps40
  go_wp2_with (at_make; refine wpList_mk _ rfl _ rfl N rfl (by omega) ?_; intro w2 hv2 hb2)
  obtain ⟨g, hg⟩ : ∃ g, w.heap.size = g := ⟨_, rfl⟩
  rw [hg] at hv2 ⊢
  have hg0 : w.heap.size ≤ g := by omega
  have hmv : Has w2 w.heap.size (.slice (some ⟨g, 0, none⟩) N N) (upto (fun _ => 0) N) := by rw [hg]; exact hv2
  rw [← hg]
  clear hv2
  rw [hg]
  have HGG := hide hg
  clear hg
  go_wp2
  go_loopw [8] (fun _ wr => ∃ (O : List Int) (f : Nat), Has wr w.heap.size (.slice (some ⟨g, 0, none⟩) N N) O ∧ Hid (Inv s d B O) ∧ Hid (go s d B f O = R) ∧ Hid (64 < sm O N + (f : Int)) ∧ Below w.heap.size w wr) (fun _ wr => (64 - sm (lst wr g N) N).toNat)
  case atStart => exact ⟨_, 100, hmv, HI0, HG0, HS0, hb2⟩
  case round =>
    obtain ⟨O, f, hv, HI, HG, HF, hB⟩ := hrel
    clear hmv HI0 HG0 HS0 hb2
    have HOL : Hid (O.length = N) := hide ((unhide HI).len.trans (unhide HN))
    have HLS := hide (lst_is hv)
    have HB0 : Hid (bst s d O B 0 = none) := hide rfl
    have HPL : Hid (Pls O) := hide (unhide HI).pls
    have HCR : Hid (∀ W, Below w.heap.size w W → Row W a s) := hide (fun W h => hr.below h)
    have HCD : Hid (∀ j, j < N → ∀ W, Below w.heap.size w W → ∃ b1 off1, b = some ⟨b1, off1, none⟩ ∧ W.cell? ⟨b1, off1 + j, none⟩ = some (.int .i64 (at0 d j))) := hide (fun j hj W h => by
      obtain ⟨b1, off1, e, _, hc⟩ := cell_shr (hd.below h) (by rw [unhide HL, unhide HN]; omega)
      exact ⟨b1, off1, e, hc j (by rw [unhide HL, unhide HN]; exact hj)⟩)
    have HDB : Hid (∀ j, j < N → 0 ≤ at0 d j ∧ at0 d j ≤ 8000) := hide (fun j hj => unhide hld j (by rw [unhide HL, unhide HN]; exact hj))
    have HOB : Hid (∀ j, j < N → 0 ≤ at0 O j ∧ at0 O j ≤ 8) := hide (fun j hj => unhide HPL j (by rw [unhide HOL]; exact hj))
    go_wp2
    go_loopw [8, 9] (fun z i wr => ∃ (j : Nat) (Z : Int), j ≤ N ∧ i = .int .i64 j ∧ z = .int .i64 Z ∧ Hid (bv (bst s d O B j) = Z) ∧ Has wr w.heap.size (.slice (some ⟨g, 0, none⟩) N N) O ∧ Below w.heap.size w wr) (fun _ i _ => N - (intOf i).toNat)
    case atStart => exact ⟨0, -1, Nat.zero_le _, rfl, rfl, hide rfl, hv, hB⟩
    case round =>
      clear hv hB
      obtain ⟨j, Z, hj, rfl, rfl, HZ, hv, hB⟩ := hrel
      by_cases hlt : j < N
      · obtain ⟨b1, off1, rfl, c1⟩ := unhide HCD j hlt wr hB
        obtain ⟨d0, d9⟩ := unhide HDB j hlt
        obtain ⟨o0, o9⟩ := unhide HOB j hlt
        have c2 := hv.get (j := j) (by rw [unhide HOL]; exact hlt)
        have f2 := hv.frozen j
        have HNC : Hid (¬ Can s d O B j → bv (bst s d O B (j + 1)) = Z) := hide (fun h => by rw [bst_can h]; exact unhide HZ)
        have HIA : Hid (at0 (inc O j) j = at0 O j + 1) := hide (inc_at (by rw [unhide HOL]; exact hlt))
        have HID : Hid ((inc O j).set j (at0 O j) = O) := hide inc_dec
        have HIN : Hid (O.set j (at0 O j + 1) = inc O j) := hide rfl
        have HIP : Hid (at0 O j ≠ 8 → Pls (inc O j)) := hide (fun h => inc_pls (unhide HPL) (by rw [unhide HOL]; exact hlt) h)
        have HCN : Hid (at0 d j ≠ 0 → at0 O j ≠ 8 → (cost s (inc O j) : Int) ≤ B → Can s d O B j) := hide (fun h1 h2 h3 => ⟨h1, h2, h3⟩)
        have HCX : Hid (Can s d O B j → at0 d j ≠ 0 ∧ at0 O j ≠ 8 ∧ (cost s (inc O j) : Int) ≤ B) := hide (fun h => h)
        have HOV : Hid (∀ q, Over d O j q ↔ at0 d q * (at0 O j + 1) * (at0 O j + 1) < at0 d j * (at0 O q + 1) * (at0 O q + 1)) := hide (fun q => Iff.rfl)
        obtain ⟨D, hD⟩ : ∃ D, at0 d j = D := ⟨_, rfl⟩
        obtain ⟨P, hP⟩ : ∃ P, at0 O j = P := ⟨_, rfl⟩
        rw [hD] at c1 d0 d9 HCN HCX HOV
        rw [hP] at c2 o0 o9 HIA HID HIN HIP HCN HCX HOV
        have HPP := hide hP
        have HDD := hide hD
        clear hD hP
        by_cases hD0 : D = 0
        · have dD : (D == 0) = true := by rw [hD0]; rfl
          have HZ2 := hide (unhide HNC (fun h => (unhide HCX h).1 hD0))
          clear hD0 HNC HIA HID HIN HIP HCN HCX HOV
          go_wp2
          go_roundw
          case rel => exact ⟨j + 1, Z, by omega, by go_num, rfl, HZ2, hv, hB⟩
          case measure => simp [intOf]; omega
        · have dD : (D == 0) = false := by rw [beq_eq_false_iff_ne]; exact hD0
          by_cases hP8 : P = 8
          · have dP : (P == 8) = true := by rw [hP8]; rfl
            have HZ2 := hide (unhide HNC (fun h => (unhide HCX h).2.1 hP8))
            clear hD0 hP8 HNC HIA HID HIN HIP HCN HCX HOV
            go_wp2
            go_roundw
            case rel => exact ⟨j + 1, Z, by omega, by go_num, rfl, HZ2, hv, hB⟩
            case measure => simp [intOf]; omega
          · have dP : (P == 8) = false := by rw [beq_eq_false_iff_ne]; exact hP8
            have HPI := hide (unhide HIP hP8)
            obtain ⟨m1, m2⟩ := hv.put j (P + 1)
            rw [unhide HIN] at m1
            have hB1 : Below w.heap.size w (wr.setCell ⟨g, j, none⟩ (.int .i64 (P + 1))) := Below.setCell (p := ⟨g, j, none⟩) hB hg0 _
            have wP : IntKind.i64.wrap (P + 1) = P + 1 := IntWalk.i64_in _ (by omega)
            have wP2 : IntKind.i64.wrap (P + 1 - 1) = P := by rw [show P + 1 - 1 = P by omega]; exact IntWalk.i64_in _ (by omega)
            have hcc := unhide CC (inc O j) g _ (unhide HCR _ hB1) (m1.inRow rfl).2 (by rw [inc_length]; exact unhide HOL) HPI
            have HIL : Hid ((inc O j).length = N) := hide (by rw [inc_length]; exact unhide HOL)
            obtain ⟨C, hC⟩ : ∃ C, cost s (inc O j) = C := ⟨_, rfl⟩
            rw [hC] at hcc HCN HCX
            have M1 := hide m1
            have HB1 := hide hB1
            clear hC m1 m2 hB1 HPI HIP hv
            go_wp2_with fail
            refine hcc.mono ?_
            clear hcc
            rintro e w3 ⟨rfl, hb3⟩
            have k3 := (unhide M1).below hb3
            have hB3 := Below.chain (unhide HB1) hb3
            have c3 := k3.get (j := j) (by rw [unhide HIL]; exact hlt)
            rw [unhide HIA] at c3
            have f3 := k3.frozen j
            obtain ⟨m3, m4⟩ := k3.put j P
            rw [unhide HID] at m3
            have hB4' : Below w.heap.size w (w3.setCell ⟨g, j, none⟩ (.int .i64 P)) := Below.setCell (p := ⟨g, j, none⟩) hB3 hg0 _
            obtain ⟨w4, hw4⟩ : ∃ w4, w3.setCell ⟨g, j, none⟩ (.int .i64 P) = w4 := ⟨_, rfl⟩
            rw [hw4] at m3 hB4'
            have c4 := m3.get (j := j) (by rw [unhide HOL]; exact hlt)
            rw [unhide HPP] at c4
            obtain ⟨b4, off4, e4, c5⟩ := unhide HCD j hlt w4 hB4'
            rw [unhide HDD] at c5
            cases e4
            have HC5 := hide c5
            clear m4 k3 M1 HB1 hb3 HIA HID HIN HIL c1 c2 f2 hB c5
            go_upto_region 10 with fail
            clear hw4 hB3 c3 f3
            by_cases hCB : (C : Int) ≤ B
            · have dC : decide (B < (C : Int)) = false := by simp; omega
              have HCA := hide (unhide HCN hD0 hP8 hCB)
              clear HNC HCN HCX hD0 hP8 hCB
              cases hb : bst s d O B j with
              | none =>
                obtain rfl : Z = -1 := by rw [← unhide HZ, hb]; rfl
                have HZ2 : Hid (bv (bst s d O B (j + 1)) = (j : Int)) := hide (by rw [bst_first (unhide HCA) hb]; rfl)
                clear hb HZ HCA HOV
                go_wp2
                go_roundw
                case rel => exact ⟨j + 1, j, by omega, by go_num, by first | rfl | go_num, HZ2, m3, hB4'⟩
                case measure => simp [intOf]; omega
              | some q =>
                obtain rfl : Z = (q : Int) := by rw [← unhide HZ, hb]; rfl
                have hq := (bst_lt hb).1
                have hqN : q < N := by omega
                have c6 := m3.get (j := q) (by rw [unhide HOL]; exact hqN)
                obtain ⟨b6, off6, e6, c7⟩ := unhide HCD q hqN w4 hB4'
                cases e6
                have HOQ := hide (unhide HOV q)
                have HZO : Hid (Over d O j q → bv (bst s d O B (j + 1)) = (j : Int)) := hide (fun h => by rw [bst_over (unhide HCA) hb h]; rfl)
                have HZS : Hid (¬ Over d O j q → bv (bst s d O B (j + 1)) = (q : Int)) := hide (fun h => by rw [bst_stay (unhide HCA) hb h]; rfl)
                obtain ⟨g0, g9⟩ := unhide HDB q hqN
                obtain ⟨h0', h9'⟩ := unhide HOB q hqN
                obtain ⟨E, hE⟩ : ∃ E, at0 d q = E := ⟨_, rfl⟩
                obtain ⟨Q, hQ⟩ : ∃ Q, at0 O q = Q := ⟨_, rfl⟩
                rw [hE] at c7 g0 g9 HOQ
                rw [hQ] at c6 h0' h9' HOQ
                have c8 := unhide HC5
                clear hE hQ hb HZ HCA HOV HC5
                obtain ⟨A1, hA1⟩ : ∃ A, P + 1 = A := ⟨_, rfl⟩
                obtain ⟨B1, hB1⟩ : ∃ A, Q + 1 = A := ⟨_, rfl⟩
                have wA : IntKind.i64.wrap (P + 1) = A1 := by rw [← hA1]; exact IntWalk.i64_in _ (by omega)
                have wB : IntKind.i64.wrap (Q + 1) = B1 := by rw [← hB1]; exact IntWalk.i64_in _ (by omega)
                have a0' : 1 ≤ A1 ∧ A1 ≤ 9 := by omega
                have b0' : 1 ≤ B1 ∧ B1 ≤ 9 := by omega
                rw [hA1, hB1] at HOQ
                obtain ⟨X1, hX1⟩ : ∃ X, D * B1 = X := ⟨_, rfl⟩
                obtain ⟨X2, hX2⟩ : ∃ X, X1 * B1 = X := ⟨_, rfl⟩
                obtain ⟨Y1, hY1⟩ : ∃ X, E * A1 = X := ⟨_, rfl⟩
                obtain ⟨Y2, hY2⟩ : ∃ X, Y1 * A1 = X := ⟨_, rfl⟩
                rw [hX1, hX2, hY1, hY2] at HOQ
                have x1 : 0 ≤ X1 ∧ X1 ≤ 72000 := by
                  rw [← hX1]
                  exact ⟨Int.mul_nonneg (by omega) (by omega), by have := Int.mul_le_mul (a := D) (b := B1) (c := 8000) (d := 9) (by omega) (by omega) (by omega) (by omega); omega⟩
                have x2 : 0 ≤ X2 ∧ X2 ≤ 648000 := by
                  rw [← hX2]
                  exact ⟨Int.mul_nonneg (by omega) (by omega), by have := Int.mul_le_mul (a := X1) (b := B1) (c := 72000) (d := 9) (by omega) (by omega) (by omega) (by omega); omega⟩
                have y1 : 0 ≤ Y1 ∧ Y1 ≤ 72000 := by
                  rw [← hY1]
                  exact ⟨Int.mul_nonneg (by omega) (by omega), by have := Int.mul_le_mul (a := E) (b := A1) (c := 8000) (d := 9) (by omega) (by omega) (by omega) (by omega); omega⟩
                have y2 : 0 ≤ Y2 ∧ Y2 ≤ 648000 := by
                  rw [← hY2]
                  exact ⟨Int.mul_nonneg (by omega) (by omega), by have := Int.mul_le_mul (a := Y1) (b := A1) (c := 72000) (d := 9) (by omega) (by omega) (by omega) (by omega); omega⟩
                have w1' : IntKind.i64.wrap (D * B1) = X1 := by rw [hX1]; exact IntWalk.i64_in _ (by omega)
                have w2' : IntKind.i64.wrap (X1 * B1) = X2 := by rw [hX2]; exact IntWalk.i64_in _ (by omega)
                have w3' : IntKind.i64.wrap (E * A1) = Y1 := by rw [hY1]; exact IntWalk.i64_in _ (by omega)
                have w4' : IntKind.i64.wrap (Y1 * A1) = Y2 := by rw [hY2]; exact IntWalk.i64_in _ (by omega)
                have dq : decide ((q : Int) < 0) = false := by simp
                have HB5 : Hid (∀ n, Below w.heap.size w (w4.drewN n)) := hide (fun n => hB4'.trans ⟨rfl, rfl, rfl, Nat.le_refl _, fun _ _ => rfl⟩)
                have HM5 : Hid (∀ n, Has (w4.drewN n) w.heap.size (.slice (some ⟨g, 0, none⟩) N N) O) := hide (fun n => m3)
                clear hX1 hX2 hY1 hY2 hA1 hB1 wP wP2
                by_cases hov : Y2 < X2
                · have dO : decide (Y2 < X2) = true := by simpa using hov
                  have HZ2 := hide (unhide HZO ((unhide HOQ).2 hov))
                  clear HOQ HZO HZS hov
                  go_wp2
                  go_quiet (fail)
                  go_wp2
                  go_roundw
                  case rel => exact ⟨j + 1, j, by omega, by go_num, by first | rfl | go_num, HZ2, unhide HM5 _, unhide HB5 _⟩
                  case measure => simp [intOf]; omega
                · have dO : decide (Y2 < X2) = false := by simpa using hov
                  have HZ2 := hide (unhide HZS (fun h => hov ((unhide HOQ).1 h)))
                  clear HOQ HZO HZS hov
                  go_wp2
                  go_quiet (fail)
                  go_wp2
                  go_roundw
                  case rel => exact ⟨j + 1, q, by omega, by go_num, by first | rfl | go_num, HZ2, unhide HM5 _, unhide HB5 _⟩
                  case measure => simp [intOf]; omega
            · have dC : decide (B < (C : Int)) = true := by simp; omega
              have HZ2 := hide (unhide HNC (fun h => hCB (unhide HCX h).2.2))
              clear hD0 hP8 hCB HNC HCN HCX HOV
              go_wp2
              go_roundw
              case rel => exact ⟨j + 1, Z, by omega, by go_num, rfl, HZ2, m3, hB4'⟩
              case measure => simp [intOf]; omega
      · obtain rfl : j = N := by omega
        cases hb : bst s d O B j with
        | none =>
          obtain rfl : Z = -1 := by rw [← unhide HZ, hb]; rfl
          have e : O = R := by rw [← unhide HG, go_none (by rw [unhide HN]; exact hb)]
          rw [e] at hv
          clear hb HZ e
          go_wp2
          go_ret
          exact ⟨_, rfl, hv, hB⟩
        | some q =>
          obtain rfl : Z = (q : Int) := by rw [← unhide HZ, hb]; rfl
          obtain ⟨hq, hcan⟩ := bst_lt hb
          have HI2 := hide (inv_inc (unhide HI) (by rw [unhide HN]; exact hq) hcan)
          have hs1 := sm_le (unhide HPL) (j := j) (by rw [unhide HOL]; exact Nat.le_refl _)
          have hs2 := sm_le (unhide HI2).pls (j := j) (by rw [inc_length, unhide HOL]; exact Nat.le_refl _)
          have hs3 := sm_inc (o := O) (b := q) (j := j) (by rw [unhide HOL]; exact Nat.le_refl _)
          rw [if_pos hq] at hs3
          have hf := unhide HF
          obtain ⟨f', rfl⟩ : ∃ f', f = f' + 1 := ⟨f - 1, by omega⟩
          have HG2 : Hid (go s d B f' (inc O q) = R) := hide (by rw [← go_some (by rw [unhide HN]; exact hb)]; exact unhide HG)
          have HF2 : Hid (64 < sm (inc O q) j + (f' : Int)) := hide (by rw [hs3]; omega)
          have HM : Hid (sm (inc O q) j = sm O j + 1 ∧ sm O j + 1 ≤ 64) := hide ⟨hs3, by omega⟩
          obtain ⟨q0, q9⟩ := unhide HOB q hq
          have c1 := hv.get (j := q) (by rw [unhide HOL]; exact hq)
          have f1 := hv.frozen q
          have HIN : Hid (O.set q (at0 O q + 1) = inc O q) := hide rfl
          obtain ⟨Q, hQ⟩ : ∃ Q, at0 O q = Q := ⟨_, rfl⟩
          rw [hQ] at c1 HIN q0 q9
          obtain ⟨m1, m2⟩ := hv.put q (Q + 1)
          rw [unhide HIN] at m1
          have hB1 : Below w.heap.size w (wr.setCell ⟨g, q, none⟩ (.int .i64 (Q + 1))) := Below.setCell (p := ⟨g, q, none⟩) hB hg0 _
          have wQ : IntKind.i64.wrap (Q + 1) = Q + 1 := IntWalk.i64_in _ (by omega)
          have dq : decide ((q : Int) < 0) = false := by simp
          have M1 := hide m1
          have HB1 := hide hB1
          have HL1 := hide (lst_is m1)
          clear hb HZ hcan hs1 hs2 hs3 hf hQ HG HF HI m1 m2 hB1 hv hB
          go_wp2
          go_roundw
          case rel => exact ⟨_, f', unhide M1, HI2, HG2, HF2, unhide HB1⟩
          case measure =>
            rw [unhide HL1, unhide HLS]
            have := unhide HM
            omega

end Go.Proofs.YtjnmogmagngenaiGreatDoor.Shr
