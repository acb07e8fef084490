/-
  frame.PulsesFor, at gains that there are: by its contracts.
-/
import Derived.Test.YthkibjhhlcfceaiDoorCh05
import Derived.Test.YthkibjhhlcfceaiDoorCh14
import Derived.Test.YthkibjhhlcfceaiDoorCh15
import Derived.Test.YthkibjhhlcfceaiDoorCh20
import Derived.Test.YthkibjhhlcfceaiDoorCh17
import Derived.Test.YthkibjhhlcfceaiDoorCh02
import Derived.Test.YthkibjhhlcfceaiDoorCh11
namespace Go.Proofs.YthkibjhhlcfceaiDoor.Frm
open Go.RowKit
open Go.Proofs.YthkibjhhlcfceaiDoor.Tre Go.Proofs.YthkibjhhlcfceaiDoor.Bnd Go.Proofs.YthkibjhhlcfceaiDoor.Pls Go.Proofs.YthkibjhhlcfceaiDoor.Gai Go.Proofs.YthkibjhhlcfceaiDoor.Shr Go.Proofs.YthkibjhhlcfceaiDoor.Lap Go.Proofs.YthkibjhhlcfceaiDoor.Mid
set_option linter.unusedVariables false

/-- What pulsesFor tells. -/
def PfSays (ps : List Prt) (s : List Int) (B : Int) (w : World) (e : Ending) (w' : World) : Prop :=
  ((¬ (0 ≤ B ∧ B ≤ 400) ∧ e = .returned (.tuple #[.slice none 0 0, .iface 47 (.int .i64 1)])) ∨ ((0 ≤ B ∧ B ≤ 400) ∧ ∃ v, e = .returned (.tuple #[v, .nilIface]) ∧ Has w' w.heap.size v (given (gns ps) s B))) ∧ Below w.heap.size w w'

set_option maxRecDepth 100000 in
set_option maxHeartbeats 4000000 in
theorem pulsesFor (a : Option Addr) (cap : Nat) (ps : List Prt) (b : Option Addr) (capb : Nat) (s : List Int) (B : Int) (w : World) (hp : Pts w a ps) (hr : Row w b s) (h1 : Hid (bf s = 0)) (hl : ps.length = s.length) (hg : Hid (∀ i, i < ps.length → gok (prt ps i).1 = true)) :
    Calls Tryd.prog 19 #[.slice a ps.length cap, .slice b s.length capb, .int .i64 B] w fun e w' => PfSays ps s B w e w' := by
  obtain ⟨n0, n8, hsz, n32⟩ := bf_ok (unhide h1)
  have HLD := vals_lds (gs := gns ps) (fun i hi => by rw [gns_length] at hi; rw [gns_at hi]; exact unhide hg i hi)
  have HVL : Hid ((vals (gns ps)).length = s.length) := hide (by rw [vals_length, gns_length, hl])
  have COK := hide (fun W q c h1' h2 (h : 0 ≤ B ∧ B ≤ 400) => of_ok b capb s q c (vals (gns ps)) B W h1' h2 (hide (ofF_zero.2 ⟨unhide h1, unhide HVL, HLD, h.1, h.2⟩)))
  have HOF : Hid (¬ (0 ≤ B ∧ B ≤ 400) → ofF s (vals (gns ps)) B = 1) := hide (fun h => by
    unfold ofF
    rw [if_pos (unhide h1), if_pos (unhide HVL)]
    split
    · rfl
    · rw [if_pos (by omega)])
  have CNO := hide (fun W q c h1' h2 (h : ¬ (0 ≤ B ∧ B ≤ 400)) => of_no b capb s q c (vals (gns ps)) B 1 W h1' h2 (by omega) (by rw [unhide HVL]; omega) (hide (unhide HOF h)) (hide (by omega)))
  have HUP : Hid (upto (fun i => (vl (at0 (gns ps) i).toNat : Int)) s.length = vals (gns ps)) := hide (by rw [vals_upto (gns ps), gns_length, hl])
  have HVA : Hid (∀ k, k < s.length → (vl (at0 (gns ps) k).toNat : Int) = vlN (prt ps k).1) := hide (fun k hk => by
    rw [gns_at (by rw [hl]; exact hk), vlN_ok (unhide hg k (by rw [hl]; exact hk))])
  have PNO : Hid (¬ (0 ≤ B ∧ B ≤ 400) → ∀ w', Below w.heap.size w w' → PfSays ps s B w (.returned (.tuple #[.slice none 0 0, .iface 47 (.int .i64 1)])) w') := hide (fun h w' hb => ⟨Or.inl ⟨h, rfl⟩, hb⟩)
  have POK : Hid (0 ≤ B ∧ B ≤ 400 → ∀ v w', Has w' w.heap.size v (share s (vals (gns ps)) B) → Below w.heap.size w w' → PfSays ps s B w (.returned (.tuple #[v, .nilIface])) w') := hide (fun h v w' hv hb => ⟨Or.inr ⟨h, v, rfl, hv⟩, hb⟩)
  obtain ⟨ds, hds⟩ : ∃ ds, vals (gns ps) = ds := ⟨_, rfl⟩
  rw [hds] at HVL COK CNO HUP POK
  obtain ⟨f, hf⟩ : ∃ f : Nat → Int, (fun i => (vl (at0 (gns ps) i).toNat : Int)) = f := ⟨_, rfl⟩
  have HVF : Hid (∀ k, k < s.length → f k = vlN (prt ps k).1) := hide (fun k hk => by rw [← hf]; exact unhide HVA k hk)
  rw [hf] at HUP
  obtain ⟨N, hN⟩ : ∃ N, s.length = N := ⟨_, rfl⟩
  have HPN : Hid (ps.length = N) := hide (hl.trans hN)
  rw [hN] at COK CNO HVL HUP HVF n8 n0
  rw [hl, hN]
  have HOK : Hid (∀ k, k < N → gok (prt ps k).1 = true) := hide (fun k hk => unhide hg k (by rw [unhide HPN]; exact hk))
  clear hds hf HVA HOF HLD hsz n32 hN hl h1 hg
  go_enter Tryd.func19, Tryd.ntmps19
  go_wp2_with (at_make; refine wpList_mk _ rfl _ rfl N rfl (by omega) ?_; intro w2 k2 hb2)
  rw [← mid_zero f] at k2
  go_loopw [18] (fun i wr => ∃ k : Nat, k ≤ N ∧ i = .int .i64 k ∧ Has wr w.heap.size (.slice (some ⟨w.heap.size, 0, none⟩) N N) (mid f (fun _ => 0) N k) ∧ Below w.heap.size w wr) (fun i _ => N - (intOf i).toNat)
  case atStart => exact ⟨0, Nat.zero_le _, rfl, k2, hb2⟩
  case round =>
    obtain ⟨k, hk, rfl, hv, hB⟩ := hrel
    clear k2 hb2
    by_cases hlt : k < N
    · have hlt' : k < ps.length := by rw [unhide HPN]; exact hlt
      obtain ⟨b1, off1, rfl, hb1, hc1⟩ := (hp.below hB).at hlt'
      obtain ⟨x1, A, C, x2, x3, x4, x5, x6⟩ := hc1 k hlt'
      have CV := hide (fun W => valueOk (prt ps k).1 W (hide (unhide HOK k hlt)))
      have HF := hide (unhide HVF k hlt)
      obtain ⟨G, hG⟩ : ∃ G, (prt ps k).1 = G := ⟨_, rfl⟩
      rw [hG] at x1 CV HF
      obtain ⟨V, hV⟩ : ∃ V, vlN G = V := ⟨_, rfl⟩
      rw [hV] at CV HF
      obtain ⟨L, hL⟩ : ∃ L, (prt ps k).2.length = L := ⟨_, rfl⟩
      rw [hL] at x2
      clear hc1 hG hV hL hlt' x3 x4 x5 x6
      have hv2 := hv.alloc (.cells #[.int .i64 G, .slice A L C] 29)
      have hB2 := hB.alloc hB.size (.cells #[.int .i64 G, .slice A L C] 29)
      have c2 := hv2.get (j := k) (by rw [mid_length]; exact hlt)
      rw [mid_at _ _ hlt] at c2
      have f2 := hv2.frozen k
      obtain ⟨m1, m2⟩ := hv2.put k V
      have HS := mid_set f (fun _ => 0) hlt
      rw [unhide HF] at HS
      rw [HS] at m1
      have m4 := Below.setCell (p := ⟨w.heap.size, k, none⟩) hB2 (Nat.le_refl _) (.int .i64 V)
      have M1 := hide m1
      have M4 := hide m4
      clear hv hB HS m1 m2 m4 HF hv2 hB2
      go_wp2_with fail
      refine (unhide CV _).mono ?_
      rintro e w5 ⟨rfl, rfl⟩
      clear CV
      go_wp2
      go_roundw
      case rel => exact ⟨k + 1, by omega, by go_num, unhide M1, unhide M4⟩
      case measure => simp [intOf]; omega
    · obtain rfl : k = N := by omega
      rw [mid_all, unhide HUP] at hv
      obtain ⟨p, q, ee, hrow⟩ := hv.row
      obtain ⟨ea, eb, ec⟩ := Value.slice.inj ee
      subst ea ec
      by_cases h4 : 0 ≤ B ∧ B ≤ 400
      · have c := unhide COK wr _ k (hr.below hB) hrow h4
        have HP := hide (unhide POK h4)
        rw [unhide HVL] at c
        clear COK CNO PNO POK hv ee eb
        go_wp2_with fail
        refine c.mono ?_
        clear c
        rintro e w2 ⟨v2, rfl, k2, hb2⟩
        obtain ⟨p9, n9, q9, rfl⟩ := k2.shape
        go_wp2
        go_ret2
        exact unhide HP _ _ (k2.mono hB.size) (Below.chain hB hb2)
      · have c := unhide CNO wr _ k (hr.below hB) hrow h4
        have HP := hide (unhide PNO h4)
        rw [unhide HVL] at c
        clear COK CNO PNO POK hv ee eb h4
        go_wp2_with fail
        refine c.mono ?_
        clear c
        rintro e w2 ⟨rfl, hb2⟩
        go_wp2
        go_ret2
        exact unhide HP _ (Below.chain hB hb2)

end Go.Proofs.YthkibjhhlcfceaiDoor.Frm

/-
  Places in order of the greatest rests, by insertion. No program here.
-/
namespace Go.Proofs.YthkibjhhlcfceaiDoor.Nea
open Go.Proofs.YthkibjhhlcfceaiDoor.Tre Go.Proofs.YthkibjhhlcfceaiDoor.Pls
set_option linter.unusedVariables false

/-- Each place once. -/
def Bij (s : Nat → Nat) (n : Nat) : Prop := (∀ t, t < n → s t < n) ∧ (∀ a b, a < n → b < n → s a = s b → a = b) ∧ ∀ i, i < n → ∃ t, t < n ∧ s t = i
def swp (s : Nat → Nat) (j t : Nat) : Nat := if t = j then s (j + 1) else if t = j + 1 then s j else s t
theorem swp_l (s : Nat → Nat) (j : Nat) : swp s j j = s (j + 1) := by simp [swp]
theorem swp_r (s : Nat → Nat) (j : Nat) : swp s j (j + 1) = s j := by simp [swp]
theorem swp_o (s : Nat → Nat) {j t : Nat} (h : t ≠ j) (h' : t ≠ j + 1) : swp s j t = s t := by simp [swp, h, h']
theorem Bij.swap {s : Nat → Nat} {n j : Nat} (h : Bij s n) (hj : j + 1 < n) : Bij (swp s j) n := by
  obtain ⟨h1, h2, h3⟩ := h
  refine ⟨fun t ht => ?_, fun a b ha hb e => ?_, fun i hi => ?_⟩
  · unfold swp; split
    · exact h1 _ hj
    · split
      · exact h1 _ (by omega)
      · exact h1 _ ht
  · have q1 := h2 j (j + 1) (by omega) hj
    have q2 := h2 a j ha (by omega)
    have q3 := h2 a (j + 1) ha hj
    have q4 := h2 b j hb (by omega)
    have q5 := h2 b (j + 1) hb hj
    have q6 := h2 a b ha hb
    unfold swp at e
    split at e <;> split at e <;> (try split at e) <;> (try split at e) <;> omega
  · obtain ⟨t, ht, e⟩ := h3 i hi
    by_cases e1 : t = j
    · exact ⟨j + 1, hj, by rw [swp_r, ← e1, e]⟩
    · by_cases e2 : t = j + 1
      · exact ⟨j, by omega, by rw [swp_l, ← e2, e]⟩
      · exact ⟨t, ht, by rw [swp_o s e1 e2, e]⟩

/-- The first i are in order, the others stand where they stood. -/
def Ins (r : Nat → Nat) (s : Nat → Nat) (n i : Nat) : Prop := Bij s n ∧ (∀ t, i ≤ t → t < n → s t = t) ∧ (∀ t, t < i → s t < i) ∧ ∀ a b, a < b → b < i → Beats r (s a) (s b)
/-- .. and i is on its way, at place j. -/
def InsJ (r : Nat → Nat) (s : Nat → Nat) (n i j : Nat) : Prop := i < n ∧ j ≤ i ∧ Bij s n ∧ (∀ t, i < t → t < n → s t = t) ∧ s j = i ∧ (∀ t, t ≤ i → t ≠ j → s t < i) ∧
  (∀ a b, a < b → b ≤ i → a ≠ j → b ≠ j → Beats r (s a) (s b)) ∧ ∀ t, j < t → t ≤ i → Beats r i (s t)
theorem ins_start (r : Nat → Nat) (n : Nat) : Ins r (fun t => t) n 1 :=
  ⟨⟨fun t h => h, fun a b _ _ e => e, fun i hi => ⟨i, hi, rfl⟩⟩, fun t _ _ => rfl, fun t h => h, fun a b h1 h2 => by omega⟩
theorem Ins.go {r s : Nat → Nat} {n i : Nat} (h : Ins r s n i) (hi : i < n) : InsJ r s n i i := by
  obtain ⟨h1, h2, h3, h4⟩ := h
  exact ⟨hi, Nat.le_refl _, h1, fun t ht => h2 t (by omega), h2 i (Nat.le_refl _) hi, fun t ht hn => h3 t (by omega), fun a b hab hb _ hn => h4 a b hab (by omega), fun t a b => by omega⟩
theorem InsJ.step {r s : Nat → Nat} {n i j : Nat} (h : InsJ r s n i (j + 1)) (hr : r (s j) < r (s (j + 1))) : InsJ r (swp s j) n i j := by
  obtain ⟨h1, h2, h3, h4, h5, h6, h7, h8⟩ := h
  rw [h5] at hr
  refine ⟨h1, by omega, h3.swap (by omega), fun t ht htn => ?_, by rw [swp_l, h5], fun t ht hn => ?_, fun a b hab hb ha hb' => ?_, fun t ht ht' => ?_⟩
  · rw [swp_o s (by omega) (by omega)]; exact h4 t ht htn
  · by_cases e : t = j + 1
    · rw [e, swp_r]; exact h6 j (by omega) (by omega)
    · rw [swp_o s hn e]; exact h6 t ht e
  · by_cases e : a = j + 1
    · rw [e, swp_r, swp_o s hb' (by omega)]; exact h7 j b (by omega) hb (by omega) (by omega)
    · rw [swp_o s ha e]
      by_cases e' : b = j + 1
      · rw [e', swp_r]; exact h7 a j (by omega) (by omega) e (by omega)
      · rw [swp_o s hb' e']; exact h7 a b hab hb e e'
  · by_cases e : t = j + 1
    · rw [e, swp_r]; exact Or.inl hr
    · rw [swp_o s (by omega) e]; exact h8 t (by omega) ht'
theorem InsJ.stop {r s : Nat → Nat} {n i j : Nat} (h : InsJ r s n i j) (hr : j = 0 ∨ r (s j) ≤ r (s (j - 1))) : Ins r s n (i + 1) := by
  obtain ⟨h1, h2, h3, h4, h5, h6, h7, h8⟩ := h
  have hlast : ∀ a, a < j → Beats r (s a) i := by
    intro a ha
    rcases hr with rfl | hr
    · omega
    · have k1 : Beats r (s (j - 1)) i := by
        have := h6 (j - 1) (by omega) (by omega)
        rw [h5] at hr
        unfold Beats; omega
      by_cases e : a = j - 1
      · rw [e]; exact k1
      · have k2 := h7 a (j - 1) (by omega) (by omega) (by omega) (by omega)
        unfold Beats at *; omega
  refine ⟨h3, fun t ht => h4 t (by omega), fun t ht => ?_, fun a b hab hb => ?_⟩
  · by_cases e : t = j
    · rw [e, h5]; omega
    · have := h6 t (by omega) e; omega
  · by_cases e : a = j
    · subst e; rw [h5]; exact h8 b hab (by omega)
    · by_cases e' : b = j
      · subst e'; rw [h5]; exact hlast a hab
      · exact h7 a b hab (by omega) e e'

/-- Who is among the first m. -/
def gt (s : Nat → Nat) (m i : Nat) : Bool := (List.range m).any fun t => s t == i
theorem gt_zero (s : Nat → Nat) (i : Nat) : gt s 0 i = false := rfl
theorem gt_succ (s : Nat → Nat) (m i : Nat) : gt s (m + 1) i = with1 (gt s m) (s m) i := by
  unfold gt with1
  rw [List.range_succ, List.any_append]
  congr 1
  simp only [List.any_cons, List.any_nil, Bool.or_false]
  by_cases e : s m = i
  · simp [e]
  · have e' : ¬ i = s m := fun h => e h.symm
    simp [e, e']
theorem gt_no {s : Nat → Nat} {m i : Nat} : gt s m i = false ↔ ∀ t, t < m → s t ≠ i := by simp [gt]
theorem gt_best {r s : Nat → Nat} {n m : Nat} (h : Ins r s n n) (hm : m < n) : Best r (gt s m) n (s m) := by
  obtain ⟨⟨h1, h2, h3⟩, _, _, h4⟩ := h
  refine ⟨h1 m hm, gt_no.2 fun t ht e => ?_, fun i hi hg => ?_⟩
  · have := h2 t m (by omega) hm e; omega
  · obtain ⟨t, ht, rfl⟩ := h3 i hi
    have hn := gt_no.1 hg
    by_cases e : t = m
    · exact Or.inl (by rw [e])
    · exact Or.inr (h4 m t (by rcases Nat.lt_or_ge t m with k | k; exact absurd rfl (hn t k); omega) ht)
theorem gt_pick {r s : Nat → Nat} {n : Nat} (h : Ins r s n n) : ∀ m, m ≤ n → Pick r n m (gt s m) := by
  intro m
  induction m with
  | zero => intro _; exact pick_zero r n
  | succ m ih =>
    intro hm
    have := (ih (by omega)).more (gt_best h hm)
    have e : gt s (m + 1) = with1 (gt s m) (s m) := funext (gt_succ s m)
    rw [e]; exact this

theorem upto_set (f : Nat → Int) {n j : Nat} (x : Int) : (upto f n).set j x = upto (fun t => if t = j then x else f t) n := by
  refine eq_of_at (by rw [List.length_set, upto_length, upto_length]) fun i hi => ?_
  rw [List.length_set, upto_length] at hi
  rw [upto_at _ hi]
  unfold at0
  rw [List.getElem?_set]
  by_cases e : i = j
  · subst e; simp [upto_length, hi]
  · rw [if_neg (fun h => e h.symm), if_neg e]
    exact upto_at f hi
theorem swp_set (s : Nat → Nat) {n j : Nat} {x y : Int} (hx : (s j : Int) = x) (hy : (s (j + 1) : Int) = y) : ((upto (fun t => (s t : Int)) n).set (j + 1) x).set j y = upto (fun t => (swp s j t : Int)) n := by
  rw [upto_set, upto_set]
  refine upto_congr fun t _ => ?_
  unfold swp
  by_cases e : t = j
  · rw [if_pos e, if_pos e, hy]
  · rw [if_neg e, if_neg e]
    by_cases e' : t = j + 1
    · rw [if_pos e', if_pos e', hx]
    · rw [if_neg e', if_neg e']

end Go.Proofs.YthkibjhhlcfceaiDoor.Nea

/-
  Package near: wholes, left: by their contracts.
-/
namespace Go.Proofs.YthkibjhhlcfceaiDoor.Nea
open Go.RowKit
open Go.Proofs.YthkibjhhlcfceaiDoor.Tre Go.Proofs.YthkibjhhlcfceaiDoor.Lap Go.Proofs.YthkibjhhlcfceaiDoor.Pls Go.Proofs.YthkibjhhlcfceaiDoor.Mid
set_option linter.unusedVariables false

theorem mul_in {k d : Nat} (hk : k ≤ 8) (hd : d ≤ 4000) : k * d ≤ 32000 := Nat.mul_le_mul hk hd

set_option maxHeartbeats 4000000 in
theorem wholes (a : Option Addr) (cap : Nat) (v : List Int) (k M : Nat) (w : World) (hv : v.length ≤ 6) (hi : In 4000 v) (hk : k ≤ 8) (HM : Hid (loud v = M)) (hM : 0 < M) (hM9 : M ≤ 24000) (hr : Row w a v) :
    Calls Tryd.prog 43 #[.slice a v.length cap, .int .i64 k, .int .i64 M] w fun e w' => ∃ p r, e = .returned (.tuple #[p, r]) ∧ Has w' w.heap.size p (upto (fun i => (qt v k i : Int)) v.length) ∧
      Has w' w.heap.size r (upto (fun i => (rt v k i : Int)) v.length) ∧ Off p r ∧ Below w.heap.size w w' := by
  go_enter Tryd.func43, Tryd.ntmps43
  go_wp2
  go_loopw [6, 7, 13] (fun s d i wr => ∃ j : Nat, j ≤ v.length ∧ i = .int .i64 j ∧ Has wr w.heap.size s (upto (fun i => (qt v k i : Int)) j) ∧ Has wr w.heap.size d (upto (fun i => (rt v k i : Int)) j) ∧ Off s d ∧ Below w.heap.size w wr) (fun _ _ i _ => v.length - (intOf i).toNat)
  case atStart => exact ⟨0, Nat.zero_le _, rfl, Has.nil _ _, Has.nil _ _, Or.inl rfl, Below.refl _ _⟩
  case round =>
    obtain ⟨j, hj, rfl, h1, h2, h3, hB⟩ := hrel
    by_cases hlt : j < v.length
    · obtain ⟨b, off, rfl, hb, hc⟩ := Mid.row_cell (hr.below hB) (by omega)
      have hc1 := hc j hlt
      obtain ⟨i0, i1⟩ := hi.at (by omega) j
      have hS : sh v k j = k * (at0 v j).natAbs := rfl
      have hQ : qt v k j = sh v k j / loud v := rfl
      have hR : rt v k j = sh v k j % loud v := rfl
      have e1 : Hid (upto (fun i => (qt v k i : Int)) (j + 1) = upto (fun i => (qt v k i : Int)) j ++ [(qt v k j : Int)]) := hide (upto_succ _ _)
      have e2 : Hid (upto (fun i => (rt v k i : Int)) (j + 1) = upto (fun i => (rt v k i : Int)) j ++ [(rt v k j : Int)]) := hide (upto_succ _ _)
      have hln1 : Hid ((upto (fun i => (qt v k i : Int)) j).length + 1 ≤ 1000000) := hide (by rw [upto_length]; omega)
      have hln2 : Hid ((upto (fun i => (rt v k i : Int)) j).length + 1 ≤ 1000000) := hide (by rw [upto_length]; omega)
      rw [unhide HM] at hQ hR
      have hdist := hide (dist (at0 v j) wr (by omega) (by omega))
      obtain ⟨X, hX⟩ : ∃ X, at0 v j = X := ⟨_, rfl⟩
      rw [hX] at hc1 hdist hS i0 i1
      obtain ⟨D, hD⟩ : ∃ D, X.natAbs = D := ⟨_, rfl⟩
      rw [hD] at hdist hS
      have hD9 : D ≤ 4000 := by omega
      have hS9 := mul_in hk hD9
      rw [← hS] at hS9
      obtain ⟨S, hS'⟩ : ∃ S, sh v k j = S := ⟨_, rfl⟩
      rw [hS'] at hS hQ hR hS9
      have hmul : IntKind.i64.wrap ((k : Int) * (D : Int)) = (S : Int) := by rw [hS, ← Int.natCast_mul]; exact IntWalk.i64_in _ (by omega)
      obtain ⟨Q, hQ'⟩ : ∃ Q, qt v k j = Q := ⟨_, rfl⟩
      obtain ⟨T, hT'⟩ : ∃ T, rt v k j = T := ⟨_, rfl⟩
      rw [hQ'] at hQ e1
      rw [hT'] at hR e2
      have hq : Int.tdiv (S : Int) (M : Int) = (Q : Int) := by rw [hQ]; rfl
      have hrm : Int.tmod (S : Int) (M : Int) = (T : Int) := by rw [hR]; rfl
      have hQ9 : Q ≤ 32000 := by rw [hQ]; exact Nat.le_trans (Nat.div_le_self _ _) hS9
      have hT9 : T ≤ 24000 := by rw [hR]; have := Nat.mod_lt S hM; omega
      have hMz : ((M : Int) == 0) = false := by simp; omega
      have hWs := hB.size
      clear hX hD hS hS' hQ hR hQ' hT' hc
      go_wp2_with fail
      refine (unhide hdist).mono ?_
      rintro e w1 ⟨rfl, rfl⟩
      clear hdist
      go_wp2_with (first
        | (at_builtin; refine wpList_app _ rfl _ _ rfl w.heap.size u6 (upto (fun i => (qt v k i : Int)) j) [(Q : Int)] _ _ rfl (h1.alloc _) rfl (row_one _ _ _) (unhide hln1) (by simp; omega) ?_; intro s1 w1 k1 g1 at1
           obtain ⟨d1, d2⟩ := stepped_plain h1 hWs k1 g1 at1
           obtain ⟨h2', h3'⟩ := d2 _ _ h2 h3.symm
           have hB1 := hB.trans d1
           have hWs1 := hB1.size
           clear d1 d2)
        | (at_builtin; refine wpList_app _ rfl _ _ rfl w.heap.size u7 (upto (fun i => (rt v k i : Int)) j) [(T : Int)] _ _ rfl (h2'.alloc _) rfl (row_one _ _ _) (unhide hln2) (by simp; omega) ?_; intro s2 w2 k2 g2 at2
           obtain ⟨d1, d2⟩ := stepped_plain h2' hWs1 k2 g2 at2
           obtain ⟨k1', h4'⟩ := d2 _ _ k1 h3'.symm
           have hB2 := hB1.trans d1
           clear d1 d2))
      go_wp2
      go_roundw
      case rel => exact ⟨j + 1, by omega, by go_num, by rw [unhide e1]; exact k1', by rw [unhide e2]; exact k2, h4', hB2⟩
      case measure => simp [intOf]; omega
    · obtain rfl : j = v.length := by omega
      go_wp2
      go_ret2
      exact ⟨_, _, rfl, h1, h2, h3, hB⟩

theorem left (a : Option Addr) (cap : Nat) (v : List Int) (k : Nat) (n : Nat) (w : World) (hn : Hid (v.length = n)) (hv : n ≤ 6) (hk : k ≤ 8) (h : Hid (k = 0 ∨ 0 < loud v)) (hr : Row w a (upto (fun i => (qt v k i : Int)) n)) :
    Calls Tryd.prog 45 #[.slice a n cap, .int .i64 k] w fun e w' => e = .returned (.int .i64 (lft v k)) ∧ w = w' := by
  have hle : ∀ j, j ≤ n → tot (qt v k) j ≤ k := fun j hj => by
    have h1 := qt_le k (unhide h)
    have h2 := tot_le (f := fun i => if i < j then qt v k i else 0) (g := qt v k) (n := v.length) fun i _ => by split <;> omega
    have h3 : ∀ m, tot (fun i => if i < j then qt v k i else 0) (j + m) = tot (qt v k) j := by
      intro m
      induction m with
      | zero => exact tot_congr fun i hi => if_pos hi
      | succ m ih => rw [← Nat.add_assoc, tot, ih, if_neg (by omega)]; omega
    have := h3 (v.length - j)
    rw [show j + (v.length - j) = v.length by rw [unhide hn]; omega] at this
    omega
  have HE : Hid (k - tot (qt v k) n = lft v k) := hide (by unfold lft; rw [unhide hn])
  go_enter Tryd.func45, Tryd.ntmps45
  go_wp2
  go_loop [1, 9] (fun t i => ∃ j t' : Nat, j ≤ n ∧ i = .int .i64 j ∧ t = .int .i64 t' ∧ Hid (t' + tot (qt v k) j = k) ∧ t' ≤ 8) (fun _ i => n - (intOf i).toNat)
  case atStart => exact ⟨0, k, Nat.zero_le _, rfl, rfl, rfl, hk⟩
  case round =>
    obtain ⟨j, t, hj, rfl, rfl, HT, ht⟩ := hrel
    by_cases hlt : j < n
    · obtain ⟨b, off, rfl, hb, hc⟩ := Mid.row_cell hr (by rw [upto_length]; omega)
      have hc1 := hc j (by rw [upto_length]; omega)
      rw [upto_at _ hlt] at hc1
      have h1 := hle (j + 1) hlt
      have h2 : tot (qt v k) (j + 1) = tot (qt v k) j + qt v k j := rfl
      have h3 := unhide HT
      obtain ⟨Q, hQ⟩ : ∃ Q, qt v k j = Q := ⟨_, rfl⟩
      rw [hQ] at h2 hc1
      obtain ⟨t2, h4⟩ : ∃ t2, t = t2 + Q := ⟨t - Q, by omega⟩
      have HS : Hid (t2 + tot (qt v k) (j + 1) = k) := hide (by omega)
      have hsub : (t : Int) - (Q : Int) = (t2 : Int) := by omega
      have h5 : t2 ≤ 8 := by omega
      have hQ8 : Q ≤ 8 := by omega
      clear h1 h2 h3 h4 hQ hle hc
      go_wp2
      go_round
      case rel => exact ⟨j + 1, t2, by omega, by go_num, by go_num, HS, h5⟩
      case measure => simp [intOf]; omega
    · obtain rfl : j = n := by omega
      have h1 := unhide HT
      clear hle
      go_wp2
      go_ret
      exact ⟨ret_int (by rw [← unhide HE]; omega), rfl⟩

end Go.Proofs.YthkibjhhlcfceaiDoor.Nea
