/-
  A slice of bools that this call has made itself.
-/
import Derived.Test.YthkibjhhlcfceaiGreatDoorCh23
import Derived.Test.YthkibjhhlcfceaiGreatDoorCh34
import Derived.Test.YthkibjhhlcfceaiGreatDoorCh25
import Derived.Test.YthkibjhhlcfceaiGreatDoorCh20
import Derived.Shelf.RegionOpen
namespace Go.Proofs.YthkibjhhlcfceaiGreatDoor
open Go.RowKit
open Go.Proofs.YthkibjhhlcfceaiGreatDoor.Tre
set_option linter.unusedVariables false

theorem info_bool : (Tryz.prog.info? 4).map (fun i => (i.zero, i.size, i.bytes)) = some (some (.bool false), 1, 1) := by kernel_rfl

/-- n bools of this call's own, as g says. -/
def HasB (w : World) (base : Nat) (v : Value) (n : Nat) (g : Nat → Bool) : Prop := w.ownsRow base 4 1 v n ((List.range n).map fun i => Value.bool (g i))

theorem HasB.kept {w w' : World} {base n : Nat} {v : Value} {g : Nat → Bool} {row : Option Nat} (h : HasB w base v n g) (hg : w.grownBy w' row) (hne : v.ownBlock = none ∨ v.ownBlock ≠ row) : HasB w' base v n g := World.ownsRow.kept h hg hne
theorem HasB.below {w w' : World} {base n : Nat} {v : Value} {g : Nat → Bool} (h : HasB w base v n g) (hb : Below w.heap.size w w') : HasB w' base v n g := by
  refine ⟨h.1, ?_⟩
  rcases h.2 with hn | ⟨k, cap, cur, rfl, hbg, hgg, rest⟩
  · exact .inl hn
  · exact .inr ⟨k, cap, cur, rfl, hbg, (hb.block k (Array.getElem?_eq_some_iff.1 hgg).1).trans hgg, rest⟩
theorem HasB.lt {w : World} {base n : Nat} {v : Value} {g : Nat → Bool} (h : HasB w base v n g) : ∀ k, v.ownBlock = some k → base ≤ k ∧ k < w.heap.size := World.ownsRow.lt h
theorem HasB.mono {w : World} {base base' n : Nat} {v : Value} {g : Nat → Bool} (h : HasB w base v n g) (hb : base' ≤ base) : HasB w base' v n g := by
  refine ⟨h.1, ?_⟩
  rcases h.2 with hn | ⟨k, cap, cur, rfl, hbg, rest⟩
  · exact .inl hn
  · exact .inr ⟨k, cap, cur, rfl, Nat.le_trans hb hbg, rest⟩
theorem HasB.get {w : World} {base G n c : Nat} {g : Nat → Bool} (h : HasB w base (.slice (some ⟨G, 0, none⟩) n c) n g) {j : Nat} (hj : j < n) : w.cell? ⟨G, j, none⟩ = some (.bool (g j)) := by
  have := World.ownsRow.cellAt h j (by omega)
  rw [this]
  simp [hj]
theorem HasB.frozen {w : World} {base G n c : Nat} {g : Nat → Bool} (h : HasB w base (.slice (some ⟨G, 0, none⟩) n c) n g) (j : Nat) : w.frozen? ⟨G, j, none⟩ = false := World.ownsRow.frozenAt h j
theorem HasB.put {w : World} {base G n c : Nat} {g : Nat → Bool} (h : HasB w base (.slice (some ⟨G, 0, none⟩) n c) n g) (j : Nat) (b : Bool) {g' : Nat → Bool} (hj : j < n) (hg : ∀ i, i < n → g' i = if i = j then b else g i) :
    HasB (w.setCell ⟨G, j, none⟩ (.bool b)) base (.slice (some ⟨G, 0, none⟩) n c) n g' ∧ w.grownBy (w.setCell ⟨G, j, none⟩ (.bool b)) (some G) := by
  have := World.ownsRow.stored h j (.bool b)
  refine ⟨?_, this.2⟩
  unfold HasB
  have e : ((List.range n).map fun i => Value.bool (g' i)) = ((List.range n).map fun i => Value.bool (g i)).set j (.bool b) := by
    apply List.ext_getElem?
    intro i
    rw [List.getElem?_set]
    by_cases hi : i < n
    · by_cases e : j = i
      · subst e
        simp [hi, hg j hi]
      · have e' : ¬ i = j := fun h => e h.symm
        rw [if_neg e]
        simp [hi, hg i hi, e']
    · by_cases e : j = i
      · omega
      · rw [if_neg e]
        simp [hi]
  rw [e]
  exact this.1

theorem wpList_mkb {ops : Array Oper} {rest : List Oper} {o : Oper} {a : Act} {Q : Exit → Act → World → Prop} (w : World) (hgd : o.guard = none) (s : Operand)
    (ho : o.op = .makeSlice 88 s s) (n : Nat) (hs : a.eval s = .int .i64 n) (hn : n ≤ 1000000)
    (h : ∀ w', HasB w' w.heap.size (.slice (some ⟨w.heap.size, 0, none⟩) n n) n (fun _ => false) → Below w.heap.size w w' → wpList Tryz.prog ops Q rest (a.put o.dst (.slice (some ⟨w.heap.size, 0, none⟩) n n)) w') :
    wpList Tryz.prog ops Q (o :: rest) a w := by
  obtain ⟨i0, hi, hz0, hz1, hz2⟩ := info_parts info_bool
  refine wpList_make_full w hgd s s 88 ho w.heap.size 4 i0 (.bool false) 1 Tryz.underlying88 hi hz0 hz1 _ _ _ _ n hs hs rfl rfl (by rw [hz2]; omega) (by unfold maxLen; omega) (Nat.le_refl _) ?_
  intro w2 hown hgrow
  refine h w2 ?_ ((Below.refl _ _).grown hgrow (Nat.le_refl _) (by intro k hk; cases hk))
  rw [Nat.mul_one] at hown
  unfold HasB
  rw [show ((List.range n).map fun _ => Value.bool false) = List.replicate n (.bool false) by simp [List.map_const'], ← toList_madeCells_one]
  exact hown

end Go.Proofs.YthkibjhhlcfceaiGreatDoor

/-
  hornref1.Near: by its contracts.
-/
namespace Go.Proofs.YthkibjhhlcfceaiGreatDoor.Nea
open Go.RowKit
open Go.Proofs.YthkibjhhlcfceaiGreatDoor.Tre Go.Proofs.YthkibjhhlcfceaiGreatDoor.Lap Go.Proofs.YthkibjhhlcfceaiGreatDoor.Pls Go.Proofs.YthkibjhhlcfceaiGreatDoor.Mid
set_option linter.unusedVariables false

theorem near_zero' (v : List Int) : Near v 0 (upto (fun _ => 0) v.length) := by
  refine ⟨fun _ => false, ?_, upto_congr fun i _ => ?_⟩
  · rw [show lft v 0 = 0 by simp [lft]]; exact pick_zero _ _
  · simp [res, qt, sh, one]
theorem ref_zero (a : Option Addr) (cap : Nat) (v : List Int) (w : World) (h6 : v.length ≤ 6) (hr : Row w a v) :
    Calls Tryz.prog 26 #[.slice a v.length cap, .int .i64 0] w fun e w' => ∃ p l, e = .returned p ∧ Has w' w.heap.size p l ∧ Hid (Near v 0 l) ∧ Below w.heap.size w w' := by
  go_enter Tryz.func26, Tryz.ntmps26
  go_wp2_with (at_make; refine wpList_mk _ rfl _ rfl v.length rfl (by omega) ?_; intro w2 hv2 hb2)
  go_ret
  exact ⟨_, _, rfl, hv2, near_zero' v, hb2⟩

/-- One share: what a number gets for certain, and its rest. -/
def Share (v : List Int) (k M j : Nat) (X : Int) (D S Q T : Nat) : Prop := at0 v j = X ∧ X.natAbs = D ∧ IntKind.i64.wrap ((k : Int) * (D : Int)) = (S : Int) ∧ Int.tdiv (S : Int) (M : Int) = (Q : Int) ∧ Int.tmod (S : Int) (M : Int) = (T : Int) ∧ qt v k j = Q ∧ rt v k j = T ∧ D ≤ 4000 ∧ S ≤ 32000 ∧ Q ≤ 32000 ∧ T ≤ 24000
theorem share (v : List Int) (k M j : Nat) (hi : In 4000 v) (hk : k ≤ 8) (HM : loud v = M) (hM : 0 < M) (hM9 : M ≤ 24000) : ∃ X D S Q T, Share v k M j X D S Q T := by
  obtain ⟨i0, i1⟩ := hi.at (by omega) j
  have hD : (at0 v j).natAbs ≤ 4000 := by omega
  have hS : k * (at0 v j).natAbs ≤ 32000 := Nat.mul_le_mul hk hD
  refine ⟨at0 v j, (at0 v j).natAbs, k * (at0 v j).natAbs, k * (at0 v j).natAbs / M, k * (at0 v j).natAbs % M, rfl, rfl, ?_, rfl, rfl, by rw [← HM]; rfl, by rw [← HM]; rfl, hD, hS, Nat.le_trans (Nat.div_le_self _ _) hS, ?_⟩
  · rw [← Int.natCast_mul]; exact IntWalk.i64_in _ (by omega)
  · have := Nat.mod_lt (k * (at0 v j).natAbs) hM; omega

/-- The best so far. -/
def Found (r : Nat → Nat) (g : Nat → Bool) (t : Nat) (B : Int) : Prop := (B = -1 ∧ ∀ i, i < t → g i = true) ∨ ∃ b : Nat, B = b ∧ Best r g t b

theorem tot_mono (f : Nat → Nat) (j m : Nat) : tot f j ≤ tot f (j + m) := by
  induction m with
  | zero => exact Nat.le_refl _
  | succ m ih => rw [← Nat.add_assoc, tot]; omega
theorem put_one (q : Nat → Nat) {g : Nat → Bool} {n b Q : Nat} (hb : b < n) (hg : g b = false) (hQ : q b = Q) :
    (upto (fun i => ((q i + one (g i) : Nat) : Int)) n).set b ((Q + 1 : Nat) : Int) = upto (fun i => ((q i + one (with1 g b i) : Nat) : Int)) n ∧ at0 (upto (fun i => ((q i + one (g i) : Nat) : Int)) n) b = (Q : Int) := by
  refine ⟨?_, ?_⟩
  · rw [upto_set]
    refine upto_congr fun i _ => ?_
    rw [one_with hg]
    by_cases e : i = b
    · subst e; rw [if_pos rfl, if_pos rfl, hg, hQ]; simp [one]
    · rw [if_neg e, if_neg e]; simp
  · rw [upto_at _ hb, hg, hQ]; simp [one]
theorem with_if (g : Nat → Bool) (b i : Nat) : with1 g b i = if i = b then true else g i := by
  unfold with1
  by_cases e : i = b
  · simp [e]
  · simp [e]
/-- With the numbers' signs. -/
theorem res_neg {v : List Int} {k : Nat} {g : Nat → Bool} {i : Nat} (h : at0 v i < 0) : res v k g i = -((qt v k i + one (g i) : Nat) : Int) := by
  unfold res; rw [Int.sign_eq_neg_one_of_neg h]; omega
theorem res_pos {v : List Int} {k : Nat} {g : Nat → Bool} {i : Nat} (hk : k = 0 ∨ 0 < loud v) (hp : Pick (rt v k) v.length (lft v k) g) (hi : i < v.length) (h : 0 ≤ at0 v i) : res v k g i = ((qt v k i + one (g i) : Nat) : Int) := by
  have h1 := res_abs hk hp hi
  have h2 : 0 ≤ res v k g i := by
    unfold res
    exact Int.mul_nonneg (Int.sign_nonneg_iff.2 h) (by omega)
  omega

set_option maxRecDepth 100000 in
set_option maxHeartbeats 16000000 in
theorem ref_some (a : Option Addr) (cap : Nat) (v : List Int) (k M : Nat) (w : World) (h6 : v.length ≤ 6) (hi : In 4000 v) (hk : 0 < k) (hk8 : k ≤ 8) (HM : Hid (loud v = M)) (hM : 0 < M) (hM9 : M ≤ 24000) (hr : Row w a v) :
    Calls Tryz.prog 26 #[.slice a v.length cap, .int .i64 k] w fun e w' => ∃ p l, e = .returned p ∧ Has w' w.heap.size p l ∧ Hid (Near v k l) ∧ Below w.heap.size w w' := by
  have HKL : Hid (k = 0 ∨ 0 < loud v) := hide (Or.inr (by rw [unhide HM]; exact hM))
  have hle : Hid (tot (qt v k) v.length ≤ k) := hide (qt_le k (unhide HKL))
  have HSUM := hide (rests v k (unhide HKL)).2
  have hL := lft_le k (unhide HKL)
  have hld := hide (fun W hr => refLoudB a cap v W (by omega) hi hr)
  rw [unhide HM] at hld
  have HSH : Hid (∀ j, ∃ X D S Q T, Share v k M j X D S Q T) := hide (fun j => share v k M j hi hk8 (unhide HM) hM hM9)
  have hMz : ((M : Int) == 0) = false := by simp; omega
  have hk0 : ((k : Int) == 0) = false := by simp; omega
  obtain ⟨N, hN⟩ : ∃ N, v.length = N := ⟨_, rfl⟩
  have HN := hide hN
  rw [hN] at hle hL hld h6 HSUM ⊢
  obtain ⟨L, hLd⟩ : ∃ L, lft v k = L := ⟨_, rfl⟩
  rw [hLd] at hL HSUM
  have HL := hide hLd
  clear hN hLd hi
  go_enter Tryz.func26, Tryz.ntmps26
  go_wp2_with (first
    | (at_make; refine wpList_mk _ rfl _ rfl N rfl (by omega) ?_; intro w1 hv1 hb1)
    | fail)
  have hr1 := hr.below hb1
  refine (unhide hld w1 hr1).mono ?_
  rintro e w2 ⟨rfl, rfl⟩
  clear hld
  go_wp2
  go_loopw [7, 8] (fun t i wr => ∃ j t' : Nat, j ≤ N ∧ i = .int .i64 j ∧ t = .int .i64 t' ∧ Hid (t' + tot (qt v k) j = k) ∧ t' ≤ 8 ∧ Has wr w.heap.size (.slice (some ⟨w.heap.size, 0, none⟩) N N) (mid (fun i => (qt v k i : Int)) (fun _ => 0) N j) ∧ Below w.heap.size w wr) (fun _ i _ => N - (intOf i).toNat)
  case atStart => exact ⟨0, k, Nat.zero_le _, rfl, rfl, rfl, hk8, by rw [mid_zero]; exact hv1, hb1⟩
  case round =>
    obtain ⟨j, t, hj, rfl, rfl, HT, ht, hs, hB⟩ := hrel
    clear hv1 hb1 hr1
    by_cases hlt : j < N
    · obtain ⟨b, off, rfl, hb, hc⟩ := Mid.row_cell (hr.below hB) (by rw [unhide HN]; omega)
      have c1 := hc j (by rw [unhide HN]; exact hlt)
      have c2 := hs.get (j := j) (by rw [mid_length]; exact hlt)
      rw [mid_at _ _ hlt] at c2
      have f2 := hs.frozen j
      obtain ⟨X, D, S, Q, T, z1, z2, z3, z4, z5, z6, z7, z8, z9, z10, z11⟩ := unhide HSH j
      rw [z1] at c1
      have hf := hide (fun W => refFar X W (by omega) (by omega))
      rw [z2] at hf
      have h1 : tot (qt v k) (j + 1) = tot (qt v k) j + qt v k j := rfl
      have h2 := tot_mono (qt v k) (j + 1) (N - (j + 1))
      rw [show j + 1 + (N - (j + 1)) = N by omega] at h2
      have h3 := unhide hle
      have h4 := unhide HT
      rw [z6] at h1
      obtain ⟨t2, h5⟩ : ∃ t2, t = t2 + Q := ⟨t - Q, by omega⟩
      have HS2 : Hid (t2 + tot (qt v k) (j + 1) = k) := hide (by omega)
      have hsub : (t : Int) - (Q : Int) = (t2 : Int) := by omega
      have ht2 : t2 ≤ 8 := by omega
      obtain ⟨m1, m2, m3⟩ := Mid.put_mid hs hlt (show (qt v k j : Int) = (Q : Int) by rw [z6]) 0
      have M1 := hide m1
      have M3 := hide (m3 _ hB (Nat.le_refl _))
      clear z1 z2 z5 z6 z7 h1 h2 h3 h4 h5 m1 m2 m3 hc
      go_wp2_with fail
      refine (unhide hf _).mono ?_
      rintro e w3 ⟨rfl, rfl⟩
      go_wp2
      go_roundw
      case rel => exact ⟨j + 1, t2, by omega, by go_num, by go_num, HS2, ht2, unhide M1, unhide M3⟩
      case measure => simp [intOf]; omega
    · obtain rfl : j = N := by omega
      have etL : t = L := by have h1 := unhide HT; have h2 := unhide HSUM; omega
      subst etL
      rw [mid_all] at hs
      have hs2 : Has wr w.heap.size (.slice (some ⟨w.heap.size, 0, none⟩) j j) (upto (fun i => ((qt v k i + one ((fun _ => false) i) : Nat) : Int)) j) := by simpa [one] using hs
      clear hs HT HSUM hle
      go_wp2_with (at_make; refine wpList_mkb _ rfl _ rfl j rfl (by omega) ?_; intro w4 hg4 hb4)
      have hs4 := hs2.below hb4
      have hB4 := hB.trans (hb4.mono hB.size)
      have hne : w.heap.size < wr.heap.size := (hs2.lt w.heap.size rfl).2
      have hg5 := hg4.mono hB.size
      obtain ⟨G, hG⟩ : ∃ G, wr.heap.size = G := ⟨_, rfl⟩
      rw [hG] at hg5 hne ⊢
      have n1 : ¬ (w.heap.size = G) := by omega
      have n2 : ¬ (G = w.heap.size) := by omega
      have hGb : w.heap.size ≤ G := by omega
      clear hG hg4 hb4 hB hs2
      have HP0 := hide (pick_zero (rt v k) j)
      go_loopw [7] (fun x wr => ∃ (t' c : Nat) (g : Nat → Bool), x = .int .i64 t' ∧ Hid (c + t' = t) ∧ t' ≤ 8 ∧ Hid (Pick (rt v k) j c g) ∧ Has wr w.heap.size (.slice (some ⟨w.heap.size, 0, none⟩) j j) (upto (fun i => ((qt v k i + one (g i) : Nat) : Int)) j) ∧ HasB wr w.heap.size (.slice (some ⟨G, 0, none⟩) j j) j g ∧ Below w.heap.size w wr) (fun x _ => (intOf x).toNat)
      case atStart => exact ⟨t, 0, fun _ => false, rfl, hide (Nat.zero_add _), ht, HP0, hs4, hg5, hB4⟩
      case round =>
        obtain ⟨x, c, g, rfl, HC, hx8, HP, ho, hg, hB⟩ := hrel
        clear HP0 hs4 hg5 hB4
        by_cases hx : 0 < x
        · have HF0 : Hid (Found (rt v k) g 0 (-1)) := hide (Or.inl ⟨rfl, fun i hi => absurd hi (Nat.not_lt_zero _)⟩)
          go_wp2
          go_loopw [10, 11] (fun b i wr2 => ∃ (y : Nat) (B : Int), y ≤ j ∧ i = .int .i64 y ∧ b = .int .i64 B ∧ Hid (Found (rt v k) g y B) ∧ Has wr2 w.heap.size (.slice (some ⟨w.heap.size, 0, none⟩) j j) (upto (fun i => ((qt v k i + one (g i) : Nat) : Int)) j) ∧ HasB wr2 w.heap.size (.slice (some ⟨G, 0, none⟩) j j) j g ∧ Below w.heap.size w wr2) (fun _ i _ => j - (intOf i).toNat)
          case atStart => exact ⟨0, -1, Nat.zero_le _, rfl, rfl, HF0, ho, hg, hB⟩
          case round =>
            obtain ⟨y, B, hy, rfl, rfl, HF, ho2, hg2, hB2⟩ := hrel
            clear HF0 ho hg hB
            by_cases hlt : y < j
            · have cg := hg2.get (j := y) hlt
              obtain ⟨b, off, rfl, hb, hcv⟩ := Mid.row_cell (hr.below hB2) (by rw [unhide HN]; omega)
              have c1 := hcv y (by rw [unhide HN]; exact hlt)
              obtain ⟨X, D, S, Q, T, z1, z2, z3, z4, z5, z6, z7, z8, z9, z10, z11⟩ := unhide HSH y
              rw [z1] at c1
              cases hgy : g y with
              | true =>
                rw [hgy] at cg
                have HF2 : Hid (Found (rt v k) g (y + 1) B) := hide (by
                  rcases unhide HF with ⟨e, ha⟩ | ⟨b, e, ha⟩
                  · exact Or.inl ⟨e, fun i hi => by
                      rcases Nat.lt_or_ge i y with h | h
                      · exact ha i h
                      · rw [show i = y by omega]; exact hgy⟩
                  · exact Or.inr ⟨b, e, ha.old (Or.inl hgy)⟩)
                clear HF hgy hcv z1 z2 z3 z4 z5 z6 z7 c1
                go_wp2
                go_quiet (fail)
                go_wp2
                go_roundw
                case rel => exact ⟨y + 1, B, by omega, by go_num, rfl, HF2, ho2, hg2, below_drewN hB2 _⟩
                case measure => simp [intOf]; omega
              | false =>
                rw [hgy] at cg
                rcases unhide HF with ⟨rfl, ha⟩ | ⟨b2, rfl, ha⟩
                · have HF2 : Hid (Found (rt v k) g (y + 1) (y : Int)) := hide (Or.inr ⟨y, rfl, best_first ha hgy⟩)
                  clear HF hgy hcv z1 z2 z3 z4 z5 z6 z7 c1 ha
                  go_wp2
                  go_quiet (fail)
                  go_wp2
                  go_roundw
                  case rel => exact ⟨y + 1, (y : Int), by omega, by go_num, rfl, HF2, ho2, hg2, below_drewN hB2 _⟩
                  case measure => simp [intOf]; omega
                · have hby := ha.1
                  have c2 := hcv b2 (by rw [unhide HN]; omega)
                  obtain ⟨X2, D2, S2, Q2, T2, y1, y2, y3, y4, y5, y6, y7, y8, y9, y10, y11⟩ := unhide HSH b2
                  rw [y1] at c2
                  have hf : Hid (∀ W, Calls Tryz.prog 40 #[.int .i64 X] W fun e w' => e = .returned (.int .i64 (D : Int)) ∧ w' = W) := hide (fun W => by
                    have := refFar X W (by omega) (by omega)
                    rw [z2] at this
                    exact this.mono fun e w' ⟨h1, h2⟩ => ⟨h1, h2.symm⟩)
                  have hf2 : Hid (∀ W, Calls Tryz.prog 40 #[.int .i64 X2] W fun e w' => e = .returned (.int .i64 (D2 : Int)) ∧ w' = W) := hide (fun W => by
                    have := refFar X2 W (by omega) (by omega)
                    rw [y2] at this
                    exact this.mono fun e w' ⟨h1, h2⟩ => ⟨h1, h2.symm⟩)
                  have b0 : (0 : Int) ≤ (b2 : Int) := by omega
                  have b1 : decide ((b2 : Int) < 0) = false := by simp
                  have b3 : (b2 : Int) < (j : Int) := by omega
                  have b4 : (y : Int) < (j : Int) := by omega
                  by_cases hrr : T2 < T
                  · have HF2 : Hid (Found (rt v k) g (y + 1) (y : Int)) := hide (Or.inr ⟨y, rfl, ha.new hgy (by rw [z7, y7]; exact hrr)⟩)
                    have hd : (T2 : Int) < (T : Int) := by omega
                    clear HF hgy hcv z1 z2 z4 z6 z7 y1 y2 y4 y6 y7 ha
                    go_wp2
                    go_quiet ((go_at_call 40; (first | exact Calls.quiet_of_same (unhide hf _) | exact Calls.quiet_of_same (unhide hf2 _))))
                    go_wp2
                    go_roundw
                    case rel => exact ⟨y + 1, (y : Int), by omega, by go_num, rfl, HF2, ho2, hg2, below_drewN hB2 _⟩
                    case measure => simp [intOf]; omega
                  · have HF2 : Hid (Found (rt v k) g (y + 1) (b2 : Int)) := hide (Or.inr ⟨b2, rfl, ha.old (Or.inr (by rw [z7, y7]; omega))⟩)
                    have hd : decide ((T2 : Int) < (T : Int)) = false := by simp; omega
                    clear HF hgy hcv z1 z2 z4 z6 z7 y1 y2 y4 y6 y7 ha
                    go_wp2
                    go_quiet ((go_at_call 40; (first | exact Calls.quiet_of_same (unhide hf _) | exact Calls.quiet_of_same (unhide hf2 _))))
                    go_wp2
                    go_roundw
                    case rel => exact ⟨y + 1, (b2 : Int), by omega, by go_num, rfl, HF2, ho2, hg2, below_drewN hB2 _⟩
                    case measure => simp [intOf]; omega
            · obtain rfl : y = j := by omega
              rcases unhide HF with ⟨-, ha⟩ | ⟨b2, rfl, ha⟩
              · exfalso
                have h1 := (unhide HP).1
                obtain ⟨i, hi, hgi⟩ := cnt_free (g := g) (n := y) (by have := unhide HC; omega)
                rw [ha i hi] at hgi
                cases hgi
              · have HP2 := hide ((unhide HP).more ha)
                obtain ⟨hb2, hgb, -⟩ := ha
                obtain ⟨Q, hQ⟩ : ∃ Q, qt v k b2 = Q := ⟨_, rfl⟩
                have hQ8 : Q ≤ 8 := by
                  have h1 := qt_le k (unhide HKL)
                  have h2 := tot_one (f := qt v k) (n := v.length) (i := b2) (by rw [unhide HN]; exact hb2)
                  omega
                obtain ⟨p1, p2⟩ := put_one (qt v k) hb2 hgb hQ
                have c2 := ho2.get (j := b2) (by rw [upto_length]; exact hb2)
                rw [p2] at c2
                have f2 := ho2.frozen b2
                have c3 := hg2.get (j := b2) hb2
                have f3 := hg2.frozen b2
                obtain ⟨m1, m2⟩ := hg2.put b2 true (g' := with1 g b2) hb2 (fun i _ => with_if g b2 i)
                have m3 := ho2.kept m2 (Or.inr (by intro e; exact n1 (by injection e)))
                obtain ⟨m4, m5⟩ := m3.put b2 ((Q + 1 : Nat) : Int)
                rw [p1] at m4
                have m6 := m1.kept m5 (Or.inr (by intro e; exact n2 (by injection e)))
                have m7 := Below.setCell (p := ⟨w.heap.size, b2, none⟩) (Below.setCell (p := ⟨G, b2, none⟩) hB2 hGb (.bool true)) (Nat.le_refl _) (.int .i64 ((Q + 1 : Nat) : Int))
                obtain ⟨x2, rfl⟩ : ∃ x2, x = x2 + 1 := ⟨x - 1, by omega⟩
                have HC2 : Hid (c + 1 + x2 = t) := hide (by have := unhide HC; omega)
                obtain ⟨Q1, hQ1⟩ : ∃ Q1, Q + 1 = Q1 := ⟨_, rfl⟩
                rw [hQ1] at m4 m5 m6 m7
                have eQ : IntKind.i64.wrap ((Q : Int) + 1) = (Q1 : Int) := by rw [← hQ1]; exact IntWalk.i64_in _ (by omega)
                have b3 : (b2 : Int) < (y : Int) := by omega
                have M4 := hide m4
                have M6 := hide m6
                have M7 := hide m7
                clear m1 m2 m3 m4 m5 m6 m7 p1 p2 hQ hQ1 HF HP HC ho2 hg2 hgb
                go_wp2
                go_roundw
                case rel => exact ⟨x2, c + 1, with1 g b2, by go_num, HC2, by omega, HP2, unhide M4, unhide M6, unhide M7⟩
                case measure => simp [intOf]
        · obtain rfl : x = 0 := by omega
          have HP2 : Hid (Pick (rt v k) v.length (lft v k) g) := hide (by
            have h1 := unhide HP
            rw [show c = t from unhide HC] at h1
            rw [unhide HN, unhide HL]; exact h1)
          have hom : Has wr w.heap.size (.slice (some ⟨w.heap.size, 0, none⟩) j j) (mid (res v k g) (fun i => ((qt v k i + one (g i) : Nat) : Int)) j 0) := by rw [mid_zero]; exact ho
          clear HP HC ho hg
          go_wp2
          go_loopw [12] (fun i wr => ∃ y : Nat, y ≤ j ∧ i = .int .i64 y ∧ Has wr w.heap.size (.slice (some ⟨w.heap.size, 0, none⟩) j j) (mid (res v k g) (fun i => ((qt v k i + one (g i) : Nat) : Int)) j y) ∧ Below w.heap.size w wr) (fun i _ => j - (intOf i).toNat)
          case atStart => exact ⟨0, Nat.zero_le _, rfl, hom, hB⟩
          case round =>
            obtain ⟨y, hy, rfl, hoy, hBy⟩ := hrel
            clear hom hB
            by_cases hlt : y < j
            · obtain ⟨b, off, rfl, hb, hcv⟩ := Mid.row_cell (hr.below hBy) (by rw [unhide HN]; omega)
              have c1 := hcv y (by rw [unhide HN]; exact hlt)
              have c2 := hoy.get (j := y) (by rw [mid_length]; exact hlt)
              rw [mid_at _ _ hlt] at c2
              have f2 := hoy.frozen y
              have hQ9 : qt v k y + one (g y) ≤ 9 := by
                have h1 := qt_le k (unhide HKL)
                have h2 := tot_one (f := qt v k) (n := v.length) (i := y) (by rw [unhide HN]; exact hlt)
                have h3 : one (g y) ≤ 1 := by unfold one; split <;> omega
                omega
              have HRN : Hid (at0 v y < 0 → res v k g y = -((qt v k y + one (g y) : Nat) : Int)) := hide (fun h => res_neg h)
              have HRP : Hid (0 ≤ at0 v y → res v k g y = ((qt v k y + one (g y) : Nat) : Int)) := hide (fun h => res_pos (unhide HKL) (unhide HP2) (by rw [unhide HN]; exact hlt) h)
              have HST := hide (mid_set (res v k g) (fun i => ((qt v k i + one (g i) : Nat) : Int)) hlt)
              have HME : Hid (at0 (mid (res v k g) (fun i => ((qt v k i + one (g i) : Nat) : Int)) j y) y = ((qt v k y + one (g y) : Nat) : Int)) := hide (mid_at _ _ hlt)
              obtain ⟨X, hX⟩ : ∃ X, at0 v y = X := ⟨_, rfl⟩
              rw [hX] at c1 HRN HRP
              by_cases hneg : X < 0
              · have e1 := unhide HRN hneg
                obtain ⟨Q, hQ⟩ : ∃ Q, qt v k y + one (g y) = Q := ⟨_, rfl⟩
                rw [hQ] at c2 hQ9 e1
                obtain ⟨m1, m2, m3⟩ := Mid.put_mid hoy hlt e1 0
                have M1 := hide m1
                have M3 := hide (m3 _ hBy (Nat.le_refl _))
                clear e1 m1 m2 m3 hQ hX hcv HRN HRP HST HME
                go_wp2
                go_roundw
                case rel => exact ⟨y + 1, by omega, by go_num, unhide M1, unhide M3⟩
                case measure => simp [intOf]; omega
              · have e1 := unhide HRP (by omega)
                have M1 : Hid (mid (res v k g) (fun i => ((qt v k i + one (g i) : Nat) : Int)) j (y + 1) = mid (res v k g) (fun i => ((qt v k i + one (g i) : Nat) : Int)) j y) := hide (by
                  unfold mid
                  refine upto_congr fun i _ => ?_
                  by_cases h1 : i < y
                  · rw [if_pos (by omega), if_pos h1]
                  · rw [if_neg h1]
                    by_cases h2 : i = y
                    · subst h2; rw [if_pos (by omega), e1]
                    · rw [if_neg (by omega)])
                clear e1 hX hcv HRN HRP HST HME c2
                go_wp2
                go_roundw
                case rel => exact ⟨y + 1, by omega, by go_num, by rw [unhide M1]; exact hoy, hBy⟩
                case measure => simp [intOf]; omega
            · obtain rfl : y = j := by omega
              rw [mid_all] at hoy
              have HNR : Hid (Near v k (upto (res v k g) y)) := hide ⟨g, unhide HP2, by rw [unhide HN]⟩
              go_wp2
              go_ret
              exact ⟨_, _, rfl, hoy, HNR, hBy⟩

theorem ref_okB (a : Option Addr) (cap : Nat) (v : List Int) (k : Nat) (w : World) (h6 : v.length ≤ 6) (hi : In 4000 v) (hk8 : k ≤ 8) (HKL : Hid (k = 0 ∨ 0 < loud v)) (hr : Row w a v) :
    Calls Tryz.prog 26 #[.slice a v.length cap, .int .i64 k] w fun e w' => ∃ p l, e = .returned p ∧ Has w' w.heap.size p l ∧ Hid (Near v k l) ∧ Below w.heap.size w w' := by
  rcases Nat.eq_zero_or_pos k with e | e
  · subst e
    exact ref_zero a cap v w h6 hr
  · have h1 := loud_in (b := 4000) hi
    exact ref_some a cap v k (loud v) w h6 hi e hk8 rfl (by have := unhide HKL; omega) (by omega) hr

theorem ref_ok (a : Option Addr) (cap : Nat) (v : List Int) (k : Nat) (w : World) (h6 : v.length ≤ 6) (hi : In 1000 v) (hk8 : k ≤ 8) (HKL : Hid (k = 0 ∨ 0 < loud v)) (hr : Row w a v) :
    Calls Tryz.prog 26 #[.slice a v.length cap, .int .i64 k] w fun e w' => ∃ p l, e = .returned p ∧ Has w' w.heap.size p l ∧ Hid (Near v k l) ∧ Below w.heap.size w w' := ref_okB a cap v k w h6 (hi.mono (by omega)) hk8 HKL hr

end Go.Proofs.YthkibjhhlcfceaiGreatDoor.Nea
