/-
  run.Run, by its contract.
-/
import Derived.Test.YtkkhgdkgbhdfaakGreatDoorRa32
import Derived.Test.YtkkhgdkgbhdfaakGreatDoorRa31
import Derived.Test.YtkkhgdkgbhdfaakGreatDoorRa16
import Derived.Test.YtkkhgdkgbhdfaakGreatDoorRa15
import Derived.Sort.QuietIn
namespace Go.Proofs.YtkkhgdkgbhdfaakGreatDoor.Lb
open Go.RowKit Go.Shelf
open Go.Proofs.YtkkhgdkgbhdfaakGreatDoor.Tre Go.Proofs.YtkkhgdkgbhdfaakGreatDoor.Hrn Go.Proofs.YtkkhgdkgbhdfaakGreatDoor.Txt Go.Proofs.YtkkhgdkgbhdfaakGreatDoor.Ses Go.Proofs.YtkkhgdkgbhdfaakGreatDoor.Itr Go.Proofs.YtkkhgdkgbhdfaakGreatDoor.Tnk
set_option linter.unusedVariables false
attribute [local go_sem] Oper.semAt_some

/-- (*run.desk).answer answers so. -/
def AnsC : Prop := ∀ (l : List Int) (D M : Nat) (H : Int) (w : World), Byts l → l.length ≤ 3000 → Lib20 w → 9 ≤ w.heap.size → 9 ≤ D → Desk w D M H → Ok 100 20 H →
    Calls Tryz.prog 42 #[.pointer (some ⟨D, 0, none⟩), .string (str l)] w fun e w' => AnsSays D M H l w e w'
theorem isB_kept {T e : TypeId} {B b : Nat} {bs : List Value} {W W' : World} {row : Option Nat} (h : Lib.IsBuilderF T e B b bs W) (hg : W.grownBy W' row) (hb : row ≠ some b) (hr : ∀ r c fz, row = some r → W.heap[r]? ≠ some (.cells c e fz)) : Lib.IsBuilderF T e B b bs W' := by
  have key : ∀ p, Lib.BuilderAtF T e B b p bs W → Lib.BuilderAtF T e B b p bs W' := fun p hp => by
    have hlt := hp.lt
    obtain ⟨hB, v, hbk, hown, hne⟩ := hp
    refine ⟨hB, v, (hg.block b hlt (fun e => hb e.symm)).trans hbk, hown.kept hg ?_, hne⟩
    rcases hown.2 with ⟨rfl, _⟩ | ⟨g, cap, cur, fz, rfl, hbg, hgb, _⟩
    · exact .inl rfl
    · exact .inr fun e' => hr g cur fz e'.symm hgb
  exact h.elim (fun x => .inl (key _ x)) (fun x => .inr (key _ x))
theorem cells_str (l : List Int) : Lib.strCells (str l) = Lib.byteCells (u8s l) := by
  rw [Lib.strCells_eq]
  rfl
theorem cells_app (l m : List Int) : Lib.strCells (str l) ++ Lib.strCells (str m) = Lib.strCells (str (l ++ m)) := by
  rw [cells_str, cells_str, cells_str, ← Lib.byteCells_append]
  unfold u8s
  rw [List.map_append]
theorem long_str : ({ data := #[116, 111, 111, 32, 108, 111, 110, 103, 10] } : ByteArray) = str tooLong := by decide +kernel

/-- Between two lines. -/
def RunI (w : World) (t : List Int) (pre : List Ln) (W : World) : Prop :=
  (∃ o H, Sess 100 (pre.map (·.1)) o H ∧ Ok 100 20 H ∧ Desk W (w.heap.size + 1) w.heap.size H ∧ Boxed W (w.heap.size + 1 + 1) 80 (.pointer (some ⟨w.heap.size + 1, 0, none⟩)) ∧ Boxed W (w.heap.size + 1 + 1 + 1 + 1) 9 (.string (str t)) ∧
    Lib.IsBuilderF 84 5 w.heap.size (w.heap.size + 1 + 1 + 1) (Lib.strCells (str o)) W) ∧ Below w.heap.size w W
theorem runI_own (w : World) (t : List Int) (D : Nat) (hD : w.heap.size + 1 + 1 + 1 + 1 + 1 ≤ D) : OwnFrom D (RunI w t) := by
  rintro s X Y row ⟨⟨o, H, h1, h2, h3, h4, h5, h6⟩, hB⟩ hg hrow
  have hr : ∀ k, k < D → row ≠ some k := fun k hk e => by have := (hrow k e).1; omega
  refine ⟨⟨o, H, h1, h2, ⟨(hg.block _ h3.lt (fun e => hr _ (by omega) e.symm)).trans h3.blk, (hg.block _ h3.mlt (fun e => hr _ (by omega) e.symm)).trans h3.map⟩, h4.kept hg (fun e => hr _ (by omega) e.symm), h5.kept hg (fun e => hr _ (by omega) e.symm), isB_kept h6 hg (hr _ (by omega)) (fun r c fz e h => ?_)⟩, hB.grown hg hB.size (fun k e => by have := (hrow k e).1; omega)⟩
  obtain ⟨_, ob, ho, hc⟩ := hrow r e
  rw [h] at ho
  cases ho
  cases hc

set_option maxRecDepth 100000 in
set_option maxHeartbeats 8000000 in
theorem run_in (t : List Int) (hb : Byts t) (hl : t.length ≤ 3000) (w : World) (hL : Lib20 w) (hg : 9 ≤ w.heap.size) (HA : Hid AnsC) :
    Calls Tryz.prog 19 #[.string (str t)] w fun e w' => ∃ o, e = .returned (.string (str o)) ∧ Says t o ∧ Below w.heap.size w w' := by
  have hsz : (str t).size = t.length := str_size t
  have hd : decide (3000 < (t.length : Int)) = false := by simp; omega
  obtain ⟨m, hm⟩ := hL.mx
  have HL := hide hL
  have hll : (lines t).length ≤ 3001 := by
    have := cut_length 10 t
    unfold lines
    split
    · rw [List.length_dropLast]; omega
    · omega
  clear hL
  refine (callsIn_wide (n := 7)).1 ?_
  refine callsIn_of_wp_marks Tryz.func19 rfl trivial ?_ rfl
  simp only [Tryz.ntmps19, List.size_toArray, List.length_cons, List.length_nil, Nat.reduceAdd, Nat.reduceSub, Array.replicate_succ, Array.replicate_zero, List.push_toArray, List.append_toArray, List.nil_append, List.cons_append]
  gi_wp2_with (first
    | (refine ⟨trivial, ?_⟩; gi_at_call 39; refine (callsIn_wide.2 (newDesk20 _)).mono ?_; rintro e w' ⟨rfl, rfl⟩)
    | (refine ⟨trivial, ?_⟩; gi_at_call 40; refine (lines_in _ _ _).mono ?_; rintro e w' ⟨rfl, rfl⟩))
  obtain ⟨h, hh⟩ : ∃ h, w.heap.size = h := ⟨_, rfl⟩
  have hB0 : Below w.heap.size w (((((w.alloc wordsM).alloc (.cells #[.int .i64 100, .int .i64 20, .int .i64 100, .map (some w.heap.size)] 112)).alloc (.cells #[.pointer (some ⟨w.heap.size + 1, 0, none⟩)] 80)).alloc (.cells #[.pointer none, .slice none 0 0] 84)).alloc (.cells #[.string (str t)] 9)) :=
    (((((Below.refl _ w).alloc (Nat.le_refl _) _).alloc (by simp) _).alloc (by simp; omega) _).alloc (by simp; omega) _).alloc (by simp; omega) _
  have s5 : (((((w.alloc wordsM).alloc (.cells #[.int .i64 100, .int .i64 20, .int .i64 100, .map (some w.heap.size)] 112)).alloc (.cells #[.pointer (some ⟨w.heap.size + 1, 0, none⟩)] 80)).alloc (.cells #[.pointer none, .slice none 0 0] 84)).alloc (.cells #[.string (str t)] 9)).heap.size = w.heap.size + 1 + 1 + 1 + 1 + 1 := by simp
  have bD : Desk (((((w.alloc wordsM).alloc (.cells #[.int .i64 100, .int .i64 20, .int .i64 100, .map (some w.heap.size)] 112)).alloc (.cells #[.pointer (some ⟨w.heap.size + 1, 0, none⟩)] 80)).alloc (.cells #[.pointer none, .slice none 0 0] 84)).alloc (.cells #[.string (str t)] 9)) (w.heap.size + 1) w.heap.size 100 := by
    refine ⟨?_, ?_⟩
    · rw [Below.heap_alloc _ _ _ (by simp only [World.size_alloc]; omega), Below.heap_alloc _ _ _ (by simp only [World.size_alloc]; omega), Below.heap_alloc _ _ _ (by simp only [World.size_alloc]; omega)]
      have := World.alloc_heap_new (w.alloc wordsM) (.cells #[.int .i64 100, .int .i64 20, .int .i64 100, .map (some w.heap.size)] 112)
      rwa [World.size_alloc] at this
    · rw [Below.heap_alloc _ _ _ (by simp only [World.size_alloc]; omega), Below.heap_alloc _ _ _ (by simp only [World.size_alloc]; omega), Below.heap_alloc _ _ _ (by simp only [World.size_alloc]; omega), Below.heap_alloc _ _ _ (by simp only [World.size_alloc]; omega)]
      exact World.alloc_heap_new w wordsM
  have b2 := ((Boxed.new ((w.alloc wordsM).alloc (.cells #[.int .i64 100, .int .i64 20, .int .i64 100, .map (some w.heap.size)] 112)) 80 (.pointer (some ⟨w.heap.size + 1, 0, none⟩))).alloc (.cells #[.pointer none, .slice none 0 0] 84)).alloc (.cells #[.string (str t)] 9)
  have b4 := Boxed.new ((((w.alloc wordsM).alloc (.cells #[.int .i64 100, .int .i64 20, .int .i64 100, .map (some w.heap.size)] 112)).alloc (.cells #[.pointer (some ⟨w.heap.size + 1, 0, none⟩)] 80)).alloc (.cells #[.pointer none, .slice none 0 0] 84)) 9 (.string (str t))
  have b3 : Lib.IsBuilderF 84 5 w.heap.size (w.heap.size + 1 + 1 + 1) (Lib.strCells (str [])) (((((w.alloc wordsM).alloc (.cells #[.int .i64 100, .int .i64 20, .int .i64 100, .map (some w.heap.size)] 112)).alloc (.cells #[.pointer (some ⟨w.heap.size + 1, 0, none⟩)] 80)).alloc (.cells #[.pointer none, .slice none 0 0] 84)).alloc (.cells #[.string (str t)] 9)) := by
    refine .inl ⟨by omega, .slice none 0 0, ?_, World.ownsRowF_of (World.ownsRow_nil _ _ _ _), by simp [Value.ownBlock]⟩
    rw [Below.heap_alloc _ _ _ (by simp only [World.size_alloc]; omega)]
    have := World.alloc_heap_new (((w.alloc wordsM).alloc (.cells #[.int .i64 100, .int .i64 20, .int .i64 100, .map (some w.heap.size)] 112)).alloc (.cells #[.pointer (some ⟨w.heap.size + 1, 0, none⟩)] 80)) (.cells #[.pointer none, .slice none 0 0] 84)
    simpa using this
  simp only [World.size_alloc] at b2 b4
  obtain ⟨W0, hW0⟩ : ∃ W0, (((((w.alloc wordsM).alloc (.cells #[.int .i64 100, .int .i64 20, .int .i64 100, .map (some w.heap.size)] 112)).alloc (.cells #[.pointer (some ⟨w.heap.size + 1, 0, none⟩)] 80)).alloc (.cells #[.pointer none, .slice none 0 0] 84)).alloc (.cells #[.string (str t)] 9)) = W0 := ⟨_, rfl⟩
  rw [hW0] at hB0 s5 bD b2 b3 b4 ⊢
  clear hW0 hh h
  have hm0 : W0.cell? ⟨1, 0, none⟩ = some (.int .i64 m) := (hB0.cell (p := ⟨1, 0, none⟩) (by show 1 < _; omega)).trans hm
  refine wpIn_rangeFunc_ownG rfl (by omega) (gf := 65) (lb := #[.pointer (some ⟨w.heap.size + 1 + 1 + 1 + 1, 0, none⟩)]) rfl trivial (enters_of Tryz.func65 (by kernel_rfl) rfl)
    (lines_stops _ (by omega) (w.heap.size + 1 + 1 + 1 + 1) w.heap.size t hb hl W0 (by omega) hB0.size b4.cell m hm0 (by omega)) Kp.trans (kp_b hB0.size (by omega)) (Below.refl _ _) (fun _ => rfl)
    (RunI w t) (fun _ _ _ => False) (runI_own w t _ (by omega)) (fun _ _ _ _ _ hs _ _ => hs)
    ⟨⟨[], 100, ⟨rfl, rfl⟩, by decide, bD, b2, b4, b3⟩, hB0⟩
    (fun x => { tmps := #[.string (str t), undef, .string { data := #[] }, .pointer (some ⟨w.heap.size + 1 + 1, 0, none⟩), .pointer (some ⟨w.heap.size + 1 + 1 + 1, 0, none⟩), .string (str x.1), .string (str t), .int .i64 t.length, .bool false, .pointer (some ⟨w.heap.size + 1, 0, none⟩), .string (str t),
      .func (.func 65) #[] #[.pointer (some ⟨w.heap.size + 1 + 1 + 1 + 1, 0, none⟩)], .string (str x.1), undef, undef, undef, undef, undef, undef], defers := [] }) ?assign ?body ?done ?stop
  case assign =>
    intro L x W K hK
    gi_wp2
    exact hK
  case body =>
    rintro L pre ⟨a, ha1, ha2⟩ W ⟨⟨o, H, h1, h2, h3, h4, h5, h6⟩, hB⟩ hlt
    have cA := unhide HA a (w.heap.size + 1) w.heap.size H W ha1 ha2 ((unhide HL).on hB hg) (Nat.le_trans hg hB.size) (by omega) h3 h2
    have HS := hide h1
    have hol := h1.length
    rw [List.length_map] at hol
    have c4 := h4.cell
    have hlD := h3.lt
    have hl5 := h5.lt
    have H2 := hide h2
    clear h1 h2 hm hm0 bD b2 b3 b4
    have hpl : pre.length < 3001 := by omega
    gi_wp2_with fail
    refine ⟨trivial, ?_⟩
    refine (CallsIn.inRound L (callsIn_wide.2 cA)).mono ?_
    rintro e w1 ⟨x, H1, rfl, hln, hD1, hBt⟩
    have hxl := hln.length
    have k1 := run_cat w1 x [10] (by simp; omega)
    rw [← nl_is] at k1
    have hW1 := hBt.size
    have hBB := isB_kept h6 hBt (fun e => by have := Option.some.inj e; omega) (fun r c fz e hc => by
      obtain rfl := Option.some.inj e
      rw [h3.blk] at hc
      have := (Obj.cells.inj (Option.some.inj hc)).2.1
      exact absurd this (by decide))
    have cW := Bld.write w.heap.size (w.heap.size + 1 + 1 + 1) (Lib.strCells (str o)) (str (x ++ [10])) w1 hBB (by rw [Lib.strCells_length, str_size, str_size]; simp; omega) (by have := hB.size; omega)
    have h41 : Boxed w1 (w.heap.size + 1 + 1) 80 (.pointer (some ⟨w.heap.size + 1, 0, none⟩)) := h4.kept hBt (fun e => by have := Option.some.inj e; omega)
    have h51 : Boxed w1 (w.heap.size + 1 + 1 + 1 + 1) 9 (.string (str t)) := h5.kept hBt (fun e => by have := Option.some.inj e; omega)
    have hB1 : Below w.heap.size w w1 := hB.trans (hBt.below (by omega) hB.size)
    have HSN : Hid (Sess 100 ((pre ++ [(⟨a, ha1, ha2⟩ : Ln)]).map (·.1)) (o ++ (x ++ [10])) H1) := hide (by rw [List.map_append]; exact (unhide HS).next hln)
    have HO1 : Hid (Ok 100 20 H1) := hide (hln.ok (unhide H2))
    obtain ⟨Z, hZ⟩ : ∃ Z, str (x ++ [10]) = Z := ⟨_, rfl⟩
    rw [hZ] at k1 cW
    clear cA hln H2 HS
    gi_wp2_with fail
    refine ⟨trivial, ?_⟩
    refine (CallsIn.inRound L (callsIn_wide.2 cW)).mono ?_
    rintro e w2 ⟨rfl, hB2, hb2, hk2⟩
    have hKO : KeepsFrom W0.heap.size W w2 := (KeepsFrom.of_grownBy hBt (fun j e => by have := Option.some.inj e; omega)).trans ⟨hb2.size, fun k ob hk ho hc => hk2 k ob ho (fun e => by have := Option.some.inj e; omega) (fun c fz e => by rw [e] at hc; cases hc)⟩
    have keep : ∀ {k : Nat} {c : Array Value} {T : TypeId} {fz : Nat × Nat}, w1.heap[k]? = some (.cells c T fz) → T ≠ 5 → k ≠ w.heap.size + 1 + 1 + 1 → w2.heap[k]? = some (.cells c T fz) := fun h hT hk => hk2 _ _ h (fun e => hk (Option.some.inj e)) (fun c fz e => hT (Obj.cells.inj e).2.1)
    have hD2 : Desk w2 (w.heap.size + 1) w.heap.size H1 := ⟨keep hD1.blk (by decide) (by omega), hk2 _ _ hD1.map (fun e => by have := Option.some.inj e; omega) (fun c fz e => by cases e)⟩
    have h42 : Boxed w2 (w.heap.size + 1 + 1) 80 (.pointer (some ⟨w.heap.size + 1, 0, none⟩)) := keep h41 (by decide) (by omega)
    have h52 : Boxed w2 (w.heap.size + 1 + 1 + 1 + 1) 9 (.string (str t)) := keep h51 (by decide) (by omega)
    rw [← hZ, cells_app] at hB2
    gi_wp2
    exact ⟨hKO, ⟨(hBt.below (by omega) hB.size).trans hb2, h52.trans h5.symm⟩, ⟨⟨_, H1, unhide HSN, unhide HO1, hD2, h42, h52, hB2⟩, hB1.trans hb2⟩⟩
  case done =>
    rintro D ys W hD hys ⟨⟨o, H, h1, h2, h3, h4, h5, h6⟩, hB⟩ hK
    rw [hys] at h1
    rw [cells_str] at h6
    have cS := Any.Builder_String_any_k Tryz.lays169 Tryz.Builder_Extra_169 w.heap.size (w.heap.size + 1 + 1 + 1) (u8s o) W h6 hB.size
    have HS : Hid (Says t o) := hide (Or.inr ⟨hl, H, h1⟩)
    have cS' : Calls Tryz.prog 43 #[.pointer (some ⟨w.heap.size + 1 + 1 + 1, 0, none⟩)] W fun e w' => e = .returned (.string (str o)) ∧ Below w.heap.size W w' ∧ Lib.OthersKept 5 (some (w.heap.size + 1 + 1 + 1)) W w' := cS.mono fun e w' ⟨h1, h2, h3, h4⟩ => ⟨h1, h3, h4⟩
    obtain ⟨Z, hZ⟩ : ∃ Z, str o = Z := ⟨_, rfl⟩
    rw [hZ] at cS'
    clear cS h1 h2 h3 h4 h5 h6 hm hm0 bD b2 b3 b4
    gi_wp2_with (refine ⟨trivial, ?_⟩; gi_at_call 43; refine (callsIn_wide.2 cS').mono ?_; rintro e w2 ⟨rfl, hb2, hk2⟩)
    have hK2 : w2.heap[D]? = some (.deferred (some [])) := hk2 _ _ hK (fun e => by have := Option.some.inj e; omega) (fun c fz e => by cases e)
    refine ⟨by simp, .inl ⟨_, _, rfl, run_takeDeferred hK2, ?_⟩⟩
    exact ⟨_, results_tmp rfl _ _ _, o, by rw [hZ]; rfl, unhide HS, (hB.trans hb2).trans (belowK_b (w := w) (Nat.le_refl _) _ D _ _ (by omega) hK2 rfl rfl)⟩
  case stop =>
    rintro D c pre W _ _ h _
    exact h.elim

set_option maxRecDepth 100000 in
theorem run_out (x : ByteArray) (hl : 3000 < x.size) (zx : x.size ≤ 9223372036854775807) (w : World) :
    Calls Tryz.prog 19 #[.string x] w fun e w' => e = .returned (.string (str tooLong)) ∧ w' = w := by
  have hd : decide (3000 < (x.size : Int)) = true := by simp; omega
  rw [← long_str]
  go_enter Tryz.func19, Tryz.ntmps19
  go_wp2
  go_ret
  exact ⟨rfl, rfl⟩

/-- run.Run answers any text so. -/
theorem run20 (HA : Hid AnsC) (x : ByteArray) (w : World) (hL : Lib20 w) (hg : 9 ≤ w.heap.size) (zx : x.size ≤ 9223372036854775807) :
    Calls Tryz.prog 19 #[.string x] w fun e w' => ∃ o, e = .returned (.string (str o)) ∧ Says (byt x) o ∧ Below w.heap.size w w' := by
  have hbl : (byt x).length = x.size := byt_length x
  by_cases h : 3000 < x.size
  · exact (run_out x h zx w).mono fun e w' ⟨h1, h2⟩ => ⟨tooLong, h1, Or.inl ⟨by omega, rfl⟩, by rw [h2]; exact Below.refl _ _⟩
  · have := run_in (byt x) (byt_byts x) (by omega) w hL hg HA
    rwa [str_byt] at this
theorem runs_of (HA : Hid AnsC) (w : World) (hL : Lib20 w) (hg : 9 ≤ w.heap.size) : Runs w := fun x W hb zx => run20 HA x W (hL.on hb hg) (Nat.le_trans hg hb.size) zx

end Go.Proofs.YtkkhgdkgbhdfaakGreatDoor.Lb
