/-
  The landed log's record, stops, All: by their contracts.
-/
import Derived.Test.YtjojeifoddonnakGreatLc17
import Derived.Test.YtjojeifoddonnakGreatLc41
namespace Go.Proofs.YtjojeifoddonnakGreat.Lg19
open Go.RowKit
open Go.Proofs.YtjojeifoddonnakGreat.Tre Go.Proofs.YtjojeifoddonnakGreat.Bnd Go.Proofs.YtjojeifoddonnakGreat.Frm Go.Proofs.YtjojeifoddonnakGreat.Pck Go.Proofs.YtjojeifoddonnakGreat.Hrn Go.Proofs.YtjojeifoddonnakGreat.Ev
set_option linter.unusedVariables false

set_option maxRecDepth 100000 in
set_option maxHeartbeats 4000000 in
theorem recordL (x : ByteArray) (w : World) (h50 : x.size ≤ 50) : Calls Tryz.prog 35 #[.string x] w fun e w' => ∃ v, e = .returned v ∧ HasY w' w.heap.size v (rcd x) ∧ Below w.heap.size w w' := by
  have H0 := has_byte w (x.size : Int)
  have hln : [(x.size : Int)].length + x.size ≤ 1000000 := by simp; omega
  have hbA : Below w.heap.size w (w.alloc (.cells #[.int .u8 (x.size : Int)] 5)) := (Below.refl _ _).alloc (Nat.le_refl _) _
  go_enter Tryz.func35, Tryz.ntmps35
  go_wp2_with (at_builtin; refine wpList_appyt _ rfl _ _ rfl w.heap.size _ [(x.size : Int)] x rfl H0 rfl hln (by simp) ?_; intro v1 w1 k1 g1)
  go_ret
  exact ⟨_, rfl, k1, hbA.grown g1 (by simp) (fun j e => (H0.lt j e).1)⟩

/-- What the counter does. -/
def StopSays (W : World) (b : Nat) (lf : Int) (e : Ending) (W' : World) : Prop :=
  (lf < 0 ∧ e = .returned (.bool false) ∧ W' = W) ∨ (lf = 0 ∧ e = .returned (.bool true) ∧ W' = (W.setCell ⟨b, 4, none⟩ (.int .i64 (-1))).setCell ⟨b, 5, none⟩ (.bool true)) ∨
    (0 < lf ∧ e = .returned (.bool false) ∧ W' = (W.setCell ⟨b, 4, none⟩ (.int .i64 (lf - 1))).setCell ⟨b, 5, none⟩ (.bool false))
set_option maxRecDepth 100000 in
set_option maxHeartbeats 4000000 in
theorem stopsL {W : World} {b : Nat} {sv dv : Value} {B sf lf : Int} {st : Bool} (h : LogB W b sv B dv sf lf st) (hm : lf ≤ 9223372036854775807) :
    Calls Tryz.prog 36 #[.pointer (some ⟨b, 0, none⟩)] W fun e W' => StopSays W b lf e W' := by
  have c4 := h.c4
  have f4 := h.fz 4
  rcases Int.lt_trichotomy lf 0 with h0 | h0 | h0
  · have d1 : decide (lf < 0) = true := decide_eq_true h0
    have HR : Hid (StopSays W b lf (.returned (.bool false)) W) := hide (Or.inl ⟨h0, rfl, rfl⟩)
    go_enter Tryz.func36, Tryz.ntmps36
    go_wp2
    go_ret
    exact unhide HR
  · subst h0
    have h1 := h.left (-1)
    have h2 := h1.stop true
    have d4 := h1.c4
    have d5 := h1.c5
    have e5 := h2.c5
    have f5 := h1.fz 5
    have HR : Hid (StopSays W b 0 (.returned (.bool true)) ((W.setCell ⟨b, 4, none⟩ (.int .i64 (-1))).setCell ⟨b, 5, none⟩ (.bool true))) := hide (Or.inr (Or.inl ⟨rfl, rfl, rfl⟩))
    clear h h1 h2
    go_enter Tryz.func36, Tryz.ntmps36
    go_wp2
    go_ret
    exact unhide HR
  · have h1 := h.left (lf - 1)
    have h2 := h1.stop false
    have d4 := h1.c4
    have d5 := h1.c5
    have e5 := h2.c5
    have f5 := h1.fz 5
    have d1 : decide (lf < 0) = false := decide_eq_false (by omega)
    have d2 : decide (lf - 1 < 0) = false := decide_eq_false (by omega)
    have HR : Hid (StopSays W b lf (.returned (.bool false)) ((W.setCell ⟨b, 4, none⟩ (.int .i64 (lf - 1))).setCell ⟨b, 5, none⟩ (.bool false))) := hide (Or.inr (Or.inr ⟨h0, rfl, rfl⟩))
    clear h h1 h2
    go_enter Tryz.func36, Tryz.ntmps36
    go_wp2
    go_ret
    exact unhide HR

section
variable {s : List Int} {B : Int} {Q : Nat → Prop} {W : World} {b : Nat} {a : Option Addr} {cap : Nat} {vd : Value} {D : List Int} {L : St} {lf sf : Int} {st : Bool}
set_option maxRecDepth 100000 in
set_option maxHeartbeats 4000000 in
theorem allL (h : LgM s B Q W b a cap vd D sf lf st) (hi : Inv L D lf) :
    Calls Tryz.prog 14 #[.pointer (some ⟨b, 0, none⟩)] W fun e W' => ∃ v, e = .returned v ∧ HasT W' W.heap.size v L.F ∧ Below W.heap.size W W' := by
  obtain ⟨T, hD, h1, h2, h3⟩ := hi.dat
  obtain ⟨p, q, rfl, hr, hq, _, _⟩ := h.dat.rowY
  have c2 := h.lay.c2
  have CW := hide (wholeL p q D L.F T W hD h1 hi.byts hi.frs hi.few hr hq (by have := hi.long.1; omega))
  obtain ⟨N, hN⟩ : ∃ N, D.length = N := ⟨_, rfl⟩
  rw [hN] at c2 CW
  clear h hi hD h1 h2 h3 hr hq hN
  go_enter Tryz.func14, Tryz.ntmps14
  go_wp2_with fail
  refine (unhide CW).mono ?_
  rintro e w1 ⟨v, rfl, hv, hb⟩
  go_wp2
  go_ret
  exact ⟨_, rfl, hv, hb⟩
end

end Go.Proofs.YtjojeifoddonnakGreat.Lg19

/-
  The landed log's Sync: by its contract.
-/
namespace Go.Proofs.YtjojeifoddonnakGreat.Lg19
open Go.RowKit
open Go.Proofs.YtjojeifoddonnakGreat.Tre Go.Proofs.YtjojeifoddonnakGreat.Bnd Go.Proofs.YtjojeifoddonnakGreat.Frm Go.Proofs.YtjojeifoddonnakGreat.Pck Go.Proofs.YtjojeifoddonnakGreat.Hrn Go.Proofs.YtjojeifoddonnakGreat.Ev
set_option linter.unusedVariables false

def SyncSays (s : List Int) (B : Int) (Q : Nat → Prop) (W : World) (b : Nat) (L : St) (e : Ending) (W' : World) : Prop := ∃ E L', e = .returned (errV E) ∧ SyncF L E L' ∧ Left LH s B Q W b L' W'
section
variable {s : List Int} {B : Int} {Q : Nat → Prop} {W : World} {b : Nat} {a : Option Addr} {cap : Nat} {vd : Value} {D : List Int} {L : St} {lf : Int}
theorem syncL_stopped (hM : LgM s B Q W b a cap vd D L.s lf L.st) (hI : Inv L D lf) (h0 : Hid18.newF s B = 0) (hlf : lf ≤ 9223372036854775807) (hst : L.st = true) : SyncSays s B Q W b L (.returned (errV 6)) W :=
  ⟨6, L, rfl, Or.inl ⟨hst, rfl, rfl⟩, Q, ⟨a, cap, vd, D, lf, hM, hI, h0, hlf⟩, fun k hk => Or.inl hk, Keeps.refl W⟩
theorem syncL_stops (hM : LgM s B Q W b a cap vd D L.s lf L.st) (hI : Inv L D lf) (h0 : Hid18.newF s B = 0) (hst : L.st = false) (h : lf = 0) : SyncSays s B Q W b L (.returned (errV 6)) ((W.setCell ⟨b, 4, none⟩ (.int .i64 (-1))).setCell ⟨b, 5, none⟩ (.bool true)) :=
  ⟨6, ⟨L.F, L.M, L.b, L.s, true, none⟩, rfl, Or.inr ⟨hst, Or.inl ⟨steps_zero hI.f h, rfl, none, rfl⟩⟩, Q, ⟨a, cap, vd, D, -1, (hM.left (-1)).stop true, hI.stop, h0, by omega⟩, fun k hk => Or.inl hk, (hM.keeps 4 _).trans ((hM.left (-1)).keeps 5 _) (fun j hj => Or.inl hj)⟩
theorem syncL_yes {w4 : World} {l2 : Int} (hM : LgM s B Q w4 b a cap vd D L.s l2 false) (hK : Keeps Q W w4) (hI : Inv L D lf) (h0 : Hid18.newF s B = 0) (hlf : l2 ≤ 9223372036854775807) (hst : L.st = false) (hf : L.f ≠ some 0) (hl : steps l2 = L.f.map Nat.pred) : SyncSays s B Q W b L (.returned (errV 0)) (w4.setCell ⟨b, 3, none⟩ (.int .i64 (D.length : Int))) := by
  refine ⟨0, ⟨L.F, L.M, L.b, L.b, false, L.f.map Nat.pred⟩, rfl, Or.inr ⟨hst, Or.inr ⟨hf, rfl, rfl⟩⟩, Q, ⟨a, cap, vd, D, l2, ?_, hI.sync hst l2 hl, h0, hlf⟩, fun k hk => Or.inl hk, hK.trans (hM.keeps 3 _) (fun j hj => Or.inl hj)⟩
  have := hM.safe (D.length : Int)
  rw [← hI.b] at this ⊢
  exact this
set_option maxRecDepth 100000 in
set_option maxHeartbeats 8000000 in
theorem syncL (h : LH s B Q W b L) : Calls Tryz.prog 12 #[.pointer (some ⟨b, 0, none⟩)] W fun e W' => SyncSays s B Q W b L e W' := by
  obtain ⟨a, cap, vd, D, lf, hM, hI, h0, hlf⟩ := h
  have c5 := hM.lay.c5
  by_cases hst : L.st = true
  · have HR := hide (syncL_stopped hM hI h0 hlf hst)
    rw [errV_ne (by omega)] at HR
    rw [hst] at c5
    clear hM hI h0 hlf hst
    go_enter Tryz.func12, Tryz.ntmps12
    go_wp2
    go_ret
    exact unhide HR
  · have hst : L.st = false := by simpa using hst
    have CS := hide (stopsL hM.lay hlf)
    have HR0 : Hid (lf = 0 → _) := hide (fun h => syncL_stops hM hI h0 hst h)
    rw [errV_ne (by omega)] at HR0
    rw [hst] at hM c5
    have HM := hide hM
    have HY := hide (fun w4 l2 h1 h2 h3 h4 h5 => syncL_yes (W := W) (w4 := w4) (l2 := l2) (Q := Q) (b := b) (a := a) (cap := cap) (vd := vd) h1 h2 hI h0 h3 hst h4 h5)
    have HF := hide hI.f
    obtain ⟨p, q, rfl, -⟩ := hM.dat.rowY
    obtain ⟨N, hN⟩ : ∃ N, D.length = N := ⟨_, rfl⟩
    rw [hN] at HM HY
    clear hM hI h0 hst hN
    go_enter Tryz.func12, Tryz.ntmps12
    go_wp2_with fail
    refine (unhide CS).mono ?_
    rintro e w1 hsay
    clear CS
    rcases hsay with ⟨hl, rfl, rfl⟩ | ⟨hl, rfl, rfl⟩ | ⟨hl, rfl, rfl⟩
    · have hB := (unhide HM).lay
      have c2 := hB.c2
      have c3 := hB.c3
      have f3 := hB.fz 3
      obtain ⟨k1, k2⟩ := steps_none (unhide HF) hl
      have HR := hide (unhide HY _ lf (unhide HM) (Keeps.refl _) hlf k1 k2)
      clear HM HY HF HR0 hB k1 k2
      go_wp2
      go_ret
      exact unhide HR
    · have HR := hide (unhide HR0 hl)
      clear HM HY HF HR0
      go_wp2
      go_ret
      exact unhide HR
    · have hM2 := ((unhide HM).left (lf - 1)).stop false
      have hB := hM2.lay
      have c2 := hB.c2
      have c3 := hB.c3
      have f3 := hB.fz 3
      obtain ⟨k1, k2⟩ := steps_more (unhide HF) hl
      have HR := hide (unhide HY _ (lf - 1) hM2 (((unhide HM).keeps 4 _).trans (((unhide HM).left (lf - 1)).keeps 5 _) (fun j hj => Or.inl hj)) (by omega) k1 k2)
      clear HM HY HF HR0 hB hM2 k1 k2
      go_wp2
      go_ret
      exact unhide HR
end

end Go.Proofs.YtjojeifoddonnakGreat.Lg19

/-
  The landed log's Crash: by its contract.
-/
namespace Go.Proofs.YtjojeifoddonnakGreat.Lg19
open Go.RowKit
open Go.Proofs.YtjojeifoddonnakGreat.Tre Go.Proofs.YtjojeifoddonnakGreat.Bnd Go.Proofs.YtjojeifoddonnakGreat.Frm Go.Proofs.YtjojeifoddonnakGreat.Pck Go.Proofs.YtjojeifoddonnakGreat.Hrn Go.Proofs.YtjojeifoddonnakGreat.Ev
set_option linter.unusedVariables false

def CrashSays (s : List Int) (B : Int) (Q : Nat → Prop) (W : World) (b : Nat) (L : St) (keep : Int) (e : Ending) (W' : World) : Prop := e = .returned (.tuple #[]) ∧ Left LH s B Q W b (crash L keep) W'
section
variable {s : List Int} {B : Int} {Q : Nat → Prop} {W : World} {b : Nat} {a : Option Addr} {cap : Nat} {vd : Value} {D : List Int} {L : St} {lf : Int}
theorem crash_yes {w1 : World} {v2 : Value} {D2 : List Int} {keep : Int} {st : Bool} {E : Int} (hM : LgM s B Q w1 b a cap vd D L.s lf st) (hK : Keeps Q W w1) (h0 : Hid18.newF s B = 0) (hv : HasY w1 0 v2 D2) (hat : v2.ownBlock = vd.ownBlock) (hE : (crash L keep).s = E) (hI : Inv (crash L keep) D2 (-1)) :
    CrashSays s B Q W b L keep (.returned (.tuple #[])) ((((w1.setCell ⟨b, 2, none⟩ v2).setCell ⟨b, 3, none⟩ (.int .i64 E)).setCell ⟨b, 4, none⟩ (.int .i64 (-1))).setCell ⟨b, 5, none⟩ (.bool false)) := by
  have h1 := hM.cut hv hat
  have h2 := h1.safe E
  have h3 := h2.left (-1)
  have h4 := h3.stop false
  rw [← hE] at h4 ⊢
  refine ⟨rfl, Q, ⟨a, cap, v2, D2, -1, h4, hI, h0, by omega⟩, fun k hk => Or.inl hk, ?_⟩
  have k1 : Keeps Q w1 _ := hM.keeps 2 v2
  have k2 : Keeps Q _ _ := h1.keeps 3 (.int .i64 (crash L keep).s)
  rw [← hE] at h2 h3
  exact (((hK.trans k1 (fun j hj => Or.inl hj)).trans k2 (fun j hj => Or.inl hj)).trans (h2.keeps 4 _) (fun j hj => Or.inl hj)).trans (h3.keeps 5 _) (fun j hj => Or.inl hj)
/-- How many bytes of those that are not safe. -/
theorem high_is {L : St} {keep N : Int} (hs : 0 ≤ L.s ∧ L.s ≤ N) (hb : L.b = N) : high L keep = L.s + min (max keep 0) (N - L.s) := by
  unfold high
  rw [hb]
  split
  · split <;> omega
  · omega
end

/-- The first ones of such a slice. -/
theorem HasYcut {w : World} {base : Nat} {p : Option Addr} {n q k : Nat} {l : List Int} (h : HasY w base (.slice p n q) l) (hk : k ≤ l.length) : HasY w base (.slice p k q) (l.take k) ∧ (Value.slice p k q).ownBlock = (Value.slice p n q).ownBlock := by
  have hl : (l.take k).length = k := by rw [List.length_take]; omega
  refine ⟨?_, by cases p <;> rfl⟩
  rcases h.2 with ⟨e, h0⟩ | ⟨g, cap, cur, e, hb, hg, hc, hm, hs, hx⟩
  · obtain rfl : l = [] := List.eq_nil_of_length_eq_zero h0
    obtain rfl : k = 0 := by simpa using hk
    cases e
    exact HasY.nil _ _
  · cases e
    unfold HasY
    rw [hl]
    refine ⟨by rw [List.length_map, hl, Nat.mul_one], Or.inr ⟨g, q, cur, rfl, hb, hg, by omega, hm, hs, ?_⟩⟩
    rw [List.map_take, ← hx, List.take_take, Nat.mul_one, Nat.mul_one, Nat.min_eq_left hk]

section
variable {s : List Int} {B : Int} {Q : Nat → Prop} {W : World} {b : Nat} {L : St}
set_option maxRecDepth 100000 in
set_option maxHeartbeats 16000000 in
theorem crashL (keep : Int) (h : LH s B Q W b L) : Calls Tryz.prog 13 #[.pointer (some ⟨b, 0, none⟩), .int .i64 keep] W fun e W' => CrashSays s B Q W b L keep e W' := by
  obtain ⟨a, cap, vd, D, lf, hM, hI, h0, hlf⟩ := h
  obtain ⟨hh, hhi, hhD, ⟨T', hT, hLT⟩, hle, hI2⟩ := hI.cut keep
  have hsf := hI.safe
  have hhigh := high_is (keep := keep) hsf hI.b
  rw [hhi] at hhigh
  have hD9 := hI.long.1
  have hll := left_le hI.ok keep
  have hFl : (L.F.take (left L keep)).length = left L keep := by rw [List.length_take]; omega
  have hcs : (crash L keep).s = ((rcds (L.F.take (left L keep))).length : Int) := hI.mrk _ hll
  have hfrs : ∀ i, i < (L.F.take (left L keep)).length → 1 ≤ ((L.F.take (left L keep)).getD i ⟨#[]⟩).size ∧ ((L.F.take (left L keep)).getD i ⟨#[]⟩).size ≤ 50 := fun i hi => by
    rw [hFl] at hi
    have := hI.frs i (by omega)
    simp only [List.getD_eq_getElem?_getD] at this ⊢
    rw [List.getElem?_take, if_pos hi]
    exact this
  have hlt1 : (D.take hh).length = hh := by rw [List.length_take]; omega
  obtain ⟨p, q, rfl, hr, hq, hq9, -⟩ := hM.dat.rowY
  have hrT := hr.first hh
  have CW := hide (fun W hr => wholeL p q (D.take hh) (L.F.take (left L keep)) T' W hT hLT (fun c hc => hI.byts c (List.mem_of_mem_take hc)) hfrs (by rw [hFl]; have := hI.few; omega) hr (by rw [hlt1]; omega) (by rw [hlt1]; omega))
  have HFI : Hid (∀ w1, Below W.heap.size W w1 → HasY w1 0 (.slice p D.length q) D) := hide (fun w1 hb => hM.dat.below hb)
  have c2 := hM.lay.c2
  have c3 := hM.lay.c3
  have HM := hide hM
  have HYE := hide (fun w1 v2 h1 h2 h3 h4 => crash_yes (W := W) (w1 := w1) (v2 := v2) (D := D) (keep := keep) (Q := Q) (b := b) (a := a) (cap := cap) (vd := .slice p D.length q) (lf := lf) (st := L.st) h1 h2 h0 h3 h4 hcs hI2)
  rw [hlt1] at CW
  obtain ⟨E, hE⟩ : ∃ E, (rcds (L.F.take (left L keep))).length = E := ⟨_, rfl⟩
  rw [hE] at CW hle HYE
  obtain ⟨sf, hsf2⟩ : ∃ sf, L.s = sf := ⟨_, rfl⟩
  rw [hsf2] at hsf hhigh c3
  obtain ⟨N, hN⟩ : ∃ N, D.length = N := ⟨_, rfl⟩
  have HCU : Hid (∀ w1, HasY w1 0 (.slice p N q) D → HasY w1 0 (.slice p E q) (D.take E) ∧ (Value.slice p E q).ownBlock = (Value.slice p N q).ownBlock) := hide (fun w1 h => HasYcut h (by omega))
  have HN := hide hN
  rw [hN] at hsf hhigh hD9 hhD hq c2 HYE HM HFI
  obtain ⟨M1, hM1⟩ : ∃ M1 : Int, (if keep < 0 then 0 else keep) = M1 := ⟨_, rfl⟩
  obtain ⟨K, hK⟩ : ∃ K : Int, (if (N : Int) - sf < M1 then (N : Int) - sf else M1) = K := ⟨_, rfl⟩
  have hKh : sf + K = hh := by
    rw [hhigh, ← hK, ← hM1]
    split <;> split <;> omega
  have hwr : IntKind.i64.wrap (sf + K) = (hh : Int) := by rw [IntWalk.i64_in _ (by omega)]; exact hKh
  have hwN : IntKind.i64.wrap ((N : Int) - sf) = (N : Int) - sf := IntWalk.i64_in _ (by omega)
  have hqh : hh ≤ q := by omega
  have hqE : E ≤ q := by omega
  have hrTd : RowY W.drew.drew p (D.take hh) := hrT
  have hdr : Below W.heap.size W W.drew.drew := ⟨rfl, rfl, rfl, Nat.le_refl _, fun _ _ => rfl⟩
  clear hM hI h0 hlf hhi hT hLT hI2 hll hFl hcs hfrs hlt1 hr hE hsf2 hN hhigh hKh hrT
  go_enter Tryz.func13, Tryz.ntmps13
  go_wp2
  go_region
  clear hM1 hK
  go_wp2
  go_region_with (
    go_at_call 39
    refine (unhide CW _ hrTd).mono ?_
    rintro e w1 ⟨v, rfl, hv, hb1⟩)
  all_goals (
    have hB1 := hdr.trans hb1
    have hM2 := (unhide HM).below hB1
    obtain ⟨hc1, hc2⟩ := unhide HCU w1 hM2.dat
    have HR := hide (unhide HYE w1 (.slice p E q) hM2 (Keeps.of_below hB1) hc1 hc2)
    have g2 := hM2.cut hc1 hc2
    have g3 := g2.safe (E : Int)
    have g4 := g3.left (-1)
    have d2 := hM2.lay.c2
    have f2 := hM2.lay.fz 2
    have d3 := g2.lay.c3
    have f3 := g2.lay.fz 3
    have d4 := g3.lay.c4
    have f4 := g3.lay.fz 4
    have d5 := g4.lay.c5
    have f5 := g4.lay.fz 5
    obtain ⟨pv, qv, rfl, -⟩ := hv.shape
    obtain ⟨LV, hLV⟩ : ∃ LV, (L.F.take (left L keep)).length = LV := ⟨_, rfl⟩
    rw [hLV]
    clear hLV hc1 hc2 g2 g3 g4 hM2 HYE HCU HM HFI CW hv
    go_wp2
    go_end0
    exact unhide HR)
end

end Go.Proofs.YtjojeifoddonnakGreat.Lg19
