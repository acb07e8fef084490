/-
  The landed log's whole: the frames of the records from the first one on, by its contract.
-/
import Derived.Test.YtjojeifoddonnakDoorLb09
import Derived.Test.YtjojeifoddonnakDoorLb21
import Derived.Test.YtjojeifoddonnakDoorLb05
import Derived.Test.YtjojeifoddonnakDoorLb19
namespace Go.Proofs.YtjojeifoddonnakDoor.Lg19
open Go.RowKit
open Go.Proofs.YtjojeifoddonnakDoor.Tre Go.Proofs.YtjojeifoddonnakDoor.Frm Go.Proofs.YtjojeifoddonnakDoor.Pck Go.Proofs.YtjojeifoddonnakDoor.Hrn Go.Proofs.YtjojeifoddonnakDoor.Scl
set_option linter.unusedVariables false

/-- What a round reads. -/
structure Reads (w : World) (a : Option Addr) (cap N E X : Nat) (x : ByteArray) (A : Option Addr) (b off : Nat) : Prop where
  at_ : a = some ⟨b, off, none⟩
  cell : w.cell? ⟨b, off + E, none⟩ = some (.int .u8 (X : Int))
  cut : ∀ W, (Instr.slice 38 (.slice a N cap) (some (.int .i64 ((E : Int) + 1))) (some (.int .i64 ((E : Int) + 1 + X))) none).run Tryd.prog W = .ok (.slice A X (cap - (E + 1))) W
  conv : (convert 38 9 (.slice A X (cap - (E + 1)))).run Tryd.prog w = .ok (.string x) w
set_option maxRecDepth 100000 in
theorem reads_at {a : Option Addr} {cap : Nat} {D : List Int} {G : List ByteArray} {T : List Int} {w : World} (hD : D = rcds G ++ T) (hb : Byts D) (hr : RowY w a D) (hcap : D.length ≤ cap) {i : Nat} (hi : i < G.length) (h1 : 1 ≤ (G.getD i ⟨#[]⟩).size) :
    ends G (i + 1) ≤ D.length ∧ ∃ A b off, Reads w a cap D.length (ends G i) (G.getD i ⟨#[]⟩).size (G.getD i ⟨#[]⟩) A b off := by
  have hn := ends_next G hi
  have hin : ends G (i + 1) ≤ D.length := by
    have := ends_in (F := G) (i := i + 1) hi
    rw [hD, List.length_append]
    omega
  refine ⟨hin, ?_⟩
  obtain ⟨b, off, e, hlt, hc⟩ := hr.at (k := ends G i) (by omega)
  obtain ⟨A, hA, hRA⟩ := cutY hr cap hcap (t := ends G i + 1) (q := ends G (i + 1)) (by omega) hin
  have hbody := rcds_body (T := T) hi
  rw [← hD] at hbody
  rw [hbody] at hRA
  refine ⟨A, b, off, e, ?_, fun W => ?_, ?_⟩
  · rw [hc (ends G i) (by omega), hD, rcds_head hi]
  · have := hA W
    rw [hn, show ends G i + (G.getD i ⟨#[]⟩).size + 1 - (ends G i + 1) = (G.getD i ⟨#[]⟩).size by omega] at this
    rw [show ((ends G i + (G.getD i ⟨#[]⟩).size + 1 : Nat) : Int) = (ends G i : Int) + 1 + ((G.getD i ⟨#[]⟩).size : Int) by omega, show ((ends G i + 1 : Nat) : Int) = (ends G i : Int) + 1 by omega] at this
    exact this
  · have := str_row (n := 0) (cap := cap - (ends G i + 1)) hRA (byt_byts _) (by rw [byt_length]; omega)
    rw [byt_length, str_byt] at this
    exact this

set_option maxRecDepth 100000 in
set_option maxHeartbeats 8000000 in
theorem wholeL (a : Option Addr) (cap : Nat) (D : List Int) (G : List ByteArray) (T : List Int) (w : World) (hD : D = rcds G ++ T) (hT : Less T) (hb : Byts D) (hf : ∀ i, i < G.length → 1 ≤ (G.getD i ⟨#[]⟩).size ∧ (G.getD i ⟨#[]⟩).size ≤ 50) (h20 : G.length ≤ 20) (hr : RowY w a D) (hcap : D.length ≤ cap) (h9 : D.length ≤ 2000) :
    Calls Tryd.prog 15 #[.slice a D.length cap] w fun e w' => ∃ v, e = .returned (.tuple #[v, .int .i64 ((rcds G).length : Int)]) ∧ HasT w' w.heap.size v G ∧ Below w.heap.size w w' := by
  have HRD : Hid (∀ i wr, i < G.length → Below w.heap.size w wr → ends G (i + 1) ≤ D.length ∧ ∃ A b off, Reads wr a cap D.length (ends G i) (G.getD i ⟨#[]⟩).size (G.getD i ⟨#[]⟩) A b off) := hide (fun i wr hi hB => reads_at hD hb (hr.below hB) hcap hi (hf i hi).1)
  have HST : Hid (∀ i, i < G.length → ends G (i + 1) = ends G i + (G.getD i ⟨#[]⟩).size + 1 ∧ 1 ≤ (G.getD i ⟨#[]⟩).size ∧ (G.getD i ⟨#[]⟩).size ≤ 50) := hide (fun i hi => ⟨ends_next G hi, hf i hi⟩)
  have HAL : Hid (ends G G.length = (rcds G).length) := hide (ends_all G (Nat.le_refl _))
  have hle : (rcds G).length ≤ D.length := by rw [hD, List.length_append]; omega
  have HEN : Hid ((rcds G).length < D.length → ∀ wr, Below w.heap.size w wr → ∃ (b off : Nat) (X : Int), a = some ⟨b, off, none⟩ ∧ wr.cell? ⟨b, off + (rcds G).length, none⟩ = some (.int .u8 X) ∧ 0 ≤ X ∧ X ≤ 255 ∧ (D.length : Int) < (rcds G).length + 1 + X) := hide (fun h wr hB => by
    obtain ⟨b, off, e, hlt, hc⟩ := (hr.below hB).at h
    have := Txt.byts_at hb (rcds G).length
    refine ⟨b, off, _, e, hc _ h, this.1, this.2, ?_⟩
    subst hD
    exact less_end hT h)
  have HNX : Hid (∀ i, i < G.length → G.take (i + 1) = G.take i ++ [G.getD i ⟨#[]⟩]) := hide (fun i hi => take_next hi)
  have HTL : Hid (∀ i, (G.take i).length + 1 ≤ 1000000) := hide (fun i => by rw [List.length_take]; omega)
  have HTA : Hid (G.take G.length = G) := hide (List.take_length)
  obtain ⟨N, hN⟩ : ∃ N, D.length = N := ⟨_, rfl⟩
  obtain ⟨M, hM⟩ : ∃ M, G.length = M := ⟨_, rfl⟩
  obtain ⟨Z, hZ⟩ : ∃ Z, (rcds G).length = Z := ⟨_, rfl⟩
  rw [hM, hN] at HRD
  rw [hM] at HST HAL HNX HTA
  rw [hZ] at HAL hle HEN ⊢
  rw [hN] at hle HEN h9 ⊢
  clear hN hM hZ hD hT hb hf h20 hr hcap
  go_enter Tryd.func15, Tryd.ntmps15
  go_wp2
  go_loopw [4, 5] (fun v ev wr => ∃ (i E : Nat), i ≤ M ∧ ev = .int .i64 E ∧ Hid (ends G i = E) ∧ E ≤ N ∧ HasT wr w.heap.size v (G.take i) ∧ Below w.heap.size w wr) (fun _ ev _ => N - (intOf ev).toNat)
  case atStart => exact ⟨0, 0, Nat.zero_le _, rfl, hide rfl, Nat.zero_le _, HasT.nil _ _, Below.refl _ _⟩
  case round =>
    obtain ⟨i, E, hi, rfl, HE, hEN, hv, hB⟩ := hrel
    have hBs := hB.size
    by_cases hlt : i < M
    · obtain ⟨hin, A, b, off, R⟩ := unhide HRD i wr hlt hB
      obtain ⟨hn, h1, h50⟩ := unhide HST i hlt
      have HG := hide (unhide HNX i hlt)
      have hln := unhide HTL i
      rw [unhide HE] at hn R
      obtain ⟨x, hx⟩ : ∃ x, G.getD i ⟨#[]⟩ = x := ⟨_, rfl⟩
      rw [hx] at hn h1 h50 R HG
      obtain ⟨X, hX⟩ : ∃ X, x.size = X := ⟨_, rfl⟩
      rw [hX] at hn h1 h50 R
      have HE2 : Hid (ends G (i + 1) = E + 1 + X) := hide (by rw [hn]; omega)
      have hE2 : E + 1 + X ≤ N := by omega
      obtain ⟨rfl, hcell, hcut, hconv⟩ := R
      have e1 : decide ((E : Int) < (N : Int)) = true := decide_eq_true (by omega)
      have e2 : decide ((N : Int) < (E : Int) + 1 + (X : Int)) = false := decide_eq_false (by omega)
      clear hx hX hn hin HRD HST HAL HEN HNX HTA HTL HE
      go_wp2_with (at_builtin; refine wpList_appt _ rfl _ _ rfl w.heap.size u4 (G.take i) x _ _ _ rfl (hv.alloc _) rfl (cell_str _ _ _) hln (by simp; omega) ?_; intro s' w7 k7 g7 at7)
      have hB7 : Below w.heap.size w w7 := hB.trans (((Below.refl _ wr).alloc hBs _).grown g7 (by simp; omega) (fun j e => (hv.lt j e).1))
      go_roundw
      case rel => exact ⟨i + 1, E + 1 + X, hlt, by go_num, HE2, hE2, by rw [unhide HG]; exact k7, hB7⟩
      case measure => simp [intOf]; omega
    · obtain rfl : i = M := by omega
      have hEZ : E = Z := by rw [← unhide HE]; exact unhide HAL
      subst hEZ
      rw [unhide HTA] at hv
      by_cases hz : E < N
      · obtain ⟨b, off, X, rfl, hcell, x0, x255, hlong⟩ := unhide HEN hz wr hB
        have e1 : decide ((E : Int) < (N : Int)) = true := decide_eq_true (by omega)
        have e2 : decide ((N : Int) < (E : Int) + 1 + X) = true := decide_eq_true hlong
        clear HRD HST HAL HEN HNX HTA HTL HE
        go_wp2
        go_ret2
        exact ⟨_, rfl, hv, hB⟩
      · have e1 : decide ((E : Int) < (N : Int)) = false := decide_eq_false (by omega)
        clear HRD HST HAL HEN HNX HTA HTL HE
        go_wp2
        go_ret2
        exact ⟨_, rfl, hv, hB⟩

end Go.Proofs.YtjojeifoddonnakDoor.Lg19
