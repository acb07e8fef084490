/-
  run.lines: the iterator, by its contract.
-/
import Derived.Test.YtkkhgdkgbhdfaakGreatDoorRa30
import Derived.Test.YtkkhgdkgbhdfaakGreatDoorRa19
import Derived.Test.YtkkhgdkgbhdfaakGreatDoorRa17
namespace Go.Proofs.YtkkhgdkgbhdfaakGreatDoor.Lb
open Go.RowKit Go.Shelf
open Go.Proofs.YtkkhgdkgbhdfaakGreatDoor.Tre Go.Proofs.YtkkhgdkgbhdfaakGreatDoor.Hrn Go.Proofs.YtkkhgdkgbhdfaakGreatDoor.Txt Go.Proofs.YtkkhgdkgbhdfaakGreatDoor.Ses Go.Proofs.YtkkhgdkgbhdfaakGreatDoor.Itr
set_option linter.unusedVariables false
attribute [local go_sem] Oper.semAt_some

/-- A line of at most 3000 bytes. -/
abbrev Ln : Type := { x : List Int // Byts x ∧ x.length ≤ 3000 }
abbrev encL (x : Ln) : Array Value := #[.string (str x.1)]
/-- How long a text is. -/
def strN : Value → Nat
  | .string s => s.size
  | _ => 0
theorem empty_is (l : List Int) : ((str l).toList == ([] : List UInt8)) = decide (l = []) := by
  rw [str_toList]
  cases l with
  | nil => rfl
  | cons a l => simp [u8s]

/-- A text's first line, and what is behind it. -/
theorem first_line {rest : List Int} (hb : Byts rest) (hl : rest.length ≤ 3000) (hne : rest ≠ []) (w : World) (m : Int) (hm : w.cell? ⟨1, 0, none⟩ = some (.int .i64 m)) :
    ∃ (a r : List Int) (t : Bool), lines rest = a :: lines r ∧ Byts a ∧ a.length ≤ 3000 ∧ Byts r ∧ r.length < rest.length ∧
      Calls Tryz.prog 66 #[.string (str rest), .string { data := #[10] }] w fun e w' => e = .returned (.tuple #[.string (str a), .string (str r), .bool t]) ∧ ∃ n, w' = w.drewN n := by
  have hpos : 0 < rest.length := List.length_pos_iff.2 hne
  rcases parted 10 rest with h | ⟨a, r, rfl, h⟩
  · exact ⟨rest, [], false, lines_one hne h, hb, hl, (fun b h => absurd h (by simp)), by simpa using hpos, cut_no hb hl h w m hm⟩
  · obtain ⟨h1, h2⟩ := byts_two hb
    refine ⟨a, r, true, lines_more h, h1, ?_, h2, ?_, cut_yes hb hl h w m hm⟩
    · simp at hl; omega
    · simp; omega

set_option maxRecDepth 100000 in
set_option maxHeartbeats 4000000 in
theorem lines1 (n : Nat) (hn : 2 ≤ n) (L Bs n₀ : Nat) (t : List Int) (hb : Byts t) (hl : t.length ≤ 3000) (J Jx : List Ln → World → Prop) (W : World)
    (hJ : AbidesFrom W.heap.size J)
    (hY : ∀ pre x W1, J pre W1 → pre.length < (lines t).length → YieldAt Fence.wide (n - 1) Tryz.prog L (encL x) W1 fun e W' =>
      (e = .returned (.bool true) ∧ J (pre ++ [x]) W' ∧ Kp n₀ Bs W1 W') ∨ (e = .returned (.bool false) ∧ Jx (pre ++ [x]) W'))
    (hBs : W.cell? ⟨Bs, 0, none⟩ = some (.string (str t))) (m : Int) (hm : W.cell? ⟨1, 0, none⟩ = some (.int .i64 m)) (hn0 : 1 < n₀) (h0 : J [] W) :
    CallsIn Fence.wide n Tryz.prog 65 #[.func (.yield L) #[] #[], .pointer (some ⟨Bs, 0, none⟩)] W fun e W' => (∃ v, e = .returned v) ∧
      ((∃ xs : List Ln, xs.map (·.1) = lines t ∧ J xs W') ∨ (∃ pre : List Ln, True ∧ Jx pre W')) := by
  have hmx : Tryz.prog.follows .mixedOrders = true := by kernel_rfl
  refine callsIn_of_wp Tryz.func65 rfl trivial ?_ rfl
  simp only [Tryz.ntmps65, List.size_toArray, List.length_cons, List.length_nil, Nat.reduceAdd, Nat.reduceSub, Array.replicate_succ, Array.replicate_zero, List.push_toArray, List.append_toArray, List.nil_append, List.cons_append]
  gi_wp2
  gi_loopw [3] (fun rv wr => ∃ (rest : List Int) (pre : List Ln), rv = .string (str rest) ∧ rest.length ≤ 3000 ∧ Hid (Byts rest) ∧ Hid (lines t = pre.map (·.1) ++ lines rest) ∧ J pre wr ∧ Kp n₀ Bs W wr) (fun rv _ => strN rv)
  case atStart => exact ⟨t, [], rfl, hl, hide hb, hide rfl, h0, Kp.refl _ _ _⟩
  case round =>
    obtain ⟨rest, pre, rfl, hr9, HB, HT, hJs, hK⟩ := hrel
    by_cases hne : rest = []
    · subst hne
      have q : ((str []).toList == ([] : List UInt8)) = true := empty_is []
      obtain ⟨X, hX⟩ : ∃ X, str [] = X := ⟨_, rfl⟩
      rw [hX] at q
      rw [hX]
      clear hX
      gi_wp2
      go_end0
      exact ⟨⟨_, rfl⟩, .inl ⟨pre, by rw [unhide HT, lines_nil, List.append_nil], hJs⟩⟩
    · have q : ((str rest).toList == ([] : List UInt8)) = false := by rw [empty_is, decide_eq_false hne]
      have hmr : wr.cell? ⟨1, 0, none⟩ = some (.int .i64 m) := (hK.1.cell (p := ⟨1, 0, none⟩) hn0).trans hm
      obtain ⟨a, r, tt, hl1, ha1, ha2, hr1, hr2, CC⟩ := first_line (unhide HB) hr9 hne wr m hmr
      have HL1 : Hid (lines t = (pre ++ [(⟨a, ha1, ha2⟩ : Ln)]).map (·.1) ++ lines r) := hide (by rw [unhide HT, hl1]; simp)
      have hplt : pre.length < (lines t).length := by rw [unhide HT, hl1]; simp
      have HSZ : Hid (strN (.string (str r)) < strN (.string (str rest))) := hide (by show (str r).size < (str rest).size; rw [str_size, str_size]; exact hr2)
      have hr3 : r.length ≤ 3000 := by omega
      have HBr := hide hr1
      obtain ⟨X, hX⟩ : ∃ X, str rest = X := ⟨_, rfl⟩
      rw [hX] at q CC HSZ ⊢
      clear hX hl1 hr1 hr2 hne HT HB hmr hBs
      gi_wp2_with fail
      refine ⟨trivial, (fun _ => by omega), ?_⟩
      refine (callsIn_wide.2 CC).mono ?_
      rintro e w' ⟨rfl, nq, rfl⟩
      have hKd : Kp n₀ Bs W (wr.drewN nq) := hK.trans ⟨⟨rfl, rfl, rfl, Nat.le_refl _, fun _ _ => rfl⟩, rfl⟩
      have hJ1 : J pre (wr.drewN nq) := hJ _ _ _ none hJs (drewN_by wr nq) (fun r e => by cases e)
      obtain ⟨fn, tmps, assign, body, hy, hR⟩ := hY pre ⟨a, ha1, ha2⟩ (wr.drewN nq) hJ1 hplt
      dsimp only [encL] at hy
      have hR' := hR.mono (R' := fun e W' => ∃ t : Bool, e = .returned (.bool t) ∧ Hid ((t = true ∧ J (pre ++ [(⟨a, ha1, ha2⟩ : Ln)]) W' ∧ Kp n₀ Bs (wr.drewN nq) W') ∨ (t = false ∧ Jx (pre ++ [(⟨a, ha1, ha2⟩ : Ln)]) W'))) (by
        rintro e W' (⟨rfl, h1, h2⟩ | ⟨rfl, h1⟩)
        · exact ⟨true, rfl, hide (.inl ⟨rfl, h1, h2⟩)⟩
        · exact ⟨false, rfl, hide (.inr ⟨rfl, h1⟩)⟩)
      clear hR hY
      gi_wp2
      refine ⟨(fun _ => by omega), hR'.mono ?_⟩
      rintro e W3 ⟨t, rfl, ht⟩
      cases t
      · rcases unhide ht with ⟨h1, _, _⟩ | ⟨_, hJx3⟩
        · cases h1
        · clear ht
          gi_wp2
          refine bodyPost_ret (results_none rfl _ _ _) rfl ?_
          exact ⟨⟨_, rfl⟩, .inr ⟨_, trivial, hJx3⟩⟩
      · rcases unhide ht with ⟨_, hJ3, hk3⟩ | ⟨h1, _⟩
        · clear ht
          gi_wp2
          go_roundw
          case rel => exact ⟨r, _, rfl, hr3, HBr, HL1, hJ3, hKd.trans hk3⟩
          case measure => exact unhide HSZ
        · cases h1

theorem lines_stops (n : Nat) (hn : 2 ≤ n) (Bs n₀ : Nat) (t : List Int) (hb : Byts t) (hl : t.length ≤ 3000) (w : World) (hlt : Bs < w.heap.size) (hn₀ : n₀ ≤ w.heap.size)
    (hBs : w.cell? ⟨Bs, 0, none⟩ = some (.string (str t))) (m : Int) (hm : w.cell? ⟨1, 0, none⟩ = some (.int .i64 m)) (hn0 : 1 < n₀) :
    SeqStopsK Fence.wide n Tryz.prog 65 #[.pointer (some ⟨Bs, 0, none⟩)] encL (Kp n₀ Bs) (fun xs => xs.map (·.1) = lines t) (fun _ => True) (lines t).length w := fun L J Jx W hW hJ _ hY h0 =>
  lines1 n hn L Bs n₀ t hb hl J Jx W hJ hY ((hW.cell (p := ⟨Bs, 0, none⟩) hlt).trans hBs) m ((hW.cell (p := ⟨1, 0, none⟩) (by show 1 < _; omega)).trans hm) hn0 h0

theorem lines_in (n : Nat) (x : ByteArray) (w : World) :
    CallsIn Fence.wide n Tryz.prog 40 #[.string x] w fun e w' => e = .returned (.func (.func 65) #[] #[.pointer (some ⟨w.heap.size, 0, none⟩)]) ∧ w' = w.alloc (.cells #[.string x] 9) := by
  refine callsIn_of_wp Tryz.func40 rfl trivial ?_ rfl
  simp only [Tryz.ntmps40, List.size_toArray, List.length_cons, List.length_nil, Nat.reduceAdd, Nat.reduceSub, Array.replicate_succ, Array.replicate_zero, List.push_toArray, List.append_toArray, List.nil_append, List.cons_append]
  gi_wp2
  refine bodyPost_ret (results_tmp rfl _ _ _) rfl ?_
  exact ⟨rfl, rfl⟩

end Go.Proofs.YtkkhgdkgbhdfaakGreatDoor.Lb
