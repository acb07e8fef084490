/-
  Texts as lists of bytes: a byte, a piece, the rest, and whether one is another.
-/
import Derived.Test.YtkkhgdkgbhdfaakGreatDoorRa13
import Derived.Laws.DeepStrings4
import Derived.Test.YtkkhgdkgbhdfaakGreatDoorRa06
import Derived.Test.YtkkhgdkgbhdfaakGreatDoorRa00
import Derived.Deep.QuietTactic
import Derived.BigQuiet
namespace Go.Proofs.YtkkhgdkgbhdfaakGreatDoor.Txt
open Go.RowKit
open Go.Proofs.YtkkhgdkgbhdfaakGreatDoor.Tre Go.Proofs.YtkkhgdkgbhdfaakGreatDoor.Scl Go.Proofs.YtkkhgdkgbhdfaakGreatDoor.Hrn
set_option linter.unusedVariables false

theorem str_sub (l : List Int) (i j : Nat) : (str l).extract i j = str ((l.take j).drop i) := by
  apply ByteArray.ext
  rw [ByteArray.data_extract]
  show (u8s l).toArray.extract i j = (u8s ((l.take j).drop i)).toArray
  simp [u8s, List.take_drop]
  by_cases h : i ≤ j
  · rw [show i + (j - i) = j by omega]
  · rw [List.drop_eq_nil_of_le (by simp; omega), List.drop_eq_nil_of_le (by simp; omega)]
set_option maxRecDepth 100000 in
theorem run_sub {l : List Int} {i j : Nat} (hi : i ≤ j) (hj : j ≤ l.length) (w : World) : (Instr.slice 9 (.string (str l)) (some (.int .i64 i)) (some (.int .i64 j)) none).run Tryz.prog w = .ok (.string (str ((l.take j).drop i))) w := by
  rw [run_slice_string_if w 9 (str l) .i64 .i64 i j Tryz.underlying9, if_pos ⟨by omega, by rw [str_size]; omega⟩, if_pos ⟨by omega, by omega⟩]
  rw [show ((i : Int)).toNat = i by omega, show ((j : Int)).toNat = j by omega, str_sub]
theorem str_from (l : List Int) (k : Nat) : (str l).extract k (str l).size = str (l.drop k) := by
  rw [str_sub, str_size, List.take_length]
set_option maxRecDepth 100000 in
theorem run_from {l : List Int} {k : Nat} (h : k ≤ l.length) (w : World) : (Instr.slice 9 (.string (str l)) (some (.int .i64 k)) none none).run Tryz.prog w = .ok (.string (str (l.drop k))) w := by
  rw [run_slice_string_from_if w 9 (str l) .i64 k Tryz.underlying9, if_pos ⟨by omega, by rw [str_size]; omega⟩]
  rw [show ((k : Int)).toNat = k by omega, str_from]
set_option maxRecDepth 100000 in
theorem run_ch {l : List Int} (hb : Byts l) {i : Nat} (h : i < l.length) (w : World) : (Instr.index 9 (.string (str l)) (.int .i64 i)).run Tryz.prog w = .ok (.int .u8 (at0 l i)) w := by
  have hs : i < (str l).size := by rw [str_size]; exact h
  rw [run_index_string w 9 (str l) .i64 i Tryz.underlying9, dif_pos ⟨by omega, by omega⟩]
  have e : ((i : Int)).toNat = i := by omega
  have e2 := byt_at (str l) hs
  rw [byt_str hb] at e2
  rw [← e2]
  simp only [e]
theorem u8s_inj {l m : List Int} (hl : Byts l) (hm : Byts m) (h : u8s l = u8s m) : l = m := str_inj hl hm (by unfold str; rw [h])
/-- Is a text this one? -/
theorem str_is {l m : List Int} (hl : Byts l) (hm : Byts m) : ((str l).toList == (str m).toList) = decide (l = m) := by
  rw [str_toList, str_toList]
  by_cases h : l = m
  · rw [h]; simp
  · rw [decide_eq_false h, beq_eq_false_iff_ne]
    exact fun e => h (u8s_inj hl hm e)
theorem byts_take {l : List Int} (h : Byts l) (i : Nat) : Byts (l.take i) := fun b hb => h b (List.mem_of_mem_take hb)
theorem byts_rest {l : List Int} (h : Byts l) (i : Nat) : Byts (l.drop i) := fun b hb => h b (List.mem_of_mem_drop hb)
theorem byts_at {l : List Int} (h : Byts l) (i : Nat) : 0 ≤ at0 l i ∧ at0 l i ≤ 255 := by
  unfold at0
  by_cases hi : i < l.length
  · rw [List.getElem?_eq_getElem hi]
    have := h l[i] (List.getElem_mem hi)
    simp
    omega
  · rw [List.getElem?_eq_none (by omega)]
    simp

end Go.Proofs.YtkkhgdkgbhdfaakGreatDoor.Txt

/-
  hornref2.Cut: by its contract.
-/
namespace Go.Proofs.YtkkhgdkgbhdfaakGreatDoor.Txt
open Go.RowKit
open Go.Proofs.YtkkhgdkgbhdfaakGreatDoor.Tre Go.Proofs.YtkkhgdkgbhdfaakGreatDoor.Scl Go.Proofs.YtkkhgdkgbhdfaakGreatDoor.Hrn Go.Proofs.YtkkhgdkgbhdfaakGreatDoor.Ses
set_option linter.unusedVariables false

theorem cut_step {c : Int} {l : List Int} {i f : Nat} (hi : i < l.length) (hf : f ≤ i) {O : List (List Int)} (h : cut c l = O ++ cutA c ((l.take i).drop f) (l.drop i)) :
    (at0 l i = c → cut c l = (O ++ [(l.take i).drop f]) ++ cutA c ((l.take (i + 1)).drop (i + 1)) (l.drop (i + 1))) ∧ (at0 l i ≠ c → cut c l = O ++ cutA c ((l.take (i + 1)).drop f) (l.drop (i + 1))) := by
  have e : at0 l i = l[i] := by simp [at0, hi]
  rw [List.drop_eq_getElem_cons hi, cutA] at h
  constructor
  · intro hc
    rw [if_pos (by rw [← e]; exact hc)] at h
    have e0 : (l.take (i + 1)).drop (i + 1) = [] := List.drop_eq_nil_of_le (by simp; omega)
    rw [h, e0]
    simp
  · intro hc
    rw [if_neg (by rw [← e]; exact hc)] at h
    rw [h, List.take_succ_eq_append_getElem hi, List.drop_append_of_le_length (by simp; omega)]
theorem cut_end {c : Int} {l : List Int} {f : Nat} {O : List (List Int)} (h : cut c l = O ++ cutA c ((l.take l.length).drop f) (l.drop l.length)) : cut c l = O ++ [l.drop f] := by
  rw [h, List.drop_length, List.take_length]
  rfl
theorem map_snoc (O : List (List Int)) (x : List Int) : O.map str ++ [str x] = (O ++ [x]).map str := by simp

set_option maxRecDepth 100000 in
set_option maxHeartbeats 4000000 in
theorem refCut (c : Int) (l : List Int) (w : World) (hb : Hid (Byts l)) (h9 : l.length ≤ 100000) :
    Calls Tryz.prog 20 #[.string (str l), .int .u8 c] w fun e w' => ∃ v, e = .returned v ∧ HasT w' w.heap.size v ((cut c l).map str) ∧ Below w.heap.size w w' := by
  have HIX := hide (fun (i : Nat) (h : i < l.length) (W : World) => run_ch (unhide hb) h W)
  have HSU := hide (fun (i j : Nat) (h1 : i ≤ j) (h2 : j ≤ l.length) (W : World) => run_sub h1 h2 W)
  have HFR := hide (fun (k : Nat) (h : k ≤ l.length) (W : World) => run_from h W)
  have hsz := str_size l
  obtain ⟨N, hN⟩ : ∃ N, l.length = N := ⟨_, rfl⟩
  have HN := hide hN
  rw [hN] at hsz h9 HIX HSU HFR
  have HST : Hid (∀ i f O, i < N → f ≤ i → cut c l = O ++ cutA c ((l.take i).drop f) (l.drop i) → _) := hide (fun i f O h1 h2 h3 => cut_step (by rw [hN]; exact h1) h2 h3)
  have HEN : Hid (∀ f O, cut c l = O ++ cutA c ((l.take N).drop f) (l.drop N) → cut c l = O ++ [l.drop f]) := hide (fun f O h => by rw [← hN] at h; exact cut_end h)
  clear hN
  go_enter Tryz.func20, Tryz.ntmps20
  go_wp2
  go_loopw [5, 6, 7] (fun v fv iv wr => ∃ (i f : Nat) (O : List (List Int)), i ≤ N ∧ f ≤ i ∧ iv = .int .i64 i ∧ fv = .int .i64 f ∧ HasT wr w.heap.size v (O.map str) ∧ Hid (cut c l = O ++ cutA c ((l.take i).drop f) (l.drop i)) ∧ Hid (O.length ≤ i) ∧ Below w.heap.size w wr) (fun _ _ iv _ => N - (intOf iv).toNat)
  case atStart => exact ⟨0, 0, [], Nat.zero_le _, Nat.le_refl _, rfl, rfl, HasT.nil _ _, hide rfl, hide (Nat.le_refl _), Below.refl _ _⟩
  case round =>
    obtain ⟨i, f, O, hi, hf, rfl, rfl, hv, HC, HO, hB⟩ := hrel
    have hBs := hB.size
    by_cases hlt : i < N
    · have hix := unhide HIX i hlt wr
      have hsu := unhide HSU f i hf hi wr
      obtain ⟨HY, HNo⟩ := unhide HST i f O hlt hf (unhide HC)
      have HY := hide HY
      have HNo := hide HNo
      have hln : Hid ((O.map str).length + 1 ≤ 1000000) := hide (by rw [List.length_map]; have := unhide HO; omega)
      obtain ⟨b, hbb⟩ : ∃ b, at0 l i = b := ⟨_, rfl⟩
      rw [hbb] at hix HY HNo
      clear hbb HC HFR
      by_cases hbc : b = c
      · subst hbc
        have HC2 := hide (unhide HY rfl)
        obtain ⟨x, hx⟩ : ∃ x, (l.take i).drop f = x := ⟨_, rfl⟩
        rw [hx] at hsu HC2
        clear HY HNo hx
        go_wp2_with (at_builtin; refine wpList_appt _ rfl _ _ rfl w.heap.size u5 (O.map str) (str x) _ _ _ rfl (hv.alloc _) rfl (cell_str _ _ _) (unhide hln) (by simp; omega) ?_; intro s' w7 k7 g7 at7)
        have hB7 : Below w.heap.size w w7 := hB.trans (((Below.refl _ wr).alloc hBs _).grown g7 (by simp; omega) (fun j e => (hv.lt j e).1))
        rw [map_snoc] at k7
        go_roundw
        case rel => exact ⟨i + 1, i + 1, O ++ [x], by omega, Nat.le_refl _, by go_num, by go_num, k7, HC2, hide (by rw [List.length_append]; have := unhide HO; simp; omega), hB7⟩
        case measure => simp [intOf]; omega
      · have dne : (b == c) = false := by rw [beq_eq_false_iff_ne]; exact hbc
        have HC2 := hide (unhide HNo hbc)
        clear HY HNo hsu
        go_wp2
        go_roundw
        case rel => exact ⟨i + 1, f, O, by omega, by omega, by go_num, rfl, hv, HC2, hide (by have := unhide HO; omega), hB⟩
        case measure => simp [intOf]; omega
    · obtain rfl : i = N := by omega
      have hfr := unhide HFR f hf wr
      have HC2 := hide (unhide HEN f O (unhide HC))
      have hln : Hid ((O.map str).length + 1 ≤ 1000000) := hide (by rw [List.length_map]; have := unhide HO; omega)
      obtain ⟨x, hx⟩ : ∃ x, l.drop f = x := ⟨_, rfl⟩
      rw [hx] at hfr HC2
      clear HC HIX HSU HFR HST HEN hx
      go_wp2_with (at_builtin; refine wpList_appt _ rfl _ _ rfl w.heap.size u5 (O.map str) (str x) _ _ _ rfl (hv.alloc _) rfl (cell_str _ _ _) (unhide hln) (by simp; omega) ?_; intro s' w7 k7 g7 at7)
      have hB7 : Below w.heap.size w w7 := hB.trans (((Below.refl _ wr).alloc hBs _).grown g7 (by simp; omega) (fun j e => (hv.lt j e).1))
      rw [map_snoc, ← unhide HC2] at k7
      go_wp2
      go_ret
      exact ⟨_, rfl, k7, hB7⟩

end Go.Proofs.YtkkhgdkgbhdfaakGreatDoor.Txt

/-
  hornref2.Digits, name: by their contracts.
-/
namespace Go.Proofs.YtkkhgdkgbhdfaakGreatDoor.Txt
open Go.RowKit
open Go.Proofs.YtkkhgdkgbhdfaakGreatDoor.Tre Go.Proofs.YtkkhgdkgbhdfaakGreatDoor.Scl Go.Proofs.YtkkhgdkgbhdfaakGreatDoor.Hrn Go.Proofs.YtkkhgdkgbhdfaakGreatDoor.Ses
set_option linter.unusedVariables false

theorem ten_is : ({ data := #[48, 49, 50, 51, 52, 53, 54, 55, 56, 57] } : ByteArray) = str [48, 49, 50, 51, 52, 53, 54, 55, 56, 57] := by decide +kernel
theorem ten_at {n : Nat} (h : n < 10) : (([48, 49, 50, 51, 52, 53, 54, 55, 56, 57] : List Int).take (n + 1)).drop n = [48 + (n : Int)] := by
  have : n = 0 ∨ n = 1 ∨ n = 2 ∨ n = 3 ∨ n = 4 ∨ n = 5 ∨ n = 6 ∨ n = 7 ∨ n = 8 ∨ n = 9 := by omega
  rcases this with rfl | rfl | rfl | rfl | rfl | rfl | rfl | rfl | rfl | rfl <;> rfl
theorem run_ten {n : Nat} (h : n < 10) (w : World) : (Instr.slice 9 (.string { data := #[48, 49, 50, 51, 52, 53, 54, 55, 56, 57] }) (some (.int .i64 n)) (some (.int .i64 ((n : Int) + 1))) none).run Tryz.prog w = .ok (.string (str [48 + (n : Int)])) w := by
  rw [ten_is, ← ten_at h]
  have := run_sub (l := [48, 49, 50, 51, 52, 53, 54, 55, 56, 57]) (i := n) (j := n + 1) (by omega) (by simp; omega) w
  rw [Int.natCast_add] at this
  exact this

set_option maxRecDepth 100000 in
set_option maxHeartbeats 4000000 in
theorem refDigits (n : Nat) : ∀ (w : World), n < 1000000000000000000 → Calls Tryz.prog 22 #[.int .i64 n] w fun e w' => e = .returned (.string (str (digits n))) ∧ w = w' := by
  induction n using Nat.strongRecOn with
  | ind n ih =>
    intro w h9
    by_cases h : n < 10
    · have hd : decide ((n : Int) < 10) = true := by simp; omega
      have hr := run_ten h w
      have HD := hide (digits_small h)
      obtain ⟨K, hK⟩ : ∃ K : Int, (n : Int) + 1 = K := ⟨_, rfl⟩
      have wK : IntKind.i64.wrap ((n : Int) + 1) = K := by rw [hK]; exact IntWalk.i64_in _ (by omega)
      rw [hK] at hr
      rw [unhide HD]
      clear hK ih
      go_enter Tryz.func22, Tryz.ntmps22
      go_wp2
      go_ret
      exact ⟨rfl, rfl⟩
    · have hd : decide ((n : Int) < 10) = false := by simp; omega
      have hnn : ¬ n < 10 := h
      have c := ih (n / 10) (by omega) w (by omega)
      have HD := hide (digits_next h (by omega))
      obtain ⟨q, hq⟩ : ∃ q, n / 10 = q := ⟨_, rfl⟩
      obtain ⟨r, hr⟩ : ∃ r, n % 10 = r := ⟨_, rfl⟩
      have hr10 : r < 10 := by omega
      have eq1 : Int.tdiv (n : Int) 10 = (q : Int) := by rw [← hq]; rfl
      have eq2 : Int.tmod (n : Int) 10 = (r : Int) := by rw [← hr]; rfl
      have eq3 : (n : Int) % 10 = (r : Int) := by omega
      have hrun := run_ten hr10 w
      obtain ⟨K, hK⟩ : ∃ K : Int, (r : Int) + 1 = K := ⟨_, rfl⟩
      have wK : IntKind.i64.wrap ((r : Int) + 1) = K := by rw [hK]; exact IntWalk.i64_in _ (by omega)
      rw [hK] at hrun
      rw [hq] at c HD
      rw [eq3] at HD
      have hlen := digits_length q
      have hcat := run_cat w (digits q) [48 + (r : Int)] (by simp; omega)
      rw [unhide HD]
      obtain ⟨dq, hdq⟩ : ∃ dq, digits q = dq := ⟨_, rfl⟩
      rw [hdq] at c hcat ⊢
      obtain ⟨x, hx⟩ : ∃ x, [48 + (r : Int)] = x := ⟨_, rfl⟩
      rw [hx] at hrun hcat ⊢
      have q0 : (0 : Int) ≤ q := by omega
      have q9 : (q : Int) ≤ 1000000000000000000 := by omega
      clear ih hq hr eq3 hK HD hlen hdq hx h9 h
      go_enter Tryz.func22, Tryz.ntmps22
      go_wp2_with fail
      refine c.mono ?_
      rintro e w1 ⟨rfl, hw⟩
      subst hw
      go_wp2
      go_ret
      exact ⟨rfl, rfl⟩

set_option maxRecDepth 100000 in
set_option maxHeartbeats 4000000 in
theorem refName (e : Int) (w : World) (h0 : 0 ≤ e) (h8 : e ≤ 8) : Calls Tryz.prog 45 #[.int .i64 e] w fun r w' => r = .returned (.string (str (name e))) ∧ Below w.heap.size w w' := by
  have hb : ∀ o, Below w.heap.size w (w.alloc o) := fun o => (Below.refl _ _).alloc (Nat.le_refl _) _
  have : e = 0 ∨ e = 1 ∨ e = 2 ∨ e = 3 ∨ e = 4 ∨ e = 5 ∨ e = 6 ∨ e = 7 ∨ e = 8 := by omega
  rcases this with rfl | rfl | rfl | rfl | rfl | rfl | rfl | rfl | rfl
  all_goals (
    clear h0 h8
    go_enter Tryz.func45, Tryz.ntmps45
    go_wp2
    go_ret
    exact ⟨by kernel_rfl, hb _⟩)

end Go.Proofs.YtkkhgdkgbhdfaakGreatDoor.Txt

/-
  hornref2.number: by its contract.
-/
namespace Go.Proofs.YtkkhgdkgbhdfaakGreatDoor.Txt
open Go.RowKit
open Go.Proofs.YtkkhgdkgbhdfaakGreatDoor.Tre Go.Proofs.YtkkhgdkgbhdfaakGreatDoor.Scl Go.Proofs.YtkkhgdkgbhdfaakGreatDoor.Hrn Go.Proofs.YtkkhgdkgbhdfaakGreatDoor.Ses
set_option linter.unusedVariables false

/-- What is told of a word. -/
def NumPost (l : List Int) (w : World) (e : Ending) (w' : World) : Prop :=
  ((num l = none ∧ e = .returned (.tuple #[.int .i64 0, .bool false])) ∨ ∃ k : Nat, num l = some k ∧ k ≤ 9999 ∧ e = .returned (.tuple #[.int .i64 k, .bool true])) ∧ w = w'
theorem go_from {l : List Int} {i : Nat} (hi : i < l.length) (n : Nat) : numGo n (l.drop i) = if at0 l i < 48 ∨ 57 < at0 l i then none else numGo (n * 10 + (at0 l i - 48).toNat) (l.drop (i + 1)) := by
  have e : at0 l i = l[i] := by simp [at0, hi]
  rw [List.drop_eq_getElem_cons hi, numGo, e]
theorem none_str (l : List Int) : ((str l).toList == []) = decide (l.length = 0) := by
  rw [str_toList]
  cases l <;> simp [u8s]

set_option maxRecDepth 100000 in
set_option maxHeartbeats 8000000 in
theorem refNumber (l : List Int) (w : World) (hb : Hid (Byts l)) (h9 : l.length ≤ 100000) :
    Calls Tryz.prog 44 #[.string (str l)] w fun e w' => NumPost l w e w' := by
  have HIX := hide (fun (i : Nat) (h : i < l.length) (W : World) => run_ch (unhide hb) h W)
  have HNO : Hid (num l = none → NumPost l w (.returned (.tuple #[.int .i64 0, .bool false])) w) := hide (fun h => ⟨Or.inl ⟨h, rfl⟩, rfl⟩)
  have HYE : Hid (∀ k : Nat, num l = some k → NumPost l w (.returned (.tuple #[.int .i64 k, .bool true])) w) := hide (fun k h => ⟨Or.inr ⟨k, h, num_in h, rfl⟩, rfl⟩)
  have HBY := hide (fun i => byts_at (unhide hb) i)
  have hsz := str_size l
  have hns := none_str l
  have HN1 : Hid (l.length = 0 → num l = none) := hide (fun h => by unfold num; rw [if_pos (Or.inl (List.length_eq_zero_iff.1 h))])
  have HN2 : Hid (4 < l.length → num l = none) := hide (fun h => by unfold num; rw [if_pos (Or.inr (Or.inl h))])
  have HN3 : Hid (at0 l 0 = 48 → 1 < l.length → num l = none) := hide (fun h h2 => by unfold num; rw [if_pos (Or.inr (Or.inr ⟨h, h2⟩))])
  have HN4 : Hid (l.length ≠ 0 → ¬ 4 < l.length → ¬ (at0 l 0 = 48 ∧ 1 < l.length) → num l = numGo 0 l) := hide (fun h h2 h3 => by
    unfold num
    rw [if_neg]
    rintro (h4 | h4 | h4)
    · exact h (by rw [h4]; rfl)
    · exact h2 h4
    · exact h3 h4)
  have HGO := hide (fun (i : Nat) (h : i < l.length) (n : Nat) => go_from h n)
  have HEN : Hid (∀ n, numGo n (l.drop l.length) = some n) := hide (fun n => by rw [List.drop_length]; rfl)
  obtain ⟨N, hN⟩ : ∃ N, l.length = N := ⟨_, rfl⟩
  rw [hN] at HIX hsz hns HN1 HN2 HN3 HN4 HGO HEN h9
  clear hN
  by_cases h1 : N = 0
  · have HR := hide (unhide HNO (unhide HN1 h1))
    have d1 : decide (N = 0) = true := by simpa using h1
    rw [d1] at hns
    clear HN1 HN2 HN3 HN4 HGO HEN HNO HYE d1
    go_enter Tryz.func44, Tryz.ntmps44
    go_wp2
    go_ret2
    exact unhide HR
  · have d1 : decide (N = 0) = false := by simpa using h1
    rw [d1] at hns
    by_cases h2 : 4 < N
    · have HR := hide (unhide HNO (unhide HN2 h2))
      have d2 : decide ((4 : Int) < (N : Int)) = true := by simp; omega
      clear HN1 HN2 HN3 HN4 HGO HEN HNO HYE d1
      go_enter Tryz.func44, Tryz.ntmps44
      go_wp2
      go_ret2
      exact unhide HR
    · have d2 : decide ((4 : Int) < (N : Int)) = false := by simp; omega
      have hix0 := unhide HIX 0 (by omega) w
      have e00 : (Value.int IntKind.i64 ((0 : Nat) : Int)) = Value.int IntKind.i64 0 := rfl
      rw [e00] at hix0
      have hb0 := unhide HBY 0
      by_cases h3 : at0 l 0 = 48 ∧ 1 < N
      · have HR := hide (unhide HNO (unhide HN3 h3.1 h3.2))
        rw [h3.1] at hix0
        have d3 : decide ((1 : Int) < (N : Int)) = true := by have := h3.2; simp; omega
        clear HN1 HN2 HN3 HN4 HGO HEN HNO HYE d1 h3 hb0
        go_enter Tryz.func44, Tryz.ntmps44
        go_wp2
        go_ret2
        exact unhide HR
      · have HG0 := hide (unhide HN4 h1 h2 h3)
        obtain ⟨b0, hb0e⟩ : ∃ b0, at0 l 0 = b0 := ⟨_, rfl⟩
        rw [hb0e] at hix0 h3 hb0
        have hw : ((b0 == 48) = false) ∨ (b0 = 48 ∧ decide ((1 : Int) < (N : Int)) = false) := by
          by_cases h : b0 = 48
          · right
            refine ⟨h, ?_⟩
            have : ¬ 1 < N := fun h4 => h3 ⟨h, h4⟩
            simp
            omega
          · left
            rw [beq_eq_false_iff_ne]
            exact h
        clear HN1 HN2 HN3 HN4 d1 h3 hb0e e00
        go_enter Tryz.func44, Tryz.ntmps44
        rcases hw with hw | ⟨rfl, hw⟩
        all_goals (
          go_wp2
          go_loopw [4, 5] (fun nv iv wr => ∃ i n : Nat, i ≤ N ∧ iv = .int .i64 i ∧ nv = .int .i64 n ∧ n < 10 ^ i ∧ Hid (num l = numGo n (l.drop i)) ∧ w = wr) (fun _ iv _ => N - (intOf iv).toNat)
          case atStart => exact ⟨0, 0, Nat.zero_le _, rfl, rfl, by decide, hide (by rw [unhide HG0]; rfl), rfl⟩
          case round =>
            obtain ⟨i, n, hi, rfl, rfl, hn, HW, rfl⟩ := hrel
            have hn4 : n < 10000 := by
              have h4 : 10 ^ i ≤ 10 ^ 4 := Nat.pow_le_pow_right (by omega) (by omega)
              omega
            by_cases hlt : i < N
            · have hix := unhide HIX i hlt w
              have hbi := unhide HBY i
              have HG := hide (unhide HGO i hlt n)
              obtain ⟨b, hbe⟩ : ∃ b, at0 l i = b := ⟨_, rfl⟩
              rw [hbe] at hix hbi HG
              clear hbe
              by_cases h4 : b < 48
              · have HR := hide (unhide HNO (by rw [unhide HW, unhide HG, if_pos (Or.inl h4)]))
                have d4 : decide (b < 48) = true := by simpa using h4
                clear HNO HYE HW HG HGO HEN hn HG0
                go_wp2
                go_ret2
                exact unhide HR
              · have d4 : decide (b < 48) = false := by simpa using h4
                by_cases h5 : 57 < b
                · have HR := hide (unhide HNO (by rw [unhide HW, unhide HG, if_pos (Or.inr h5)]))
                  have d5 : decide (57 < b) = true := by simpa using h5
                  clear HNO HYE HW HG HGO HEN hn HG0
                  go_wp2
                  go_ret2
                  exact unhide HR
                · have d5 : decide (57 < b) = false := by simpa using h5
                  have HW2 : Hid (num l = numGo (n * 10 + (b - 48).toNat) (l.drop (i + 1))) := hide (by rw [unhide HW, unhide HG, if_neg (by omega)])
                  obtain ⟨m, hm⟩ : ∃ m, n * 10 + (b - 48).toNat = m := ⟨_, rfl⟩
                  have HM : Hid (m < 10 ^ (i + 1)) := hide (by rw [Nat.pow_succ]; omega)
                  rw [hm] at HW2
                  obtain ⟨x1, hx1⟩ : ∃ x1 : Int, (n : Int) * 10 = x1 := ⟨_, rfl⟩
                  have w1 : IntKind.i64.wrap ((n : Int) * 10) = x1 := by rw [hx1]; exact IntWalk.i64_in _ (by omega)
                  have w2 : IntKind.i64.wrap (x1 + b) = x1 + b := IntWalk.i64_in _ (by omega)
                  have w3 : IntKind.i64.wrap (x1 + b - 48) = (m : Int) := by rw [show x1 + b - 48 = (m : Int) by omega]; exact IntWalk.i64_in _ (by omega)
                  have wb : IntKind.i64.wrap b = b := IntWalk.i64_in _ (by omega)
                  clear HNO HYE HW HG HGO HEN hn HG0 hm hx1
                  go_wp2
                  go_roundw
                  case rel => exact ⟨i + 1, m, by omega, by go_num, rfl, unhide HM, HW2, by first | trivial | rfl⟩
                  case measure => simp [intOf]; omega
            · obtain rfl : i = N := by omega
              have HR := hide (unhide HYE n (by rw [unhide HW, unhide HEN]))
              clear HNO HYE HW HGO HEN hn HG0
              go_wp2
              go_ret2
              exact unhide HR)

end Go.Proofs.YtkkhgdkgbhdfaakGreatDoor.Txt

/-
  hornref2.told: by its contract.
-/
namespace Go.Proofs.YtkkhgdkgbhdfaakGreatDoor.Txt
open Go.RowKit
open Go.Proofs.YtkkhgdkgbhdfaakGreatDoor.Tre Go.Proofs.YtkkhgdkgbhdfaakGreatDoor.Scl Go.Proofs.YtkkhgdkgbhdfaakGreatDoor.Hrn Go.Proofs.YtkkhgdkgbhdfaakGreatDoor.Ses
set_option linter.unusedVariables false

theorem str_nil_is : ({ data := #[] } : ByteArray) = str [] := by decide +kernel
theorem nil_str (l : List Int) : ((str l).toList == []) = decide (l = []) := by
  rw [str_toList]
  cases l <;> simp [u8s]
theorem blank_is : ({ data := #[32] } : ByteArray) = str [32] := by decide +kernel
theorem minus_is : ({ data := #[45] } : ByteArray) = str [45] := by decide +kernel

/-- An error is told. -/
theorem refTold_no (v : Value) (e : Int) (w : World) (h0 : 0 < e) (h8 : e ≤ 8) : Calls Tryz.prog 46 #[v, .int .i64 e] w fun r w' => r = .returned (.string (str (name e))) ∧ Below w.heap.size w w' := by
  have c := refName e w (by omega) h8
  have hne : (e != 0) = true := by simp; omega
  obtain ⟨x, hx⟩ : ∃ x, str (name e) = x := ⟨_, rfl⟩
  rw [hx] at c ⊢
  clear hx
  go_enter Tryz.func46, Tryz.ntmps46
  go_wp2_with fail
  refine c.mono ?_
  rintro r w1 ⟨rfl, hb⟩
  go_wp2
  go_ret
  exact ⟨rfl, hb⟩

set_option maxRecDepth 100000 in
set_option maxHeartbeats 8000000 in
theorem refTold (a : Option Addr) (cap : Nat) (l : List Int) (w : World) (hr : Row w a l) (h6 : l.length ≤ 1000) (hi : Hid (∀ j, j < l.length → -1000000 ≤ at0 l j ∧ at0 l j ≤ 1000000)) :
    Calls Tryz.prog 46 #[.slice a l.length cap, .int .i64 0] w fun r w' => r = .returned (.string (str (tell l))) ∧ w = w' := by
  have HTN := hide (fun (j : Nat) (h : j < l.length) => tpre_next h)
  have HPL := hide (tpre_length l)
  have HAL : Hid (tpre l l.length = [] → tell l = [45]) := hide (fun h => by rw [tpre_none.1 h]; rfl)
  have HAN : Hid (tpre l l.length ≠ [] → tell l = tpre l l.length) := hide (fun h => (tpre_all (fun e => h (by rw [e]; rfl))).symm)
  have HRW := hide hr
  obtain ⟨N, hN⟩ : ∃ N, l.length = N := ⟨_, rfl⟩
  have HN := hide hN
  rw [hN] at HTN HPL HAL HAN h6 hi ⊢
  clear hN
  go_enter Tryz.func46, Tryz.ntmps46
  go_wp2
  go_loopw [5, 6] (fun sv iv wr => ∃ j : Nat, j ≤ N ∧ iv = .int .i64 j ∧ sv = .string (str (tpre l j)) ∧ w = wr) (fun _ iv _ => N - (intOf iv).toNat)
  case atStart => exact ⟨0, Nat.zero_le _, rfl, by rw [tpre_zero, ← str_nil_is], rfl⟩
  case round =>
    obtain ⟨j, hj, rfl, rfl, rfl⟩ := hrel
    by_cases hlt : j < N
    · have hlt' : j < l.length := by rw [unhide HN]; exact hlt
      obtain ⟨b1, off1, rfl, _, hc1⟩ := Scl.cell_at (unhide HRW) (by omega)
      have c1 := hc1 j hlt'
      have hin := unhide hi j hlt
      have HT := hide (unhide HTN j hlt)
      have hpl := unhide HPL j
      obtain ⟨x, hx⟩ : ∃ x, at0 l j = x := ⟨_, rfl⟩
      rw [hx] at c1 hin HT
      have cf := Gai.refFar1 x w (by omega) (by omega)
      obtain ⟨d, hd⟩ : ∃ d, x.natAbs = d := ⟨_, rfl⟩
      rw [hd] at cf
      have cd := refDigits d w (by omega)
      obtain ⟨P, hP⟩ : ∃ P, tpre l j = P := ⟨_, rfl⟩
      rw [hP] at HT hpl ⊢
      have hdl := digits_length d
      have HTL : Hid (tl1 x = (if x < 0 then [45] else []) ++ digits d) := hide (by unfold tl1; rw [hd])
      obtain ⟨D, hD⟩ : ∃ D, digits d = D := ⟨_, rfl⟩
      rw [hD] at cd hdl HTL
      obtain ⟨X1, hX1⟩ : ∃ X1, P ++ [32] = X1 := ⟨_, rfl⟩
      obtain ⟨X2, hX2⟩ : ∃ X2, P ++ [45] = X2 := ⟨_, rfl⟩
      obtain ⟨X3, hX3⟩ : ∃ X3, X1 ++ [45] = X3 := ⟨_, rfl⟩
      obtain ⟨Y0, hY0⟩ : ∃ Y0, P ++ D = Y0 := ⟨_, rfl⟩
      obtain ⟨Y1, hY1⟩ : ∃ Y1, X1 ++ D = Y1 := ⟨_, rfl⟩
      obtain ⟨Y2, hY2⟩ : ∃ Y2, X2 ++ D = Y2 := ⟨_, rfl⟩
      obtain ⟨Y3, hY3⟩ : ∃ Y3, X3 ++ D = Y3 := ⟨_, rfl⟩
      have z1 : X1.length = P.length + 1 := by rw [← hX1]; simp
      have z2 : X2.length = P.length + 1 := by rw [← hX2]; simp
      have z3 : X3.length = P.length + 2 := by rw [← hX3, List.length_append, z1]; simp
      have k1 := run_cat w P [32] (by simp; omega)
      have k2 := run_cat w P [45] (by simp; omega)
      have k3 := run_cat w X1 [45] (by simp; omega)
      have k4 := run_cat w P D (by omega)
      have k5 := run_cat w X1 D (by omega)
      have k6 := run_cat w X2 D (by omega)
      have k7 := run_cat w X3 D (by omega)
      rw [hX1, ← blank_is] at k1
      rw [hX2, ← minus_is] at k2
      rw [hX3, ← minus_is] at k3
      rw [hY0] at k4
      rw [hY1] at k5
      rw [hY2] at k6
      rw [hY3] at k7
      have HY : Hid (Y0 = P ++ D ∧ Y1 = P ++ [32] ++ D ∧ Y2 = P ++ [45] ++ D ∧ Y3 = P ++ [32] ++ [45] ++ D) := hide ⟨hY0.symm, by rw [← hY1, hX1], by rw [← hY2, hX2], by rw [← hY3, ← hX3, hX1]⟩
      clear hX1 hX2 hX3 hY0 hY1 hY2 hY3 z1 z2 z3
      have HTe := hide (show tpre l (j + 1) = P ++ (if 0 < j then [32] else []) ++ ((if x < 0 then [45] else []) ++ D) by rw [unhide HT, unhide HTL])
      clear hc1 hlt' hx hP hD HT HTL HPL hd
      by_cases h0 : 0 < j
      · have d0 : decide ((0 : Int) < (j : Int)) = true := by simp; omega
        by_cases h1 : x < 0
        · have d1 : decide (x < 0) = true := by simpa using h1
          have HTf := unhide HTe
          rw [if_pos h0, if_pos h1] at HTf
          have HTg := hide HTf
          clear HTf HTe
          go_wp2_with fail
          refine cf.mono ?_
          rintro r w1 ⟨rfl, hw1⟩
          subst hw1
          go_wp2_with fail
          refine cd.mono ?_
          rintro r w2 ⟨rfl, hw2⟩
          obtain rfl := hw2
          go_wp2
          go_roundw
          case rel => exact ⟨j + 1, by omega, by go_num, by rw [unhide HTg, (unhide HY).2.2.2]; simp, by first | trivial | rfl⟩
          case measure => simp [intOf]; omega
        · have d1 : decide (x < 0) = false := by simpa using h1
          have HTf := unhide HTe
          rw [if_pos h0, if_neg h1] at HTf
          have HTg := hide HTf
          clear HTf HTe
          go_wp2_with fail
          refine cf.mono ?_
          rintro r w1 ⟨rfl, hw1⟩
          subst hw1
          go_wp2_with fail
          refine cd.mono ?_
          rintro r w2 ⟨rfl, hw2⟩
          obtain rfl := hw2
          go_wp2
          go_roundw
          case rel => exact ⟨j + 1, by omega, by go_num, by rw [unhide HTg, (unhide HY).2.1]; simp, by first | trivial | rfl⟩
          case measure => simp [intOf]; omega
      · have d0 : decide ((0 : Int) < (j : Int)) = false := by simp; omega
        by_cases h1 : x < 0
        · have d1 : decide (x < 0) = true := by simpa using h1
          have HTf := unhide HTe
          rw [if_neg h0, if_pos h1] at HTf
          have HTg := hide HTf
          clear HTf HTe
          go_wp2_with fail
          refine cf.mono ?_
          rintro r w1 ⟨rfl, hw1⟩
          subst hw1
          go_wp2_with fail
          refine cd.mono ?_
          rintro r w2 ⟨rfl, hw2⟩
          obtain rfl := hw2
          go_wp2
          go_roundw
          case rel => exact ⟨j + 1, by omega, by go_num, by rw [unhide HTg, (unhide HY).2.2.1]; simp, by first | trivial | rfl⟩
          case measure => simp [intOf]; omega
        · have d1 : decide (x < 0) = false := by simpa using h1
          have HTf := unhide HTe
          rw [if_neg h0, if_neg h1] at HTf
          have HTg := hide HTf
          clear HTf HTe
          go_wp2_with fail
          refine cf.mono ?_
          rintro r w1 ⟨rfl, hw1⟩
          subst hw1
          go_wp2_with fail
          refine cd.mono ?_
          rintro r w2 ⟨rfl, hw2⟩
          obtain rfl := hw2
          go_wp2
          go_roundw
          case rel => exact ⟨j + 1, by omega, by go_num, by rw [unhide HTg, (unhide HY).1]; simp, by first | trivial | rfl⟩
          case measure => simp [intOf]; omega
    · obtain rfl : j = N := by omega
      obtain ⟨P, hP⟩ : ∃ P, tpre l j = P := ⟨_, rfl⟩
      rw [hP] at HAL HAN ⊢
      have hns := nil_str P
      by_cases h : P = []
      · have HT := hide (unhide HAL h)
        have d : decide (P = []) = true := by simpa using h
        rw [d] at hns
        clear HTN HPL HAL HAN hP h d
        go_wp2
        go_ret
        exact ⟨by rw [unhide HT, ← minus_is]; rfl, rfl⟩
      · have HT := hide (unhide HAN h)
        have d : decide (P = []) = false := by simpa using h
        rw [d] at hns
        clear HTN HPL HAL HAN hP h d
        go_wp2
        go_ret
        exact ⟨by rw [unhide HT]; rfl, rfl⟩

end Go.Proofs.YtkkhgdkgbhdfaakGreatDoor.Txt
