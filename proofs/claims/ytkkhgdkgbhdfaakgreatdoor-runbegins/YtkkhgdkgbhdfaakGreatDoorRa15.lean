/-
  A line of chapter 20, word by word: what a walk over it carries. No program here.
-/
import Derived.Test.YtkkhgdkgbhdfaakGreatDoorRa03
import Derived.Test.YtkkhgdkgbhdfaakGreatDoorRa14
import Derived.Deep.QuietTactic
import Derived.BigQuiet
namespace Go.Proofs.YtkkhgdkgbhdfaakGreatDoor.Ses
open Go.RowKit
open Go.Proofs.YtkkhgdkgbhdfaakGreatDoor.Tre Go.Proofs.YtkkhgdkgbhdfaakGreatDoor.Hrn Go.Proofs.YtkkhgdkgbhdfaakGreatDoor.Txt Go.Proofs.YtkkhgdkgbhdfaakGreatDoor.Tnk
set_option linter.unusedVariables false

theorem cut_parts (l : List Int) : cut 32 l = hd l :: tlw l := by
  have h := cut_ne 32 l
  unfold hd tlw
  cases e : cut 32 l with
  | nil => exact absurd e h
  | cons a b => rfl
theorem cut_head (l : List Int) : (cut 32 l).getD 0 [] = hd l := by rw [cut_parts]; rfl
theorem cut_word (l : List Int) (j : Nat) : (cut 32 l).getD (j + 1) [] = (tlw l).getD j [] := by rw [cut_parts]; rfl
theorem tlw_length (l : List Int) : (tlw l).length + 1 = (cut 32 l).length := by rw [cut_parts]; rfl
theorem word_in {l : List Int} {j : Nat} (h : j < (cut 32 l).length) : (cut 32 l).getD j [] ∈ cut 32 l := by
  rw [List.getD_eq_getElem?_getD, List.getElem?_eq_getElem h]
  exact List.getElem_mem h
theorem word_byts {l : List Int} (hb : Byts l) {j : Nat} (h : j < (cut 32 l).length) : Byts ((cut 32 l).getD j []) := fun b hb2 => hb b (cut_mem (word_in h) b hb2)
theorem word_long {l : List Int} {j : Nat} (h : j < (cut 32 l).length) : ((cut 32 l).getD j []).length ≤ l.length := cut_long (word_in h)
theorem map_getD (O : List (List Int)) {j : Nat} (h : j < O.length) : (O.map str).getD j ⟨#[]⟩ = str (O.getD j []) := by
  rw [List.getD_eq_getElem?_getD, List.getD_eq_getElem?_getD, List.getElem?_map, List.getElem?_eq_getElem h]
  rfl

/-- So far these numbers were read. -/
def Rd (b : Nat) (l : List Int) (j : Nat) (n : List Int) : Prop := nms b 0 (tlw l) = (nms b j ((tlw l).drop j)).map fun r => n ++ r
theorem rd_zero (b : Nat) (l : List Int) : Rd b l 0 [] := by
  unfold Rd
  rw [List.drop_zero]
  cases nms b 0 (tlw l) <;> rfl
theorem rd_none {b : Nat} {l : List Int} {j : Nat} {n : List Int} (h : Rd b l j n) (hj : j < (tlw l).length) (hw : wd (decide (b ≤ j)) ((tlw l).getD j []) = none) : nms b 0 (tlw l) = none := by
  unfold Rd at h
  have e : (tlw l).getD j [] = (tlw l)[j] := by rw [List.getD_eq_getElem?_getD, List.getElem?_eq_getElem hj]; rfl
  rw [h, List.drop_eq_getElem_cons hj, nms, ← e, hw]
  rfl
theorem rd_next {b : Nat} {l : List Int} {j : Nat} {n : List Int} {k : Int} (h : Rd b l j n) (hj : j < (tlw l).length) (hw : wd (decide (b ≤ j)) ((tlw l).getD j []) = some k) : Rd b l (j + 1) (n ++ [k]) := by
  unfold Rd at h ⊢
  have e : (tlw l).getD j [] = (tlw l)[j] := by rw [List.getD_eq_getElem?_getD, List.getElem?_eq_getElem hj]; rfl
  rw [h, List.drop_eq_getElem_cons hj, nms, ← e, hw]
  cases nms b (j + 1) ((tlw l).drop (j + 1)) with
  | none => rfl
  | some r => simp
theorem rd_end {b : Nat} {l : List Int} {n : List Int} (h : Rd b l (tlw l).length n) : nms b 0 (tlw l) = some n := by
  unfold Rd at h
  rw [h, List.drop_length]
  simp [nms]

/-- How many numbers are wanted, as the program says it. -/
def mnI (K : Nat) : Int := if K = 0 then -1 else (many K : Int)
theorem reads_bad {l : List Int} (h : nms (below (kind (hd l))) 0 (tlw l) = none) : ∀ n, ¬ Reads l n := fun n hn => by
  have := hn.2.1
  rw [h] at this
  cases this
theorem reads_no {l n : List Int} (h : nms (below (kind (hd l))) 0 (tlw l) = some n) (h2 : mnI (kind (hd l)) < 0 ∨ (n.length : Int) < mnI (kind (hd l)) ∨ (mnI (kind (hd l)) < n.length ∧ more (kind (hd l)) = false)) : ∀ m, ¬ Reads l m := fun m hm => by
  obtain ⟨a, b, c, d⟩ := hm
  rw [h] at b
  cases b
  have e : mnI (kind (hd l)) = (many (kind (hd l)) : Int) := by unfold mnI; rw [if_neg a]
  rw [e] at h2
  rcases h2 with h2 | h2 | ⟨h2, h3⟩
  · omega
  · omega
  · rw [d (by omega)] at h3
    cases h3
theorem reads_ok {l n : List Int} (h : nms (below (kind (hd l))) 0 (tlw l) = some n) (h1 : ¬ mnI (kind (hd l)) < 0) (h2 : ¬ (n.length : Int) < mnI (kind (hd l))) (h3 : mnI (kind (hd l)) < n.length → more (kind (hd l)) = true) : Reads l n := by
  have hk : kind (hd l) ≠ 0 := fun e => h1 (by rw [e]; decide)
  have e : mnI (kind (hd l)) = (many (kind (hd l)) : Int) := by unfold mnI; rw [if_neg hk]
  rw [e] at h2 h3
  exact ⟨hk, h, by omega, fun h4 => h3 (by omega)⟩

/-- Is the first word this one? -/
theorem kind_kCount (c : List Int) : kind c = 1 ↔ c = kCount := by
  constructor
  · intro h
    unfold kind at h
    repeat' split at h
    all_goals first | assumption | (exfalso; omega)
  · rintro rfl
    decide +kernel
theorem is_kCount {c : List Int} (hb : Byts c) : ((str c).toList == ([99, 111, 117, 110, 116] : List UInt8)) = decide (kind c = 1) := by
  have e : ([99, 111, 117, 110, 116] : List UInt8) = (str kCount).toList := by decide +kernel
  have hw : Byts kCount := by intro b hb; simp [kCount] at hb; omega
  rw [e, str_is hb hw]
  by_cases h : c = kCount
  · rw [decide_eq_true h, decide_eq_true ((kind_kCount c).2 h)]
  · rw [decide_eq_false h, decide_eq_false (fun e => h ((kind_kCount c).1 e))]
theorem kind_kRank (c : List Int) : kind c = 2 ↔ c = kRank := by
  constructor
  · intro h
    unfold kind at h
    repeat' split at h
    all_goals first | assumption | (exfalso; omega)
  · rintro rfl
    decide +kernel
theorem is_kRank {c : List Int} (hb : Byts c) : ((str c).toList == ([114, 97, 110, 107] : List UInt8)) = decide (kind c = 2) := by
  have e : ([114, 97, 110, 107] : List UInt8) = (str kRank).toList := by decide +kernel
  have hw : Byts kRank := by intro b hb; simp [kRank] at hb; omega
  rw [e, str_is hb hw]
  by_cases h : c = kRank
  · rw [decide_eq_true h, decide_eq_true ((kind_kRank c).2 h)]
  · rw [decide_eq_false h, decide_eq_false (fun e => h ((kind_kRank c).1 e))]
theorem kind_kRow (c : List Int) : kind c = 3 ↔ c = kRow := by
  constructor
  · intro h
    unfold kind at h
    repeat' split at h
    all_goals first | assumption | (exfalso; omega)
  · rintro rfl
    decide +kernel
theorem is_kRow {c : List Int} (hb : Byts c) : ((str c).toList == ([114, 111, 119] : List UInt8)) = decide (kind c = 3) := by
  have e : ([114, 111, 119] : List UInt8) = (str kRow).toList := by decide +kernel
  have hw : Byts kRow := by intro b hb; simp [kRow] at hb; omega
  rw [e, str_is hb hw]
  by_cases h : c = kRow
  · rw [decide_eq_true h, decide_eq_true ((kind_kRow c).2 h)]
  · rw [decide_eq_false h, decide_eq_false (fun e => h ((kind_kRow c).1 e))]
theorem kind_kNear (c : List Int) : kind c = 4 ↔ c = kNear := by
  constructor
  · intro h
    unfold kind at h
    repeat' split at h
    all_goals first | assumption | (exfalso; omega)
  · rintro rfl
    decide +kernel
theorem is_kNear {c : List Int} (hb : Byts c) : ((str c).toList == ([110, 101, 97, 114] : List UInt8)) = decide (kind c = 4) := by
  have e : ([110, 101, 97, 114] : List UInt8) = (str kNear).toList := by decide +kernel
  have hw : Byts kNear := by intro b hb; simp [kNear] at hb; omega
  rw [e, str_is hb hw]
  by_cases h : c = kNear
  · rw [decide_eq_true h, decide_eq_true ((kind_kNear c).2 h)]
  · rw [decide_eq_false h, decide_eq_false (fun e => h ((kind_kNear c).1 e))]
theorem kind_kGain (c : List Int) : kind c = 5 ↔ c = kGain := by
  constructor
  · intro h
    unfold kind at h
    repeat' split at h
    all_goals first | assumption | (exfalso; omega)
  · rintro rfl
    decide +kernel
theorem is_kGain {c : List Int} (hb : Byts c) : ((str c).toList == ([103, 97, 105, 110] : List UInt8)) = decide (kind c = 5) := by
  have e : ([103, 97, 105, 110] : List UInt8) = (str kGain).toList := by decide +kernel
  have hw : Byts kGain := by intro b hb; simp [kGain] at hb; omega
  rw [e, str_is hb hw]
  by_cases h : c = kGain
  · rw [decide_eq_true h, decide_eq_true ((kind_kGain c).2 h)]
  · rw [decide_eq_false h, decide_eq_false (fun e => h ((kind_kGain c).1 e))]
theorem kind_kTurn (c : List Int) : kind c = 6 ↔ c = kTurn := by
  constructor
  · intro h
    unfold kind at h
    repeat' split at h
    all_goals first | assumption | (exfalso; omega)
  · rintro rfl
    decide +kernel
theorem is_kTurn {c : List Int} (hb : Byts c) : ((str c).toList == ([116, 117, 114, 110] : List UInt8)) = decide (kind c = 6) := by
  have e : ([116, 117, 114, 110] : List UInt8) = (str kTurn).toList := by decide +kernel
  have hw : Byts kTurn := by intro b hb; simp [kTurn] at hb; omega
  rw [e, str_is hb hw]
  by_cases h : c = kTurn
  · rw [decide_eq_true h, decide_eq_true ((kind_kTurn c).2 h)]
  · rw [decide_eq_false h, decide_eq_false (fun e => h ((kind_kTurn c).1 e))]
theorem kind_kMay (c : List Int) : kind c = 7 ↔ c = kMay := by
  constructor
  · intro h
    unfold kind at h
    repeat' split at h
    all_goals first | assumption | (exfalso; omega)
  · rintro rfl
    decide +kernel
theorem is_kMay {c : List Int} (hb : Byts c) : ((str c).toList == ([109, 97, 121] : List UInt8)) = decide (kind c = 7) := by
  have e : ([109, 97, 121] : List UInt8) = (str kMay).toList := by decide +kernel
  have hw : Byts kMay := by intro b hb; simp [kMay] at hb; omega
  rw [e, str_is hb hw]
  by_cases h : c = kMay
  · rw [decide_eq_true h, decide_eq_true ((kind_kMay c).2 h)]
  · rw [decide_eq_false h, decide_eq_false (fun e => h ((kind_kMay c).1 e))]
theorem bad_is : ({ data := #[98, 97, 100] } : ByteArray) = str bad := by decide +kernel

/-- What a line is answered, with the tank of then. -/
def LinePost (H : Int) (l : List Int) (w : World) (e : Ending) (w' : World) : Prop := ∃ o H', e = .returned (.tuple #[.string (str o), .agg #[.int .i64 100, .int .i64 20, .int .i64 H']]) ∧ Line H l o H' ∧ Below w.heap.size w w'

end Go.Proofs.YtkkhgdkgbhdfaakGreatDoor.Ses

/-
  What is asked of run.Run from one world on; texts that are known beforehand.
-/
namespace Go.Proofs.YtkkhgdkgbhdfaakGreatDoor.Ses
open Go.RowKit
open Go.Proofs.YtkkhgdkgbhdfaakGreatDoor.Tre Go.Proofs.YtkkhgdkgbhdfaakGreatDoor.Hrn Go.Proofs.YtkkhgdkgbhdfaakGreatDoor.Txt
set_option linter.unusedVariables false

/-- From this world on run.Run answers so. -/
def Runs (w : World) : Prop := ∀ (x : ByteArray) (W : World), Below w.heap.size w W → x.size ≤ 9223372036854775807 → Calls Tryz.prog 19 #[.string x] W fun e w' => ∃ o, e = .returned (.string (str o)) ∧ Says (byt x) o ∧ Below W.heap.size W w'
/-- .. at a text whose answer is known. -/
theorem Runs.at {w W : World} (h : Runs w) (hb : Below w.heap.size w W) {t o : List Int} (x : ByteArray) (hx : byt x = t) (hs : Says t o) (hl : t.length ≤ 3000) :
    Calls Tryz.prog 19 #[.string x] W fun e w' => e = .returned (.string (str o)) ∧ Below W.heap.size W w' :=
  (h x W hb (by rw [← byt_length, hx]; omega)).mono fun e w' ⟨o', h1, h2, h3⟩ => ⟨by rw [h1, (hx ▸ h2 : Says t o').one hs], h3⟩
theorem Says.asc {t o : List Int} (h : Says t o) : Byts o := by
  rcases h with ⟨_, rfl⟩ | ⟨_, H, h⟩
  · intro b hb; simp [tooLong] at hb; omega
  · intro b hb
    have := h.asc b hb
    omega
theorem Says.length {t o : List Int} (h : Says t o) : o.length ≤ 453302 := by
  rcases h with ⟨_, rfl⟩ | ⟨h0, H, h⟩
  · simp [tooLong]
  · have h1 := h.length
    have h2 : (lines t).length ≤ t.length + 1 := by
      have := cut_length 10 t
      unfold lines
      split
      · rw [List.length_dropLast]; omega
      · exact this
    omega
theorem low_text : byt ({ data := #[116, 117, 114, 110, 32, 49, 48, 49, 10] } : ByteArray) = tLow := by decide +kernel
theorem low_same : ((str (name 8 ++ [10])).toList == ([69, 114, 114, 76, 111, 119, 10] : List UInt8)) = true := by decide +kernel
theorem name8_same : ((str (name 8)).toList == ([69, 114, 114, 76, 111, 119] : List UInt8)) = true := by decide +kernel
theorem name8_is : ({ data := #[69, 114, 114, 76, 111, 119] } : ByteArray) = str (name 8) := by decide +kernel
theorem fact_text : byt ({ data := #[99, 111, 117, 110, 116, 32, 51, 32, 50, 10, 116, 117, 114, 110, 32, 55, 48, 10, 102, 108, 121, 10, 114, 97, 110, 107, 32, 48, 32, 45, 49, 10, 109, 97, 121, 10, 110, 101, 97, 114, 32, 52, 32, 53, 32, 45, 51, 32, 49, 10] } : ByteArray) = tFact := by decide +kernel
theorem fact_same : ((str oFact).toList == ([49, 56, 10, 51, 48, 10, 98, 97, 100, 10, 49, 10, 53, 48, 10, 50, 32, 45, 49, 32, 49, 10] : List UInt8)) = true := by decide +kernel
theorem fact_is : ({ data := #[49, 56, 10, 51, 48, 10, 98, 97, 100, 10, 49, 10, 53, 48, 10, 50, 32, 45, 49, 32, 49, 10] } : ByteArray) = str oFact := by decide +kernel
theorem long_same : ((str tooLong).toList == ([116, 111, 111, 32, 108, 111, 110, 103, 10] : List UInt8)) = true := by decide +kernel
theorem turn_is : ({ data := #[116, 117, 114, 110, 32] } : ByteArray) = str (kTurn ++ [32]) := by decide +kernel
theorem midl_is : ({ data := #[10, 109, 97, 121, 10, 116, 117, 114, 110, 32] } : ByteArray) = str ([10] ++ kMay ++ [10] ++ kTurn ++ [32]) := by decide +kernel
theorem nl_is : ({ data := #[10] } : ByteArray) = str [10] := by decide +kernel
theorem tank_text (a b : Nat) : ((kTurn ++ [32]) ++ digits a ++ ([10] ++ kMay ++ [10] ++ kTurn ++ [32])) ++ digits b ++ [10] = tTank a b := by
  unfold tTank tLine
  simp
theorem tTank_byts (a b : Nat) : Byts (tTank a b) := by
  have hd : ∀ n, Byts (digits n) := fun n x hx => by have := digits_in n x hx; omega
  have h1 : Byts ((kTurn ++ [32])) := by unfold Byts; decide +kernel
  have h2 : Byts ([10] ++ kMay ++ [10] ++ kTurn ++ [32]) := by unfold Byts; decide +kernel
  have ha : ∀ {l m : List Int}, Byts l → Byts m → Byts (l ++ m) := fun h k x hx => (List.mem_append.1 hx).elim (h x) (k x)
  rw [← tank_text]
  exact ha (ha (ha (ha h1 (hd a)) h2) (hd b)) (by unfold Byts; decide +kernel)
theorem tTank_len (a b : Nat) : (tTank a b).length ≤ 100 := by
  have := tLine_length a
  have := tLine_length b
  unfold tTank
  simp [kMay]
  omega
theorem oTank_byts (a b : Nat) (ha : a ≤ 100) (hb : b ≤ 100) : Byts (oTank a b) := (tank_says ha hb).asc
theorem oTank_len (a b : Nat) : (oTank a b).length ≤ 100 := by
  have h1 := digits_length (leftN a)
  have h2 := digits_length (mayT a)
  have h3 : (lastO a b).length ≤ 21 := by
    unfold lastO
    split
    · exact digits_length _
    · have := name_length 8; omega
  unfold oTank
  simp
  omega
/-- A text up to a place. -/
theorem run_to {l : List Int} {k : Nat} (h : k ≤ l.length) (w : World) : (Instr.slice 9 (.string (str l)) none (some (.int .i64 k)) none).run Tryz.prog w = .ok (.string (str (l.take k))) w := by
  rw [run_slice_string_h (P := Tryz.prog) w 9 (str l) Tryz.underlying9 .i64 k (by omega) (by rw [str_size]; omega)]
  rw [show ((k : Int)).toNat = k by omega, str_sub, List.drop_zero]

end Go.Proofs.YtkkhgdkgbhdfaakGreatDoor.Ses

/-
  The walk of hornlaw3.RunTank over run.Run's contract.
-/
namespace Go.Proofs.YtkkhgdkgbhdfaakGreatDoor.Ses
open Go.RowKit
open Go.Proofs.YtkkhgdkgbhdfaakGreatDoor.Tre Go.Proofs.YtkkhgdkgbhdfaakGreatDoor.Hrn Go.Proofs.YtkkhgdkgbhdfaakGreatDoor.Txt
set_option linter.unusedVariables false

set_option maxRecDepth 100000 in
set_option maxHeartbeats 4000000 in
theorem tank_out (a b : Int) (w : World) (hR : Hid (Runs w)) (h : a < 0 ∨ (0 ≤ a ∧ 100 < a) ∨ (0 ≤ a ∧ a ≤ 100 ∧ b < 0) ∨ (0 ≤ a ∧ a ≤ 100 ∧ 0 ≤ b ∧ 100 < b)) :
    Calls Tryz.prog 6 #[.int .i64 a, .int .i64 b] w fun e w' => e = .returned (.bool true) ∧ Below w.heap.size w w' := by
  have CR := hide ((unhide hR).at (Below.refl _ _) _ low_text low_says (by decide +kernel))
  have hs := low_same
  obtain ⟨X, hX⟩ : ∃ X, str (name 8 ++ [10]) = X := ⟨_, rfl⟩
  rw [hX] at CR hs
  clear hX hR
  rcases h with h | ⟨h0, h⟩ | ⟨h0, h1, h⟩ | ⟨h0, h1, h2, h⟩
  all_goals (
    go_enter Tryz.func6, Tryz.ntmps6
    go_wp2_with fail
    refine (unhide CR).mono ?_
    rintro e w1 ⟨rfl, hb1⟩
    go_wp2
    go_ret
    exact ⟨rfl, hb1⟩)

set_option maxRecDepth 100000 in
set_option maxHeartbeats 8000000 in
theorem tank_in (a b : Nat) (w : World) (hR : Hid (Runs w)) (ha : a ≤ 100) (hb : b ≤ 100) :
    Calls Tryz.prog 6 #[.int .i64 a, .int .i64 b] w fun e w' => e = .returned (.bool true) ∧ Below w.heap.size w w' := by
  have CDG := hide (fun (n : Nat) (W : World) (h : n ≤ 1000) => refDigits n W (by omega))
  have hda := digits_length a
  have hdb := digits_length b
  have k1 := run_cat w (kTurn ++ [32]) (digits a) (by simp [kTurn]; omega)
  have k2 := run_cat w ((kTurn ++ [32]) ++ digits a) ([10] ++ kMay ++ [10] ++ kTurn ++ [32]) (by simp [kTurn, kMay]; omega)
  have k3 := run_cat w ((kTurn ++ [32]) ++ digits a ++ ([10] ++ kMay ++ [10] ++ kTurn ++ [32])) (digits b) (by simp [kTurn, kMay]; omega)
  have k4 := run_cat w ((kTurn ++ [32]) ++ digits a ++ ([10] ++ kMay ++ [10] ++ kTurn ++ [32]) ++ digits b) [10] (by simp [kTurn, kMay]; omega)
  rw [tank_text] at k4
  rw [← turn_is] at k1
  rw [← midl_is] at k2
  rw [← nl_is] at k4
  have cA := hide (unhide CDG a w (by omega))
  have cB := hide (unhide CDG b w (by omega))
  obtain ⟨DA, hDA⟩ : ∃ x, str (digits a) = x := ⟨_, rfl⟩
  obtain ⟨DB, hDB⟩ : ∃ x, str (digits b) = x := ⟨_, rfl⟩
  obtain ⟨X1, hX1⟩ : ∃ x, str ((kTurn ++ [32]) ++ digits a) = x := ⟨_, rfl⟩
  obtain ⟨X2, hX2⟩ : ∃ x, str ((kTurn ++ [32]) ++ digits a ++ ([10] ++ kMay ++ [10] ++ kTurn ++ [32])) = x := ⟨_, rfl⟩
  obtain ⟨X3, hX3⟩ : ∃ x, str ((kTurn ++ [32]) ++ digits a ++ ([10] ++ kMay ++ [10] ++ kTurn ++ [32]) ++ digits b) = x := ⟨_, rfl⟩
  have CR := hide ((unhide hR).at (Below.refl _ _) (str (tTank a b)) (byt_str (tTank_byts a b)) (tank_says ha hb) (by have := tTank_len a b; omega))
  obtain ⟨X4, hX4⟩ : ∃ x, str (tTank a b) = x := ⟨_, rfl⟩
  rw [hDA] at k1 cA
  rw [hDB] at k3 cB
  rw [hX1] at k1 k2
  rw [hX2] at k2 k3
  rw [hX3] at k3 k4
  rw [hX4] at k4 CR
  have CCU := hide (fun W => refCut 10 (oTank a b) W (hide (oTank_byts a b ha hb)) (by have := oTank_len a b; omega))
  rw [oTank_cut] at CCU
  obtain ⟨XO, hXO⟩ : ∃ x, str (oTank a b) = x := ⟨_, rfl⟩
  rw [hXO] at CR CCU
  have HML : Hid (leftN a = 100 - a ∧ (leftN a + 20 ≤ 100 → mayT a = leftN a + 20) ∧ (¬ leftN a + 20 ≤ 100 → mayT a = 100)) := hide ⟨rfl, fun h => by unfold mayT; rw [if_pos h], fun h => by unfold mayT; rw [if_neg h]⟩
  have HLO : Hid ((b ≤ mayT a → lastO a b = digits (mayT a - b)) ∧ (¬ b ≤ mayT a → lastO a b = name 8)) := hide ⟨fun h => by unfold lastO; rw [if_pos h], fun h => by unfold lastO; rw [if_neg h]⟩
  obtain ⟨LF, hLF⟩ : ∃ x, leftN a = x := ⟨_, rfl⟩
  obtain ⟨MY, hMY⟩ : ∃ x, mayT a = x := ⟨_, rfl⟩
  obtain ⟨lo, hlo⟩ : ∃ x, lastO a b = x := ⟨_, rfl⟩
  rw [hLF] at HML CCU
  rw [hMY] at HML HLO CCU
  rw [hlo] at HLO CCU
  have hlf : LF = 100 - a := (unhide HML).1
  have hmy : MY ≤ 100 := by
    have h1 := (unhide HML).2.1
    have h2 := (unhide HML).2.2
    by_cases h : LF + 20 ≤ 100
    · rw [h1 h]; omega
    · rw [h2 h]; omega
  have w1 : IntKind.i64.wrap (100 - (a : Int)) = (LF : Int) := by rw [IntWalk.i64_in _ (by omega)]; omega
  have hlf9 : LF ≤ 100 := by omega
  clear hR hDA hDB hX1 hX2 hX3 hX4 hXO hLF hMY hlo hda hdb hlf
  go_enter Tryz.func6, Tryz.ntmps6
  go_wp2_with fail
  refine (unhide cA).mono ?_
  rintro e w2 ⟨rfl, hw2⟩
  obtain rfl : w = w2 := hw2
  clear cA
  go_wp2_with fail
  refine (unhide cB).mono ?_
  rintro e w2 ⟨rfl, hw2⟩
  obtain rfl : w = w2 := hw2
  clear cB
  go_wp2_with fail
  refine (unhide CR).mono ?_
  rintro e w3 ⟨rfl, hb3⟩
  clear CR k1 k2 k3 k4
  go_wp2_with fail
  refine (unhide CCU _).mono ?_
  rintro e w4 ⟨v4, rfl, k4, hb4⟩
  have hB4 := Below.chain hb3 hb4
  clear CCU hb3 hb4
  obtain ⟨p4, c4, rfl, R4, m4, m49⟩ := k4.shape
  obtain ⟨b4, off4, rfl, hlt4, hc4⟩ := R4.at (k := 0) (by simp)
  have x0 := hc4 0 (by simp)
  have x1 := hc4 1 (by simp)
  have x2 := hc4 2 (by simp)
  simp only [List.map_cons, List.getD_cons_zero, List.getD_cons_succ, Nat.add_zero] at x0 x1 x2
  have hm4 : (4 : Int) ≤ c4 := by have h : 4 ≤ c4 := m4; omega
  have el : (List.map str [digits LF, digits MY, lo, []]).length = 4 := rfl
  rw [el]
  have CQ : Hid (∀ (n : Nat), n ≤ 1000 → ∀ x, Calls Tryz.prog 22 #[.int .i64 (n : Int)] (w4.drewN x) fun e w' => e = .returned (.string (str (digits n))) ∧ ∃ m, w' = w4.drewN m) := hide (fun n hn x => (unhide CDG n (w4.drewN x) hn).mono fun e w' ⟨h1, h2⟩ => ⟨h1, x, h2.symm⟩)
  have cN := hide (unhide CDG (MY - b) w4 (by omega))
  have q8 := name8_same
  have sL : ((str (digits LF)).toList == (str (digits LF)).toList) = true := by simp
  have sM : ((str (digits MY)).toList == (str (digits MY)).toList) = true := by simp
  have HB : Hid (∀ n, Below w.heap.size w (w4.drewN n)) := hide (fun n => hB4.trans ⟨rfl, rfl, rfl, Nat.le_refl _, fun _ _ => rfl⟩)
  have HW : Hid (∀ n, Below w.heap.size w (w4.drewN n)) := HB
  have HMM : Hid ((LF + 20 ≤ 100 ∧ MY = LF + 20) ∨ (100 < LF + 20 ∧ MY = 100)) := hide (by
    by_cases h : LF + 20 ≤ 100
    · exact Or.inl ⟨h, (unhide HML).2.1 h⟩
    · exact Or.inr ⟨by omega, (unhide HML).2.2 h⟩)
  clear hc4 R4 k4 m4 el CDG HML
  rcases unhide HMM with ⟨h20, hm⟩ | ⟨h20, hm⟩
  · have w2 : IntKind.i64.wrap ((LF : Int) + 20) = (MY : Int) := by rw [IntWalk.i64_in _ (by omega)]; omega
    have d2 : decide (100 < (MY : Int)) = false := by simp; omega
    have h20' : ¬ 100 < MY := by omega
    clear HMM hm h20
    by_cases hbm : b ≤ MY
    · have hlo := (unhide HLO).1 hbm
      have d3 : decide ((b : Int) ≤ (MY : Int)) = true := by simp; omega
      have w3 : IntKind.i64.wrap ((MY : Int) - (b : Int)) = ((MY - b : Nat) : Int) := by rw [IntWalk.i64_in _ (by omega)]; omega
      rw [hlo] at x2
      obtain ⟨Z, hZ⟩ : ∃ Z, MY - b = Z := ⟨_, rfl⟩
      rw [hZ] at w3 cN x2
      have sZ : ((str (digits Z)).toList == (str (digits Z)).toList) = true := by simp
      clear HLO hlo hZ q8
      go_wp2_with fail
      refine (unhide cN).mono ?_
      rintro e w5 ⟨rfl, hw5⟩
      obtain rfl : w4 = w5 := hw5
      go_wp2
      go_quiet ((go_at_call 22; exact unhide CQ _ (by omega) _))
      go_wp2
      go_ret
      exact ⟨rfl, unhide HB _⟩
    · have hlo := (unhide HLO).2 hbm
      have d3 : decide ((b : Int) ≤ (MY : Int)) = false := by simp; omega
      rw [hlo] at x2
      clear HLO hlo cN
      go_wp2
      go_quiet ((go_at_call 22; exact unhide CQ _ (by omega) _))
      go_wp2
      go_ret
      exact ⟨rfl, unhide HB _⟩
  · subst hm
    have w2 : IntKind.i64.wrap ((LF : Int) + 20) = (LF : Int) + 20 := IntWalk.i64_in _ (by omega)
    have d2 : decide (100 < (LF : Int) + 20) = true := by simp; omega
    have CQ3 : Hid (∀ z : Int, 0 ≤ z → z ≤ 1000 → ∀ x, Calls Tryz.prog 22 #[.int .i64 z] (w4.drewN x) fun e w' => e = .returned (.string (str (digits z.toNat))) ∧ ∃ m, w' = w4.drewN m) := hide (fun z h0 h1 x => by
      have := unhide CQ z.toNat (by omega) x
      rw [show ((z.toNat : Nat) : Int) = z by omega] at this
      exact this)
    have tL : ((str (digits LF)).toList == (str (digits ((LF : Int)).toNat)).toList) = true := by simp
    have tM : ((str (digits 100)).toList == (str (digits ((100 : Int)).toNat)).toList) = true := by simp
    have hLb : LF ≤ 1000 := by omega
    clear HMM
    have h20' : 100 < LF + 20 := h20
    have hbm : b ≤ 100 := hb
    have hlo := (unhide HLO).1 hbm
    have d3 : decide ((b : Int) ≤ 100) = true := by simp; omega
    have w3 : IntKind.i64.wrap (100 - (b : Int)) = ((100 - b : Nat) : Int) := by rw [IntWalk.i64_in _ (by omega)]; omega
    rw [hlo] at x2
    obtain ⟨Z, hZ⟩ : ∃ Z, 100 - b = Z := ⟨_, rfl⟩
    rw [hZ] at w3 cN x2
    have sZ : ((str (digits Z)).toList == (str (digits Z)).toList) = true := by simp
    clear HLO hlo hZ q8
    go_wp2_with fail
    refine (unhide cN).mono ?_
    rintro e w5 ⟨rfl, hw5⟩
    obtain rfl : w4 = w5 := hw5
    go_wp2
    go_quiet ((go_at_call 22; exact unhide CQ3 _ (by omega) (by omega) _))
    go_wp2
    go_ret
    exact ⟨rfl, unhide HB _⟩

theorem tank_walk (a b : Int) (w : World) (hR : Hid (Runs w)) :
    Calls Tryz.prog 6 #[.int .i64 a, .int .i64 b] w fun e w' => e = .returned (.bool true) ∧ Below w.heap.size w w' := by
  by_cases h : 0 ≤ a ∧ a ≤ 100 ∧ 0 ≤ b ∧ b ≤ 100
  · obtain ⟨m, rfl⟩ : ∃ m : Nat, a = m := ⟨a.toNat, by omega⟩
    obtain ⟨n, rfl⟩ : ∃ n : Nat, b = n := ⟨b.toNat, by omega⟩
    exact tank_in m n w hR (by omega) (by omega)
  · exact tank_out a b w hR (by omega)

end Go.Proofs.YtkkhgdkgbhdfaakGreatDoor.Ses

/-
  The walk of hornlaw3.RunBegins over run.Run's contract.
-/
namespace Go.Proofs.YtkkhgdkgbhdfaakGreatDoor.Ses
open Go.RowKit
open Go.Proofs.YtkkhgdkgbhdfaakGreatDoor.Tre Go.Proofs.YtkkhgdkgbhdfaakGreatDoor.Hrn Go.Proofs.YtkkhgdkgbhdfaakGreatDoor.Txt
set_option linter.unusedVariables false

/-- The answers to the first bytes are the first bytes of the answers, where a line ends there. -/
theorem says_begins {t o p : List Int} {k : Nat} (hk : k ≤ t.length) (h9 : t.length ≤ 3000) (h : k = 0 ∨ k = t.length ∨ (0 < k ∧ at0 t (k - 1) = 10)) (ho : Says (t.take k) o) (hp : Says t p) : p.take o.length = o ∧ o.length ≤ p.length := by
  have key : ∃ q, p = o ++ q := by
    rcases h with rfl | rfl | ⟨h0, h1⟩
    · rw [List.take_zero] at ho
      exact ⟨p, by rw [ho.one says_none]; rfl⟩
    · rw [List.take_length] at ho
      exact ⟨[], by rw [ho.one hp, List.append_nil]⟩
    · have hlt : k - 1 < t.length := by omega
      have e1 : at0 t (k - 1) = t[k - 1] := by simp [at0, hlt]
      have e2 : t.take k = t.take (k - 1) ++ [10] := by
        have := List.take_succ_eq_append_getElem hlt
        rw [show k - 1 + 1 = k by omega, ← e1, h1] at this
        exact this
      have e3 : t = t.take (k - 1) ++ 10 :: t.drop k := by
        have := (List.take_append_drop k t).symm
        rw [e2, List.append_assoc] at this
        exact this
      rw [e2] at ho
      have hl2 : (t.take (k - 1) ++ 10 :: t.drop k).length ≤ 3000 := by rw [← e3]; exact h9
      rw [e3] at hp
      exact Says.begins ho hp hl2
  obtain ⟨q, rfl⟩ := key
  exact ⟨by simp, by simp⟩

set_option maxRecDepth 100000 in
set_option maxHeartbeats 8000000 in
theorem begins_walk (x : ByteArray) (m : Int) (w : World) (hR : Hid (Runs w)) (zx : x.size ≤ 9223372036854775807) :
    Calls Tryz.prog 5 #[.string x, .int .i64 m] w fun e w' => e = .returned (.bool true) ∧ Below w.heap.size w w' := by
  have CF := hide ((unhide hR).at (Below.refl _ _) _ fact_text fact_says (by decide +kernel))
  have CR := hide (fun (y : ByteArray) (W : World) h h' => unhide hR y W h h')
  have hfs := fact_same
  have hls := long_same
  obtain ⟨XF, hXF⟩ : ∃ X, str oFact = X := ⟨_, rfl⟩
  rw [hXF] at CF hfs
  obtain ⟨t, ht⟩ : ∃ t, byt x = t := ⟨_, rfl⟩
  have hxt : x = str t := by rw [← ht, str_byt]
  have hby : Byts t := by rw [← ht]; exact byt_byts x
  have hsz : x.size = t.length := by rw [← ht, byt_length]
  by_cases h3 : 3000 < t.length
  · have CX := hide (unhide CR x)
    have HS : Hid (∀ o, Says (byt x) o → o = tooLong) := hide (fun o h => by
      rw [ht] at h
      rcases h with ⟨_, h⟩ | ⟨h, _⟩
      · exact h
      · omega)
    obtain ⟨XL, hXL⟩ : ∃ X, str tooLong = X := ⟨_, rfl⟩
    rw [hXL] at hls
    have HXL := hide hXL
    obtain ⟨N, hN⟩ : ∃ N, t.length = N := ⟨_, rfl⟩
    rw [hN] at h3 hsz
    have d3 : decide (3000 < (N : Int)) = true := by simp; omega
    clear hR hXF hXL ht hxt hby hN CR
    go_enter Tryz.func5, Tryz.ntmps5
    go_wp2_with fail
    refine (unhide CF).mono ?_
    rintro e w1 ⟨rfl, hb1⟩
    clear CF
    go_wp2_with fail
    refine (unhide CX _ hb1 zx).mono ?_
    rintro e w2 ⟨o, rfl, ho, hb2⟩
    rw [unhide HS o ho, unhide HXL]
    clear ho
    go_wp2
    go_ret
    exact ⟨rfl, Below.chain hb1 hb2⟩
  · have HCH := hide (fun (i : Nat) (h : i < t.length) (W : World) => run_ch hby h W)
    have HTO := hide (fun (k : Nat) (h : k ≤ t.length) (W : World) => run_to (l := t) h W)
    have HSB := hide (fun (k : Nat) (o p : List Int) (h1 : k ≤ t.length) h2 h3' h4 => says_begins (t := t) (k := k) (o := o) (p := p) h1 (by omega) h2 h3' h4)
    have HBK : Hid (∀ k, byt (str (t.take k)) = t.take k) := hide (fun k => byt_str (byts_take hby k))
    have HBT : Hid (byt (str t) = t) := hide (byt_str hby)
    have HSZ : Hid (∀ k, (str (t.take k)).size ≤ 9223372036854775807) := hide (fun k => by rw [str_size, List.length_take]; omega)
    subst hxt
    obtain ⟨N, hN⟩ : ∃ N, t.length = N := ⟨_, rfl⟩
    have HN := hide hN
    rw [hN] at h3 hsz HCH HTO HSB
    have d3 : decide (3000 < (N : Int)) = false := by simp; omega
    clear hR hXF ht hN hls hby
    go_enter Tryz.func5, Tryz.ntmps5
    go_wp2_with fail
    refine (unhide CF).mono ?_
    rintro e w1 ⟨rfl, hb1⟩
    clear CF
    go_wp2
    go_loopw [7, 8] (fun kv nv wr => ∃ (k n : Nat), k ≤ N ∧ n ≤ k ∧ kv = .int .i64 k ∧ nv = .int .i64 n ∧ Hid ((n : Int) < m ∨ k = 0 ∨ (0 < k ∧ at0 t (k - 1) = 10)) ∧ w1 = wr) (fun kv _ _ => N - (intOf kv).toNat)
    case atStart => exact ⟨0, 0, Nat.zero_le _, Nat.le_refl _, rfl, rfl, hide (Or.inr (Or.inl rfl)), rfl⟩
    case round =>
      obtain ⟨k, n, hk, hn, rfl, rfl, HI, rfl⟩ := hrel
      by_cases hlt : k < N ∧ (n : Int) < m
      · obtain ⟨hlt, hnm⟩ := hlt
        have hch := unhide HCH k hlt w1
        have dl : decide ((k : Int) < (N : Int)) = true := by simp; omega
        have dn : decide ((n : Int) < m) = true := by simpa using hnm
        have HI2 : Hid (at0 t k = 10 → ∀ n' : Nat, (n' : Int) < m ∨ k + 1 = 0 ∨ (0 < k + 1 ∧ at0 t (k + 1 - 1) = 10)) := hide (fun h n' => Or.inr (Or.inr ⟨by omega, by rw [Nat.add_sub_cancel]; exact h⟩))
        have HI3 : Hid ((n : Int) < m ∨ k + 1 = 0 ∨ (0 < k + 1 ∧ at0 t (k + 1 - 1) = 10)) := hide (Or.inl hnm)
        obtain ⟨c, hc⟩ : ∃ c, at0 t k = c := ⟨_, rfl⟩
        rw [hc] at hch HI2
        clear HI hc
        by_cases h10 : c = 10
        · subst h10
          have HI4 := hide (unhide HI2 rfl (n + 1))
          clear HI2 HI3
          go_wp2
          go_roundw
          case rel => exact ⟨k + 1, n + 1, by omega, by omega, by go_num, by go_num, HI4, by first | trivial | rfl⟩
          case measure => simp [intOf]; omega
        · have d10 : (c == 10) = false := by rw [beq_eq_false_iff_ne]; exact h10
          clear HI2
          go_wp2
          go_roundw
          case rel => exact ⟨k + 1, n, by omega, by omega, by go_num, rfl, HI3, by first | trivial | rfl⟩
          case measure => simp [intOf]; omega
      · have hb2 := hb1
        have HK : Hid (k = 0 ∨ k = N ∨ (0 < k ∧ at0 t (k - 1) = 10)) := hide (by
          have h1 := unhide HI
          by_cases h2 : k = N
          · exact Or.inr (Or.inl h2)
          · rcases h1 with h1 | h1 | h1
            · exact absurd ⟨by omega, h1⟩ hlt
            · exact Or.inl h1
            · exact Or.inr (Or.inr h1))
        have HTk := unhide HTO k hk
        have CA := hide (unhide CR (str (t.take k)) w1 hb1 (unhide HSZ k))
        have CB := hide (fun W h => unhide CR (str t) W h zx)
        rw [unhide HBK] at CA
        rw [unhide HBT] at CB
        have hto := HTk w1
        obtain ⟨XK, hXK⟩ : ∃ X, str (t.take k) = X := ⟨_, rfl⟩
        rw [hXK] at CA hto
        obtain ⟨XT, hXT⟩ : ∃ X, str t = X := ⟨_, rfl⟩
        rw [hXT] at CB hto hsz ⊢
        have hfin : Hid (∀ o p, Says (t.take k) o → Says t p → p.take o.length = o ∧ o.length ≤ p.length) := hide (fun o p h1 h2 => unhide HSB k o p hk (unhide HK) h1 h2)
        clear HI HK HTk HTO HSB HCH HBK HBT HSZ CR hXK hXT
        have HEND : Hid (∀ o p w3, Says (t.take k) o → Says t p → Below w1.heap.size w1 w3 → ((o.length : Int) ≤ (p.length : Int) ∧ (Instr.slice 9 (.string (str p)) none (some (.int .i64 o.length)) none).run Tryz.prog w3 = .ok (.string (str o)) w3)) := hide (fun o p w3 h1 h2 _ => by
          obtain ⟨e1, e2⟩ := unhide hfin o p h1 h2
          refine ⟨by omega, ?_⟩
          rw [run_to e2, e1])
        clear hfin
        rcases Decidable.em (k < N) with hkN | hkN
        · have hnm : ¬ (n : Int) < m := fun h => hlt ⟨hkN, h⟩
          have dl : decide ((k : Int) < (N : Int)) = true := by simp; omega
          have dn : decide ((n : Int) < m) = false := by simpa using hnm
          clear hlt hnm
          go_wp2_with fail
          refine (unhide CA).mono ?_
          rintro e w2 ⟨o, rfl, ho, hb2'⟩
          have hB2 := Below.chain hb1 hb2'
          clear CA
          go_wp2_with fail
          refine (unhide CB _ hB2).mono ?_
          rintro e w3 ⟨p, rfl, hp, hb3⟩
          obtain ⟨g1, g2⟩ := unhide HEND o p w3 ho hp (Below.chain hb2' hb3)
          have s1 := str_size o
          have s2 := str_size p
          obtain ⟨L1, hL1⟩ : ∃ L, o.length = L := ⟨_, rfl⟩
          obtain ⟨L2, hL2⟩ : ∃ L, p.length = L := ⟨_, rfl⟩
          rw [hL1] at g1 g2 s1
          rw [hL2] at g1 s2
          obtain ⟨XO, hXO⟩ : ∃ X, str o = X := ⟨_, rfl⟩
          obtain ⟨XP, hXP⟩ : ∃ X, str p = X := ⟨_, rfl⟩
          rw [hXO] at g2 s1 ⊢
          rw [hXP] at g2 s2 ⊢
          have dd : decide ((L1 : Int) ≤ (L2 : Int)) = true := by simpa using g1
          have se : (XO.toList == XO.toList) = true := by simp
          clear HEND CB ho hp hL1 hL2 hXO hXP
          go_wp2
          go_ret
          exact ⟨rfl, Below.chain hB2 hb3⟩
        · have dl : decide ((k : Int) < (N : Int)) = false := by simp; omega
          clear hlt
          go_wp2_with fail
          refine (unhide CA).mono ?_
          rintro e w2 ⟨o, rfl, ho, hb2'⟩
          have hB2 := Below.chain hb1 hb2'
          clear CA
          go_wp2_with fail
          refine (unhide CB _ hB2).mono ?_
          rintro e w3 ⟨p, rfl, hp, hb3⟩
          obtain ⟨g1, g2⟩ := unhide HEND o p w3 ho hp (Below.chain hb2' hb3)
          have s1 := str_size o
          have s2 := str_size p
          obtain ⟨L1, hL1⟩ : ∃ L, o.length = L := ⟨_, rfl⟩
          obtain ⟨L2, hL2⟩ : ∃ L, p.length = L := ⟨_, rfl⟩
          rw [hL1] at g1 g2 s1
          rw [hL2] at g1 s2
          obtain ⟨XO, hXO⟩ : ∃ X, str o = X := ⟨_, rfl⟩
          obtain ⟨XP, hXP⟩ : ∃ X, str p = X := ⟨_, rfl⟩
          rw [hXO] at g2 s1 ⊢
          rw [hXP] at g2 s2 ⊢
          have dd : decide ((L1 : Int) ≤ (L2 : Int)) = true := by simpa using g1
          have se : (XO.toList == XO.toList) = true := by simp
          clear HEND CB ho hp hL1 hL2 hXO hXP
          go_wp2
          go_ret
          exact ⟨rfl, Below.chain hB2 hb3⟩

end Go.Proofs.YtkkhgdkgbhdfaakGreatDoor.Ses
