/-
  run.name and run.told, by their contracts.
-/
import Derived.Test.YtkkhgdkgbhdfaakGreatDoorRa19
import Derived.Test.YtkkhgdkgbhdfaakGreatDoorRa21
import Derived.Test.YtkkhgdkgbhdfaakGreatDoorRa06
import Derived.Test.YtkkhgdkgbhdfaakGreatDoorRa01
namespace Go.Proofs.YtkkhgdkgbhdfaakGreatDoor.Lb
open Go.RowKit
open Go.Proofs.YtkkhgdkgbhdfaakGreatDoor.Tre Go.Proofs.YtkkhgdkgbhdfaakGreatDoor.Hrn Go.Proofs.YtkkhgdkgbhdfaakGreatDoor.Txt Go.Proofs.YtkkhgdkgbhdfaakGreatDoor.Ses Go.Proofs.YtkkhgdkgbhdfaakGreatDoor.Ev
set_option linter.unusedVariables false

theorem below6 (w : World) (o1 o2 o3 o4 o5 : Obj) : Below w.heap.size w (((((w.alloc o1).alloc o2).alloc o3).alloc o4).alloc o5) :=
  (((((Below.refl _ _).alloc (Nat.le_refl _) _).alloc (by simp) _).alloc (by simp; omega) _).alloc (by simp; omega) _).alloc (by simp; omega) _
theorem bad_str : ({ data := #[98, 97, 100] } : ByteArray) = str bad := by decide +kernel
theorem dash_str : ({ data := #[45] } : ByteArray) = str [45] := by decide +kernel

/-- The error of a line that cannot be read. -/
def badV : Value := .iface 154 (.agg #[.int .i64 2])

set_option maxRecDepth 100000 in
theorem name_bad (w : World) (hL : Lib20 w) :
    Calls Tryz.prog 95 #[badV] w fun e w' => e = .returned (.string (str bad)) ∧ Below w.heap.size w w' := by
  have hb0 : Below w.heap.size w (w.alloc (.cells #[.int .i64 0] 154)) := (Below.refl _ _).alloc (Nat.le_refl _) _
  have hLA := hL.er.below hb0
  have htA : (w.alloc (.cells #[.int .i64 0] 154)).cell? ⟨w.heap.size, 0, none⟩ = some (.int .i64 0) := by simp
  have hfA : (w.alloc (.cells #[.int .i64 0] 154)).frozen? ⟨w.heap.size, 0, none⟩ = false := by simp
  unfold badV
  go_enter Tryz.func95, Tryz.ntmps95
  go_wp2_with fail
  refine (AsBad.as_hit 2 ⟨w.heap.size, 0, none⟩ (.int .i64 0) _ hLA htA hfA).mono ?_
  rintro e w' ⟨rfl, rfl⟩
  go_wp2
  go_ret
  exact ⟨congrArg (fun s => Ending.returned (.string s)) bad_str, below6 w _ _ _ _ _⟩

/-- .. of a chapter, by its name. -/
theorem errno_name (e : Int) (w : World) (h0 : 0 ≤ e) (h8 : e ≤ 8) : Calls Tryz.prog 125 #[.int .i64 e] w fun r w' => r = .returned (.string (str (name e))) ∧ w' = w := by
  have hcases : e = 0 ∨ e = 1 ∨ e = 2 ∨ e = 3 ∨ e = 4 ∨ e = 5 ∨ e = 6 ∨ e = 7 ∨ e = 8 := by omega
  rcases hcases with rfl | rfl | rfl | rfl | rfl | rfl | rfl | rfl | rfl
  all_goals
    go_enter Tryz.func125, Tryz.ntmps125
    go_wp2
    go_ret
    exact ⟨congrArg (fun s => Ending.returned (.string s)) (by decide +kernel), rfl⟩

set_option maxRecDepth 100000 in
theorem name_err (n : Int) (h0 : 0 ≤ n) (h8 : n ≤ 8) (w : World) (hL : Lib20 w) (hg : 9 ≤ w.heap.size) :
    Calls Tryz.prog 95 #[.iface 58 (.int .i64 n)] w fun e w' => e = .returned (.string (str (name n))) ∧ Below w.heap.size w w' := by
  obtain ⟨W0, hW0⟩ : ∃ W0, w.alloc (.cells #[.int .i64 0] 154) = W0 := ⟨_, rfl⟩
  have hb0 : Below w.heap.size w W0 := by rw [← hW0]; exact (Below.refl _ _).alloc (Nat.le_refl _) _
  have hLA := hL.er.below hb0
  have hsz : w.heap.size ≤ W0.heap.size := hb0.size
  have c1 := AsBad.as_miss n ⟨w.heap.size, 0, none⟩ (.int .i64 0) W0 hLA (by rw [← hW0]; simp) (by rw [← hW0]; simp)
  go_enter Tryz.func95, Tryz.ntmps95
  go_wp2_with fail
  refine c1.mono ?_
  rintro e w1 ⟨rfl, hb1⟩
  have hLB := hLA.below hb1
  obtain ⟨W2, hW2⟩ : ∃ W2, w1.alloc (.cells #[.int .i64 0] 58) = W2 := ⟨_, rfl⟩
  have hb2 : Below w1.heap.size w1 W2 := by rw [← hW2]; exact (Below.refl _ _).alloc (Nat.le_refl _) _
  have c2 := Aser.as_hit n ⟨w1.heap.size, 0, none⟩ (.int .i64 0) W2 (hLB.below hb2) (by rw [← hW2]; simp) (by rw [← hW2]; simp)
  go_wp2_with fail
  refine c2.mono ?_
  rintro e w3 ⟨rfl, hw3⟩
  have hb3 : Below w.heap.size w w3 := by
    have := below6 w1 (.cells #[.int .i64 0] 58) (.cells #[.pointer (some ⟨w1.heap.size, 0, none⟩)] 102) (.cells #[.pointer (some ⟨9, 102, none⟩), .pointer (some ⟨W2.heap.size, 0, none⟩), .int .u64 150] 138) (.cells #[.pointer (some ⟨9, 102, none⟩), .pointer (some ⟨W2.heap.size, 0, none⟩), .int .u64 150] 138) (.cells #[.int .i64 n] 58)
    rw [hW2] at this
    have h4 : Below w1.heap.size w1 w3 := by rw [hw3]; exact this.setCell (p := ⟨w1.heap.size, 0, none⟩) (Nat.le_refl _) _
    exact (hb0.trans (hb1.mono hsz)).trans (h4.mono (by have := hb1.size; omega))
  have hc3 : w3.cell? ⟨w1.heap.size, 0, none⟩ = some (.int .i64 n) := by
    rw [hw3]
    have hx : W2.cell? ⟨w1.heap.size, 0, none⟩ = some (.int .i64 0) := by rw [← hW2]; simp
    have hy : ∀ o1 o2 o3 o4 : Obj, ((((W2.alloc o1).alloc o2).alloc o3).alloc o4).cell? ⟨w1.heap.size, 0, none⟩ = some (.int .i64 0) := fun o1 o2 o3 o4 =>
      (((((Below.refl W2.heap.size W2).alloc (Nat.le_refl _) o1).alloc (by simp) o2).alloc (by simp; omega) o3).alloc (by simp; omega) o4).cell (p := ⟨w1.heap.size, 0, none⟩) (cell_lt hx) |>.trans hx
    exact World.cell?_setCell_same' _ _ _ (by rw [hy]; rfl)
  have c3 := errno_name n w3 h0 h8
  clear hw3
  go_wp2_with fail
  refine c3.mono ?_
  rintro e w4 ⟨rfl, rfl⟩
  go_wp2
  go_ret
  exact ⟨rfl, hb3⟩

end Go.Proofs.YtkkhgdkgbhdfaakGreatDoor.Lb

/-
  run.number, by its contract.
-/
namespace Go.Proofs.YtkkhgdkgbhdfaakGreatDoor.Lb
open Go.RowKit
open Go.Proofs.YtkkhgdkgbhdfaakGreatDoor.Tre Go.Proofs.YtkkhgdkgbhdfaakGreatDoor.Hrn Go.Proofs.YtkkhgdkgbhdfaakGreatDoor.Txt Go.Proofs.YtkkhgdkgbhdfaakGreatDoor.Ses
set_option linter.unusedVariables false

theorem beyond9 (n : Int) (B : Nat) (w : World) (hc : w.cell? ⟨B, 0, none⟩ = some (.int .i64 9999)) :
    Calls Tryz.prog 160 #[.int .i64 n, .pointer (some ⟨B, 0, none⟩)] w fun e w' => e = .returned (.bool (out 9999 n)) ∧ w' = w := by
  by_cases h1 : n < -9999
  · have h3 : decide (n < -9999) = true := by simpa using h1
    go_enter Tryz.func160, Tryz.ntmps160
    go_wp2
    go_ret
    refine ⟨?_, rfl⟩
    simp [out, h3]
  · have h3 : decide (n < -9999) = false := by simpa using h1
    go_enter Tryz.func160, Tryz.ntmps160
    go_wp2
    go_ret
    refine ⟨?_, rfl⟩
    simp [out, h3]

/-- What a word is read as. -/
def NumSays (x : List Int) (w : World) (e : Ending) (w' : World) : Prop :=
  ((∃ n, wd true x = some n ∧ e = .returned (.tuple #[.int .i64 n, .nilIface])) ∨ (wd true x = none ∧ e = .returned (.tuple #[.int .i64 0, badV]))) ∧ Below w.heap.size w w'

set_option maxRecDepth 100000 in
set_option maxHeartbeats 2000000 in
theorem number20 {x : List Int} (hb : Byts x) (hl : x.length ≤ 3000) (w : World) (hL : Lib20 w) (hg : 9 ≤ w.heap.size) :
    Calls Tryz.prog 94 #[.string (str x)] w fun e w' => NumSays x w e w' := by
  have HNO : Hid (wd true x = none → ∀ w', Below w.heap.size w w' → NumSays x w (.returned (.tuple #[.int .i64 0, .iface 154 (.agg #[.int .i64 2])])) w') := hide (fun h w' hb => ⟨Or.inr ⟨h, rfl⟩, hb⟩)
  have HYES : Hid (∀ n, wd true x = some n → ∀ w', Below w.heap.size w w' → NumSays x w (.returned (.tuple #[.int .i64 n, .nilIface])) w') := hide (fun n h w' hb => ⟨Or.inl ⟨n, h, rfl⟩, hb⟩)
  by_cases hA : ∃ n, Lib.atoiAll (str x).data.toList = .ok n
  · obtain ⟨n, hA⟩ := hA
    obtain ⟨n0, n1⟩ := atoi_in hA
    have cA := atoi_yes hl hA w
    have HI : Hid (∀ W, Below w.heap.size w W → Calls Tryz.prog 96 #[.int .i64 n] W fun e w' => e = .returned (.string (str (tl1 n))) ∧ Below W.heap.size W w') := hide (fun W hW => itoa20 n n0 n1 W (hL.on hW hg))
    by_cases hS : x = tl1 n
    · -- just so written
      rw [← hS] at HI
      obtain ⟨T, hT⟩ : ∃ T, out 9999 n = T := ⟨_, rfl⟩
      have HR : Hid ((T = true → wd true x = none) ∧ (T = false → wd true x = some n)) := hide ⟨fun h => by
          cases hw : wd true x with
          | none => rfl
          | some m =>
            obtain ⟨e1, -, m0, m1⟩ := wd_some_of hw
            rw [hA] at e1
            injection e1 with e1
            rw [h] at hT
            simp [out] at hT
            omega, fun h => by
          rw [h] at hT
          simp [out] at hT
          rw [hS]
          exact wd_tl1 (by omega) (by omega)⟩
      have HB : Hid (∀ B W, W.cell? ⟨B, 0, none⟩ = some (.int .i64 9999) → Calls Tryz.prog 160 #[.int .i64 n, .pointer (some ⟨B, 0, none⟩)] W fun e w' => e = .returned (.bool T) ∧ w' = W) := hide (fun B W hc => by rw [← hT]; exact beyond9 n B W hc)
      clear hS hA hT
      cases T
      all_goals
        go_enter Tryz.func94, Tryz.ntmps94
        go_wp2_with fail
        refine cA.mono ?_
        rintro e w1 ⟨rfl, hb1⟩
        have cI := unhide HI w1 hb1
        go_wp2_with (first
          | (go_at_call 96; refine cI.mono ?_; rintro e w2 ⟨rfl, hb2⟩)
          | (go_at_call 124; refine (beyond 9999 _).mono ?_; rintro e w3 ⟨rfl, rfl⟩)
          | (go_at_call 160; refine (unhide HB _ _ (boxed_cell _ _ _)).mono ?_; rintro e w4 ⟨rfl, rfl⟩))
        go_ret2
        first
          | exact unhide HYES n (by have h := unhide HR; simpa using h) _ ((hb1.trans (hb2.mono hb1.size)).alloc (Nat.le_trans hb1.size hb2.size) _)
          | exact unhide HNO (by have h := unhide HR; simpa using h) _ ((hb1.trans (hb2.mono hb1.size)).alloc (Nat.le_trans hb1.size hb2.size) _)
    · have HW : Hid (wd true x = none) := hide (by
        cases hw : wd true x with
        | none => rfl
        | some m =>
          obtain ⟨e1, e2, m0, m1⟩ := wd_some_of hw
          rw [hA] at e1
          injection e1 with e1
          rw [e1] at hS
          exact absurd e2 hS)
      have hne : ((str (tl1 n)).toList == (str x).toList) = false := by rw [str_is (tl1_byts n) hb]; simpa using fun e => hS e.symm
      obtain ⟨Z, hZ⟩ : ∃ Z, str (tl1 n) = Z := ⟨_, rfl⟩
      rw [hZ] at hne HI
      have hne2 : ¬ Z.toList = (str x).toList := by simpa using hne
      clear hS hA hZ
      go_enter Tryz.func94, Tryz.ntmps94
      go_wp2_with fail
      refine cA.mono ?_
      rintro e w1 ⟨rfl, hb1⟩
      have cI := unhide HI w1 hb1
      go_wp2_with fail
      refine cI.mono ?_
      rintro e w2 ⟨rfl, hb2⟩
      go_wp2
      go_ret2
      exact unhide HNO (unhide HW) _ (hb1.trans (hb2.mono hb1.size))
  · have hA2 : ∀ n, Lib.atoiAll (str x).data.toList ≠ .ok n := fun n e => hA ⟨n, e⟩
    have HW : Hid (wd true x = none) := hide (by
      cases hw : wd true x with
      | none => rfl
      | some m => exact absurd (wd_some_of hw).1 (hA2 m))
    have cA := atoi_no hl hA2 w hL
    clear hA hA2
    go_enter Tryz.func94, Tryz.ntmps94
    go_wp2_with fail
    refine cA.mono ?_
    rintro e w1 ⟨v, t, p, rfl, hb1⟩
    go_wp2
    go_ret2
    exact unhide HNO (unhide HW) _ hb1

end Go.Proofs.YtkkhgdkgbhdfaakGreatDoor.Lb

/-
  run.told, by its contract.
-/
namespace Go.Proofs.YtkkhgdkgbhdfaakGreatDoor.Lb
open Go.RowKit
open Go.Proofs.YtkkhgdkgbhdfaakGreatDoor.Tre Go.Proofs.YtkkhgdkgbhdfaakGreatDoor.Hrn Go.Proofs.YtkkhgdkgbhdfaakGreatDoor.Txt Go.Proofs.YtkkhgdkgbhdfaakGreatDoor.Ses Go.Proofs.YtkkhgdkgbhdfaakGreatDoor.Ev
set_option linter.unusedVariables false

theorem told_bad (v : Value) (w : World) (hL : Lib20 w) :
    Calls Tryz.prog 69 #[badV, v] w fun e w' => e = .returned (.string (str bad)) ∧ Below w.heap.size w w' := by
  have c := name_bad w hL
  unfold badV at c ⊢
  go_enter Tryz.func69, Tryz.ntmps69
  go_wp2_with fail
  refine c.mono ?_
  rintro e w1 ⟨rfl, hb⟩
  go_wp2
  go_ret
  exact ⟨rfl, hb⟩
theorem told_err (n : Int) (h0 : 0 ≤ n) (h8 : n ≤ 8) (v : Value) (w : World) (hL : Lib20 w) (hg : 9 ≤ w.heap.size) :
    Calls Tryz.prog 69 #[.iface 58 (.int .i64 n), v] w fun e w' => e = .returned (.string (str (name n))) ∧ Below w.heap.size w w' := by
  have c := name_err n h0 h8 w hL hg
  go_enter Tryz.func69, Tryz.ntmps69
  go_wp2_with fail
  refine c.mono ?_
  rintro e w1 ⟨rfl, hb⟩
  go_wp2
  go_ret
  exact ⟨rfl, hb⟩

theorem map_next {l : List Int} {j : Nat} (h : j < l.length) : ((l.take (j + 1)).map fun n => str (tl1 n)) = ((l.take j).map fun n => str (tl1 n)) ++ [str (tl1 (at0 l j))] := by
  rw [List.take_succ_eq_append_getElem h, List.map_append]
  simp [at0, h]

set_option maxRecDepth 100000 in
set_option maxHeartbeats 4000000 in
theorem told_ok (a : Option Addr) (cap : Nat) (l : List Int) (w : World) (hr : Row w a l) (hn : l.length ≤ 1000) (hi : Hid (∀ j, j < l.length → -9223372036854775808 ≤ at0 l j ∧ at0 l j ≤ 9223372036854775807)) (hL : Lib20 w) (hg : 9 ≤ w.heap.size) :
    Calls Tryz.prog 69 #[.nilIface, .slice a l.length cap] w fun e w' => e = .returned (.string (str (tell l))) ∧ Below w.heap.size w w' := by
  have HJ : Hid (∀ (a : Option Addr) (cap : Nat) (W : World), l ≠ [] → l.length ≤ cap → RowT W a (l.map fun n => str (tl1 n)) → Calls Tryz.prog 97 #[.slice a l.length cap, .string { data := #[32] }] W fun e w' => e = .returned (.string (str (tell l))) ∧ Below W.heap.size W w') := hide (fun a cap W h1 h2 h3 => join20 h1 hn a cap W h2 h3)
  have HMN := hide (fun (j : Nat) (h : j < l.length) => map_next h)
  have HRW := hide hr
  have HNE : Hid (l.length ≠ 0 → l ≠ []) := hide (fun h e => h (by rw [e]; rfl))
  have HEM : Hid (l.length = 0 → tell l = [45]) := hide (fun h => by rw [List.length_eq_zero_iff.1 h]; rfl)
  have HT0 : Hid ((l.take 0).map (fun n => str (tl1 n)) = []) := hide rfl
  have HTL : Hid ((l.take l.length).map (fun n => str (tl1 n)) = l.map fun n => str (tl1 n)) := hide (by rw [List.take_length])
  have HLN : Hid (∀ j, j ≤ l.length → ((l.take j).map fun n => str (tl1 n)).length = j) := hide (fun j hj => by simp; omega)
  have HLA : Hid ((l.map fun n => str (tl1 n)).length = l.length) := hide (by simp)
  obtain ⟨N, hN⟩ : ∃ N, l.length = N := ⟨_, rfl⟩
  have HN := hide hN
  rw [hN] at HJ HMN HNE HEM HTL HLN HLA hn hi ⊢
  clear hN hr
  by_cases h0 : N = 0
  · have HE := unhide HEM h0
    subst h0
    go_enter Tryz.func69, Tryz.ntmps69
    go_wp2
    go_ret
    refine ⟨?_, Below.refl _ _⟩
    exact congrArg (fun s => Ending.returned (.string s)) dash_str
  · have hz : ((N : Int) == 0) = false := by simp; omega
    have hne := unhide HNE h0
    have HNE2 := hide hne
    clear hne
    go_enter Tryz.func69, Tryz.ntmps69
    go_wp2
    go_loopw [5, 17] (fun v iv wr => ∃ j : Nat, j ≤ N ∧ iv = .int .i64 j ∧ HasT wr w.heap.size v ((l.take j).map fun n => str (tl1 n)) ∧ Below w.heap.size w wr) (fun _ iv _ => N - (intOf iv).toNat)
    case atStart => exact ⟨0, Nat.zero_le _, rfl, by rw [unhide HT0]; exact HasT.nil _ _, Below.refl _ _⟩
    case round =>
      obtain ⟨j, hj, rfl, hv, hb⟩ := hrel
      have hL2 := hL.on hb hg
      by_cases hlt : j < N
      · have hlt' : j < l.length := by rw [unhide HN]; exact hlt
        obtain ⟨b1, off1, rfl, hbl, hc1⟩ := (unhide HRW).at hlt'
        have c1 : wr.cell? ⟨b1, off1 + j, none⟩ = some (.int .i64 (at0 l j)) := (hb.cell (p := ⟨b1, off1 + j, none⟩) hbl).trans (hc1 j hlt')
        have hin := unhide hi j hlt
        have HM := hide (unhide HMN j hlt)
        have hln := unhide HLN j hj
        obtain ⟨x, hx⟩ : ∃ x, at0 l j = x := ⟨_, rfl⟩
        rw [hx] at c1 hin HM
        obtain ⟨L, hLd⟩ : ∃ L, ((l.take j).map fun n => str (tl1 n)) = L := ⟨_, rfl⟩
        rw [hLd] at hv HM hln
        have cI := itoa20 x hin.1 hin.2 wr hL2
        obtain ⟨X, hX⟩ : ∃ X, str (tl1 x) = X := ⟨_, rfl⟩
        rw [hX] at cI HM
        clear hc1 hx hLd hX hin
        go_wp2_with fail
        refine cI.mono ?_
        rintro e w1 ⟨rfl, hb1⟩
        have hv1 := hv.below hb1
        have hsz := hb.size
        have hsz1 := hb1.size
        have hcs := cell_str w1 X 9
        have hva := hv1.alloc (.cells #[.string X] 9)
        go_wp2_with (at_builtin; refine wpList_appt _ rfl _ _ rfl w.heap.size _ L X _ _ 1 rfl hva rfl hcs (by omega) (by simp; omega) ?_; intro v' w2 hv2 hg2 hl2)
        have hb2 : Below w.heap.size w w2 := ((hb.trans (hb1.mono hsz)).alloc (by omega) _).grown hg2 (by simp; omega) (fun k hk => (hva.lt k hk).1)
        go_wp2
        go_roundw
        case rel => exact ⟨j + 1, by omega, by go_num, by rw [unhide HM]; exact hv2, hb2⟩
        case measure => simp [intOf]; omega
      · obtain rfl : j = N := by omega
        rw [unhide HTL] at hv
        obtain ⟨av, capv, rfl, hrt, hcap, -⟩ := hv.shape
        rw [unhide HLA] at hcap ⊢
        have cJ := unhide HJ av capv wr (unhide HNE2) hcap hrt
        clear hrt hv HMN HTL HLA HLN HT0
        go_wp2_with fail
        refine cJ.mono ?_
        rintro e w1 ⟨rfl, hb1⟩
        go_wp2
        go_ret
        exact ⟨rfl, hb.trans (hb1.mono hb.size)⟩

end Go.Proofs.YtkkhgdkgbhdfaakGreatDoor.Lb
