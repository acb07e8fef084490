/-
  The walk of hornlaw3.RunAnswers over the contracts of run.Run and hornref2.Line.
-/
import Derived.Test.YtkkhgdkgbhdfaakGreatDoorRa15
import Derived.Test.YtkkhgdkgbhdfaakGreatDoorRa14
import Derived.Test.YtkkhgdkgbhdfaakGreatDoorRa11
import Derived.Deep.RegionWith
import Derived.Deep.CutBlock
import Derived.Deep.DeepCutAuto
namespace Go.Proofs.YtkkhgdkgbhdfaakGreatDoor.Ses
open Go.RowKit
open Go.Proofs.YtkkhgdkgbhdfaakGreatDoor.Tre Go.Proofs.YtkkhgdkgbhdfaakGreatDoor.Hrn Go.Proofs.YtkkhgdkgbhdfaakGreatDoor.Txt Go.Proofs.YtkkhgdkgbhdfaakGreatDoor.Tnk
set_option linter.unusedVariables false

/-- hornref2.Line answers so. -/
def LineC : Prop := ∀ (H : Int) (l : List Int) (W : World), Ok 100 20 H → Byts l → l.length ≤ 3000 → Calls Tryz.prog 21 #[.agg #[.int .i64 100, .int .i64 20, .int .i64 H], .string (str l)] W fun e w' => LinePost H l W e w'
theorem cut_byts {c : Int} {l : List Int} (hb : Byts l) {j : Nat} (h : j < (cut c l).length) : Byts ((cut c l).getD j []) := fun b hb2 => by
  have hm : (cut c l).getD j [] ∈ cut c l := by
    rw [List.getD_eq_getElem?_getD, List.getElem?_eq_getElem h]
    exact List.getElem_mem h
  exact hb b (cut_mem hm b hb2)
theorem cut_small {c : Int} {l : List Int} {j : Nat} (h : j < (cut c l).length) : ((cut c l).getD j []).length ≤ l.length := by
  refine cut_long (c := c) ?_
  rw [List.getD_eq_getElem?_getD, List.getElem?_eq_getElem h]
  exact List.getElem_mem h
/-- The lines are the first pieces. -/
theorem lines_at {t : List Int} {j : Nat} (h : j < (lines t).length) : (lines t).getD j [] = (cut 10 t).getD j [] ∧ j < (cut 10 t).length := by
  unfold lines at h ⊢
  split
  · rename_i e
    rw [if_pos e, List.length_dropLast] at h
    refine ⟨?_, by omega⟩
    rw [List.getD_eq_getElem?_getD, List.getD_eq_getElem?_getD, List.getElem?_dropLast, if_pos h]
  · rename_i e
    rw [if_neg e] at h
    exact ⟨rfl, h⟩
theorem last_is {t : List Int} : (cut 10 t).getLast? = some ((cut 10 t).getD ((cut 10 t).length - 1) []) := by
  have h := cut_ne 10 t
  have hp : 0 < (cut 10 t).length := List.length_pos_iff.2 h
  rw [List.getLast?_eq_getElem?, List.getD_eq_getElem?_getD, List.getElem?_eq_getElem (by omega)]
  rfl
theorem lines_length {t : List Int} : (lines t).length = if (cut 10 t).getD ((cut 10 t).length - 1) [] = [] then (cut 10 t).length - 1 else (cut 10 t).length := by
  unfold lines
  rw [last_is]
  by_cases h : (cut 10 t).getD ((cut 10 t).length - 1) [] = []
  · rw [if_pos (by rw [h]), if_pos h, List.length_dropLast]
  · rw [if_neg (fun e => h (Option.some.inj e)), if_neg h]
theorem take_line {t : List Int} {j : Nat} (h : j < (lines t).length) : (lines t).take (j + 1) = (lines t).take j ++ [(lines t).getD j []] := by
  rw [List.take_succ_eq_append_getElem h, List.getD_eq_getElem?_getD, List.getElem?_eq_getElem h]
  rfl
theorem empty_same (l : List Int) : ((str l).toList == ([] : List UInt8)) = decide (l = []) := by
  rw [str_toList]
  cases l with
  | nil => rfl
  | cons a l => simp [u8s]

set_option maxRecDepth 100000 in
set_option maxHeartbeats 16000000 in
theorem answers_walk (x : ByteArray) (w : World) (hR : Hid (Runs w)) (hLn : Hid LineC) (zx : x.size ≤ 9223372036854775807) :
    Calls Tryz.prog 4 #[.string x] w fun e w' => e = .returned (.bool true) ∧ Below w.heap.size w w' := by
  have CR := hide (unhide hR x w (Below.refl _ _) zx)
  have hls := long_same
  obtain ⟨t, ht⟩ : ∃ t, byt x = t := ⟨_, rfl⟩
  have hxt : x = str t := by rw [← ht, str_byt]
  have hby : Byts t := by rw [← ht]; exact byt_byts x
  have hsz : x.size = t.length := by rw [← ht, byt_length]
  rw [ht] at CR
  by_cases h3 : 3000 < t.length
  · have HS : Hid (∀ o, Says t o → o = tooLong) := hide (fun o h => by
      rcases h with ⟨_, h⟩ | ⟨h, _⟩
      · exact h
      · omega)
    obtain ⟨XL, hXL⟩ : ∃ X, str tooLong = X := ⟨_, rfl⟩
    rw [hXL] at hls
    have HXL := hide hXL
    obtain ⟨N, hN⟩ : ∃ N, t.length = N := ⟨_, rfl⟩
    rw [hN] at h3 hsz
    have d3 : decide (3000 < (N : Int)) = true := by simp; omega
    clear hR hXL ht hxt hby hN hLn
    go_enter Tryz.func4, Tryz.ntmps4
    go_wp2_with fail
    refine (unhide CR).mono ?_
    rintro e w1 ⟨o, rfl, ho, hb1⟩
    rw [unhide HS o ho, unhide HXL]
    clear ho CR
    go_wp2
    go_ret
    exact ⟨rfl, hb1⟩
  · subst hxt
    have HSS : Hid (∀ o, Says t o → ∃ H, Sess 100 (lines t) o H) := hide (fun o h => by
      rcases h with ⟨h, _⟩ | ⟨_, h⟩
      · omega
      · exact h)
    have CCU := hide (fun W => refCut 10 t W (hide hby) (by omega))
    have HWB := hide (fun (j : Nat) (h : j < (cut 10 t).length) => cut_byts hby h)
    have HWL := hide (fun (j : Nat) (h : j < (cut 10 t).length) => cut_small (c := 10) (l := t) h)
    have HLA := hide (fun (j : Nat) (h : j < (lines t).length) => lines_at h)
    have HTK := hide (fun (j : Nat) (h : j < (lines t).length) => take_line h)
    have HLL := hide (lines_length (t := t))
    have HES := hide (empty_same ((cut 10 t).getD ((cut 10 t).length - 1) []))
    have hcl := cut_length 10 t
    have hne0 : 0 < (cut 10 t).length := List.length_pos_iff.2 (cut_ne 10 t)
    have HTL : Hid ((lines t).take (lines t).length = lines t) := hide (List.take_length)
    obtain ⟨N, hN⟩ : ∃ N, t.length = N := ⟨_, rfl⟩
    rw [hN] at h3 hsz hcl HWL
    have d3 : decide (3000 < (N : Int)) = false := by simp; omega
    obtain ⟨M, hM⟩ : ∃ M, (cut 10 t).length = M := ⟨_, rfl⟩
    have HMe := hide hM
    rw [hM] at HWB HWL HLL HES hcl hne0 HLA
    obtain ⟨K, hK⟩ : ∃ K, (lines t).length = K := ⟨_, rfl⟩
    rw [hK] at HLA HTK HLL HTL
    obtain ⟨la, hla⟩ : ∃ la, (cut 10 t).getD (M - 1) [] = la := ⟨_, rfl⟩
    have HLAe := hide hla
    rw [hla] at HLL HES
    clear hR hls ht hN hM hK hla
    go_enter Tryz.func4, Tryz.ntmps4
    go_wp2_with fail
    refine (unhide CR).mono ?_
    rintro e w1 ⟨o, rfl, ho, hb1⟩
    have HO := hide (unhide HSS o ho)
    clear CR HSS ho
    go_wp2_with fail
    refine (unhide CCU _).mono ?_
    rintro e w2 ⟨v2, rfl, k2, hb2⟩
    have hB2 := Below.chain hb1 hb2
    clear CCU hb1 hb2
    obtain ⟨p2, c2, rfl, R2, m2, m29⟩ := k2.shape
    obtain ⟨b2, off2, rfl, hlt2, hc2⟩ := R2.at (k := 0) (by rw [List.length_map, unhide HMe]; exact hne0)
    rw [List.length_map, unhide HMe] at hc2 m2 ⊢
    have HC2 : Hid (∀ j, j < M → w2.cell? ⟨b2, off2 + j, none⟩ = some (.string (str ((cut 10 t).getD j [])))) := hide (fun j hj => by rw [hc2 j hj, map_getD _ (by rw [unhide HMe]; exact hj)])
    have cl := unhide HC2 (M - 1) (by omega)
    rw [unhide HLAe] at cl
    have wM : IntKind.i64.wrap ((M : Int) - 1) = ((M - 1 : Nat) : Int) := by rw [IntWalk.i64_in _ (by omega)]; omega
    obtain ⟨L, hL⟩ : ∃ L, M - 1 = L := ⟨_, rfl⟩
    rw [hL] at cl wM
    have hL1 : (L : Int) < (M : Int) := by omega
    have hL2 : (L : Int) ≤ (c2 : Int) := by omega
    obtain ⟨T, hT⟩ : ∃ T, decide (la = []) = T := ⟨_, rfl⟩
    rw [hT] at HES
    have qes := unhide HES
    have HKK : Hid ((T = true → K = L) ∧ (T = false → K = M)) := hide (by
      have := unhide HLL
      rw [hL] at this
      constructor
      · intro h
        rw [h] at hT
        rw [if_pos (of_decide_eq_true hT)] at this
        exact this
      · intro h
        rw [h] at hT
        rw [if_neg (of_decide_eq_false hT)] at this
        exact this)
    clear hc2 R2 k2 HES HLL HLAe hT HMe
    go_upto_if 24 with fail
    go_cut [4] (fun v wx => v = .slice (some ⟨b2, off2, none⟩) K c2 ∧ w2 = wx)
    case first =>
      cases T with
      | true =>
        obtain rfl : K = L := (unhide HKK).1 rfl
        go_wp2
        go_meet
        exact ⟨rfl, by first | trivial | rfl⟩
      | false =>
        obtain rfl : K = M := (unhide HKK).2 rfl
        go_wp2
        go_meet
        exact ⟨rfl, by first | trivial | rfl⟩
    case rest =>
    obtain ⟨rfl, rfl⟩ := hcut
    have hKM : K ≤ M := by
      cases T with
      | true => have := (unhide HKK).1 rfl; omega
      | false => have := (unhide HKK).2 rfl; omega
    have hB0 : Below w2.heap.size w2 (w2.alloc (.cells #[.int .i64 100, .int .i64 20, .int .i64 100] 44)) := (Below.refl _ _).alloc (Nat.le_refl _) _
    have tk0 : Tk (w2.alloc (.cells #[.int .i64 100, .int .i64 20, .int .i64 100] 44)) w2.heap.size 100 20 100 := Tk.new w2 100 20 100
    obtain ⟨B, hBB⟩ : ∃ B, w2.heap.size = B := ⟨_, rfl⟩
    have HBB := hide hBB
    have HE0 : Hid (({ data := #[] } : ByteArray) = str []) := hide rfl
    have HS0 : Hid (Sess 100 ((lines t).take 0) [] 100) := hide ⟨rfl, rfl⟩
    clear cl wM hL1 hL2 qes hL HKK hBB
    go_wp2
    go_loopw [6, 7] (fun wv iv wr => ∃ (j : Nat) (H : Int) (o' : List Int), j ≤ K ∧ iv = .int .i64 j ∧ wv = .string (str o') ∧ Tk wr w2.heap.size 100 20 H ∧ Hid (Ok 100 20 H) ∧ Hid (Sess 100 ((lines t).take j) o' H) ∧ Below w2.heap.size w2 wr) (fun _ iv _ => K - (intOf iv).toNat)
    case atStart => exact ⟨0, 100, [], Nat.zero_le _, rfl, rfl, tk0, hide (ok_all (by omega) (by omega)), HS0, hB0⟩
    case round =>
      obtain ⟨j, H, o', hj, rfl, rfl, tk, HOK, HSE, hB⟩ := hrel
      clear tk0 hB0 HS0 HE0
      by_cases hlt : j < K
      · obtain ⟨e1, e2⟩ := unhide HLA j hlt
        have hcell := (hB.cell (p := ⟨b2, off2 + j, none⟩) hlt2).trans (unhide HC2 j e2)
        have hlb := unhide HWB j e2
        have hll := unhide HWL j e2
        have HT1 := hide (unhide HTK j hlt)
        rw [e1] at HT1
        have hol := (unhide HSE).length
        have hol2 : (lines t).take j = (lines t).take j := rfl
        obtain ⟨ln, hln⟩ : ∃ ln, (cut 10 t).getD j [] = ln := ⟨_, rfl⟩
        rw [hln] at hcell hlb hll HT1
        have hol9 : o'.length ≤ 453151 := by
          have : ((lines t).take j).length ≤ j := by simp; omega
          omega
        have HN1 : Hid (∀ a H2, Line H ln a H2 → Sess 100 ((lines t).take (j + 1)) (o' ++ (a ++ [10])) H2 ∧ Ok 100 20 H2 ∧ a.length ≤ 150) := hide (fun a H2 h => ⟨by rw [unhide HT1]; exact (unhide HSE).next h, h.ok (unhide HOK), h.length⟩)
        have CL := hide (fun W => unhide hLn H ln W (unhide HOK) hlb (by omega))
        have HK1 : Hid (∀ (a : List Int) (W : World), a.length ≤ 150 → (Op.stringOp .add (str o') (str a)).run Tryz.prog W = .ok (.string (str (o' ++ a))) W) := hide (fun a W h => run_cat W o' a (by omega))
        have HK2 : Hid (∀ (a : List Int) (W : World), a.length ≤ 150 → (Op.stringOp .add (str (o' ++ a)) { data := #[10] }).run Tryz.prog W = .ok (.string (str (o' ++ (a ++ [10])))) W) := hide (fun a W h => by
          rw [nl_is, run_cat W (o' ++ a) [10] (by simp; omega), List.append_assoc])
        have t0 := tk.c0
        have t1 := tk.c1
        have t2 := tk.c2
        have hBs := hB.size
        obtain ⟨XN, hXN⟩ : ∃ X, str ln = X := ⟨_, rfl⟩
        rw [hXN] at hcell CL
        unfold LinePost at CL
        clear hol hol2 hln hXN HT1 HSE hlb hll e1 e2
        have tkd : Tk wr.drew w2.heap.size 100 20 H := tk
        have hBd : Below w2.heap.size w2 wr.drew := hB.trans ⟨rfl, rfl, rfl, Nat.le_refl _, fun _ _ => rfl⟩
        go_wp2
        go_region_with (
          go_at_call 21
          refine (unhide CL _).mono ?_
          rintro e w5 ⟨a5, H5, rfl, hL5, hb5⟩
          have tk5 := tkd.below hb5 tkd.lt
          have s0 := tk5.c0
          have s1 := tk5.c1
          have s2 := tk5.c2
          have s3 := tk5.fz 0
          have s4 := tk5.fz 1
          have s5 := tk5.fz 2)
        all_goals (
          obtain ⟨n1, n2, n3⟩ := unhide HN1 a5 H5 hL5
          have N1 := hide n1
          have N2 := hide n2
          have q1 := fun W => unhide HK1 a5 W n3
          have q2 := fun W => unhide HK2 a5 W n3
          have P1 := hide (tk5.put 100 20 H5)
          have P2 := hide (below_put (hBd.trans (hb5.mono hBs)) (Nat.le_refl w2.heap.size) (.int .i64 100) (.int .i64 20) (.int .i64 H5))
          clear n1 n2 hL5 tk5
          go_wp2
          go_roundw
          case rel => exact ⟨j + 1, H5, _, by omega, by go_num, rfl, unhide P1, N2, N1, unhide P2⟩
          case measure => simp [intOf]; omega)
      · obtain rfl : j = K := by omega
        have HEQ : Hid (str o' = str o) := hide (by
          obtain ⟨H2, h2⟩ := unhide HO
          have h1 := unhide HSE
          rw [unhide HTL] at h1
          rw [(h1.one h2).1])
        rw [unhide HEQ]
        obtain ⟨XO, hXO⟩ : ∃ X, str o = X := ⟨_, rfl⟩
        rw [hXO]
        have sO : (XO.toList == XO.toList) = true := by simp
        clear HEQ hXO HSE HO
        go_wp2
        go_ret
        exact ⟨rfl, Below.chain hB2 hB⟩

end Go.Proofs.YtkkhgdkgbhdfaakGreatDoor.Ses
