/-
  Texts as lists of bytes: a byte, a piece, the rest, and whether one is another.
-/
import Derived.Test.YthkibjhhlcfceaiGreatDoorPk05
import Derived.Laws.DeepStrings4
import Derived.Test.YthkibjhhlcfceaiGreatDoorPk12
import Derived.Test.YthkibjhhlcfceaiGreatDoorPk16
import Derived.Test.YthkibjhhlcfceaiGreatDoorPk31
import Derived.Test.YthkibjhhlcfceaiGreatDoorPk30
import Derived.Deep.RegionWith
namespace Go.Proofs.YthkibjhhlcfceaiGreatDoor.Txt
open Go.RowKit
open Go.Proofs.YthkibjhhlcfceaiGreatDoor.Tre Go.Proofs.YthkibjhhlcfceaiGreatDoor.Scl Go.Proofs.YthkibjhhlcfceaiGreatDoor.Hrn
set_option linter.unusedVariables false

theorem str_sub (l : List Int) (i j : Nat) : (str l).extract i j = str ((l.take j).drop i) := by
  apply ByteArray.ext
  rw [ByteArray.data_extract]
  show (u8s l).toArray.extract i j = (u8s ((l.take j).drop i)).toArray
  simp [u8s, List.take_drop]
  by_cases h : i ≤ j
  · rw [show i + (j - i) = j by omega]
  · rw [List.drop_eq_nil_of_le (by simp; omega), List.drop_eq_nil_of_le (by simp; omega)]
set_option maxRecDepth 100000 in
theorem run_sub {l : List Int} {i j : Nat} (hi : i ≤ j) (hj : j ≤ l.length) (w : World) : (Instr.slice 9 (.string (str l)) (some (.int .i64 i)) (some (.int .i64 j)) none).run Tryz.prog w = .ok (.string (str ((l.take j).drop i))) w := by
  rw [run_slice_string_if w 9 (str l) .i64 .i64 i j Tryz.underlying9, if_pos ⟨by omega, by rw [str_size]; omega⟩, if_pos ⟨by omega, by omega⟩]
  rw [show ((i : Int)).toNat = i by omega, show ((j : Int)).toNat = j by omega, str_sub]
theorem str_from (l : List Int) (k : Nat) : (str l).extract k (str l).size = str (l.drop k) := by
  rw [str_sub, str_size, List.take_length]
set_option maxRecDepth 100000 in
theorem run_from {l : List Int} {k : Nat} (h : k ≤ l.length) (w : World) : (Instr.slice 9 (.string (str l)) (some (.int .i64 k)) none none).run Tryz.prog w = .ok (.string (str (l.drop k))) w := by
  rw [run_slice_string_from_if w 9 (str l) .i64 k Tryz.underlying9, if_pos ⟨by omega, by rw [str_size]; omega⟩]
  rw [show ((k : Int)).toNat = k by omega, str_from]
set_option maxRecDepth 100000 in
theorem run_ch {l : List Int} (hb : Byts l) {i : Nat} (h : i < l.length) (w : World) : (Instr.index 9 (.string (str l)) (.int .i64 i)).run Tryz.prog w = .ok (.int .u8 (at0 l i)) w := by
  have hs : i < (str l).size := by rw [str_size]; exact h
  rw [run_index_string w 9 (str l) .i64 i Tryz.underlying9, dif_pos ⟨by omega, by omega⟩]
  have e : ((i : Int)).toNat = i := by omega
  have e2 := byt_at (str l) hs
  rw [byt_str hb] at e2
  rw [← e2]
  simp only [e]
theorem u8s_inj {l m : List Int} (hl : Byts l) (hm : Byts m) (h : u8s l = u8s m) : l = m := str_inj hl hm (by unfold str; rw [h])
/-- Is a text this one? -/
theorem str_is {l m : List Int} (hl : Byts l) (hm : Byts m) : ((str l).toList == (str m).toList) = decide (l = m) := by
  rw [str_toList, str_toList]
  by_cases h : l = m
  · rw [h]; simp
  · rw [decide_eq_false h, beq_eq_false_iff_ne]
    exact fun e => h (u8s_inj hl hm e)
theorem byts_take {l : List Int} (h : Byts l) (i : Nat) : Byts (l.take i) := fun b hb => h b (List.mem_of_mem_take hb)
theorem byts_rest {l : List Int} (h : Byts l) (i : Nat) : Byts (l.drop i) := fun b hb => h b (List.mem_of_mem_drop hb)
theorem byts_at {l : List Int} (h : Byts l) (i : Nat) : 0 ≤ at0 l i ∧ at0 l i ≤ 255 := by
  unfold at0
  by_cases hi : i < l.length
  · rw [List.getElem?_eq_getElem hi]
    have := h l[i] (List.getElem_mem hi)
    simp
    omega
  · rw [List.getElem?_eq_none (by omega)]
    simp

end Go.Proofs.YthkibjhhlcfceaiGreatDoor.Txt

/-
  make of parts: of this call's own, without a gain and without pulses; a gain is set.
-/
namespace Go.Proofs.YthkibjhhlcfceaiGreatDoor.Frm
open Go.RowKit
open Go.Proofs.YthkibjhhlcfceaiGreatDoor.Tre
set_option linter.unusedVariables false

/-- The first k gains are set, of n parts. -/
def qz (gs : List Int) (n k : Nat) : List (Int × Value) := (List.range n).map fun i => (if i < k then at0 gs i else 0, .slice none 0 0)
theorem qz_length (gs : List Int) (n k : Nat) : (qz gs n k).length = n := by simp [qz]
theorem qz_at {gs : List Int} {n k i : Nat} (h : i < n) : (qz gs n k)[i]? = some (if i < k then at0 gs i else 0, .slice none 0 0) := by
  simp [qz, h]
theorem qz_zero (gs : List Int) (n : Nat) : qz gs n 0 = List.replicate n (0, .slice none 0 0) := by
  apply List.ext_getElem?
  intro i
  by_cases h : i < n
  · rw [qz_at h, List.getElem?_replicate, if_pos h, if_neg (by omega)]
  · rw [List.getElem?_eq_none (by rw [qz_length]; omega), List.getElem?_replicate, if_neg h]
theorem qz_all (gs : List Int) : qz gs gs.length gs.length = q0 gs gs.length := by
  apply List.ext_getElem?
  intro i
  by_cases h : i < gs.length
  · rw [qz_at h, q0_at h (Nat.le_refl _), if_pos h]
  · rw [List.getElem?_eq_none (by rw [qz_length]; omega), List.getElem?_eq_none (by rw [q0_length (Nat.le_refl _)]; omega)]
theorem qz_set {gs : List Int} {n k : Nat} (h : k < n) {G : Int} (hG : at0 gs k = G) : (qz gs n k).set k (G, .slice none 0 0) = qz gs n (k + 1) := by
  apply List.ext_getElem?
  intro i
  by_cases hi : i < n
  · by_cases e : i = k
    · subst e
      rw [List.getElem?_set_self (by rw [qz_length]; exact h), qz_at h, if_pos (by omega), hG]
    · rw [List.getElem?_set_ne (by omega), qz_at hi, qz_at hi]
      by_cases e2 : i < k
      · rw [if_pos e2, if_pos (by omega)]
      · rw [if_neg e2, if_neg (by omega)]
  · rw [List.getElem?_eq_none (by rw [List.length_set, qz_length]; omega), List.getElem?_eq_none (by rw [qz_length]; omega)]
theorem pcs_set0 {qs : List (Int × Value)} {j : Nat} {q : Int × Value} (h : qs[j]? = some q) (G : Int) : (pcs qs).set (j * 2) (.int .i64 G) = pcs (qs.set j (G, q.2)) := by
  induction qs generalizing j with
  | nil => simp at h
  | cons r qs ih =>
    have e : ∀ x rs, pcs (x :: rs) = .int .i64 x.1 :: x.2 :: pcs rs := fun _ _ => rfl
    cases j with
    | zero =>
      obtain rfl : r = q := by simpa using h
      rfl
    | succ j =>
      have := ih (j := j) (by simpa using h)
      rw [List.set_cons_succ, e, e, ← this, show (j + 1) * 2 = j * 2 + 2 by omega]
      rfl
theorem HasP.put0 {w : World} {base g n c : Nat} {qs : List (Int × Value)} (h : HasP w base (.slice (some ⟨g, 0, none⟩) n c) qs) (hn : n = qs.length) {j : Nat} {q : Int × Value} (hj : qs[j]? = some q) (G : Int) :
    HasP (w.setCell ⟨g, j * 2, none⟩ (.int .i64 G)) base (.slice (some ⟨g, 0, none⟩) n c) (qs.set j (G, q.2)) ∧ w.grownBy (w.setCell ⟨g, j * 2, none⟩ (.int .i64 G)) (some g) := by
  subst hn
  have := World.ownsRow.stored h (j * 2) (.int .i64 G)
  refine ⟨?_, this.2⟩
  unfold HasP
  rw [List.length_set, ← pcs_set0 hj]
  exact this.1
theorem made_parts (n : Nat) : (madeCells #[Value.int .i64 0, .slice none 0 0] (n * 2)).toList = pcs (List.replicate n (0, .slice none 0 0)) := by
  apply List.ext_getElem?
  intro j
  by_cases hj : j < n * 2
  · have hr : (List.replicate n ((0 : Int), Value.slice none 0 0))[j / 2]? = some (0, .slice none 0 0) := by rw [List.getElem?_replicate, if_pos (by omega)]
    obtain ⟨e0, e1⟩ := pcs_at hr
    rcases Nat.mod_two_eq_zero_or_one j with h | h
    · rw [show j / 2 * 2 = j by omega] at e0
      rw [e0]
      simp [madeCells, hj, h]
    · rw [show j / 2 * 2 + 1 = j by omega] at e1
      rw [e1]
      simp [madeCells, hj, h]
  · rw [List.getElem?_eq_none (by simp [madeCells]; omega), List.getElem?_eq_none (by rw [pcs_length, List.length_replicate]; omega)]

theorem wpList_mkp {ops : Array Oper} {rest : List Oper} {o : Oper} {a : Act} {Q : Exit → Act → World → Prop} (w : World) (hgd : o.guard = none) (s : Operand)
    (ho : o.op = .makeSlice 23 s s) (n : Nat) (hs : a.eval s = .int .i64 n) (hn : n ≤ 1000000)
    (h : ∀ w', HasP w' w.heap.size (.slice (some ⟨w.heap.size, 0, none⟩) n n) (List.replicate n (0, .slice none 0 0)) → Below w.heap.size w w' → w.heap.size < w'.heap.size → wpList Tryz.prog ops Q rest (a.put o.dst (.slice (some ⟨w.heap.size, 0, none⟩) n n)) w') :
    wpList Tryz.prog ops Q (o :: rest) a w := by
  obtain ⟨i0, hi, hz0, hz1, hz2⟩ := info_parts info_part
  refine wpList_make_full w hgd s s 23 ho w.heap.size 58 i0 (.agg #[.int .i64 0, .slice none 0 0]) 2 Tryz.underlying23 hi hz0 hz1 _ _ _ _ n hs hs rfl rfl (by rw [hz2]; omega) (by unfold maxLen; omega) (Nat.le_refl _) ?_
  intro w2 hown hgrow
  refine h w2 ?_ ((Below.refl _ _).grown hgrow (Nat.le_refl _) (by intro k hk; cases hk)) ?_
  · unfold HasP
    rw [List.length_replicate, ← made_parts]
    exact hown
  · exact (World.ownsRow.lt hown w.heap.size rfl).2

end Go.Proofs.YthkibjhhlcfceaiGreatDoor.Frm

/-
  pack.readGains: by its contract.
-/
namespace Go.Proofs.YthkibjhhlcfceaiGreatDoor.Pck
open Go.RowKit
open Go.Proofs.YthkibjhhlcfceaiGreatDoor.Tre Go.Proofs.YthkibjhhlcfceaiGreatDoor.Frm Go.Proofs.YthkibjhhlcfceaiGreatDoor.Wid Go.Proofs.YthkibjhhlcfceaiGreatDoor.Hrn
set_option linter.unusedVariables false

set_option maxRecDepth 100000 in
theorem run_begin (x : ByteArray) {k : Nat} (h : k ≤ x.size) (w : World) : (Instr.slice 9 (.string x) none (some (.int .i64 k)) none).run Tryz.prog w = .ok (.string (str ((byt x).take k))) w := by
  rw [run_slice_string_h (P := Tryz.prog) w 9 x Tryz.underlying9 .i64 k (by omega) (by omega)]
  have e := Txt.str_sub (byt x) 0 k
  rw [str_byt, List.drop_zero] at e
  rw [show ((k : Int)).toNat = k by omega, e]

theorem parts_mono {w : World} {base base' : Nat} {v : Value} {qs : List (Int × Value)} (h : HasP w base v qs) (hb : base' ≤ base) : HasP w base' v qs := by
  refine ⟨h.1, ?_⟩
  rcases h.2 with hn | ⟨g, cap, cur, rfl, hbg, rest⟩
  · exact .inl hn
  · exact .inr ⟨g, cap, cur, rfl, Nat.le_trans hb hbg, rest⟩
/-- What readGains tells. -/
def GrSays (x : ByteArray) (n : Nat) (w : World) (e : Ending) (w' : World) : Prop :=
  ((x.size < (6 * n + 7) / 8 ∧ e = .returned (.tuple #[.slice none 0 0, .iface 63 (.int .i64 2)])) ∨ ((6 * n + 7) / 8 ≤ x.size ∧ ∃ v, e = .returned (.tuple #[v, .nilIface]) ∧ HasP w' w.heap.size v (q0 (rgs (opn (byt x)) n) n))) ∧ Below w.heap.size w w'

set_option maxRecDepth 100000 in
set_option maxHeartbeats 8000000 in
theorem readGains (x : ByteArray) (n : Nat) (w : World) (zx : x.size ≤ 9223372036854775807) (h1 : 1 ≤ n) (h8 : n ≤ 8) :
    Calls Tryz.prog 93 #[.string x, .int .i64 n] w fun e w' => GrSays x n w e w' := by
  obtain ⟨SZ, hSZ⟩ : ∃ SZ, x.size = SZ := ⟨_, rfl⟩
  have hlen : ∀ W, (Builtin.len_ #[9] 3 #[.string x]).run Tryz.prog W = .ok (.int .i64 (SZ : Int)) W := fun W => by rw [run_len_string W 9 3 x Tryz.underlying9, hSZ]; rfl
  obtain ⟨M, hM⟩ : ∃ M, 6 * n = M := ⟨_, rfl⟩
  have wM : IntKind.i64.wrap (6 * (n : Int)) = (M : Int) := by rw [IntWalk.i64_in _ (by omega)]; omega
  have CBF := hide (fun W => bytesFor M W (by omega))
  obtain ⟨K, hK⟩ : ∃ K, (M + 7) / 8 = K := ⟨_, rfl⟩
  rw [hK] at CBF
  have HNO : Hid (SZ < K → ∀ w', Below w.heap.size w w' → GrSays x n w (.returned (.tuple #[.slice none 0 0, .iface 63 (.int .i64 2)])) w') := hide (fun h w' hb => ⟨Or.inl ⟨by rw [hM, hK, hSZ]; exact h, rfl⟩, hb⟩)
  have HOK : Hid (K ≤ SZ → ∀ v w', HasP w' w.heap.size v (qz (rgs (opn (byt x)) n) n n) → Below w.heap.size w w' → GrSays x n w (.returned (.tuple #[v, .nilIface])) w') := hide (fun h v w' hv hb => ⟨Or.inr ⟨by rw [hM, hK, hSZ]; exact h, v, rfl, by
    have e : (rgs (opn (byt x)) n).length = n := by unfold rgs; exact upto_length _ _
    have e2 := qz_all (rgs (opn (byt x)) n)
    rw [e] at e2
    rw [← e2]; exact hv⟩, hb⟩)
  by_cases hlt : SZ < K
  · have dl : decide ((SZ : Int) < (K : Int)) = true := by simp; omega
    have HP := hide (unhide HNO hlt w (Below.refl _ _))
    clear HNO HOK hM hK hSZ
    go_enter Tryz.func93, Tryz.ntmps93
    go_wp2_with fail
    refine (unhide CBF _).mono ?_
    rintro e w1 ⟨rfl, hw1⟩
    obtain rfl : w = w1 := hw1.symm
    go_wp2
    go_ret2
    exact unhide HP
  · have dl : decide ((SZ : Int) < (K : Int)) = false := by simp; omega
    have HOK2 := hide (unhide HOK (by omega))
    have hKS : K ≤ x.size := by omega
    have hK6 : K ≤ 6 := by omega
    have hKB : K ≤ (byt x).length := by rw [byt_length]; exact hKS
    obtain ⟨o1, o2⟩ := opn_whole (byt x) hKB hK6
    have HBY : Hid (byt (str ((byt x).take K)) = (byt x).take K) := hide (byt_str (Txt.byts_take (byt_byts x) K))
    have hcut : ∀ W, (Instr.slice 9 (.string x) none (some (.int .i64 (K : Int))) none).run Tryz.prog W = .ok (.string (str ((byt x).take K))) W := fun W => run_begin x hKS W
    obtain ⟨K8, hK8⟩ : ∃ K8, 8 * K = K8 := ⟨_, rfl⟩
    have wK8 : IntKind.i64.wrap (8 * (K : Int)) = (K8 : Int) := by rw [IntWalk.i64_in _ (by omega)]; omega
    have CBI := hide (fun W => bits_ok (str ((byt x).take K)) K8 W (by rw [str_size, List.length_take]; omega) (hide (by rw [unhide HBY, ← hK8]; exact o1)))
    rw [unhide HBY, ← hK8, o2, hK8] at CBI
    have HAL : Hid ((opn (byt x)).length = 8 * SZ) := hide (by rw [opn_length, byt_length, hSZ])
    have HBA : Hid (Bit (opn (byt x))) := hide (opn_bit (byt_byts x))
    obtain ⟨A, hA⟩ : ∃ A, opn (byt x) = A := ⟨_, rfl⟩
    rw [hA] at CBI HAL HBA HOK2
    have hMK : M ≤ K8 := by omega
    have HTT : Hid ((A.take K8).take M = A.take M) := hide (by rw [List.take_take, Nat.min_eq_left hMK])
    have HTL : Hid (M ≤ (A.take K8).length) := hide (by rw [List.length_take, unhide HAL]; omega)
    have hg6 := gets_six (A := A) (n := n) (unhide HBA) h8 (by rw [unhide HAL]; omega)
    rw [hM] at hg6
    have HTM : Hid ((A.take M).length = M) := hide (by rw [List.length_take, unhide HAL]; omega)
    have CGE := hide (fun W a cap b capb h h' hm hm9 => get_ok a cap (A.take M) b capb (List.replicate n 6) W h h' hm hm9 (by rw [List.length_replicate]; omega) (hide hg6.1))
    rw [hg6.2, unhide HTM, List.length_replicate] at CGE
    have CGW := hide (fun W => gainWidths n W h1 h8)
    obtain ⟨st, hst⟩ : ∃ st, str ((byt x).take K) = st := ⟨_, rfl⟩
    rw [hst] at CBI hcut
    have HGL : Hid ((rgs A n).length = n) := hide (by unfold rgs; exact upto_length _ _)
    have HZ := hide (qz_zero (rgs A n) n)
    obtain ⟨gs, hgs⟩ : ∃ gs, rgs A n = gs := ⟨_, rfl⟩
    rw [hgs] at CGE HGL HZ HOK2
    clear hgs hst hg6 hA o1 o2 HNO HOK HBA HAL hKB hKS HBY hM hK hK8 hSZ hMK
    go_enter Tryz.func93, Tryz.ntmps93
    go_wp2_with fail
    refine (unhide CBF _).mono ?_
    rintro e w1 ⟨rfl, hw1⟩
    obtain rfl : w = w1 := hw1.symm
    clear CBF
    go_wp2_with fail
    refine (unhide CBI _).mono ?_
    rintro e w2 ⟨v2, rfl, k2, hb2⟩
    clear CBI hcut
    obtain ⟨v3, hf3, k3⟩ := k2.first (unhide HTL)
    rw [unhide HTT] at k3
    obtain ⟨p2, n2, q2, rfl⟩ := k2.shape
    obtain ⟨p3, q3, rfl, r3, m3, m39⟩ := Ev.has_room k3
    rw [unhide HTM] at hf3 m3
    have hdr : Below w2.heap.size w2 w2.drew := ⟨rfl, rfl, rfl, Nat.le_refl _, fun _ _ => rfl⟩
    have HDB := hide (Below.chain hb2 hdr)
    have r3d : Row w2.drew p3 (A.take M) := r3
    clear k2 k3 HTT HTL hdr
    go_wp2
    go_region_with (first
      | (go_at_call 54; refine (unhide CGW _).mono ?_; rintro e w4 ⟨v4, rfl, k4, hb4⟩; obtain ⟨p4, q4, rfl, r4⟩ := k4.row; rw [List.length_replicate]; have r3e := r3d.below hb4)
      | (go_at_call 124; refine (unhide CGE _ _ _ _ _ r3e r4 m3 m39).mono ?_; rintro e w5 ⟨v5, rfl, k5, hb5⟩; obtain ⟨p5, q5, rfl, r5⟩ := k5.row; rw [unhide HGL]))
    all_goals (
      have hB5 := Below.chain (Below.chain (unhide HDB) hb4) hb5
      clear hb4 hb5 r3d r3e r4 k4 k5 HDB hb2 r3 hf3 m3 m39
      go_wp2_with (at_make; refine wpList_mkp _ rfl _ rfl n rfl (by omega) ?_; intro w6 k6 hb6 hlt6)
      rw [← unhide HZ] at k6
      clear HZ
      go_loopw [50] (fun i wr => ∃ k : Nat, k ≤ n ∧ i = .int .i64 k ∧ HasP wr w5.heap.size (.slice (some ⟨w5.heap.size, 0, none⟩) n n) (qz gs n k) ∧ Below w5.heap.size w5 wr) (fun i _ => n - (intOf i).toNat)
      case atStart => exact ⟨0, Nat.zero_le _, rfl, k6, hb6⟩
      case round =>
        obtain ⟨k, hk, rfl, hv, hB⟩ := hrel
        clear k6 hb6 hlt6
        by_cases hlt : k < n
        · obtain ⟨b1, off1, rfl, hb1, hc1⟩ := Bnd.cell_at (r5.below hB) (by rw [unhide HGL]; omega)
          have c1 := hc1 k (by rw [unhide HGL]; exact hlt)
          obtain ⟨G, hG⟩ : ∃ G, at0 gs k = G := ⟨_, rfl⟩
          rw [hG] at c1
          obtain ⟨c0, -⟩ := hv.get (qz_length _ _ _).symm (qz_at (gs := gs) (k := k) hlt)
          rw [if_neg (Nat.lt_irrefl _)] at c0
          have f0 := hv.frozen (qz_length _ _ _).symm (k * 2)
          obtain ⟨m1, m2⟩ := hv.put0 (qz_length _ _ _).symm (qz_at (gs := gs) (k := k) hlt) G
          rw [qz_set hlt hG] at m1
          have m3 : Below w5.heap.size w5 (wr.setCell ⟨w5.heap.size, k * 2, none⟩ (.int .i64 G)) := Below.setCell (p := ⟨w5.heap.size, k * 2, none⟩) hB (Nat.le_refl _) _
          have M1 := hide m1
          have M3 := hide m3
          clear hG m1 m2 m3 hv hB hc1
          go_wp2
          go_roundw
          case rel => exact ⟨k + 1, by omega, by go_num, unhide M1, unhide M3⟩
          case measure => simp [intOf]; omega
        · obtain rfl : n = k := by omega
          have HP := hide (unhide HOK2 _ wr (parts_mono hv hB5.size) (Below.chain hB5 hB))
          clear HOK2
          go_wp2
          go_ret2
          exact unhide HP)

end Go.Proofs.YthkibjhhlcfceaiGreatDoor.Pck
