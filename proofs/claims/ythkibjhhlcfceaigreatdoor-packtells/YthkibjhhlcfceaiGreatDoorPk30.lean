/-
  width.Octets: by its contract.
-/
import Derived.Test.YthkibjhhlcfceaiGreatDoorPk28
import Derived.Test.YthkibjhhlcfceaiGreatDoorPk06
import Derived.Test.YthkibjhhlcfceaiGreatDoorPk29
import Derived.Test.YthkibjhhlcfceaiGreatDoorPk16
import Derived.Test.YthkibjhhlcfceaiGreatDoorPk17
import Derived.Test.YthkibjhhlcfceaiGreatDoorPk26
import Derived.Test.YthkibjhhlcfceaiGreatDoorPk27
import Derived.Test.YthkibjhhlcfceaiGreatDoorPk04
namespace Go.Proofs.YthkibjhhlcfceaiGreatDoor.Wid
open Go.RowKit Go.Shelf
open Go.Proofs.YthkibjhhlcfceaiGreatDoor.Tre Go.Proofs.YthkibjhhlcfceaiGreatDoor.Scl Go.Proofs.YthkibjhhlcfceaiGreatDoor.Bnd Go.Proofs.YthkibjhhlcfceaiGreatDoor.Itr Go.Proofs.YthkibjhhlcfceaiGreatDoor.Hrn
set_option linter.unusedVariables false
attribute [local go_sem] Oper.semAt_some

theorem octets_no (a : Option Addr) (cap : Nat) (bs : List Int) (E : Int) (w : World) (hr : Row w a bs) (zl : bs.length ≤ 17592186044416) (hE : Hid (bsF bs = E)) (hne : Hid (E ≠ 0)) :
    Calls Tryz.prog 55 #[.slice a bs.length cap] w fun e w' => e = .returned (.tuple #[.string { data := #[] }, .iface 63 (.int .i64 E)]) ∧ Below w.heap.size w w' := by
  have hck := check_no a cap bs E w hr (by omega) hE hne
  obtain ⟨M, hM⟩ : ∃ M, bs.length = M := ⟨_, rfl⟩
  rw [hM] at hck ⊢
  clear hM hE hne zl
  go_enter Tryz.func55, Tryz.ntmps55
  go_wp2_with fail
  refine hck.mono ?_
  clear hck
  rintro e w1 ⟨rfl, hw1⟩
  obtain rfl : w = w1 := hw1.symm
  clear hw1
  go_wp2
  go_ret2
  exact ⟨rfl, Below.refl _ _⟩

/-- The boxes of Octets: the bytes, the bits. -/
def OctB (n₀ : Nat) (lv v : Value) (O : List Int) (W : World) : Prop :=
  Boxed W n₀ 101 v ∧ Boxed W (n₀ + 1) 22 lv ∧ HasY W n₀ v O
theorem OctB.keeps {n₀ : Nat} {lv v : Value} {O : List Int} {W W' : World} {row : Option Nat} (h : OctB n₀ lv v O W) (hg : W.grownBy W' row) (hrow : ∀ r, row = some r → ∃ o : Obj, W.heap[r]? = some o ∧ o.isCells = false) : OctB n₀ lv v O W' := by
  obtain ⟨b1, b2, h1⟩ := h
  exact ⟨boxed_keeps b1 hg hrow, boxed_keeps b2 hg hrow, row_keeps h1 hg hrow⟩
/-- A byte more. -/
theorem OctB.byte {n₀ : Nat} {lv v v' : Value} {c : Int} {O : List Int} {W w1 : World} {tmp : Obj} (h : OctB n₀ lv v O W) (hn : n₀ ≤ W.heap.size) (h' : HasY w1 n₀ v' (O ++ [c])) (hg : (W.alloc tmp).grownBy w1 v.ownBlock) :
    Boxed w1 n₀ 101 v ∧ OctB n₀ lv v' (O ++ [c]) (w1.setCell ⟨n₀, 0, none⟩ v') ∧ KeepsOthers W (w1.setCell ⟨n₀, 0, none⟩ v') ∧ Below n₀ W (w1.setCell ⟨n₀, 0, none⟩ v') := by
  obtain ⟨b1, b2, h1⟩ := h
  obtain ⟨d1, d2, d3, d4, d5⟩ := b1.appended (by decide) h1 hn (Nat.le_refl _) h' hg
  exact ⟨d1, ⟨d2, ((b2.alloc tmp).kept hg (b2.not_row (by decide) h1)).other (by omega) v', d3⟩, d4, d5⟩
/-- Between two rounds of Octets. -/
def OctI (w : World) (bs : List Int) (lv : Value) (pre : List Nat) (W : World) : Prop :=
  (∃ v, OctB w.heap.size lv v (pre.map fun i => num 0 (eight bs i)) W) ∧ Below w.heap.size w W
theorem octI_own (w : World) (bs : List Int) (lv : Value) (D : Nat) (hD : w.heap.size ≤ D) : OwnFrom D (OctI w bs lv) := by
  rintro s X Y row ⟨⟨v, h1⟩, hB⟩ hg hrow
  exact ⟨⟨v, h1.keeps hg (fun r e => (hrow r e).2)⟩, hB.grown hg hB.size (fun k e => by have := (hrow k e).1; omega)⟩

set_option maxRecDepth 100000 in
set_option maxHeartbeats 8000000 in
theorem octets_ok (a : Option Addr) (cap : Nat) (bs : List Int) (w : World) (hr : Row w a bs) (hm : bs.length ≤ cap) (hE : Hid (bsF bs = 0)) :
    Calls Tryz.prog 55 #[.slice a bs.length cap] w fun e w' => e = .returned (.tuple #[.string (str (oct bs)), .nilIface]) ∧ Below w.heap.size w w' := by
  obtain ⟨h400, hbit⟩ := bsF_zero.1 (unhide hE)
  have hck := check_ok a cap bs w hr hE
  have HBI := hide hbit
  have HBY : Hid (Byts (oct bs)) := hide (oct_in hbit)
  have HOC : Hid ((List.range ((bs.length + 7) / 8)).map (fun i => num 0 (eight bs i)) = oct bs) := hide rfl
  obtain ⟨K, hK0⟩ : ∃ K, K = (bs.length + 7) / 8 := ⟨_, rfl⟩
  have HK := hide hK0
  have hK9 : K ≤ 51 := by omega
  rw [← hK0] at HOC
  clear hE hbit hK0
  refine (callsIn_wide (n := 5)).1 ?_
  refine callsIn_of_wp_marks Tryz.func55 rfl trivial ?_ rfl
  simp only [Tryz.ntmps55, List.size_toArray, List.length_cons, List.length_nil, Nat.reduceAdd, Nat.reduceSub, Array.replicate_succ, Array.replicate_zero, List.push_toArray, List.append_toArray, List.nil_append, List.cons_append]
  gi_wp2_with (first
    | (refine ⟨trivial, ?_⟩; gi_at_call 91; refine (callsIn_wide.2 hck).mono ?_; rintro e w1 ⟨rfl, hw1⟩; obtain rfl : w = w1 := hw1.symm; clear hw1)
    | (refine ⟨trivial, ?_⟩; gi_at_call 92; refine (eights_in _ _ _ _ _).mono ?_; rintro e w' ⟨rfl, rfl⟩))
  have b1 := (Boxed.new w 101 (.slice none 0 0)).alloc (.cells #[.slice a bs.length cap] 22)
  have b2 := Boxed.new (w.alloc (.cells #[.slice none 0 0] 101)) 22 (.slice a bs.length cap)
  have hB0 : Below w.heap.size w ((w.alloc (.cells #[.slice none 0 0] 101)).alloc (.cells #[.slice a bs.length cap] 22)) := ((Below.refl _ w).alloc (Nat.le_refl _) _).alloc (by simp) _
  have hn5 : w.heap.size + 1 < ((w.alloc (.cells #[.slice none 0 0] 101)).alloc (.cells #[.slice a bs.length cap] 22)).heap.size := by simp
  simp only [World.size_alloc] at b2
  obtain ⟨W0, hW0⟩ : ∃ W0, ((w.alloc (.cells #[.slice none 0 0] 101)).alloc (.cells #[.slice a bs.length cap] 22)) = W0 := ⟨_, rfl⟩
  rw [hW0] at b1 b2 hB0 hn5 ⊢
  clear hW0 hck
  have hsz := hB0.size
  refine wpIn_rangeFunc_ownG rfl (by omega) (gf := 121) (lb := #[.pointer (some ⟨w.heap.size + 1, 0, none⟩)]) rfl trivial (enters_of Tryz.func121 (by kernel_rfl) rfl)
    (eights_stops _ (by omega) (w.heap.size + 1) w.heap.size a cap bs h400 hm HBI K HK W0 hn5 hsz b2.cell ((rowB_of hr).below hB0)) Kp.trans (kp_b hsz hn5) (Below.refl _ _) (fun _ => rfl)
    (OctI w bs (.slice a bs.length cap)) (fun _ _ _ => False) (octI_own w bs _ _ hsz) (fun _ _ _ _ _ hs _ _ => hs)
    ⟨⟨_, ⟨b1, b2, HasY.nil _ _⟩⟩, hB0⟩
    (fun x => { tmps := #[.slice a bs.length cap, undef, .string { data := #[] }, .nilIface, .nilIface, .pointer (some ⟨w.heap.size, 0, none⟩), .int .i64 (num 0 (eight bs x)), .slice a bs.length cap, .nilIface, .nilIface, .bool false, undef, .slice a bs.length cap,
      .func (.func 121) #[] #[.pointer (some ⟨w.heap.size + 1, 0, none⟩)], .int .i64 (num 0 (eight bs x)), undef, undef, undef, undef, undef, undef, undef], defers := [] }) ?assign ?body ?done ?stop
  case assign =>
    intro L x W K hK
    gi_wp2
    exact hK
  case body =>
    rintro L pre x W ⟨⟨v, hEB⟩, hB⟩ hlt
    have h8 := num_in (eight_bit (unhide HBI) x)
    rw [eight_length] at h8
    obtain ⟨c0, c9⟩ := h8
    have HMP : Hid ((pre ++ [x]).map (fun i => num 0 (eight bs i)) = pre.map (fun i => num 0 (eight bs i)) ++ [num 0 (eight bs x)]) := hide (by rw [List.map_append]; rfl)
    obtain ⟨C, hC⟩ : ∃ C, num 0 (eight bs x) = C := ⟨_, rfl⟩
    rw [hC] at c0 c9 HMP ⊢
    have c9' : C ≤ 255 := by omega
    have u3 : C % 256 = C := by omega
    have hyl : (pre.map (fun i => num 0 (eight bs i))).length + 1 ≤ 1000000 := by rw [List.length_map]; omega
    have HYL := hide hyl
    obtain ⟨O, hO⟩ : ∃ O, pre.map (fun i => num 0 (eight bs i)) = O := ⟨_, rfl⟩
    rw [hO] at hEB HYL HMP
    have hcb := hEB.1.cell
    have hWs := hB.size
    have h2 := hEB.2.1
    obtain ⟨lv, hlv⟩ : ∃ lv, Value.slice a bs.length cap = lv := ⟨_, rfl⟩
    have HLV := hide hlv
    rw [hlv] at hEB h2
    clear hC hO hyl c9 hlt b1 b2 hB0 hn5 hsz hlv
    gi_wp2_with (
      gi_at_builtin
      refine wpListIn_appy _ rfl _ _ rfl w.heap.size v O C _ _ rfl (hEB.2.2.alloc _) rfl (cell_byte _ _ _) (unhide HYL) (by simp; omega) ?_
      intro u1 w6 k6 g6 at6
      obtain ⟨d1, d2, d3, d4⟩ := OctB.byte hEB hWs k6 g6
      obtain ⟨pa, na, ca, rfl⟩ := k6.any
      have f1 := d1.cell
      have f2 := d1.frozen)
    exact ⟨d3.from _, ⟨d4, d2.2.1.trans h2.symm⟩, ⟨⟨_, by rw [unhide HLV, unhide HMP]; exact d2⟩, hB.trans d4⟩⟩
  case done =>
    rintro D ys W hD rfl ⟨⟨v, hEB⟩, hB⟩ hK
    rw [unhide HOC] at hEB
    obtain ⟨cd, hcd⟩ : ∃ cd, oct bs = cd := ⟨_, rfl⟩
    have HCD := hide hcd
    rw [hcd] at hEB HBY
    have hcb := hEB.1.cell
    have hcv := run_str_y hEB.2.2 (unhide HBY)
    obtain ⟨pa, na, ca, rfl⟩ := hEB.2.2.any
    clear b1 b2 hn5 hcd
    gi_wp2
    refine ⟨by simp, .inl ⟨_, _, rfl, run_takeDeferred hK, ?_⟩⟩
    refine ⟨.tuple #[.string (str cd), .nilIface], ?_, by rw [unhide HCD], hB.trans (belowK_b (w := w) (Nat.le_refl _) _ D _ _ (by omega) hK rfl rfl)⟩
    simp [results, Tryz.f55, go_sem]
  case stop =>
    rintro D c pre W _ _ h _
    exact h.elim

end Go.Proofs.YthkibjhhlcfceaiGreatDoor.Wid

/-
  pack.Pack: by its contract.
-/
namespace Go.Proofs.YthkibjhhlcfceaiGreatDoor.Pck
open Go.RowKit
open Go.Proofs.YthkibjhhlcfceaiGreatDoor.Tre Go.Proofs.YthkibjhhlcfceaiGreatDoor.Bnd Go.Proofs.YthkibjhhlcfceaiGreatDoor.Ev Go.Proofs.YthkibjhhlcfceaiGreatDoor.Frm Go.Proofs.YthkibjhhlcfceaiGreatDoor.Hrn
set_option linter.unusedVariables false

/-- Two slices of this call's own, in a slice. -/
theorem rws_two {w : World} {b1 b2 : Nat} {v1 v2 : Value} {l1 l2 : List Int} (h1 : Has w b1 v1 l1) (h2 : Has w b2 v2 l2) (t : TypeId) : Rws (w.alloc (.cells #[v1, v2] t)) (some ⟨w.heap.size, 0, none⟩) [l1, l2] := by
  have hb : Below w.heap.size w (w.alloc (.cells #[v1, v2] t)) := (Below.refl _ _).alloc (Nat.le_refl _) _
  obtain ⟨A1, C1, e1, x1, x2, x3, x4⟩ := h1.sli.below hb
  obtain ⟨A2, C2, e2, y1, y2, y3, y4⟩ := h2.sli.below hb
  refine Or.inr ⟨w.heap.size, 0, rfl, by simp, fun r hr => ?_⟩
  have hr' : r = 0 ∨ r = 1 := by simp at hr; omega
  rcases hr' with rfl | rfl
  · refine ⟨A1, C1, ?_, x1, x2, x3, x4⟩
    rw [World.cell?_alloc_at _ _ _ _ rfl]
    exact congrArg some e1
  · refine ⟨A2, C2, ?_, y1, y2, y3, y4⟩
    rw [World.cell?_alloc_at _ _ _ _ rfl]
    exact congrArg some e2
theorem rks_at {ps : List Prt} {i : Nat} (h : i < ps.length) : at0 (rks ps) i = Pls.rk (prt ps i).2 (Pls.loud (prt ps i).2) := by
  unfold at0 rks
  rw [List.getElem?_map, List.getElem?_eq_getElem h, prt_get h]
  rfl
theorem take_at {l : List Int} {k : Nat} (h : k < l.length) : l.take (k + 1) = l.take k ++ [at0 l k] := by
  rw [List.take_succ_eq_append_getElem h]
  simp [at0, h]

set_option maxRecDepth 100000 in
set_option maxHeartbeats 16000000 in
theorem pack_on (a : Option Addr) (cap : Nat) (ps : List Prt) (b : Option Addr) (capb : Nat) (s : List Int) (B : Int) (w : World) (hp : Pts w a ps) (hs : Row w b s) (zp : ps.length ≤ 17592186044416) (zl : Hid (∀ i, i < ps.length → (prt ps i).2.length ≤ 17592186044416)) (zs : s.length ≤ 17592186044416) (hF : Hid (FrmF ps s B 0)) :
    Calls Tryz.prog 15 #[.slice a ps.length cap, .slice b s.length capb, .int .i64 B] w fun e w' => PackSays ps s B w e w' := by
  obtain ⟨h1, hB0, hB4, hR⟩ := frm_zero (unhide hF)
  obtain ⟨n0, n8, hsz, n32⟩ := bf_ok h1
  have HSZ := hide hsz
  obtain ⟨hsh, hpl⟩ := right_short h1 hB0 hR
  obtain ⟨hck, hpf⟩ := right_pck h1 hB0 hB4 hR
  have HOK : Hid (∀ w', Below w.heap.size w w' → PackSays ps s B w (.returned (.tuple #[.string (str (Wid.oct (pbits ps))), .nilIface])) w') := hide (fun w' hb => ⟨0, rfl, hck, hb⟩)
  have HPU : Hid (Wid.puts (nums ps) (wids ps) = pbits ps) := hide rfl
  have HBF : Hid (Wid.bsF (pbits ps) = 0) := hide (Wid.bsF_zero.2 ⟨by rw [pack_length hR]; exact hsh, pack_bit hR⟩)
  have CCK := hide (check a cap ps b capb s B w hp hs zp zl zs)
  have HFZ : Hid (∀ E, FrmF ps s B E → E = 0) := hide (fun E h => h.one (unhide hF))
  have HOKI : Hid (∀ i, i < ps.length → Pls.fault (prt ps i).2 = 0) := hide (fun i hi => (hR.ok i hi).2)
  have HGT : Hid (∀ k, k < ps.length → (gns ps).take (k + 1) = (gns ps).take k ++ [(prt ps k).1]) := hide (fun k hk => by rw [take_at (by rw [gns_length]; exact hk), gns_at hk])
  have HLT : Hid (∀ k, k < ps.length → (lds ps).take (k + 1) = (lds ps).take k ++ [(Pls.loud (prt ps k).2 : Int)]) := hide (fun k hk => by rw [take_at (by rw [lds_length]; exact hk), lds_at hk])
  have HRT : Hid (∀ k, k < ps.length → (rks ps).take (k + 1) = (rks ps).take k ++ [Pls.rk (prt ps k).2 (Pls.loud (prt ps k).2)]) := hide (fun k hk => by rw [take_at (by rw [rks_length]; exact hk), rks_at hk])
  have HLL : Hid ((lds ps).length = s.length) := hide (by rw [lds_length, hR.len])
  have CRW := hide (fun W p c h h' => rankWidths b capb s p c (lds ps) W h h' (unhide HLL) n8 HSZ (hide (fun i hi => hpl i (by rw [unhide HLL]; exact hi))))
  rw [rws_wbs hR, unhide HLL] at CRW
  have HNW : Hid ((nums ps).length = (wids ps).length) := hide (by rw [nums_length, wids_length])
  have HNL := hide (nums_length ps)
  have HWL := hide (wids_length ps)
  have HF1 : Hid ([gns ps, rks ps].flatten = nums ps) := hide (by simp [nums])
  have HF2 : Hid ([List.replicate ps.length 6, wbs ps].flatten = wids ps) := hide (by simp [wids])
  have hPN : ps.length = s.length := hR.len
  have CC1 := hide (fun W p h => concat p 2 [gns ps, rks ps] W (by simp) h (hide (by rw [unhide HF1, unhide HNL]; omega)) (hide (by rw [unhide HF1, unhide HNL]; omega)))
  have CC2 := hide (fun W p h => concat p 2 [List.replicate ps.length 6, wbs ps] W (by simp) h (hide (by rw [unhide HF2, unhide HWL]; omega)) (hide (by rw [unhide HF2, unhide HWL]; omega)))
  rw [unhide HF1] at CC1
  rw [unhide HF2] at CC2
  have CPU := hide (fun W p c p' c' h h' => Wid.put_ok p c (nums ps) p' c' (wids ps) W h h' (by rw [unhide HNL]; omega) (by rw [unhide HWL]; omega) (hide hpf))
  rw [unhide HPU, unhide HNL, unhide HWL] at CPU
  have CGW := hide (fun W => gainWidths ps.length W (by omega) (by omega))
  have COC := hide (fun W p c h hm => Wid.octets_ok p c (pbits ps) W h hm HBF)
  have HGA : Hid ((gns ps).take ps.length = gns ps) := hide (by rw [← gns_length, List.take_length])
  have HLA : Hid ((lds ps).take ps.length = lds ps) := hide (by rw [← lds_length, List.take_length])
  have HRA : Hid ((rks ps).take ps.length = rks ps) := hide (by rw [← rks_length, List.take_length])
  obtain ⟨out, hout⟩ : ∃ out, str (Wid.oct (pbits ps)) = out := ⟨_, rfl⟩
  rw [hout] at HOK COC
  obtain ⟨pb, hpb⟩ : ∃ pb, pbits ps = pb := ⟨_, rfl⟩
  rw [hpb] at CPU COC
  obtain ⟨nm, hnm⟩ : ∃ nm, nums ps = nm := ⟨_, rfl⟩
  rw [hnm] at CC1 CPU HNL
  obtain ⟨wi, hwi⟩ : ∃ wi, wids ps = wi := ⟨_, rfl⟩
  rw [hwi] at CC2 CPU HWL
  obtain ⟨wb, hwb⟩ : ∃ wb, wbs ps = wb := ⟨_, rfl⟩
  rw [hwb] at CC2 CRW
  obtain ⟨gl, hgl⟩ : ∃ gl, gns ps = gl := ⟨_, rfl⟩
  rw [hgl] at CC1 HGT HGA
  obtain ⟨ll, hll⟩ : ∃ ll, lds ps = ll := ⟨_, rfl⟩
  rw [hll] at CRW HLT HLA HLL
  obtain ⟨rl, hrl⟩ : ∃ rl, rks ps = rl := ⟨_, rfl⟩
  rw [hrl] at CC1 HRT HRA
  obtain ⟨N, hN⟩ : ∃ N, ps.length = N := ⟨_, rfl⟩
  have HPN := hide hN
  obtain ⟨S, hS⟩ : ∃ S, s.length = S := ⟨_, rfl⟩
  rw [hS] at CRW HLL CCK hPN n0 n8 ⊢
  rw [hN] at CCK HOKI HGT HLT HRT CC2 CPU CGW HGA HLA HRA HNL HWL hPN ⊢
  have nN8 : N ≤ 8 := by omega
  clear hPN hout hpb hnm hwi hwb hgl hll hrl hN hS hF hsh hpl hck hpf h1 hR hsz n32 HPU HBF HNW HF1 HF2 zp zl zs
  go_enter Tryz.func15, Tryz.ntmps15
  go_wp2_with fail
  refine (unhide CCK).mono ?_
  rintro e w1 ⟨E, rfl, hE, hb1⟩
  obtain rfl : E = 0 := unhide HFZ E hE
  rw [show errV 0 = .nilIface from rfl]
  clear hE HFZ CCK
  go_wp2
  go_loopw [9, 10, 11, 29] (fun v9 v10 v11 i wr => ∃ k : Nat, k ≤ N ∧ i = .int .i64 k ∧ Has wr w.heap.size v9 (gl.take k) ∧ Has wr w.heap.size v10 (ll.take k) ∧ Has wr w.heap.size v11 (rl.take k) ∧ Off v9 v10 ∧ Off v9 v11 ∧ Off v10 v11 ∧ Below w.heap.size w wr) (fun _ _ _ i _ => N - (intOf i).toNat)
  case atStart => exact ⟨0, Nat.zero_le _, rfl, Has.nil _ _, Has.nil _ _, Has.nil _ _, off_nil _, off_nil _, off_nil _, hb1⟩
  case round =>
    obtain ⟨j, hj, rfl, h9, h10, h11, o1, o2, o3, hB⟩ := hrel
    clear hb1
    by_cases hlt : j < N
    · have hlt1 : j < ps.length := by rw [unhide HPN]; exact hlt
      obtain ⟨b1, off1, rfl, hbw, hc1⟩ := (hp.below hB).at hlt1
      obtain ⟨x1, A, C, x2, x3, x4, x5, x6⟩ := hc1 j hlt1
      have HG := hide (unhide HGT j hlt)
      have HL := hide (unhide HLT j hlt)
      have HR := hide (unhide HRT j hlt)
      have hf0 := unhide HOKI j hlt
      obtain ⟨G, hG⟩ : ∃ G, (prt ps j).1 = G := ⟨_, rfl⟩
      obtain ⟨pl, hpl⟩ : ∃ pl, (prt ps j).2 = pl := ⟨_, rfl⟩
      rw [hG] at x1 HG
      rw [hpl] at x2 x4 x6 HL HR hf0
      obtain ⟨q, hq⟩ : ∃ q, Obj.cells #[.int .i64 G, .slice A pl.length C] 58 = q := ⟨_, rfl⟩
      have cA0 : (wr.alloc (.cells #[.int .i64 G, .slice A pl.length C] 58)).cell? ⟨wr.heap.size, 0, none⟩ = some (.int .i64 G) := by rw [World.cell?_alloc_at _ _ _ _ rfl]; rfl
      have cA1 : (wr.alloc (.cells #[.int .i64 G, .slice A pl.length C] 58)).cell? ⟨wr.heap.size, 1, none⟩ = some (.slice A pl.length C) := by rw [World.cell?_alloc_at _ _ _ _ rfl]; rfl
      have hsA : wr.heap.size < (wr.alloc (.cells #[.int .i64 G, .slice A pl.length C] 58)).heap.size := by simp
      have hB2 := hB.alloc hB.size (.cells #[.int .i64 G, .slice A pl.length C] 58)
      have hbA : Below wr.heap.size wr (wr.alloc (.cells #[.int .i64 G, .slice A pl.length C] 58)) := (Below.refl _ _).alloc (Nat.le_refl _) _
      have x6' := x6.below hbA
      have h9a := h9.alloc (.cells #[.int .i64 G, .slice A pl.length C] 58)
      have h10a := h10.alloc (.cells #[.int .i64 G, .slice A pl.length C] 58)
      have h11a := h11.alloc (.cells #[.int .i64 G, .slice A pl.length C] 58)
      have CP := hide (Pls.check_ok A C pl _ x6' (hide hf0))
      have CR := hide (fun W h => Pls.rank_ok A C pl W h (hide hf0))
      obtain ⟨Z, hZ⟩ : ∃ Z, Pls.loud pl = Z := ⟨_, rfl⟩
      rw [hZ] at CP HL CR HR
      obtain ⟨RK, hRK⟩ : ∃ RK, Pls.rk pl Z = RK := ⟨_, rfl⟩
      rw [hRK] at CR HR
      obtain ⟨L, hL⟩ : ∃ L, pl.length = L := ⟨_, rfl⟩
      rw [hL] at x2 CP CR hB2 h9a h10a h11a cA0 cA1 hsA x6'
      have hl9 : Hid ((gl.take j).length + 1 ≤ 1000000) := hide (by rw [List.length_take]; omega)
      have hl10 : Hid ((ll.take j).length + 1 ≤ 1000000) := hide (by rw [List.length_take]; omega)
      have hl11 : Hid ((rl.take j).length + 1 ≤ 1000000) := hide (by rw [List.length_take]; omega)
      clear hc1 hlt1 hG hpl x3 x4 hf0 hZ hRK hL x6 hbA h9 h10 h11 hB hq q
      go_wp2_with fail
      refine (unhide CP).mono ?_
      rintro e w4 ⟨rfl, hb4⟩
      have cB0 := (hb4.cell (p := ⟨wr.heap.size, 0, none⟩) hsA).trans cA0
      have cB1 := (hb4.cell (p := ⟨wr.heap.size, 1, none⟩) hsA).trans cA1
      have hsB := Nat.lt_of_lt_of_le hsA hb4.size
      have hB4' := Below.chain hB2 hb4
      have h9b := h9a.below hb4
      have h10b := h10a.below hb4
      have h11b := h11a.below hb4
      have x6b := x6'.below hb4
      clear CP hb4 hsA cA0 cA1 hB2 h9a h10a h11a x6'
      go_wp2_with fail
      refine (unhide CR _ x6b).mono ?_
      rintro e w5 ⟨rfl, hb5⟩
      have cC0 := (hb5.cell (p := ⟨wr.heap.size, 0, none⟩) hsB).trans cB0
      have hB5 := Below.chain hB4' hb5
      have h9c := h9b.below hb5
      have h10c := h10b.below hb5
      have h11c := h11b.below hb5
      have hWs := hB5.size
      clear CR hb5 hsB cB0 cB1 hB4' h9b h10b h11b x6b
      go_wp2_with (first
        | (at_builtin; refine wpList_app _ rfl _ _ rfl w.heap.size u9 (gl.take j) [G] _ _ rfl (h9c.alloc _) rfl (row_one _ _ _) (unhide hl9) (by simp; omega) ?_; intro s1 w6 k6 g6 at6
           obtain ⟨d1, d2⟩ := stepped_plain h9c hWs k6 g6 at6
           obtain ⟨h10d, o1'⟩ := d2 _ _ h10c o1.symm
           obtain ⟨h11d, o2'⟩ := d2 _ _ h11c o2.symm
           have hB6 := hB5.trans d1
           have hWs6 := hB6.size
           rw [← unhide HG] at k6
           clear d1 d2 g6 at6 h9c h10c h11c o1 o2 hB5 hWs)
        | (at_builtin; refine wpList_app _ rfl _ _ rfl w.heap.size u10 (ll.take j) [(Z : Int)] _ _ rfl (h10d.alloc _) rfl (row_one _ _ _) (unhide hl10) (by simp; omega) ?_; intro s2 w7 k7 g7 at7
           obtain ⟨d1, d2⟩ := stepped_plain h10d hWs6 k7 g7 at7
           obtain ⟨h9e, o1e⟩ := d2 _ _ k6 o1'.symm
           obtain ⟨h11e, o3e⟩ := d2 _ _ h11d o3.symm
           have hB7 := hB6.trans d1
           have hWs7 := hB7.size
           rw [← unhide HL] at k7
           clear d1 d2 g7 at7 k6 h10d h11d o1' o3 hB6 hWs6)
        | (at_builtin; refine wpList_app _ rfl _ _ rfl w.heap.size u11 (rl.take j) [RK] _ _ rfl (h11e.alloc _) rfl (row_one _ _ _) (unhide hl11) (by simp; omega) ?_; intro s3 w8 k8 g8 at8
           obtain ⟨d1, d2⟩ := stepped_plain h11e hWs7 k8 g8 at8
           obtain ⟨h9f, o2f⟩ := d2 _ _ h9e o2'.symm
           obtain ⟨h10f, o3f⟩ := d2 _ _ k7 o3e.symm
           have hB8 := hB7.trans d1
           rw [← unhide HR] at k8
           clear d1 d2 g8 at8 k7 h9e h11e o2' o3e hB7 hWs7))
      go_wp2
      go_roundw
      case rel => exact ⟨j + 1, by omega, by go_num, h9f, h10f, k8, o1e, o2f, o3f, hB8⟩
      case measure => simp [intOf]; omega
    · obtain rfl : N = j := by omega
      rw [unhide HGA] at h9
      rw [unhide HLA] at h10
      rw [unhide HRA] at h11
      obtain ⟨p10, q10, rfl, r10⟩ := h10.row
      have CW := unhide CRW wr p10 q10 (hs.below hB) r10
      rw [unhide HLL]
      obtain ⟨p9, n9, q9, rfl⟩ := h9.shape
      obtain ⟨p11, n11, q11, rfl⟩ := h11.shape
      clear CRW HGT HLT HRT HOKI o1 o2 o3 h10 r10 hlt hj
      go_wp2_with fail
      refine CW.mono ?_
      clear CW
      rintro e w2 ⟨v2, rfl, k2, hb2⟩
      have hB2 := Below.chain hB hb2
      have h9b := h9.below hb2
      have h11b := h11.below hb2
      have rt := rws_two h9b h11b 22
      have hbt : Below w2.heap.size w2 (w2.alloc (.cells #[.slice p9 n9 q9, .slice p11 n11 q11] 22)) := (Below.refl _ _).alloc (Nat.le_refl _) _
      have C1 := unhide CC1 _ _ rt
      obtain ⟨p2, n2, q2, rfl⟩ := k2.shape
      clear CC1 hb2 h9 h11 h9b h11b rt
      go_wp2_with fail
      refine C1.mono ?_
      clear C1
      rintro e w3 ⟨v3, rfl, k3, hb3⟩
      have hb23 := Below.chain hbt hb3
      have hB3 := Below.chain hB2 hb23
      have k2b := k2.below hb23
      obtain ⟨p3, q3, rfl, r3⟩ := k3.row
      rw [unhide HNL]
      clear hbt hb3 hb23 k2 hB2 k3
      go_wp2_with fail
      refine (unhide CGW _).mono ?_
      rintro e w4 ⟨v4, rfl, k4, hb4⟩
      have hB4' := Below.chain hB3 hb4
      have k2c := k2b.below hb4
      have r3c := r3.below hb4
      have rt := rws_two k4 k2c 22
      obtain ⟨p4, n4, q4, rfl⟩ := k4.shape
      have hbt : Below w4.heap.size w4 (w4.alloc (.cells #[.slice p4 n4 q4, .slice p2 n2 q2] 22)) := (Below.refl _ _).alloc (Nat.le_refl _) _
      have C2 := unhide CC2 _ _ rt
      clear CGW CC2 hb4 k4 k2b k2c r3 hB3 rt
      go_wp2_with fail
      refine C2.mono ?_
      clear C2
      rintro e w5 ⟨v5, rfl, k5, hb5⟩
      have hb45 := Below.chain hbt hb5
      have hB5 := Below.chain hB4' hb45
      have r3d := r3c.below hb45
      obtain ⟨p5, q5, rfl, r5⟩ := k5.row
      rw [unhide HWL]
      have CP := unhide CPU w5 p3 q3 p5 q5 r3d r5
      clear hbt hb5 hb45 hB4' r3c k5 CPU r3d r5
      go_wp2_with fail
      refine CP.mono ?_
      clear CP
      rintro e w6 ⟨v6, rfl, k6, hb6⟩
      have hB6 := Below.chain hB5 hb6
      obtain ⟨p6, q6, rfl, r6, m6, m69⟩ := Ev.has_room k6
      have CO := unhide COC w6 p6 q6 r6 m6
      clear COC hB5 hb6 k6
      go_wp2_with fail
      refine CO.mono ?_
      clear CO
      rintro e w7 ⟨rfl, hb7⟩
      go_wp2
      go_ret2
      exact unhide HOK _ (Below.chain hB6 hb7)

set_option maxRecDepth 100000 in
set_option maxHeartbeats 4000000 in
theorem pack (a : Option Addr) (cap : Nat) (ps : List Prt) (b : Option Addr) (capb : Nat) (s : List Int) (B : Int) (w : World) (hp : Pts w a ps) (hs : Row w b s) (zp : ps.length ≤ 17592186044416) (zl : Hid (∀ i, i < ps.length → (prt ps i).2.length ≤ 17592186044416)) (zs : s.length ≤ 17592186044416) :
    Calls Tryz.prog 15 #[.slice a ps.length cap, .slice b s.length capb, .int .i64 B] w fun e w' => PackSays ps s B w e w' := by
  by_cases hF : FrmF ps s B 0
  · exact pack_on a cap ps b capb s B w hp hs zp zl zs (hide hF)
  · have CCK := hide (check a cap ps b capb s B w hp hs zp zl zs)
    have HNE : Hid (∀ E, FrmF ps s B E → E ≠ 0) := hide (fun E h e => hF (by rw [← e]; exact h))
    have HP : Hid (∀ E w', FrmF ps s B E → E ≠ 0 → Below w.heap.size w w' → PackSays ps s B w (.returned (.tuple #[.string { data := #[] }, .iface 63 (.int .i64 E)])) w') := hide (fun E w' h1 h2 hb => ⟨E, by rw [pstr_no ps h2, errV_ne h2], Or.inl ⟨h2, h1⟩, hb⟩)
    obtain ⟨N, hN⟩ : ∃ N, ps.length = N := ⟨_, rfl⟩
    obtain ⟨S, hS⟩ : ∃ S, s.length = S := ⟨_, rfl⟩
    rw [hN, hS] at CCK ⊢
    clear hN hS hF zp zl zs
    go_enter Tryz.func15, Tryz.ntmps15
    go_wp2_with fail
    refine (unhide CCK).mono ?_
    rintro e w1 ⟨E, rfl, hE, hb1⟩
    have HQ := hide (unhide HP E w1 hE (unhide HNE E hE) hb1)
    rw [errV_ne (unhide HNE E hE)]
    clear CCK HP HNE hE
    go_wp2
    go_ret2
    exact unhide HQ

end Go.Proofs.YthkibjhhlcfceaiGreatDoor.Pck

/-
  The rest of a row ('l[t:]'), whatever lies beneath it; the first ones of a slice of this call's own ('v[:n]').
-/
namespace Go.Proofs.YthkibjhhlcfceaiGreatDoor
open Go.RowKit
open Go.Proofs.YthkibjhhlcfceaiGreatDoor.Tre
set_option linter.unusedVariables false

set_option maxRecDepth 100000 in
theorem row_rest {w : World} {a : Option Addr} {l : List Int} (h : Row w a l) (cap : Nat) (hm : l.length ≤ cap) {t : Nat} (ht : t ≤ l.length) :
    ∃ A, (∀ W, (Instr.slice 22 (.slice a l.length cap) (some (.int .i64 t)) none none).run Tryz.prog W = .ok (.slice A (l.length - t) (cap - t)) W) ∧ Row w A (l.drop t) := by
  refine ⟨if cap = t then a else a.map (·.add (t * 1)), fun W => ?_, ?_⟩
  · rw [run_slice_l W 22 a l.length cap Tryz.underlying22 .i64 t (by omega) (by omega), size_ints]
    simp [Result.andThen, sliced]
  · by_cases he : l.length = t
    · refine Or.inl ?_
      rw [← he, List.drop_length]
    · obtain ⟨b, off, rfl, hb, hc⟩ := h.at (k := 0) (by omega)
      rw [if_neg (by omega), Nat.mul_one, Option.map_some, addr_plain]
      exact h.drop t
set_option maxRecDepth 100000 in
theorem Has.first {w : World} {base : Nat} {v : Value} {l : List Int} (h : Has w base v l) {n : Nat} (hn : n ≤ l.length) :
    ∃ v', (∀ W, (Instr.slice 22 v none (some (.int .i64 n)) none).run Tryz.prog W = .ok v' W) ∧ Has w base v' (l.take n) := by
  have hl : (l.take n).length = n := by rw [List.length_take]; omega
  rcases h.2 with ⟨rfl, h0⟩ | ⟨g, cap, cur, rfl, hb, hg, hc, hm, hs, hx⟩
  · obtain rfl : l = [] := List.eq_nil_of_length_eq_zero h0
    obtain rfl : n = 0 := by simpa using hn
    refine ⟨.slice none 0 0, fun W => ?_, Has.nil _ _⟩
    rw [run_slice_h W 22 none 0 0 Tryz.underlying22 .i64 ((0 : Nat) : Int) (by omega) (by omega), size_ints]
    simp [Result.andThen, sliced]
  · refine ⟨.slice (some ⟨g, 0, none⟩) n cap, fun W => ?_, ?_⟩
    · rw [run_slice_h W 22 _ l.length cap Tryz.underlying22 .i64 n (by omega) (by omega), size_ints]
      simp [Result.andThen, sliced, addr_plain]
    · unfold Has
      rw [hl]
      refine ⟨by rw [List.length_map, hl, Nat.mul_one], Or.inr ⟨g, cap, cur, rfl, hb, hg, by omega, hm, hs, ?_⟩⟩
      rw [List.map_take, ← hx, List.take_take, Nat.mul_one, Nat.mul_one, Nat.min_eq_left hn]

end Go.Proofs.YthkibjhhlcfceaiGreatDoor
