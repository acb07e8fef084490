/-
  pack.Pack: by its contract.
-/
import Derived.Test.YtjojeifoddonnakGreatLc44
import Derived.Test.YtjojeifoddonnakGreatLc38
import Derived.Test.YtjojeifoddonnakGreatLc42
import Derived.Test.YtjojeifoddonnakGreatLc29
import Derived.Test.YtjojeifoddonnakGreatLc30
import Derived.Test.YtjojeifoddonnakGreatLc13
import Derived.Test.YtjojeifoddonnakGreatLc33
namespace Go.Proofs.YtjojeifoddonnakGreat.Pck
open Go.RowKit
open Go.Proofs.YtjojeifoddonnakGreat.Tre Go.Proofs.YtjojeifoddonnakGreat.Bnd Go.Proofs.YtjojeifoddonnakGreat.Ev Go.Proofs.YtjojeifoddonnakGreat.Frm Go.Proofs.YtjojeifoddonnakGreat.Hrn
set_option linter.unusedVariables false

/-- Two slices of this call's own, in a slice. -/
theorem rws_two {w : World} {b1 b2 : Nat} {v1 v2 : Value} {l1 l2 : List Int} (h1 : Has w b1 v1 l1) (h2 : Has w b2 v2 l2) (t : TypeId) : Rws (w.alloc (.cells #[v1, v2] t)) (some ⟨w.heap.size, 0, none⟩) [l1, l2] := by
  have hb : Below w.heap.size w (w.alloc (.cells #[v1, v2] t)) := (Below.refl _ _).alloc (Nat.le_refl _) _
  obtain ⟨A1, C1, e1, x1, x2, x3, x4⟩ := h1.sli.below hb
  obtain ⟨A2, C2, e2, y1, y2, y3, y4⟩ := h2.sli.below hb
  refine Or.inr ⟨w.heap.size, 0, rfl, by simp, fun r hr => ?_⟩
  have hr' : r = 0 ∨ r = 1 := by simp at hr; omega
  rcases hr' with rfl | rfl
  · refine ⟨A1, C1, ?_, x1, x2, x3, x4⟩
    rw [World.cell?_alloc_at _ _ _ _ rfl]
    exact congrArg some e1
  · refine ⟨A2, C2, ?_, y1, y2, y3, y4⟩
    rw [World.cell?_alloc_at _ _ _ _ rfl]
    exact congrArg some e2
theorem rks_at {ps : List Prt} {i : Nat} (h : i < ps.length) : at0 (rks ps) i = Pls.rk (prt ps i).2 (Pls.loud (prt ps i).2) := by
  unfold at0 rks
  rw [List.getElem?_map, List.getElem?_eq_getElem h, prt_get h]
  rfl
theorem take_at {l : List Int} {k : Nat} (h : k < l.length) : l.take (k + 1) = l.take k ++ [at0 l k] := by
  rw [List.take_succ_eq_append_getElem h]
  simp [at0, h]

set_option maxRecDepth 100000 in
set_option maxHeartbeats 16000000 in
theorem pack_on (a : Option Addr) (cap : Nat) (ps : List Prt) (b : Option Addr) (capb : Nat) (s : List Int) (B : Int) (w : World) (hp : Pts w a ps) (hs : Row w b s) (zp : ps.length ≤ 17592186044416) (zl : Hid (∀ i, i < ps.length → (prt ps i).2.length ≤ 17592186044416)) (zs : s.length ≤ 17592186044416) (hF : Hid (FrmF ps s B 0)) :
    Calls Tryz.prog 9 #[.slice a ps.length cap, .slice b s.length capb, .int .i64 B] w fun e w' => PackSays ps s B w e w' := by
  obtain ⟨h1, hB0, hB4, hR⟩ := frm_zero (unhide hF)
  obtain ⟨n0, n8, hsz, n32⟩ := bf_ok h1
  have HSZ := hide hsz
  obtain ⟨hsh, hpl⟩ := right_short h1 hB0 hR
  obtain ⟨hck, hpf⟩ := right_pck h1 hB0 hB4 hR
  have HOK : Hid (∀ w', Below w.heap.size w w' → PackSays ps s B w (.returned (.tuple #[.string (str (Wid.oct (pbits ps))), .nilIface])) w') := hide (fun w' hb => ⟨0, rfl, hck, hb⟩)
  have HPU : Hid (Wid.puts (nums ps) (wids ps) = pbits ps) := hide rfl
  have HBF : Hid (Wid.bsF (pbits ps) = 0) := hide (Wid.bsF_zero.2 ⟨by rw [pack_length hR]; exact hsh, pack_bit hR⟩)
  have CCK := hide (check a cap ps b capb s B w hp hs zp zl zs)
  have HFZ : Hid (∀ E, FrmF ps s B E → E = 0) := hide (fun E h => h.one (unhide hF))
  have HOKI : Hid (∀ i, i < ps.length → Pls.fault (prt ps i).2 = 0) := hide (fun i hi => (hR.ok i hi).2)
  have HGT : Hid (∀ k, k < ps.length → (gns ps).take (k + 1) = (gns ps).take k ++ [(prt ps k).1]) := hide (fun k hk => by rw [take_at (by rw [gns_length]; exact hk), gns_at hk])
  have HLT : Hid (∀ k, k < ps.length → (lds ps).take (k + 1) = (lds ps).take k ++ [(Pls.loud (prt ps k).2 : Int)]) := hide (fun k hk => by rw [take_at (by rw [lds_length]; exact hk), lds_at hk])
  have HRT : Hid (∀ k, k < ps.length → (rks ps).take (k + 1) = (rks ps).take k ++ [Pls.rk (prt ps k).2 (Pls.loud (prt ps k).2)]) := hide (fun k hk => by rw [take_at (by rw [rks_length]; exact hk), rks_at hk])
  have HLL : Hid ((lds ps).length = s.length) := hide (by rw [lds_length, hR.len])
  have CRW := hide (fun W p c h h' => rankWidths b capb s p c (lds ps) W h h' (unhide HLL) n8 HSZ (hide (fun i hi => hpl i (by rw [unhide HLL]; exact hi))))
  rw [rws_wbs hR, unhide HLL] at CRW
  have HNW : Hid ((nums ps).length = (wids ps).length) := hide (by rw [nums_length, wids_length])
  have HNL := hide (nums_length ps)
  have HWL := hide (wids_length ps)
  have HF1 : Hid ([gns ps, rks ps].flatten = nums ps) := hide (by simp [nums])
  have HF2 : Hid ([List.replicate ps.length 6, wbs ps].flatten = wids ps) := hide (by simp [wids])
  have hPN : ps.length = s.length := hR.len
  have CC1 := hide (fun W p h => concat p 2 [gns ps, rks ps] W (by simp) h (hide (by rw [unhide HF1, unhide HNL]; omega)) (hide (by rw [unhide HF1, unhide HNL]; omega)))
  have CC2 := hide (fun W p h => concat p 2 [List.replicate ps.length 6, wbs ps] W (by simp) h (hide (by rw [unhide HF2, unhide HWL]; omega)) (hide (by rw [unhide HF2, unhide HWL]; omega)))
  rw [unhide HF1] at CC1
  rw [unhide HF2] at CC2
  have CPU := hide (fun W p c p' c' h h' => Wid.put_ok p c (nums ps) p' c' (wids ps) W h h' (by rw [unhide HNL]; omega) (by rw [unhide HWL]; omega) (hide hpf))
  rw [unhide HPU, unhide HNL, unhide HWL] at CPU
  have CGW := hide (fun W => gainWidths ps.length W (by omega) (by omega))
  have COC := hide (fun W p c h hm => Wid.octets_ok p c (pbits ps) W h hm HBF)
  have HGA : Hid ((gns ps).take ps.length = gns ps) := hide (by rw [← gns_length, List.take_length])
  have HLA : Hid ((lds ps).take ps.length = lds ps) := hide (by rw [← lds_length, List.take_length])
  have HRA : Hid ((rks ps).take ps.length = rks ps) := hide (by rw [← rks_length, List.take_length])
  obtain ⟨out, hout⟩ : ∃ out, str (Wid.oct (pbits ps)) = out := ⟨_, rfl⟩
  rw [hout] at HOK COC
  obtain ⟨pb, hpb⟩ : ∃ pb, pbits ps = pb := ⟨_, rfl⟩
  rw [hpb] at CPU COC
  obtain ⟨nm, hnm⟩ : ∃ nm, nums ps = nm := ⟨_, rfl⟩
  rw [hnm] at CC1 CPU HNL
  obtain ⟨wi, hwi⟩ : ∃ wi, wids ps = wi := ⟨_, rfl⟩
  rw [hwi] at CC2 CPU HWL
  obtain ⟨wb, hwb⟩ : ∃ wb, wbs ps = wb := ⟨_, rfl⟩
  rw [hwb] at CC2 CRW
  obtain ⟨gl, hgl⟩ : ∃ gl, gns ps = gl := ⟨_, rfl⟩
  rw [hgl] at CC1 HGT HGA
  obtain ⟨ll, hll⟩ : ∃ ll, lds ps = ll := ⟨_, rfl⟩
  rw [hll] at CRW HLT HLA HLL
  obtain ⟨rl, hrl⟩ : ∃ rl, rks ps = rl := ⟨_, rfl⟩
  rw [hrl] at CC1 HRT HRA
  obtain ⟨N, hN⟩ : ∃ N, ps.length = N := ⟨_, rfl⟩
  have HPN := hide hN
  obtain ⟨S, hS⟩ : ∃ S, s.length = S := ⟨_, rfl⟩
  rw [hS] at CRW HLL CCK hPN n0 n8 ⊢
  rw [hN] at CCK HOKI HGT HLT HRT CC2 CPU CGW HGA HLA HRA HNL HWL hPN ⊢
  have nN8 : N ≤ 8 := by omega
  clear hPN hout hpb hnm hwi hwb hgl hll hrl hN hS hF hsh hpl hck hpf h1 hR hsz n32 HPU HBF HNW HF1 HF2 zp zl zs
  go_enter Tryz.func9, Tryz.ntmps9
  go_wp2_with fail
  refine (unhide CCK).mono ?_
  rintro e w1 ⟨E, rfl, hE, hb1⟩
  obtain rfl : E = 0 := unhide HFZ E hE
  rw [show errV 0 = .nilIface from rfl]
  clear hE HFZ CCK
  go_wp2
  go_loopw [9, 10, 11, 29] (fun v9 v10 v11 i wr => ∃ k : Nat, k ≤ N ∧ i = .int .i64 k ∧ Has wr w.heap.size v9 (gl.take k) ∧ Has wr w.heap.size v10 (ll.take k) ∧ Has wr w.heap.size v11 (rl.take k) ∧ Off v9 v10 ∧ Off v9 v11 ∧ Off v10 v11 ∧ Below w.heap.size w wr) (fun _ _ _ i _ => N - (intOf i).toNat)
  case atStart => exact ⟨0, Nat.zero_le _, rfl, Has.nil _ _, Has.nil _ _, Has.nil _ _, off_nil _, off_nil _, off_nil _, hb1⟩
  case round =>
    obtain ⟨j, hj, rfl, h9, h10, h11, o1, o2, o3, hB⟩ := hrel
    clear hb1
    by_cases hlt : j < N
    · have hlt1 : j < ps.length := by rw [unhide HPN]; exact hlt
      obtain ⟨b1, off1, rfl, hbw, hc1⟩ := (hp.below hB).at hlt1
      obtain ⟨x1, A, C, x2, x3, x4, x5, x6⟩ := hc1 j hlt1
      have HG := hide (unhide HGT j hlt)
      have HL := hide (unhide HLT j hlt)
      have HR := hide (unhide HRT j hlt)
      have hf0 := unhide HOKI j hlt
      obtain ⟨G, hG⟩ : ∃ G, (prt ps j).1 = G := ⟨_, rfl⟩
      obtain ⟨pl, hpl⟩ : ∃ pl, (prt ps j).2 = pl := ⟨_, rfl⟩
      rw [hG] at x1 HG
      rw [hpl] at x2 x4 x6 HL HR hf0
      obtain ⟨q, hq⟩ : ∃ q, Obj.cells #[.int .i64 G, .slice A pl.length C] 71 = q := ⟨_, rfl⟩
      have cA0 : (wr.alloc (.cells #[.int .i64 G, .slice A pl.length C] 71)).cell? ⟨wr.heap.size, 0, none⟩ = some (.int .i64 G) := by rw [World.cell?_alloc_at _ _ _ _ rfl]; rfl
      have cA1 : (wr.alloc (.cells #[.int .i64 G, .slice A pl.length C] 71)).cell? ⟨wr.heap.size, 1, none⟩ = some (.slice A pl.length C) := by rw [World.cell?_alloc_at _ _ _ _ rfl]; rfl
      have hsA : wr.heap.size < (wr.alloc (.cells #[.int .i64 G, .slice A pl.length C] 71)).heap.size := by simp
      have hB2 := hB.alloc hB.size (.cells #[.int .i64 G, .slice A pl.length C] 71)
      have hbA : Below wr.heap.size wr (wr.alloc (.cells #[.int .i64 G, .slice A pl.length C] 71)) := (Below.refl _ _).alloc (Nat.le_refl _) _
      have x6' := x6.below hbA
      have h9a := h9.alloc (.cells #[.int .i64 G, .slice A pl.length C] 71)
      have h10a := h10.alloc (.cells #[.int .i64 G, .slice A pl.length C] 71)
      have h11a := h11.alloc (.cells #[.int .i64 G, .slice A pl.length C] 71)
      have CP := hide (Pls.check_ok A C pl _ x6' (hide hf0))
      have CR := hide (fun W h => Pls.rank_ok A C pl W h (hide hf0))
      obtain ⟨Z, hZ⟩ : ∃ Z, Pls.loud pl = Z := ⟨_, rfl⟩
      rw [hZ] at CP HL CR HR
      obtain ⟨RK, hRK⟩ : ∃ RK, Pls.rk pl Z = RK := ⟨_, rfl⟩
      rw [hRK] at CR HR
      obtain ⟨L, hL⟩ : ∃ L, pl.length = L := ⟨_, rfl⟩
      rw [hL] at x2 CP CR hB2 h9a h10a h11a cA0 cA1 hsA x6'
      have hl9 : Hid ((gl.take j).length + 1 ≤ 1000000) := hide (by rw [List.length_take]; omega)
      have hl10 : Hid ((ll.take j).length + 1 ≤ 1000000) := hide (by rw [List.length_take]; omega)
      have hl11 : Hid ((rl.take j).length + 1 ≤ 1000000) := hide (by rw [List.length_take]; omega)
      clear hc1 hlt1 hG hpl x3 x4 hf0 hZ hRK hL x6 hbA h9 h10 h11 hB hq q
      go_wp2_with fail
      refine (unhide CP).mono ?_
      rintro e w4 ⟨rfl, hb4⟩
      have cB0 := (hb4.cell (p := ⟨wr.heap.size, 0, none⟩) hsA).trans cA0
      have cB1 := (hb4.cell (p := ⟨wr.heap.size, 1, none⟩) hsA).trans cA1
      have hsB := Nat.lt_of_lt_of_le hsA hb4.size
      have hB4' := Below.chain hB2 hb4
      have h9b := h9a.below hb4
      have h10b := h10a.below hb4
      have h11b := h11a.below hb4
      have x6b := x6'.below hb4
      clear CP hb4 hsA cA0 cA1 hB2 h9a h10a h11a x6'
      go_wp2_with fail
      refine (unhide CR _ x6b).mono ?_
      rintro e w5 ⟨rfl, hb5⟩
      have cC0 := (hb5.cell (p := ⟨wr.heap.size, 0, none⟩) hsB).trans cB0
      have hB5 := Below.chain hB4' hb5
      have h9c := h9b.below hb5
      have h10c := h10b.below hb5
      have h11c := h11b.below hb5
      have hWs := hB5.size
      clear CR hb5 hsB cB0 cB1 hB4' h9b h10b h11b x6b
      go_wp2_with (first
        | (at_builtin; refine wpList_app _ rfl _ _ rfl w.heap.size u9 (gl.take j) [G] _ _ rfl (h9c.alloc _) rfl (row_one _ _ _) (unhide hl9) (by simp; omega) ?_; intro s1 w6 k6 g6 at6
           obtain ⟨d1, d2⟩ := stepped_plain h9c hWs k6 g6 at6
           obtain ⟨h10d, o1'⟩ := d2 _ _ h10c o1.symm
           obtain ⟨h11d, o2'⟩ := d2 _ _ h11c o2.symm
           have hB6 := hB5.trans d1
           have hWs6 := hB6.size
           rw [← unhide HG] at k6
           clear d1 d2 g6 at6 h9c h10c h11c o1 o2 hB5 hWs)
        | (at_builtin; refine wpList_app _ rfl _ _ rfl w.heap.size u10 (ll.take j) [(Z : Int)] _ _ rfl (h10d.alloc _) rfl (row_one _ _ _) (unhide hl10) (by simp; omega) ?_; intro s2 w7 k7 g7 at7
           obtain ⟨d1, d2⟩ := stepped_plain h10d hWs6 k7 g7 at7
           obtain ⟨h9e, o1e⟩ := d2 _ _ k6 o1'.symm
           obtain ⟨h11e, o3e⟩ := d2 _ _ h11d o3.symm
           have hB7 := hB6.trans d1
           have hWs7 := hB7.size
           rw [← unhide HL] at k7
           clear d1 d2 g7 at7 k6 h10d h11d o1' o3 hB6 hWs6)
        | (at_builtin; refine wpList_app _ rfl _ _ rfl w.heap.size u11 (rl.take j) [RK] _ _ rfl (h11e.alloc _) rfl (row_one _ _ _) (unhide hl11) (by simp; omega) ?_; intro s3 w8 k8 g8 at8
           obtain ⟨d1, d2⟩ := stepped_plain h11e hWs7 k8 g8 at8
           obtain ⟨h9f, o2f⟩ := d2 _ _ h9e o2'.symm
           obtain ⟨h10f, o3f⟩ := d2 _ _ k7 o3e.symm
           have hB8 := hB7.trans d1
           rw [← unhide HR] at k8
           clear d1 d2 g8 at8 k7 h9e h11e o2' o3e hB7 hWs7))
      go_wp2
      go_roundw
      case rel => exact ⟨j + 1, by omega, by go_num, h9f, h10f, k8, o1e, o2f, o3f, hB8⟩
      case measure => simp [intOf]; omega
    · obtain rfl : N = j := by omega
      rw [unhide HGA] at h9
      rw [unhide HLA] at h10
      rw [unhide HRA] at h11
      obtain ⟨p10, q10, rfl, r10⟩ := h10.row
      have CW := unhide CRW wr p10 q10 (hs.below hB) r10
      rw [unhide HLL]
      obtain ⟨p9, n9, q9, rfl⟩ := h9.shape
      obtain ⟨p11, n11, q11, rfl⟩ := h11.shape
      clear CRW HGT HLT HRT HOKI o1 o2 o3 h10 r10 hlt hj
      go_wp2_with fail
      refine CW.mono ?_
      clear CW
      rintro e w2 ⟨v2, rfl, k2, hb2⟩
      have hB2 := Below.chain hB hb2
      have h9b := h9.below hb2
      have h11b := h11.below hb2
      have rt := rws_two h9b h11b 23
      have hbt : Below w2.heap.size w2 (w2.alloc (.cells #[.slice p9 n9 q9, .slice p11 n11 q11] 23)) := (Below.refl _ _).alloc (Nat.le_refl _) _
      have C1 := unhide CC1 _ _ rt
      obtain ⟨p2, n2, q2, rfl⟩ := k2.shape
      clear CC1 hb2 h9 h11 h9b h11b rt
      go_wp2_with fail
      refine C1.mono ?_
      clear C1
      rintro e w3 ⟨v3, rfl, k3, hb3⟩
      have hb23 := Below.chain hbt hb3
      have hB3 := Below.chain hB2 hb23
      have k2b := k2.below hb23
      obtain ⟨p3, q3, rfl, r3⟩ := k3.row
      rw [unhide HNL]
      clear hbt hb3 hb23 k2 hB2 k3
      go_wp2_with fail
      refine (unhide CGW _).mono ?_
      rintro e w4 ⟨v4, rfl, k4, hb4⟩
      have hB4' := Below.chain hB3 hb4
      have k2c := k2b.below hb4
      have r3c := r3.below hb4
      have rt := rws_two k4 k2c 23
      obtain ⟨p4, n4, q4, rfl⟩ := k4.shape
      have hbt : Below w4.heap.size w4 (w4.alloc (.cells #[.slice p4 n4 q4, .slice p2 n2 q2] 23)) := (Below.refl _ _).alloc (Nat.le_refl _) _
      have C2 := unhide CC2 _ _ rt
      clear CGW CC2 hb4 k4 k2b k2c r3 hB3 rt
      go_wp2_with fail
      refine C2.mono ?_
      clear C2
      rintro e w5 ⟨v5, rfl, k5, hb5⟩
      have hb45 := Below.chain hbt hb5
      have hB5 := Below.chain hB4' hb45
      have r3d := r3c.below hb45
      obtain ⟨p5, q5, rfl, r5⟩ := k5.row
      rw [unhide HWL]
      have CP := unhide CPU w5 p3 q3 p5 q5 r3d r5
      clear hbt hb5 hb45 hB4' r3c k5 CPU r3d r5
      go_wp2_with fail
      refine CP.mono ?_
      clear CP
      rintro e w6 ⟨v6, rfl, k6, hb6⟩
      have hB6 := Below.chain hB5 hb6
      obtain ⟨p6, q6, rfl, r6, m6, m69⟩ := Ev.has_room k6
      have CO := unhide COC w6 p6 q6 r6 m6
      clear COC hB5 hb6 k6
      go_wp2_with fail
      refine CO.mono ?_
      clear CO
      rintro e w7 ⟨rfl, hb7⟩
      go_wp2
      go_ret2
      exact unhide HOK _ (Below.chain hB6 hb7)

set_option maxRecDepth 100000 in
set_option maxHeartbeats 4000000 in
theorem pack (a : Option Addr) (cap : Nat) (ps : List Prt) (b : Option Addr) (capb : Nat) (s : List Int) (B : Int) (w : World) (hp : Pts w a ps) (hs : Row w b s) (zp : ps.length ≤ 17592186044416) (zl : Hid (∀ i, i < ps.length → (prt ps i).2.length ≤ 17592186044416)) (zs : s.length ≤ 17592186044416) :
    Calls Tryz.prog 9 #[.slice a ps.length cap, .slice b s.length capb, .int .i64 B] w fun e w' => PackSays ps s B w e w' := by
  by_cases hF : FrmF ps s B 0
  · exact pack_on a cap ps b capb s B w hp hs zp zl zs (hide hF)
  · have CCK := hide (check a cap ps b capb s B w hp hs zp zl zs)
    have HNE : Hid (∀ E, FrmF ps s B E → E ≠ 0) := hide (fun E h e => hF (by rw [← e]; exact h))
    have HP : Hid (∀ E w', FrmF ps s B E → E ≠ 0 → Below w.heap.size w w' → PackSays ps s B w (.returned (.tuple #[.string { data := #[] }, .iface 60 (.int .i64 E)])) w') := hide (fun E w' h1 h2 hb => ⟨E, by rw [pstr_no ps h2, errV_ne h2], Or.inl ⟨h2, h1⟩, hb⟩)
    obtain ⟨N, hN⟩ : ∃ N, ps.length = N := ⟨_, rfl⟩
    obtain ⟨S, hS⟩ : ∃ S, s.length = S := ⟨_, rfl⟩
    rw [hN, hS] at CCK ⊢
    clear hN hS hF zp zl zs
    go_enter Tryz.func9, Tryz.ntmps9
    go_wp2_with fail
    refine (unhide CCK).mono ?_
    rintro e w1 ⟨E, rfl, hE, hb1⟩
    have HQ := hide (unhide HP E w1 hE (unhide HNE E hE) hb1)
    rw [errV_ne (unhide HNE E hE)]
    clear CCK HP HNE hE
    go_wp2
    go_ret2
    exact unhide HQ

end Go.Proofs.YtjojeifoddonnakGreat.Pck
