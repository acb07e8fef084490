/-
  frame.PulsesFor, at gains that there are: by its contracts.
-/
import Derived.Test.YtjojeifoddonnakGreatLc09
import Derived.Test.YtjojeifoddonnakGreatLc06
import Derived.Test.YtjojeifoddonnakGreatLc32
import Derived.Test.YtjojeifoddonnakGreatLc40
import Derived.Test.YtjojeifoddonnakGreatLc07
namespace Go.Proofs.YtjojeifoddonnakGreat.Frm
open Go.RowKit
open Go.Proofs.YtjojeifoddonnakGreat.Tre Go.Proofs.YtjojeifoddonnakGreat.Bnd Go.Proofs.YtjojeifoddonnakGreat.Pls Go.Proofs.YtjojeifoddonnakGreat.Gai Go.Proofs.YtjojeifoddonnakGreat.Shr Go.Proofs.YtjojeifoddonnakGreat.Lap Go.Proofs.YtjojeifoddonnakGreat.Mid
set_option linter.unusedVariables false

/-- What pulsesFor tells. -/
def PfSays (ps : List Prt) (s : List Int) (B : Int) (w : World) (e : Ending) (w' : World) : Prop :=
  ((¬ (0 ≤ B ∧ B ≤ 400) ∧ e = .returned (.tuple #[.slice none 0 0, .iface 60 (.int .i64 1)])) ∨ ((0 ≤ B ∧ B ≤ 400) ∧ ∃ v, e = .returned (.tuple #[v, .nilIface]) ∧ Has w' w.heap.size v (given (gns ps) s B))) ∧ Below w.heap.size w w'

set_option maxRecDepth 100000 in
set_option maxHeartbeats 4000000 in
theorem pulsesFor (a : Option Addr) (cap : Nat) (ps : List Prt) (b : Option Addr) (capb : Nat) (s : List Int) (B : Int) (w : World) (hp : Pts w a ps) (hr : Row w b s) (h1 : Hid (bf s = 0)) (hl : ps.length = s.length) (hg : Hid (∀ i, i < ps.length → gok (prt ps i).1 = true)) :
    Calls Tryz.prog 25 #[.slice a ps.length cap, .slice b s.length capb, .int .i64 B] w fun e w' => PfSays ps s B w e w' := by
  obtain ⟨n0, n8, hsz, n32⟩ := bf_ok (unhide h1)
  have HLD := vals_lds (gs := gns ps) (fun i hi => by rw [gns_length] at hi; rw [gns_at hi]; exact unhide hg i hi)
  have HVL : Hid ((vals (gns ps)).length = s.length) := hide (by rw [vals_length, gns_length, hl])
  have COK := hide (fun W q c h1' h2 (h : 0 ≤ B ∧ B ≤ 400) => of_ok b capb s q c (vals (gns ps)) B W h1' h2 (hide (ofF_zero.2 ⟨unhide h1, unhide HVL, HLD, h.1, h.2⟩)))
  have HOF : Hid (¬ (0 ≤ B ∧ B ≤ 400) → ofF s (vals (gns ps)) B = 1) := hide (fun h => by
    unfold ofF
    rw [if_pos (unhide h1), if_pos (unhide HVL)]
    split
    · rfl
    · rw [if_pos (by omega)])
  have CNO := hide (fun W q c h1' h2 (h : ¬ (0 ≤ B ∧ B ≤ 400)) => of_no b capb s q c (vals (gns ps)) B 1 W h1' h2 (by omega) (by rw [unhide HVL]; omega) (hide (unhide HOF h)) (hide (by omega)))
  have HUP : Hid (upto (fun i => (vl (at0 (gns ps) i).toNat : Int)) s.length = vals (gns ps)) := hide (by rw [vals_upto (gns ps), gns_length, hl])
  have HVA : Hid (∀ k, k < s.length → (vl (at0 (gns ps) k).toNat : Int) = vlN (prt ps k).1) := hide (fun k hk => by
    rw [gns_at (by rw [hl]; exact hk), vlN_ok (unhide hg k (by rw [hl]; exact hk))])
  have PNO : Hid (¬ (0 ≤ B ∧ B ≤ 400) → ∀ w', Below w.heap.size w w' → PfSays ps s B w (.returned (.tuple #[.slice none 0 0, .iface 60 (.int .i64 1)])) w') := hide (fun h w' hb => ⟨Or.inl ⟨h, rfl⟩, hb⟩)
  have POK : Hid (0 ≤ B ∧ B ≤ 400 → ∀ v w', Has w' w.heap.size v (share s (vals (gns ps)) B) → Below w.heap.size w w' → PfSays ps s B w (.returned (.tuple #[v, .nilIface])) w') := hide (fun h v w' hv hb => ⟨Or.inr ⟨h, v, rfl, hv⟩, hb⟩)
  obtain ⟨ds, hds⟩ : ∃ ds, vals (gns ps) = ds := ⟨_, rfl⟩
  rw [hds] at HVL COK CNO HUP POK
  obtain ⟨f, hf⟩ : ∃ f : Nat → Int, (fun i => (vl (at0 (gns ps) i).toNat : Int)) = f := ⟨_, rfl⟩
  have HVF : Hid (∀ k, k < s.length → f k = vlN (prt ps k).1) := hide (fun k hk => by rw [← hf]; exact unhide HVA k hk)
  rw [hf] at HUP
  obtain ⟨N, hN⟩ : ∃ N, s.length = N := ⟨_, rfl⟩
  have HPN : Hid (ps.length = N) := hide (hl.trans hN)
  rw [hN] at COK CNO HVL HUP HVF n8 n0
  rw [hl, hN]
  have HOK : Hid (∀ k, k < N → gok (prt ps k).1 = true) := hide (fun k hk => unhide hg k (by rw [unhide HPN]; exact hk))
  clear hds hf HVA HOF HLD hsz n32 hN hl h1 hg
  go_enter Tryz.func25, Tryz.ntmps25
  go_wp2_with (at_make; refine wpList_mk _ rfl _ rfl N rfl (by omega) ?_; intro w2 k2 hb2)
  rw [← mid_zero f] at k2
  go_loopw [18] (fun i wr => ∃ k : Nat, k ≤ N ∧ i = .int .i64 k ∧ Has wr w.heap.size (.slice (some ⟨w.heap.size, 0, none⟩) N N) (mid f (fun _ => 0) N k) ∧ Below w.heap.size w wr) (fun i _ => N - (intOf i).toNat)
  case atStart => exact ⟨0, Nat.zero_le _, rfl, k2, hb2⟩
  case round =>
    obtain ⟨k, hk, rfl, hv, hB⟩ := hrel
    clear k2 hb2
    by_cases hlt : k < N
    · have hlt' : k < ps.length := by rw [unhide HPN]; exact hlt
      obtain ⟨b1, off1, rfl, hb1, hc1⟩ := (hp.below hB).at hlt'
      obtain ⟨x1, A, C, x2, x3, x4, x5, x6⟩ := hc1 k hlt'
      have CV := hide (fun W => valueOk (prt ps k).1 W (hide (unhide HOK k hlt)))
      have HF := hide (unhide HVF k hlt)
      obtain ⟨G, hG⟩ : ∃ G, (prt ps k).1 = G := ⟨_, rfl⟩
      rw [hG] at x1 CV HF
      obtain ⟨V, hV⟩ : ∃ V, vlN G = V := ⟨_, rfl⟩
      rw [hV] at CV HF
      obtain ⟨L, hL⟩ : ∃ L, (prt ps k).2.length = L := ⟨_, rfl⟩
      rw [hL] at x2
      clear hc1 hG hV hL hlt' x3 x4 x5 x6
      have hv2 := hv.alloc (.cells #[.int .i64 G, .slice A L C] 71)
      have hB2 := hB.alloc hB.size (.cells #[.int .i64 G, .slice A L C] 71)
      have c2 := hv2.get (j := k) (by rw [mid_length]; exact hlt)
      rw [mid_at _ _ hlt] at c2
      have f2 := hv2.frozen k
      obtain ⟨m1, m2⟩ := hv2.put k V
      have HS := mid_set f (fun _ => 0) hlt
      rw [unhide HF] at HS
      rw [HS] at m1
      have m4 := Below.setCell (p := ⟨w.heap.size, k, none⟩) hB2 (Nat.le_refl _) (.int .i64 V)
      have M1 := hide m1
      have M4 := hide m4
      clear hv hB HS m1 m2 m4 HF hv2 hB2
      go_wp2_with fail
      refine (unhide CV _).mono ?_
      rintro e w5 ⟨rfl, rfl⟩
      clear CV
      go_wp2
      go_roundw
      case rel => exact ⟨k + 1, by omega, by go_num, unhide M1, unhide M4⟩
      case measure => simp [intOf]; omega
    · obtain rfl : k = N := by omega
      rw [mid_all, unhide HUP] at hv
      obtain ⟨p, q, ee, hrow⟩ := hv.row
      obtain ⟨ea, eb, ec⟩ := Value.slice.inj ee
      subst ea ec
      by_cases h4 : 0 ≤ B ∧ B ≤ 400
      · have c := unhide COK wr _ k (hr.below hB) hrow h4
        have HP := hide (unhide POK h4)
        rw [unhide HVL] at c
        clear COK CNO PNO POK hv ee eb
        go_wp2_with fail
        refine c.mono ?_
        clear c
        rintro e w2 ⟨v2, rfl, k2, hb2⟩
        obtain ⟨p9, n9, q9, rfl⟩ := k2.shape
        go_wp2
        go_ret2
        exact unhide HP _ _ (k2.mono hB.size) (Below.chain hB hb2)
      · have c := unhide CNO wr _ k (hr.below hB) hrow h4
        have HP := hide (unhide PNO h4)
        rw [unhide HVL] at c
        clear COK CNO PNO POK hv ee eb h4
        go_wp2_with fail
        refine c.mono ?_
        clear c
        rintro e w2 ⟨rfl, hb2⟩
        go_wp2
        go_ret2
        exact unhide HP _ (Below.chain hB hb2)

end Go.Proofs.YtjojeifoddonnakGreat.Frm

/-
  frame.Check: by its contract.
-/
namespace Go.Proofs.YtjojeifoddonnakGreat.Frm
open Go.RowKit
open Go.Proofs.YtjojeifoddonnakGreat.Tre Go.Proofs.YtjojeifoddonnakGreat.Bnd Go.Proofs.YtjojeifoddonnakGreat.Pls Go.Proofs.YtjojeifoddonnakGreat.Gai Go.Proofs.YtjojeifoddonnakGreat.Shr Go.Proofs.YtjojeifoddonnakGreat.Ev
set_option linter.unusedVariables false

/-- What Check tells. -/
def CkSays (ps : List Prt) (s : List Int) (B : Int) (w : World) (e : Ending) (w' : World) : Prop := ∃ E, e = .returned (errV E) ∧ FrmF ps s B E ∧ Below w.heap.size w w'
theorem ck_fault {ps : List Prt} {s : List Int} {B F : Int} {w w' : World} (h : FrmF ps s B F) (hF : F ≠ 0) (hb : Below w.heap.size w w') : CkSays ps s B w (.returned (.iface 60 (.int .i64 F))) w' := ⟨F, by rw [errV_ne hF], h, hb⟩
/-- How many pulses the parts have. -/
def lds1 (ps : List Prt) : List Int := ps.map fun p => (loud p.2 : Int)
theorem lds1_length (ps : List Prt) : (lds1 ps).length = ps.length := by simp [lds1]
theorem lds1_at {ps : List Prt} {i : Nat} (h : i < ps.length) : at0 (lds1 ps) i = (loud (prt ps i).2 : Int) := by
  unfold at0 lds1
  rw [List.getElem?_map, List.getElem?_eq_getElem h, prt_get h]
  rfl
theorem lds1_take {ps : List Prt} {k : Nat} (h : k < ps.length) : (lds1 ps).take (k + 1) = (lds1 ps).take k ++ [(loud (prt ps k).2 : Int)] := by
  rw [List.take_succ_eq_append_getElem (by rw [lds1_length]; exact h)]
  have e2 : at0 (lds1 ps) k = (lds1 ps)[k]'(by rw [lds1_length]; exact h) := by simp [at0, lds1_length, h]
  rw [← e2, lds1_at h]

set_option maxRecDepth 100000 in
set_option maxHeartbeats 8000000 in
theorem check_on (a : Option Addr) (cap : Nat) (ps : List Prt) (b : Option Addr) (capb : Nat) (s : List Int) (B : Int) (w : World) (hp : Pts w a ps) (hs : Row w b s) (h1 : Hid (bf s = 0)) (h2 : Hid (ps.length = s.length)) (h3 : Hid (Fits ps s)) :
    Calls Tryz.prog 27 #[.slice a ps.length cap, .slice b s.length capb, .int .i64 B] w fun e w' => CkSays ps s B w e w' := by
  obtain ⟨n0, n8, hsz, n32⟩ := bf_ok (unhide h1)
  have CBA := hide (Bnd.check_ok b capb s w (by omega) hs h1)
  have CEF := hide (equalFunc a cap ps b capb s w (by rw [unhide h2]; omega) (by omega) hp hs)
  have HFB : Hid (∀ t, FitB ps s t → t = true) := hide (fun t h => h.2 ⟨unhide h2, unhide h3⟩)
  have HP1 : Hid (oneF ps ≠ 0 → ∀ F, oneF ps = F → ∀ w', Below w.heap.size w w' → CkSays ps s B w (.returned (.iface 60 (.int .i64 F))) w') := hide (fun h' F hF w' hb => ck_fault (by rw [← hF]; exact frm_one (unhide h1) (unhide h2) (unhide h3) h') (by rw [← hF]; exact h') hb)
  have HPB : Hid (oneF ps = 0 → ¬ (0 ≤ B ∧ B ≤ 400) → ∀ w', Below w.heap.size w w' → CkSays ps s B w (.returned (.iface 60 (.int .i64 1))) w') := hide (fun h' h5 w' hb => ck_fault (frm_bits (unhide h1) (unhide h2) (unhide h3) h' h5) (by omega) hb)
  have HPG : Hid (oneF ps = 0 → (0 ≤ B ∧ B ≤ 400) → ∀ t, AliB (lds1 ps) (given (gns ps) s B) t → t = false → ∀ w', Below w.heap.size w w' → CkSays ps s B w (.returned (.iface 60 (.int .i64 3))) w') := hide (fun h' h5 t ht hf w' hb => ck_fault (frm_gets (unhide h1) (unhide h2) (unhide h3) h' h5 (fun hg => by
    have : t = true := ht.2 (fun i hi => by rw [lds1_length] at hi; rw [lds1_at hi]; exact hg i hi)
    rw [hf] at this
    cases this)) (by omega) hb)
  have HP0 : Hid (oneF ps = 0 → (0 ≤ B ∧ B ≤ 400) → ∀ t, AliB (lds1 ps) (given (gns ps) s B) t → t = true → ∀ w', Below w.heap.size w w' → CkSays ps s B w (.returned .nilIface) w') := hide (fun h' h5 t ht hf w' hb => ⟨0, rfl, frm_ok (unhide h1) (unhide h2) (unhide h3) h' h5 (fun i hi => by
    rw [← lds1_at hi]
    exact (ht.1 hf) i (by rw [lds1_length]; exact hi)), hb⟩)
  have HGVL : Hid (0 ≤ B → (given (gns ps) s B).length = s.length) := hide (fun hB => (share_is (d := vals (gns ps)) hsz n8 hB).1.len)
  have CPF := hide (fun W h h' hg => pulsesFor a cap ps b capb s B W h h' h1 (unhide h2) hg)
  have HD0 : Hid (oneF (ps.drop 0) = oneF ps) := hide (by rw [List.drop_zero])
  have HT0 : Hid ((lds1 ps).take 0 = []) := hide rfl
  have HTA : Hid ((lds1 ps).take ps.length = lds1 ps) := hide (by rw [← lds1_length, List.take_length])
  have HLL := hide (lds1_length ps)
  have HTK : Hid (∀ k, k < ps.length → (lds1 ps).take (k + 1) = (lds1 ps).take k ++ [(loud (prt ps k).2 : Int)]) := hide (fun k hk => lds1_take hk)
  obtain ⟨hl, hhl⟩ : ∃ hl, lds1 ps = hl := ⟨_, rfl⟩
  rw [hhl] at HPG HP0 HT0 HTA HLL HTK
  obtain ⟨TT, hTT⟩ : ∃ TT, total s = TT := ⟨_, rfl⟩
  rw [hTT] at CBA
  obtain ⟨N, hN⟩ : ∃ N, s.length = N := ⟨_, rfl⟩
  have HN := hide hN
  have HPN : Hid (ps.length = N) := hide ((unhide h2).trans hN)
  rw [unhide h2, hN] at CPF CEF HTA HLL
  rw [unhide h2, hN]
  rw [hN] at CBA HGVL n0 n8
  clear hhl hTT hN hsz n32 h1 h2 h3
  go_enter Tryz.func27, Tryz.ntmps27
  go_wp2_with fail
  refine (unhide CBA).mono ?_
  rintro e w1 ⟨rfl, hw1⟩
  obtain rfl : w = w1 := hw1.symm
  clear CBA hw1
  go_wp2_with fail
  refine (unhide CEF).mono ?_
  rintro e w1 ⟨t, rfl, ht, hb1⟩
  obtain rfl : t = true := unhide HFB t ht
  clear CEF HFB ht
  go_wp2
  go_loopw [9, 33] (fun v i wr => ∃ k : Nat, k ≤ N ∧ i = .int .i64 k ∧ Hid (oneF (ps.drop k) = oneF ps) ∧ Has wr w.heap.size v (hl.take k) ∧ Below w.heap.size w wr) (fun _ i _ => N - (intOf i).toNat)
  case atStart => exact ⟨0, Nat.zero_le _, rfl, HD0, by rw [unhide HT0]; exact Has.nil _ _, hb1⟩
  case round =>
    obtain ⟨j, hj, rfl, HO, hv, hB⟩ := hrel
    clear HD0 HT0 hb1
    by_cases hlt : j < N
    · have hlt1 : j < ps.length := by rw [unhide HPN]; exact hlt
      obtain ⟨b1, off1, rfl, hbw, hc1⟩ := (hp.below hB).at hlt1
      obtain ⟨x1, A, C, x2, x3, x4, x5, x6⟩ := hc1 j hlt1
      have HST : Hid (oneF ps = if gok (prt ps j).1 = true then (if fault (prt ps j).2 = 0 then oneF (ps.drop (j + 1)) else fault (prt ps j).2) else 1) := hide (by rw [← unhide HO, drop_prt hlt1, oneF])
      have HT := hide (unhide HTK j hlt1)
      obtain ⟨G, hG⟩ : ∃ G, (prt ps j).1 = G := ⟨_, rfl⟩
      obtain ⟨pl, hpl⟩ : ∃ pl, (prt ps j).2 = pl := ⟨_, rfl⟩
      rw [hG] at x1 HST
      rw [hpl] at x2 x4 x6 HST HT
      have hB2 := hB.alloc hB.size (.cells #[.int .i64 G, .slice A pl.length C] 71)
      have hbA : Below wr.heap.size wr (wr.alloc (.cells #[.int .i64 G, .slice A pl.length C] 71)) := (Below.refl _ _).alloc (Nat.le_refl _) _
      have x6' := x6.below hbA
      have hv2 := hv.alloc (.cells #[.int .i64 G, .slice A pl.length C] 71)
      clear hc1 hlt1 hG hpl HO x3
      cases hg : gok G with
      | false =>
        have CV := hide (fun W => valueNo G W (hide hg))
        have HP := hide (unhide HP1 (by rw [unhide HST, if_neg (by rw [hg]; simp)]; omega) 1 (by rw [unhide HST, if_neg (by rw [hg]; simp)]) _ hB2)
        obtain ⟨L, hL⟩ : ∃ L, pl.length = L := ⟨_, rfl⟩
        rw [hL] at x2 HP
        clear HST hL HP1 HPB HPG HP0 hg x6 x6' hB hB2 hbA hv hv2 HT
        go_wp2_with fail
        refine (unhide CV _).mono ?_
        rintro e w3 ⟨rfl, rfl⟩
        go_wp2
        go_ret
        exact unhide HP
      | true =>
        have CV := hide (fun W => valueOk G W (hide hg))
        have HST2 : Hid (oneF ps = if fault pl = 0 then oneF (ps.drop (j + 1)) else fault pl) := hide (by rw [unhide HST, if_pos hg])
        obtain ⟨V, hV⟩ : ∃ V, vlN G = V := ⟨_, rfl⟩
        rw [hV] at CV
        clear HST hg hV
        by_cases hf : fault pl = 0
        · have HO2 : Hid (oneF (ps.drop (j + 1)) = oneF ps) := hide (by rw [unhide HST2, if_pos hf])
          have CP := hide (Pls.check_ok A C pl _ x6' (hide hf))
          have hln : Hid ((hl.take j).length + 1 ≤ 1000000) := hide (by rw [List.length_take]; omega)
          obtain ⟨Z, hZ⟩ : ∃ Z, loud pl = Z := ⟨_, rfl⟩
          rw [hZ] at CP HT
          obtain ⟨L, hL⟩ : ∃ L, pl.length = L := ⟨_, rfl⟩
          rw [hL] at x2 CP hB2 hv2
          clear HST2 hf hZ hL x6 x6' x4 hbA hB hv
          go_wp2_with fail
          refine (unhide CV _).mono ?_
          rintro e w3 ⟨rfl, rfl⟩
          clear CV
          go_wp2_with fail
          refine (unhide CP).mono ?_
          rintro e w4 ⟨rfl, hb4⟩
          have hB4 := Below.chain hB2 hb4
          have hv4 := hv2.below hb4
          have hWs := hB4.size
          clear CP hB2 hb4 hv2
          go_wp2_with (at_builtin; refine wpList_app _ rfl _ _ rfl w.heap.size u9 (hl.take j) [(Z : Int)] _ _ rfl (hv4.alloc _) rfl (row_one _ _ _) (unhide hln) (by simp; omega) ?_; intro s' w6 k6 g6 at6)
          obtain ⟨d1, d2⟩ := stepped_plain hv4 hWs k6 g6 at6
          have hB6 := hB4.trans d1
          rw [← unhide HT] at k6
          clear hv4 hB4 d1 d2 g6 at6
          go_wp2
          go_roundw
          case rel => exact ⟨j + 1, by omega, by go_num, HO2, k6, hB6⟩
          case measure => simp [intOf]; omega
        · have HOF : Hid (oneF ps = fault pl) := hide (by rw [unhide HST2, if_neg hf])
          have CP := hide (Pls.check_no A C pl _ (by omega) x6' (hide hf))
          have HP := hide (unhide HP1 (by rw [unhide HOF]; exact hf) _ (unhide HOF))
          obtain ⟨F, hF⟩ : ∃ F, fault pl = F := ⟨_, rfl⟩
          rw [hF] at CP HP
          obtain ⟨L, hL⟩ : ∃ L, pl.length = L := ⟨_, rfl⟩
          rw [hL] at x2 CP hB2
          clear HST2 HOF hf hF hL x6 x6' x4 HP1 HPB HPG HP0 hv hv2 hB hbA HT
          go_wp2_with fail
          refine (unhide CV _).mono ?_
          rintro e w3 ⟨rfl, rfl⟩
          clear CV
          go_wp2_with fail
          refine (unhide CP).mono ?_
          rintro e w4 ⟨rfl, hb4⟩
          clear CP
          go_wp2
          go_ret
          exact unhide HP _ (Below.chain hB2 hb4)
    · obtain rfl : j = N := by omega
      have HO0 : Hid (oneF ps = 0) := hide (by rw [← unhide HO, ← unhide HPN, List.drop_length]; rfl)
      have HPB' := hide (unhide HPB (unhide HO0))
      have HPG' := hide (unhide HPG (unhide HO0))
      have HP0' := hide (unhide HP0 (unhide HO0))
      have HOZ := hide (oneF_zero (unhide HO0))
      have CG := unhide CPF wr (hp.below hB) (hs.below hB) (hide (fun i hi => (unhide HOZ i (by rw [unhide HPN]; exact hi)).1))
      rw [unhide HTA] at hv
      obtain ⟨p, q, rfl, hrow⟩ := hv.row
      rw [unhide HLL]
      clear HO HO0 HP1 HPB HPG HP0 CPF HOZ hv
      go_wp2_with fail
      refine CG.mono ?_
      clear CG
      rintro e w4 ⟨hsay, hb4⟩
      have hB4 := Below.chain hB hb4
      have hrow4 := hrow.below hb4
      rcases hsay with ⟨hno, rfl⟩ | ⟨hyes, v4, rfl, k4⟩
      · have HP := hide (unhide HPB' hno _ hB4)
        clear HPB' HPG' HP0' hno
        go_wp2
        go_ret
        exact unhide HP
      · have HPG2 := hide (unhide HPG' hyes)
        have HP02 := hide (unhide HP0' hyes)
        have HGL := hide (unhide HGVL hyes.1)
        obtain ⟨gv, hgv⟩ : ∃ gv, given (gns ps) s B = gv := ⟨_, rfl⟩
        rw [hgv] at k4 HPG2 HP02 HGL
        obtain ⟨p4, q4, rfl, r4⟩ := k4.row
        have CE := hide (equal p q hl p4 q4 gv w4 (by rw [unhide HLL]; omega) (by rw [unhide HGL, unhide HLL]) hrow4 r4)
        rw [unhide HLL, unhide HGL] at CE
        rw [unhide HGL]
        clear hgv HPB' HPG' HP0' hyes k4 HGVL
        go_wp2_with fail
        refine (unhide CE).mono ?_
        rintro e w5 ⟨t, rfl, ht, hb5⟩
        have hB5 := Below.chain hB4 hb5
        clear CE
        cases t with
        | false =>
          have HP := hide (unhide HPG2 false ht rfl _ hB5)
          clear HPG2 HP02 ht
          go_wp2
          go_ret
          exact unhide HP
        | true =>
          have HP := hide (unhide HP02 true ht rfl _ hB5)
          clear HPG2 HP02 ht
          go_wp2
          go_ret
          exact unhide HP

set_option maxRecDepth 100000 in
set_option maxHeartbeats 4000000 in
theorem check (a : Option Addr) (cap : Nat) (ps : List Prt) (b : Option Addr) (capb : Nat) (s : List Int) (B : Int) (w : World) (hp : Pts w a ps) (hs : Row w b s) (zp : ps.length ≤ 17592186044416) (zl : Hid (∀ i, i < ps.length → (prt ps i).2.length ≤ 17592186044416)) (zs : s.length ≤ 17592186044416) :
    Calls Tryz.prog 27 #[.slice a ps.length cap, .slice b s.length capb, .int .i64 B] w fun e w' => ∃ E, e = .returned (errV E) ∧ FrmF ps s B E ∧ Below w.heap.size w w' := by
  show Calls Tryz.prog 27 #[.slice a ps.length cap, .slice b s.length capb, .int .i64 B] w fun e w' => CkSays ps s B w e w'
  by_cases h1 : bf s = 0
  · by_cases h2 : ps.length = s.length ∧ Fits ps s
    · exact check_on a cap ps b capb s B w hp hs (hide h1) (hide h2.1) (hide h2.2)
    · have CBA := hide (Bnd.check_ok b capb s w (by omega) hs (hide h1))
      have CEF := hide (equalFunc a cap ps b capb s w (by omega) (by omega) hp hs)
      have HFB : Hid (∀ t, FitB ps s t → t = false) := hide (fun t h => by
        cases t with
        | false => rfl
        | true => exact absurd (h.1 rfl) h2)
      have HP : Hid (∀ w', Below w.heap.size w w' → CkSays ps s B w (.returned (.iface 60 (.int .i64 3))) w') := hide (fun w' hb => ck_fault (by
        by_cases h3 : ps.length = s.length
        · exact frm_fit h1 h3 (fun h => h2 ⟨h3, h⟩)
        · exact frm_len h1 h3) (by omega) hb)
      obtain ⟨TT, hTT⟩ : ∃ TT, total s = TT := ⟨_, rfl⟩
      rw [hTT] at CBA
      obtain ⟨N, hN⟩ : ∃ N, s.length = N := ⟨_, rfl⟩
      obtain ⟨M, hM⟩ : ∃ M, ps.length = M := ⟨_, rfl⟩
      rw [hN] at CBA CEF ⊢
      rw [hM] at CEF ⊢
      clear hTT hN hM h1 h2 zp zl zs
      go_enter Tryz.func27, Tryz.ntmps27
      go_wp2_with fail
      refine (unhide CBA).mono ?_
      rintro e w1 ⟨rfl, hw1⟩
      obtain rfl : w = w1 := hw1.symm
      go_wp2_with fail
      refine (unhide CEF).mono ?_
      rintro e w1 ⟨t, rfl, ht, hb1⟩
      obtain rfl : t = false := unhide HFB t ht
      clear ht
      go_wp2
      go_ret
      exact unhide HP _ hb1
  · have CBA := hide (Bnd.check_no b capb s w (by omega) hs (hide h1))
    have HP : Hid (∀ w', Below w.heap.size w w' → CkSays ps s B w (.returned (.iface 60 (.int .i64 (bf s)))) w') := hide (fun w' hb => ck_fault (frm_bf h1) h1 hb)
    obtain ⟨F, hF⟩ : ∃ F, bf s = F := ⟨_, rfl⟩
    rw [hF] at CBA HP
    obtain ⟨N, hN⟩ : ∃ N, s.length = N := ⟨_, rfl⟩
    obtain ⟨M, hM⟩ : ∃ M, ps.length = M := ⟨_, rfl⟩
    rw [hN] at CBA ⊢
    rw [hM]
    clear hF hN hM h1 zp zl zs
    go_enter Tryz.func27, Tryz.ntmps27
    go_wp2_with fail
    refine (unhide CBA).mono ?_
    rintro e w1 ⟨rfl, hw1⟩
    obtain rfl : w = w1 := hw1.symm
    go_wp2
    go_ret
    exact unhide HP _ (Below.refl _ _)

end Go.Proofs.YtjojeifoddonnakGreat.Frm

/-
  frame.PulsesFor, at a gain that there is not: by its contract.
-/
namespace Go.Proofs.YtjojeifoddonnakGreat.Frm
open Go.RowKit
open Go.Proofs.YtjojeifoddonnakGreat.Tre Go.Proofs.YtjojeifoddonnakGreat.Bnd Go.Proofs.YtjojeifoddonnakGreat.Pls Go.Proofs.YtjojeifoddonnakGreat.Gai Go.Proofs.YtjojeifoddonnakGreat.Shr Go.Proofs.YtjojeifoddonnakGreat.Lap Go.Proofs.YtjojeifoddonnakGreat.Mid
set_option linter.unusedVariables false

set_option maxRecDepth 100000 in
set_option maxHeartbeats 4000000 in
theorem pulsesFor_no (a : Option Addr) (cap : Nat) (ps : List Prt) (b : Option Addr) (n capb : Nat) (B : Int) (w : World) (hp : Pts w a ps) (h8 : ps.length ≤ 8) (hg : Hid (∃ i, i < ps.length ∧ gok (prt ps i).1 = false)) :
    Calls Tryz.prog 25 #[.slice a ps.length cap, .slice b n capb, .int .i64 B] w fun e w' => e = .returned (.tuple #[.slice none 0 0, .iface 60 (.int .i64 1)]) ∧ Below w.heap.size w w' := by
  obtain ⟨N, hN⟩ : ∃ N, ps.length = N := ⟨_, rfl⟩
  have HPN : Hid (ps.length = N) := hide hN
  rw [hN] at h8 hg ⊢
  obtain ⟨f, hf⟩ : ∃ f : Nat → Int, (fun i => (vlN (prt ps i).1 : Int)) = f := ⟨_, rfl⟩
  have HVF : Hid (∀ k, f k = vlN (prt ps k).1) := hide (fun k => by rw [← hf])
  clear hN hf
  go_enter Tryz.func25, Tryz.ntmps25
  go_wp2_with (at_make; refine wpList_mk _ rfl _ rfl N rfl (by omega) ?_; intro w2 k2 hb2)
  rw [← mid_zero f] at k2
  go_loopw [18] (fun i wr => ∃ k : Nat, k ≤ N ∧ i = .int .i64 k ∧ Has wr w.heap.size (.slice (some ⟨w.heap.size, 0, none⟩) N N) (mid f (fun _ => 0) N k) ∧ Hid (∀ r, r < k → gok (prt ps r).1 = true) ∧ Below w.heap.size w wr) (fun i _ => N - (intOf i).toNat)
  case atStart => exact ⟨0, Nat.zero_le _, rfl, k2, hide (fun r hr => by omega), hb2⟩
  case round =>
    obtain ⟨k, hk, rfl, hv, HO, hB⟩ := hrel
    clear k2 hb2
    by_cases hlt : k < N
    · have hlt' : k < ps.length := by rw [unhide HPN]; exact hlt
      obtain ⟨b1, off1, rfl, hb1, hc1⟩ := (hp.below hB).at hlt'
      obtain ⟨x1, A, C, x2, x3, x4, x5, x6⟩ := hc1 k hlt'
      have HF := hide (unhide HVF k)
      have HOK : Hid (gok (prt ps k).1 = true → ∀ r, r < k + 1 → gok (prt ps r).1 = true) := hide (fun h r hr => by
        by_cases e : r = k
        · rw [e]; exact h
        · exact unhide HO r (by omega))
      obtain ⟨G, hG⟩ : ∃ G, (prt ps k).1 = G := ⟨_, rfl⟩
      rw [hG] at x1 HF HOK
      obtain ⟨L, hL⟩ : ∃ L, (prt ps k).2.length = L := ⟨_, rfl⟩
      rw [hL] at x2
      clear hc1 hG hL hlt' x3 x4 x5 x6 HO
      have hv2 := hv.alloc (.cells #[.int .i64 G, .slice A L C] 71)
      have hB2 := hB.alloc hB.size (.cells #[.int .i64 G, .slice A L C] 71)
      cases hg0 : gok G with
      | false =>
        have CV := hide (fun W => valueNo G W (hide hg0))
        clear hv hB hv2 HF HOK
        go_wp2_with fail
        refine (unhide CV _).mono ?_
        rintro e w5 ⟨rfl, rfl⟩
        clear CV
        go_wp2
        go_ret2
        exact ⟨rfl, hB2⟩
      | true =>
        have CV := hide (fun W => valueOk G W (hide hg0))
        have HO2 := hide (unhide HOK hg0)
        obtain ⟨V, hV⟩ : ∃ V, vlN G = V := ⟨_, rfl⟩
        rw [hV] at CV HF
        have c2 := hv2.get (j := k) (by rw [mid_length]; exact hlt)
        rw [mid_at _ _ hlt] at c2
        have f2 := hv2.frozen k
        obtain ⟨m1, m2⟩ := hv2.put k V
        have HS := mid_set f (fun _ => 0) hlt
        rw [unhide HF] at HS
        rw [HS] at m1
        have m4 := Below.setCell (p := ⟨w.heap.size, k, none⟩) hB2 (Nat.le_refl _) (.int .i64 V)
        have M1 := hide m1
        have M4 := hide m4
        clear hv hB HS m1 m2 m4 HF hv2 hB2 hV HOK hg0
        go_wp2_with fail
        refine (unhide CV _).mono ?_
        rintro e w5 ⟨rfl, rfl⟩
        clear CV
        go_wp2
        go_roundw
        case rel => exact ⟨k + 1, by omega, by go_num, unhide M1, HO2, unhide M4⟩
        case measure => simp [intOf]; omega
    · exfalso
      obtain ⟨i, hi, h⟩ := unhide hg
      have := unhide HO i (by omega)
      rw [h] at this
      cases this

end Go.Proofs.YtjojeifoddonnakGreat.Frm
