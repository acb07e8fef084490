/-
  Package pulse: Check: by its contracts.
-/
import Derived.Test.YthkibjhhlcfceaiDoorCh24
import Derived.Test.YthkibjhhlcfceaiDoorCh23
import Derived.Test.YthkibjhhlcfceaiDoorCh21
import Derived.Test.YthkibjhhlcfceaiDoorCh04
import Derived.Test.YthkibjhhlcfceaiDoorCh05
namespace Go.Proofs.YthkibjhhlcfceaiDoor.Pls
open Go.RowKit
open Go.Proofs.YthkibjhhlcfceaiDoor.Tre Go.Proofs.YthkibjhhlcfceaiDoor.Lap
set_option linter.unusedVariables false

set_option maxHeartbeats 1000000 in
theorem check_ok (a : Option Addr) (cap : Nat) (l : List Int) (w : World) (hr : Row w a l) (h : Hid (fault l = 0)) :
    Calls Tryd.prog 7 #[.slice a l.length cap] w fun e w' => e = .returned (.tuple #[.int .i64 (loud l : Int), .nilIface]) ∧ Below w.heap.size w w' := by
  obtain ⟨h1, h2, h3⟩ := fault_ok (unhide h)
  have hb1 : Below w.heap.size w (w.alloc (.cells #[.int .i64 8] 3)) := (Below.refl _ _).alloc (Nat.le_refl _) _
  have HA := hide (any_of_in h2)
  have hr1 := hr.below hb1
  have hL := hide (loud_ok a cap l (w.alloc (.cells #[.int .i64 8] 3)) (by omega) (h2.mono (by omega)) hr1)
  obtain ⟨k, hk⟩ : ∃ k, loud l = k := ⟨_, rfl⟩
  rw [hk] at hL h3 ⊢
  clear hk
  go_enter Tryd.func7, Tryd.ntmps7
  go_wp2_with fail
  refine (beyond 8 w).mono ?_
  rintro e w1 ⟨rfl, rfl⟩
  go_wp2_with fail
  refine (containsFunc 8 a cap l w.heap.size (w.alloc (.cells #[.int .i64 8] 3)) (by omega) (by omega) (by omega) hr1 (boxed_cell w 8 3)).mono ?_
  rw [unhide HA]
  rintro e w1 ⟨rfl, rfl⟩
  go_wp2_with fail
  refine (unhide hL).mono ?_
  rintro e w2 ⟨rfl, hb2⟩
  go_wp2
  go_ret2
  exact ⟨rfl, Below.chain hb1 hb2⟩

set_option maxHeartbeats 1000000 in
theorem check_no (a : Option Addr) (cap : Nat) (l : List Int) (w : World) (hl : l.length ≤ 9223372036854775807) (hr : Row w a l) (h : Hid (fault l ≠ 0)) :
    Calls Tryd.prog 7 #[.slice a l.length cap] w fun e w' => e = .returned (.tuple #[.int .i64 0, .iface 47 (.int .i64 (fault l))]) ∧ Below w.heap.size w w' := by
  by_cases h1 : 6 < l.length
  · have hv : fault l = 4 := by unfold fault; rw [if_pos h1]
    rw [hv]
    clear hv h
    go_enter Tryd.func7, Tryd.ntmps7
    go_wp2
    go_ret2
    exact ⟨rfl, Below.refl _ _⟩
  · have hb1 : Below w.heap.size w (w.alloc (.cells #[.int .i64 8] 3)) := (Below.refl _ _).alloc (Nat.le_refl _) _
    have hr1 := hr.below hb1
    cases hany : l.any (out 8)
    · have h2 : In 8 l := in_of_any hany
      have hk : 8 < loud l := by
        rcases Nat.lt_or_ge 8 (loud l) with h' | h'
        · exact h'
        · exact absurd (fault_none (by omega) h2 h') (unhide h)
      have hv : fault l = 4 := by unfold fault; rw [if_neg h1, hany, if_neg (by simp), if_pos hk]
      rw [hv]
      have HA := hide hany
      have hle := loud_in (b := 8) h2
      have hL := hide (loud_ok a cap l (w.alloc (.cells #[.int .i64 8] 3)) (by omega) (h2.mono (by omega)) hr1)
      have hl6 : loud l ≤ 48 := by omega
      obtain ⟨k, hk'⟩ : ∃ k, loud l = k := ⟨_, rfl⟩
      rw [hk'] at hL hk hl6
      clear hv h hany hk' hle h2
      go_enter Tryd.func7, Tryd.ntmps7
      go_wp2_with fail
      refine (beyond 8 w).mono ?_
      rintro e w1 ⟨rfl, rfl⟩
      go_wp2_with fail
      refine (containsFunc 8 a cap l w.heap.size (w.alloc (.cells #[.int .i64 8] 3)) (by omega) (by omega) (by omega) hr1 (boxed_cell w 8 3)).mono ?_
      rw [unhide HA]
      rintro e w1 ⟨rfl, rfl⟩
      go_wp2_with fail
      refine (unhide hL).mono ?_
      rintro e w2 ⟨rfl, hb2⟩
      go_wp2
      go_ret2
      exact ⟨rfl, Below.chain hb1 hb2⟩
    · have hv : fault l = 1 := by unfold fault; rw [if_neg h1, hany, if_pos rfl]
      rw [hv]
      have HA := hide hany
      clear hv h hany
      go_enter Tryd.func7, Tryd.ntmps7
      go_wp2_with fail
      refine (beyond 8 w).mono ?_
      rintro e w1 ⟨rfl, rfl⟩
      go_wp2_with fail
      refine (containsFunc 8 a cap l w.heap.size (w.alloc (.cells #[.int .i64 8] 3)) (by omega) (by omega) (by omega) hr1 (boxed_cell w 8 3)).mono ?_
      rw [unhide HA]
      rintro e w1 ⟨rfl, rfl⟩
      go_wp2
      go_ret2
      exact ⟨rfl, hb1⟩

end Go.Proofs.YthkibjhhlcfceaiDoor.Pls

/-
  frame.Check: by its contract.
-/
namespace Go.Proofs.YthkibjhhlcfceaiDoor.Frm
open Go.RowKit
open Go.Proofs.YthkibjhhlcfceaiDoor.Tre Go.Proofs.YthkibjhhlcfceaiDoor.Bnd Go.Proofs.YthkibjhhlcfceaiDoor.Pls Go.Proofs.YthkibjhhlcfceaiDoor.Gai Go.Proofs.YthkibjhhlcfceaiDoor.Shr Go.Proofs.YthkibjhhlcfceaiDoor.Ev
set_option linter.unusedVariables false

/-- What Check tells. -/
def CkSays (ps : List Prt) (s : List Int) (B : Int) (w : World) (e : Ending) (w' : World) : Prop := ∃ E, e = .returned (errV E) ∧ FrmF ps s B E ∧ Below w.heap.size w w'
theorem ck_fault {ps : List Prt} {s : List Int} {B F : Int} {w w' : World} (h : FrmF ps s B F) (hF : F ≠ 0) (hb : Below w.heap.size w w') : CkSays ps s B w (.returned (.iface 47 (.int .i64 F))) w' := ⟨F, by rw [errV_ne hF], h, hb⟩
/-- How many pulses the parts have. -/
def lds1 (ps : List Prt) : List Int := ps.map fun p => (loud p.2 : Int)
theorem lds1_length (ps : List Prt) : (lds1 ps).length = ps.length := by simp [lds1]
theorem lds1_at {ps : List Prt} {i : Nat} (h : i < ps.length) : at0 (lds1 ps) i = (loud (prt ps i).2 : Int) := by
  unfold at0 lds1
  rw [List.getElem?_map, List.getElem?_eq_getElem h, prt_get h]
  rfl
theorem lds1_take {ps : List Prt} {k : Nat} (h : k < ps.length) : (lds1 ps).take (k + 1) = (lds1 ps).take k ++ [(loud (prt ps k).2 : Int)] := by
  rw [List.take_succ_eq_append_getElem (by rw [lds1_length]; exact h)]
  have e2 : at0 (lds1 ps) k = (lds1 ps)[k]'(by rw [lds1_length]; exact h) := by simp [at0, lds1_length, h]
  rw [← e2, lds1_at h]

set_option maxRecDepth 100000 in
set_option maxHeartbeats 8000000 in
theorem check_on (a : Option Addr) (cap : Nat) (ps : List Prt) (b : Option Addr) (capb : Nat) (s : List Int) (B : Int) (w : World) (hp : Pts w a ps) (hs : Row w b s) (h1 : Hid (bf s = 0)) (h2 : Hid (ps.length = s.length)) (h3 : Hid (Fits ps s)) :
    Calls Tryd.prog 6 #[.slice a ps.length cap, .slice b s.length capb, .int .i64 B] w fun e w' => CkSays ps s B w e w' := by
  obtain ⟨n0, n8, hsz, n32⟩ := bf_ok (unhide h1)
  have CBA := hide (Bnd.check_ok b capb s w (by omega) hs h1)
  have CEF := hide (equalFunc a cap ps b capb s w (by rw [unhide h2]; omega) (by omega) hp hs)
  have HFB : Hid (∀ t, FitB ps s t → t = true) := hide (fun t h => h.2 ⟨unhide h2, unhide h3⟩)
  have HP1 : Hid (oneF ps ≠ 0 → ∀ F, oneF ps = F → ∀ w', Below w.heap.size w w' → CkSays ps s B w (.returned (.iface 47 (.int .i64 F))) w') := hide (fun h' F hF w' hb => ck_fault (by rw [← hF]; exact frm_one (unhide h1) (unhide h2) (unhide h3) h') (by rw [← hF]; exact h') hb)
  have HPB : Hid (oneF ps = 0 → ¬ (0 ≤ B ∧ B ≤ 400) → ∀ w', Below w.heap.size w w' → CkSays ps s B w (.returned (.iface 47 (.int .i64 1))) w') := hide (fun h' h5 w' hb => ck_fault (frm_bits (unhide h1) (unhide h2) (unhide h3) h' h5) (by omega) hb)
  have HPG : Hid (oneF ps = 0 → (0 ≤ B ∧ B ≤ 400) → ∀ t, AliB (lds1 ps) (given (gns ps) s B) t → t = false → ∀ w', Below w.heap.size w w' → CkSays ps s B w (.returned (.iface 47 (.int .i64 3))) w') := hide (fun h' h5 t ht hf w' hb => ck_fault (frm_gets (unhide h1) (unhide h2) (unhide h3) h' h5 (fun hg => by
    have : t = true := ht.2 (fun i hi => by rw [lds1_length] at hi; rw [lds1_at hi]; exact hg i hi)
    rw [hf] at this
    cases this)) (by omega) hb)
  have HP0 : Hid (oneF ps = 0 → (0 ≤ B ∧ B ≤ 400) → ∀ t, AliB (lds1 ps) (given (gns ps) s B) t → t = true → ∀ w', Below w.heap.size w w' → CkSays ps s B w (.returned .nilIface) w') := hide (fun h' h5 t ht hf w' hb => ⟨0, rfl, frm_ok (unhide h1) (unhide h2) (unhide h3) h' h5 (fun i hi => by
    rw [← lds1_at hi]
    exact (ht.1 hf) i (by rw [lds1_length]; exact hi)), hb⟩)
  have HGVL : Hid (0 ≤ B → (given (gns ps) s B).length = s.length) := hide (fun hB => (share_is (d := vals (gns ps)) hsz n8 hB).1.len)
  have CPF := hide (fun W h h' hg => pulsesFor a cap ps b capb s B W h h' h1 (unhide h2) hg)
  have HD0 : Hid (oneF (ps.drop 0) = oneF ps) := hide (by rw [List.drop_zero])
  have HT0 : Hid ((lds1 ps).take 0 = []) := hide rfl
  have HTA : Hid ((lds1 ps).take ps.length = lds1 ps) := hide (by rw [← lds1_length, List.take_length])
  have HLL := hide (lds1_length ps)
  have HTK : Hid (∀ k, k < ps.length → (lds1 ps).take (k + 1) = (lds1 ps).take k ++ [(loud (prt ps k).2 : Int)]) := hide (fun k hk => lds1_take hk)
  obtain ⟨hl, hhl⟩ : ∃ hl, lds1 ps = hl := ⟨_, rfl⟩
  rw [hhl] at HPG HP0 HT0 HTA HLL HTK
  obtain ⟨TT, hTT⟩ : ∃ TT, total s = TT := ⟨_, rfl⟩
  rw [hTT] at CBA
  obtain ⟨N, hN⟩ : ∃ N, s.length = N := ⟨_, rfl⟩
  have HN := hide hN
  have HPN : Hid (ps.length = N) := hide ((unhide h2).trans hN)
  rw [unhide h2, hN] at CPF CEF HTA HLL
  rw [unhide h2, hN]
  rw [hN] at CBA HGVL n0 n8
  clear hhl hTT hN hsz n32 h1 h2 h3
  go_enter Tryd.func6, Tryd.ntmps6
  go_wp2_with fail
  refine (unhide CBA).mono ?_
  rintro e w1 ⟨rfl, hw1⟩
  obtain rfl : w = w1 := hw1.symm
  clear CBA hw1
  go_wp2_with fail
  refine (unhide CEF).mono ?_
  rintro e w1 ⟨t, rfl, ht, hb1⟩
  obtain rfl : t = true := unhide HFB t ht
  clear CEF HFB ht
  go_wp2
  go_loopw [9, 33] (fun v i wr => ∃ k : Nat, k ≤ N ∧ i = .int .i64 k ∧ Hid (oneF (ps.drop k) = oneF ps) ∧ Has wr w.heap.size v (hl.take k) ∧ Below w.heap.size w wr) (fun _ i _ => N - (intOf i).toNat)
  case atStart => exact ⟨0, Nat.zero_le _, rfl, HD0, by rw [unhide HT0]; exact Has.nil _ _, hb1⟩
  case round =>
    obtain ⟨j, hj, rfl, HO, hv, hB⟩ := hrel
    clear HD0 HT0 hb1
    by_cases hlt : j < N
    · have hlt1 : j < ps.length := by rw [unhide HPN]; exact hlt
      obtain ⟨b1, off1, rfl, hbw, hc1⟩ := (hp.below hB).at hlt1
      obtain ⟨x1, A, C, x2, x3, x4, x5, x6⟩ := hc1 j hlt1
      have HST : Hid (oneF ps = if gok (prt ps j).1 = true then (if fault (prt ps j).2 = 0 then oneF (ps.drop (j + 1)) else fault (prt ps j).2) else 1) := hide (by rw [← unhide HO, drop_prt hlt1, oneF])
      have HT := hide (unhide HTK j hlt1)
      obtain ⟨G, hG⟩ : ∃ G, (prt ps j).1 = G := ⟨_, rfl⟩
      obtain ⟨pl, hpl⟩ : ∃ pl, (prt ps j).2 = pl := ⟨_, rfl⟩
      rw [hG] at x1 HST
      rw [hpl] at x2 x4 x6 HST HT
      have hB2 := hB.alloc hB.size (.cells #[.int .i64 G, .slice A pl.length C] 29)
      have hbA : Below wr.heap.size wr (wr.alloc (.cells #[.int .i64 G, .slice A pl.length C] 29)) := (Below.refl _ _).alloc (Nat.le_refl _) _
      have x6' := x6.below hbA
      have hv2 := hv.alloc (.cells #[.int .i64 G, .slice A pl.length C] 29)
      clear hc1 hlt1 hG hpl HO x3
      cases hg : gok G with
      | false =>
        have CV := hide (fun W => valueNo G W (hide hg))
        have HP := hide (unhide HP1 (by rw [unhide HST, if_neg (by rw [hg]; simp)]; omega) 1 (by rw [unhide HST, if_neg (by rw [hg]; simp)]) _ hB2)
        obtain ⟨L, hL⟩ : ∃ L, pl.length = L := ⟨_, rfl⟩
        rw [hL] at x2 HP
        clear HST hL HP1 HPB HPG HP0 hg x6 x6' hB hB2 hbA hv hv2 HT
        go_wp2_with fail
        refine (unhide CV _).mono ?_
        rintro e w3 ⟨rfl, rfl⟩
        go_wp2
        go_ret
        exact unhide HP
      | true =>
        have CV := hide (fun W => valueOk G W (hide hg))
        have HST2 : Hid (oneF ps = if fault pl = 0 then oneF (ps.drop (j + 1)) else fault pl) := hide (by rw [unhide HST, if_pos hg])
        obtain ⟨V, hV⟩ : ∃ V, vlN G = V := ⟨_, rfl⟩
        rw [hV] at CV
        clear HST hg hV
        by_cases hf : fault pl = 0
        · have HO2 : Hid (oneF (ps.drop (j + 1)) = oneF ps) := hide (by rw [unhide HST2, if_pos hf])
          have CP := hide (Pls.check_ok A C pl _ x6' (hide hf))
          have hln : Hid ((hl.take j).length + 1 ≤ 1000000) := hide (by rw [List.length_take]; omega)
          obtain ⟨Z, hZ⟩ : ∃ Z, loud pl = Z := ⟨_, rfl⟩
          rw [hZ] at CP HT
          obtain ⟨L, hL⟩ : ∃ L, pl.length = L := ⟨_, rfl⟩
          rw [hL] at x2 CP hB2 hv2
          clear HST2 hf hZ hL x6 x6' x4 hbA hB hv
          go_wp2_with fail
          refine (unhide CV _).mono ?_
          rintro e w3 ⟨rfl, rfl⟩
          clear CV
          go_wp2_with fail
          refine (unhide CP).mono ?_
          rintro e w4 ⟨rfl, hb4⟩
          have hB4 := Below.chain hB2 hb4
          have hv4 := hv2.below hb4
          have hWs := hB4.size
          clear CP hB2 hb4 hv2
          go_wp2_with (at_builtin; refine wpList_app _ rfl _ _ rfl w.heap.size u9 (hl.take j) [(Z : Int)] _ _ rfl (hv4.alloc _) rfl (row_one _ _ _) (unhide hln) (by simp; omega) ?_; intro s' w6 k6 g6 at6)
          obtain ⟨d1, d2⟩ := stepped_plain hv4 hWs k6 g6 at6
          have hB6 := hB4.trans d1
          rw [← unhide HT] at k6
          clear hv4 hB4 d1 d2 g6 at6
          go_wp2
          go_roundw
          case rel => exact ⟨j + 1, by omega, by go_num, HO2, k6, hB6⟩
          case measure => simp [intOf]; omega
        · have HOF : Hid (oneF ps = fault pl) := hide (by rw [unhide HST2, if_neg hf])
          have CP := hide (Pls.check_no A C pl _ (by omega) x6' (hide hf))
          have HP := hide (unhide HP1 (by rw [unhide HOF]; exact hf) _ (unhide HOF))
          obtain ⟨F, hF⟩ : ∃ F, fault pl = F := ⟨_, rfl⟩
          rw [hF] at CP HP
          obtain ⟨L, hL⟩ : ∃ L, pl.length = L := ⟨_, rfl⟩
          rw [hL] at x2 CP hB2
          clear HST2 HOF hf hF hL x6 x6' x4 HP1 HPB HPG HP0 hv hv2 hB hbA HT
          go_wp2_with fail
          refine (unhide CV _).mono ?_
          rintro e w3 ⟨rfl, rfl⟩
          clear CV
          go_wp2_with fail
          refine (unhide CP).mono ?_
          rintro e w4 ⟨rfl, hb4⟩
          clear CP
          go_wp2
          go_ret
          exact unhide HP _ (Below.chain hB2 hb4)
    · obtain rfl : j = N := by omega
      have HO0 : Hid (oneF ps = 0) := hide (by rw [← unhide HO, ← unhide HPN, List.drop_length]; rfl)
      have HPB' := hide (unhide HPB (unhide HO0))
      have HPG' := hide (unhide HPG (unhide HO0))
      have HP0' := hide (unhide HP0 (unhide HO0))
      have HOZ := hide (oneF_zero (unhide HO0))
      have CG := unhide CPF wr (hp.below hB) (hs.below hB) (hide (fun i hi => (unhide HOZ i (by rw [unhide HPN]; exact hi)).1))
      rw [unhide HTA] at hv
      obtain ⟨p, q, rfl, hrow⟩ := hv.row
      rw [unhide HLL]
      clear HO HO0 HP1 HPB HPG HP0 CPF HOZ hv
      go_wp2_with fail
      refine CG.mono ?_
      clear CG
      rintro e w4 ⟨hsay, hb4⟩
      have hB4 := Below.chain hB hb4
      have hrow4 := hrow.below hb4
      rcases hsay with ⟨hno, rfl⟩ | ⟨hyes, v4, rfl, k4⟩
      · have HP := hide (unhide HPB' hno _ hB4)
        clear HPB' HPG' HP0' hno
        go_wp2
        go_ret
        exact unhide HP
      · have HPG2 := hide (unhide HPG' hyes)
        have HP02 := hide (unhide HP0' hyes)
        have HGL := hide (unhide HGVL hyes.1)
        obtain ⟨gv, hgv⟩ : ∃ gv, given (gns ps) s B = gv := ⟨_, rfl⟩
        rw [hgv] at k4 HPG2 HP02 HGL
        obtain ⟨p4, q4, rfl, r4⟩ := k4.row
        have CE := hide (equal p q hl p4 q4 gv w4 (by rw [unhide HLL]; omega) (by rw [unhide HGL, unhide HLL]) hrow4 r4)
        rw [unhide HLL, unhide HGL] at CE
        rw [unhide HGL]
        clear hgv HPB' HPG' HP0' hyes k4 HGVL
        go_wp2_with fail
        refine (unhide CE).mono ?_
        rintro e w5 ⟨t, rfl, ht, hb5⟩
        have hB5 := Below.chain hB4 hb5
        clear CE
        cases t with
        | false =>
          have HP := hide (unhide HPG2 false ht rfl _ hB5)
          clear HPG2 HP02 ht
          go_wp2
          go_ret
          exact unhide HP
        | true =>
          have HP := hide (unhide HP02 true ht rfl _ hB5)
          clear HPG2 HP02 ht
          go_wp2
          go_ret
          exact unhide HP

set_option maxRecDepth 100000 in
set_option maxHeartbeats 4000000 in
theorem check (a : Option Addr) (cap : Nat) (ps : List Prt) (b : Option Addr) (capb : Nat) (s : List Int) (B : Int) (w : World) (hp : Pts w a ps) (hs : Row w b s) (zp : ps.length ≤ 17592186044416) (zl : Hid (∀ i, i < ps.length → (prt ps i).2.length ≤ 17592186044416)) (zs : s.length ≤ 17592186044416) :
    Calls Tryd.prog 6 #[.slice a ps.length cap, .slice b s.length capb, .int .i64 B] w fun e w' => ∃ E, e = .returned (errV E) ∧ FrmF ps s B E ∧ Below w.heap.size w w' := by
  show Calls Tryd.prog 6 #[.slice a ps.length cap, .slice b s.length capb, .int .i64 B] w fun e w' => CkSays ps s B w e w'
  by_cases h1 : bf s = 0
  · by_cases h2 : ps.length = s.length ∧ Fits ps s
    · exact check_on a cap ps b capb s B w hp hs (hide h1) (hide h2.1) (hide h2.2)
    · have CBA := hide (Bnd.check_ok b capb s w (by omega) hs (hide h1))
      have CEF := hide (equalFunc a cap ps b capb s w (by omega) (by omega) hp hs)
      have HFB : Hid (∀ t, FitB ps s t → t = false) := hide (fun t h => by
        cases t with
        | false => rfl
        | true => exact absurd (h.1 rfl) h2)
      have HP : Hid (∀ w', Below w.heap.size w w' → CkSays ps s B w (.returned (.iface 47 (.int .i64 3))) w') := hide (fun w' hb => ck_fault (by
        by_cases h3 : ps.length = s.length
        · exact frm_fit h1 h3 (fun h => h2 ⟨h3, h⟩)
        · exact frm_len h1 h3) (by omega) hb)
      obtain ⟨TT, hTT⟩ : ∃ TT, total s = TT := ⟨_, rfl⟩
      rw [hTT] at CBA
      obtain ⟨N, hN⟩ : ∃ N, s.length = N := ⟨_, rfl⟩
      obtain ⟨M, hM⟩ : ∃ M, ps.length = M := ⟨_, rfl⟩
      rw [hN] at CBA CEF ⊢
      rw [hM] at CEF ⊢
      clear hTT hN hM h1 h2 zp zl zs
      go_enter Tryd.func6, Tryd.ntmps6
      go_wp2_with fail
      refine (unhide CBA).mono ?_
      rintro e w1 ⟨rfl, hw1⟩
      obtain rfl : w = w1 := hw1.symm
      go_wp2_with fail
      refine (unhide CEF).mono ?_
      rintro e w1 ⟨t, rfl, ht, hb1⟩
      obtain rfl : t = false := unhide HFB t ht
      clear ht
      go_wp2
      go_ret
      exact unhide HP _ hb1
  · have CBA := hide (Bnd.check_no b capb s w (by omega) hs (hide h1))
    have HP : Hid (∀ w', Below w.heap.size w w' → CkSays ps s B w (.returned (.iface 47 (.int .i64 (bf s)))) w') := hide (fun w' hb => ck_fault (frm_bf h1) h1 hb)
    obtain ⟨F, hF⟩ : ∃ F, bf s = F := ⟨_, rfl⟩
    rw [hF] at CBA HP
    obtain ⟨N, hN⟩ : ∃ N, s.length = N := ⟨_, rfl⟩
    obtain ⟨M, hM⟩ : ∃ M, ps.length = M := ⟨_, rfl⟩
    rw [hN] at CBA ⊢
    rw [hM]
    clear hF hN hM h1 zp zl zs
    go_enter Tryd.func6, Tryd.ntmps6
    go_wp2_with fail
    refine (unhide CBA).mono ?_
    rintro e w1 ⟨rfl, hw1⟩
    obtain rfl : w = w1 := hw1.symm
    go_wp2
    go_ret
    exact unhide HP _ (Below.refl _ _)

end Go.Proofs.YthkibjhhlcfceaiDoor.Frm

/-
  frame.manyNumbers: by its contract.
-/
namespace Go.Proofs.YthkibjhhlcfceaiDoor.Frm
open Go.RowKit
open Go.Proofs.YthkibjhhlcfceaiDoor.Tre Go.Proofs.YthkibjhhlcfceaiDoor.Bnd
set_option linter.unusedVariables false

set_option maxRecDepth 100000 in
set_option maxHeartbeats 4000000 in
theorem manyNumbers (a : Option Addr) (cap : Nat) (ps : List Prt) (w : World) (hp : Pts w a ps) (zp : ps.length ≤ 8) (zl : Hid (∀ i, i < ps.length → (prt ps i).2.length ≤ 17592186044416)) :
    Calls Tryd.prog 29 #[.slice a ps.length cap] w fun e w' => e = .returned (.int .i64 (long ps : Nat)) ∧ Below w.heap.size w w' := by
  have HL0 : Hid (long (ps.take 0) = 0) := hide rfl
  have HLA : Hid (long (ps.take ps.length) = long ps) := hide (by rw [List.take_length])
  obtain ⟨M, hM⟩ : ∃ M, long ps = M := ⟨_, rfl⟩
  rw [hM] at HLA ⊢
  obtain ⟨N, hN⟩ : ∃ N, ps.length = N := ⟨_, rfl⟩
  have HN := hide hN
  rw [hN] at zp zl HLA ⊢
  clear hM hN
  go_enter Tryd.func29, Tryd.ntmps29
  go_wp2
  go_loopw [3, 8] (fun n i wr => ∃ (k T : Nat), k ≤ N ∧ i = .int .i64 k ∧ n = .int .i64 T ∧ Hid (long (ps.take k) = T) ∧ T ≤ k * 17592186044416 ∧ Below w.heap.size w wr) (fun _ i _ => N - (intOf i).toNat)
  case atStart => exact ⟨0, 0, Nat.zero_le _, rfl, rfl, HL0, by omega, Below.refl _ _⟩
  case round =>
    obtain ⟨k, T, hk, rfl, rfl, HT, hT, hB⟩ := hrel
    clear HL0
    by_cases hlt : k < N
    · have hlt1 : k < ps.length := by rw [unhide HN]; exact hlt
      obtain ⟨b1, off1, rfl, hb1, hc1⟩ := (hp.below hB).at hlt1
      obtain ⟨x1, A, C, x2, x3, x4, x5, x6⟩ := hc1 k hlt1
      have HT2 := hide (long_step hlt1)
      rw [unhide HT] at HT2
      have hz := unhide zl k hlt
      obtain ⟨L, hL⟩ : ∃ L, (prt ps k).2.length = L := ⟨_, rfl⟩
      rw [hL] at x2 HT2 hz
      obtain ⟨G, hG⟩ : ∃ G, (prt ps k).1 = G := ⟨_, rfl⟩
      rw [hG] at x1
      have w1 : IntKind.i64.wrap ((T : Int) + (L : Int)) = ((T + L : Nat) : Int) := by rw [IntWalk.i64_in _ (by omega)]; omega
      obtain ⟨T2, hT2⟩ : ∃ T2, T + L = T2 := ⟨_, rfl⟩
      have hT3 : T2 ≤ (k + 1) * 17592186044416 := by omega
      rw [hT2] at w1 HT2
      clear hc1 hL hlt1 hT2 HT x3 x4 x5 x6 hT hz hG
      go_wp2
      go_roundw
      case rel => exact ⟨k + 1, T2, by omega, by go_num, by first | rfl | go_num, HT2, hT3, hB.alloc hB.size _⟩
      case measure => simp [intOf]; omega
    · obtain rfl : k = N := by omega
      obtain rfl : T = M := (unhide HT).symm.trans (unhide HLA)
      go_wp2
      go_ret
      exact ⟨rfl, hB⟩

end Go.Proofs.YthkibjhhlcfceaiDoor.Frm
