/-
  frame.Decode: by its contract.
-/
import Derived.Test.YthkibjhhlcfceaiDoorCh23
import Derived.Test.YthkibjhhlcfceaiDoorCh25
import Derived.Test.YthkibjhhlcfceaiDoorCh26
import Derived.Test.YthkibjhhlcfceaiDoorCh03
import Derived.Test.YthkibjhhlcfceaiDoorCh00
import Derived.LaidEql
import Derived.Stop.Asserts
import Derived.RowKitTokens
namespace Go.Proofs.YthkibjhhlcfceaiDoor.Frm
open Go.RowKit
open Go.Proofs.YthkibjhhlcfceaiDoor.Tre Go.Proofs.YthkibjhhlcfceaiDoor.Bnd Go.Proofs.YthkibjhhlcfceaiDoor.Pls Go.Proofs.YthkibjhhlcfceaiDoor.Gai Go.Proofs.YthkibjhhlcfceaiDoor.Ev
set_option linter.unusedVariables false

/-- What Decode tells. -/
def DecSays (ps : List Prt) (w : World) (e : Ending) (w' : World) : Prop := ∃ p q, e = .returned (.tuple #[.slice p (decL ps).length q, errV (decF ps)]) ∧ Row w' p (decL ps) ∧ (decL ps).length ≤ q ∧ q ≤ 9223372036854775807 ∧ Below w.heap.size w w'
theorem dec_fault {ps : List Prt} {F : Int} {w w' : World} (h : decF ps = F) (hF : F ≠ 0) (hb : Below w.heap.size w w') : DecSays ps w (.returned (.tuple #[.slice none 0 0, .iface 47 (.int .i64 F)])) w' := by
  have e : decL ps = [] := by unfold decL; rw [if_neg (by rw [h]; exact hF)]
  exact ⟨none, 0, by rw [e, h, errV_ne hF]; rfl, by rw [e]; exact Or.inl rfl, by rw [e]; exact Nat.le_refl _, by omega, hb⟩
theorem dec_fine {ps : List Prt} {v : Value} {w w' : World} (h : decF ps = 0) (hv : Has w' w.heap.size v (Lap.unlap (all ps))) (hb : Below w.heap.size w w') : DecSays ps w (.returned (.tuple #[v, .nilIface])) w' := by
  have e : decL ps = Lap.unlap (all ps) := by unfold decL; rw [if_pos h]
  obtain ⟨p, q, rfl, h1, h2, h3⟩ := has_room hv
  exact ⟨p, q, by rw [e, h]; rfl, by rw [e]; exact h1, by rw [e]; exact h2, h3, hb⟩

set_option maxRecDepth 100000 in
set_option maxHeartbeats 8000000 in
theorem decode (a : Option Addr) (cap : Nat) (ps : List Prt) (w : World) (hp : Pts w a ps) (zp : ps.length ≤ 17592186044416) (zl : Hid (∀ i, i < ps.length → (prt ps i).2.length ≤ 17592186044416)) :
    Calls Tryd.prog 9 #[.slice a ps.length cap] w fun e w' => ∃ p q, e = .returned (.tuple #[.slice p (decL ps).length q, errV (decF ps)]) ∧ Row w' p (decL ps) ∧ (decL ps).length ≤ q ∧ q ≤ 9223372036854775807 ∧ Below w.heap.size w w' := by
  show Calls Tryd.prog 9 #[.slice a ps.length cap] w fun e w' => DecSays ps w e w'
  by_cases h0 : ps.length = 0
  · have HP : Hid (DecSays ps w (.returned (.tuple #[.slice none 0 0, .iface 47 (.int .i64 5)])) w) := hide (dec_fault (by unfold decF; rw [if_pos h0]) (by omega) (Below.refl _ _))
    rw [h0]
    clear h0 zp zl
    go_enter Tryd.func9, Tryd.ntmps9
    go_wp2
    go_ret2
    exact unhide HP
  by_cases h8 : 8 < ps.length
  · have HP : Hid (DecSays ps w (.returned (.tuple #[.slice none 0 0, .iface 47 (.int .i64 4)])) w) := hide (dec_fault (by unfold decF; rw [if_neg h0, if_pos (Or.inl h8)]) (by omega) (Below.refl _ _))
    obtain ⟨N, hN⟩ : ∃ N, ps.length = N := ⟨_, rfl⟩
    rw [hN] at h0 h8 zp ⊢
    have n0 : ((N : Int) == 0) = false := by simp; omega
    have d8 : decide (8 < (N : Int)) = true := by simp; omega
    clear hN zl
    go_enter Tryd.func9, Tryd.ntmps9
    go_wp2
    go_ret2
    exact unhide HP
  have CMN := hide (manyNumbers a cap ps w hp (by omega) zl)
  by_cases h32 : 32 < long ps
  · have HP : Hid (∀ w', Below w.heap.size w w' → DecSays ps w (.returned (.tuple #[.slice none 0 0, .iface 47 (.int .i64 4)])) w') := hide (fun w' hb => dec_fault (by unfold decF; rw [if_neg h0, if_pos (Or.inr h32)]) (by omega) hb)
    obtain ⟨N, hN⟩ : ∃ N, ps.length = N := ⟨_, rfl⟩
    obtain ⟨M, hM⟩ : ∃ M, long ps = M := ⟨_, rfl⟩
    rw [hN] at h0 h8 zp CMN ⊢
    rw [hM] at h32 CMN
    have n0 : ((N : Int) == 0) = false := by simp; omega
    have d8 : decide (8 < (N : Int)) = false := by simp; omega
    have d32 : decide (32 < (M : Int)) = true := by simp; omega
    clear hN hM zl
    go_enter Tryd.func9, Tryd.ntmps9
    go_wp2_with fail
    refine (unhide CMN).mono ?_
    rintro e w1 ⟨rfl, hb1⟩
    go_wp2
    go_ret2
    exact unhide HP _ hb1
  · have hno : ¬ (8 < ps.length ∨ 32 < long ps) := by omega
    have HP2 : Hid (twoF ps ≠ 0 → ∀ F, twoF ps = F → ∀ w', Below w.heap.size w w' → DecSays ps w (.returned (.tuple #[.slice none 0 0, .iface 47 (.int .i64 F)])) w') := hide (fun h' F hF w' hb => dec_fault (by unfold decF; rw [if_neg h0, if_neg hno, if_neg h', hF]) (by rw [← hF]; exact h') hb)
    have HCK : Hid (twoF ps = 0 → Lap.chk (all ps) 4000 = decF ps) := hide (fun h => by
      unfold decF Lap.chk
      rw [if_neg h0, if_neg hno, if_pos h, all_length, if_neg (by omega)]
      by_cases h2 : long ps % 2 = 0
      · rw [if_pos h2, if_neg (fun h => h h2)]
      · rw [if_neg h2, if_pos h2])
    have HPN : Hid (∀ F, decF ps = F → F ≠ 0 → ∀ w', Below w.heap.size w w' → DecSays ps w (.returned (.tuple #[.slice none 0 0, .iface 47 (.int .i64 F)])) w') := hide (fun F h hF w' hb => dec_fault h hF hb)
    have HPO : Hid (decF ps = 0 → ∀ v w', Has w' w.heap.size v (Lap.unlap (all ps)) → Below w.heap.size w w' → DecSays ps w (.returned (.tuple #[v, .nilIface])) w') := hide (fun h v w' hv hb => dec_fine h hv hb)
    have HAA : Hid (all (ps.take ps.length) = all ps) := hide (by rw [List.take_length])
    have HAL := hide (all_length ps)
    have HD0 : Hid (twoF (ps.drop 0) = twoF ps) := hide (by rw [List.drop_zero])
    have HA0 : Hid (all (ps.take 0) = []) := hide rfl
    have HLL : Hid (∀ j, j ≤ ps.length → (all (ps.take j)).length ≤ long ps) := hide (fun j hj => by
      rw [all_length]
      have := long_mono ps (k := j) (m := ps.length) hj
      rw [List.take_length] at this
      exact this)
    obtain ⟨M, hM⟩ : ∃ M, long ps = M := ⟨_, rfl⟩
    rw [hM] at h32 CMN HAL HLL
    obtain ⟨N, hN⟩ : ∃ N, ps.length = N := ⟨_, rfl⟩
    have HN := hide hN
    rw [hN] at h0 h8 zp CMN HAA HLL ⊢
    have n0 : ((N : Int) == 0) = false := by simp; omega
    have d8 : decide (8 < (N : Int)) = false := by simp; omega
    have d32 : decide (32 < (M : Int)) = false := by simp; omega
    clear hM hN zl hno
    go_enter Tryd.func9, Tryd.ntmps9
    go_wp2_with fail
    refine (unhide CMN).mono ?_
    rintro e w1 ⟨rfl, hb1⟩
    clear CMN
    go_wp2
    go_loopw [4, 24] (fun v i wr => ∃ m : Nat, m ≤ N ∧ i = .int .i64 m ∧ Hid (twoF (ps.drop m) = twoF ps) ∧ Has wr w.heap.size v (all (ps.take m)) ∧ Below w.heap.size w wr) (fun _ i _ => N - (intOf i).toNat)
    case atStart => exact ⟨0, Nat.zero_le _, rfl, HD0, by rw [unhide HA0]; exact Has.nil _ _, hb1⟩
    case round =>
      obtain ⟨m, hm, rfl, HD, hv, hB⟩ := hrel
      clear HD0 HA0 hb1
      by_cases hlt : m < N
      · have hlt1 : m < ps.length := by rw [unhide HN]; exact hlt
        obtain ⟨b1, off1, rfl, hbw, hc1⟩ := (hp.below hB).at hlt1
        obtain ⟨x1, A, C, x2, x3, x4, x5, x6⟩ := hc1 m hlt1
        have HST : Hid (twoF ps = if fault (prt ps m).2 = 0 then (if gok (prt ps m).1 = true then twoF (ps.drop (m + 1)) else 1) else fault (prt ps m).2) := hide (by rw [← unhide HD, drop_prt hlt1, twoF])
        have HAS := hide (all_step hlt1)
        have HTL := hide (told_length (prt ps m))
        have HLm := hide (unhide HLL (m + 1) hlt)
        have HPE : Hid (told (prt ps m) = told ((prt ps m).1, (prt ps m).2)) := hide rfl
        rw [unhide HPE] at HAS HTL
        obtain ⟨G, hG⟩ : ∃ G, (prt ps m).1 = G := ⟨_, rfl⟩
        obtain ⟨pl, hpl⟩ : ∃ pl, (prt ps m).2 = pl := ⟨_, rfl⟩
        rw [hG] at x1 HST HAS HTL
        rw [hpl] at x2 x4 x6 HST HAS HTL
        have hbA : Below wr.heap.size wr (wr.alloc (.cells #[.int .i64 G, .slice A pl.length C] 29)) := (Below.refl _ _).alloc (Nat.le_refl _) _
        have hB2 := hB.alloc hB.size (.cells #[.int .i64 G, .slice A pl.length C] 29)
        have hv2 := hv.alloc (.cells #[.int .i64 G, .slice A pl.length C] 29)
        have CN := hide (numbersOf G A C pl _ (by omega) (x6.below hbA))
        obtain ⟨L, hL⟩ : ∃ L, pl.length = L := ⟨_, rfl⟩
        rw [hL] at x2 CN hB2 hv2 HTL
        clear hc1 hlt1 hG hpl HD x3 x6 hbA hv hB hL HPE x4
        go_wp2_with fail
        refine (unhide CN).mono ?_
        clear CN
        rintro e w3 ⟨hsay, hb3⟩
        have hB3 := Below.chain hB2 hb3
        have hv3 := hv2.below hb3
        clear hv2 hB2
        rcases hsay with ⟨hf, rfl⟩ | ⟨hf, hsay⟩
        · have HP := hide (unhide HP2 (by rw [unhide HST, if_neg hf]; exact hf) _ (by rw [unhide HST, if_neg hf]) _ hB3)
          obtain ⟨F, hF⟩ : ∃ F, fault pl = F := ⟨_, rfl⟩
          rw [hF] at HP ⊢
          clear HST HP2 HPN HPO HCK hf hF HAS HTL HLm hv3 hb3
          go_wp2
          go_ret2
          exact unhide HP
        · rcases hsay with ⟨hg, rfl⟩ | ⟨hg, v3, rfl, k3⟩
          · have HP := hide (unhide HP2 (by rw [unhide HST, if_pos hf, if_neg (by rw [hg]; simp)]; omega) 1 (by rw [unhide HST, if_pos hf, if_neg (by rw [hg]; simp)]) _ hB3)
            clear HST HP2 HPN HPO HCK hf hg HAS HTL HLm hv3 hb3
            go_wp2
            go_ret2
            exact unhide HP
          · have HD2 : Hid (twoF (ps.drop (m + 1)) = twoF ps) := hide (by rw [unhide HST, if_pos hf, if_pos hg])
            obtain ⟨tp, htp⟩ : ∃ tp, told (G, pl) = tp := ⟨_, rfl⟩
            rw [htp] at HAS k3 HTL
            obtain ⟨ap, hap⟩ : ∃ ap, all (ps.take m) = ap := ⟨_, rfl⟩
            rw [hap] at HAS hv3
            have hln : Hid (ap.length + tp.length ≤ 1000000) := hide (by
              have := unhide HLm
              rw [unhide HAS, List.length_append] at this
              omega)
            obtain ⟨p3, c3, rfl, r3⟩ := k3.row
            have hWs := hB3.size
            clear HST hf hg htp hap HLm HTL
            go_wp2_with (at_builtin; refine wpList_app _ rfl _ _ rfl w.heap.size u4 ap tp _ _ rfl hv3 rfl r3 (unhide hln) (by omega) ?_; intro s' w6 k6 g6 at6)
            have hB6 : Below w.heap.size w w6 := hB3.trans ((Below.refl _ w3).grown g6 hWs (fun j e => (hv3.lt j e).1))
            rw [← unhide HAS] at k6
            clear hv3 hB3 g6 at6 k3 r3 hb3
            go_wp2
            go_roundw
            case rel => exact ⟨m + 1, by omega, by go_num, HD2, k6, hB6⟩
            case measure => simp [intOf]; omega
      · obtain rfl : m = N := by omega
        have HO0 : Hid (twoF ps = 0) := hide (by rw [← unhide HD, ← unhide HN, List.drop_length]; rfl)
        have HC := hide (unhide HCK (unhide HO0))
        rw [unhide HAA] at hv
        obtain ⟨p, q, rfl, hrow⟩ := hv.row
        have hroom := Lap.has_roomy hv
        clear HO0 HCK HP2 HD hv
        by_cases hz : decF ps = 0
        · have CI := hide (Lap.inv_ok p q (all ps) wr (by rw [unhide HAL]; omega) hroom hrow (hide (by rw [unhide HC]; exact hz)))
          have HP := hide (unhide HPO hz)
          rw [unhide HAL] at CI
          rw [unhide HAL]
          clear hz HPN HPO HC hroom
          go_wp2_with fail
          refine (unhide CI).mono ?_
          clear CI
          rintro e w3 ⟨v3, rfl, k3, hb3⟩
          obtain ⟨p9, n9, q9, rfl⟩ := k3.shape
          go_wp2
          go_ret2
          exact unhide HP _ _ (k3.mono hB.size) (Below.chain hB hb3)
        · have CI := hide (Lap.inv_no p q (all ps) wr (by rw [unhide HAL]; omega) hrow (hide (by rw [unhide HC]; exact hz)))
          rw [unhide HC, unhide HAL] at CI
          have HP := hide (unhide HPN _ rfl hz)
          obtain ⟨F, hF⟩ : ∃ F, decF ps = F := ⟨_, rfl⟩
          rw [hF] at CI HP
          rw [unhide HAL]
          clear hz HPN HPO HC hroom hF
          go_wp2_with fail
          refine (unhide CI).mono ?_
          clear CI
          rintro e w3 ⟨rfl, hb3⟩
          go_wp2
          go_ret2
          exact unhide HP _ (Below.chain hB hb3)

end Go.Proofs.YthkibjhhlcfceaiDoor.Frm

/-
  More numbers of chapter 16: what is made is right. No program here.
-/
namespace Go.Proofs.YthkibjhhlcfceaiDoor.Frm
open Go.Proofs.YthkibjhhlcfceaiDoor.Tre Go.Proofs.YthkibjhhlcfceaiDoor.Bnd Go.Proofs.YthkibjhhlcfceaiDoor.Pls Go.Proofs.YthkibjhhlcfceaiDoor.Gai Go.Proofs.YthkibjhhlcfceaiDoor.Shr
set_option linter.unusedVariables false

theorem oneF_none' {ps : List Prt} (h : ∀ i, i < ps.length → gok (prt ps i).1 = true ∧ fault (prt ps i).2 = 0) : oneF ps = 0 := by
  induction ps with
  | nil => rfl
  | cons p ps ih =>
    have h0 : gok p.1 = true ∧ fault p.2 = 0 := h 0 (by simp)
    rw [oneF, if_pos h0.1, if_pos h0.2]
    exact ih fun i hi => h (i + 1) (by simpa using hi)
theorem twoF_none' {ps : List Prt} (h : ∀ i, i < ps.length → gok (prt ps i).1 = true ∧ fault (prt ps i).2 = 0) : twoF ps = 0 := by
  induction ps with
  | nil => rfl
  | cons p ps ih =>
    have h0 : gok p.1 = true ∧ fault p.2 = 0 := h 0 (by simp)
    rw [twoF, if_pos h0.2, if_pos h0.1]
    exact ih fun i hi => h (i + 1) (by simpa using hi)
theorem gok_gi {n : Nat} (h : n ≤ 8000) : gok (gi n : Int) = true := by
  have h := gi_near h
  unfold gok
  rw [Int.toNat_natCast, h.2.1]
  simp
  omega
/-- As many numbers as the first sizes say. -/
theorem long_pre {ps : List Prt} {s : List Int} (hl : ps.length = s.length) (h : ∀ i, i < ps.length → ((prt ps i).2.length : Int) = at0 s i) : ∀ k, k ≤ ps.length → long (ps.take k) = pre s k := by
  intro k
  induction k with
  | zero => intro _; rfl
  | succ k ih =>
    intro hk
    have e : ps.take (k + 1) = ps.take k ++ [prt ps k] := by rw [List.take_succ_eq_append_getElem (by omega), prt_get (by omega)]
    have h1 : long (ps.take (k + 1)) = long (ps.take k) + (prt ps k).2.length := by
      unfold long
      rw [e, List.map_append, List.sum_append]
      simp
    rw [h1, ih (by omega), pre_succ]
    have := h k (by omega)
    omega

/-- What is made is right. -/
structure Right (s : List Int) (B : Int) (ps : List Prt) : Prop where
  len : ps.length = s.length
  fit : ∀ i, i < ps.length → ((prt ps i).2.length : Int) = at0 s i
  ok : ∀ i, i < ps.length → gok (prt ps i).1 = true ∧ fault (prt ps i).2 = 0
  gets : ∀ i, i < ps.length → (loud (prt ps i).2 : Int) = at0 (given (gns ps) s B) i
theorem made_right {l s : List Int} {B : Int} {ps : List Prt} (h : encF l s B = 0) (hm : Made (cuts (Lap.lap l) s) s B ps) : Right s B ps := by
  obtain ⟨h1, h2, h3, h4, h5, h6, h7⟩ := encF_zero.1 h
  obtain ⟨n0, n8, hsz, n32⟩ := bf_ok h1
  have hll : (Lap.lap l).length = l.length := Lap.lap_length (by omega)
  have hsh := shaped_cuts (l := Lap.lap l) hsz (by rw [hll]; exact h2.symm)
  have hlen : ps.length = s.length := by rw [hm.1, cuts_length]
  have hgv : gns ps = gls (cuts (Lap.lap l) s) := hm.gns
  have hinv : Inv s (vals (gns ps)) B (given (gns ps) s B) := (share_is (d := vals (gns ps)) hsz n8 h5).1
  have key : ∀ i, i < ps.length → (at0 (given (gns ps) s B) i).toNat = 0 ∨ 0 < loud (rowAt (cuts (Lap.lap l) s) i) := fun i hi => by
    by_cases hz : loud (rowAt (cuts (Lap.lap l) s) i) = 0
    · left
      have e : at0 (vals (gns ps)) i = 0 := by
        rw [vals_at _ (by rw [gns_length]; exact hi), hgv, gls_at (by rw [cuts_length, ← hlen]; exact hi), hz]
        rfl
      rw [hinv.low i (by rw [hinv.len, ← hlen]; exact hi) e]
      rfl
    · right; omega
  have hpl : ∀ i, i < ps.length → 0 ≤ at0 (given (gns ps) s B) i ∧ at0 (given (gns ps) s B) i ≤ 8 := fun i hi => hinv.pls i (by rw [hinv.len, ← hlen]; exact hi)
  have hnr : ∀ i, i < ps.length → Nea.Near (rowAt (cuts (Lap.lap l) s) i) (at0 (given (gns ps) s B) i).toNat (prt ps i).2 := fun i hi => by
    rw [hgv]
    exact (hm.2 i (by rw [cuts_length, ← hlen]; exact hi)).2
  have hld : ∀ i, i < ps.length → loud (prt ps i).2 = (at0 (given (gns ps) s B) i).toNat := fun i hi => (hnr i hi).loud (key i hi)
  have hfit : ∀ i, i < ps.length → ((prt ps i).2.length : Int) = at0 s i := fun i hi => by
    rw [(hnr i hi).len]
    exact hsh.2 i (by rw [← hlen]; exact hi)
  refine ⟨hlen, hfit, fun i hi => ⟨?_, ?_⟩, fun i hi => ?_⟩
  · rw [(hm.2 i (by rw [cuts_length, ← hlen]; exact hi)).1]
    exact gok_gi (h7 i (by rw [← hlen]; exact hi))
  · have e1 := hld i hi
    have e2 := hpl i hi
    have e3 := hfit i hi
    have e4 := hsz i (by rw [← hlen]; exact hi)
    exact fault_none (by omega) (loud_all (by omega)) (by omega)
  · have e1 := hld i hi
    have e2 := hpl i hi
    omega
theorem Right.frm {s : List Int} {B : Int} {ps : List Prt} (h : Right s B ps) (h1 : bf s = 0) (h5 : 0 ≤ B ∧ B ≤ 400) : FrmF ps s B 0 :=
  Or.inr ⟨h1, Or.inr ⟨h.len, Or.inr ⟨h.fit, Or.inr ⟨oneF_none' h.ok, Or.inr ⟨h5, Or.inr ⟨h.gets, rfl⟩⟩⟩⟩⟩⟩
theorem Right.long {s : List Int} {B : Int} {ps : List Prt} (h : Right s B ps) : long ps = total s := by
  have := long_pre h.len h.fit ps.length (Nat.le_refl _)
  rw [List.take_length] at this
  rw [this, h.len]
  rfl
/-- Told, it is refused only because a number is too great. -/
theorem Right.dec {s : List Int} {B : Int} {ps : List Prt} (h : Right s B ps) (h1 : bf s = 0) (h2 : total s % 2 = 0) : decF ps = if (all ps).any (out 4000) = true then 1 else 0 := by
  obtain ⟨n0, n8, hsz, n32⟩ := bf_ok h1
  unfold decF
  rw [if_neg (by rw [h.len]; omega), if_neg (by rw [h.len, h.long]; omega), if_pos (twoF_none' h.ok), if_pos (by rw [h.long]; exact h2)]

/-- Numbers that are all 0. -/
theorem loud_zero {l : List Int} (h : loud l = 0) : l = List.replicate l.length 0 := by
  induction l with
  | nil => rfl
  | cons x l ih =>
    simp only [loud] at h
    have hx : x = 0 := by omega
    have hl := ih (by omega)
    rw [hx, List.length_cons, List.replicate_succ, ← hl]
theorem loud_rep (n : Nat) : loud (List.replicate n 0) = 0 := by
  induction n with
  | zero => rfl
  | succ n ih => rw [List.replicate_succ]; simp only [loud]; rw [ih]; rfl
theorem lap_zeros {n : Nat} (h : n % 2 = 0) : Lap.lap (List.replicate n 0) = List.replicate n 0 := by
  obtain ⟨m, rfl⟩ : ∃ m, n = 2 * m := ⟨n / 2, by omega⟩
  rw [Lap.lap_flat, List.replicate_append_replicate]
  congr 1
  omega
theorem unlap_zeros {n : Nat} (h : n % 2 = 0) : Lap.unlap (List.replicate n 0) = List.replicate n 0 := by
  have h1 := Lap.unlap_lap (l := List.replicate n (0 : Int)) (by rw [List.length_replicate]; omega)
  rwa [lap_zeros h] at h1
theorem told_zero {p : Prt} (h : loud p.2 = 0) : told p = List.replicate p.2.length 0 := by
  unfold told
  rw [h]
  refine List.eq_replicate_iff.2 ⟨by simp, fun x hx => ?_⟩
  obtain ⟨y, _, rfl⟩ := List.mem_map.1 hx
  simp [tl]
theorem all_zero {ps : List Prt} (h : ∀ i, i < ps.length → loud (prt ps i).2 = 0) : all ps = List.replicate (long ps) 0 := by
  induction ps with
  | nil => rfl
  | cons p ps ih =>
    have h0 : loud p.2 = 0 := h 0 (by simp)
    have h1 := ih fun i hi => h (i + 1) (by simpa using hi)
    have e1 : all (p :: ps) = told p ++ all ps := rfl
    have e2 : long (p :: ps) = p.2.length + long ps := by simp [long]
    rw [e1, e2, told_zero h0, h1, List.replicate_append_replicate]
/-- Silence: no gain, no pulse, told as silence. -/
theorem silent_zero {s : List Int} {B : Int} (h1 : bf s = 0) (h2 : total s % 2 = 0) (h5 : 0 ≤ B) (h6 : B ≤ 400) : encF (List.replicate (total s) 0) s B = 0 := by
  refine encF_zero.2 ⟨h1, by rw [List.length_replicate], h2, fun n hn => ?_, h5, h6, fun i hi => ?_⟩
  · obtain rfl := (List.mem_replicate.1 hn).2
    omega
  · rw [lap_zeros h2, cuts_at _ _ hi]
    unfold cutAt
    rw [List.drop_replicate, List.take_replicate, loud_rep]
    omega
theorem silent_made {s : List Int} {B : Int} {ps : List Prt} (h1 : bf s = 0) (h2 : total s % 2 = 0) (h5 : 0 ≤ B) (h6 : B ≤ 400) (hm : Made (cuts (Lap.lap (List.replicate (total s) 0)) s) s B ps) :
    Right s B ps ∧ (∀ i, i < ps.length → (prt ps i).1 = 0 ∧ loud (prt ps i).2 = 0) ∧ decF ps = 0 ∧ Lap.unlap (all ps) = List.replicate (total s) 0 := by
  obtain ⟨n0, n8, hsz, n32⟩ := bf_ok h1
  have hr := made_right (silent_zero h1 h2 h5 h6) hm
  have hlen := hr.len
  have hz : ∀ i, i < s.length → loud (rowAt (cuts (Lap.lap (List.replicate (total s) 0)) s) i) = 0 := fun i hi => by
    rw [lap_zeros h2, cuts_at _ _ hi]
    unfold cutAt
    rw [List.drop_replicate, List.take_replicate, loud_rep]
  have hg : ∀ i, i < ps.length → (prt ps i).1 = 0 := fun i hi => by
    rw [(hm.2 i (by rw [cuts_length, ← hlen]; exact hi)).1, hz i (by rw [← hlen]; exact hi)]
    rfl
  have hinv : Inv s (vals (gns ps)) B (given (gns ps) s B) := (share_is (d := vals (gns ps)) hsz n8 h5).1
  have hl : ∀ i, i < ps.length → loud (prt ps i).2 = 0 := fun i hi => by
    have e := hr.gets i hi
    have e2 : at0 (vals (gns ps)) i = 0 := by
      rw [vals_at _ (by rw [gns_length]; exact hi), gns_at hi, hg i hi]
      rfl
    rw [hinv.low i (by rw [hinv.len, ← hlen]; exact hi) e2] at e
    omega
  have ha := all_zero hl
  rw [hr.long] at ha
  refine ⟨hr, fun i hi => ⟨hg i hi, hl i hi⟩, ?_, by rw [ha]; exact unlap_zeros h2⟩
  rw [hr.dec h1 h2, if_neg]
  rw [Bool.not_eq_true, ha]
  refine any_of_in fun n hn => ?_
  obtain rfl := (List.mem_replicate.1 hn).2
  omega

end Go.Proofs.YthkibjhhlcfceaiDoor.Frm

/-
  errors.As at a target of type *api.Errno: the library's own text of errors.As is walked, at a nil error and at an error that is an api.Errno. Then plain.Told and hornsame.Error, by their contracts.
-/
namespace Go.Proofs.YthkibjhhlcfceaiDoor.Aser
open Go.RowKit Go.Extern.Stop Go.Stop Go.Extern
set_option linter.unusedVariables false

theorem as_nil (t : Value) (w : World) :
    Calls Tryd.prog 54 #[.nilIface, t] w fun e w' => e = .returned (.bool false) ∧ w' = w := by
  go_enter Tryd.func54, Tryd.ntmps54
  go_wp2
  go_ret
  exact ⟨rfl, rfl⟩

theorem valueOfP (t : Addr) (w : World) : (ReflectliteValue.unpack (.iface 73 (.pointer (some t)))).run Tryd.prog w
    = .ok (.agg #[.pointer (some ⟨1, 73, none⟩), .pointer (some ⟨w.heap.size, 0, none⟩), .int .u64 150]) (w.alloc (.cells #[.pointer (some t)] 73)) := by kernel_rfl
theorem typeP (a : Addr) (w : World) : (ReflectliteValue.methodAny (ReflectliteValue.valueError "reflectlite.Value.Type" 0) (fun t _ _ _ => ReflectliteType.toType t) #[.agg #[.pointer (some ⟨1, 73, none⟩), .pointer (some a), .int .u64 150]]).run Tryd.prog w
    = .ok (.iface 101 (.agg #[.pointer (some ⟨1, 73, none⟩)])) w := by kernel_rfl
theorem methodKind (h : Value) (w : World) : (Go.method 251 101 (.agg #[h]) "Kind").run Tryd.prog w = .ok (103, h) w := by kernel_rfl
theorem kindP (w : World) : ((ReflectliteType.abiMethod fun t => (fun a : Nat => Value.int IntKind.u8 (a : Int)) <$> Rtype.kind t) #[.pointer (some ⟨1, 73, none⟩)]).run Tryd.prog w = .ok (.int .u8 22) w := by kernel_rfl
theorem kindE (w : World) : ((ReflectliteType.abiMethod fun t => (fun a : Nat => Value.int IntKind.u8 (a : Int)) <$> Rtype.kind t) #[.pointer (some ⟨1, 47, none⟩)]).run Tryd.prog w = .ok (.int .u8 2) w := by kernel_rfl

theorem partsP (a : Addr) (w : World) : (ReflectliteValue.parts (.agg #[.pointer (some ⟨1, 73, none⟩), .pointer (some a), .int .u64 150])).run Tryd.prog w = .ok (some (73, a, 150)) w := by kernel_rfl
theorem isNilP (a p : Addr) (W : World) (ha : W.cell? a = some (.pointer (some p))) :
    (ReflectliteValue.method (ReflectliteValue.valueError "reflectlite.Value.IsNil" 0) ReflectliteValue.isNil #[.agg #[.pointer (some ⟨1, 73, none⟩), .pointer (some a), .int .u64 150]]).run Tryd.prog W = .ok (.bool false) W := by
  delta ReflectliteValue.method ReflectliteValue.method.match_2
  dsimp only [Array.size, Array.getLit, List.length]
  rw [dif_pos rfl]
  simp only [List.getElem_toArray, List.getElem_cons_zero, Sem.run_bind, partsP, Result.andThen]
  simp [ReflectliteValue.isNil, loadVar, isAgg, underlying, Tryd.underlying73, ha, Result.andThen]

theorem methodElem (h : Value) (w : World) : (Go.method 251 101 (.agg #[h]) "Elem").run Tryd.prog w = .ok (113, .agg #[h]) w := by kernel_rfl
theorem methodImplements (h : Value) (w : World) : (Go.method 251 101 (.agg #[h]) "Implements").run Tryd.prog w = .ok (114, .agg #[h]) w := by kernel_rfl
theorem methodAssignableTo (h : Value) (w : World) : (Go.method 251 101 (.agg #[h]) "AssignableTo").run Tryd.prog w = .ok (111, .agg #[h]) w := by kernel_rfl
theorem elemP (w : World) : (ReflectliteType.method ReflectliteType.elem #[.agg #[.pointer (some ⟨1, 73, none⟩)]]).run Tryd.prog w = .ok (.iface 101 (.agg #[.pointer (some ⟨1, 47, none⟩)])) w := by kernel_rfl
theorem implementsE (w : World) : (ReflectliteType.relation "Implements" ReflectliteType.implements_ #[.agg #[.pointer (some ⟨1, 47, none⟩)], .iface 101 (.agg #[.pointer (some ⟨1, 25, none⟩)])]).run Tryd.prog w = .ok (.bool true) w := by kernel_rfl
theorem typeOfE (v : Value) (w : World) : (ReflectliteType.typeOf #[.iface 47 v]).run Tryd.prog w = .ok (.iface 101 (.agg #[.pointer (some ⟨1, 47, none⟩)])) w := by kernel_rfl
theorem assignableE (w : World) : (ReflectliteType.relation "AssignableTo" ReflectliteType.assignableTo #[.agg #[.pointer (some ⟨1, 47, none⟩)], .iface 101 (.agg #[.pointer (some ⟨1, 47, none⟩)])]).run Tryd.prog w = .ok (.bool true) w := by kernel_rfl
theorem valueOfE (n : Int) (w : World) : (ReflectliteValue.unpack (.iface 47 (.int .i64 n))).run Tryd.prog w
    = .ok (.agg #[.pointer (some ⟨1, 47, none⟩), .pointer (some ⟨w.heap.size, 0, none⟩), .int .u64 130]) (w.alloc (.cells #[.int .i64 n] 47)) := by kernel_rfl

theorem elemOfP (w : World) : (Rtype.elem? 73).run Tryd.prog w = .ok (some 47) w := by kernel_rfl
theorem mkE (p : Addr) (w : World) : (ReflectliteValue.mk 47 p ReflectliteValue.flagAddr).run Tryd.prog w = .ok (.agg #[.pointer (some ⟨1, 47, none⟩), .pointer (some p), .int .u64 386]) w := by kernel_rfl
theorem elemV (a p : Addr) (W : World) (ha : W.cell? a = some (.pointer (some p))) :
    (ReflectliteValue.method (ReflectliteValue.valueError "reflectlite.Value.Elem" 0) ReflectliteValue.elem #[.agg #[.pointer (some ⟨1, 73, none⟩), .pointer (some a), .int .u64 150]]).run Tryd.prog W
      = .ok (.agg #[.pointer (some ⟨1, 47, none⟩), .pointer (some p), .int .u64 386]) W := by
  delta ReflectliteValue.method ReflectliteValue.method.match_2
  dsimp only [Array.size, Array.getLit, List.length]
  rw [dif_pos rfl]
  simp only [List.getElem_toArray, List.getElem_cons_zero, Sem.run_bind, partsP, Result.andThen]
  simp [ReflectliteValue.elem, loadVar, isAgg, underlying, Tryd.underlying73, ha, Result.andThen, elemOfP, mkE]
theorem partsEa (a : Addr) (w : World) : (ReflectliteValue.parts (.agg #[.pointer (some ⟨1, 47, none⟩), .pointer (some a), .int .u64 386])).run Tryd.prog w = .ok (some (47, a, 386)) w := by kernel_rfl
theorem partsE (a : Addr) (w : World) : (ReflectliteValue.parts (.agg #[.pointer (some ⟨1, 47, none⟩), .pointer (some a), .int .u64 130])).run Tryd.prog w = .ok (some (47, a, 130)) w := by kernel_rfl
theorem directE (w : World) : (Rtype.directlyAssignable 47 47).run Tryd.prog w = .ok true w := by kernel_rfl
theorem setE (ta b : Addr) (n : Int) (old : Value) (W : World) (hb : W.cell? b = some (.int .i64 n)) (ht : W.cell? ta = some old) (hf : W.frozen? ta = false) :
    (ReflectliteValue.set #[.agg #[.pointer (some ⟨1, 47, none⟩), .pointer (some ta), .int .u64 386], .agg #[.pointer (some ⟨1, 47, none⟩), .pointer (some b), .int .u64 130]]).run Tryd.prog W
      = .ok (.tuple #[]) (W.setCell ta (.int .i64 n)) := by
  delta ReflectliteValue.set ReflectliteValue.set.match_3
  dsimp only [Array.size, Array.getLit, List.length]
  rw [dif_pos rfl]
  simp only [List.getElem_toArray, List.getElem_cons_zero, List.getElem_cons_succ, Sem.run_bind, partsEa, partsE, Result.andThen]
  simp [ReflectliteValue.flagAddr, loadVar, isAgg, underlying, Tryd.underlying47, hb, Result.andThen, directE, storeVar, Value.cells, storeCells, Addr.add]
  rw [run_store Tryd.prog W ta _ _ (by rfl)]
  simp [ht, hf]

/-- What package errors' own variable holds: the handle of the type error. -/
def Laid (w : World) : Prop := w.cell? ⟨0, 0, none⟩ = some (.iface 101 (.agg #[.pointer (some ⟨1, 25, none⟩)]))

theorem Laid.lt {w : World} (h : Laid w) : 0 < w.heap.size := by
  rcases Nat.lt_or_ge 0 w.heap.size with h1 | h1
  · exact h1
  · simp [Laid, World.cell?, Array.getElem?_eq_none h1] at h
theorem Laid.below {w w' : World} (h : Laid w) (hb : Below w.heap.size w w') : Laid w' :=
  (hb.cell (p := ⟨0, 0, none⟩) h.lt).trans h

set_option maxHeartbeats 4000000 in
theorem as_hit (n : Int) (t : Addr) (old : Value) (w : World) (hL : Laid w) (ht0 : w.cell? t = some old) (hf0 : w.frozen? t = false) :
    Calls Tryd.prog 54 #[.iface 47 (.int .i64 n), .iface 73 (.pointer (some t))] w fun ev w' => ev = .returned (.bool true) ∧ w' = ((((w.alloc (.cells #[.pointer (some t)] 73)).alloc (.cells #[.pointer (some ⟨1, 73, none⟩), .pointer (some ⟨w.heap.size, 0, none⟩), .int .u64 150] 84)).alloc (.cells #[.pointer (some ⟨1, 73, none⟩), .pointer (some ⟨w.heap.size, 0, none⟩), .int .u64 150] 84)).alloc (.cells #[.int .i64 n] 47)).setCell t (.int .i64 n) := by
  have hg : w.cell? ⟨0, 0, none⟩ = some (.iface 101 (.agg #[.pointer (some ⟨1, 25, none⟩)])) := hL
  have h6 := @run_callFunc_extern Tryd.prog 68 _ (fun args => ReflectliteValue.unpack (args.getD 0 (.tuple #[]))) Tryd.func68 (by kernel_rfl) (by kernel_rfl) (by kernel_rfl) (by kernel_rfl)
  have h7 := @run_callFunc_extern Tryd.prog 69 _ (ReflectliteValue.methodAny (ReflectliteValue.valueError "reflectlite.Value.Type" 0) (fun t _ _ _ => ReflectliteType.toType t)) Tryd.func69 (by kernel_rfl) (by kernel_rfl) (by kernel_rfl) (by kernel_rfl)
  have h8 := @run_callFunc_extern Tryd.prog 70 _ (ReflectliteValue.method (ReflectliteValue.valueError "reflectlite.Value.IsNil" 0) ReflectliteValue.isNil) Tryd.func70 (by kernel_rfl) (by kernel_rfl) (by kernel_rfl) (by kernel_rfl)
  have h27 := @run_callFunc_extern Tryd.prog 103 _ (ReflectliteType.abiMethod fun t => do pure (.int .u8 (← Rtype.kind t))) Tryd.func103 (by kernel_rfl) (by kernel_rfl) (by kernel_rfl) (by kernel_rfl)
  have h37 := @run_callFunc_extern Tryd.prog 113 _ (ReflectliteType.method ReflectliteType.elem) Tryd.func113 (by kernel_rfl) (by kernel_rfl) (by kernel_rfl) (by kernel_rfl)
  have h38 := @run_callFunc_extern Tryd.prog 114 _ (ReflectliteType.relation "Implements" ReflectliteType.implements_) Tryd.func114 (by kernel_rfl) (by kernel_rfl) (by kernel_rfl) (by kernel_rfl)
  have h10 := @run_callFunc_extern Tryd.prog 79 _ ReflectliteType.typeOf Tryd.func79 (by kernel_rfl) (by kernel_rfl) (by kernel_rfl) (by kernel_rfl)
  have h35 := @run_callFunc_extern Tryd.prog 111 _ (ReflectliteType.relation "AssignableTo" ReflectliteType.assignableTo) Tryd.func111 (by kernel_rfl) (by kernel_rfl) (by kernel_rfl) (by kernel_rfl)
  have h11 := @run_callFunc_extern Tryd.prog 80 _ (ReflectliteValue.method (ReflectliteValue.valueError "reflectlite.Value.Elem" 0) ReflectliteValue.elem) Tryd.func80 (by kernel_rfl) (by kernel_rfl) (by kernel_rfl) (by kernel_rfl)
  have h12 := @run_callFunc_extern Tryd.prog 81 _ ReflectliteValue.set Tryd.func81 (by kernel_rfl) (by kernel_rfl) (by kernel_rfl) (by kernel_rfl)
  have tO := typeOfE
  have mA := methodAssignableTo
  have a25 := assignableE
  have v25 := valueOfE
  have f6 := valueOfP
  have f7 := typeP
  have mK := methodKind
  have mE := methodElem
  have mI := methodImplements
  have k27 := kindP
  have k25 := kindE
  have e27 := elemP
  have i25 := implementsE
  have n8 := isNilP ⟨w.heap.size, 0, none⟩ t ((w.alloc (.cells #[.pointer (some t)] 73)).alloc (.cells #[.pointer (some ⟨1, 73, none⟩), .pointer (some ⟨w.heap.size, 0, none⟩), .int .u64 150] 84)) (by simp)
  have hlt : 0 < w.heap.size := hL.lt
  have hg2 : ((w.alloc (.cells #[.pointer (some t)] 73)).alloc (.cells #[.pointer (some ⟨1, 73, none⟩), .pointer (some ⟨w.heap.size, 0, none⟩), .int .u64 150] 84)).cell? ⟨0, 0, none⟩ = some (.iface 101 (.agg #[.pointer (some ⟨1, 25, none⟩)])) := by
    rw [World.cell?_alloc_lt _ _ ⟨0, 0, none⟩ (by simp), World.cell?_alloc_lt _ _ ⟨0, 0, none⟩ hlt]; exact hg
  have htl : t.block < w.heap.size := by
    rcases Nat.lt_or_ge t.block w.heap.size with h | h
    · exact h
    · simp [World.cell?, Array.getElem?_eq_none h] at ht0
  have el := elemV ⟨w.heap.size, 0, none⟩ t (((w.alloc (.cells #[.pointer (some t)] 73)).alloc (.cells #[.pointer (some ⟨1, 73, none⟩), .pointer (some ⟨w.heap.size, 0, none⟩), .int .u64 150] 84)).alloc (.cells #[.pointer (some ⟨1, 73, none⟩), .pointer (some ⟨w.heap.size, 0, none⟩), .int .u64 150] 84)) (by rw [World.cell?_alloc_lt _ _ ⟨w.heap.size, 0, none⟩ (by simp; omega)]; simp)
  have st := setE t ⟨w.heap.size + 1 + 1 + 1, 0, none⟩ n old ((((w.alloc (.cells #[.pointer (some t)] 73)).alloc (.cells #[.pointer (some ⟨1, 73, none⟩), .pointer (some ⟨w.heap.size, 0, none⟩), .int .u64 150] 84)).alloc (.cells #[.pointer (some ⟨1, 73, none⟩), .pointer (some ⟨w.heap.size, 0, none⟩), .int .u64 150] 84)).alloc (.cells #[.int .i64 n] 47))
    (by rw [World.cell?_alloc_at _ _ _ _ (by simp)]; rfl)
    (by rw [World.cell?_alloc_lt _ _ t (by simp; omega), World.cell?_alloc_lt _ _ t (by simp; omega), World.cell?_alloc_lt _ _ t (by simp; omega), World.cell?_alloc_lt _ _ t htl]; exact ht0)
    (by rw [World.frozen?_alloc_old _ _ t (by simp; omega), World.frozen?_alloc_old _ _ t (by simp; omega), World.frozen?_alloc_old _ _ t (by simp; omega), World.frozen?_alloc_old _ _ t (Nat.ne_of_lt htl)]; exact hf0)
  clear hL
  go_enter Tryd.func54, Tryd.ntmps54
  go_wp2
  refine wp_loop_rounds 1 ?_
  rw [rounds_succ]
  go_wp2
  go_ret
  exact ⟨rfl, rfl⟩
end Go.Proofs.YthkibjhhlcfceaiDoor.Aser
