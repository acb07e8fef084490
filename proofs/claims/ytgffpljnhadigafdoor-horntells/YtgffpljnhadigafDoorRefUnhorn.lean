/-
  hornref2.Unhorn, of shares that are right: by its contract.
-/
import Derived.Test.YtgffpljnhadigafDoorRefHorn
import Derived.Test.YtgffpljnhadigafDoorRefFind
namespace Go.Proofs.YtgffpljnhadigafDoor.Hrn
open Go.RowKit
open Go.Proofs.YtgffpljnhadigafDoor.Tre Go.Proofs.YtgffpljnhadigafDoor.Scl
set_option linter.unusedVariables false

theorem run_at (s : ByteArray) (i : Nat) (h : i < s.size) (w : World) : (Instr.index 9 (.string s) (.int .i64 i)).run Tryd.prog w = .ok (.int .u8 (at0 (byt s) i)) w := by
  rw [run_index_string w 9 s .i64 i Tryd.underlying9, dif_pos ⟨by omega, by omega⟩]
  have e : ((i : Int)).toNat = i := by omega
  rw [← byt_at s h]
  simp only [e]
/-- What is told: the row of these bytes, or that they are none. -/
def Unh (f bs : List Int) (n : Nat) (w : World) (e : Ending) (w' : World) : Prop :=
  ((∃ v l, e = .returned (.tuple #[v, .bool true]) ∧ IsRow f bs n l ∧ Has w' w.heap.size v l) ∨ (e = .returned (.tuple #[.slice none 0 0, .bool false]) ∧ ∀ l, ¬ IsRow f bs n l)) ∧ Below w.heap.size w w'

theorem three_drop {bs : List Int} (h : 3 ≤ bs.length) : bs = at0 bs 0 :: at0 bs 1 :: at0 bs 2 :: bs.drop 3 := by
  match bs, h with
  | a :: b :: c :: r, _ => rfl
theorem byts_drop {bs : List Int} (h : Byts bs) (t : Nat) : Byts (bs.drop t) := fun b hb => h b (List.mem_of_mem_drop hb)
theorem fill_more {bs : List Int} {t : Nat} (h : t < bs.length) {x : Int} (hx : x < 65536) : fill (bs.drop t) x = fill (bs.drop (t + 1)) (x * 256 + at0 bs t) := by
  rw [drop_at h, fill, if_neg (by omega)]
theorem fill_end {bs : List Int} {t : Nat} (h : bs.length ≤ t) {x : Int} (hx : x < 65536) : fill (bs.drop t) x = none := by
  rw [List.drop_eq_nil_of_le h, fill, if_neg (by omega)]

set_option maxRecDepth 100000 in
set_option maxHeartbeats 16000000 in
theorem refUnhorn (a : Option Addr) (cap : Nat) (f : List Int) (s : ByteArray) (n : Nat) (w : World) (hrf : Row w a f) (hm : f.length ≤ cap) (hm9 : cap ≤ 9223372036854775807) (hf : Hid (right f)) (hs9 : s.size ≤ 9223372036854775807) (hn : n ≤ 60) :
    Calls Tryd.prog 23 #[.slice a f.length cap, .string s, .int .i64 n] w fun e w' => Unh f (byt s) n w e w' := by
  have HZ := hide (byt_length s)
  have HBY := hide (byt_byts s)
  by_cases h3 : s.size < 3
  · have hno : Hid (∀ l, ¬ IsRow f (byt s) n l) := hide (fun l => row_short (by rw [unhide HZ]; exact h3))
    have hd : decide ((s.size : Int) < 3) = true := by simp; omega
    obtain ⟨M, hM⟩ : ∃ M, f.length = M := ⟨_, rfl⟩
    rw [hM]
    clear hM
    go_enter Tryd.func23, Tryd.ntmps23
    go_wp2
    go_ret2
    exact ⟨Or.inr ⟨rfl, unhide hno⟩, Below.refl _ _⟩
  · obtain ⟨f1, f2, f3, f4⟩ := unhide hf
    have hd : decide ((s.size : Int) < 3) = false := by simp; omega
    have i0 : ∀ W, (Instr.index 9 (.string s) (.int .i64 0)).run Tryd.prog W = .ok (.int .u8 (at0 (byt s) 0)) W := fun W => run_at s 0 (by omega) W
    have i1 : ∀ W, (Instr.index 9 (.string s) (.int .i64 1)).run Tryd.prog W = .ok (.int .u8 (at0 (byt s) 1)) W := fun W => run_at s 1 (by omega) W
    have i2 : ∀ W, (Instr.index 9 (.string s) (.int .i64 2)).run Tryd.prog W = .ok (.int .u8 (at0 (byt s) 2)) W := fun W => run_at s 2 (by omega) W
    have HIX : Hid (∀ i, i < s.size → ∀ W, (Instr.index 9 (.string s) (.int .i64 i)).run Tryd.prog W = .ok (.int .u8 (at0 (byt s) i)) W) := hide (fun i h W => run_at s i h W)
    have HSS : Hid (∀ l : List Int, Byts l → ((str l).toList == s.toList) = decide (byt s = l)) := hide (fun l hl => by rw [← str_same s l hl, Bool.beq_comm])
    obtain ⟨bs, hbs⟩ : ∃ bs, byt s = bs := ⟨_, rfl⟩
    rw [hbs] at HZ HBY i0 i1 i2 HIX HSS ⊢
    clear hbs
    have e3 := three_drop (bs := bs) (by rw [unhide HZ]; omega)
    have HBT : Hid (∀ i, i < s.size → 0 ≤ at0 bs i ∧ at0 bs i ≤ 255) := hide (fun i hi => by
      have hi' : i < bs.length := by rw [unhide HZ]; exact hi
      have e : at0 bs i = bs[i] := by simp [at0, hi']
      have := unhide HBY bs[i] (List.getElem_mem hi')
      omega)
    obtain ⟨a0, a9⟩ := unhide HBT 0 (by omega)
    obtain ⟨b0, b9⟩ := unhide HBT 1 (by omega)
    obtain ⟨c0, c9⟩ := unhide HBT 2 (by omega)
    have HRI : Hid (∀ l, IsRow f bs n l ↔ dec f n (at0 bs 0 * 65536 + at0 bs 1 * 256 + at0 bs 2) (bs.drop 3) = some (l, 65536, []) ∧ code f l = bs) := hide (fun l => by
      have h := row_iff (unhide hf) (a := at0 bs 0) (b := at0 bs 1) (c := at0 bs 2) (r := bs.drop 3) (by rw [← e3]; exact unhide HBY) (n := n) (l := l)
      rw [← e3] at h
      exact h)
    have HBD : Hid (∀ t, Byts (bs.drop t)) := hide (fun t => byts_drop (unhide HBY) t)
    obtain ⟨A, hA⟩ : ∃ A, at0 bs 0 = A := ⟨_, rfl⟩
    obtain ⟨B, hB'⟩ : ∃ B, at0 bs 1 = B := ⟨_, rfl⟩
    obtain ⟨C, hC⟩ : ∃ C, at0 bs 2 = C := ⟨_, rfl⟩
    rw [hA] at i0 a0 a9 HRI
    rw [hB'] at i1 b0 b9 HRI
    rw [hC] at i2 c0 c9 HRI
    have HX0 : Hid (0 ≤ A * 65536 + B * 256 + C ∧ A * 65536 + B * 256 + C < 16777216) := hide (by omega)
    obtain ⟨X0, hX0⟩ : ∃ X, A * 65536 + B * 256 + C = X := ⟨_, rfl⟩
    rw [hX0] at HRI HX0
    have w1 : IntKind.i64.wrap (A * 65536 + B * 256 + C) = X0 := by rw [hX0]; exact IntWalk.i64_in _ (by omega)
    have w2 : IntKind.i64.wrap (A * 65536 + B * 256) = A * 65536 + B * 256 := IntWalk.i64_in _ (by omega)
    have w3 : IntKind.i64.wrap (A * 65536) = A * 65536 := IntWalk.i64_in _ (by omega)
    have w4 : IntKind.i64.wrap (B * 256) = B * 256 := IntWalk.i64_in _ (by omega)
    have HD0 : Hid (dec f n X0 (bs.drop 3) = (dec f (n - 0) X0 (bs.drop 3)).map fun z => ([] ++ z.1, z.2)) := hide (by
      rw [Nat.sub_zero]
      cases dec f n X0 (bs.drop 3) <;> rfl)
    obtain ⟨Z, hZ⟩ : ∃ Z, s.size = Z := ⟨_, rfl⟩
    rw [hZ] at HZ h3 hs9 hd HIX HBT
    have hsz : ∀ W, (Builtin.len_ #[9] 3 #[.string s]).run Tryd.prog W = .ok (.int .i64 (Z : Int)) W := fun W => by rw [run_len_string W 9 3 s Tryd.underlying9, hZ]; rfl
    obtain ⟨M, hM⟩ : ∃ M, f.length = M := ⟨_, rfl⟩
    have HM := hide hM
    rw [hM] at hm f1 f2 ⊢
    clear hM hA hB' hC hX0 e3 f3 f4 hZ
    go_enter Tryd.func23, Tryd.ntmps23
    go_wp2
    go_quiet (fail)
    go_wp2
    go_loopw [8, 9, 10, 11] (fun x t v i wr => ∃ (j T : Nat) (X : Int) (O : List Int), j ≤ n ∧ x = .int .i64 X ∧ t = .int .i64 T ∧ i = .int .i64 j ∧ Has wr w.heap.size v O ∧ Hid (dec f n X0 (bs.drop 3) = (dec f (n - j) X (bs.drop T)).map fun z => (O ++ z.1, z.2)) ∧ 0 ≤ X ∧ X < 16777216 ∧ T ≤ Z ∧ Hid (O.length = j) ∧ Below w.heap.size w wr) (fun _ _ _ i _ => n - (intOf i).toNat)
    case atStart => exact ⟨0, 3, X0, [], Nat.zero_le _, rfl, rfl, rfl, Has.nil _ _, HD0, (unhide HX0).1, (unhide HX0).2, by omega, rfl, below_drew _ _⟩
    case round =>
      obtain ⟨j, T, X, O, hj, rfl, rfl, rfl, hv, HD, x0, x9, hT, HO, hB⟩ := hrel
      clear HD0
      by_cases hlt : j < n
      · have hp0 : 0 ≤ X % 256 := by omega
        have hp9 : X % 256 ≤ 255 := by omega
        have HK := hide (sg_is (unhide hf) hp0 (by omega))
        have hfi := refFind a cap f (X % 256) (sg f (X % 256)) wr (hrf.below hB) (by rw [unhide HM]; exact hm) hm9 hp0 hp9 hf HK
        rw [unhide HM] at hfi
        obtain ⟨g1, g9⟩ := got_in (unhide hf) x0 x9
        have HG : Hid (got f X = X / 256 * at0 f (sg f (X % 256)) + X % 256 - pfx f (sg f (X % 256))) := hide rfl
        have HD2 : Hid (dec f (n - j) X (bs.drop T) = match fill (bs.drop T) (got f X) with | none => none | some z => (dec f (n - (j + 1)) z.1 z.2).map fun q => ((sg f (X % 256) : Int) :: q.1, q.2)) := hide (by
          rw [show n - j = (n - (j + 1)) + 1 by omega, dec]
          rfl)
        obtain ⟨S, hS⟩ : ∃ S, sg f (X % 256) = S := ⟨_, rfl⟩
        rw [hS] at hfi HK HG HD2
        obtain ⟨k1, k2, k3⟩ := unhide HK
        obtain ⟨s1, s2, s3, s4⟩ := share_in (unhide hf) k1 (by omega)
        have HSUM : Hid (∀ x, Calls Tryd.prog 14 #[.slice a S cap] (wr.drewN x) fun e w' => e = .returned (.int .i64 (pfx f S)) ∧ ∃ n, w' = wr.drewN n) := hide (fun x => sum_first a cap S f wr (hrf.below hB) (unhide hf) k1 x)
        obtain ⟨bb, off, rfl, _, hc⟩ := cell_at (hrf.below hB) (by omega)
        have c1 := hc S k1
        have hSM : S < M := by rw [← unhide HM]; exact k1
        obtain ⟨F, hF⟩ : ∃ F, at0 f S = F := ⟨_, rfl⟩
        rw [hF] at c1 s1 s2 s4 HG
        obtain ⟨P, hP⟩ : ∃ P, pfx f S = P := ⟨_, rfl⟩
        rw [hP] at HSUM s3 s4 HG
        obtain ⟨Q, hQ⟩ : ∃ Q, X / 256 = Q := ⟨_, rfl⟩
        obtain ⟨m, hmm⟩ : ∃ m, X % 256 = m := ⟨_, rfl⟩
        have t1 : Int.tdiv X 256 = Q := by rw [Int.tdiv_eq_ediv_of_nonneg (by omega)]; exact hQ
        have t2 : Int.tmod X 256 = m := by rw [Int.tmod_eq_emod_of_nonneg (by omega)]; exact hmm
        rw [hQ, hmm] at HG
        rw [hmm] at hfi hp0 hp9
        obtain ⟨G, hG⟩ : ∃ G, got f X = G := ⟨_, rfl⟩
        rw [hG] at HG HD2 g1 g9
        have q0 : 0 ≤ Q := by omega
        have q9 : Q ≤ 65535 := by omega
        obtain ⟨V, hV⟩ : ∃ V, Q * F = V := ⟨_, rfl⟩
        have v0 : 0 ≤ V := by rw [← hV]; exact Int.mul_nonneg q0 (by omega)
        have v9 : V ≤ 16777216 := by
          have : Q * F ≤ Q * 256 := Int.mul_le_mul_of_nonneg_left s2 q0
          omega
        have m1 : IntKind.i64.wrap (Q * F) = V := by rw [hV]; exact IntWalk.i64_in _ (by omega)
        rw [hV] at HG
        have m2 : IntKind.i64.wrap (V + m) = V + m := IntWalk.i64_in _ (by omega)
        have m3 : IntKind.i64.wrap (V + m - P) = G := by rw [← unhide HG]; exact IntWalk.i64_in _ (by omega)
        have hSc : S ≤ cap := by omega
        clear hc hF hP hQ hmm hV hS hG HK k1 k2 k3 HG
        go_wp2_with fail
        refine hfi.mono ?_
        clear hfi
        rintro e w5 ⟨rfl, hw5⟩
        obtain rfl : wr = w5 := hw5.symm
        clear hw5
        go_wp2
        go_quiet ((go_at_call 14; exact unhide HSUM _))
        have hvq : Has (wr.drewN nq) w.heap.size u10 O := hv
        have hBq : Below w.heap.size w (wr.drewN nq) := hB.trans ((below_drew _ _).mono hB.size)
        clear HSUM hv hB c1
        go_wp2
        go_loopw [8, 9] (fun x t wr => ∃ (Y : Int) (T' : Nat), x = .int .i64 Y ∧ t = .int .i64 T' ∧ Hid (fill (bs.drop T) G = fill (bs.drop T') Y) ∧ 0 ≤ Y ∧ Y < 16777216 ∧ T' ≤ Z ∧ Has wr w.heap.size u10 O ∧ Below w.heap.size w wr) (fun _ t _ => Z - (intOf t).toNat)
        case atStart => exact ⟨G, T, rfl, rfl, hide rfl, g1, g9, hT, hvq, hBq⟩
        case round =>
          obtain ⟨Y, T', rfl, rfl, HFL, y0, y9, hT', hv, hB⟩ := hrel
          clear hvq hBq
          by_cases hy : Y < 65536
          · have dy : decide (Y < 65536) = true := by simpa using hy
            by_cases ht : Z ≤ T'
            · have dt : decide ((Z : Int) ≤ (T' : Int)) = true := by simp; omega
              have dt' : decide (Z ≤ T') = true := by simpa using ht
              have hno : Hid (∀ l, ¬ IsRow f bs n l) := hide (fun l h => by
                have h2 := (unhide HRI l).1 h
                rw [unhide HD, unhide HD2, unhide HFL, fill_end (by rw [unhide HZ]; exact ht) hy] at h2
                simp at h2)
              clear HD HD2 HFL
              go_wp2
              go_ret2
              exact ⟨Or.inr ⟨rfl, unhide hno⟩, hB⟩
            · have dt : decide ((Z : Int) ≤ (T' : Int)) = false := by simp; omega
              have dt' : decide (Z ≤ T') = false := by simpa using ht
              have htz : T' < Z := by omega
              have hix := unhide HIX T' htz
              obtain ⟨z0, z9⟩ := unhide HBT T' htz
              have HF2 : Hid (fill (bs.drop T) G = fill (bs.drop (T' + 1)) (Y * 256 + at0 bs T')) := hide (by rw [unhide HFL, fill_more (by rw [unhide HZ]; exact htz) hy])
              obtain ⟨b, hb⟩ : ∃ b, at0 bs T' = b := ⟨_, rfl⟩
              rw [hb] at hix z0 z9 HF2
              have n1 : IntKind.i64.wrap (Y * 256 + b) = Y * 256 + b := IntWalk.i64_in _ (by omega)
              have n2 : IntKind.i64.wrap (Y * 256) = Y * 256 := IntWalk.i64_in _ (by omega)
              clear hb HFL
              go_wp2
              go_roundw
              case rel => exact ⟨Y * 256 + b, T' + 1, by first | rfl | go_num, by go_num, HF2, by omega, by omega, by omega, hv, hB⟩
              case measure => simp [intOf]; omega
          · have dy : decide (Y < 65536) = false := by simpa using hy
            have HD3 : Hid (dec f n X0 (bs.drop 3) = (dec f (n - (j + 1)) Y (bs.drop T')).map fun z => ((O ++ [(S : Int)]) ++ z.1, z.2)) := hide (by
              rw [unhide HD, unhide HD2, unhide HFL, fill_enough _ (by omega)]
              simp only
              cases dec f (n - (j + 1)) Y (bs.drop T') with
              | none => rfl
              | some z => simp)
            have HO2 : Hid ((O ++ [(S : Int)]).length = j + 1) := hide (by simp [unhide HO])
            have hln : Hid (O.length + 1 ≤ 1000000) := hide (by rw [unhide HO]; omega)
            have hWs := hB.size
            clear HD HD2 HFL HO
            go_wp2_with (at_builtin; refine wpList_app _ rfl _ _ rfl w.heap.size u10 O _ _ _ rfl (hv.alloc _) rfl (row_one _ _ _) (unhide hln) (by simp; omega) ?_; intro s' w6 k6 g6 at6)
            obtain ⟨d1, d2⟩ := stepped_plain hv hWs k6 g6 at6
            go_wp2
            go_roundw
            case rel => exact ⟨j + 1, T', Y, O ++ [(S : Int)], by omega, rfl, rfl, by go_num, k6, HD3, y0, y9, hT', HO2, hB.trans d1⟩
            case measure => simp [intOf]; omega
      · obtain rfl : j = n := by omega
        have HD2 : Hid (dec f j X0 (bs.drop 3) = some (O, X, bs.drop T)) := hide (by rw [unhide HD, Nat.sub_self, dec]; simp)
        have HSG := hide (dec_len (unhide hf) (unhide HX0).1 (unhide HX0).2 (unhide HBD 3) (unhide HD2))
        clear HD
        by_cases hx : X = 65536
        · subst hx
          by_cases ht : T = Z
          · subst ht
            have hz : ((T : Int) != (T : Int)) = false := by simp
            have HD3 : Hid (dec f j X0 (bs.drop 3) = some (O, 65536, [])) := hide (by rw [unhide HD2, ← unhide HZ, List.drop_length])
            obtain ⟨pv, qv, rfl, rv⟩ := hv.row
            have hho := refHorn a cap f pv qv O wr (hrf.below hB) (by rw [unhide HM]; exact hm) hm9 rv hf (hide (unhide HSG).2) (by rw [unhide HO]; exact hn)
            have hss := unhide HSS (code f O) (code_byts (unhide hf) (unhide HSG).2)
            rw [unhide HO] at hho hv ⊢
            rw [unhide HM] at hho
            by_cases hco : bs = code f O
            · have HR : Hid (IsRow f bs j O) := hide ((unhide HRI O).2 ⟨unhide HD3, hco.symm⟩)
              rw [decide_eq_true hco] at hss
              obtain ⟨cs, hcs⟩ : ∃ cs, str (code f O) = cs := ⟨_, rfl⟩
              rw [hcs] at hho hss
              clear hco HD3 HD2 hcs
              go_wp2_with fail
              refine hho.mono ?_
              clear hho
              rintro e w6 ⟨rfl, hb6⟩
              have hv6 := hv.below hb6
              go_wp2
              go_ret2
              exact ⟨Or.inl ⟨_, O, rfl, unhide HR, hv6⟩, Below.chain hB hb6⟩
            · have hno : Hid (∀ l, ¬ IsRow f bs j l) := hide (fun l h => by
                have h2 := (unhide HRI l).1 h
                rw [unhide HD3] at h2
                obtain ⟨h3, h4⟩ := h2
                have h5 := (Prod.mk.inj (Option.some.inj h3)).1
                rw [← h5] at h4
                exact hco h4.symm)
              rw [decide_eq_false hco] at hss
              obtain ⟨cs, hcs⟩ : ∃ cs, str (code f O) = cs := ⟨_, rfl⟩
              rw [hcs] at hho hss
              clear hco HD3 HD2 hcs
              go_wp2_with fail
              refine hho.mono ?_
              clear hho
              rintro e w6 ⟨rfl, hb6⟩
              go_wp2
              go_ret2
              exact ⟨Or.inr ⟨rfl, unhide hno⟩, Below.chain hB hb6⟩
          · have hz : ((T : Int) != (Z : Int)) = true := by rw [bne_iff_ne]; omega
            have hno : Hid (∀ l, ¬ IsRow f bs j l) := hide (fun l h => by
              have h2 := ((unhide HRI l).1 h).1
              rw [unhide HD2] at h2
              have h3 := (Prod.mk.inj (Prod.mk.inj (Option.some.inj h2)).2).2
              have h4 := congrArg List.length h3
              rw [List.length_drop, unhide HZ] at h4
              simp at h4
              omega)
            obtain ⟨pv, qv, rfl, -⟩ := hv.row
            clear HD2 HSG
            go_wp2
            go_ret2
            exact ⟨Or.inr ⟨rfl, unhide hno⟩, hB⟩
        · have hx' : (X != 65536) = true := by rw [bne_iff_ne]; exact hx
          have hno : Hid (∀ l, ¬ IsRow f bs j l) := hide (fun l h => by
            have h2 := ((unhide HRI l).1 h).1
            rw [unhide HD2] at h2
            exact hx (Prod.mk.inj (Prod.mk.inj (Option.some.inj h2)).2).1)
          obtain ⟨pv, qv, rfl, -⟩ := hv.row
          clear HD2 HSG hx
          go_wp2
          go_ret2
          exact ⟨Or.inr ⟨rfl, unhide hno⟩, hB⟩

end Go.Proofs.YtgffpljnhadigafDoor.Hrn
