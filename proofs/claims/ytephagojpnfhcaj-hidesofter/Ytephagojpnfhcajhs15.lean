/-
  hide.softerGain, hide.softer: by their contracts.
-/
import Derived.Test.Ytephagojpnfhcajhs02
import Derived.Test.Ytephagojpnfhcajhs06
import Derived.Test.Ytephagojpnfhcajhs14
import Derived.Test.Ytephagojpnfhcajhs04
import Derived.Laws.Small
import Derived.Laws.CopyOwn
import Derived.Deep.WholeRow
namespace Go.Proofs.Ytephagojpnfhcaj.Hid18
open Go.RowKit
open Go.Proofs.Ytephagojpnfhcaj.Tre Go.Proofs.Ytephagojpnfhcaj.Frm Go.Proofs.Ytephagojpnfhcaj.Gai
set_option linter.unusedVariables false

set_option maxRecDepth 100000 in
set_option maxHeartbeats 4000000 in
theorem softerGain (g : Int) (h0 : 0 ≤ g) (h53 : g ≤ 53) (w : World) :
    Calls Try.prog 18 #[.int .i64 g] w fun e w' => e = .returned (.int .i64 (softG g)) ∧ w' = w := by
  have HSG : Hid (softG g = (low (g - 4).toNat : Int)) := hide rfl
  have hL9 := low_le (g - 4).toNat
  have HV0 : Hid (vo 0 = true) := hide (by decide +kernel)
  have wG : IntKind.i64.wrap (g - 4) = g - 4 := IntWalk.i64_in _ (by omega)
  have CVO : Hid (∀ h : Nat, h ≤ 49 → vo h = true → Calls Try.prog 25 #[.int .i64 h] w fun e w' => e = .returned (.tuple #[.int .i64 (vl h), .nilIface]) ∧ w' = w) := hide (fun h hh hv => value_ok h (by omega) (hide hv) w)
  have CVN : Hid (∀ h : Nat, h ≤ 49 → vo h = false → Calls Try.prog 25 #[.int .i64 h] w fun e w' => e = .returned (.tuple #[.int .i64 0, .iface 39 (.int .i64 1)]) ∧ w' = w) := hide (fun h hh hv => value_no h (by omega) (hide hv) w)
  obtain ⟨LH, hLH⟩ : ∃ LH, low (g - 4).toNat = LH := ⟨_, rfl⟩
  rw [hLH] at HSG hL9
  rw [unhide HSG]
  obtain ⟨H0, hH0⟩ : ∃ H0 : Nat, (g - 4).toNat = H0 := ⟨_, rfl⟩
  rw [hH0] at hLH hL9
  have HL0 : Hid (low H0 = LH) := hide hLH
  have hH9 : H0 ≤ 49 := by omega
  rcases Decidable.em (g - 4 < 0) with hneg | hneg
  · have e0 : H0 = 0 := by omega
    subst e0
    have LZ : LH = 0 := by omega
    subst LZ
    have dn : decide (g - 4 < 0) = true := by simpa using hneg
    clear HL0 HSG hH0 hLH CVO CVN
    go_enter Try.func18, Try.ntmps18
    go_wp2
    go_loopw [0] (fun v wq => v = .int .i64 0 ∧ w = wq) (fun _ _ => 0)
    case atStart => exact ⟨congrArg (Value.int IntKind.i64) (by omega), rfl⟩
    case round =>
      obtain ⟨rfl, hwq⟩ := hrel
      obtain rfl := hwq
      go_wp2
      go_ret
      exact ⟨rfl, rfl⟩
  · have e0 : g - 4 = (H0 : Int) := by omega
    have wG2 : IntKind.i64.wrap (g - 4) = (H0 : Int) := by rw [wG, e0]
    have dn : decide ((H0 : Int) < 0) = false := by simp
    have hn2 : ¬ (H0 : Int) < 0 := by omega
    clear wG e0 hneg HSG hH0 hLH
    go_enter Try.func18, Try.ntmps18
    go_wp2
    go_loopw [0] (fun v wq => ∃ h : Nat, h ≤ 49 ∧ v = .int .i64 h ∧ Hid (low h = LH) ∧ w = wq) (fun v _ => (intOf v).toNat)
    case atStart => exact ⟨H0, hH9, rfl, HL0, rfl⟩
    case round =>
      obtain ⟨h, hh, rfl, HL, hwq⟩ := hrel
      obtain rfl := hwq
      clear HL0
      rcases Nat.eq_zero_or_pos h with hz | hz
      · subst hz
        obtain rfl : LH = 0 := by rw [← unhide HL]; rfl
        go_wp2
        go_ret
        exact ⟨rfl, rfl⟩
      · have dz : decide (0 < (h : Int)) = true := by simpa using hz
        cases hvo : vo h with
        | true =>
          obtain rfl : h = LH := by rw [← unhide HL, low_is hvo]
          have c5 := unhide CVO h hh hvo
          obtain ⟨V5, hV5⟩ : ∃ V5, vl h = V5 := ⟨_, rfl⟩
          rw [hV5] at c5
          clear hV5 hvo HL CVO CVN
          go_wp2_with fail
          refine c5.mono ?_
          rintro e w5 ⟨rfl, hw5⟩
          obtain rfl : w = w5 := hw5.symm
          go_wp2
          go_ret
          exact ⟨rfl, rfl⟩
        | false =>
          obtain ⟨h', rfl⟩ : ∃ h', h = h' + 1 := ⟨h - 1, by omega⟩
          have HL2 : Hid (low h' = LH) := hide (by rw [← unhide HL, low_next hvo])
          have c5 := unhide CVN _ hh hvo
          have e1 : ((h' + 1 : Nat) : Int) - 1 = (h' : Int) := by omega
          have wh : IntKind.i64.wrap (((h' + 1 : Nat) : Int) - 1) = (h' : Int) := by rw [e1]; exact IntWalk.i64_in _ (by omega)
          obtain ⟨H1, hH1⟩ : ∃ H1 : Int, ((h' + 1 : Nat) : Int) = H1 := ⟨_, rfl⟩
          have HH1 := hide hH1
          rw [hH1] at wh dz c5 ⊢
          clear hH1 hvo HL CVO CVN e1
          go_wp2_with fail
          refine c5.mono ?_
          rintro e w5 ⟨rfl, hw5⟩
          obtain rfl : w = w5 := hw5.symm
          go_wp2
          go_roundw
          case rel => exact ⟨h', by omega, rfl, HL2, by first | trivial | rfl⟩
          case measure => rw [← unhide HH1]; simp [intOf]

/-- A part in a block of its own. -/
def Pb (W : World) (T : Nat) (G : Int) (V : Value) : Prop := W.heap[T]? = some (.cells #[.int .i64 G, V] 51 (0, 0))
section
variable {W W' : World} {T : Nat} {G : Int} {V : Value}
theorem Pb.lt (h : Pb W T G V) : T < W.heap.size := (Array.getElem?_eq_some_iff.1 h).1
theorem Pb.c0 (h : Pb W T G V) : W.cell? ⟨T, 0, none⟩ = some (.int .i64 G) := by simp [World.cell?, show W.heap[T]? = _ from h]
theorem Pb.c1 (h : Pb W T G V) : W.cell? ⟨T, 1, none⟩ = some V := by simp [World.cell?, show W.heap[T]? = _ from h]
theorem Pb.fz (h : Pb W T G V) (j : Nat) : W.frozen? ⟨T, j, none⟩ = false := by simp [World.frozen?, show W.heap[T]? = _ from h]
theorem Pb.below (h : Pb W T G V) (hb : Below W.heap.size W W') : Pb W' T G V := (hb.block T h.lt).trans h
theorem Pb.gain (h : Pb W T G V) (x : Int) : Pb (W.setCell ⟨T, 0, none⟩ (.int .i64 x)) T x V := by
  unfold Pb
  rw [setCell_eq_setRow W T 0 _ _ _ _ h, setRow_heap W T _ _ _ _ h]
  rfl
theorem Pb.puls (h : Pb W T G V) (v : Value) : Pb (W.setCell ⟨T, 1, none⟩ v) T G v := by
  unfold Pb
  rw [setCell_eq_setRow W T 1 _ _ _ _ h, setRow_heap W T _ _ _ _ h]
  rfl
theorem Pb.new (W : World) (G : Int) (V : Value) : Pb (W.alloc (.cells #[.int .i64 G, V] 51)) W.heap.size G V := by
  unfold Pb World.alloc
  simp
end
theorem set_grown (W : World) (T j : Nat) (v : Value) : W.grownBy (W.setCell ⟨T, j, none⟩ v) (some T) :=
  ⟨rfl, rfl, rfl, (KeepsWalks.setCell W _ v).size, fun k _ hk => Below.heap_setCell _ _ _ k (fun e => hk (by rw [e]))⟩
/-- A slice of integers and a slice of parts do not lie in one block. -/
theorem ints_parts {w : World} {b1 b2 : Nat} {u v : Value} {l : List Int} {qs : List (Int × Value)} (hu : Has w b1 u l) (hv : HasP w b2 v qs) : u.ownBlock = none ∨ u.ownBlock ≠ v.ownBlock := by
  rcases hu.2 with ⟨rfl, _⟩ | ⟨g, cap, cur, rfl, _, hgb, _⟩
  · exact Or.inl rfl
  · rcases hv.2 with ⟨rfl, _⟩ | ⟨g', cap', cur', rfl, _, hgb', _⟩
    · exact Or.inr (by simp [Value.ownBlock])
    · refine Or.inr fun e => ?_
      obtain rfl : g = g' := by simpa [Value.ownBlock] using e
      have := hgb.symm.trans hgb'
      simp at this
/-- One of the softer parts: its pulses are old ones, or new noughts. -/
def ElL (R : Nat → Prop) (n1 : Nat) (w1 wr : World) (V : Value) (l : List Int) : Prop := SliIn R w1 V l ∨ Has wr n1 V l
theorem ElL.below {R : Nat → Prop} {n1 : Nat} {w1 wr w' : World} {V : Value} {l : List Int} (h : ElL R n1 w1 wr V l) (hb : Below wr.heap.size wr w') : ElL R n1 w1 w' V l := h.imp (fun x => x) (fun x => x.below hb)
theorem ElL.appended {R : Nat → Prop} {n1 : Nat} {w1 wr w' : World} {V v : Value} {l : List Int} {qs : List (Int × Value)} {tmp : Obj} (h : ElL R n1 w1 wr V l) (hv : HasP wr n1 v qs) (hg : (wr.alloc tmp).grownBy w' v.ownBlock) : ElL R n1 w1 w' V l :=
  h.imp (fun x => x) (fun x => (x.alloc tmp).kept hg (ints_parts x hv))
theorem ElL.sli {R : Nat → Prop} {w1 wr : World} {V : Value} {l : List Int} (h : ElL R w1.heap.size w1 wr V l) (hb : Below w1.heap.size w1 wr) : SliIn (fun j => R j ∨ w1.heap.size ≤ j ∧ j < wr.heap.size) wr V l := by
  rcases h with ⟨A, C, h1, h2, h3, h4, h5⟩ | h
  · exact ⟨A, C, h1, h2, h3, h4, (h5.below hb).mono (fun j hj => Or.inl hj)⟩
  · obtain ⟨A, C, h1, h2, h3, h4, h5⟩ := rowN_of h
    exact ⟨A, C, h1, h2, h3, h4, h5.rin.mono (fun j hj => Or.inr hj)⟩

end Go.Proofs.Ytephagojpnfhcaj.Hid18

/-
  hide.softer: by its contract.
-/
namespace Go.Proofs.Ytephagojpnfhcaj.Hid18
open Go.RowKit
open Go.Proofs.Ytephagojpnfhcaj.Tre Go.Proofs.Ytephagojpnfhcaj.Frm Go.Proofs.Ytephagojpnfhcaj.Gai
set_option linter.unusedVariables false

set_option maxRecDepth 100000 in
set_option maxHeartbeats 16000000 in
theorem softerL (R : Nat → Prop) (p : Option Addr) (q : Nat) (last : List Prt) (w : World) (hl : PtsIn R w p last) (hl8 : last.length ≤ 8) (HPL6 : Hid (∀ i, i < last.length → (prt last i).2.length ≤ 6)) (HGS : Hid (Gs last)) :
    Calls Try.prog 13 #[.slice p last.length q] w fun e w' => ∃ p' q', e = .returned (.slice p' (soft last).length q') ∧ PtsIn (fun j => R j ∨ w.heap.size ≤ j ∧ j < w'.heap.size) w' p' (soft last) ∧ Below w.heap.size w w' := by
  have HSLn := hide (soft_length last)
  have HPO : Hid (∀ v qs w', HasP w' w.heap.size v qs → qs.length = last.length → (∀ r, r < last.length → ∃ V, qs[r]? = some ((prt (soft last) r).1, V) ∧ ElL R w.heap.size w w' V (prt (soft last) r).2) → Below w.heap.size w w' → (∃ a c, v = .slice a last.length c ∧ ∃ p' q', Ending.returned (.slice a last.length c) = .returned (.slice p' (soft last).length q') ∧ PtsIn (fun j => R j ∨ w.heap.size ≤ j ∧ j < w'.heap.size) w' p' (soft last) ∧ Below w.heap.size w w')) := hide (fun v qs w' h1 h2 h3 h4 => by
    obtain ⟨a', c', hu, PT, m1, m9⟩ := HasP.ptsIn (R := fun j => R j ∨ w.heap.size ≤ j ∧ j < w'.heap.size) h1 (fun j hj hj2 => Or.inr ⟨hj, hj2⟩) (ps := soft last) (by rw [soft_length, h2]) (fun r hr => by
      rw [soft_length] at hr
      obtain ⟨V, z1, z2⟩ := h3 r hr
      exact ⟨V, z1, z2.sli h4⟩)
    rw [soft_length] at hu
    exact ⟨a', c', hu, a', c', by rw [soft_length], PT, h4⟩)
  obtain ⟨M, hM⟩ : ∃ M, last.length = M := ⟨_, rfl⟩
  have HM := hide hM
  rw [hM] at hl8 HPL6 HPO ⊢
  clear hM HSLn
  go_enter Try.func13, Try.ntmps13
  go_wp2
  go_loopw [3, 8] (fun v i wr => ∃ (j : Nat) (qs : List (Int × Value)), j ≤ M ∧ i = .int .i64 j ∧ HasP wr w.heap.size v qs ∧ Hid (qs.length = j) ∧ Hid (∀ r, r < j → ∃ V, qs[r]? = some ((prt (soft last) r).1, V) ∧ ElL R w.heap.size w wr V (prt (soft last) r).2) ∧ Below w.heap.size w wr) (fun _ i _ => M - (intOf i).toNat)
  case atStart => exact ⟨0, [], Nat.zero_le _, rfl, HasP.nil _ _, rfl, hide (fun r hr => by omega), Below.refl _ _⟩
  case round =>
    obtain ⟨j, qs, hj, rfl, hv, HQ, HE, hB⟩ := hrel
    by_cases hltj : j < M
    · have hlt1 : j < last.length := by rw [unhide HM]; exact hltj
      obtain ⟨bl, offl, rfl, hbn, hbl, hcl⟩ := hl.at hlt1
      obtain ⟨x1, PA, PC, x2, x3, x4, x5, x6⟩ := hcl j hlt1
      have HSL : Hid (SliIn R w (.slice PA (prt last j).2.length PC) (prt last j).2) := hide ⟨PA, PC, rfl, x3, x4, x5, x6⟩
      have y1 := (hB.cell (p := ⟨bl, offl + j * 2, none⟩) hbl).trans x1
      have y2 := (hB.cell (p := ⟨bl, offl + j * 2 + 1, none⟩) hbl).trans x2
      obtain ⟨gg0, gg1⟩ := unhide HGS j hlt1
      have HSA := hide (soft_at hlt1)
      have hpl := unhide HPL6 j hltj
      have CSG := hide (fun W => softerGain (prt last j).1 gg0 gg1 W)
      have HSP0 : Hid (softG (prt last j).1 = 0 → softP (prt last j) = (0, List.replicate (prt last j).2.length 0)) := hide (fun h => by unfold softP; rw [h]; simp)
      have HSP1 : Hid (softG (prt last j).1 ≠ 0 → softP (prt last j) = (softG (prt last j).1, (prt last j).2)) := hide (fun h => by unfold softP; rw [if_neg h])
      obtain ⟨LP, hLP⟩ : ∃ LP, (prt last j).2.length = LP := ⟨_, rfl⟩
      have HLP := hide hLP
      rw [hLP] at y2 HSL hpl HSP0
      obtain ⟨G, hG⟩ : ∃ G, (prt last j).1 = G := ⟨_, rfl⟩
      rw [hG] at y1 CSG HSP0 HSP1
      obtain ⟨SG, hSG⟩ : ∃ SG, softG G = SG := ⟨_, rfl⟩
      rw [hSG] at CSG HSP0 HSP1
      have hln : Hid (qs.length + 1 ≤ 1000000) := hide (by rw [unhide HQ]; omega)
      have PB0 := Pb.new wr G (.slice PA LP PC)
      have hbA : Below wr.heap.size wr (wr.alloc (.cells #[.int .i64 G, .slice PA LP PC] 51)) := (Below.refl _ _).alloc (Nat.le_refl _) _
      obtain ⟨T, hT⟩ : ∃ T, wr.heap.size = T := ⟨_, rfl⟩
      obtain ⟨W4, hW4⟩ : ∃ W4, wr.alloc (.cells #[.int .i64 G, .slice PA LP PC] 51) = W4 := ⟨_, rfl⟩
      rw [hW4, hT] at PB0 hbA
      have a0 := PB0.c0
      have f0 := PB0.fz 0
      have PB1 := PB0.gain SG
      have hbB := hbA.setCell (p := ⟨T, 0, none⟩) (Nat.le_refl _) (.int .i64 SG)
      obtain ⟨W5, hW5⟩ : ∃ W5, W4.setCell ⟨T, 0, none⟩ (.int .i64 SG) = W5 := ⟨_, rfl⟩
      rw [hW5] at PB1 hbB
      have b0 := PB1.c0
      have b1 := PB1.c1
      have f1 := PB1.fz 1
      have hwT : w.heap.size ≤ T := by rw [← hT]; exact hB.size
      have hT5 := PB1.lt
      have KB : Hid (∀ W', Below T wr W' → HasP W' w.heap.size u3 qs ∧ Below w.heap.size w W' ∧ (∀ r, r < j → ∃ V, qs[r]? = some ((prt (soft last) r).1, V) ∧ ElL R w.heap.size w W' V (prt (soft last) r).2)) := hide (fun W' hb => by
        rw [← hT] at hb
        refine ⟨hv.below hb, Below.chain hB hb, fun r hr => ?_⟩
        obtain ⟨V, z1, z2⟩ := unhide HE r hr
        exact ⟨V, z1, z2.below hb⟩)
      clear hcl x1 x2 x3 x4 x5 x6 hLP hG hSG hlt1 HE hv hB hbA PB0 gg0 gg1
      by_cases hS0 : SG = 0
      · subst hS0
        have HSP := hide (unhide HSP0 rfl)
        clear HSP0 HSP1
        go_wp2_with fail
        refine (unhide CSG _).mono ?_
        rintro e w4 ⟨rfl, hw4⟩
        obtain rfl : W4 = w4 := hw4.symm
        clear CSG
        go_wp2_with (first
          | (at_make
             refine wpList_mk _ rfl _ rfl LP rfl (by omega) ?_
             intro w6 hv6 hb6
             rw [upto_zeros] at hv6
             have PB6 := PB1.below hb6
             have f6 := PB6.fz 1
             have d6 := PB6.c1
             have PB7 := PB6.puls (.slice (some ⟨W5.heap.size, 0, none⟩) LP LP)
             have hb7 : Below T wr (w6.setCell ⟨T, 1, none⟩ (.slice (some ⟨W5.heap.size, 0, none⟩) LP LP)) := (hbB.trans (hb6.mono (Nat.le_of_lt hT5))).setCell (p := ⟨T, 1, none⟩) (Nat.le_refl _) _
             have hn7 : Has (w6.setCell ⟨T, 1, none⟩ (.slice (some ⟨W5.heap.size, 0, none⟩) LP LP)) w.heap.size (.slice (some ⟨W5.heap.size, 0, none⟩) LP LP) (List.replicate LP 0) := (hv6.mono (by omega)).kept (set_grown w6 T 1 _) (Or.inr (by simp [Value.ownBlock]; omega))
             obtain ⟨W7, hW7⟩ : ∃ W7, w6.setCell ⟨T, 1, none⟩ (.slice (some ⟨W5.heap.size, 0, none⟩) LP LP) = W7 := ⟨_, rfl⟩
             rw [hW7] at PB7 hb7 hn7
             have g0 := PB7.c0
             have g1 := PB7.c1
             obtain ⟨hvw, hBw, HE6⟩ := unhide KB W7 hb7
             have HE6' := hide HE6
             have hWs := hBw.size
             clear HE6 KB hv6 hb6 PB6)
          | (at_builtin
             refine wpList_appp _ rfl _ _ rfl w.heap.size u3 qs (0, .slice (some ⟨W5.heap.size, 0, none⟩) LP LP) _ _ rfl (hvw.alloc _) rfl rfl (by simp) (by simp) (unhide hln) (by simp; omega) ?_
             intro s' w7 k7 g7 at7))
        have hB7 : Below w.heap.size w w7 := hBw.trans (((Below.refl _ W7).alloc hWs _).grown g7 (by simp; omega) (fun j e => (hvw.lt j e).1))
        have HE7 : Hid (∀ r, r < j + 1 → ∃ V, (qs ++ [((0 : Int), Value.slice (some ⟨W5.heap.size, 0, none⟩) LP LP)])[r]? = some ((prt (soft last) r).1, V) ∧ ElL R w.heap.size w w7 V (prt (soft last) r).2) := hide (fun r hr => by
          by_cases e : r < j
          · obtain ⟨V, z1, z2⟩ := unhide HE6' r e
            exact ⟨V, by rw [List.getElem?_append_left (by rw [unhide HQ]; exact e)]; exact z1, z2.appended hvw g7⟩
          · obtain rfl : r = j := by omega
            rw [unhide HSA, unhide HSP]
            exact ⟨_, by rw [← unhide HQ, List.getElem?_concat_length], (ElL.appended (Or.inr hn7) hvw g7)⟩)
        have HQ7 : Hid ((qs ++ [((0 : Int), Value.slice (some ⟨W5.heap.size, 0, none⟩) LP LP)]).length = j + 1) := hide (by rw [List.length_append, unhide HQ]; rfl)
        clear HE6' hvw hBw hn7 g7 at7
        go_wp2
        go_roundw
        case rel => exact ⟨j + 1, _, by omega, by go_num, k7, HQ7, HE7, hB7⟩
        case measure => simp [intOf]; omega
      · have nz : (SG == 0) = false := by rw [beq_eq_false_iff_ne]; exact hS0
        have HSP := hide (unhide HSP1 hS0)
        obtain ⟨hvw, hBw, HE6⟩ := unhide KB W5 hbB
        have HE6' := hide HE6
        have hWs := hBw.size
        clear HSP0 HSP1 HE6 KB
        go_wp2_with fail
        refine (unhide CSG _).mono ?_
        rintro e w4 ⟨rfl, hw4⟩
        obtain rfl : W4 = w4 := hw4.symm
        clear CSG
        go_wp2_with (at_builtin; refine wpList_appp _ rfl _ _ rfl w.heap.size u3 qs (SG, .slice PA LP PC) _ _ rfl (hvw.alloc _) rfl rfl (by simp) (by simp) (unhide hln) (by simp; omega) ?_; intro s' w7 k7 g7 at7)
        have hB7 : Below w.heap.size w w7 := hBw.trans (((Below.refl _ W5).alloc hWs _).grown g7 (by simp; omega) (fun j e => (hvw.lt j e).1))
        have HE7 : Hid (∀ r, r < j + 1 → ∃ V, (qs ++ [(SG, Value.slice PA LP PC)])[r]? = some ((prt (soft last) r).1, V) ∧ ElL R w.heap.size w w7 V (prt (soft last) r).2) := hide (fun r hr => by
          by_cases e : r < j
          · obtain ⟨V, z1, z2⟩ := unhide HE6' r e
            exact ⟨V, by rw [List.getElem?_append_left (by rw [unhide HQ]; exact e)]; exact z1, z2.appended hvw g7⟩
          · obtain rfl : r = j := by omega
            rw [unhide HSA, unhide HSP]
            exact ⟨_, by rw [← unhide HQ, List.getElem?_concat_length], Or.inl (unhide HSL)⟩)
        have HQ7 : Hid ((qs ++ [(SG, Value.slice PA LP PC)]).length = j + 1) := hide (by rw [List.length_append, unhide HQ]; rfl)
        clear HE6' hvw hBw g7 at7
        go_wp2
        go_roundw
        case rel => exact ⟨j + 1, _, by omega, by go_num, k7, HQ7, HE7, hB7⟩
        case measure => simp [intOf]; omega
    · obtain rfl : M = j := by omega
      obtain ⟨a', c', hu, HR⟩ := unhide HPO _ _ _ hv (unhide HQ) (unhide HE) hB
      have HR' := hide HR
      rw [hu]
      clear HR HPO HE hv HQ
      go_wp2
      go_ret
      exact unhide HR'

end Go.Proofs.Ytephagojpnfhcaj.Hid18
