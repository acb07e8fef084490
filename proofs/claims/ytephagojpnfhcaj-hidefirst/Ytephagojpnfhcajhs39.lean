/-
  The landed player's Play: by its contract.
-/
import Derived.Test.Ytephagojpnfhcajhs17
import Derived.Test.Ytephagojpnfhcajhs20
import Derived.Test.Ytephagojpnfhcajhs38
namespace Go.Proofs.Ytephagojpnfhcaj.Hid18
open Go.RowKit
open Go.Proofs.Ytephagojpnfhcaj.Tre Go.Proofs.Ytephagojpnfhcaj.Bnd Go.Proofs.Ytephagojpnfhcaj.Frm Go.Proofs.Ytephagojpnfhcaj.Pck Go.Proofs.Ytephagojpnfhcaj.Hrn Go.Proofs.Ytephagojpnfhcaj.Ev
set_option linter.unusedVariables false

/-- What Play tells. -/
def PlaySays (s : List Int) (B : Int) (Q : Nat → Prop) (W : World) (b : Nat) (last : List Prt) (k : Int) (x : ByteArray) (e : Ending) (W' : World) : Prop :=
  ∃ E po qo o last' k', e = .returned (.tuple #[.slice po o.length qo, errV E]) ∧ PlayF (byt x) s B last E o last' ∧ (E = 0 → k' = 0) ∧ (E ≠ 0 → k' = k) ∧ RowN W.heap.size W' po o ∧ o.length ≤ qo ∧ qo ≤ 9223372036854775807 ∧ LeftB PH s B Q W b last' k' W'
theorem unpF_few {b s : List Int} {B E : Int} {ps : List Prt} (h : UnpF b s B E ps) : ps.length ≤ 8 ∧ ∀ i, i < ps.length → (prt ps i).2.length ≤ 17592186044416 := by
  rcases h with ⟨_, _, rfl⟩ | ⟨h1, h⟩
  · exact ⟨by simp, fun i hi => by simp at hi⟩
  · rcases h with ⟨_, _, rfl⟩ | ⟨_, h⟩
    · exact ⟨by simp, fun i hi => by simp at hi⟩
    · rcases h with ⟨_, _, rfl⟩ | ⟨h, _⟩
      · exact ⟨by simp, fun i hi => by simp at hi⟩
      · have hr := (frm_zero h.1).2.2.2
        exact ⟨by rw [hr.len]; exact (bf_ok h1).2.1, fun i hi => by have := (right_in hr hi).1; omega⟩
section
variable {s : List Int} {B : Int} {Q : Nat → Prop} {W : World} {b : Nat} {last : List Prt} {k : Int} {a : Option Addr} {cap : Nat} {p : Option Addr} {q : Nat} {x : ByteArray}
theorem play_no (h : HidL s B Q W b last k a cap p q) {E : Int} {w' : World} {ps : List Prt} (hu : UnpF (byt x) s B E ps) (hne : E ≠ 0) (hb : Below W.heap.size W w') : PlaySays s B Q W b last k x (.returned (.tuple #[.slice none 0 0, .iface 39 (.int .i64 E)])) w' :=
  ⟨E, none, 0, [], last, k, by rw [errV_ne hne]; rfl, ⟨E, ps, hu, Or.inl ⟨hne, rfl, rfl, rfl⟩⟩, fun h => absurd h hne, fun _ => rfl, Or.inl rfl, Nat.le_refl _, by omega, Q, ⟨a, cap, p, q, h.below hb⟩, fun j hj => Or.inl hj, But.of_below hb⟩
theorem play_bad (h : HidL s B Q W b last k a cap p q) {F : Int} {w' : World} {ps : List Prt} (hu : UnpF (byt x) s B 0 ps) (hF : decF ps = F) (hne : F ≠ 0) (hb : Below W.heap.size W w') : PlaySays s B Q W b last k x (.returned (.tuple #[.slice none 0 0, .iface 39 (.int .i64 F)])) w' :=
  ⟨F, none, 0, [], last, k, by rw [errV_ne hne]; rfl, ⟨0, ps, hu, Or.inr (Or.inl ⟨rfl, by rw [hF]; exact hne, hF.symm, rfl, rfl⟩)⟩, fun h => absurd h hne, fun _ => rfl, Or.inl rfl, Nat.le_refl _, by omega, Q, ⟨a, cap, p, q, h.below hb⟩, fun j hj => Or.inl hj, But.of_below hb⟩
theorem play_yes (h : HidL s B Q W b last k a cap p q) {w2 : World} {ps : List Prt} {po p1 : Option Addr} {qo q1 : Nat} (hu : UnpF (byt x) s B 0 ps) (hd : decF ps = 0) (hb : Below W.heap.size W w2) (hr : RowN W.heap.size w2 po (Lap.unlap (all ps))) (hq1 : (Lap.unlap (all ps)).length ≤ qo) (hq2 : qo ≤ 9223372036854775807) (hp : PtsN W.heap.size w2 p1 ps) :
    PlaySays s B Q W b last k x (.returned (.tuple #[.slice po (Lap.unlap (all ps)).length qo, .nilIface])) ((w2.setCell ⟨b, 3, none⟩ (.slice p1 ps.length q1)).setCell ⟨b, 4, none⟩ (.int .i64 0)) := by
  have hP : PlayF (byt x) s B last 0 (Lap.unlap (all ps)) ps := ⟨0, ps, hu, Or.inr (Or.inr ⟨rfl, hd, rfl, rfl, rfl⟩)⟩
  have hw := hP.was h.fine.2
  have hlt := h.old b h.own
  have hsz := hb.size
  have g1 := But.set (b := b) (j := 3) w2 (.slice p1 ps.length q1)
  have g2 := But.set (b := b) (j := 4) (w2.setCell ⟨b, 3, none⟩ (.slice p1 ps.length q1)) (.int .i64 0)
  have g3 : But b w2 _ := g1.trans g2
  have hL := ((h.below hb).lasts (Q' := fun j => Q j ∨ W.heap.size ≤ j ∧ j < w2.heap.size) (q1 := q1) hp.pin (fun j hj => ⟨Or.inr hj, by omega⟩) (fun j hj => Or.inl hj) (fun j hj => by
    rcases hj with hj | hj
    · have := h.old j hj
      omega
    · exact hj.2) hw).lost 0
  exact ⟨0, po, qo, _, ps, 0, rfl, hP, fun _ => rfl, fun h => absurd rfl h, hr.but g3 hlt, hq1, hq2, _, ⟨a, cap, p1, q1, hL⟩, fun j hj => hj.imp (fun x => x) (fun x => x.1), (But.of_below hb).trans g3⟩
end

set_option maxRecDepth 100000 in
set_option maxHeartbeats 8000000 in
theorem playL {s : List Int} {B : Int} {Q : Nat → Prop} {W : World} {b : Nat} {last : List Prt} {k : Int} (x : ByteArray) (h : PH s B Q W b last k) (zx : x.size ≤ 9223372036854775807) :
    Calls Try.prog 8 #[.pointer (some ⟨b, 0, none⟩), .string x] W fun e W' => PlaySays s B Q W b last k x e W' := by
  obtain ⟨a, cap, p, q, hH⟩ := h
  obtain ⟨f8, f6, s8, t32⟩ := hH.few
  have c0 := hH.ply.c0
  have c1 := hH.ply.c1
  have hs := hH.siz.row
  have CUN := hide (fun W h => unpack x a cap s B W zx h (by omega))
  unfold UnpSays at CUN
  have HNO : Hid (∀ E w' ps, UnpF (byt x) s B E ps → E ≠ 0 → Below W.heap.size W w' → PlaySays s B Q W b last k x (.returned (.tuple #[.slice none 0 0, .iface 39 (.int .i64 E)])) w') := hide (fun E w' ps h hne hb => play_no hH h hne hb)
  have HND : Hid (∀ F w' ps, UnpF (byt x) s B 0 ps → decF ps = F → F ≠ 0 → Below W.heap.size W w' → PlaySays s B Q W b last k x (.returned (.tuple #[.slice none 0 0, .iface 39 (.int .i64 F)])) w') := hide (fun F w' ps h hF hne hb => play_bad hH h hF hne hb)
  have HYE := hide (fun w2 ps po qo p1 q1 h hd hb hr h1 h2 hp => play_yes (x := x) (w2 := w2) (ps := ps) (po := po) (qo := qo) (p1 := p1) (q1 := q1) hH h hd hb hr h1 h2 hp)
  have hsd : Row W.drew a s := hs
  have hdr : Below W.heap.size W W.drew := ⟨rfl, rfl, rfl, Nat.le_refl _, fun _ _ => rfl⟩
  have HP := hide hH.ply
  have hlt := hH.ply.lt
  obtain ⟨N, hN⟩ : ∃ N, s.length = N := ⟨_, rfl⟩
  rw [hN] at c0 CUN
  clear hN hH f8 f6 s8 t32 hs
  go_enter Try.func8, Try.ntmps8
  go_wp2
  go_region_with (
    go_at_call 15
    refine (unhide CUN _ hsd).mono ?_
    rintro e w1 ⟨E1, p1, q1, l1, rfl, P1, m1, m19, U1, hb1⟩)
  all_goals (
    have hB1 := hdr.trans hb1
    by_cases hE : E1 = 0
    · subst hE
      rw [errV_zero]
      obtain ⟨f8, fl⟩ := unpF_few U1
      have CDE := hide (decodeN p1 q1 l1 w1 P1.pts (by omega) (hide fl))
      have HU1 := hide U1
      have HP1 : Hid (PtsN W.heap.size w1 p1 l1) := hide P1
      have HDL : Hid (decF l1 = 0 → decL l1 = Lap.unlap (all l1)) := hide (fun h => by unfold decL; rw [if_pos h])
      have HDN : Hid (decF l1 ≠ 0 → decL l1 = []) := hide (fun h => by unfold decL; rw [if_neg h])
      obtain ⟨M, hM⟩ : ∃ M, l1.length = M := ⟨_, rfl⟩
      have HM := hide hM
      rw [hM] at CDE ⊢
      clear hM f8 fl U1 P1
      go_wp2_with fail
      refine (unhide CDE).mono ?_
      clear CDE
      rintro e w2 ⟨po, qo, rfl, z4, z2, z3, hb2⟩
      have hB2 := Below.chain hB1 hb2
      by_cases hd : decF l1 = 0
      · rw [hd, errV_zero]
        rw [unhide HDL hd] at z4 z2 ⊢
        have HR := hide (unhide HYE w2 l1 po qo p1 q1 (unhide HU1) hd hB2 (z4.mono hB1.size) z2 z3 ((unhide HP1).below hb2))
        rw [unhide HM] at HR
        have P2 := (unhide HP).below hB2 hlt
        have d3 := P2.c3
        have d4 := (P2.last (.slice p1 M q1)).c4
        have fz3 := P2.fz 3
        have fz4 := (P2.last (.slice p1 M q1)).fz 4
        obtain ⟨OL, hOL⟩ : ∃ OL, (Lap.unlap (all l1)).length = OL := ⟨_, rfl⟩
        rw [hOL] at HR ⊢
        clear hOL HND HNO HYE z2 z3 z4 P2 hd HDL HDN
        go_wp2
        go_ret2
        exact unhide HR
      · have HR := hide (unhide HND (decF l1) w2 l1 (unhide HU1) rfl hd hB2)
        rw [errV_ne hd, unhide HDN hd]
        obtain ⟨DF, hDF⟩ : ∃ DF, decF l1 = DF := ⟨_, rfl⟩
        rw [hDF] at HR ⊢
        clear HND HNO HYE hd HDL HDN z2 z3 z4 hDF
        go_wp2
        go_ret2
        exact unhide HR
    · have HR := hide (unhide HNO E1 w1 l1 U1 hE hB1)
      rw [errV_ne hE]
      obtain ⟨M, hM⟩ : ∃ M, l1.length = M := ⟨_, rfl⟩
      rw [hM]
      clear HND HNO HYE U1 hE hM
      go_wp2
      go_ret2
      exact unhide HR)

end Go.Proofs.Ytephagojpnfhcaj.Hid18

/-
  The landed player's Lose: by its contract; what is asked of a player, met.
-/
namespace Go.Proofs.Ytephagojpnfhcaj.Hid18
open Go.RowKit
open Go.Proofs.Ytephagojpnfhcaj.Tre Go.Proofs.Ytephagojpnfhcaj.Bnd Go.Proofs.Ytephagojpnfhcaj.Frm Go.Proofs.Ytephagojpnfhcaj.Pck Go.Proofs.Ytephagojpnfhcaj.Hrn Go.Proofs.Ytephagojpnfhcaj.Ev
set_option linter.unusedVariables false

/-- What Lose tells. -/
def LoseSays (s : List Int) (B : Int) (Q : Nat → Prop) (W : World) (b : Nat) (last : List Prt) (k : Int) (e : Ending) (W' : World) : Prop :=
  ∃ po qo, e = .returned (.slice po (lostL s last).length qo) ∧ RowN W.heap.size W' po (lostL s last) ∧ (lostL s last).length ≤ qo ∧ qo ≤ 9223372036854775807 ∧ LeftB PH s B Q W b (soft last) (k + 1) W'

set_option maxRecDepth 100000 in
set_option maxHeartbeats 8000000 in
theorem loseL {s : List Int} {B : Int} {Q : Nat → Prop} {W : World} {b : Nat} {last : List Prt} {k : Int} (h : PH s B Q W b last k) (hk0 : 0 ≤ k) (hk9 : k ≤ 1000000) :
    Calls Try.prog 6 #[.pointer (some ⟨b, 0, none⟩)] W fun e W' => LoseSays s B Q W b last k e W' := by
  obtain ⟨a, cap, p, q, hH⟩ := h
  obtain ⟨f8, f6, s8, t32⟩ := hH.few
  have hlt := hH.ply.lt
  have e4 := hH.ply.c4
  have fz4 := hH.ply.fz 4
  have wk : IntKind.i64.wrap (k + 1) = k + 1 := IntWalk.i64_in _ (by omega)
  have H1 := hH.lost (k + 1)
  have g1 := But.set (b := b) (j := 4) W (.int .i64 (k + 1))
  have HWS : Hid (Was s (soft last) ∧ Gs (soft last)) := hide ⟨hH.fine.2.1.soft, hH.fine.2.2.soft⟩
  have HLO : Hid (lostL s last = if decF (soft last) = 0 then Lap.unlap (all (soft last)) else List.replicate (total s) 0) := hide rfl
  have HF6 : Hid (∀ i, i < (soft last).length → (prt (soft last) i).2.length ≤ 17592186044416) := hide (fun i hi => by
    rw [soft_length] at hi
    rw [soft_at hi, softP_length]
    have := f6 i hi
    omega)
  have hS8 : (soft last).length ≤ 17592186044416 := by rw [soft_length]; omega
  obtain ⟨W1, hW1⟩ : ∃ W1, W.setCell ⟨b, 4, none⟩ (.int .i64 (k + 1)) = W1 := ⟨_, rfl⟩
  rw [hW1] at H1 g1
  have q3 := H1.ply.c3
  have CSO := hide (softerL _ p q last W1 H1.pts f8 (hide f6) (hide H1.fine.2.2))
  have hs1 := g1.size
  obtain ⟨M, hM⟩ : ∃ M, last.length = M := ⟨_, rfl⟩
  rw [hM] at q3 CSO
  have HH1 := hide H1
  have HG1 := hide g1
  clear hH f8 f6 s8 hM H1 g1
  go_enter Try.func6, Try.ntmps6
  go_wp2_with fail
  refine (unhide CSO).mono ?_
  clear CSO
  rintro e wr ⟨p', q', rfl, hP, hB⟩
  have H2 := (unhide HH1).below hB
  have fz3 := H2.ply.fz 3
  have d3 := H2.ply.c3
  have hsB := hB.size
  have hold1 := (unhide HH1).old
  have H3 := H2.lasts (Q' := fun j => Q j ∨ W1.heap.size ≤ j ∧ j < wr.heap.size) (q1 := q') hP (fun j hj => by
    rcases hj with hj | hj
    · exact ⟨Or.inl hj.1, hj.2⟩
    · exact ⟨Or.inr hj, by omega⟩) (fun j hj => Or.inl hj) (fun j hj => by
    rcases hj with hj | hj
    · have := hold1 j hj
      omega
    · exact hj.2) (unhide HWS)
  have g2 := But.set (b := b) (j := 3) wr (.slice p' (soft last).length q')
  have g3 := ((unhide HG1).trans (But.of_below hB)).trans g2
  obtain ⟨W2, hW2⟩ : ∃ W2, wr.setCell ⟨b, 3, none⟩ (.slice p' (soft last).length q') = W2 := ⟨_, rfl⟩
  rw [hW2] at H3 g3
  have r3 := H3.ply.c3
  have hsz2 := g3.size
  have HPO : Hid (∀ po qo w', RowN W2.heap.size w' po (lostL s last) → (lostL s last).length ≤ qo → qo ≤ 9223372036854775807 → Below W2.heap.size W2 w' → LoseSays s B Q W b last k (.returned (.slice po (lostL s last).length qo)) w') := hide (fun po qo w' h1 h2 h3 h4 => ⟨po, qo, rfl, h1.mono hsz2, h2, h3, _, ⟨a, cap, p', q', H3.below h4⟩, fun j hj => by
    rcases hj with hj | hj
    · exact Or.inl hj
    · exact Or.inr (by omega), g3.trans (But.of_below h4)⟩)
  have CDE := hide (decodeN p' q' (soft last) W2 H3.pts.pts hS8 HF6)
  have HDL : Hid (decF (soft last) = 0 → decL (soft last) = lostL s last) := hide (fun h => by unfold decL; rw [if_pos h, unhide HLO, if_pos h])
  have HDN : Hid (decF (soft last) ≠ 0 → decL (soft last) = [] ∧ lostL s last = List.replicate (total s) 0) := hide (fun h => ⟨by unfold decL; rw [if_neg h], by rw [unhide HLO, if_neg h]⟩)
  have HP3 := hide H3.ply
  obtain ⟨SL, hSL⟩ : ∃ SL, (soft last).length = SL := ⟨_, rfl⟩
  rw [hSL] at CDE r3 hW2 ⊢
  obtain ⟨DF, hDF⟩ : ∃ DF, decF (soft last) = DF := ⟨_, rfl⟩
  rw [hDF] at CDE HDL HDN
  obtain ⟨DL, hDL⟩ : ∃ DL, decL (soft last) = DL := ⟨_, rfl⟩
  rw [hDL] at CDE HDL HDN
  clear hSL hDF hDL HH1 HG1 H2 H3 g2 g3 hP hB HLO HWS HF6 hS8 hold1 e4 fz4 q3 wk
  go_wp2_with fail
  refine (unhide CDE).mono ?_
  clear CDE
  rintro e w3 ⟨po, qo, rfl, z4, z2, z3, hb3⟩
  by_cases hd : DF = 0
  · subst hd
    rw [errV_zero]
    obtain rfl := unhide HDL rfl
    have HR := hide (unhide HPO po qo w3 z4 z2 z3 hb3)
    obtain ⟨OL, hOL⟩ : ∃ OL, (lostL s last).length = OL := ⟨_, rfl⟩
    rw [hOL] at HR ⊢
    clear HPO hOL z2 z3 z4 HDL HDN
    go_wp2
    go_ret
    exact unhide HR
  · rw [errV_ne hd]
    obtain ⟨rfl, hLE⟩ := unhide HDN hd
    have P3 := (unhide HP3).below hb3 (unhide HP3).lt
    have d2 := P3.c2
    rw [hLE] at HPO
    obtain ⟨TT, hTT⟩ : ∃ TT, total s = TT := ⟨_, rfl⟩
    rw [hTT] at d2 HPO t32
    clear HDL HDN hd hLE hTT z2 z3 z4
    go_wp2_with (at_make; refine wpList_mk _ rfl _ rfl TT rfl (by omega) ?_; intro w5 hv5 hb5)
    rw [upto_zeros] at hv5
    obtain ⟨po', qo', ep, z1, z2, z3, z4⟩ := rowN_of hv5
    have hB5 := Below.chain hb3 hb5
    have HR := hide (unhide HPO po' qo' w5 (z4.mono hb3.size) z2 z3 hB5)
    rw [← ep] at HR
    clear HPO ep z1 z2 z3 z4 hv5
    go_wp2
    go_ret
    exact unhide HR

/-- The landed player is as it is asked. -/
theorem landed : PlayB PH where
  ok := fun h => by
    obtain ⟨a, cap, p, q, hH⟩ := h
    exact hH.fine
  own := fun h => by
    obtain ⟨a, cap, p, q, hH⟩ := h
    exact hH.own
  old := fun h => by
    obtain ⟨a, cap, p, q, hH⟩ := h
    exact hH.old
  kept := fun h hz hk => by
    obtain ⟨a, cap, p, q, hH⟩ := h
    exact ⟨a, cap, p, q, hH.kept hz hk⟩
  new := fun a cap s B W hr zs => newL a cap s B W hr zs
  play := fun x h zx => playL x h zx
  lose := fun h h0 h9 => loseL h h0 h9
  lost := fun h => lostsL h

end Go.Proofs.Ytephagojpnfhcaj.Hid18
