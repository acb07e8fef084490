/-
  The landed player's Play: by its contract.
-/
import Derived.Test.YtjojeifoddonnakGreatLc28
import Derived.Test.YtjojeifoddonnakGreatLc39
import Derived.Test.YtjojeifoddonnakGreatLc47
namespace Go.Proofs.YtjojeifoddonnakGreat.Hid18
open Go.RowKit
open Go.Proofs.YtjojeifoddonnakGreat.Tre Go.Proofs.YtjojeifoddonnakGreat.Bnd Go.Proofs.YtjojeifoddonnakGreat.Frm Go.Proofs.YtjojeifoddonnakGreat.Pck Go.Proofs.YtjojeifoddonnakGreat.Hrn Go.Proofs.YtjojeifoddonnakGreat.Ev
set_option linter.unusedVariables false

/-- What Play tells. -/
def PlaySays (s : List Int) (B : Int) (Q : Nat → Prop) (W : World) (b : Nat) (last : List Prt) (k : Int) (x : ByteArray) (e : Ending) (W' : World) : Prop :=
  ∃ E po qo o last' k', e = .returned (.tuple #[.slice po o.length qo, errV E]) ∧ PlayF (byt x) s B last E o last' ∧ (E = 0 → k' = 0) ∧ (E ≠ 0 → k' = k) ∧ RowN W.heap.size W' po o ∧ o.length ≤ qo ∧ qo ≤ 9223372036854775807 ∧ LeftB PH s B Q W b last' k' W'
theorem unpF_few {b s : List Int} {B E : Int} {ps : List Prt} (h : UnpF b s B E ps) : ps.length ≤ 8 ∧ ∀ i, i < ps.length → (prt ps i).2.length ≤ 17592186044416 := by
  rcases h with ⟨_, _, rfl⟩ | ⟨h1, h⟩
  · exact ⟨by simp, fun i hi => by simp at hi⟩
  · rcases h with ⟨_, _, rfl⟩ | ⟨_, h⟩
    · exact ⟨by simp, fun i hi => by simp at hi⟩
    · rcases h with ⟨_, _, rfl⟩ | ⟨h, _⟩
      · exact ⟨by simp, fun i hi => by simp at hi⟩
      · have hr := (frm_zero h.1).2.2.2
        exact ⟨by rw [hr.len]; exact (bf_ok h1).2.1, fun i hi => by have := (right_in hr hi).1; omega⟩
section
variable {s : List Int} {B : Int} {Q : Nat → Prop} {W : World} {b : Nat} {last : List Prt} {k : Int} {a : Option Addr} {cap : Nat} {p : Option Addr} {q : Nat} {x : ByteArray}
theorem play_no (h : HidL s B Q W b last k a cap p q) {E : Int} {w' : World} {ps : List Prt} (hu : UnpF (byt x) s B E ps) (hne : E ≠ 0) (hb : Below W.heap.size W w') : PlaySays s B Q W b last k x (.returned (.tuple #[.slice none 0 0, .iface 60 (.int .i64 E)])) w' :=
  ⟨E, none, 0, [], last, k, by rw [errV_ne hne]; rfl, ⟨E, ps, hu, Or.inl ⟨hne, rfl, rfl, rfl⟩⟩, fun h => absurd h hne, fun _ => rfl, Or.inl rfl, Nat.le_refl _, by omega, Q, ⟨a, cap, p, q, h.below hb⟩, fun j hj => Or.inl hj, But.of_below hb⟩
theorem play_bad (h : HidL s B Q W b last k a cap p q) {F : Int} {w' : World} {ps : List Prt} (hu : UnpF (byt x) s B 0 ps) (hF : decF ps = F) (hne : F ≠ 0) (hb : Below W.heap.size W w') : PlaySays s B Q W b last k x (.returned (.tuple #[.slice none 0 0, .iface 60 (.int .i64 F)])) w' :=
  ⟨F, none, 0, [], last, k, by rw [errV_ne hne]; rfl, ⟨0, ps, hu, Or.inr (Or.inl ⟨rfl, by rw [hF]; exact hne, hF.symm, rfl, rfl⟩)⟩, fun h => absurd h hne, fun _ => rfl, Or.inl rfl, Nat.le_refl _, by omega, Q, ⟨a, cap, p, q, h.below hb⟩, fun j hj => Or.inl hj, But.of_below hb⟩
theorem play_yes (h : HidL s B Q W b last k a cap p q) {w2 : World} {ps : List Prt} {po p1 : Option Addr} {qo q1 : Nat} (hu : UnpF (byt x) s B 0 ps) (hd : decF ps = 0) (hb : Below W.heap.size W w2) (hr : RowN W.heap.size w2 po (Lap.unlap (all ps))) (hq1 : (Lap.unlap (all ps)).length ≤ qo) (hq2 : qo ≤ 9223372036854775807) (hp : PtsN W.heap.size w2 p1 ps) :
    PlaySays s B Q W b last k x (.returned (.tuple #[.slice po (Lap.unlap (all ps)).length qo, .nilIface])) ((w2.setCell ⟨b, 3, none⟩ (.slice p1 ps.length q1)).setCell ⟨b, 4, none⟩ (.int .i64 0)) := by
  have hP : PlayF (byt x) s B last 0 (Lap.unlap (all ps)) ps := ⟨0, ps, hu, Or.inr (Or.inr ⟨rfl, hd, rfl, rfl, rfl⟩)⟩
  have hw := hP.was h.fine.2
  have hlt := h.old b h.own
  have hsz := hb.size
  have g1 := But.set (b := b) (j := 3) w2 (.slice p1 ps.length q1)
  have g2 := But.set (b := b) (j := 4) (w2.setCell ⟨b, 3, none⟩ (.slice p1 ps.length q1)) (.int .i64 0)
  have g3 : But b w2 _ := g1.trans g2
  have hL := ((h.below hb).lasts (Q' := fun j => Q j ∨ W.heap.size ≤ j ∧ j < w2.heap.size) (q1 := q1) hp.pin (fun j hj => ⟨Or.inr hj, by omega⟩) (fun j hj => Or.inl hj) (fun j hj => by
    rcases hj with hj | hj
    · have := h.old j hj
      omega
    · exact hj.2) hw).lost 0
  exact ⟨0, po, qo, _, ps, 0, rfl, hP, fun _ => rfl, fun h => absurd rfl h, hr.but g3 hlt, hq1, hq2, _, ⟨a, cap, p1, q1, hL⟩, fun j hj => hj.imp (fun x => x) (fun x => x.1), (But.of_below hb).trans g3⟩
end

set_option maxRecDepth 100000 in
set_option maxHeartbeats 8000000 in
theorem playL {s : List Int} {B : Int} {Q : Nat → Prop} {W : World} {b : Nat} {last : List Prt} {k : Int} (x : ByteArray) (h : PH s B Q W b last k) (zx : x.size ≤ 9223372036854775807) :
    Calls Tryz.prog 15 #[.pointer (some ⟨b, 0, none⟩), .string x] W fun e W' => PlaySays s B Q W b last k x e W' := by
  obtain ⟨a, cap, p, q, hH⟩ := h
  obtain ⟨f8, f6, s8, t32⟩ := hH.few
  have c0 := hH.ply.c0
  have c1 := hH.ply.c1
  have hs := hH.siz.row
  have CUN := hide (fun W h => unpack x a cap s B W zx h (by omega))
  unfold UnpSays at CUN
  have HNO : Hid (∀ E w' ps, UnpF (byt x) s B E ps → E ≠ 0 → Below W.heap.size W w' → PlaySays s B Q W b last k x (.returned (.tuple #[.slice none 0 0, .iface 60 (.int .i64 E)])) w') := hide (fun E w' ps h hne hb => play_no hH h hne hb)
  have HND : Hid (∀ F w' ps, UnpF (byt x) s B 0 ps → decF ps = F → F ≠ 0 → Below W.heap.size W w' → PlaySays s B Q W b last k x (.returned (.tuple #[.slice none 0 0, .iface 60 (.int .i64 F)])) w') := hide (fun F w' ps h hF hne hb => play_bad hH h hF hne hb)
  have HYE := hide (fun w2 ps po qo p1 q1 h hd hb hr h1 h2 hp => play_yes (x := x) (w2 := w2) (ps := ps) (po := po) (qo := qo) (p1 := p1) (q1 := q1) hH h hd hb hr h1 h2 hp)
  have hsd : Row W.drew a s := hs
  have hdr : Below W.heap.size W W.drew := ⟨rfl, rfl, rfl, Nat.le_refl _, fun _ _ => rfl⟩
  have HP := hide hH.ply
  have hlt := hH.ply.lt
  obtain ⟨N, hN⟩ : ∃ N, s.length = N := ⟨_, rfl⟩
  rw [hN] at c0 CUN
  clear hN hH f8 f6 s8 t32 hs
  go_enter Tryz.func15, Tryz.ntmps15
  go_wp2
  go_region_with (
    go_at_call 34
    refine (unhide CUN _ hsd).mono ?_
    rintro e w1 ⟨E1, p1, q1, l1, rfl, P1, m1, m19, U1, hb1⟩)
  all_goals (
    have hB1 := hdr.trans hb1
    by_cases hE : E1 = 0
    · subst hE
      rw [errV_zero]
      obtain ⟨f8, fl⟩ := unpF_few U1
      have CDE := hide (decodeN p1 q1 l1 w1 P1.pts (by omega) (hide fl))
      have HU1 := hide U1
      have HP1 : Hid (PtsN W.heap.size w1 p1 l1) := hide P1
      have HDL : Hid (decF l1 = 0 → decL l1 = Lap.unlap (all l1)) := hide (fun h => by unfold decL; rw [if_pos h])
      have HDN : Hid (decF l1 ≠ 0 → decL l1 = []) := hide (fun h => by unfold decL; rw [if_neg h])
      obtain ⟨M, hM⟩ : ∃ M, l1.length = M := ⟨_, rfl⟩
      have HM := hide hM
      rw [hM] at CDE ⊢
      clear hM f8 fl U1 P1
      go_wp2_with fail
      refine (unhide CDE).mono ?_
      clear CDE
      rintro e w2 ⟨po, qo, rfl, z4, z2, z3, hb2⟩
      have hB2 := Below.chain hB1 hb2
      by_cases hd : decF l1 = 0
      · rw [hd, errV_zero]
        rw [unhide HDL hd] at z4 z2 ⊢
        have HR := hide (unhide HYE w2 l1 po qo p1 q1 (unhide HU1) hd hB2 (z4.mono hB1.size) z2 z3 ((unhide HP1).below hb2))
        rw [unhide HM] at HR
        have P2 := (unhide HP).below hB2 hlt
        have d3 := P2.c3
        have d4 := (P2.last (.slice p1 M q1)).c4
        have fz3 := P2.fz 3
        have fz4 := (P2.last (.slice p1 M q1)).fz 4
        obtain ⟨OL, hOL⟩ : ∃ OL, (Lap.unlap (all l1)).length = OL := ⟨_, rfl⟩
        rw [hOL] at HR ⊢
        clear hOL HND HNO HYE z2 z3 z4 P2 hd HDL HDN
        go_wp2
        go_ret2
        exact unhide HR
      · have HR := hide (unhide HND (decF l1) w2 l1 (unhide HU1) rfl hd hB2)
        rw [errV_ne hd, unhide HDN hd]
        obtain ⟨DF, hDF⟩ : ∃ DF, decF l1 = DF := ⟨_, rfl⟩
        rw [hDF] at HR ⊢
        clear HND HNO HYE hd HDL HDN z2 z3 z4 hDF
        go_wp2
        go_ret2
        exact unhide HR
    · have HR := hide (unhide HNO E1 w1 l1 U1 hE hB1)
      rw [errV_ne hE]
      obtain ⟨M, hM⟩ : ∃ M, l1.length = M := ⟨_, rfl⟩
      rw [hM]
      clear HND HNO HYE U1 hE hM
      go_wp2
      go_ret2
      exact unhide HR)

end Go.Proofs.YtjojeifoddonnakGreat.Hid18

/-
  The landed player, where none is lost: what is asked of it, met.
-/
namespace Go.Proofs.YtjojeifoddonnakGreat.Hid18
open Go.RowKit
open Go.Proofs.YtjojeifoddonnakGreat.Tre Go.Proofs.YtjojeifoddonnakGreat.Bnd Go.Proofs.YtjojeifoddonnakGreat.Frm Go.Proofs.YtjojeifoddonnakGreat.Pck Go.Proofs.YtjojeifoddonnakGreat.Hrn Go.Proofs.YtjojeifoddonnakGreat.Ev
set_option linter.unusedVariables false

theorem landedT : PlayT PH where
  ok := fun h => by
    obtain ⟨a, cap, p, q, hH⟩ := h
    exact hH.fine
  old := fun h => by
    obtain ⟨a, cap, p, q, hH⟩ := h
    exact hH.old
  kept := fun h hz hk => by
    obtain ⟨a, cap, p, q, hH⟩ := h
    exact ⟨a, cap, p, q, hH.kept hz hk⟩
  new := fun a cap s B W hr zs => newL a cap s B W hr zs
  play := fun x h zx => (playL x h zx).mono fun e W' ⟨E, po, qo, o, l', k', h1, h2, h3, h4, h5, h6, h7, h8⟩ => ⟨E, po, qo, o, l', k', h1, h2, h3, h4, h5, h6, h7, h8.left (by
    obtain ⟨a, cap, p, q, hH⟩ := h
    exact hH.own)⟩

end Go.Proofs.YtjojeifoddonnakGreat.Hid18
