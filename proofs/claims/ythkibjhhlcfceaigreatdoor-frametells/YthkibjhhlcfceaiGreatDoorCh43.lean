/-
  The walk of hornlaw2.FrameTells.
-/
import Derived.Test.YthkibjhhlcfceaiGreatDoorCh31
import Derived.Test.YthkibjhhlcfceaiGreatDoorCh38
import Derived.Test.YthkibjhhlcfceaiGreatDoorCh40
import Derived.Test.YthkibjhhlcfceaiGreatDoorCh41
import Derived.Test.YthkibjhhlcfceaiGreatDoorCh42
namespace Go.Proofs.YthkibjhhlcfceaiGreatDoor.FrameTellsLaw
open Go.RowKit
open Go.Proofs.YthkibjhhlcfceaiGreatDoor.Tre Go.Proofs.YthkibjhhlcfceaiGreatDoor.Bnd Go.Proofs.YthkibjhhlcfceaiGreatDoor.Frm Go.Proofs.YthkibjhhlcfceaiGreatDoor.Ev Go.Proofs.YthkibjhhlcfceaiGreatDoor.Same Go.Proofs.YthkibjhhlcfceaiGreatDoor.Aser
set_option linter.unusedVariables false

theorem ref_encode (a : Option Addr) (cap : Nat) (l : List Int) (b : Option Addr) (capb : Nat) (s : List Int) (B : Int) (w : World) (hr : Row w a l) (hs : Row w b s) (zl : l.length ≤ 9223372036854775807) (zs : s.length ≤ 9223372036854775807) :
    Calls Tryz.prog 5 #[.slice a l.length cap, .slice b s.length capb, .int .i64 B] w fun e w' => ∃ p q ps, e = .returned (.tuple #[.slice p ps.length q, .int .i64 (encF l s B)]) ∧ Pts w' p ps ∧ EncL l s B ps ∧ Below w.heap.size w w' := by
  refine (refEncode a cap l b capb s B w hr hs zl zs).mono ?_
  rintro e w' ⟨h, hb⟩
  rcases h with ⟨h1, he⟩ | ⟨h1, p, q, ps, he, h2, h3, h4, h5⟩
  · exact ⟨none, 0, [], he, Or.inl rfl, Or.inl ⟨h1, rfl⟩, hb⟩
  · exact ⟨p, q, ps, by rw [h1]; exact he, h2, Or.inr ⟨h1, h5⟩, hb⟩
theorem ref_decode (a : Option Addr) (cap : Nat) (ps : List Prt) (w : World) (hp : Pts w a ps) (zp : ps.length ≤ 1000000000000000000) (zl : Hid (∀ i, i < ps.length → (prt ps i).2.length ≤ 17592186044416)) :
    Calls Tryz.prog 11 #[.slice a ps.length cap] w fun e w' => ∃ p q, e = .returned (.tuple #[.slice p (decL ps).length q, .int .i64 (decF ps)]) ∧ Row w' p (decL ps) ∧ Below w.heap.size w w' := by
  refine (refDecode a cap ps w hp zp zl).mono ?_
  rintro e w' ⟨h, hb⟩
  unfold decL
  rcases h with ⟨h1, he⟩ | ⟨h1, v, he, hv⟩
  · rw [if_neg h1]
    exact ⟨none, 0, he, Or.inl rfl, hb⟩
  · rw [if_pos h1, h1]
    obtain ⟨p, q, rfl, hrow⟩ := hv.row
    exact ⟨p, q, he, hrow, hb⟩

set_option maxRecDepth 100000 in
set_option maxHeartbeats 32000000 in
theorem walk0 (a0 : Option Addr) (cap0 : Nat) (l : List Int) (a1 : Option Addr) (cap1 : Nat) (s : List Int) (B : Int) (a3 : Option Addr) (cap3 : Nat) (ps : List Prt) (w : World) (hL : Laid w)
    (hr0 : Row w a0 l) (z0 : l.length ≤ 17592186044416) (hr1 : Row w a1 s) (z1 : s.length ≤ 17592186044416) (hp : Pts w a3 ps) (z3 : ps.length ≤ 17592186044416) (zp : Hid (∀ i, i < ps.length → (prt ps i).2.length ≤ 17592186044416)) :
    Calls Tryz.prog 3 #[.slice a0 l.length cap0, .slice a1 s.length cap1, .int .i64 B, .slice a3 ps.length cap3] w fun e w' => e = .returned (.bool true) ∧ Below w.heap.size w w' := by
  have CRE := hide (fun W h h' => ref_encode a0 cap0 l a1 cap1 s B W h h' (by omega) (by omega))
  have CEN := hide (fun W h h' => Frm.encode a0 cap0 l a1 cap1 s B W h h' (by omega) z1)
  have CRF := hide (fun W h h' => refFrame a3 cap3 ps a1 cap1 s B W h h' (by omega) (by omega))
  have CCH := hide (fun W h h' => Frm.check a3 cap3 ps a1 cap1 s B W h h' z3 zp z1)
  have CRD := hide (fun W h => ref_decode a3 cap3 ps W h (by omega) zp)
  have CDE := hide (fun W h => Frm.decode a3 cap3 ps W h z3 zp)
  have HEL : Hid (∀ x y, EncL l s B x → EncL l s B y → x = y) := hide (fun x y h h' => h.one h')
  have HLN : Hid (∀ x, EncL l s B x → x.length ≤ 8) := hide (fun x h => h.len)
  have HFO : Hid (∀ x y, FrmF ps s B x → FrmF ps s B y → x = y) := hide (fun x y h h' => h.one h')
  unfold EncSays at CEN
  unfold FrmPost at CRF
  have CPS := hide (fun p q p' q' x W (h : EncL l s B x) h1 h2 => parts_same p q p' q' x W (by have := h.len; omega) h1 h2)
  have CIN := hide (fun p q p' q' W h h' => ints_same p q p' q' (decL ps) W (by have := decL_len ps; omega) h h')
  obtain ⟨EF, hEF⟩ : ∃ F, encF l s B = F := ⟨_, rfl⟩
  rw [hEF] at CRE CEN
  obtain ⟨DF, hDF⟩ : ∃ F, decF ps = F := ⟨_, rfl⟩
  rw [hDF] at CRD CDE
  obtain ⟨DL, hDL⟩ : ∃ F, decL ps = F := ⟨_, rfl⟩
  rw [hDL] at CRD CDE CIN
  obtain ⟨K, hK⟩ : ∃ K, DL.length = K := ⟨_, rfl⟩
  rw [hK] at CRD CDE CIN
  obtain ⟨N0, hN0⟩ : ∃ N, l.length = N := ⟨_, rfl⟩
  obtain ⟨N1, hN1⟩ : ∃ N, s.length = N := ⟨_, rfl⟩
  obtain ⟨N3, hN3⟩ : ∃ N, ps.length = N := ⟨_, rfl⟩
  rw [hN0] at CRE CEN ⊢
  rw [hN1] at CRE CEN CRF CCH ⊢
  rw [hN3] at CRF CCH CRD CDE ⊢
  clear hEF hDF hDL hK hN0 hN1 hN3 z0 z1 z3 zp
  go_enter Tryz.func3, Tryz.ntmps3
  go_wp2_with fail
  refine (unhide CRE _ hr0 hr1).mono ?_
  rintro e w1 ⟨p1, q1, ps1, rfl, P1, L1, hb1⟩
  have HL1 := hide L1
  have h0 := hr0.below hb1
  have h1 := hr1.below hb1
  have hN8 := unhide HLN _ L1
  clear CRE L1
  obtain ⟨n1, hn1⟩ : ∃ n, ps1.length = n := ⟨_, rfl⟩
  have HN1 := hide hn1
  rw [hn1]
  go_wp2_with fail
  refine (unhide CEN _ h0 h1).mono ?_
  rintro e w2 ⟨p2, q2, ps2, rfl, P2, m2, m9, L2, hb2⟩
  obtain rfl : ps1 = ps2 := unhide HEL _ _ (unhide HL1) L2
  rw [hn1]
  have P1' := P1.below hb2
  have hB2 := Below.chain hb1 hb2
  clear CEN L2 m2 m9 h0 h1 P1 hb1 hb2 HEL HLN hn1
  go_wp2_with fail
  refine (error_any _ _ (hL.below hB2)).mono ?_
  rintro e w3 ⟨rfl, hb3⟩
  have hB3 := Below.chain hB2 hb3
  have c := unhide CPS p2 q2 p1 q1 ps1 w3 (unhide HL1) (P2.below hb3) (P1'.below hb3)
  rw [unhide HN1] at c
  clear CPS P2 P1' hB2 hb3
  go_wp2_with fail
  refine c.mono ?_
  rintro e w4 ⟨rfl, hb4⟩
  have hB4 := Below.chain hB3 hb4
  clear c hB3 hb4
  go_wp2_with fail
  refine (unhide CRF _ (hp.below hB4) (hr1.below hB4)).mono ?_
  rintro e w5 ⟨E5, rfl, F5, hb5⟩
  have HF5 := hide F5
  have hB5 := Below.chain hB4 hb5
  clear CRF F5 hB4 hb5
  go_wp2_with fail
  refine (unhide CCH _ (hp.below hB5) (hr1.below hB5)).mono ?_
  rintro e w6 ⟨E6, rfl, F6, hb6⟩
  obtain rfl : E5 = E6 := unhide HFO _ _ (unhide HF5) F6
  have hB6 := Below.chain hB5 hb6
  clear CCH F6 HF5 HFO hB5 hb6
  go_wp2_with fail
  refine (error_any _ _ (hL.below hB6)).mono ?_
  rintro e w7 ⟨rfl, hb7⟩
  have hB7 := Below.chain hB6 hb7
  clear hB6 hb7
  go_wp2_with fail
  refine (unhide CRD _ (hp.below hB7)).mono ?_
  rintro e w8 ⟨p8, q8, rfl, r8, hb8⟩
  have hB8 := Below.chain hB7 hb8
  clear CRD hB7 hb8
  go_wp2_with fail
  refine (unhide CDE _ (hp.below hB8)).mono ?_
  rintro e w9 ⟨p9, q9, rfl, r9, m9, m99, hb9⟩
  have hB9 := Below.chain hB8 hb9
  have r8' := r8.below hb9
  clear CDE hB8 hb9 r8 m9 m99
  go_wp2_with fail
  refine (error_any _ _ (hL.below hB9)).mono ?_
  rintro e w10 ⟨rfl, hb10⟩
  have hB10 := Below.chain hB9 hb10
  have c := unhide CIN p9 q9 p8 q8 w10 (r9.below hb10) (r8'.below hb10)
  clear CIN hB9 hb10 r9 r8'
  go_wp2_with fail
  refine c.mono ?_
  rintro e w11 ⟨rfl, hb11⟩
  go_wp2
  go_ret
  exact ⟨rfl, Below.chain hB10 hb11⟩

end Go.Proofs.YthkibjhhlcfceaiGreatDoor.FrameTellsLaw
