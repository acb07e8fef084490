/-
  The walk of hornlaw2.HornBack.
-/
import Derived.Test.YtgffpljnhadigafDoorHornFaces
import Derived.Test.YtgffpljnhadigafDoorScaleBase
import Derived.Test.YtgffpljnhadigafDoorInts
import Derived.Test.YtgffpljnhadigafDoorTold
namespace Go.Proofs.YtgffpljnhadigafDoor.HornBackLaw
open Go.RowKit
open Go.Proofs.YtgffpljnhadigafDoor.Tre Go.Proofs.YtgffpljnhadigafDoor.Scl Go.Proofs.YtgffpljnhadigafDoor.Hrn Go.Proofs.YtgffpljnhadigafDoor.Same Go.Proofs.YtgffpljnhadigafDoor.Aser
set_option linter.unusedVariables false

theorem fact_right : Scl.right [256] := ⟨by simp, by simp, fun i hi => by
  obtain rfl : i = 0 := by simpa using hi
  decide, by decide⟩
theorem fact_row : RowF [256] [0, 0] 0 := Or.inr (Or.inr ⟨fact_right, by simp, by decide⟩)
theorem fact_code : code [256] [0, 0] = [1, 0, 0] := by decide
theorem fact (w : World) : Calls Tryd.prog 21 #[.slice (some ⟨w.heap.size, 0, none⟩) 1 1, .slice (some ⟨w.heap.size + 1, 0, none⟩) 2 2] ((w.alloc (.cells #[.int .i64 256] 3)).alloc (.cells #[.int .i64 0, .int .i64 0] 3)) fun e w' =>
    e = .returned (.tuple #[.string (str [1, 0, 0]), .nilIface]) ∧ Below w.heap.size w w' := by
  have hb0 : Below w.heap.size w (w.alloc (.cells #[.int .i64 256] 3)) := (Below.refl _ _).alloc (Nat.le_refl _) _
  have hb1 : Below (w.alloc (.cells #[.int .i64 256] 3)).heap.size (w.alloc (.cells #[.int .i64 256] 3)) ((w.alloc (.cells #[.int .i64 256] 3)).alloc (.cells #[.int .i64 0, .int .i64 0] 3)) := (Below.refl _ _).alloc (Nat.le_refl _) _
  have r1 := (row_one w 256 3).below hb1
  have r2 := row_two (w.alloc (.cells #[.int .i64 256] 3)) 0 0 3
  have hsz : (w.alloc (.cells #[.int .i64 256] 3)).heap.size = w.heap.size + 1 := by simp
  rw [hsz] at r2
  have h := encode_ok (some ⟨w.heap.size, 0, none⟩) 1 [256] (some ⟨w.heap.size + 1, 0, none⟩) 2 [0, 0] _ r1 (by simp) (by omega) r2 (hide fact_row)
  rw [fact_code] at h
  exact h.mono fun e w' ⟨he, hb⟩ => ⟨he, Below.chain (Below.chain hb0 hb1) hb⟩

/-- Is a share Total, of the first j? -/
def alone (f : List Int) : Nat → Bool
  | 0 => false
  | j + 1 => alone f j || (at0 f j == 256)
theorem alone_no {f : List Int} {n : Nat} (h : alone f n = false) : ∀ i, i < n → at0 f i ≠ 256 := by
  induction n with
  | zero => intro i hi; omega
  | succ n ih =>
    rw [alone, Bool.or_eq_false_iff] at h
    intro i hi
    by_cases e : i = n
    · subst e; exact beq_eq_false_iff_ne.1 h.2
    · exact ih h.1 i (by omega)

set_option maxRecDepth 100000 in
set_option maxHeartbeats 16000000 in
theorem walk (a0 : Option Addr) (cap0 : Nat) (f : List Int) (a1 : Option Addr) (cap1 : Nat) (l : List Int) (s : ByteArray) (p : Int) (w : World) (hL : Laid w)
    (hr0 : Row w a0 f) (hw0 : ∀ n ∈ f, (Lit.int .i64 n).wf = true) (hz0 : f.length * 8 ≤ 140737488351232) (hq0 : (a0 = none → cap0 = 0) ∧ f.length ≤ cap0 ∧ cap0 ≤ 9223372036854775807)
    (hr1 : Row w a1 l) (hw1 : ∀ n ∈ l, (Lit.int .i64 n).wf = true) (hz1 : l.length * 8 ≤ 140737488351232) (hs : s.size ≤ maxLen) (hwp : (Lit.int .i64 p).wf = true) :
    Calls Tryd.prog 6 #[.slice a0 f.length cap0, .slice a1 l.length cap1, .string s, .int .i64 p] w fun e w' => e = .returned (.bool true) ∧ Below w.heap.size w w' := by
  obtain ⟨q1, q2, q3⟩ := hq0
  have z1 : l.length ≤ 9223372036854775807 := by omega
  have hs9 : s.size ≤ 9223372036854775807 := by unfold maxLen at hs; omega
  have hway : (∃ E, Hid (RowF f l E) ∧ Hid (E ≠ 0)) ∨ Hid (RowF f l 0) := by
    obtain ⟨E, hE, _⟩ := rowF_is f l
    by_cases h : E = 0
    · subst h; exact Or.inr hE
    · exact Or.inl ⟨E, hE, h⟩
  have hway2 : Hid (¬ Scl.right f) ∨ (Hid (Scl.right f) ∧ (Hid (p < 0 ∨ (0 ≤ p ∧ 60 < p)) ∨ (∃ n : Nat, p = n ∧ n ≤ 60 ∧ ((∃ m, Hid (IsRow f (byt s) n m)) ∨ Hid (∀ m, ¬ IsRow f (byt s) n m))))) := by
    by_cases h : Scl.right f
    · refine Or.inr ⟨h, ?_⟩
      by_cases h1 : p < 0 ∨ (0 ≤ p ∧ 60 < p)
      · exact Or.inl h1
      · refine Or.inr ⟨p.toNat, by omega, by omega, ?_⟩
        by_cases h3 : ∃ m, IsRow f (byt s) p.toNat m
        · exact Or.inl h3
        · exact Or.inr fun m hm => h3 ⟨m, hm⟩
    · exact Or.inl h
  clear hw0 hw1 hwp hz0 hz1 q1 hs
  have hss := fact_same
  have CEN := hide (fun E W h h' hE hne => encode_no a0 cap0 f a1 cap1 l E W h q2 q3 h' z1 hE hne)
  have CEO := hide (fun W h h' hE => encode_ok a0 cap0 f a1 cap1 l W h q2 q3 h' hE)
  have CEM := hide (fun b capb m W h h' hE => encode_ok a0 cap0 f b capb m W h q2 q3 h' hE)
  have CMO := hide (fun W h h' hE => most_ok a0 cap0 f a1 cap1 l W h q2 q3 h' hE)
  have CD1 := hide (fun n W h hf => decode_shape a0 cap0 f s n W h q2 q3 hf)
  have CD2 := hide (fun n W h hf hn => decode_range a0 cap0 f s n W h q2 q3 hf hn)
  have CD3 := hide (fun n W h hf hn => decode_at a0 cap0 f s n W h q2 q3 hf hs9 hn)
  have CD4 := hide (fun s n W h hf hs hn => decode_at a0 cap0 f s n W h q2 q3 hf hs hn)
  have CD5 := hide (fun s n W h hf hn => decode_range a0 cap0 f s n W h q2 q3 hf hn)
  have CI := hide (fun p q W h h' => ints_same p q a1 cap1 l W z1 h h')
  obtain ⟨M, hM⟩ : ∃ M, f.length = M := ⟨_, rfl⟩
  have HM := hide hM
  obtain ⟨N, hN⟩ : ∃ N, l.length = N := ⟨_, rfl⟩
  have HN := hide hN
  rw [hM] at CEN CEO CEM CMO CD1 CD2 CD3 CD4 CD5 q2 ⊢
  rw [hN] at CEN CEO CMO CI z1 ⊢
  clear hM hN
  go_enter Tryd.func6, Tryd.ntmps6
  go_wp2_with fail
  refine (fact w).mono ?_
  rintro e w1 ⟨rfl, hb1⟩
  rcases hway2 with HR0 | ⟨HR1, HP | ⟨n, rfl, hn, ⟨m, HI⟩ | HI⟩⟩
  all_goals (first
    | (have CD := unhide CD1 p w1 (hr0.below hb1) HR0
       go_wp2_with fail
       refine CD.mono ?_
       clear CD
       rintro e wA ⟨rfl, hb2⟩
       have hB := Below.chain hb1 hb2
       clear hb1 hb2)
    | (have CD := unhide CD2 p w1 (hr0.below hb1) HR1 (unhide HP)
       go_wp2_with fail
       refine CD.mono ?_
       clear CD
       rintro e wA ⟨rfl, hb2⟩
       have hB := Below.chain hb1 hb2
       clear hb1 hb2)
    | (have hI1 := (unhide HI).1
       have HI1 := hide hI1
       have HI3 := hide (unhide HI).2.2
       have HRR : Hid (Scl.right f) := HR1
       have HRM : Hid (RowF f m 0) := hide (Or.inr (Or.inr ⟨unhide HR1, by rw [hI1]; exact hn, ((sf_signs (unhide HR1) m).2 (unhide HI).2.1).symm⟩))
       have CDD := (unhide CD3 n w1 (hr0.below hb1) HR1 hn).mono fun e w' h => Tld.row (unhide HRR) h (unhide HI)
       have hst : ((str (code f m)).toList == s.toList) = true := by rw [unhide HI3, str_byt]; simp
       have hnn : ((n : Int) == (n : Int)) = true := by simp
       clear hI1
       go_wp2_with fail
       refine CDD.mono ?_
       clear CDD
       rintro e w2 ⟨v2, rfl, k2, hb2⟩
       have hB2 := Below.chain hb1 hb2
       obtain ⟨p2, q2', rfl, r2⟩ := k2.row
       have CE := unhide CEM p2 q2' m w2 (hr0.below hB2) r2 HRM
       rw [unhide HI1] at CE ⊢
       clear k2 r2 hb1 hb2
       obtain ⟨cm, hcm⟩ : ∃ cm, str (code f m) = cm := ⟨_, rfl⟩
       rw [hcm] at CE hst
       clear hcm
       go_wp2_with fail
       refine CE.mono ?_
       clear CE
       rintro e wA ⟨rfl, hb3⟩
       have hB := Below.chain hB2 hb3
       clear hB2 hb3)
    | (have CDD := (unhide CD3 n w1 (hr0.below hb1) HR1 hn).mono fun e w' h => Tld.none h (unhide HI)
       go_wp2_with fail
       refine CDD.mono ?_
       clear CDD
       rintro e wA ⟨rfl, hb2⟩
       have hB := Below.chain hb1 hb2
       clear hb1 hb2))
  all_goals (
    rcases hway with ⟨E, HE, HE0⟩ | HE1)
  all_goals (first
    | (have CE := unhide CEN E wA (hr0.below hB) (hr1.below hB) HE HE0
       clear CEN CEO CEM CMO CD1 CD2 CD3 CD4 CD5 CI
       go_wp2_with fail
       refine CE.mono ?_
       clear CE
       rintro e w5 ⟨rfl, hb5⟩
       go_wp2
       go_ret
       exact ⟨rfl, Below.chain hB hb5⟩)
    | (have HZ := hide (unhide HE1).zero
       have HR : Hid (Scl.right f) := hide (unhide HZ).1
       have h60 : N ≤ 60 := by rw [← unhide HN]; exact (unhide HZ).2.1
       have hby : Hid (byt (str (code f l)) = code f l) := hide (byt_str (code_byts (unhide HZ).1 (unhide HZ).2.2))
       have hcl := code_len (unhide HZ).1 (unhide HZ).2.2 (unhide HZ).2.1
       have hsz : (str (code f l)).size = (code f l).length := str_size _
       have HU := need_le f l
       rw [unhide HN] at HU
       have HIR : Hid (IsRow f (code f l) N l) := hide (by rw [← unhide HN]; exact isRow_code (unhide HZ).2.2)
       have HMO : Hid (alone f M = false → ∀ m, ¬ IsRow f (code f l) (N + 1) m) := hide (fun h m hm => row_more (unhide HZ).1 (unhide HZ).2.2 (fun i hi => alone_no h i (by rw [← unhide HM]; exact hi)) (by rw [← unhide HN] at hm; exact hm))
       have CE := unhide CEO wA (hr0.below hB) (hr1.below hB) HE1
       have CM := hide (fun W h h' => unhide CMO W h h' HE1)
       obtain ⟨U, hU⟩ : ∃ U, need f l = U := ⟨_, rfl⟩
       rw [hU] at CM HU hcl
       obtain ⟨K, hK⟩ : ∃ K, 4 + U / 8 = K := ⟨_, rfl⟩
       rw [hK] at CM
       obtain ⟨cs, hcs⟩ : ∃ cs, str (code f l) = cs := ⟨_, rfl⟩
       rw [hcs] at CE hby hsz
       obtain ⟨Z, hZ⟩ : ∃ Z, cs.size = Z := ⟨_, rfl⟩
       have hsz9 : cs.size ≤ 9223372036854775807 := by omega
       have CDR := hide (fun W h => (unhide CD4 cs N W h HR hsz9 h60).mono fun e w' ht => Tld.row (unhide HZ).1 ht (by rw [unhide hby]; exact unhide HIR))
       have CDM : Hid (alone f M = false → N + 1 ≤ 60 → ∀ W, Row W a0 f → Calls Tryd.prog 24 #[.slice a0 M cap0, .string cs, .int .i64 ((N + 1 : Nat) : Int)] W fun e w' => e = .returned (.tuple #[.slice none 0 0, .iface 48 (.int .i64 2)]) ∧ Below W.heap.size W w') := hide (fun hal h60 W h =>
         (unhide CD4 cs (N + 1) W h HR hsz9 h60).mono fun e w' ht => Tld.none ht (fun m hm => unhide HMO hal m (by rw [unhide hby] at hm; exact hm)))
       have CDA : Hid (∀ W, Row W a0 f → Calls Tryd.prog 24 #[.slice a0 M cap0, .string cs, .int .i64 ((N + 1 : Nat) : Int)] W fun e w' => (∃ x y, e = .returned (.tuple #[x, y])) ∧ Below W.heap.size W w') := hide (fun W h => by
         by_cases h6 : N + 1 ≤ 60
         · refine (unhide CD4 cs (N + 1) W h HR hsz9 h6).mono fun e w' ht => ?_
           obtain ⟨⟨v, m, he, _, _⟩ | ⟨he, _⟩, hb⟩ := ht
           · exact ⟨⟨_, _, he⟩, hb⟩
           · exact ⟨⟨_, _, he⟩, hb⟩
         · refine (unhide CD5 cs ((N + 1 : Nat) : Int) W h HR (Or.inr ⟨by omega, by omega⟩)).mono fun e w' ⟨he, hb⟩ => ⟨⟨_, _, he⟩, hb⟩)
       obtain ⟨N1, hN1⟩ : ∃ N1, N + 1 = N1 := ⟨_, rfl⟩
       rw [hN1] at CDM CDA
       have wN1 : IntKind.i64.wrap ((N : Int) + 1) = (N1 : Int) := by rw [← hN1]; exact IntWalk.i64_in _ (by omega)
       have hlen : ∀ W, (Builtin.len_ #[9] 3 #[.string cs]).run Tryd.prog W = .ok (.int .i64 (Z : Int)) W := fun W => by rw [run_len_string W 9 3 cs Tryd.underlying9, hZ]; rfl
       have e1 : decide ((K : Int) < (Z : Int)) = false := by simp; omega
       have e1' : decide (K < Z) = false := by simp; omega
       have e2 : decide ((Z : Int) < 3) = false := by simp; omega
       have h16 : N1 ≤ 60 ↔ N < 60 := by omega
       have H16 := hide h16
       have HD9 : N1 ≤ 61 := by omega
       clear CEN CEO CEM CMO CD1 CD2 CD3 CD4 CD5 hU hK hcs hcl hsz HU h16 hN1
       go_wp2_with fail
       refine CE.mono ?_
       clear CE
       rintro e w5 ⟨rfl, hb5⟩
       have hB5 := Below.chain hB hb5
       clear hB hb5
       go_wp2_with fail
       refine (unhide CDR w5 (hr0.below hB5)).mono ?_
       rintro e w6 ⟨v6, rfl, k6, hb6⟩
       have hB6 := Below.chain hB5 hb6
       obtain ⟨p6, q6, rfl, r6⟩ := k6.row
       rw [unhide HN]
       clear hB5 k6 CDR hb6
       go_wp2_with fail
       refine (unhide CM w6 (hr0.below hB6) (hr1.below hB6)).mono ?_
       rintro e w7 ⟨rfl, hb7⟩
       have hB7 := Below.chain hB6 hb7
       have r7 := r6.below hb7
       clear hB6 CM r6 hb7
       go_wp2_with fail
       refine (unhide CI p6 q6 w7 r7 (hr1.below hB7)).mono ?_
       rintro e w8 ⟨rfl, hb8⟩
       have hB8 := Below.chain hB7 hb8
       clear hB7 r7 CI hb8
       go_wp2
       go_loopw [20, 21] (fun b i wr => ∃ (j : Nat) (t : Bool), j ≤ M ∧ i = .int .i64 j ∧ b = .bool t ∧ Hid (alone f j = t) ∧ w8 = wr) (fun _ i _ => M - (intOf i).toNat)
       case atStart => exact ⟨0, false, Nat.zero_le _, rfl, rfl, hide rfl, rfl⟩
       case round =>
         obtain ⟨j, t, hj, rfl, rfl, HT, rfl⟩ := hrel
         by_cases hlt : j < M
         · have hlt' : j < f.length := by rw [unhide HM]; exact hlt
           obtain ⟨b0, off0, rfl, _, hc⟩ := cell_at (hr0.below hB8) (by omega)
           have c1 := hc j hlt'
           have HT2 : Hid (alone f (j + 1) = (t || (at0 f j == 256))) := hide (by rw [alone, unhide HT])
           obtain ⟨F, hF⟩ : ∃ F, at0 f j = F := ⟨_, rfl⟩
           rw [hF] at c1 HT2
           clear hF hc hlt' HT
           cases t
           · rw [Bool.false_or] at HT2
             obtain ⟨u, hu⟩ : ∃ u, (F == 256) = u := ⟨_, rfl⟩
             rw [hu] at HT2
             go_wp2
             go_roundw
             case rel => exact ⟨j + 1, u, by omega, by go_num, by first | rfl | rw [hu], HT2, by first | trivial | rfl⟩
             case measure => simp [intOf]; omega
           · rw [Bool.true_or] at HT2
             go_wp2
             go_roundw
             case rel => exact ⟨j + 1, true, by omega, by go_num, rfl, HT2, by first | trivial | rfl⟩
             case measure => simp [intOf]; omega
         · obtain rfl : j = M := by omega
           cases t
           · by_cases h6 : 60 ≤ N
             · have d6 : decide ((60 : Int) ≤ (N : Int)) = true := by simp; omega
               go_wp2_with fail
               refine (unhide CDA _ (hr0.below hB8)).mono ?_
               rintro e w9 ⟨⟨x, y, rfl⟩, hb9⟩
               go_wp2
               go_ret
               exact ⟨rfl, Below.chain hB8 hb9⟩
             · have d6 : decide ((60 : Int) ≤ (N : Int)) = false := by simp; omega
               have CDN := unhide CDM (unhide HT) ((unhide H16).2 (by omega)) _ (hr0.below hB8)
               go_wp2_with fail
               refine CDN.mono ?_
               clear CDN
               rintro e w9 ⟨rfl, hb9⟩
               have hB9 := Below.chain hB8 hb9
               go_wp2_with fail
               refine (error_is 2 w9 (hL.below hB9)).mono ?_
               rintro e w10 ⟨rfl, hb10⟩
               go_wp2
               go_ret
               exact ⟨rfl, Below.chain hB9 hb10⟩
           · go_wp2_with fail
             refine (unhide CDA _ (hr0.below hB8)).mono ?_
             rintro e w9 ⟨⟨x, y, rfl⟩, hb9⟩
             go_wp2
             go_ret
             exact ⟨rfl, Below.chain hB8 hb9⟩))

end Go.Proofs.YtgffpljnhadigafDoor.HornBackLaw
