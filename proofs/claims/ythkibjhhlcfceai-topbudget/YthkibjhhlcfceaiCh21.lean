/-
  A region that draws its order, whose operations only read, and whose calls leave all that there was as it was (they may make memory): one walk of the text's order serves every order; so too where its last operation, which waits for all others, writes.
-/
import Derived.Test.YthkibjhhlcfceaiCh20
import Derived.Deep.QuietTactic
import Derived.BigQuiet
import Derived.Laws.EntriesVeiled
namespace Go.Proofs.Ythkibjhhlcfceai.Itr
open Go.RowKit
set_option linter.unusedVariables false

/-- The worlds in which all that there was is as it was. -/
structure Cls (w : World) where
  val : World
  ok : Below w.heap.size w val
instance (w : World) : Nonempty (Cls w) := ⟨⟨w, Below.refl _ _⟩⟩
theorem Cls.cell {w : World} (W : Cls w) {B j : Nat} {v : Value} (hB : B < w.heap.size) (h : w.cell? ⟨B, j, none⟩ = some v) : W.val.cell? ⟨B, j, none⟩ = some v := (W.ok.cell (p := ⟨B, j, none⟩) hB).trans h
theorem calm_call {P : Program} {f : FuncId} {args : Array Value} {w : World} {W : Cls w} {v : Value} (h : Calls P f args W.val fun e w' => e = .returned v ∧ Below W.val.heap.size W.val w') :
    Calls P f args W.val fun e w'' => e = .returned v ∧ ∃ W' : Cls w, w'' = W'.val :=
  h.mono fun _ w' ⟨he, hb⟩ => ⟨he, ⟨w', Below.chain W.ok hb⟩, rfl⟩
theorem cls_drew (w : World) : ∃ W : Cls w, { w with drawn := w.drawn + 1 } = W.val := ⟨⟨{ w with drawn := w.drawn + 1 }, ⟨rfl, rfl, rfl, Nat.le_refl _, fun _ _ => rfl⟩⟩, rfl⟩

theorem region_calm {P : Program} {id : Nat} {Q : Exit → Act → World → Prop} {a : Act} {w : World} {l : List Oper} (hm : P.follows .mixedOrders = true) (hB : Region.lexB .any l.toArray = true)
    (h : wpQuiet P l.toArray (fun w' => ∃ W : Cls w, w' = W.val) (fun a' => ∀ w', (∃ W : Cls w, w' = W.val) → Q .normal a' w') l a) : (Code.region id l.toArray true).wp P Q a w :=
  wp_region_quiet (C := fun w' => ∃ W : Cls w, w' = W.val) hm hB (cls_drew w) (by simpa using h)

section
variable {P : Program} {C : World → Prop} {ops ops' : Array Oper} {k : Nat} {o o' : Oper}
theorem any_calm {Q1 : Act → Prop} {Q : Exit → Act → World → Prop} (h : Lasts ops ops' k o o') (hQ : ∀ a w, C w → Q1 a → wpList P ops Q [o] a w) :
    ∀ (fuel : Nat) (s : Array Bool) (a : Act) (w : World), s.size = k + 1 → s.getD k true = false → C w → wpAnyQ P .any ops' C Q1 fuel s a → wpAny P .any ops Q fuel s a w := by
  have rd : ∀ s, Region.ready .any ops' s = [] ↔ Region.ready .any ops s = [] := fun s => by
    rw [List.eq_nil_iff_forall_not_mem, List.eq_nil_iff_forall_not_mem]
    exact ⟨fun x i hi => x i ((h.ready s i).2 hi), fun x i hi => x i ((h.ready s i).1 hi)⟩
  intro fuel
  induction fuel with
  | zero =>
    intro s a w hs hk hw hh
    exact absurd ((rd s).1 hh.1) (h.goes s hs hk)
  | succ fuel ih =>
    intro s a w hs hk hw hh
    refine ⟨fun h0 => absurd h0 (h.goes s hs hk), fun i hi => ?_⟩
    have hq := hh.2 i ((h.ready s i).2 hi)
    by_cases e : i = k
    · subst e
      obtain ⟨v, _, hK⟩ := yieldsIn_of_qOp h.at_k' hq
      rw [h.dst'] at hK
      have hend := h.ends s hs hi
      have hq1 : Q1 a := by
        cases fuel with
        | zero => exact hK.2
        | succ m => exact hK.1 ((rd _).2 hend)
      have hl := hQ a w hw hq1
      unfold wpOp
      simp only [h.at_k]
      have hwt : Region.wanted o (yielded ops a.tmps) = true := by simp [Region.wanted, (h.plain i o h.at_k).1]
      unfold wpList at hl
      rw [if_pos hwt] at hl ⊢
      refine hl.imp (fun h1 => Oper.wp_mono (fun a' w' hn => ?_) h1) (fun h2 => h2)
      have hn' : Q .normal a' w' := hn
      cases fuel with
      | zero => exact ⟨hend, hn'⟩
      | succ m => exact ⟨fun _ => hn', fun j hj => by rw [hend] at hj; cases hj⟩
    · unfold qOp at hq
      unfold wpOp
      rw [h.same i e] at hq
      cases hp : ops[i]? with
      | none =>
        obtain ⟨_, q, h2, _⟩ := mem_ready.1 hi
        rw [hp] at h2; cases h2
      | some p =>
        simp only [hp] at hq ⊢
        obtain ⟨hg, hnd⟩ := h.plain i p hp
        have hwt : ∀ ops2, Region.wanted p (yielded ops2 a.tmps) = true := fun ops2 => by simp [Region.wanted, hg]
        rw [if_pos (hwt _)] at hq ⊢
        refine Or.inl (Oper.wp_of_quiet hw (fun a' w' hw' hk' => ih _ a' w' (by simp [hs]) ?_ hw' hk') hq)
        have e1 : (s.setIfInBounds i true).getD k true = s.getD k true := by simp [Array.getD, show k < s.size by omega, e]
        rw [e1]; exact hk
end

theorem region_calm_last {P : Program} {id : Nat} {Q : Exit → Act → World → Prop} {a : Act} {w : World} {l : List Oper} (o : Oper) (ho : l.getLast? = some o) (hm : P.follows .mixedOrders = true) (hB : Region.lexB .any (calm l).toArray = true) (hf : fits l = true)
    (h : wpQuiet P (calm l).toArray (fun w' => ∃ W : Cls w, w' = W.val) (fun a' => ∀ w', (∃ W : Cls w, w' = W.val) → wpList P l.toArray Q [o] a' w') (calm l) a) :
    (Code.region id l.toArray true).wp P Q a w := by
  obtain ⟨o2, ho2, hL⟩ := lasts_of hf
  rw [ho] at ho2
  cases ho2
  have hne : 0 < l.length := by
    cases l with
    | nil => cases ho
    | cons a b => simp
  simp only [Region.lexB, Bool.and_eq_true] at hB
  have h2 := wpAnyQ_lex (C := fun w' => ∃ W : Cls w, w' = W.val) (md := .any) hB.1 (calm l) 0 (Array.replicate (calm l).toArray.size false) a (by simp) (by simpa using hB.2) h
  refine wp_region_any hm (any_calm hL (Q1 := fun a' => ∀ w', (∃ W : Cls w, w' = W.val) → wpList P l.toArray Q [o] a' w') (fun a w hw hq => hq w hw) _ _ _ _ (by simp; omega) (by simp [Array.getD]; omega) (cls_drew w) ?_)
  have e1 : l.toArray.size = (calm l).length := by rw [calm_length]; simp
  have e2 : Array.replicate l.toArray.size false = Array.replicate (calm l).toArray.size false := by rw [e1]; simp
  rw [e2, e1]
  exact h2

end Go.Proofs.Ythkibjhhlcfceai.Itr

/-
  The function that share.Of makes: by its contract.
-/
namespace Go.Proofs.Ythkibjhhlcfceai.Shr
open Go.RowKit
open Go.Proofs.Ythkibjhhlcfceai.Itr Go.Proofs.Ythkibjhhlcfceai.Tre Go.Proofs.Ythkibjhhlcfceai.Cnt Go.Proofs.Ythkibjhhlcfceai.Bnd
set_option linter.unusedVariables false

set_option maxHeartbeats 4000000 in
theorem afford (i Bz Bp Bl : Nat) (s o : List Int) (L : Int) (w : World) (hi : i < o.length) (hl : s.length = o.length) (h8 : o.length ≤ 8) (hs : Sizes s) (h0 : 0 ≤ at0 o i) (h7 : at0 o i < 8) (hbz : BoxR w Bz s) (hbp : BoxR w Bp o) (hbl : Boxed w Bl 3 (.int .i64 L)) :
    Calls Try.prog 42 #[.int .i64 i, .pointer (some ⟨Bz, 0, none⟩), .pointer (some ⟨Bp, 0, none⟩), .pointer (some ⟨Bl, 0, none⟩)] w fun e w' => e = .returned (.bool (decide (pr (at0 s i).toNat (at0 o i).toNat ≤ L))) ∧ Below w.heap.size w w' := by
  obtain ⟨g1, off1, c1, z1, z2, z3⟩ := hbz
  obtain ⟨g2, off2, c2, p1, p2, p3⟩ := hbp
  have x1 := z1.cell
  have x2 := z3 i (by omega)
  have y1 := p1.cell
  have y2 := p3 i hi
  have s1 := hs i (by omega)
  obtain ⟨S, hS⟩ : ∃ S : Nat, at0 s i = S := ⟨(at0 s i).toNat, by omega⟩
  obtain ⟨P, hP⟩ : ∃ P : Nat, at0 o i = P := ⟨(at0 o i).toNat, by omega⟩
  have eS : (at0 s i).toNat = S := by omega
  have eP : (at0 o i).toNat = P := by omega
  rw [eS, eP]
  rw [hS] at x2 s1
  rw [hP] at y2 h0 h7
  have HPR := hide (fun W => price S P (by omega) (by omega) W)
  have hpr := pr_in (n := S) (k := P) (by omega) (by omega)
  obtain ⟨R, hR⟩ : ∃ R, pr S P = R := ⟨_, rfl⟩
  rw [hR] at HPR hpr ⊢
  obtain ⟨N, hN⟩ : ∃ N, o.length = N := ⟨_, rfl⟩
  rw [hl, hN] at x1
  rw [hN] at y1 hi h8
  have l1 := hbl.cell
  have X1 : ∀ W : Cls w, W.val.cell? ⟨Bz, 0, none⟩ = _ := fun W => W.cell z1.lt x1
  have X2 : ∀ W : Cls w, W.val.cell? ⟨g1, off1 + i, none⟩ = _ := fun W => W.cell z2 x2
  have Y1 : ∀ W : Cls w, W.val.cell? ⟨Bp, 0, none⟩ = _ := fun W => W.cell p1.lt y1
  have Y2 : ∀ W : Cls w, W.val.cell? ⟨g2, off2 + i, none⟩ = _ := fun W => W.cell p2 y2
  have L1 : ∀ W : Cls w, W.val.cell? ⟨Bl, 0, none⟩ = _ := fun W => W.cell hbl.lt l1
  clear z1 z2 z3 p1 p2 p3 hS hP eS eP hN hR hl hs hbl s1 h0 h7 x1 x2 y1 y2 l1
  go_enter Try.func42, Try.ntmps42
  go_wp2
  refine region_calm (by kernel_rfl) (by kernel_rfl) ?_
  repeat (go_big_quiet_step ((go_at_call 43; exact calm_call (unhide HPR _))))
  refine wpQuiet_nil ?_
  intro _ hw'
  obtain ⟨WQ, hw''⟩ := hw'
  subst hw''
  go_wp2
  go_ret
  exact ⟨rfl, WQ.ok⟩

end Go.Proofs.Ythkibjhhlcfceai.Shr

/-
  share.next: by its contract.
-/
namespace Go.Proofs.Ythkibjhhlcfceai.Shr
open Go.RowKit
open Go.Proofs.Ythkibjhhlcfceai.Tre Go.Proofs.Ythkibjhhlcfceai.Cnt Go.Proofs.Ythkibjhhlcfceai.Bnd
set_option linter.unusedVariables false

set_option maxRecDepth 100000 in
set_option maxHeartbeats 4000000 in
theorem next (b : Option Addr) (capb : Nat) (d : List Int) (p : Option Addr) (capp N : Nat) (s o : List Int) (B : Int) (Bz Bq Bl : Nat) (w : World) (hd : Row w b d) (ho : Row w p o) (h0 : 1 ≤ N) (h8 : N ≤ 8) (hdl : Hid (d.length = N)) (hol : Hid (o.length = N)) (hp : Hid (Pls o)) (hld : Hid (Lds d))
    (ha : Hid (∀ i W, i < N → at0 o i ≠ 8 → Below w.heap.size w W → Calls Try.prog 42 #[.int .i64 i, .pointer (some ⟨Bz, 0, none⟩), .pointer (some ⟨Bq, 0, none⟩), .pointer (some ⟨Bl, 0, none⟩)] W fun e w' => e = .returned (.bool (decide ((cost s (inc o i) : Int) ≤ B))) ∧ Below W.heap.size W w')) :
    Calls Try.prog 44 #[.slice b N capb, .slice p N capp, .func (.func 42) #[] #[.pointer (some ⟨Bz, 0, none⟩), .pointer (some ⟨Bq, 0, none⟩), .pointer (some ⟨Bl, 0, none⟩)]] w fun e w' => e = .returned (.int .i64 (bv (bst s d o B N))) ∧ Below w.heap.size w w' := by
  have hmf : ∀ (fn : Fn) (first cap : Array Value) (w : World), (Instr.makeFunc fn first cap).run Try.prog w = .ok (.func fn first cap) w := fun _ _ _ _ => rfl
  have B1 := below_box w (.slice b N capb) 23
  have x1 : BoxR (w.alloc (.cells #[.slice b N capb] 23)) w.heap.size d := by
    have := boxR_new (c := capb) (l := d) (by rw [unhide hdl]; exact h0) hd
    rw [unhide hdl] at this
    exact this
  have ho1 := ho.below B1
  have sz1 : (w.alloc (.cells #[.slice b N capb] 23)).heap.size = w.heap.size + 1 := by simp
  obtain ⟨W1, hW1⟩ : ∃ W1, w.alloc (.cells #[.slice b N capb] 23) = W1 := ⟨_, rfl⟩
  rw [hW1] at B1 x1 ho1 sz1
  have B2 := below_box W1 (.slice p N capp) 23
  have x2 : BoxR (W1.alloc (.cells #[.slice p N capp] 23)) W1.heap.size o := by
    have := boxR_new (c := capp) (l := o) (by rw [unhide hol]; exact h0) ho1
    rw [unhide hol] at this
    exact this
  have y2 := Boxed.new W1 23 (.slice p N capp)
  have x1' := x1.below B2
  have ho2 := ho1.below B2
  have sz2 : (W1.alloc (.cells #[.slice p N capp] 23)).heap.size = W1.heap.size + 1 := by simp
  obtain ⟨W2, hW2⟩ : ∃ W2, W1.alloc (.cells #[.slice p N capp] 23) = W2 := ⟨_, rfl⟩
  rw [hW2] at B2 x2 x1' sz2 y2 ho2
  have B3 := below_box W2 (.func (.func 69) #[] #[.pointer (some ⟨w.heap.size + 1, 0, none⟩)]) 71
  have x3 : Sq (W2.alloc (.cells #[.func (.func 69) #[] #[.pointer (some ⟨w.heap.size + 1, 0, none⟩)]] 71)) W2.heap.size (w.heap.size + 1) := Boxed.new _ _ _
  have k1 := x1'.below B3
  have k2 := x2.below B3
  have y3 := boxed_below y2 B3 y2.lt
  have ho3 := ho2.below B3
  obtain ⟨W3, hW3⟩ : ∃ W3, W2.alloc (.cells #[.func (.func 69) #[] #[.pointer (some ⟨w.heap.size + 1, 0, none⟩)]] 71) = W3 := ⟨_, rfl⟩
  rw [hW3] at B3 x3 k1 k2 y3 ho3
  rw [sz2, sz1] at x3
  rw [sz1] at k2 y3
  have hWB := Below.chain B1 (Below.chain B2 B3)
  have hd3 := hd.below hWB
  obtain ⟨Q1, hQ1⟩ : ∃ Q1, w.heap.size = Q1 := ⟨_, rfl⟩
  have HK1 := hide k1
  have HK2 := hide k2
  have HSQ := hide x3
  have HB3 := hide hWB
  have HD3 := hide hd3
  have HO3 := hide ho3
  have HY3 := hide y3
  have HE : Hid (((w.alloc (.cells #[.slice b N capb] 23)).alloc (.cells #[.slice p N capp] 23)).alloc (.cells #[.func (.func 69) #[] #[.pointer (some ⟨w.heap.size + 1, 0, none⟩)]] 71) = W3) := hide (by rw [hW1, hW2, hW3])
  clear B1 x1 ho1 sz1 hW1 B2 x2 x1' sz2 y2 ho2 hW2 B3 x3 k1 k2 y3 ho3 hW3 hWB hd3 hQ1 Q1
  go_enter Try.func44, Try.ntmps44
  go_wp2
  rw [unhide HE]
  go_loopw [9, 16] (fun z i wr => ∃ (j : Nat) (Z : Int), j ≤ N ∧ i = .int .i64 j ∧ z = .int .i64 Z ∧ Hid (bv (bst s d o B j) = Z) ∧ Below W3.heap.size W3 wr) (fun _ i _ => N - (intOf i).toNat)
  case atStart => exact ⟨0, -1, Nat.zero_le _, rfl, rfl, hide rfl, Below.refl _ _⟩
  case round =>
    obtain ⟨j, Z, hj, rfl, rfl, HZ, hB⟩ := hrel
    by_cases hlt : j < N
    · obtain ⟨b1, off1, rfl, _, hc1⟩ := cell_shr' ((unhide HD3).below hB) (by rw [unhide hdl]; omega)
      obtain ⟨b2, off2, rfl, _, hc2⟩ := cell_shr' ((unhide HO3).below hB) (by rw [unhide hol]; omega)
      have c0 := (boxed_below (unhide HY3) hB (unhide HY3).lt).cell
      have c1 := hc1 j (by rw [unhide hdl]; exact hlt)
      have c2 := hc2 j (by rw [unhide hol]; exact hlt)
      obtain ⟨d0, d9⟩ := unhide hld j (by rw [unhide hdl]; exact hlt)
      obtain ⟨o0, o9⟩ := unhide hp j (by rw [unhide hol]; exact hlt)
      have HNC : Hid (¬ Can s d o B j → bv (bst s d o B (j + 1)) = Z) := hide (fun h => by rw [bst_can h]; exact unhide HZ)
      have HCN : Hid (at0 d j ≠ 0 → at0 o j ≠ 8 → (cost s (inc o j) : Int) ≤ B → Can s d o B j) := hide (fun h1 h2 h3 => ⟨h1, h2, h3⟩)
      have HCX : Hid (Can s d o B j → at0 d j ≠ 0 ∧ at0 o j ≠ 8 ∧ (cost s (inc o j) : Int) ≤ B) := hide (fun h => h)
      have HA : Hid (at0 o j ≠ 8 → _) := hide (fun h => unhide ha j wr hlt h (Below.chain (unhide HB3) hB))
      obtain ⟨D, hD⟩ : ∃ D, at0 d j = D := ⟨_, rfl⟩
      obtain ⟨P, hP⟩ : ∃ P, at0 o j = P := ⟨_, rfl⟩
      obtain ⟨T, hT⟩ : ∃ T, decide ((cost s (inc o j) : Int) ≤ B) = T := ⟨_, rfl⟩
      rw [hD] at c1 d0 d9 HCN HCX
      rw [hP] at c2 o0 o9 HCN HCX HA
      rw [hT] at HA
      have HT := hide hT
      clear hD hP hc1 hc2 hT
      by_cases hD0 : D = 0
      · have dD : (D == 0) = true := by rw [hD0]; rfl
        have HZ2 := hide (unhide HNC (fun h => (unhide HCX h).1 hD0))
        clear hD0 HNC HCN HCX HA
        go_wp2
        go_roundw
        case rel => exact ⟨j + 1, Z, by omega, by go_num, rfl, HZ2, hB⟩
        case measure => simp [intOf]; omega
      · have dD : (D == 0) = false := by rw [beq_eq_false_iff_ne]; exact hD0
        by_cases hP8 : P = 8
        · have dP : (P == 8) = true := by rw [hP8]; rfl
          have HZ2 := hide (unhide HNC (fun h => (unhide HCX h).2.1 hP8))
          clear hD0 hP8 HNC HCN HCX HA
          go_wp2
          go_roundw
          case rel => exact ⟨j + 1, Z, by omega, by go_num, rfl, HZ2, hB⟩
          case measure => simp [intOf]; omega
        · have dP : (P == 8) = false := by rw [beq_eq_false_iff_ne]; exact hP8
          have hka := unhide HA hP8
          cases T with
          | false =>
            have hcb : ¬ ((cost s (inc o j) : Int) ≤ B) := by simpa using unhide HT
            have HZ2 := hide (unhide HNC (fun h => hcb (unhide HCX h).2.2))
            clear hcb hD0 hP8 HNC HCN HCX HA HT
            go_wp2_with fail
            refine hka.mono ?_
            clear hka
            rintro e w5 ⟨rfl, hb5⟩
            go_wp2
            go_roundw
            case rel => exact ⟨j + 1, Z, by omega, by go_num, rfl, HZ2, Below.chain hB hb5⟩
            case measure => simp [intOf]; omega
          | true =>
            have hcb : (cost s (inc o j) : Int) ≤ B := by simpa using unhide HT
            have HCA := hide (unhide HCN hD0 hP8 hcb)
            clear hcb hD0 hP8 HNC HCN HCX HA HT
            cases hb : bst s d o B j with
            | none =>
              obtain rfl : Z = -1 := by rw [← unhide HZ, hb]; rfl
              have HZ2 : Hid (bv (bst s d o B (j + 1)) = (j : Int)) := hide (by rw [bst_first (unhide HCA) hb]; rfl)
              clear hb HZ HCA
              go_wp2_with fail
              refine hka.mono ?_
              clear hka
              rintro e w5 ⟨rfl, hb5⟩
              go_wp2
              go_roundw
              case rel => exact ⟨j + 1, j, by omega, by go_num, by first | rfl | go_num, HZ2, Below.chain hB hb5⟩
              case measure => simp [intOf]; omega
            | some q =>
              obtain rfl : Z = (q : Int) := by rw [← unhide HZ, hb]; rfl
              have hq := (bst_lt hb).1
              have hqN : q < N := by omega
              have dq : decide ((q : Int) < 0) = false := by simp
              have HZO : Hid (Over d o j q → bv (bst s d o B (j + 1)) = (j : Int)) := hide (fun h => by rw [bst_over (unhide HCA) hb h]; rfl)
              have HZS : Hid (¬ Over d o j q → bv (bst s d o B (j + 1)) = (q : Int)) := hide (fun h => by rw [bst_stay (unhide HCA) hb h]; rfl)
              have HLO : Hid (∀ W, Below wr.heap.size wr W → _) := hide (fun W (hW : Below wr.heap.size wr W) => louder j q w.heap.size (w.heap.size + 1 + 1) (w.heap.size + 1) d o W (by rw [unhide hol]; exact hlt) (by rw [unhide hol]; exact hqN) (by rw [unhide hol]; exact h8) (by rw [unhide hdl, unhide hol]) (unhide hp) (unhide hld) ((unhide HK1).below (Below.chain hB hW)) ((unhide HK2).below (Below.chain hB hW)) (boxed_below (unhide HSQ) (Below.chain hB hW) (unhide HSQ).lt))
              clear hb HZ HCA
              by_cases hov : Over d o j q
              · have HZ2 := hide (unhide HZO hov)
                have e1 : decide (Over d o j q) = true := by simpa using hov
                rw [e1] at HLO
                clear hov HZO HZS e1
                go_wp2_with fail
                refine hka.mono ?_
                clear hka
                rintro e w5 ⟨rfl, hb5⟩
                go_wp2_with fail
                refine (unhide HLO w5 hb5).mono ?_
                clear HLO
                rintro e w6 ⟨rfl, n6, rfl⟩
                go_wp2
                go_roundw
                case rel => exact ⟨j + 1, j, by omega, by go_num, by first | rfl | go_num, HZ2, (Below.chain hB hb5).trans ⟨rfl, rfl, rfl, Nat.le_refl _, fun _ _ => rfl⟩⟩
                case measure => simp [intOf]; omega
              · have HZ2 := hide (unhide HZS hov)
                have e1 : decide (Over d o j q) = false := by simpa using hov
                rw [e1] at HLO
                clear hov HZO HZS e1
                go_wp2_with fail
                refine hka.mono ?_
                clear hka
                rintro e w5 ⟨rfl, hb5⟩
                go_wp2_with fail
                refine (unhide HLO w5 hb5).mono ?_
                clear HLO
                rintro e w6 ⟨rfl, n6, rfl⟩
                go_wp2
                go_roundw
                case rel => exact ⟨j + 1, q, by omega, by go_num, rfl, HZ2, (Below.chain hB hb5).trans ⟨rfl, rfl, rfl, Nat.le_refl _, fun _ _ => rfl⟩⟩
                case measure => simp [intOf]; omega
    · obtain rfl : j = N := by omega
      go_wp2
      go_ret
      exact ⟨by rw [unhide HZ]; rfl, Below.chain (unhide HB3) hB⟩

end Go.Proofs.Ythkibjhhlcfceai.Shr
