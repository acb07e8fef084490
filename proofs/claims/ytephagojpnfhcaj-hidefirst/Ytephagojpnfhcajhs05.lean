/-
  A number of a list of this call's own is set.
-/
import Derived.Test.Ytephagojpnfhcajhs04
import Derived.Test.Ytephagojpnfhcajhs00
import Derived.Test.Ytephagojpnfhcajhs01
import Derived.Deep.QuietTactic
import Derived.BigQuiet
namespace Go.Proofs.Ytephagojpnfhcaj.Lap
open Go.RowKit
open Go.Proofs.Ytephagojpnfhcaj.Tre
set_option linter.unusedVariables false

/-- One more number of a list of this call's own is as by f. -/
theorem put_mid {wr : World} {base g n c j : Nat} {f f0 : Nat → Int} {X : Int} (h : Has wr base (.slice (some ⟨g, 0, none⟩) n c) (mid f f0 n j)) (hj : j < n) (hx : f j = X) (q : Nat) :
    Has ((wr.drewN q).setCell ⟨g, j, none⟩ (.int .i64 X)) base (.slice (some ⟨g, 0, none⟩) n c) (mid f f0 n (j + 1)) ∧
      (∀ u m, Has wr base u m → Off u (.slice (some ⟨g, 0, none⟩) n c) → Has ((wr.drewN q).setCell ⟨g, j, none⟩ (.int .i64 X)) base u m) ∧
      (∀ w, Below base w wr → base ≤ g → Below base w ((wr.drewN q).setCell ⟨g, j, none⟩ (.int .i64 X))) := by
  have h1 : Has (wr.drewN q) base (.slice (some ⟨g, 0, none⟩) n c) (mid f f0 n j) := h
  obtain ⟨h2, h3⟩ := h1.put j X
  refine ⟨?_, fun u m hu ho => ?_, fun w hb hg => ?_⟩
  · rw [← mid_set f f0 hj, hx]; exact h2
  · exact Has.beside (show Has (wr.drewN q) base u m from hu) rfl ho h3
  · exact Below.setCell (w := wr.drewN q) (p := ⟨g, j, none⟩) (hb.trans ⟨rfl, rfl, rfl, Nat.le_refl _, fun _ _ => rfl⟩) hg _

end Go.Proofs.Ytephagojpnfhcaj.Lap

/-
  lap.cut, lap.mesh: by their contracts.
-/
namespace Go.Proofs.Ytephagojpnfhcaj.Lap
open Go.RowKit
open Go.Proofs.Ytephagojpnfhcaj.Tre
set_option linter.unusedVariables false

/-- Nil has no room; else it is no longer than its room. -/
def Roomy (a : Option Addr) (len cap : Nat) : Prop := (a = none → cap = 0) ∧ len ≤ cap ∧ cap ≤ 9223372036854775807

theorem has_roomy {w : World} {base : Nat} {a : Option Addr} {n cap : Nat} {l : List Int} (h : Has w base (.slice a n cap) l) : Roomy a n cap := by
  rcases h.2 with ⟨e, _⟩ | ⟨g, c, cur, e, hb, hg, hn, hm, _⟩
  · obtain ⟨rfl, rfl, rfl⟩ := Value.slice.inj e
    exact ⟨fun _ => rfl, Nat.le_refl _, by omega⟩
  · obtain ⟨rfl, rfl, rfl⟩ := Value.slice.inj e
    exact ⟨fun h => (by cases h), hn, by simpa [maxLen] using hm⟩

set_option maxHeartbeats 2000000 in
theorem cut (a : Option Addr) (cap : Nat) (l : List Int) (w : World) (hl : l.length ≤ 1000) (he : Hid (l.length = 2 * (l.length / 2))) (hm : Roomy a l.length cap) (hr : Row w a l) :
    Calls Try.prog 28 #[.slice a l.length cap] w fun e w' => ∃ s d, e = .returned (.tuple #[s, d]) ∧ Has w' w.heap.size s (fr l) ∧ Has w' w.heap.size d (bk l) ∧ Off s d ∧ Below w.heap.size w w' := by
  obtain ⟨m1, m2, m3⟩ := hm
  have hdv : Int.tdiv (l.length : Int) 2 = ((l.length / 2 : Nat) : Int) := rfl
  by_cases h0 : 0 < l.length
  · obtain ⟨b, off, rfl, hb, _⟩ := hr.at h0
    obtain ⟨n, hn⟩ : ∃ n, l.length / 2 = n := ⟨_, rfl⟩
    have H1 : Hid ((fr l).length = n) := hide (by rw [fr_length, hn])
    have H2 : Hid ((bk l).length = l.length - n) := hide (by rw [bk_length (unhide he)]; have := unhide he; omega)
    have r1 : Row w _ (fr l) := hr.take (l.length / 2)
    have r2 : Row w (some ⟨b, off + n, none⟩) (bk l) := by have := hr.drop (l.length / 2); rw [hn] at this; unfold bk; rw [hn]; exact this
    rw [hn] at hdv
    have hn1 : n < l.length := by omega
    obtain ⟨N, hN⟩ : ∃ N, l.length = N := ⟨_, rfl⟩
    rw [hN] at hdv H2 m2 hl h0 hn1 ⊢
    clear hn hN he hr
    have hcn : n ≤ cap := by omega
    have hne : ¬ (cap = n) := by omega
    go_enter Try.func28, Try.ntmps28
    go_wp2_with (first
      | (at_builtin; refine wpList_app _ rfl _ _ rfl w.heap.size _ [] (fr l) (some ⟨b, off, none⟩) cap rfl (Has.nil _ _) (congrArg (fun n => Value.slice (some ⟨b, off, none⟩) n cap) (unhide H1).symm) r1 (by rw [unhide H1]; simp; omega) (Nat.le_refl _) ?_; intro s1 w1 k1 g1 at1; rw [List.nil_append] at k1; have b1 : Below w.heap.size w w1 := (Below.refl _ _).grown g1 (Nat.le_refl _) (fun k e => by cases e); have r2' := r2.below b1; clear r1)
      | (at_builtin; refine wpList_app _ rfl _ _ rfl w.heap.size _ [] (bk l) (some ⟨b, off + n, none⟩) (cap - n) rfl (Has.nil _ _) (congrArg (fun k => Value.slice (some ⟨b, off + n, none⟩) k (cap - n)) (unhide H2).symm) r2' (by rw [unhide H2]; simp; omega) b1.size ?_; intro s2 w2 k2 g2 at2; rw [List.nil_append] at k2))
    obtain ⟨k1', ho⟩ := apart k1 g2 at2 (off_nil _)
    go_ret2
    exact ⟨_, _, rfl, k1', k2, ho, b1.grown g2 b1.size (fun k e => by cases e)⟩
  · obtain rfl : l = [] := List.eq_nil_of_length_eq_zero (by omega)
    have rn : ∀ (x : World) (b : Option Addr), Row x b [] := fun _ _ => Or.inl rfl
    have hfin : ∀ (s1 s2 : Value) (w1 w2 : World), Has w1 w.heap.size s1 [] → w.grownBy w1 none → Has w2 w.heap.size s2 [] → w1.grownBy w2 none → (s2.ownBlock = none ∨ s2.ownBlock = some w1.heap.size) →
        ∃ s d, Ending.returned (.tuple #[s1, s2]) = .returned (.tuple #[s, d]) ∧ Has w2 w.heap.size s (fr []) ∧ Has w2 w.heap.size d (bk []) ∧ Off s d ∧ Below w.heap.size w w2 := by
      intro s1 s2 w1 w2 k1 g1 k2 g2 at2
      have b1 : Below w.heap.size w w1 := (Below.refl _ _).grown g1 (Nat.le_refl _) (fun k e => by cases e)
      obtain ⟨k1', ho⟩ := apart (v := .slice none 0 0) k1 g2 at2 (off_nil _)
      exact ⟨_, _, rfl, k1', k2, ho, b1.grown g2 b1.size (fun k e => by cases e)⟩
    clear he hr hl h0
    cases a with
    | none =>
      obtain rfl := m1 rfl
      go_enter Try.func28, Try.ntmps28
      go_wp2
      go_ret2
      exact hfin _ _ _ _ (Has.nil _ _) (World.grownBy.refl _ _) (Has.nil _ _) (World.grownBy.refl _ _) (Or.inl rfl)
    | some x =>
      go_enter Try.func28, Try.ntmps28
      go_wp2
      go_ret2
      exact hfin _ _ _ _ (Has.nil _ _) (World.grownBy.refl _ _) (Has.nil _ _) (World.grownBy.refl _ _) (Or.inl rfl)

set_option maxHeartbeats 2000000 in
theorem mesh (n : Nat) (a : Option Addr) (cap : Nat) (l : List Int) (a' : Option Addr) (cap' : Nat) (m : List Int) (w : World) (hn : n ≤ 1000) (ha : Hid (n = l.length)) (hb : Hid (n = m.length)) (hr : Row w a l) (hr' : Row w a' m) :
    Calls Try.prog 31 #[.slice a n cap, .slice a' n cap'] w fun e w' => ∃ v, e = .returned v ∧ Has w' w.heap.size v (flat (at0 l) (at0 m) n) ∧ Below w.heap.size w w' := by
  go_enter Try.func31, Try.ntmps31
  go_wp2
  go_loopw [5, 10] (fun v i wr => ∃ j : Nat, j ≤ n ∧ i = .int .i64 j ∧ Has wr w.heap.size v (flat (at0 l) (at0 m) j) ∧ Below w.heap.size w wr) (fun _ i _ => n - (intOf i).toNat)
  case atStart => exact ⟨0, Nat.zero_le _, rfl, Has.nil _ _, Below.refl _ _⟩
  case round =>
    obtain ⟨j, hj, rfl, h1, hB⟩ := hrel
    by_cases hlt : j < n
    · obtain ⟨b, off, rfl, hc⟩ := row_cell (hr.below hB) (by rw [← unhide ha]; omega)
      obtain ⟨b', off', rfl, hc'⟩ := row_cell (hr'.below hB) (by rw [← unhide hb]; omega)
      have hc1 := hc j (by rw [← unhide ha]; omega)
      have hc2 := hc' j (by rw [← unhide hb]; omega)
      have hWs := hB.size
      have e1 := hide (flat_succ (at0 l) (at0 m) j)
      obtain ⟨X, hX⟩ : ∃ X, at0 l j = X := ⟨_, rfl⟩
      obtain ⟨Y, hY⟩ : ∃ Y, at0 m j = Y := ⟨_, rfl⟩
      rw [hX, hY] at e1
      rw [hX] at hc1
      rw [hY] at hc2
      have hln : Hid ((flat (at0 l) (at0 m) j).length + 2 ≤ 1000000) := hide (by rw [flat_length]; omega)
      clear hX hY hc hc'
      go_wp2_with (at_builtin; refine wpList_app _ rfl _ _ rfl w.heap.size u5 (flat (at0 l) (at0 m) j) [X, Y] _ _ rfl (h1.alloc _) rfl (row_two _ _ _ _) (unhide hln) (by simp; omega) ?_; intro s' w1 k1 g1 at1)
      obtain ⟨d1, d2⟩ := stepped_plain h1 hWs k1 g1 at1
      go_wp2
      go_roundw
      case rel => exact ⟨j + 1, by omega, by go_num, by rw [unhide e1]; exact k1, hB.trans d1⟩
      case measure => simp [intOf]; omega
    · obtain rfl : j = n := by omega
      go_wp2
      go_ret
      exact ⟨_, rfl, h1, hB⟩

end Go.Proofs.Ytephagojpnfhcaj.Lap

/-
  share.outside, share.check: by their contracts.
-/
namespace Go.Proofs.Ytephagojpnfhcaj.Shr
open Go.RowKit
open Go.Proofs.Ytephagojpnfhcaj.Tre Go.Proofs.Ytephagojpnfhcaj.Cnt Go.Proofs.Ytephagojpnfhcaj.Bnd
set_option linter.unusedVariables false

/-- A number is not from 0 to m. -/
def outs (m n : Int) : Bool := decide (n < 0) || decide (m < n)
theorem any_of (c : Int) (l : List Int) (k : Nat) (hk : k < l.length) (h : outs c l[k] = true) : l.any (outs c) = true :=
  List.any_eq_true.2 ⟨l[k], List.getElem_mem hk, h⟩
theorem any_step (c : Int) (l : List Int) (k : Nat) (hk : k < l.length) (h0 : (l.take k).any (outs c) = false) (h : outs c l[k] = false) : (l.take (k + 1)).any (outs c) = false := by
  rw [List.take_succ_eq_append_getElem hk, List.any_append, h0]
  simp [h]

theorem outside1 (c n : Int) (B : Nat) (w : World) (hc : w.cell? ⟨B, 0, none⟩ = some (.int .i64 c)) :
    Calls Try.prog 79 #[.int .i64 n, .pointer (some ⟨B, 0, none⟩)] w fun e w' => e = .returned (.bool (outs c n)) ∧ w' = w := by
  by_cases h1 : n < 0
  · have h3 : decide (n < 0) = true := by simpa using h1
    go_enter Try.func79, Try.ntmps79
    go_wp2
    go_ret
    exact ⟨by simp [outs, h3], rfl⟩
  · have h2 : decide (n < 0) = false := by simpa using h1
    go_enter Try.func79, Try.ntmps79
    go_wp2
    go_ret
    exact ⟨by simp [outs, h2], rfl⟩

set_option maxHeartbeats 400000 in
theorem indexFunc (c : Int) (a : Option Addr) (cap : Nat) (l : List Int) (B : Nat) (w : World) (hl : l.length ≤ 9223372036854775807) (hr : Row w a l) (hc : w.cell? ⟨B, 0, none⟩ = some (.int .i64 c)) :
    Calls Try.prog 24 #[.slice a l.length cap, .func (.func 79) #[] #[.pointer (some ⟨B, 0, none⟩)]] w
      fun e w' => (∃ r : Int, e = .returned (.int .i64 r) ∧ (decide (0 ≤ r)) = l.any (outs c)) ∧ w' = w := by
  go_enter Try.func24, Try.ntmps24
  go_wp2
  go_loop [8] (fun i => ∃ k : Nat, k ≤ l.length ∧ i = .int .i64 k ∧ (l.take k).any (outs c) = false) (fun i => l.length - (intOf i).toNat)
  case atStart => exact ⟨0, Nat.zero_le _, rfl, by simp⟩
  case round =>
    obtain ⟨k, hk, rfl, hno⟩ := hrel
    have HNO : Hid ((l.take k).any (outs c) = false) := hno
    clear hno
    by_cases hlt : k < l.length
    · obtain ⟨b, off, rfl, hb, hcs⟩ := hr.at hlt
      have hck := hcs k hlt
      clear hcs
      go_wp2_with (go_at_call 79; refine (outside1 c _ _ _ hc).mono ?_; rintro e w' ⟨rfl, rfl⟩)
      · go_ret
        have hh : outs c l[k] = true := by assumption
        exact ⟨⟨k, rfl, by rw [any_of c l k hlt hh]; simp⟩, rfl⟩
      · have hh : outs c l[k] = false := by assumption
        go_round
        case rel => exact ⟨k + 1, by omega, by go_num, any_step c l k hlt HNO.out hh⟩
        case measure => simp [intOf]; omega
    · go_wp2
      go_ret
      have hh := HNO.out
      rw [List.take_of_length_le (by omega)] at hh
      exact ⟨⟨-1, rfl, by rw [hh]; rfl⟩, rfl⟩

theorem containsFunc (c : Int) (a : Option Addr) (cap : Nat) (l : List Int) (B : Nat) (w : World) (hl : l.length ≤ 9223372036854775807) (hr : Row w a l) (hc : w.cell? ⟨B, 0, none⟩ = some (.int .i64 c)) :
    Calls Try.prog 16 #[.slice a l.length cap, .func (.func 79) #[] #[.pointer (some ⟨B, 0, none⟩)]] w
      fun e w' => e = .returned (.bool (l.any (outs c))) ∧ w' = w := by
  go_enter Try.func16, Try.ntmps16
  go_wp2_with fail
  refine (indexFunc c a cap l B w hl hr hc).mono ?_
  rintro e w' ⟨⟨r, rfl, hr2⟩, rfl⟩
  have HR := hide hr2
  clear hr2
  go_wp2
  go_ret
  exact ⟨by rw [← unhide HR]; rfl, rfl⟩

theorem boxed_cell (w : World) (c : Int) (t : TypeId) : (w.alloc (.cells #[.int .i64 c] t)).cell? ⟨w.heap.size, 0, none⟩ = some (.int .i64 c) := by
  rw [World.cell?_alloc_at _ _ _ _ rfl]; rfl
theorem below_box (w : World) (v : Value) (t : TypeId) : Below w.heap.size w (w.alloc (.cells #[v] t)) := (Below.refl _ _).alloc (Nat.le_refl _) _

theorem outside (c : Int) (w : World) : Calls Try.prog 63 #[.int .i64 c] w fun e w' => ∃ B : Nat, e = .returned (.func (.func 79) #[] #[.pointer (some ⟨B, 0, none⟩)]) ∧ w'.cell? ⟨B, 0, none⟩ = some (.int .i64 c) ∧ Below w.heap.size w w' := by
  have hmf : ∀ (fn : Fn) (first cap : Array Value) (w : World), (Instr.makeFunc fn first cap).run Try.prog w = .ok (.func fn first cap) w := fun _ _ _ _ => rfl
  go_enter Try.func63, Try.ntmps63
  go_wp2
  go_ret
  exact ⟨_, rfl, boxed_cell _ _ _, below_box _ _ _⟩

/-- The fault of sizes, and of numbers that bands have. -/
def chkF (s p : List Int) (m : Int) : Int := if bf s = 0 then (if p.length = s.length then (if p.any (outs m) = true then 1 else 0) else 3) else bf s
theorem costF_chk (s p : List Int) : costF s p = chkF s p 8 := rfl
theorem ofF_chk (s d : List Int) (B : Int) : ofF s d B = if chkF s d 8000 = 0 then (if outs 400 B = true then 1 else 0) else chkF s d 8000 := by
  have e : (lou : Int → Bool) = outs 8000 := rfl
  have e2 : (outs 400 B = true) ↔ (B < 0 ∨ 400 < B) := by simp [outs]
  unfold ofF chkF
  rw [e]
  by_cases h1 : bf s = 0
  · rw [if_pos h1, if_pos h1]
    by_cases h2 : d.length = s.length
    · rw [if_pos h2, if_pos h2]
      by_cases h3 : d.any (outs 8000) = true
      · rw [if_pos h3, if_pos h3, if_neg (by omega)]
      · rw [if_neg h3, if_neg h3, if_pos rfl]
        by_cases h4 : B < 0 ∨ 400 < B
        · rw [if_pos h4, if_pos (e2.2 h4)]
        · rw [if_neg h4, if_neg (mt e2.1 h4)]
    · rw [if_neg h2, if_neg h2, if_neg (by omega)]
  · rw [if_neg h1, if_neg h1, if_neg h1]

set_option maxHeartbeats 1000000 in
theorem check (a : Option Addr) (cap : Nat) (s : List Int) (b : Option Addr) (capb : Nat) (p : List Int) (m : Int) (w : World) (zs : s.length ≤ 9223372036854775807) (zp : p.length ≤ 9223372036854775807) (hr : Row w a s) (hp : Row w b p) :
    Calls Try.prog 62 #[.slice a s.length cap, .slice b p.length capb, .int .i64 m] w fun e w' => e = .returned (Ev.errV (chkF s p m)) ∧ Below w.heap.size w w' := by
  have HF : Hid (chkF s p m = if bf s = 0 then (if p.length = s.length then (if p.any (outs m) = true then 1 else 0) else 3) else bf s) := hide rfl
  obtain ⟨F, hF⟩ : ∃ F, chkF s p m = F := ⟨_, rfl⟩
  rw [hF] at HF ⊢
  clear hF
  by_cases h1 : bf s = 0
  · have hk := check_ok a cap s w zs hr h1
    have HF1 := unhide HF
    rw [if_pos h1] at HF1
    have HF2 := hide HF1
    obtain ⟨T, hT⟩ : ∃ T, (total s : Int) = T := ⟨_, rfl⟩
    rw [hT] at hk
    have hcf := hide (fun B W h1 h2 => containsFunc m b capb p B W zp h1 h2)
    obtain ⟨N, hN⟩ : ∃ N, s.length = N := ⟨_, rfl⟩
    obtain ⟨M, hM⟩ : ∃ M, p.length = M := ⟨_, rfl⟩
    rw [hN] at hk zs HF2 ⊢
    rw [hM] at hcf zp HF2 ⊢
    clear hT HF HF1 h1 hN hM hr
    by_cases h2 : M = N
    · have hne : ((M : Int) != (N : Int)) = false := by simp [h2]
      have HF3 := unhide HF2
      rw [if_pos h2] at HF3
      have HF4 := hide HF3
      have HP := hide hp
      clear HF2 HF3 h2 hp
      go_enter Try.func62, Try.ntmps62
      go_wp2_with fail
      refine hk.mono ?_
      clear hk
      rintro e w1 ⟨rfl, rfl⟩
      go_wp2_with fail
      refine (outside m _).mono ?_
      rintro e w2 ⟨B, rfl, hc2, hb2⟩
      go_wp2_with fail
      refine (unhide hcf B w2 ((unhide HP).below hb2) hc2).mono ?_
      rintro e w3 ⟨rfl, rfl⟩
      cases hT : p.any (outs m)
      · have e0 : F = 0 := by rw [unhide HF4, hT]; rfl
        subst e0
        clear HF4 hT
        go_wp2
        go_ret
        exact ⟨rfl, hb2⟩
      · have e0 : F = 1 := by rw [unhide HF4, hT]; rfl
        subst e0
        clear HF4 hT
        go_wp2
        go_ret
        exact ⟨rfl, hb2⟩
    · have hne : ((M : Int) != (N : Int)) = true := by simp; omega
      have HF3 := unhide HF2
      rw [if_neg h2] at HF3
      subst HF3
      clear HF2 h2 hcf hp
      go_enter Try.func62, Try.ntmps62
      go_wp2_with fail
      refine hk.mono ?_
      clear hk
      rintro e w1 ⟨rfl, rfl⟩
      go_wp2
      go_ret
      exact ⟨rfl, Below.refl _ _⟩
  · have hk := check_no a cap s w zs hr h1
    have e0 := unhide HF
    rw [if_neg h1] at e0
    rw [← e0] at hk h1
    have HE := hide (Ev.errV_ne h1)
    obtain ⟨N, hN⟩ : ∃ N, s.length = N := ⟨_, rfl⟩
    obtain ⟨M, hM⟩ : ∃ M, p.length = M := ⟨_, rfl⟩
    rw [hN] at hk ⊢
    rw [hM]
    clear hN hM zs zp hr hp HF e0 h1
    go_enter Try.func62, Try.ntmps62
    go_wp2_with fail
    refine hk.mono ?_
    clear hk
    rintro e w1 ⟨rfl, rfl⟩
    go_wp2
    go_ret
    exact ⟨by rw [unhide HE]; rfl, Below.refl _ _⟩

end Go.Proofs.Ytephagojpnfhcaj.Shr

/-
  A row's numbers, each in its cell.
-/
namespace Go.Proofs.Ytephagojpnfhcaj.Bnd
open Go.RowKit
open Go.Proofs.Ytephagojpnfhcaj.Tre
set_option linter.unusedVariables false

theorem cell_at {w : World} {a : Option Addr} {l : List Int} (h : Row w a l) (h0 : 0 < l.length) : ∃ b off, a = some ⟨b, off, none⟩ ∧ b < w.heap.size ∧ ∀ j, j < l.length → w.cell? ⟨b, off + j, none⟩ = some (.int .i64 (at0 l j)) := by
  obtain ⟨b, off, e, hb, hc⟩ := h.at h0
  exact ⟨b, off, e, hb, fun j hj => (hc j hj).trans (by rw [List.getD_eq_getElem?_getD]; rfl)⟩

end Go.Proofs.Ytephagojpnfhcaj.Bnd

/-
  Words for the contracts of chapter 10: cells of a row, sums that no integer is too small for, the fault of counts.
-/
namespace Go.Proofs.Ytephagojpnfhcaj.Scl
open Go.RowKit
open Go.Proofs.Ytephagojpnfhcaj.Tre
set_option linter.unusedVariables false

theorem cell_at {w : World} {a : Option Addr} {l : List Int} (h : Row w a l) (h0 : 0 < l.length) : ∃ b off, a = some ⟨b, off, none⟩ ∧ b < w.heap.size ∧ ∀ j, j < l.length → w.cell? ⟨b, off + j, none⟩ = some (.int .i64 (at0 l j)) := by
  obtain ⟨b, off, e, hb, hc⟩ := h.at h0
  exact ⟨b, off, e, hb, fun j hj => (hc j hj).trans (by rw [List.getD_eq_getElem?_getD]; rfl)⟩

/-- Sums of the first ones that no integer is too small for. -/
def Small (l : List Int) : Prop := ∀ j, j ≤ l.length → -1000000000 ≤ pfx l j ∧ pfx l j ≤ 1000000000
theorem small_of {l : List Int} (h : ∀ i, i < l.length → 0 ≤ at0 l i ∧ at0 l i ≤ 1000000) (h40 : l.length ≤ 40) : Small l := fun j hj => by
  have h1 := pfx_nonneg (l := l) (fun i hi => (h i hi).1) hj
  have h2 := pfx_le (l := l) (b := 1000000) (fun i hi => (h i hi).2) hj
  omega

theorem cf_bad {c : List Int} {j : Nat} (h0 : c.length ≠ 0) (h40 : ¬ 40 < c.length) (hj : j < c.length) (hb : at0 c j < 0 ∨ 1000000 < at0 c j) : cf c = 1 := by
  have e : at0 c j = c[j] := by simp [at0, hj]
  have h : c.any wrong = true := List.any_eq_true.2 ⟨c[j], List.getElem_mem hj, by rw [e] at hb; simp [wrong]; omega⟩
  simp [cf, h0, h40, h]
theorem cf_sum {c : List Int} (h0 : c.length ≠ 0) (h40 : ¬ 40 < c.length) (h : ∀ i, i < c.length → 0 ≤ at0 c i ∧ at0 c i ≤ 1000000) : cf c = if tot c = 0 then 5 else 0 := by
  have hany : c.any wrong = false := by
    apply List.any_eq_false.2
    intro n hn
    obtain ⟨i, hi, rfl⟩ := List.getElem_of_mem hn
    have := h i hi
    have e : at0 c i = c[i] := by simp [at0, hi]
    rw [e] at this
    simp [wrong]; omega
  simp [cf, h0, h40, hany]

end Go.Proofs.Ytephagojpnfhcaj.Scl

/-
  A part of a row ('l[t:q]', 'l[:n]'), whatever lies beneath it: nil and empty ones too.
-/
namespace Go.Proofs.Ytephagojpnfhcaj
open Go.RowKit
open Go.Proofs.Ytephagojpnfhcaj.Tre
set_option linter.unusedVariables false

set_option maxRecDepth 100000 in
theorem size_ints (w : World) : (sizeOf (Try.prog.elem 22)).run Try.prog w = .ok 1 w := by
  have h : Try.prog.elem 22 = 3 := by kernel_rfl
  obtain ⟨i, hi, hz0, hz1, hz2⟩ := info_parts info_int
  rw [h]
  simp [sizeOf, typeInfo, hi, hz1]
set_option maxRecDepth 100000 in
theorem row_cut {w : World} {a : Option Addr} {l : List Int} (h : Row w a l) (cap : Nat) (hm : l.length ≤ cap) {t q : Nat} (htq : t ≤ q) (hq : q ≤ l.length) :
    ∃ A, (∀ W, (Instr.slice 22 (.slice a l.length cap) (some (.int .i64 t)) (some (.int .i64 q)) none).run Try.prog W = .ok (.slice A (q - t) (cap - t)) W) ∧ Row w A ((l.drop t).take (q - t)) := by
  refine ⟨if cap = t then a else a.map (·.add (t * 1)), fun W => ?_, ?_⟩
  · rw [run_slice_lh W 22 a l.length cap Try.underlying22 .i64 .i64 t q (by omega) (by omega) (by omega), size_ints]
    simp [Result.andThen, sliced]
  · by_cases he : q = t
    · refine Or.inl ?_
      rw [he, Nat.sub_self, List.take_zero]
    · obtain ⟨b, off, rfl, hb, hc⟩ := h.at (k := 0) (by omega)
      rw [if_neg (by omega), Nat.mul_one, Option.map_some, addr_plain]
      exact (h.drop t).take _
set_option maxRecDepth 100000 in
theorem row_first {w : World} {a : Option Addr} {l : List Int} (h : Row w a l) (cap : Nat) (hm : l.length ≤ cap) {q : Nat} (hq : q ≤ l.length) :
    ∃ A, (∀ W, (Instr.slice 22 (.slice a l.length cap) none (some (.int .i64 q)) none).run Try.prog W = .ok (.slice A q cap) W) ∧ Row w A (l.take q) := by
  refine ⟨if cap = 0 then a else a.map (·.add (0 * 1)), fun W => ?_, ?_⟩
  · rw [run_slice_h W 22 a l.length cap Try.underlying22 .i64 q (by omega) (by omega), size_ints]
    simp [Result.andThen, sliced]
  · by_cases he : q = 0
    · refine Or.inl ?_
      rw [he, List.take_zero]
    · obtain ⟨b, off, rfl, hb, hc⟩ := h.at (k := 0) (by omega)
      rw [if_neg (by omega), Nat.zero_mul, Option.map_some, addr_plain, Nat.add_zero]
      exact h.take _

end Go.Proofs.Ytephagojpnfhcaj

/-
  The rest of a row ('l[t:]'), whatever lies beneath it; the first ones of a slice of this call's own ('v[:n]').
-/
namespace Go.Proofs.Ytephagojpnfhcaj
open Go.RowKit
open Go.Proofs.Ytephagojpnfhcaj.Tre
set_option linter.unusedVariables false

set_option maxRecDepth 100000 in
theorem row_rest {w : World} {a : Option Addr} {l : List Int} (h : Row w a l) (cap : Nat) (hm : l.length ≤ cap) {t : Nat} (ht : t ≤ l.length) :
    ∃ A, (∀ W, (Instr.slice 22 (.slice a l.length cap) (some (.int .i64 t)) none none).run Try.prog W = .ok (.slice A (l.length - t) (cap - t)) W) ∧ Row w A (l.drop t) := by
  refine ⟨if cap = t then a else a.map (·.add (t * 1)), fun W => ?_, ?_⟩
  · rw [run_slice_l W 22 a l.length cap Try.underlying22 .i64 t (by omega) (by omega), size_ints]
    simp [Result.andThen, sliced]
  · by_cases he : l.length = t
    · refine Or.inl ?_
      rw [← he, List.drop_length]
    · obtain ⟨b, off, rfl, hb, hc⟩ := h.at (k := 0) (by omega)
      rw [if_neg (by omega), Nat.mul_one, Option.map_some, addr_plain]
      exact h.drop t
set_option maxRecDepth 100000 in
theorem Has.first {w : World} {base : Nat} {v : Value} {l : List Int} (h : Has w base v l) {n : Nat} (hn : n ≤ l.length) :
    ∃ v', (∀ W, (Instr.slice 22 v none (some (.int .i64 n)) none).run Try.prog W = .ok v' W) ∧ Has w base v' (l.take n) := by
  have hl : (l.take n).length = n := by rw [List.length_take]; omega
  rcases h.2 with ⟨rfl, h0⟩ | ⟨g, cap, cur, rfl, hb, hg, hc, hm, hs, hx⟩
  · obtain rfl : l = [] := List.eq_nil_of_length_eq_zero h0
    obtain rfl : n = 0 := by simpa using hn
    refine ⟨.slice none 0 0, fun W => ?_, Has.nil _ _⟩
    rw [run_slice_h W 22 none 0 0 Try.underlying22 .i64 ((0 : Nat) : Int) (by omega) (by omega), size_ints]
    simp [Result.andThen, sliced]
  · refine ⟨.slice (some ⟨g, 0, none⟩) n cap, fun W => ?_, ?_⟩
    · rw [run_slice_h W 22 _ l.length cap Try.underlying22 .i64 n (by omega) (by omega), size_ints]
      simp [Result.andThen, sliced, addr_plain]
    · unfold Has
      rw [hl]
      refine ⟨by rw [List.length_map, hl, Nat.mul_one], Or.inr ⟨g, cap, cur, rfl, hb, hg, by omega, hm, hs, ?_⟩⟩
      rw [List.map_take, ← hx, List.take_take, Nat.mul_one, Nat.mul_one, Nat.min_eq_left hn]

end Go.Proofs.Ytephagojpnfhcaj

/-
  width.check, total: by their contracts.
-/
namespace Go.Proofs.Ytephagojpnfhcaj.Wid
open Go.RowKit
open Go.Proofs.Ytephagojpnfhcaj.Tre Go.Proofs.Ytephagojpnfhcaj.Scl Go.Proofs.Ytephagojpnfhcaj.Bnd
set_option linter.unusedVariables false

theorem any_of {p : Int → Bool} (l : List Int) (k : Nat) (hk : k < l.length) (h : p l[k] = true) : l.any p = true :=
  List.any_eq_true.2 ⟨l[k], List.getElem_mem hk, h⟩
theorem any_step {p : Int → Bool} (l : List Int) (k : Nat) (hk : k < l.length) (h0 : (l.take k).any p = false) (h : p l[k] = false) : (l.take (k + 1)).any p = false := by
  rw [List.take_succ_eq_append_getElem hk, List.any_append, h0]
  simp [h]

theorem nob1 (n : Int) (w : World) : Calls Try.prog 76 #[.int .i64 n] w fun e w' => e = .returned (.bool (nob n)) ∧ w' = w := by
  by_cases h0 : n = 0
  · subst h0
    go_enter Try.func76, Try.ntmps76
    go_wp2
    go_ret
    exact ⟨rfl, rfl⟩
  · by_cases h1 : n = 1
    · subst h1
      go_enter Try.func76, Try.ntmps76
      go_wp2
      go_ret
      exact ⟨rfl, rfl⟩
    · have e : nob n = true := by simp [nob]; omega
      have e0 : (n != 0) = true := by simpa using h0
      have e1 : (n != 1) = true := by simpa using h1
      have f0 : (n == 0) = false := by simpa using h0
      have f1 : (n == 1) = false := by simpa using h1
      rw [e]
      clear e h0 h1
      go_enter Try.func76, Try.ntmps76
      go_wp2
      go_ret
      exact ⟨rfl, rfl⟩
theorem now1 (n : Int) (w : World) : Calls Try.prog 77 #[.int .i64 n] w fun e w' => e = .returned (.bool (now n)) ∧ w' = w := by
  by_cases h1 : n < 0
  · have h3 : decide (n < 0) = true := by simpa using h1
    go_enter Try.func77, Try.ntmps77
    go_wp2
    go_ret
    exact ⟨by simp [now, h3], rfl⟩
  · have h2 : decide (n < 0) = false := by simpa using h1
    go_enter Try.func77, Try.ntmps77
    go_wp2
    go_ret
    exact ⟨by simp [now, h2], rfl⟩

set_option maxHeartbeats 400000 in
theorem nobIndex (a : Option Addr) (cap : Nat) (l : List Int) (w : World) (hl : l.length ≤ 9223372036854775807) (hr : Row w a l) :
    Calls Try.prog 24 #[.slice a l.length cap, .func (.func 76) #[] #[]] w
      fun e w' => (∃ r : Int, e = .returned (.int .i64 r) ∧ (decide (0 ≤ r)) = l.any nob) ∧ w' = w := by
  go_enter Try.func24, Try.ntmps24
  go_wp2
  go_loop [8] (fun i => ∃ k : Nat, k ≤ l.length ∧ i = .int .i64 k ∧ (l.take k).any nob = false) (fun i => l.length - (intOf i).toNat)
  case atStart => exact ⟨0, Nat.zero_le _, rfl, by simp⟩
  case round =>
    obtain ⟨k, hk, rfl, hno⟩ := hrel
    have HNO : Hid ((l.take k).any nob = false) := hno
    clear hno
    by_cases hlt : k < l.length
    · obtain ⟨b, off, rfl, hb, hcs⟩ := hr.at hlt
      have hck := hcs k hlt
      clear hcs
      go_wp2_with (go_at_call 76; refine (nob1 _ _).mono ?_; rintro e w' ⟨rfl, rfl⟩)
      · go_ret
        have hh : nob l[k] = true := by assumption
        exact ⟨⟨k, rfl, by rw [any_of l k hlt hh]; simp⟩, rfl⟩
      · have hh : nob l[k] = false := by assumption
        go_round
        case rel => exact ⟨k + 1, by omega, by go_num, any_step l k hlt HNO.out hh⟩
        case measure => simp [intOf]; omega
    · go_wp2
      go_ret
      have hh := HNO.out
      rw [List.take_of_length_le (by omega)] at hh
      exact ⟨⟨-1, rfl, by rw [hh]; rfl⟩, rfl⟩
theorem nobContains (a : Option Addr) (cap : Nat) (l : List Int) (w : World) (hl : l.length ≤ 9223372036854775807) (hr : Row w a l) :
    Calls Try.prog 16 #[.slice a l.length cap, .func (.func 76) #[] #[]] w
      fun e w' => e = .returned (.bool (l.any nob)) ∧ w' = w := by
  go_enter Try.func16, Try.ntmps16
  go_wp2_with fail
  refine (nobIndex a cap l w hl hr).mono ?_
  rintro e w' ⟨⟨r, rfl, hr2⟩, rfl⟩
  have HR := hide hr2
  clear hr2
  go_wp2
  go_ret
  exact ⟨by rw [← unhide HR]; rfl, rfl⟩
set_option maxHeartbeats 400000 in
theorem nowIndex (a : Option Addr) (cap : Nat) (l : List Int) (w : World) (hl : l.length ≤ 9223372036854775807) (hr : Row w a l) :
    Calls Try.prog 24 #[.slice a l.length cap, .func (.func 77) #[] #[]] w
      fun e w' => (∃ r : Int, e = .returned (.int .i64 r) ∧ (decide (0 ≤ r)) = l.any now) ∧ w' = w := by
  go_enter Try.func24, Try.ntmps24
  go_wp2
  go_loop [8] (fun i => ∃ k : Nat, k ≤ l.length ∧ i = .int .i64 k ∧ (l.take k).any now = false) (fun i => l.length - (intOf i).toNat)
  case atStart => exact ⟨0, Nat.zero_le _, rfl, by simp⟩
  case round =>
    obtain ⟨k, hk, rfl, hno⟩ := hrel
    have HNO : Hid ((l.take k).any now = false) := hno
    clear hno
    by_cases hlt : k < l.length
    · obtain ⟨b, off, rfl, hb, hcs⟩ := hr.at hlt
      have hck := hcs k hlt
      clear hcs
      go_wp2_with (go_at_call 77; refine (now1 _ _).mono ?_; rintro e w' ⟨rfl, rfl⟩)
      · go_ret
        have hh : now l[k] = true := by assumption
        exact ⟨⟨k, rfl, by rw [any_of l k hlt hh]; simp⟩, rfl⟩
      · have hh : now l[k] = false := by assumption
        go_round
        case rel => exact ⟨k + 1, by omega, by go_num, any_step l k hlt HNO.out hh⟩
        case measure => simp [intOf]; omega
    · go_wp2
      go_ret
      have hh := HNO.out
      rw [List.take_of_length_le (by omega)] at hh
      exact ⟨⟨-1, rfl, by rw [hh]; rfl⟩, rfl⟩
theorem nowContains (a : Option Addr) (cap : Nat) (l : List Int) (w : World) (hl : l.length ≤ 9223372036854775807) (hr : Row w a l) :
    Calls Try.prog 16 #[.slice a l.length cap, .func (.func 77) #[] #[]] w
      fun e w' => e = .returned (.bool (l.any now)) ∧ w' = w := by
  go_enter Try.func16, Try.ntmps16
  go_wp2_with fail
  refine (nowIndex a cap l w hl hr).mono ?_
  rintro e w' ⟨⟨r, rfl, hr2⟩, rfl⟩
  have HR := hide hr2
  clear hr2
  go_wp2
  go_ret
  exact ⟨by rw [← unhide HR]; rfl, rfl⟩

theorem check_no (a : Option Addr) (cap : Nat) (l : List Int) (E : Int) (w : World) (hr : Row w a l) (zl : l.length ≤ 9223372036854775807) (hE : Hid (bsF l = E)) (hne : Hid (E ≠ 0)) :
    Calls Try.prog 58 #[.slice a l.length cap] w fun e w' => e = .returned (.iface 39 (.int .i64 E)) ∧ w' = w := by
  by_cases h4 : 400 < l.length
  · obtain rfl : E = 4 := by rw [← unhide hE]; unfold bsF; rw [if_pos h4]
    clear hE hne
    go_enter Try.func58, Try.ntmps58
    go_wp2
    go_ret
    exact ⟨rfl, rfl⟩
  · have hE2 := unhide hE
    unfold bsF at hE2
    rw [if_neg h4] at hE2
    have hany : l.any nob = true := by
      cases h : l.any nob with
      | true => rfl
      | false => rw [h] at hE2; exact absurd hE2.symm (unhide hne)
    obtain rfl : E = 1 := by rw [← hE2, if_pos hany]
    have hcf := nobContains a cap l w zl hr
    rw [hany] at hcf
    clear hE hne hE2 hany
    go_enter Try.func58, Try.ntmps58
    go_wp2_with fail
    refine hcf.mono ?_
    clear hcf
    rintro e w1 ⟨rfl, rfl⟩
    go_wp2
    go_ret
    exact ⟨rfl, rfl⟩
theorem check_ok (a : Option Addr) (cap : Nat) (l : List Int) (w : World) (hr : Row w a l) (hE : Hid (bsF l = 0)) :
    Calls Try.prog 58 #[.slice a l.length cap] w fun e w' => e = .returned .nilIface ∧ w' = w := by
  obtain ⟨h4, hb⟩ := bsF_zero.1 (unhide hE)
  have hcf := nobContains a cap l w (by omega) hr
  rw [nob_any.2 hb] at hcf
  clear hE hb
  go_enter Try.func58, Try.ntmps58
  go_wp2_with fail
  refine hcf.mono ?_
  clear hcf
  rintro e w1 ⟨rfl, rfl⟩
  go_wp2
  go_ret
  exact ⟨rfl, rfl⟩

theorem pre_w {ws : List Int} (h : Wds ws) {j : Nat} (hj : j ≤ ws.length) : pre ws j ≤ 20 * j := by
  induction j with
  | zero => exact Nat.le_refl _
  | succ j ih =>
    have := ih (by omega)
    have := h j (by omega)
    rw [pre_succ]
    omega

theorem total_no (a : Option Addr) (cap : Nat) (ws : List Int) (w : World) (hr : Row w a ws) (zs : ws.length ≤ 9223372036854775807) (hE : Hid (ws.any now = true)) :
    Calls Try.prog 59 #[.slice a ws.length cap] w fun e w' => e = .returned (.tuple #[.int .i64 0, .iface 39 (.int .i64 1)]) ∧ w' = w := by
  have hcf := nowContains a cap ws w zs hr
  rw [unhide hE] at hcf
  clear hE
  go_enter Try.func59, Try.ntmps59
  go_wp2_with fail
  refine hcf.mono ?_
  clear hcf
  rintro e w1 ⟨rfl, rfl⟩
  go_wp2
  go_ret2
  exact ⟨rfl, rfl⟩
set_option maxHeartbeats 1000000 in
theorem total_ok (a : Option Addr) (cap : Nat) (ws : List Int) (w : World) (hr : Row w a ws) (zs : ws.length ≤ 17592186044416) (hE : Hid (Wds ws)) :
    Calls Try.prog 59 #[.slice a ws.length cap] w fun e w' => e = .returned (.tuple #[.int .i64 (total ws : Int), .nilIface]) ∧ w' = w := by
  have hcf := nowContains a cap ws w (by omega) hr
  rw [now_any.2 (unhide hE)] at hcf
  obtain ⟨N, hN⟩ : ∃ N, ws.length = N := ⟨_, rfl⟩
  have HN := hide hN
  obtain ⟨Z, hZ⟩ : ∃ Z, total ws = Z := ⟨_, rfl⟩
  have HZ : Hid (pre ws N = Z) := hide (by rw [← hZ, ← hN]; rfl)
  rw [hZ]
  rw [hN] at hcf zs ⊢
  clear hN hZ
  go_enter Try.func59, Try.ntmps59
  go_wp2_with fail
  refine hcf.mono ?_
  clear hcf
  rintro e w1 ⟨rfl, rfl⟩
  go_wp2
  go_loopw [4, 12] (fun t i wr => ∃ j T : Nat, j ≤ N ∧ i = .int .i64 j ∧ t = .int .i64 T ∧ Hid (pre ws j = T) ∧ T ≤ 20 * j ∧ wr = w1) (fun _ i _ => N - (intOf i).toNat)
  case atStart => exact ⟨0, 0, Nat.zero_le _, rfl, rfl, rfl, by omega, rfl⟩
  case round =>
    obtain ⟨j, T, hj, rfl, rfl, HT, hT, rfl⟩ := hrel
    by_cases hlt : j < N
    · have hlt' : j < ws.length := by rw [unhide HN]; exact hlt
      obtain ⟨b, off, rfl, hb, hc⟩ := Scl.cell_at hr (by omega)
      have c1 := hc j hlt'
      have h1 := unhide hE j hlt'
      have HS : Hid (pre ws (j + 1) = T + (at0 ws j).toNat) := hide (by rw [pre_succ, unhide HT])
      obtain ⟨X, hX⟩ : ∃ X : Nat, at0 ws j = X := ⟨(at0 ws j).toNat, by omega⟩
      rw [hX] at c1 HS h1
      rw [Int.toNat_natCast] at HS
      have h20 : X ≤ 20 := by omega
      have hT2 : T + X ≤ 20 * (j + 1) := by omega
      clear hc hX hlt' h1 HT
      go_wp2
      go_roundw
      case rel => exact ⟨j + 1, T + X, by omega, by go_num, by go_num, HS, hT2, by first | trivial | rfl⟩
      case measure => simp [intOf]; omega
    · obtain rfl : j = N := by omega
      obtain rfl : T = Z := (unhide HT).symm.trans (unhide HZ)
      go_wp2
      go_ret2
      exact ⟨rfl, rfl⟩

end Go.Proofs.Ytephagojpnfhcaj.Wid

/-
  make of integers, up to all that memory bears: zeros of this call's own.
-/
namespace Go.Proofs.Ytephagojpnfhcaj
open Go.RowKit
open Go.Proofs.Ytephagojpnfhcaj.Tre
set_option linter.unusedVariables false

theorem wpList_mkL {ops : Array Oper} {rest : List Oper} {o : Oper} {a : Act} {Q : Exit → Act → World → Prop} (w : World) (hgd : o.guard = none) (s : Operand)
    (ho : o.op = .makeSlice 22 s s) (n : Nat) (hs : a.eval s = .int .i64 n) (hn : n ≤ 17592186044416)
    (h : ∀ w', Has w' w.heap.size (.slice (some ⟨w.heap.size, 0, none⟩) n n) (upto (fun _ => 0) n) → Below w.heap.size w w' → wpList Try.prog ops Q rest (a.put o.dst (.slice (some ⟨w.heap.size, 0, none⟩) n n)) w') :
    wpList Try.prog ops Q (o :: rest) a w := by
  obtain ⟨i0, hi, hz0, hz1, hz2⟩ := info_parts info_int
  refine wpList_make_full w hgd s s 22 ho w.heap.size 3 i0 (.int .i64 0) 1 Try.underlying22 hi hz0 hz1 _ _ _ _ n hs hs rfl rfl (by rw [hz2]; omega) (by unfold maxLen; omega) (Nat.le_refl _) ?_
  intro w2 hown hgrow
  rw [Nat.mul_one] at hown
  refine h w2 ?_ ((Below.refl _ _).grown hgrow (Nat.le_refl _) (by intro k hk; cases hk))
  unfold Has
  rw [upto_zeros, List.map_replicate, List.length_replicate, ← toList_madeCells_one]
  exact hown

end Go.Proofs.Ytephagojpnfhcaj
