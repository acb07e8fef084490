/-
  share.outside, share.check: by their contracts.
-/
import Derived.Test.YtjnmogmagngenaiDoorShareMath
import Derived.Test.YtjnmogmagngenaiDoorBandCheck
import Derived.Test.YtjnmogmagngenaiDoorErrV
namespace Go.Proofs.YtjnmogmagngenaiDoor.Shr
open Go.RowKit
open Go.Proofs.YtjnmogmagngenaiDoor.Tre Go.Proofs.YtjnmogmagngenaiDoor.Cnt Go.Proofs.YtjnmogmagngenaiDoor.Bnd
set_option linter.unusedVariables false

/-- A number is not from 0 to m. -/
def outs (m n : Int) : Bool := decide (n < 0) || decide (m < n)
theorem any_of (c : Int) (l : List Int) (k : Nat) (hk : k < l.length) (h : outs c l[k] = true) : l.any (outs c) = true :=
  List.any_eq_true.2 ⟨l[k], List.getElem_mem hk, h⟩
theorem any_step (c : Int) (l : List Int) (k : Nat) (hk : k < l.length) (h0 : (l.take k).any (outs c) = false) (h : outs c l[k] = false) : (l.take (k + 1)).any (outs c) = false := by
  rw [List.take_succ_eq_append_getElem hk, List.any_append, h0]
  simp [h]

theorem outside1 (c n : Int) (B : Nat) (w : World) (hc : w.cell? ⟨B, 0, none⟩ = some (.int .i64 c)) :
    Calls Tryd.prog 65 #[.int .i64 n, .pointer (some ⟨B, 0, none⟩)] w fun e w' => e = .returned (.bool (outs c n)) ∧ w' = w := by
  by_cases h1 : n < 0
  · have h3 : decide (n < 0) = true := by simpa using h1
    go_enter Tryd.func65, Tryd.ntmps65
    go_wp2
    go_ret
    exact ⟨by simp [outs, h3], rfl⟩
  · have h2 : decide (n < 0) = false := by simpa using h1
    go_enter Tryd.func65, Tryd.ntmps65
    go_wp2
    go_ret
    exact ⟨by simp [outs, h2], rfl⟩

set_option maxHeartbeats 400000 in
theorem indexFunc (c : Int) (a : Option Addr) (cap : Nat) (l : List Int) (B : Nat) (w : World) (hl : l.length ≤ 9223372036854775807) (hr : Row w a l) (hc : w.cell? ⟨B, 0, none⟩ = some (.int .i64 c)) :
    Calls Tryd.prog 47 #[.slice a l.length cap, .func (.func 65) #[] #[.pointer (some ⟨B, 0, none⟩)]] w
      fun e w' => (∃ r : Int, e = .returned (.int .i64 r) ∧ (decide (0 ≤ r)) = l.any (outs c)) ∧ w' = w := by
  go_enter Tryd.func47, Tryd.ntmps47
  go_wp2
  go_loop [8] (fun i => ∃ k : Nat, k ≤ l.length ∧ i = .int .i64 k ∧ (l.take k).any (outs c) = false) (fun i => l.length - (intOf i).toNat)
  case atStart => exact ⟨0, Nat.zero_le _, rfl, by simp⟩
  case round =>
    obtain ⟨k, hk, rfl, hno⟩ := hrel
    have HNO : Hid ((l.take k).any (outs c) = false) := hno
    clear hno
    by_cases hlt : k < l.length
    · obtain ⟨b, off, rfl, hb, hcs⟩ := hr.at hlt
      have hck := hcs k hlt
      clear hcs
      go_wp2_with (go_at_call 65; refine (outside1 c _ _ _ hc).mono ?_; rintro e w' ⟨rfl, rfl⟩)
      · go_ret
        have hh : outs c l[k] = true := by assumption
        exact ⟨⟨k, rfl, by rw [any_of c l k hlt hh]; simp⟩, rfl⟩
      · have hh : outs c l[k] = false := by assumption
        go_round
        case rel => exact ⟨k + 1, by omega, by go_num, any_step c l k hlt HNO.out hh⟩
        case measure => simp [intOf]; omega
    · go_wp2
      go_ret
      have hh := HNO.out
      rw [List.take_of_length_le (by omega)] at hh
      exact ⟨⟨-1, rfl, by rw [hh]; rfl⟩, rfl⟩

theorem containsFunc (c : Int) (a : Option Addr) (cap : Nat) (l : List Int) (B : Nat) (w : World) (hl : l.length ≤ 9223372036854775807) (hr : Row w a l) (hc : w.cell? ⟨B, 0, none⟩ = some (.int .i64 c)) :
    Calls Tryd.prog 24 #[.slice a l.length cap, .func (.func 65) #[] #[.pointer (some ⟨B, 0, none⟩)]] w
      fun e w' => e = .returned (.bool (l.any (outs c))) ∧ w' = w := by
  go_enter Tryd.func24, Tryd.ntmps24
  go_wp2_with fail
  refine (indexFunc c a cap l B w hl hr hc).mono ?_
  rintro e w' ⟨⟨r, rfl, hr2⟩, rfl⟩
  have HR := hide hr2
  clear hr2
  go_wp2
  go_ret
  exact ⟨by rw [← unhide HR]; rfl, rfl⟩

theorem boxed_cell (w : World) (c : Int) (t : TypeId) : (w.alloc (.cells #[.int .i64 c] t)).cell? ⟨w.heap.size, 0, none⟩ = some (.int .i64 c) := by
  rw [World.cell?_alloc_at _ _ _ _ rfl]; rfl
theorem below_box (w : World) (v : Value) (t : TypeId) : Below w.heap.size w (w.alloc (.cells #[v] t)) := (Below.refl _ _).alloc (Nat.le_refl _) _

theorem outside (c : Int) (w : World) : Calls Tryd.prog 49 #[.int .i64 c] w fun e w' => ∃ B : Nat, e = .returned (.func (.func 65) #[] #[.pointer (some ⟨B, 0, none⟩)]) ∧ w'.cell? ⟨B, 0, none⟩ = some (.int .i64 c) ∧ Below w.heap.size w w' := by
  have hmf : ∀ (fn : Fn) (first cap : Array Value) (w : World), (Instr.makeFunc fn first cap).run Tryd.prog w = .ok (.func fn first cap) w := fun _ _ _ _ => rfl
  go_enter Tryd.func49, Tryd.ntmps49
  go_wp2
  go_ret
  exact ⟨_, rfl, boxed_cell _ _ _, below_box _ _ _⟩

/-- The fault of sizes, and of numbers that bands have. -/
def chkF (s p : List Int) (m : Int) : Int := if bf s = 0 then (if p.length = s.length then (if p.any (outs m) = true then 1 else 0) else 3) else bf s
theorem costF_chk (s p : List Int) : costF s p = chkF s p 8 := rfl
theorem ofF_chk (s d : List Int) (B : Int) : ofF s d B = if chkF s d 8000 = 0 then (if outs 400 B = true then 1 else 0) else chkF s d 8000 := by
  have e : (lou : Int → Bool) = outs 8000 := rfl
  have e2 : (outs 400 B = true) ↔ (B < 0 ∨ 400 < B) := by simp [outs]
  unfold ofF chkF
  rw [e]
  by_cases h1 : bf s = 0
  · rw [if_pos h1, if_pos h1]
    by_cases h2 : d.length = s.length
    · rw [if_pos h2, if_pos h2]
      by_cases h3 : d.any (outs 8000) = true
      · rw [if_pos h3, if_pos h3, if_neg (by omega)]
      · rw [if_neg h3, if_neg h3, if_pos rfl]
        by_cases h4 : B < 0 ∨ 400 < B
        · rw [if_pos h4, if_pos (e2.2 h4)]
        · rw [if_neg h4, if_neg (mt e2.1 h4)]
    · rw [if_neg h2, if_neg h2, if_neg (by omega)]
  · rw [if_neg h1, if_neg h1, if_neg h1]

set_option maxHeartbeats 1000000 in
theorem check (a : Option Addr) (cap : Nat) (s : List Int) (b : Option Addr) (capb : Nat) (p : List Int) (m : Int) (w : World) (zs : s.length ≤ 9223372036854775807) (zp : p.length ≤ 9223372036854775807) (hr : Row w a s) (hp : Row w b p) :
    Calls Tryd.prog 27 #[.slice a s.length cap, .slice b p.length capb, .int .i64 m] w fun e w' => e = .returned (Ev.errV (chkF s p m)) ∧ Below w.heap.size w w' := by
  have HF : Hid (chkF s p m = if bf s = 0 then (if p.length = s.length then (if p.any (outs m) = true then 1 else 0) else 3) else bf s) := hide rfl
  obtain ⟨F, hF⟩ : ∃ F, chkF s p m = F := ⟨_, rfl⟩
  rw [hF] at HF ⊢
  clear hF
  by_cases h1 : bf s = 0
  · have hk := check_ok a cap s w zs hr h1
    have HF1 := unhide HF
    rw [if_pos h1] at HF1
    have HF2 := hide HF1
    obtain ⟨T, hT⟩ : ∃ T, (total s : Int) = T := ⟨_, rfl⟩
    rw [hT] at hk
    have hcf := hide (fun B W h1 h2 => containsFunc m b capb p B W zp h1 h2)
    obtain ⟨N, hN⟩ : ∃ N, s.length = N := ⟨_, rfl⟩
    obtain ⟨M, hM⟩ : ∃ M, p.length = M := ⟨_, rfl⟩
    rw [hN] at hk zs HF2 ⊢
    rw [hM] at hcf zp HF2 ⊢
    clear hT HF HF1 h1 hN hM hr
    by_cases h2 : M = N
    · have hne : ((M : Int) != (N : Int)) = false := by simp [h2]
      have HF3 := unhide HF2
      rw [if_pos h2] at HF3
      have HF4 := hide HF3
      have HP := hide hp
      clear HF2 HF3 h2 hp
      go_enter Tryd.func27, Tryd.ntmps27
      go_wp2_with fail
      refine hk.mono ?_
      clear hk
      rintro e w1 ⟨rfl, rfl⟩
      go_wp2_with fail
      refine (outside m _).mono ?_
      rintro e w2 ⟨B, rfl, hc2, hb2⟩
      go_wp2_with fail
      refine (unhide hcf B w2 ((unhide HP).below hb2) hc2).mono ?_
      rintro e w3 ⟨rfl, rfl⟩
      cases hT : p.any (outs m)
      · have e0 : F = 0 := by rw [unhide HF4, hT]; rfl
        subst e0
        clear HF4 hT
        go_wp2
        go_ret
        exact ⟨rfl, hb2⟩
      · have e0 : F = 1 := by rw [unhide HF4, hT]; rfl
        subst e0
        clear HF4 hT
        go_wp2
        go_ret
        exact ⟨rfl, hb2⟩
    · have hne : ((M : Int) != (N : Int)) = true := by simp; omega
      have HF3 := unhide HF2
      rw [if_neg h2] at HF3
      subst HF3
      clear HF2 h2 hcf hp
      go_enter Tryd.func27, Tryd.ntmps27
      go_wp2_with fail
      refine hk.mono ?_
      clear hk
      rintro e w1 ⟨rfl, rfl⟩
      go_wp2
      go_ret
      exact ⟨rfl, Below.refl _ _⟩
  · have hk := check_no a cap s w zs hr h1
    have e0 := unhide HF
    rw [if_neg h1] at e0
    rw [← e0] at hk h1
    have HE := hide (Ev.errV_ne h1)
    obtain ⟨N, hN⟩ : ∃ N, s.length = N := ⟨_, rfl⟩
    obtain ⟨M, hM⟩ : ∃ M, p.length = M := ⟨_, rfl⟩
    rw [hN] at hk ⊢
    rw [hM]
    clear hN hM zs zp hr hp HF e0 h1
    go_enter Tryd.func27, Tryd.ntmps27
    go_wp2_with fail
    refine hk.mono ?_
    clear hk
    rintro e w1 ⟨rfl, rfl⟩
    go_wp2
    go_ret
    exact ⟨by rw [unhide HE]; rfl, Below.refl _ _⟩

end Go.Proofs.YtjnmogmagngenaiDoor.Shr
