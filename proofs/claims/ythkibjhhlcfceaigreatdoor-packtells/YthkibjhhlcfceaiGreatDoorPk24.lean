/-
  frame.PulsesFor, at gains that there are: by its contracts.
-/
import Derived.Test.YthkibjhhlcfceaiGreatDoorPk11
import Derived.Test.YthkibjhhlcfceaiGreatDoorPk18
import Derived.Test.YthkibjhhlcfceaiGreatDoorPk21
import Derived.Test.YthkibjhhlcfceaiGreatDoorPk23
import Derived.Test.YthkibjhhlcfceaiGreatDoorPk15
import Derived.Test.YthkibjhhlcfceaiGreatDoorPk00
import Derived.Deep.QuietTactic
import Derived.BigQuiet
namespace Go.Proofs.YthkibjhhlcfceaiGreatDoor.Frm
open Go.RowKit
open Go.Proofs.YthkibjhhlcfceaiGreatDoor.Tre Go.Proofs.YthkibjhhlcfceaiGreatDoor.Bnd Go.Proofs.YthkibjhhlcfceaiGreatDoor.Pls Go.Proofs.YthkibjhhlcfceaiGreatDoor.Gai Go.Proofs.YthkibjhhlcfceaiGreatDoor.Shr Go.Proofs.YthkibjhhlcfceaiGreatDoor.Lap Go.Proofs.YthkibjhhlcfceaiGreatDoor.Mid
set_option linter.unusedVariables false

/-- What pulsesFor tells. -/
def PfSays (ps : List Prt) (s : List Int) (B : Int) (w : World) (e : Ending) (w' : World) : Prop :=
  ((¬ (0 ≤ B ∧ B ≤ 400) ∧ e = .returned (.tuple #[.slice none 0 0, .iface 63 (.int .i64 1)])) ∨ ((0 ≤ B ∧ B ≤ 400) ∧ ∃ v, e = .returned (.tuple #[v, .nilIface]) ∧ Has w' w.heap.size v (given (gns ps) s B))) ∧ Below w.heap.size w w'

set_option maxRecDepth 100000 in
set_option maxHeartbeats 4000000 in
theorem pulsesFor (a : Option Addr) (cap : Nat) (ps : List Prt) (b : Option Addr) (capb : Nat) (s : List Int) (B : Int) (w : World) (hp : Pts w a ps) (hr : Row w b s) (h1 : Hid (bf s = 0)) (hl : ps.length = s.length) (hg : Hid (∀ i, i < ps.length → gok (prt ps i).1 = true)) :
    Calls Tryz.prog 29 #[.slice a ps.length cap, .slice b s.length capb, .int .i64 B] w fun e w' => PfSays ps s B w e w' := by
  obtain ⟨n0, n8, hsz, n32⟩ := bf_ok (unhide h1)
  have HLD := vals_lds (gs := gns ps) (fun i hi => by rw [gns_length] at hi; rw [gns_at hi]; exact unhide hg i hi)
  have HVL : Hid ((vals (gns ps)).length = s.length) := hide (by rw [vals_length, gns_length, hl])
  have COK := hide (fun W q c h1' h2 (h : 0 ≤ B ∧ B ≤ 400) => of_ok b capb s q c (vals (gns ps)) B W h1' h2 (hide (ofF_zero.2 ⟨unhide h1, unhide HVL, HLD, h.1, h.2⟩)))
  have HOF : Hid (¬ (0 ≤ B ∧ B ≤ 400) → ofF s (vals (gns ps)) B = 1) := hide (fun h => by
    unfold ofF
    rw [if_pos (unhide h1), if_pos (unhide HVL)]
    split
    · rfl
    · rw [if_pos (by omega)])
  have CNO := hide (fun W q c h1' h2 (h : ¬ (0 ≤ B ∧ B ≤ 400)) => of_no b capb s q c (vals (gns ps)) B 1 W h1' h2 (by omega) (by rw [unhide HVL]; omega) (hide (unhide HOF h)) (hide (by omega)))
  have HUP : Hid (upto (fun i => (vl (at0 (gns ps) i).toNat : Int)) s.length = vals (gns ps)) := hide (by rw [vals_upto (gns ps), gns_length, hl])
  have HVA : Hid (∀ k, k < s.length → (vl (at0 (gns ps) k).toNat : Int) = vlN (prt ps k).1) := hide (fun k hk => by
    rw [gns_at (by rw [hl]; exact hk), vlN_ok (unhide hg k (by rw [hl]; exact hk))])
  have PNO : Hid (¬ (0 ≤ B ∧ B ≤ 400) → ∀ w', Below w.heap.size w w' → PfSays ps s B w (.returned (.tuple #[.slice none 0 0, .iface 63 (.int .i64 1)])) w') := hide (fun h w' hb => ⟨Or.inl ⟨h, rfl⟩, hb⟩)
  have POK : Hid (0 ≤ B ∧ B ≤ 400 → ∀ v w', Has w' w.heap.size v (share s (vals (gns ps)) B) → Below w.heap.size w w' → PfSays ps s B w (.returned (.tuple #[v, .nilIface])) w') := hide (fun h v w' hv hb => ⟨Or.inr ⟨h, v, rfl, hv⟩, hb⟩)
  obtain ⟨ds, hds⟩ : ∃ ds, vals (gns ps) = ds := ⟨_, rfl⟩
  rw [hds] at HVL COK CNO HUP POK
  obtain ⟨f, hf⟩ : ∃ f : Nat → Int, (fun i => (vl (at0 (gns ps) i).toNat : Int)) = f := ⟨_, rfl⟩
  have HVF : Hid (∀ k, k < s.length → f k = vlN (prt ps k).1) := hide (fun k hk => by rw [← hf]; exact unhide HVA k hk)
  rw [hf] at HUP
  obtain ⟨N, hN⟩ : ∃ N, s.length = N := ⟨_, rfl⟩
  have HPN : Hid (ps.length = N) := hide (hl.trans hN)
  rw [hN] at COK CNO HVL HUP HVF n8 n0
  rw [hl, hN]
  have HOK : Hid (∀ k, k < N → gok (prt ps k).1 = true) := hide (fun k hk => unhide hg k (by rw [unhide HPN]; exact hk))
  clear hds hf HVA HOF HLD hsz n32 hN hl h1 hg
  go_enter Tryz.func29, Tryz.ntmps29
  go_wp2_with (at_make; refine wpList_mk _ rfl _ rfl N rfl (by omega) ?_; intro w2 k2 hb2)
  rw [← mid_zero f] at k2
  go_loopw [18] (fun i wr => ∃ k : Nat, k ≤ N ∧ i = .int .i64 k ∧ Has wr w.heap.size (.slice (some ⟨w.heap.size, 0, none⟩) N N) (mid f (fun _ => 0) N k) ∧ Below w.heap.size w wr) (fun i _ => N - (intOf i).toNat)
  case atStart => exact ⟨0, Nat.zero_le _, rfl, k2, hb2⟩
  case round =>
    obtain ⟨k, hk, rfl, hv, hB⟩ := hrel
    clear k2 hb2
    by_cases hlt : k < N
    · have hlt' : k < ps.length := by rw [unhide HPN]; exact hlt
      obtain ⟨b1, off1, rfl, hb1, hc1⟩ := (hp.below hB).at hlt'
      obtain ⟨x1, A, C, x2, x3, x4, x5, x6⟩ := hc1 k hlt'
      have CV := hide (fun W => valueOk (prt ps k).1 W (hide (unhide HOK k hlt)))
      have HF := hide (unhide HVF k hlt)
      obtain ⟨G, hG⟩ : ∃ G, (prt ps k).1 = G := ⟨_, rfl⟩
      rw [hG] at x1 CV HF
      obtain ⟨V, hV⟩ : ∃ V, vlN G = V := ⟨_, rfl⟩
      rw [hV] at CV HF
      obtain ⟨L, hL⟩ : ∃ L, (prt ps k).2.length = L := ⟨_, rfl⟩
      rw [hL] at x2
      clear hc1 hG hV hL hlt' x3 x4 x5 x6
      have hv2 := hv.alloc (.cells #[.int .i64 G, .slice A L C] 58)
      have hB2 := hB.alloc hB.size (.cells #[.int .i64 G, .slice A L C] 58)
      have c2 := hv2.get (j := k) (by rw [mid_length]; exact hlt)
      rw [mid_at _ _ hlt] at c2
      have f2 := hv2.frozen k
      obtain ⟨m1, m2⟩ := hv2.put k V
      have HS := mid_set f (fun _ => 0) hlt
      rw [unhide HF] at HS
      rw [HS] at m1
      have m4 := Below.setCell (p := ⟨w.heap.size, k, none⟩) hB2 (Nat.le_refl _) (.int .i64 V)
      have M1 := hide m1
      have M4 := hide m4
      clear hv hB HS m1 m2 m4 HF hv2 hB2
      go_wp2_with fail
      refine (unhide CV _).mono ?_
      rintro e w5 ⟨rfl, rfl⟩
      clear CV
      go_wp2
      go_roundw
      case rel => exact ⟨k + 1, by omega, by go_num, unhide M1, unhide M4⟩
      case measure => simp [intOf]; omega
    · obtain rfl : k = N := by omega
      rw [mid_all, unhide HUP] at hv
      obtain ⟨p, q, ee, hrow⟩ := hv.row
      obtain ⟨ea, eb, ec⟩ := Value.slice.inj ee
      subst ea ec
      by_cases h4 : 0 ≤ B ∧ B ≤ 400
      · have c := unhide COK wr _ k (hr.below hB) hrow h4
        have HP := hide (unhide POK h4)
        rw [unhide HVL] at c
        clear COK CNO PNO POK hv ee eb
        go_wp2_with fail
        refine c.mono ?_
        clear c
        rintro e w2 ⟨v2, rfl, k2, hb2⟩
        obtain ⟨p9, n9, q9, rfl⟩ := k2.shape
        go_wp2
        go_ret2
        exact unhide HP _ _ (k2.mono hB.size) (Below.chain hB hb2)
      · have c := unhide CNO wr _ k (hr.below hB) hrow h4
        have HP := hide (unhide PNO h4)
        rw [unhide HVL] at c
        clear COK CNO PNO POK hv ee eb h4
        go_wp2_with fail
        refine c.mono ?_
        clear c
        rintro e w2 ⟨rfl, hb2⟩
        go_wp2
        go_ret2
        exact unhide HP _ (Below.chain hB hb2)

end Go.Proofs.YthkibjhhlcfceaiGreatDoor.Frm

/-
  Whether any number of a row is beyond a bound, one by one.
-/
namespace Go.Proofs.YthkibjhhlcfceaiGreatDoor.Tre
open Go.RowKit
set_option linter.unusedVariables false

theorem any_of (c : Int) (l : List Int) (k : Nat) (hk : k < l.length) (h : out c l[k] = true) : l.any (out c) = true :=
  List.any_eq_true.2 ⟨l[k], List.getElem_mem hk, h⟩
theorem any_step (c : Int) (l : List Int) (k : Nat) (hk : k < l.length) (h0 : (l.take k).any (out c) = false) (h : out c l[k] = false) : (l.take (k + 1)).any (out c) = false := by
  rw [List.take_succ_eq_append_getElem hk, List.any_append, h0]
  simp [h]

end Go.Proofs.YthkibjhhlcfceaiGreatDoor.Tre

/-
  sound.Beyond and what asks it of each number: slices.ContainsFunc, at whatever bound.
-/
namespace Go.Proofs.YthkibjhhlcfceaiGreatDoor.Tre
open Go.RowKit
set_option linter.unusedVariables false

theorem beyond1 (c n : Int) (B : Nat) (w : World) (h0 : 0 ≤ c) (h9 : c ≤ 8000) (hc : w.cell? ⟨B, 0, none⟩ = some (.int .i64 c)) :
    Calls Tryz.prog 114 #[.int .i64 n, .pointer (some ⟨B, 0, none⟩)] w fun e w' => e = .returned (.bool (out c n)) ∧ w' = w := by
  by_cases h1 : n < -c
  · have h3 : decide (n < -c) = true := by simpa using h1
    go_enter Tryz.func114, Tryz.ntmps114
    go_wp2
    go_ret
    exact ⟨by simp [out, h3], rfl⟩
  · have h2 : decide (n < -c) = false := by simpa using h1
    go_enter Tryz.func114, Tryz.ntmps114
    go_wp2
    go_ret
    exact ⟨by simp [out, h2], rfl⟩

set_option maxHeartbeats 400000 in
theorem indexFunc (c : Int) (a : Option Addr) (cap : Nat) (l : List Int) (B : Nat) (w : World) (h0 : 0 ≤ c) (h9 : c ≤ 8000) (hl : l.length ≤ 9223372036854775807) (hr : Row w a l) (hc : w.cell? ⟨B, 0, none⟩ = some (.int .i64 c)) :
    Calls Tryz.prog 113 #[.slice a l.length cap, .func (.func 114) #[] #[.pointer (some ⟨B, 0, none⟩)]] w
      fun e w' => (∃ r : Int, e = .returned (.int .i64 r) ∧ (decide (0 ≤ r)) = l.any (out c)) ∧ w' = w := by
  go_enter Tryz.func113, Tryz.ntmps113
  go_wp2
  go_loop [8] (fun i => ∃ k : Nat, k ≤ l.length ∧ i = .int .i64 k ∧ (l.take k).any (out c) = false) (fun i => l.length - (intOf i).toNat)
  case atStart => exact ⟨0, Nat.zero_le _, rfl, by simp⟩
  case round =>
    obtain ⟨k, hk, rfl, hno⟩ := hrel
    have HNO : Hid ((l.take k).any (out c) = false) := hno
    clear hno
    by_cases hlt : k < l.length
    · obtain ⟨b, off, rfl, hb, hcs⟩ := hr.at hlt
      have hck := hcs k hlt
      clear hcs
      go_wp2_with (go_at_call 114; refine (beyond1 c _ _ _ h0 h9 hc).mono ?_; rintro e w' ⟨rfl, rfl⟩)
      · go_ret
        have hh : out c l[k] = true := by assumption
        exact ⟨⟨k, rfl, by rw [any_of c l k hlt hh]; simp⟩, rfl⟩
      · have hh : out c l[k] = false := by assumption
        go_round
        case rel => exact ⟨k + 1, by omega, by go_num, any_step c l k hlt HNO.out hh⟩
        case measure => simp [intOf]; omega
    · go_wp2
      go_ret
      have hh := HNO.out
      rw [List.take_of_length_le (by omega)] at hh
      exact ⟨⟨-1, rfl, by rw [hh]; rfl⟩, rfl⟩

theorem containsFunc (c : Int) (a : Option Addr) (cap : Nat) (l : List Int) (B : Nat) (w : World) (h0 : 0 ≤ c) (h9 : c ≤ 8000) (hl : l.length ≤ 9223372036854775807) (hr : Row w a l) (hc : w.cell? ⟨B, 0, none⟩ = some (.int .i64 c)) :
    Calls Tryz.prog 74 #[.slice a l.length cap, .func (.func 114) #[] #[.pointer (some ⟨B, 0, none⟩)]] w
      fun e w' => e = .returned (.bool (l.any (out c))) ∧ w' = w := by
  go_enter Tryz.func74, Tryz.ntmps74
  go_wp2_with fail
  refine (indexFunc c a cap l B w h0 h9 hl hr hc).mono ?_
  rintro e w' ⟨⟨r, rfl, hr2⟩, rfl⟩
  have HR := hide hr2
  clear hr2
  go_wp2
  go_ret
  exact ⟨by rw [← unhide HR]; rfl, rfl⟩

theorem boxed_cell (w : World) (c : Int) (t : TypeId) : (w.alloc (.cells #[.int .i64 c] t)).cell? ⟨w.heap.size, 0, none⟩ = some (.int .i64 c) := by
  rw [World.cell?_alloc_at _ _ _ _ rfl]; rfl

theorem beyond (c : Int) (w : World) : Calls Tryz.prog 77 #[.int .i64 c] w fun e w' => e = .returned (.func (.func 114) #[] #[.pointer (some ⟨w.heap.size, 0, none⟩)]) ∧ w' = w.alloc (.cells #[.int .i64 c] 3) := by
  have hmf : ∀ (fn : Fn) (first cap : Array Value) (w : World), (Instr.makeFunc fn first cap).run Tryz.prog w = .ok (.func fn first cap) w := fun _ _ _ _ => rfl
  go_enter Tryz.func77, Tryz.ntmps77
  go_wp2
  go_ret
  exact ⟨rfl, rfl⟩

end Go.Proofs.YthkibjhhlcfceaiGreatDoor.Tre
