/-
  The landed log's New: by its contract.
-/
import Derived.Test.YtjojeifoddonnakGreatLc17
import Derived.Test.YtjojeifoddonnakGreatLc27
import Derived.Test.YtjojeifoddonnakGreatLc24
import Derived.Test.YtjojeifoddonnakGreatLc03
namespace Go.Proofs.YtjojeifoddonnakGreat.Lg19
open Go.RowKit
open Go.Proofs.YtjojeifoddonnakGreat.Tre Go.Proofs.YtjojeifoddonnakGreat.Bnd Go.Proofs.YtjojeifoddonnakGreat.Frm Go.Proofs.YtjojeifoddonnakGreat.Pck Go.Proofs.YtjojeifoddonnakGreat.Hrn Go.Proofs.YtjojeifoddonnakGreat.Ev
set_option linter.unusedVariables false

theorem new_holds {w w1 : World} {v : Value} {s : List Int} {B : Int} (hv : Has w1 w.heap.size v s) (hb : Below w.heap.size w w1) (h0 : Hid18.newF s B = 0) :
    ∃ a cap, v = .slice a s.length cap ∧ LH s B (fun j => w.heap.size ≤ j ∧ j ≤ w1.heap.size) (w1.alloc (.cells #[.slice a s.length cap, .int .i64 B, .slice none 0 0, .int .i64 0, .int .i64 (-1), .bool false] 59)) w1.heap.size none0 := by
  obtain ⟨a, cap, rfl, z1, z2, z3, z4⟩ := rowN_of hv
  have hbA : Below w1.heap.size w1 (w1.alloc (.cells #[.slice a s.length cap, .int .i64 B, .slice none 0 0, .int .i64 0, .int .i64 (-1), .bool false] 59)) := (Below.refl _ _).alloc (Nat.le_refl _) _
  have hsz : (w1.alloc (.cells #[.slice a s.length cap, .int .i64 B, .slice none 0 0, .int .i64 0, .int .i64 (-1), .bool false] 59)).heap.size = w1.heap.size + 1 := by simp
  refine ⟨a, cap, rfl, a, cap, .slice none 0 0, [], -1, ⟨?_, ?_, HasY.nil _ _, fun k e => (by cases e), ⟨hb.size, Nat.le_refl _⟩, fun j hj => by rw [hsz]; omega⟩, inv_none0, h0, by omega⟩
  · unfold LogB World.alloc
    simp [none0]
  · exact (z4.rin.mono (fun j hj => ⟨⟨hj.1, Nat.le_of_lt hj.2⟩, by omega, fun e => (by cases e)⟩)).below hbA

set_option maxRecDepth 100000 in
set_option maxHeartbeats 8000000 in
theorem newLg (a : Option Addr) (cap : Nat) (s : List Int) (B : Int) (w : World) (hs : Row w a s) (zs : s.length ≤ 17592186044416) :
    Calls Tryz.prog 5 #[.slice a s.length cap, .int .i64 B] w fun e W' => ((Hid18.newF s B ≠ 0 ∧ e = .returned (.tuple #[.pointer none, errV (Hid18.newF s B)])) ∨
      (Hid18.newF s B = 0 ∧ ∃ b Q, e = .returned (.tuple #[.pointer (some ⟨b, 0, none⟩), .nilIface]) ∧ LH s B Q W' b none0 ∧ ∀ j, Q j → w.heap.size ≤ j)) ∧ Below w.heap.size w W' := by
  have CN := hide (Hid18.newB a cap s B w hs zs)
  by_cases h0 : Hid18.newF s B = 0
  · have h1 := (Hid18.newF_zero.1 h0).1
    obtain ⟨n0, n8, hsz, n32⟩ := bf_ok h1
    have HNH : Hid (∀ w1 v, Has w1 w.heap.size v s → Below w.heap.size w w1 → _) := hide (fun w1 v hv hb => new_holds (B := B) hv hb h0)
    obtain ⟨b0, off0, rfl, hb0, hc0⟩ := hs.at (k := 0) (by omega)
    have CCL := hide (fun W hr => clone b0 off0 cap s.length s W (hide rfl) (by omega) hr)
    rw [h0] at CN ⊢
    obtain ⟨N, hN⟩ : ∃ N, s.length = N := ⟨_, rfl⟩
    rw [hN] at CN CCL HNH ⊢
    clear hN h0 h1 zs hsz n8 n0 n32 hc0
    go_enter Tryz.func5, Tryz.ntmps5
    go_wp2_with fail
    refine (unhide CN).mono ?_
    rintro e w1 ⟨hsay, hb1⟩
    rcases hsay with ⟨hne, -⟩ | ⟨-, b1, rfl⟩
    · exact absurd rfl hne
    have hs1 := hs.below hb1
    have hsz1 := hb1.size
    clear CN hs
    go_wp2_with fail
    refine (unhide CCL w1 hs1).mono ?_
    clear CCL
    rintro e w2 ⟨v, rfl, hv, hb2⟩
    have hB2 := Below.chain hb1 hb2
    obtain ⟨a', cap', rfl, hLH⟩ := unhide HNH w2 v (hv.mono hsz1) hB2
    have HLH := hide hLH
    have hsz2 := hB2.size
    clear HNH hv hLH hb2
    go_wp2
    go_ret2
    exact ⟨Or.inr ⟨by first | trivial | rfl, _, _, rfl, unhide HLH, fun j hj => hj.1⟩, hB2.alloc hsz2 _⟩
  · have HF := hide h0
    obtain ⟨F, hF⟩ : ∃ F, Hid18.newF s B = F := ⟨_, rfl⟩
    obtain ⟨N, hN⟩ : ∃ N, s.length = N := ⟨_, rfl⟩
    rw [hF] at CN HF ⊢
    rw [hF] at h0
    rw [errV_ne h0] at CN ⊢
    rw [hN] at CN ⊢
    clear hF hN h0 zs hs
    go_enter Tryz.func5, Tryz.ntmps5
    go_wp2_with fail
    refine (unhide CN).mono ?_
    rintro e w1 ⟨hsay, hb1⟩
    rcases hsay with ⟨-, rfl⟩ | ⟨hne, -⟩
    · clear CN
      go_wp2
      go_ret2
      exact ⟨Or.inl ⟨unhide HF, rfl⟩, hb1⟩
    · exact absurd hne (unhide HF)

end Go.Proofs.YtjojeifoddonnakGreat.Lg19

/-
  The landed player: New, by its contract.
-/
namespace Go.Proofs.YtjojeifoddonnakGreat.Hid18
open Go.RowKit
open Go.Proofs.YtjojeifoddonnakGreat.Tre Go.Proofs.YtjojeifoddonnakGreat.Bnd Go.Proofs.YtjojeifoddonnakGreat.Frm Go.Proofs.YtjojeifoddonnakGreat.Pck Go.Proofs.YtjojeifoddonnakGreat.Hrn Go.Proofs.YtjojeifoddonnakGreat.Ev
set_option linter.unusedVariables false

section
variable {s : List Int} {B : Int} {Q Q' R : Nat → Prop} {W W' : World} {b : Nat} {last ps : List Prt} {k : Int} {a : Option Addr} {cap : Nat} {p p1 : Option Addr} {q q1 : Nat}
theorem HidL.below (h : HidL s B Q W b last k a cap p q) (hb : Below W.heap.size W W') : HidL s B Q W' b last k a cap p q := h.kept hb.size (fun j hj => hb.block j (h.old j hj))
theorem HidL.lost (h : HidL s B Q W b last k a cap p q) (x : Int) : HidL s B Q (W.setCell ⟨b, 4, none⟩ (.int .i64 x)) b last x a cap p q := by
  have g := But.set (b := b) (j := 4) W (.int .i64 x)
  have hk : ∀ j, (Q j ∧ j ≠ b) → j < W.heap.size → (W.setCell ⟨b, 4, none⟩ (.int .i64 x)).heap[j]? = W.heap[j]? := fun j hj hz => g.block j hz (fun e => hj.2 (Option.some.inj e))
  exact ⟨h.ply.lost x, h.siz.kept g.size hk, h.pts.kept g.size hk, h.own, fun j hj => Nat.lt_of_lt_of_le (h.old j hj) g.size, h.fine⟩
theorem HidL.lasts (h : HidL s B Q W b last k a cap p q) (hp : PtsIn R W p1 ps) (hR : ∀ j, R j → Q' j ∧ j ≠ b) (hQ : ∀ j, Q j → Q' j) (hold : ∀ j, Q' j → j < W.heap.size) (hw : Was s ps ∧ Gs ps) : HidL s B Q' (W.setCell ⟨b, 3, none⟩ (.slice p1 ps.length q1)) b ps k a cap p1 q1 := by
  have g := But.set (b := b) (j := 3) W (.slice p1 ps.length q1)
  have hk : ∀ j, (Q' j ∧ j ≠ b) → j < W.heap.size → (W.setCell ⟨b, 3, none⟩ (.slice p1 ps.length q1)).heap[j]? = W.heap[j]? := fun j hj hz => g.block j hz (fun e => hj.2 (Option.some.inj e))
  exact ⟨h.ply.last _, (h.siz.mono (fun j hj => ⟨hQ j hj.1, hj.2⟩)).kept g.size hk, (hp.mono hR).kept g.size hk, hQ b h.own, fun j hj => Nat.lt_of_lt_of_le (hold j hj) g.size, h.fine.1, hw⟩
theorem Gs.soft (h : Gs last) : Gs (soft last) := fun i hi => by
  rw [soft_length] at hi
  rw [soft_at hi]
  have h1 := h i hi
  have h2 := softG_in h1.2
  show 0 ≤ softG (prt last i).1 ∧ softG (prt last i).1 ≤ 53
  omega
theorem RowN.kb {n : Nat} {a : Option Addr} {l : List Int} (h : RowN n W a l) (hg : But b W W') (hb : b < n) : RowN n W' a l := h.but hg hb
end
theorem new_holds {w w1 : World} {v : Value} {s : List Int} {B : Int} (hv : Has w1 w.heap.size v s) (hb : Below w.heap.size w w1) (h0 : newF s B = 0) (t : Nat) (ht : total s = t) :
    ∃ a cap, v = .slice a s.length cap ∧ PH s B (fun j => w.heap.size ≤ j ∧ j ≤ w1.heap.size) (w1.alloc (.cells #[.slice a s.length cap, .int .i64 B, .int .i64 (t : Int), .slice none 0 0, .int .i64 0] 62)) w1.heap.size [] 0 := by
  obtain ⟨a, cap, rfl, z1, z2, z3, z4⟩ := rowN_of hv
  have hbA : Below w1.heap.size w1 (w1.alloc (.cells #[.slice a s.length cap, .int .i64 B, .int .i64 (t : Int), .slice none 0 0, .int .i64 0] 62)) := (Below.refl _ _).alloc (Nat.le_refl _) _
  have hsz : (w1.alloc (.cells #[.slice a s.length cap, .int .i64 B, .int .i64 (t : Int), .slice none 0 0, .int .i64 0] 62)).heap.size = w1.heap.size + 1 := by simp
  refine ⟨a, cap, rfl, a, cap, none, 0, ?_, ?_, Or.inl rfl, ⟨hb.size, Nat.le_refl _⟩, fun j hj => by rw [hsz]; omega, h0, Or.inl rfl, fun i hi => by simp at hi⟩
  · unfold PlyL World.alloc
    rw [ht]
    simp
  · exact (z4.rin.mono (fun j hj => ⟨⟨hj.1, Nat.le_of_lt hj.2⟩, by omega⟩)).below hbA

set_option maxRecDepth 100000 in
set_option maxHeartbeats 8000000 in
theorem newL (a : Option Addr) (cap : Nat) (s : List Int) (B : Int) (w : World) (hs : Row w a s) (zs : s.length ≤ 17592186044416) :
    Calls Tryz.prog 6 #[.slice a s.length cap, .int .i64 B] w fun e W' => ((newF s B ≠ 0 ∧ e = .returned (.tuple #[.pointer none, errV (newF s B)])) ∨
      (newF s B = 0 ∧ ∃ b Q, e = .returned (.tuple #[.pointer (some ⟨b, 0, none⟩), .nilIface]) ∧ PH s B Q W' b [] 0 ∧ ∀ j, Q j → w.heap.size ≤ j)) ∧ Below w.heap.size w W' := by
  by_cases h1 : bf s = 0
  · have CB := hide (check_ok a cap s w (by omega) hs (hide h1))
    obtain ⟨n0, n8, hsz, n32⟩ := bf_ok h1
    have e1 : newF s B = if B < 0 ∨ 400 < B then 1 else if total s % 2 = 0 then 0 else 3 := by unfold newF; rw [if_pos h1]
    have HNH : Hid (newF s B = 0 → ∀ w1 v, Has w1 w.heap.size v s → Below w.heap.size w w1 → _) := hide (fun h0 w1 v hv hb => new_holds (B := B) hv hb h0 (total s) rfl)
    obtain ⟨b0, off0, rfl, hb0, hc0⟩ := hs.at (k := 0) (by omega)
    have CCL := hide (fun W hr => clone b0 off0 cap s.length s W (hide rfl) (by omega) hr)
    obtain ⟨NF, hNF⟩ : ∃ NF, newF s B = NF := ⟨_, rfl⟩
    rw [hNF] at e1 HNH ⊢
    obtain ⟨TT, hTT⟩ : ∃ TT, total s = TT := ⟨_, rfl⟩
    obtain ⟨N, hN⟩ : ∃ N, s.length = N := ⟨_, rfl⟩
    rw [hTT] at n32 CB e1 HNH
    rw [hN] at CB CCL HNH ⊢
    have hmod : Int.tmod (TT : Int) 2 = ((TT % 2 : Nat) : Int) := rfl
    clear hTT hN h1 zs hsz n8 n0 hc0 hNF
    by_cases hB0 : B < 0
    · have d1 : decide (B < 0) = true := decide_eq_true hB0
      rw [if_pos (Or.inl hB0)] at e1
      subst e1
      rw [errV_ne (by omega)]
      clear HNH CCL
      go_enter Tryz.func6, Tryz.ntmps6
      go_wp2_with fail
      refine (unhide CB).mono ?_
      rintro e w1 ⟨rfl, hw1⟩
      obtain rfl : w = w1 := hw1.symm
      go_wp2
      go_ret2
      exact ⟨Or.inl ⟨by omega, rfl⟩, Below.refl _ _⟩
    · have d1 : decide (B < 0) = false := decide_eq_false hB0
      by_cases hB4 : 400 < B
      · have d2 : decide (400 < B) = true := decide_eq_true hB4
        rw [if_pos (Or.inr hB4)] at e1
        subst e1
        rw [errV_ne (by omega)]
        clear HNH CCL
        go_enter Tryz.func6, Tryz.ntmps6
        go_wp2_with fail
        refine (unhide CB).mono ?_
        rintro e w1 ⟨rfl, hw1⟩
        obtain rfl : w = w1 := hw1.symm
        go_wp2
        go_ret2
        exact ⟨Or.inl ⟨by omega, rfl⟩, Below.refl _ _⟩
      · have d2 : decide (400 < B) = false := decide_eq_false hB4
        rw [if_neg (by omega)] at e1
        by_cases hT : TT % 2 = 0
        · rw [if_pos hT] at e1
          rw [hT] at hmod
          subst e1
          have HN0 := hide (unhide HNH rfl)
          clear hT HNH
          go_enter Tryz.func6, Tryz.ntmps6
          go_wp2_with fail
          refine (unhide CB).mono ?_
          rintro e w1 ⟨rfl, hw1⟩
          obtain rfl : w = w1 := hw1.symm
          clear CB
          go_wp2_with fail
          refine (unhide CCL w hs).mono ?_
          clear CCL
          rintro e w2 ⟨v, rfl, hv, hb2⟩
          obtain ⟨a', cap', rfl, hPH⟩ := unhide HN0 w2 v hv hb2
          have HPH := hide hPH
          have hsz2 := hb2.size
          clear HN0 hv hPH
          go_wp2
          go_ret2
          exact ⟨Or.inr ⟨by first | trivial | rfl, _, _, rfl, unhide HPH, fun j hj => hj.1⟩, hb2.alloc hsz2 _⟩
        · rw [if_neg hT] at e1
          have h1 : TT % 2 = 1 := by omega
          rw [h1] at hmod
          subst e1
          rw [errV_ne (by omega)]
          clear hT h1 HNH CCL
          go_enter Tryz.func6, Tryz.ntmps6
          go_wp2_with fail
          refine (unhide CB).mono ?_
          rintro e w1 ⟨rfl, hw1⟩
          obtain rfl : w = w1 := hw1.symm
          go_wp2
          go_ret2
          exact ⟨Or.inl ⟨by omega, rfl⟩, Below.refl _ _⟩
  · have CB := hide (check_no a cap s w (by omega) hs (hide h1))
    have e1 : newF s B = bf s := by unfold newF; rw [if_neg h1]
    rw [e1]
    obtain ⟨F, hF⟩ : ∃ F, bf s = F := ⟨_, rfl⟩
    obtain ⟨N, hN⟩ : ∃ N, s.length = N := ⟨_, rfl⟩
    rw [hF] at h1 CB
    rw [hN] at CB
    rw [hF, hN, errV_ne h1]
    have HF := hide h1
    clear hF hN h1 e1 zs
    go_enter Tryz.func6, Tryz.ntmps6
    go_wp2_with fail
    refine (unhide CB).mono ?_
    rintro e w1 ⟨rfl, hw1⟩
    obtain rfl : w = w1 := hw1.symm
    go_wp2
    go_ret2
    exact ⟨Or.inl ⟨unhide HF, rfl⟩, Below.refl _ _⟩

end Go.Proofs.YtjojeifoddonnakGreat.Hid18
