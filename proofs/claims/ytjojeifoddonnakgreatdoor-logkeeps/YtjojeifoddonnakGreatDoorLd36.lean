/-
  The landed log's New: by its contract.
-/
import Derived.Test.YtjojeifoddonnakGreatDoorLd34
import Derived.Test.YtjojeifoddonnakGreatDoorLd35
namespace Go.Proofs.YtjojeifoddonnakGreatDoor.Lg19
open Go.RowKit
open Go.Proofs.YtjojeifoddonnakGreatDoor.Tre Go.Proofs.YtjojeifoddonnakGreatDoor.Bnd Go.Proofs.YtjojeifoddonnakGreatDoor.Frm Go.Proofs.YtjojeifoddonnakGreatDoor.Pck Go.Proofs.YtjojeifoddonnakGreatDoor.Hrn Go.Proofs.YtjojeifoddonnakGreatDoor.Ev
set_option linter.unusedVariables false

theorem new_holds {w w1 : World} {v : Value} {s : List Int} {B : Int} (hv : Has w1 w.heap.size v s) (hb : Below w.heap.size w w1) (h0 : Hid18.newF s B = 0) :
    ∃ a cap, v = .slice a s.length cap ∧ LH s B (fun j => w.heap.size ≤ j ∧ j ≤ w1.heap.size) (w1.alloc (.cells #[.slice a s.length cap, .int .i64 B, .slice none 0 0, .int .i64 0, .int .i64 (-1), .bool false] 47)) w1.heap.size none0 := by
  obtain ⟨a, cap, rfl, z1, z2, z3, z4⟩ := rowN_of hv
  have hbA : Below w1.heap.size w1 (w1.alloc (.cells #[.slice a s.length cap, .int .i64 B, .slice none 0 0, .int .i64 0, .int .i64 (-1), .bool false] 47)) := (Below.refl _ _).alloc (Nat.le_refl _) _
  have hsz : (w1.alloc (.cells #[.slice a s.length cap, .int .i64 B, .slice none 0 0, .int .i64 0, .int .i64 (-1), .bool false] 47)).heap.size = w1.heap.size + 1 := by simp
  refine ⟨a, cap, rfl, a, cap, .slice none 0 0, [], -1, ⟨?_, ?_, HasY.nil _ _, fun k e => (by cases e), ⟨hb.size, Nat.le_refl _⟩, fun j hj => by rw [hsz]; omega⟩, inv_none0, h0, by omega⟩
  · unfold LogB World.alloc
    simp [none0]
  · exact (z4.rin.mono (fun j hj => ⟨⟨hj.1, Nat.le_of_lt hj.2⟩, by omega, fun e => (by cases e)⟩)).below hbA

set_option maxRecDepth 100000 in
set_option maxHeartbeats 8000000 in
theorem newLg (a : Option Addr) (cap : Nat) (s : List Int) (B : Int) (w : World) (hs : Row w a s) (zs : s.length ≤ 17592186044416) :
    Calls Tryz.prog 4 #[.slice a s.length cap, .int .i64 B] w fun e W' => ((Hid18.newF s B ≠ 0 ∧ e = .returned (.tuple #[.pointer none, errV (Hid18.newF s B)])) ∨
      (Hid18.newF s B = 0 ∧ ∃ b Q, e = .returned (.tuple #[.pointer (some ⟨b, 0, none⟩), .nilIface]) ∧ LH s B Q W' b none0 ∧ ∀ j, Q j → w.heap.size ≤ j)) ∧ Below w.heap.size w W' := by
  have CN := hide (Hid18.newB a cap s B w hs zs)
  by_cases h0 : Hid18.newF s B = 0
  · have h1 := (Hid18.newF_zero.1 h0).1
    obtain ⟨n0, n8, hsz, n32⟩ := bf_ok h1
    have HNH : Hid (∀ w1 v, Has w1 w.heap.size v s → Below w.heap.size w w1 → _) := hide (fun w1 v hv hb => new_holds (B := B) hv hb h0)
    obtain ⟨b0, off0, rfl, hb0, hc0⟩ := hs.at (k := 0) (by omega)
    have CCL := hide (fun W hr => clone b0 off0 cap s.length s W (hide rfl) (by omega) hr)
    rw [h0] at CN ⊢
    obtain ⟨N, hN⟩ : ∃ N, s.length = N := ⟨_, rfl⟩
    rw [hN] at CN CCL HNH ⊢
    clear hN h0 h1 zs hsz n8 n0 n32 hc0
    go_enter Tryz.func4, Tryz.ntmps4
    go_wp2_with fail
    refine (unhide CN).mono ?_
    rintro e w1 ⟨hsay, hb1⟩
    rcases hsay with ⟨hne, -⟩ | ⟨-, b1, rfl⟩
    · exact absurd rfl hne
    have hs1 := hs.below hb1
    have hsz1 := hb1.size
    clear CN hs
    go_wp2_with fail
    refine (unhide CCL w1 hs1).mono ?_
    clear CCL
    rintro e w2 ⟨v, rfl, hv, hb2⟩
    have hB2 := Below.chain hb1 hb2
    obtain ⟨a', cap', rfl, hLH⟩ := unhide HNH w2 v (hv.mono hsz1) hB2
    have HLH := hide hLH
    have hsz2 := hB2.size
    clear HNH hv hLH hb2
    go_wp2
    go_ret2
    exact ⟨Or.inr ⟨by first | trivial | rfl, _, _, rfl, unhide HLH, fun j hj => hj.1⟩, hB2.alloc hsz2 _⟩
  · have HF := hide h0
    obtain ⟨F, hF⟩ : ∃ F, Hid18.newF s B = F := ⟨_, rfl⟩
    obtain ⟨N, hN⟩ : ∃ N, s.length = N := ⟨_, rfl⟩
    rw [hF] at CN HF ⊢
    rw [hF] at h0
    rw [errV_ne h0] at CN ⊢
    rw [hN] at CN ⊢
    clear hF hN h0 zs hs
    go_enter Tryz.func4, Tryz.ntmps4
    go_wp2_with fail
    refine (unhide CN).mono ?_
    rintro e w1 ⟨hsay, hb1⟩
    rcases hsay with ⟨-, rfl⟩ | ⟨hne, -⟩
    · clear CN
      go_wp2
      go_ret2
      exact ⟨Or.inl ⟨unhide HF, rfl⟩, hb1⟩
    · exact absurd hne (unhide HF)

end Go.Proofs.YtjojeifoddonnakGreatDoor.Lg19
