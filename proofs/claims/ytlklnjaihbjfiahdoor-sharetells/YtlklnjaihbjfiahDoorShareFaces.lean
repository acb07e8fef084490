/-
  share.Left: by its contract; with SharePrice and ShareOf the faces of package share.
-/
import Derived.Test.YtlklnjaihbjfiahDoorShareOf
namespace Go.Proofs.YtlklnjaihbjfiahDoor.Shr
open Go.RowKit
open Go.Proofs.YtlklnjaihbjfiahDoor.Tre Go.Proofs.YtlklnjaihbjfiahDoor.Cnt Go.Proofs.YtlklnjaihbjfiahDoor.Bnd
set_option linter.unusedVariables false

theorem left_no (a : Option Addr) (cap : Nat) (s : List Int) (b : Option Addr) (capb : Nat) (d : List Int) (B E : Int) (w : World) (hr : Row w a s) (hd : Row w b d) (zs : s.length ≤ 17592186044416) (zd : d.length ≤ 17592186044416) (hE : Hid (ofF s d B = E)) (hne : Hid (E ≠ 0)) :
    Calls Tryd.prog 11 #[.slice a s.length cap, .slice b d.length capb, .int .i64 B] w fun e w' => e = .returned (.tuple #[.int .i64 0, .iface 41 (.int .i64 E)]) ∧ Below w.heap.size w w' := by
  have hk := of_no a cap s b capb d B E w hr hd zs zd hE hne
  obtain ⟨N, hN⟩ : ∃ N, s.length = N := ⟨_, rfl⟩
  obtain ⟨M, hM⟩ : ∃ M, d.length = M := ⟨_, rfl⟩
  rw [hN, hM] at hk ⊢
  clear hN hM zs zd hr hd
  go_enter Tryd.func11, Tryd.ntmps11
  go_wp2_with fail
  refine hk.mono ?_
  clear hk
  rintro e w1 ⟨rfl, hb1⟩
  go_wp2
  go_ret2
  exact ⟨rfl, hb1⟩

theorem left_ok (a : Option Addr) (cap : Nat) (s : List Int) (b : Option Addr) (capb : Nat) (d : List Int) (B : Int) (w : World) (hr : Row w a s) (hd : Row w b d) (hE : Hid (ofF s d B = 0)) :
    Calls Tryd.prog 11 #[.slice a s.length cap, .slice b d.length capb, .int .i64 B] w fun e w' => e = .returned (.tuple #[.int .i64 (B - (cost s (share s d B) : Int)), .nilIface]) ∧ Below w.heap.size w w' := by
  obtain ⟨h1, h2, h3, hB0, hB4⟩ := ofF_zero.1 (unhide hE)
  obtain ⟨h0, h8, hs, _⟩ := bf_ok h1
  obtain ⟨hI, _⟩ := share_is (d := d) hs h8 hB0
  have HCF : Hid (costF s (share s d B) = 0) := hide (costF_zero.2 ⟨h1, hI.len, hI.pls⟩)
  have hcs := hI.cst
  have hk := of_ok a cap s b capb d B w hr hd hE
  have HCK := hide (fun (p : Option Addr) (c : Nat) W (h1 : Row W a s) (h2 : Row W p (share s d B)) => cost_ok a cap s p c (share s d B) W h1 h2 HCF)
  obtain ⟨C, hC⟩ : ∃ C, cost s (share s d B) = C := ⟨_, rfl⟩
  rw [hC] at hcs HCK ⊢
  obtain ⟨R, hR⟩ : ∃ R, share s d B = R := ⟨_, rfl⟩
  rw [hR] at hk HCK
  obtain ⟨N, hN⟩ : ∃ N, s.length = N := ⟨_, rfl⟩
  obtain ⟨M, hM⟩ : ∃ M, d.length = M := ⟨_, rfl⟩
  rw [hN] at hk HCK ⊢
  rw [hM] at hk ⊢
  have wB : IntKind.i64.wrap (B - (C : Int)) = B - (C : Int) := IntWalk.i64_in _ (by omega)
  have HR := hide hr
  clear hC hR hN hM h1 h2 h3 hs hI HCF hE hd hr h0 h8 hcs
  go_enter Tryd.func11, Tryd.ntmps11
  go_wp2_with fail
  refine hk.mono ?_
  clear hk
  rintro e w1 ⟨v, rfl, k1, hb1⟩
  obtain ⟨p, c, rfl, hrow⟩ := k1.row
  have hck := unhide HCK p c w1 ((unhide HR).below hb1) hrow
  obtain ⟨K, hK⟩ : ∃ K, R.length = K := ⟨_, rfl⟩
  rw [hK] at hck ⊢
  clear hK k1 hrow HCK
  go_wp2_with fail
  refine hck.mono ?_
  clear hck
  rintro e w2 ⟨rfl, hb2⟩
  go_wp2
  go_ret2
  exact ⟨rfl, Below.chain hb1 hb2⟩

end Go.Proofs.YtlklnjaihbjfiahDoor.Shr
