/-
  horn.Most: by its contracts.
-/
import Derived.Test.YtgffpljnhadigafDoorHornBits
namespace Go.Proofs.YtgffpljnhadigafDoor.Hrn
open Go.RowKit
open Go.Proofs.YtgffpljnhadigafDoor.Tre Go.Proofs.YtgffpljnhadigafDoor.Scl
set_option linter.unusedVariables false

theorem most_no (a : Option Addr) (cap : Nat) (f : List Int) (b : Option Addr) (capb : Nat) (l : List Int) (E : Int) (w : World) (hrf : Row w a f) (hm : f.length ≤ cap) (hm9 : cap ≤ 9223372036854775807) (hrl : Row w b l) (zl : l.length ≤ 9223372036854775807) (hE : Hid (RowF f l E)) (hne : Hid (E ≠ 0)) :
    Calls Tryd.prog 22 #[.slice a f.length cap, .slice b l.length capb] w fun e w' => e = .returned (.tuple #[.int .i64 0, .iface 48 (.int .i64 E)]) ∧ Below w.heap.size w w' := by
  have hck := bits_no a cap f b capb l E w hrf hm hm9 hrl zl hE hne
  obtain ⟨N, hN⟩ : ∃ N, l.length = N := ⟨_, rfl⟩
  obtain ⟨M, hM⟩ : ∃ M, f.length = M := ⟨_, rfl⟩
  rw [hN, hM] at hck ⊢
  clear hN hM hE hne hm hm9 zl
  go_enter Tryd.func22, Tryd.ntmps22
  go_wp2_with fail
  refine hck.mono ?_
  rintro e w1 ⟨rfl, hb1⟩
  go_wp2
  go_ret2
  exact ⟨rfl, hb1⟩

set_option maxRecDepth 100000 in
set_option maxHeartbeats 4000000 in
theorem most_ok (a : Option Addr) (cap : Nat) (f : List Int) (b : Option Addr) (capb : Nat) (l : List Int) (w : World) (hrf : Row w a f) (hm : f.length ≤ cap) (hm9 : cap ≤ 9223372036854775807) (hrl : Row w b l) (hE : Hid (RowF f l 0)) :
    Calls Tryd.prog 22 #[.slice a f.length cap, .slice b l.length capb] w fun e w' => e = .returned (.tuple #[.int .i64 ((4 + need f l / 8 : Nat) : Int), .nilIface]) ∧ Below w.heap.size w w' := by
  have hck := bits_ok a cap f b capb l w hrf hm hm9 hrl hE
  have h60 := (unhide hE).zero.2.1
  have HU := need_le f l
  obtain ⟨n, hU⟩ : ∃ n, need f l = n := ⟨_, rfl⟩
  rw [hU] at HU hck ⊢
  obtain ⟨R, hR⟩ : ∃ R : Int, ((4 + n / 8 : Nat) : Int) = R := ⟨_, rfl⟩
  have HR0 := hide hR
  rw [hR]
  obtain ⟨N, hN⟩ : ∃ N, l.length = N := ⟨_, rfl⟩
  obtain ⟨M, hM⟩ : ∃ M, f.length = M := ⟨_, rfl⟩
  rw [hM] at hck ⊢
  rw [hN] at hck h60 HU ⊢
  clear hN hM hU hR hE hm hm9 hrf hrl
  have t1 : Int.tdiv (n : Int) 8 = ((n / 8 : Nat) : Int) := rfl
  obtain ⟨Q, hQ⟩ : ∃ Q, n / 8 = Q := ⟨_, rfl⟩
  rw [hQ] at t1
  have hQ9 : Q ≤ n := by omega
  have w1' : IntKind.i64.wrap (3 + (Q : Int)) = 3 + (Q : Int) := IntWalk.i64_in _ (by omega)
  have w2' : IntKind.i64.wrap (3 + (Q : Int) + 1) = 3 + (Q : Int) + 1 := IntWalk.i64_in _ (by omega)
  have HR : Hid (3 + (Q : Int) + 1 = R) := hide (by have h := unhide HR0; omega)
  have hn9 : n ≤ 480 := by omega
  clear hQ HU HR0
  go_enter Tryd.func22, Tryd.ntmps22
  go_wp2_with fail
  refine hck.mono ?_
  clear hck
  rintro e w1 ⟨rfl, hb1⟩
  go_wp2
  go_ret2
  exact ⟨by first | rfl | (rw [← unhide HR]; rfl), hb1⟩

end Go.Proofs.YtgffpljnhadigafDoor.Hrn
