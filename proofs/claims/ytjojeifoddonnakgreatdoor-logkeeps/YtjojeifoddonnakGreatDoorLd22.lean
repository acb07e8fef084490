/-
  The numbers of chapter 19: a log, as it is told: its frames, where its records end, what is there, what is safe. No program here.
-/
import Derived.Test.YtjojeifoddonnakGreatDoorLd03
import Derived.Test.YtjojeifoddonnakGreatDoorLd19
import Derived.Test.YtjojeifoddonnakGreatDoorLd08
import Derived.Test.YtjojeifoddonnakGreatDoorLd11
namespace Go.Proofs.YtjojeifoddonnakGreatDoor.Lg19
open Go.Proofs.YtjojeifoddonnakGreatDoor.Tre Go.Proofs.YtjojeifoddonnakGreatDoor.Frm Go.Proofs.YtjojeifoddonnakGreatDoor.Pck Go.Proofs.YtjojeifoddonnakGreatDoor.Hrn
set_option linter.unusedVariables false

/-- A log: its frames, where its records end (0 ahead of all), how many bytes there are, how many are safe, whether it has stopped, and in how many steps it will. -/
structure St where
  F : List ByteArray
  M : List Int
  b : Int
  s : Int
  st : Bool
  f : Option Nat
/-- One that may be. -/
structure Ok (L : St) : Prop where
  len : L.M.length = L.F.length + 1
  zero : at0 L.M 0 = 0
  up : ∀ i, i < L.F.length → at0 L.M i + 2 ≤ at0 L.M (i + 1) ∧ at0 L.M (i + 1) ≤ at0 L.M i + 100000
  few : L.F.length ≤ 20
  top : at0 L.M L.F.length ≤ L.b ∧ L.b ≤ at0 L.M L.F.length + 100000
  on : L.st = false → L.b = at0 L.M L.F.length
  safe : ∃ i, i ≤ L.F.length ∧ L.s = at0 L.M i
/-- A new one. -/
def none0 : St := ⟨[], [0], 0, 0, false, none⟩
theorem none0_ok : Ok none0 := ⟨rfl, rfl, fun i hi => by simp [none0] at hi, by simp [none0], ⟨by decide, by decide⟩, fun _ => rfl, ⟨0, Nat.le_refl _, rfl⟩⟩
section
variable {L : St}
theorem Ok.rise (h : Ok L) {i j : Nat} (hij : i ≤ j) (hj : j ≤ L.F.length) : at0 L.M i ≤ at0 L.M j ∧ (i < j → at0 L.M i < at0 L.M j) := by
  induction j with
  | zero =>
    obtain rfl : i = 0 := by omega
    exact ⟨Int.le_refl _, fun h => by omega⟩
  | succ j ih =>
    by_cases e : i = j + 1
    · subst e
      exact ⟨Int.le_refl _, fun h => by omega⟩
    · have h1 := ih (by omega) (by omega)
      have h2 := h.up j (by omega)
      exact ⟨by omega, fun _ => by omega⟩
theorem Ok.most (h : Ok L) {i : Nat} (hi : i ≤ L.F.length) : 0 ≤ at0 L.M i ∧ at0 L.M i ≤ 100000 * i := by
  induction i with
  | zero => rw [h.zero]; omega
  | succ i ih =>
    have h1 := ih (by omega)
    have h2 := h.up i (by omega)
    omega
theorem Ok.bytes (h : Ok L) : 0 ≤ L.b ∧ L.b ≤ 2100000 ∧ 0 ≤ L.s ∧ L.s ≤ L.b := by
  obtain ⟨i, hi, hs⟩ := h.safe
  have h1 := h.most (Nat.le_refl L.F.length)
  have h2 := h.most hi
  have h3 := (h.rise hi (Nat.le_refl _)).1
  have h4 := h.top
  have h5 := h.few
  omega
end

/-- A frame is put: the fault, and what is there then. -/
def PutF (s : List Int) (B : Int) (L : St) (x : ByteArray) (E : Int) (L' : St) : Prop :=
  (L.st = true ∧ E = 6 ∧ L' = L) ∨ (L.st = false ∧ ((20 ≤ L.F.length ∧ E = 4 ∧ L' = L) ∨ (L.F.length < 20 ∧ (∃ U ps, UnpF (byt x) s B U ps ∧
    ((U ≠ 0 ∧ E = U ∧ L' = L) ∨ (U = 0 ∧ ((L.f = some 0 ∧ E = 6 ∧ ∃ r f', 2 ≤ r ∧ r ≤ 100000 ∧ L' = ⟨L.F, L.M, L.b + r / 2, L.s, true, f'⟩) ∨
      (L.f ≠ some 0 ∧ E = 0 ∧ ∃ r, 2 ≤ r ∧ r ≤ 100000 ∧ L' = ⟨L.F ++ [x], L.M ++ [L.b + r], L.b + r, L.s, false, L.f.map Nat.pred⟩))))))))
/-- All that is there is made safe. -/
def SyncF (L : St) (E : Int) (L' : St) : Prop :=
  (L.st = true ∧ E = 6 ∧ L' = L) ∨ (L.st = false ∧ ((L.f = some 0 ∧ E = 6 ∧ ∃ f', L' = ⟨L.F, L.M, L.b, L.s, true, f'⟩) ∨ (L.f ≠ some 0 ∧ E = 0 ∧ L' = ⟨L.F, L.M, L.b, L.b, false, L.f.map Nat.pred⟩)))
/-- It is to stop in so many steps. -/
def FailF (L : St) (n : Int) (L' : St) : Prop := ∃ f', (L.st = false → f' = if n < 0 then none else some n.toNat) ∧ L' = ⟨L.F, L.M, L.b, L.s, L.st, f'⟩
/-- The last of the first k marks that is not beyond. -/
def lst (M : List Int) (h : Int) : Nat → Nat
  | 0 => 0
  | k + 1 => if at0 M k ≤ h then k else lst M h k
theorem lst_le (M : List Int) (h : Int) (k : Nat) : lst M h k ≤ k - 1 := by
  induction k with
  | zero => exact Nat.le_refl _
  | succ k ih => rw [lst]; split <;> omega
theorem lst_is (M : List Int) {h : Int} (h0 : at0 M 0 ≤ h) (k : Nat) : at0 M (lst M h k) ≤ h := by
  induction k with
  | zero => exact h0
  | succ k ih =>
    rw [lst]
    split
    · assumption
    · exact ih
/-- What is left of the bytes. -/
def high (L : St) (keep : Int) : Int := if 0 < keep then (if keep < L.b - L.s then L.s + keep else L.b) else L.s
def left (L : St) (keep : Int) : Nat := lst L.M (high L keep) L.M.length
/-- Behind a crash. -/
def crash (L : St) (keep : Int) : St := ⟨L.F.take (left L keep), L.M.take (left L keep + 1), at0 L.M (left L keep), at0 L.M (left L keep), false, none⟩

section
variable {L L' : St}
theorem at0_take {M : List Int} {k i : Nat} (h : i < k) : at0 (M.take k) i = at0 M i := by
  unfold at0
  rw [List.getElem?_take, if_pos h]
theorem at0_push {M : List Int} {x : Int} {i : Nat} (h : i < M.length) : at0 (M ++ [x]) i = at0 M i := by unfold at0; rw [List.getElem?_append_left h]
theorem at0_top (M : List Int) (x : Int) : at0 (M ++ [x]) M.length = x := by simp [at0]
theorem left_le (h : Ok L) (keep : Int) : left L keep ≤ L.F.length := by
  have := lst_le L.M (high L keep) L.M.length
  rw [h.len] at this
  unfold left
  rw [h.len]
  omega
theorem crash_ok (h : Ok L) (keep : Int) : Ok (crash L keep) := by
  have hl := left_le h keep
  have hf : (crash L keep).F.length = left L keep := by show (L.F.take _).length = _; rw [List.length_take]; omega
  have hm : ∀ i, i ≤ left L keep → at0 (crash L keep).M i = at0 L.M i := fun i hi => at0_take (by omega)
  refine ⟨?_, ?_, fun i hi => ?_, ?_, ?_, fun _ => ?_, ⟨left L keep, by rw [hf]; exact Nat.le_refl _, (hm _ (Nat.le_refl _)).symm⟩⟩
  · show (L.M.take _).length = _
    rw [hf, List.length_take, h.len]
    omega
  · rw [hm 0 (by omega)]; exact h.zero
  · rw [hf] at hi
    rw [hm i (by omega), hm (i + 1) (by omega)]
    exact h.up i (by omega)
  · rw [hf]; exact Nat.le_trans hl h.few
  · rw [hf, hm _ (Nat.le_refl _)]
    show at0 L.M (left L keep) ≤ at0 L.M (left L keep) ∧ at0 L.M (left L keep) ≤ at0 L.M (left L keep) + 100000
    omega
  · rw [hf, hm _ (Nat.le_refl _)]
    rfl
theorem put_okL {s : List Int} {B : Int} {x : ByteArray} {E : Int} (h : Ok L) (hp : PutF s B L x E L') : Ok L' := by
  rcases hp with ⟨_, _, rfl⟩ | ⟨hst, hp⟩
  · exact h
  rcases hp with ⟨_, _, rfl⟩ | ⟨hfew, U, ps, _, hp⟩
  · exact h
  rcases hp with ⟨_, _, rfl⟩ | ⟨_, hp⟩
  · exact h
  rcases hp with ⟨_, _, r, f', r1, r2, rfl⟩ | ⟨_, _, r, r1, r2, rfl⟩
  · have ht := h.top
    have ho := h.on hst
    refine ⟨h.len, h.zero, h.up, h.few, ?_, fun e => (by cases e), h.safe⟩
    show at0 L.M L.F.length ≤ L.b + r / 2 ∧ L.b + r / 2 ≤ at0 L.M L.F.length + 100000
    omega
  · have ho := h.on hst
    have hl := h.len
    have hF : (L.F ++ [x]).length = L.F.length + 1 := by simp
    have hM : ∀ i, i ≤ L.F.length → at0 (L.M ++ [L.b + r]) i = at0 L.M i := fun i hi => at0_push (by rw [hl]; omega)
    have hT : at0 (L.M ++ [L.b + r]) (L.F.length + 1) = L.b + r := by rw [← hl]; exact at0_top _ _
    refine ⟨?_, ?_, fun i hi => ?_, ?_, ?_, fun _ => ?_, ?_⟩
    · show (L.M ++ [L.b + r]).length = (L.F ++ [x]).length + 1
      rw [hF, List.length_append, hl]
      rfl
    · show at0 (L.M ++ [L.b + r]) 0 = 0
      rw [hM 0 (by omega)]; exact h.zero
    · have hi' : i < L.F.length + 1 := by rw [← hF]; exact hi
      show at0 (L.M ++ [L.b + r]) i + 2 ≤ at0 (L.M ++ [L.b + r]) (i + 1) ∧ at0 (L.M ++ [L.b + r]) (i + 1) ≤ at0 (L.M ++ [L.b + r]) i + 100000
      by_cases e : i = L.F.length
      · subst e
        rw [hM _ (Nat.le_refl _), hT]
        omega
      · rw [hM i (by omega), hM (i + 1) (by omega)]
        exact h.up i (by omega)
    · show (L.F ++ [x]).length ≤ 20
      rw [hF]; omega
    · show at0 (L.M ++ [L.b + r]) (L.F ++ [x]).length ≤ L.b + r ∧ L.b + r ≤ at0 (L.M ++ [L.b + r]) (L.F ++ [x]).length + 100000
      rw [hF, hT]
      omega
    · show L.b + r = at0 (L.M ++ [L.b + r]) (L.F ++ [x]).length
      rw [hF, hT]
    · obtain ⟨i, hi, hs⟩ := h.safe
      refine ⟨i, ?_, ?_⟩
      · show i ≤ (L.F ++ [x]).length
        rw [hF]; omega
      · show L.s = at0 (L.M ++ [L.b + r]) i
        rw [hM i hi]; exact hs
theorem sync_okL {E : Int} (h : Ok L) (hp : SyncF L E L') : Ok L' := by
  rcases hp with ⟨_, _, rfl⟩ | ⟨hst, hp⟩
  · exact h
  rcases hp with ⟨_, _, f', rfl⟩ | ⟨_, _, rfl⟩
  · exact ⟨h.len, h.zero, h.up, h.few, h.top, fun e => (by cases e), h.safe⟩
  · exact ⟨h.len, h.zero, h.up, h.few, h.top, fun _ => h.on hst, ⟨L.F.length, Nat.le_refl _, h.on hst⟩⟩
theorem fail_okL {n : Int} (h : Ok L) (hp : FailF L n L') : Ok L' := by
  obtain ⟨f', _, rfl⟩ := hp
  exact ⟨h.len, h.zero, h.up, h.few, h.top, h.on, h.safe⟩
end

end Go.Proofs.YtjojeifoddonnakGreatDoor.Lg19

/-
  What is asked of a log, whatever it is made of: a predicate of the world on the blocks that are its own, and what each of its methods answers.
-/
namespace Go.Proofs.YtjojeifoddonnakGreatDoor.Lg19
open Go.RowKit
open Go.Proofs.YtjojeifoddonnakGreatDoor.Tre Go.Proofs.YtjojeifoddonnakGreatDoor.Frm Go.Proofs.YtjojeifoddonnakGreatDoor.Pck Go.Proofs.YtjojeifoddonnakGreatDoor.Hrn Go.Proofs.YtjojeifoddonnakGreatDoor.Ev
set_option linter.unusedVariables false

theorem _root_.Go.Proofs.YtjojeifoddonnakGreatDoor.Keeps.hasT {Q : Nat → Prop} {base : Nat} {W W' : World} {v : Value} {l : List ByteArray} (h : Keeps Q W W') (hv : HasT W base v l) (hq : ∀ k, v.ownBlock = some k → ¬ Q k) : HasT W' base v l := by
  refine ⟨hv.1, ?_⟩
  rcases hv.2 with hn | ⟨g, cap, cur, rfl, hbg, hgg, rest⟩
  · exact .inl hn
  · exact .inr ⟨g, cap, cur, rfl, hbg, (h.block g (Array.getElem?_eq_some_iff.1 hgg).1 (hq g rfl)).trans hgg, rest⟩
/-- A log in memory: its sizes and bits, the blocks that are its own, the world, its block, what it is. -/
abbrev Holds := List Int → Int → (Nat → Prop) → World → Nat → St → Prop
/-- What a method leaves: the log, as it is then; its blocks are old ones of its own, or new. -/
def Left (H : Holds) (s : List Int) (B : Int) (Q : Nat → Prop) (W : World) (b : Nat) (L' : St) (W' : World) : Prop :=
  ∃ Q' : Nat → Prop, H s B Q' W' b L' ∧ (∀ k, Q' k → Q k ∨ W.heap.size ≤ k) ∧ Keeps Q W W'
/-- What is asked of a log into which frames are put, and that is asked for them. -/
structure LogM (H : Holds) : Prop where
  ok : ∀ {s B Q W b L}, H s B Q W b L → Ok L
  old : ∀ {s B Q W b L}, H s B Q W b L → ∀ k, Q k → k < W.heap.size
  kept : ∀ {s B Q W W' b L}, H s B Q W b L → W.heap.size ≤ W'.heap.size → (∀ k, Q k → W'.heap[k]? = W.heap[k]?) → H s B Q W' b L
  new : ∀ (a : Option Addr) (cap : Nat) (s : List Int) (B : Int) (W : World), Row W a s → s.length ≤ 17592186044416 →
    Calls Tryz.prog 4 #[.slice a s.length cap, .int .i64 B] W fun e W' => ((Hid18.newF s B ≠ 0 ∧ e = .returned (.tuple #[.pointer none, errV (Hid18.newF s B)])) ∨
      (Hid18.newF s B = 0 ∧ ∃ b Q, e = .returned (.tuple #[.pointer (some ⟨b, 0, none⟩), .nilIface]) ∧ H s B Q W' b none0 ∧ ∀ k, Q k → W.heap.size ≤ k)) ∧ Below W.heap.size W W'
  put : ∀ {s B Q W b L} (x : ByteArray), H s B Q W b L → x.size ≤ 9223372036854775807 →
    Calls Tryz.prog 5 #[.pointer (some ⟨b, 0, none⟩), .string x] W fun e W' => ∃ E L', e = .returned (errV E) ∧ PutF s B L x E L' ∧ Left H s B Q W b L' W'
  allN : ∀ {s B Q W b L}, H s B Q W b L →
    Calls Tryz.prog 8 #[.pointer (some ⟨b, 0, none⟩)] W fun e W' => ∃ a cap, e = .returned (.slice a L.F.length cap) ∧ RowTI (fun j => W.heap.size ≤ j) W' a L.F ∧ L.F.length ≤ cap ∧ cap ≤ 9223372036854775807 ∧ Below W.heap.size W W'
theorem LogM.below {H : Holds} (C : LogM H) {s : List Int} {B : Int} {Q : Nat → Prop} {W W' : World} {b : Nat} {L : St} (h : H s B Q W b L) (hb : Below W.heap.size W W') : H s B Q W' b L := C.kept h hb.size (fun k hk => hb.block k (C.old h k hk))
theorem LogM.all {H : Holds} (C : LogM H) {s : List Int} {B : Int} {Q : Nat → Prop} {W : World} {b : Nat} {L : St} (h : H s B Q W b L) :
    Calls Tryz.prog 8 #[.pointer (some ⟨b, 0, none⟩)] W fun e W' => ∃ a cap, e = .returned (.slice a L.F.length cap) ∧ RowT W' a L.F ∧ L.F.length ≤ cap ∧ cap ≤ 9223372036854775807 ∧ Below W.heap.size W W' :=
  (C.allN h).mono fun e W' ⟨a, cap, h1, h2, h3, h4, h5⟩ => ⟨a, cap, h1, h2.rowT, h3, h4, h5⟩
/-- Behind a mark it stays behind it. -/
theorem Left.on {H : Holds} {s : List Int} {B : Int} {Q : Nat → Prop} {w W W' : World} {b n : Nat} {L' : St} (h : Left H s B Q W b L' W') (hq : ∀ k, Q k → n ≤ k) (hb : Below n w W) (hn : n ≤ W.heap.size) :
    ∃ Q' : Nat → Prop, H s B Q' W' b L' ∧ (∀ k, Q' k → n ≤ k) ∧ Below n w W' := by
  obtain ⟨Q', h1, h2, h3⟩ := h
  refine ⟨Q', h1, fun k hk => ?_, hb.trans (h3.below hn hq)⟩
  rcases h2 k hk with h | h
  · exact hq k h
  · omega

end Go.Proofs.YtjojeifoddonnakGreatDoor.Lg19

/-
  What is asked of a log that never fails and is not asked how many bytes it has.
-/
namespace Go.Proofs.YtjojeifoddonnakGreatDoor.Lg19
open Go.RowKit
open Go.Proofs.YtjojeifoddonnakGreatDoor.Tre Go.Proofs.YtjojeifoddonnakGreatDoor.Frm Go.Proofs.YtjojeifoddonnakGreatDoor.Pck Go.Proofs.YtjojeifoddonnakGreatDoor.Hrn Go.Proofs.YtjojeifoddonnakGreatDoor.Ev
set_option linter.unusedVariables false

/-- What is asked of a log that never fails and is not asked how many bytes it has. -/
structure LogT (H : Holds) : Prop extends LogM H where
  sync : ∀ {s B Q W b L}, H s B Q W b L →
    Calls Tryz.prog 6 #[.pointer (some ⟨b, 0, none⟩)] W fun e W' => ∃ E L', e = .returned (errV E) ∧ SyncF L E L' ∧ Left H s B Q W b L' W'
  crash : ∀ {s B Q W b L} (keep : Int), H s B Q W b L →
    Calls Tryz.prog 7 #[.pointer (some ⟨b, 0, none⟩), .int .i64 keep] W fun e W' => e = .returned (.tuple #[]) ∧ Left H s B Q W b (crash L keep) W'
theorem LogT.below {H : Holds} (C : LogT H) {s : List Int} {B : Int} {Q : Nat → Prop} {W W' : World} {b : Nat} {L : St} (h : H s B Q W b L) (hb : Below W.heap.size W W') : H s B Q W' b L := C.toLogM.below h hb
theorem LogT.all {H : Holds} (C : LogT H) {s : List Int} {B : Int} {Q : Nat → Prop} {W : World} {b : Nat} {L : St} (h : H s B Q W b L) :
    Calls Tryz.prog 8 #[.pointer (some ⟨b, 0, none⟩)] W fun e W' => ∃ a cap, e = .returned (.slice a L.F.length cap) ∧ RowT W' a L.F ∧ L.F.length ≤ cap ∧ cap ≤ 9223372036854775807 ∧ Below W.heap.size W W' := C.toLogM.all h

end Go.Proofs.YtjojeifoddonnakGreatDoor.Lg19

/-
  What is asked of a log, whatever it is made of: a predicate of the world on the blocks that are its own, and what each of its methods answers.
-/
namespace Go.Proofs.YtjojeifoddonnakGreatDoor.Lg19
open Go.RowKit
open Go.Proofs.YtjojeifoddonnakGreatDoor.Tre Go.Proofs.YtjojeifoddonnakGreatDoor.Frm Go.Proofs.YtjojeifoddonnakGreatDoor.Pck Go.Proofs.YtjojeifoddonnakGreatDoor.Hrn Go.Proofs.YtjojeifoddonnakGreatDoor.Ev
set_option linter.unusedVariables false

/-- What is asked of a log. -/
structure LogC (H : Holds) : Prop extends LogT H where
  fail : ∀ {s B Q W b L} (n : Int), H s B Q W b L → n ≤ 9223372036854775807 →
    Calls Tryz.prog 13 #[.pointer (some ⟨b, 0, none⟩), .int .i64 n] W fun e W' => ∃ L', e = .returned (.tuple #[]) ∧ FailF L n L' ∧ Left H s B Q W b L' W'
  bytes : ∀ {s B Q W b L}, H s B Q W b L →
    Calls Tryz.prog 9 #[.pointer (some ⟨b, 0, none⟩)] W fun e W' => e = .returned (.int .i64 L.b) ∧ Below W.heap.size W W'
  safe : ∀ {s B Q W b L}, H s B Q W b L →
    Calls Tryz.prog 10 #[.pointer (some ⟨b, 0, none⟩)] W fun e W' => e = .returned (.int .i64 L.s) ∧ Below W.heap.size W W'
theorem LogC.all {H : Holds} (C : LogC H) {s : List Int} {B : Int} {Q : Nat → Prop} {W : World} {b : Nat} {L : St} (h : H s B Q W b L) :
    Calls Tryz.prog 8 #[.pointer (some ⟨b, 0, none⟩)] W fun e W' => ∃ a cap, e = .returned (.slice a L.F.length cap) ∧ RowT W' a L.F ∧ L.F.length ≤ cap ∧ cap ≤ 9223372036854775807 ∧ Below W.heap.size W W' := C.toLogT.all h
theorem LogC.below {H : Holds} (C : LogC H) {s : List Int} {B : Int} {Q : Nat → Prop} {W W' : World} {b : Nat} {L : St} (h : H s B Q W b L) (hb : Below W.heap.size W W') : H s B Q W' b L := C.toLogT.below h hb

end Go.Proofs.YtjojeifoddonnakGreatDoor.Lg19

/-
  A log beside two slices of this call's own, its frames and its marks: what keeps all three.
-/
namespace Go.Proofs.YtjojeifoddonnakGreatDoor.Lg19
open Go.RowKit
open Go.Proofs.YtjojeifoddonnakGreatDoor.Tre Go.Proofs.YtjojeifoddonnakGreatDoor.Frm Go.Proofs.YtjojeifoddonnakGreatDoor.Pck Go.Proofs.YtjojeifoddonnakGreatDoor.Hrn Go.Proofs.YtjojeifoddonnakGreatDoor.Ev
set_option linter.unusedVariables false

/-- A log, and two slices beside it, all behind a mark. -/
structure Kept (H : Holds) (s : List Int) (B : Int) (w : World) (b : Nat) (Q : Nat → Prop) (W : World) (vd vm : Value) (F : List ByteArray) (M : List Int) (L : St) : Prop where
  log : H s B Q W b L
  far : ∀ q, Q q → w.heap.size ≤ q
  frames : HasT W w.heap.size vd F
  marks : Has W w.heap.size vm M
  off : Off vd vm
  offd : ∀ k, vd.ownBlock = some k → ¬ Q k
  offm : ∀ k, vm.ownBlock = some k → ¬ Q k
  below : Below w.heap.size w W
section
variable {H : Holds} {s : List Int} {B : Int} {w : World} {b : Nat} {Q : Nat → Prop} {W W' : World} {vd vm v' : Value} {F F' : List ByteArray} {M M' : List Int} {L L' : St}
theorem Kept.on (C : LogC H) (h : Kept H s B w b Q W vd vm F M L) (hb : Below W.heap.size W W') : Kept H s B w b Q W' vd vm F M L :=
  ⟨C.below h.log hb, h.far, h.frames.below hb, h.marks.below hb, h.off, h.offd, h.offm, Below.chain h.below hb⟩
/-- A method was called. -/
theorem Kept.left (h : Kept H s B w b Q W vd vm F M L) (hl : Left H s B Q W b L' W') : ∃ Q', Kept H s B w b Q' W' vd vm F M L' := by
  obtain ⟨Q', h1, h2, h3⟩ := hl
  have hn : ∀ {v : Value} {k : Nat}, (∀ k, v.ownBlock = some k → ¬ Q k) → (v.ownBlock = some k → k < W.heap.size) → v.ownBlock = some k → ¬ Q' k := fun ho hlt e hQ => by
    rcases h2 _ hQ with h | h
    · exact ho _ e h
    · have := hlt e
      omega
  refine ⟨Q', h1, fun k hk => ?_, h3.hasT h.frames h.offd, h3.has h.marks h.offm, h.off, fun k e => hn h.offd (fun e => (h.frames.lt k e).2) e, fun k e => hn h.offm (fun e => (h.marks.lt k e).2) e, h.below.trans (h3.below h.below.size h.far)⟩
  rcases h2 k hk with h' | h'
  · exact h.far k h'
  · have := h.below.size
    omega
/-- A frame was written behind the frames. -/
theorem Kept.appT (C : LogC H) (h : Kept H s B w b Q W vd vm F M L) (hv : HasT W' w.heap.size v' F') (hg : W.grownBy W' vd.ownBlock) (hat : v'.ownBlock = vd.ownBlock ∨ v'.ownBlock = some W.heap.size) : Kept H s B w b Q W' v' vm F' M L := by
  refine ⟨C.kept h.log hg.size (fun k hk => hg.block k (C.old h.log k hk) (fun e => h.offd k e.symm hk)), h.far, hv, h.marks.kept hg h.off.symm, ?_, fun k e hk => ?_, h.offm, h.below.grown hg h.below.size (fun k e => (h.frames.lt k e).1)⟩
  · rcases hat with e | e
    · unfold Off
      rw [e]
      exact h.off
    · cases hm : vm.ownBlock with
      | none => exact Off.symm (Or.inl hm)
      | some k =>
        refine Or.inr ?_
        rw [e, hm]
        intro e2
        have := (h.marks.lt k hm).2
        have e3 : W.heap.size = k := Option.some.inj e2
        omega
  · rcases hat with e2 | e2
    · exact h.offd k (e2.symm.trans e) hk
    · have e3 : W.heap.size = k := Option.some.inj (e2.symm.trans e)
      have := C.old h.log k hk
      omega
/-- A mark was written behind the marks. -/
theorem Kept.appM (C : LogC H) (h : Kept H s B w b Q W vd vm F M L) (hv : Has W' w.heap.size v' M') (hg : W.grownBy W' vm.ownBlock) (hat : v'.ownBlock = vm.ownBlock ∨ v'.ownBlock = some W.heap.size) : Kept H s B w b Q W' vd v' F M' L := by
  refine ⟨C.kept h.log hg.size (fun k hk => hg.block k (C.old h.log k hk) (fun e => h.offm k e.symm hk)), h.far, h.frames.kept hg h.off, hv, ?_, h.offd, fun k e hk => ?_, h.below.grown hg h.below.size (fun k e => (h.marks.lt k e).1)⟩
  · rcases hat with e | e
    · unfold Off
      rw [e]
      exact h.off
    · cases hm : vd.ownBlock with
      | none => exact Or.inl hm
      | some k =>
        refine Or.inr ?_
        rw [e, hm]
        intro e2
        have := (h.frames.lt k hm).2
        have e3 : k = W.heap.size := Option.some.inj e2
        omega
  · rcases hat with e2 | e2
    · exact h.offm k (e2.symm.trans e) hk
    · have e3 : W.heap.size = k := Option.some.inj (e2.symm.trans e)
      have := C.old h.log k hk
      omega
end

set_option maxRecDepth 100000 in
theorem size_strs (w : World) : (sizeOf (Tryz.prog.elem 23)).run Tryz.prog w = .ok 1 w := by
  have h : Tryz.prog.elem 23 = 9 := by kernel_rfl
  obtain ⟨i, hi, hz0, hz1, hz2⟩ := info_parts info_str
  rw [h]
  simp [sizeOf, typeInfo, hi, hz1]
set_option maxRecDepth 100000 in
theorem firstT {w : World} {base : Nat} {v : Value} {l : List ByteArray} (h : HasT w base v l) {n : Nat} (hn : n ≤ l.length) :
    ∃ v', (∀ W, (Instr.slice 23 v none (some (.int .i64 n)) none).run Tryz.prog W = .ok v' W) ∧ HasT w base v' (l.take n) ∧ v'.ownBlock = v.ownBlock := by
  have hl : (l.take n).length = n := by rw [List.length_take]; omega
  rcases h.2 with ⟨rfl, h0⟩ | ⟨g, cap, cur, rfl, hb, hg, hc, hm, hs, hx⟩
  · obtain rfl : l = [] := List.eq_nil_of_length_eq_zero h0
    obtain rfl : n = 0 := by simpa using hn
    refine ⟨.slice none 0 0, fun W => ?_, HasT.nil _ _, rfl⟩
    rw [run_slice_h W 23 none 0 0 Tryz.underlying23 .i64 ((0 : Nat) : Int) (by omega) (by omega), size_strs]
    simp [Result.andThen, sliced]
  · refine ⟨.slice (some ⟨g, 0, none⟩) n cap, fun W => ?_, ?_, rfl⟩
    · rw [run_slice_h W 23 _ l.length cap Tryz.underlying23 .i64 n (by omega) (by omega), size_strs]
      simp [Result.andThen, sliced, addr_plain]
    · unfold HasT
      rw [hl]
      refine ⟨by rw [List.length_map, hl, Nat.mul_one], Or.inr ⟨g, cap, cur, rfl, hb, hg, by omega, hm, hs, ?_⟩⟩
      rw [List.map_take, ← hx, List.take_take, Nat.mul_one, Nat.mul_one, Nat.min_eq_left hn]
set_option maxRecDepth 100000 in
theorem firstM {w : World} {base : Nat} {v : Value} {l : List Int} (h : Has w base v l) {n : Nat} (hn : n ≤ l.length) :
    ∃ v', (∀ W, (Instr.slice 22 v none (some (.int .i64 n)) none).run Tryz.prog W = .ok v' W) ∧ Has w base v' (l.take n) ∧ v'.ownBlock = v.ownBlock := by
  have hl : (l.take n).length = n := by rw [List.length_take]; omega
  rcases h.2 with ⟨rfl, h0⟩ | ⟨g, cap, cur, rfl, hb, hg, hc, hm, hs, hx⟩
  · obtain rfl : l = [] := List.eq_nil_of_length_eq_zero h0
    obtain rfl : n = 0 := by simpa using hn
    refine ⟨.slice none 0 0, fun W => ?_, Has.nil _ _, rfl⟩
    rw [run_slice_h W 22 none 0 0 Tryz.underlying22 .i64 ((0 : Nat) : Int) (by omega) (by omega), size_ints]
    simp [Result.andThen, sliced]
  · refine ⟨.slice (some ⟨g, 0, none⟩) n cap, fun W => ?_, ?_, rfl⟩
    · rw [run_slice_h W 22 _ l.length cap Tryz.underlying22 .i64 n (by omega) (by omega), size_ints]
      simp [Result.andThen, sliced, addr_plain]
    · unfold Has
      rw [hl]
      refine ⟨by rw [List.length_map, hl, Nat.mul_one], Or.inr ⟨g, cap, cur, rfl, hb, hg, by omega, hm, hs, ?_⟩⟩
      rw [List.map_take, ← hx, List.take_take, Nat.mul_one, Nat.mul_one, Nat.min_eq_left hn]
theorem cutM {w : World} {base g n cap : Nat} {l : List Int} (h : Has w base (.slice (some ⟨g, 0, none⟩) n cap) l) {k : Nat} (hk : k ≤ l.length) : Has w base (.slice (some ⟨g, 0, none⟩) k cap) (l.take k) := by
  have hl : (l.take k).length = k := by rw [List.length_take]; omega
  rcases h.2 with ⟨e, _⟩ | ⟨g', cap', cur, e, hb, hg, hc, hm, hs, hx⟩
  · cases e
  · obtain ⟨ea, eb, ec⟩ := Value.slice.inj e
    cases ea
    subst ec
    unfold Has
    rw [hl]
    refine ⟨by rw [List.length_map, hl, Nat.mul_one], Or.inr ⟨g, cap, cur, rfl, hb, hg, by omega, hm, hs, ?_⟩⟩
    rw [List.map_take, ← hx, List.take_take, Nat.mul_one, Nat.mul_one, Nat.min_eq_left hk]
theorem Kept.cut {H : Holds} {s : List Int} {B : Int} {w : World} {b : Nat} {Q : Nat → Prop} {W : World} {vd vm vd' vm' : Value} {F F' : List ByteArray} {M M' : List Int} {L : St} (h : Kept H s B w b Q W vd vm F M L) (h1 : HasT W w.heap.size vd' F') (e1 : vd'.ownBlock = vd.ownBlock) (h2 : Has W w.heap.size vm' M') (e2 : vm'.ownBlock = vm.ownBlock) : Kept H s B w b Q W vd' vm' F' M' L :=
  ⟨h.log, h.far, h1, h2, by have := h.off; unfold Off at this ⊢; rw [e1, e2]; exact this, fun k e => h.offd k (by rw [← e1]; exact e), fun k e => h.offm k (by rw [← e2]; exact e), h.below⟩

end Go.Proofs.YtjojeifoddonnakGreatDoor.Lg19

/-
  More numbers of chapter 19: fixed frames; what is put, step by step. No program here.
-/
namespace Go.Proofs.YtjojeifoddonnakGreatDoor.Lg19
open Go.Proofs.YtjojeifoddonnakGreatDoor.Tre Go.Proofs.YtjojeifoddonnakGreatDoor.Bnd Go.Proofs.YtjojeifoddonnakGreatDoor.Shr Go.Proofs.YtjojeifoddonnakGreatDoor.Frm Go.Proofs.YtjojeifoddonnakGreatDoor.Pck Go.Proofs.YtjojeifoddonnakGreatDoor.Wid Go.Proofs.YtjojeifoddonnakGreatDoor.Hrn
set_option linter.unusedVariables false

theorem byt_zero : byt ⟨#[0]⟩ = [0] := rfl
theorem byt_four : byt ⟨#[4]⟩ = [4] := rfl
theorem byt_none : byt ⟨#[]⟩ = [] := rfl
theorem fact_two : bf [2] = 0 := by decide +kernel
theorem fact_new : Hid18.newF [2] 0 = 0 ∧ Hid18.newF [2] 10 = 0 := by decide +kernel
theorem frm_two (g : Int) (hg : gok g = true) (hv : given [g] [2] 0 = [0]) : FrmF [(g, [0, 0])] [2] 0 0 := by
  refine Or.inr ⟨fact_two, Or.inr ⟨rfl, Or.inr ⟨fun i hi => ?_, Or.inr ⟨?_, Or.inr ⟨⟨by omega, by omega⟩, Or.inr ⟨fun i hi => ?_, rfl⟩⟩⟩⟩⟩⟩
  · obtain rfl : i = 0 := by simpa using hi
    rfl
  · show (if gok g = true then (if Pls.fault [0, 0] = 0 then 0 else Pls.fault [0, 0]) else 1) = 0
    rw [if_pos hg]
    decide +kernel
  · obtain rfl : i = 0 := by simpa using hi
    show ((Pls.loud [0, 0] : Nat) : Int) = at0 (given [g] [2] 0) 0
    rw [hv]
    decide +kernel
theorem unp_zero : UnpF [0] [2] 0 0 [(0, [0, 0])] := by
  refine Or.inr ⟨fact_two, Or.inr ⟨⟨by omega, by omega⟩, Or.inr ⟨⟨frm_two 0 (by decide +kernel) (by decide +kernel), by decide +kernel, by decide +kernel⟩, rfl⟩⟩⟩
theorem unp_four : UnpF [4] [2] 0 0 [(1, [0, 0])] := by
  refine Or.inr ⟨fact_two, Or.inr ⟨⟨by omega, by omega⟩, Or.inr ⟨⟨frm_two 1 (by decide +kernel) (by decide +kernel), by decide +kernel, by decide +kernel⟩, rfl⟩⟩⟩
theorem unp_nil : UnpF [] [2] 0 2 [] := by
  refine Or.inr ⟨fact_two, Or.inr ⟨⟨by omega, by omega⟩, Or.inl ⟨fun qs hq => ?_, rfl, rfl⟩⟩⟩
  have := hq.size
  simp at this
  omega

section
variable {s : List Int} {B : Int} {L L' : St} {x : ByteArray} {E : Int} {ps : List Prt}
theorem put_stopped (h : PutF s B L x E L') (hs : L.st = true) : E = 6 ∧ L' = L := by
  rcases h with ⟨_, h1, h2⟩ | ⟨h1, _⟩
  · exact ⟨h1, h2⟩
  · rw [hs] at h1; cases h1
theorem put_full (h : PutF s B L x E L') (hs : L.st = false) (hf : 20 ≤ L.F.length) : E = 4 ∧ L' = L := by
  rcases h with ⟨h1, _⟩ | ⟨_, h⟩
  · rw [hs] at h1; cases h1
  rcases h with ⟨_, h1, h2⟩ | ⟨h1, _⟩
  · exact ⟨h1, h2⟩
  · omega
theorem put_wrong {U : Int} (h : PutF s B L x E L') (hs : L.st = false) (hf : L.F.length < 20) (hx : UnpF (byt x) s B U ps) (hU : U ≠ 0) : E = U ∧ L' = L := by
  rcases h with ⟨h1, _⟩ | ⟨_, h⟩
  · rw [hs] at h1; cases h1
  rcases h with ⟨h1, _⟩ | ⟨_, U', qs, hu, h⟩
  · omega
  obtain ⟨rfl, _⟩ := hu.one hx
  rcases h with ⟨_, h1, h2⟩ | ⟨h1, _⟩
  · exact ⟨h1, h2⟩
  · exact absurd h1 hU
theorem put_stops (h : PutF s B L x E L') (hs : L.st = false) (hf : L.F.length < 20) (hx : UnpF (byt x) s B 0 ps) (h0 : L.f = some 0) : E = 6 ∧ ∃ r f', 2 ≤ r ∧ r ≤ 100000 ∧ L' = ⟨L.F, L.M, L.b + r / 2, L.s, true, f'⟩ := by
  rcases h with ⟨h1, _⟩ | ⟨_, h⟩
  · rw [hs] at h1; cases h1
  rcases h with ⟨h1, _⟩ | ⟨_, U', qs, hu, h⟩
  · omega
  obtain ⟨rfl, _⟩ := hu.one hx
  rcases h with ⟨h1, _⟩ | ⟨_, h⟩
  · exact absurd rfl h1
  rcases h with ⟨_, h1, h2⟩ | ⟨h1, _⟩
  · exact ⟨h1, h2⟩
  · exact absurd h0 h1
theorem put_goes (h : PutF s B L x E L') (hs : L.st = false) (hf : L.F.length < 20) (hx : UnpF (byt x) s B 0 ps) (h0 : L.f ≠ some 0) : E = 0 ∧ ∃ r, 2 ≤ r ∧ r ≤ 100000 ∧ L' = ⟨L.F ++ [x], L.M ++ [L.b + r], L.b + r, L.s, false, L.f.map Nat.pred⟩ := by
  rcases h with ⟨h1, _⟩ | ⟨_, h⟩
  · rw [hs] at h1; cases h1
  rcases h with ⟨h1, _⟩ | ⟨_, U', qs, hu, h⟩
  · omega
  obtain ⟨rfl, _⟩ := hu.one hx
  rcases h with ⟨h1, _⟩ | ⟨_, h⟩
  · exact absurd rfl h1
  rcases h with ⟨h1, _⟩ | ⟨_, h1, h2⟩
  · exact absurd h1 h0
  · exact ⟨h1, h2⟩
theorem sync_stopped (h : SyncF L E L') (hs : L.st = true) : E = 6 ∧ L' = L := by
  rcases h with ⟨_, h1, h2⟩ | ⟨h1, _⟩
  · exact ⟨h1, h2⟩
  · rw [hs] at h1; cases h1
theorem sync_stops (h : SyncF L E L') (hs : L.st = false) (h0 : L.f = some 0) : E = 6 ∧ ∃ f', L' = ⟨L.F, L.M, L.b, L.s, true, f'⟩ := by
  rcases h with ⟨h1, _⟩ | ⟨_, h⟩
  · rw [hs] at h1; cases h1
  rcases h with ⟨_, h1, h2⟩ | ⟨h1, _⟩
  · exact ⟨h1, h2⟩
  · exact absurd h0 h1
theorem sync_goes (h : SyncF L E L') (hs : L.st = false) (h0 : L.f ≠ some 0) : E = 0 ∧ L' = ⟨L.F, L.M, L.b, L.b, false, L.f.map Nat.pred⟩ := by
  rcases h with ⟨h1, _⟩ | ⟨_, h⟩
  · rw [hs] at h1; cases h1
  rcases h with ⟨h1, _⟩ | ⟨_, h1, h2⟩
  · exact absurd h1 h0
  · exact ⟨h1, h2⟩
theorem Ok.least (h : Ok L) : 2 * (L.F.length : Int) ≤ L.b := by
  have h1 : ∀ i, i ≤ L.F.length → 2 * (i : Int) ≤ at0 L.M i := fun i hi => by
    induction i with
    | zero => rw [h.zero]; omega
    | succ i ih =>
      have h2 := ih (by omega)
      have h3 := h.up i (by omega)
      omega
  have h2 := h1 _ (Nat.le_refl _)
  have h3 := h.top.1
  omega
/-- A Sync that says nothing leaves nothing unsafe. -/
theorem sync_safe (h : SyncF L E L') (hE : E = 0) : L'.s = L'.b := by
  rcases h with ⟨_, h1, _⟩ | ⟨_, h⟩
  · omega
  rcases h with ⟨_, h1, _⟩ | ⟨_, _, rfl⟩
  · omega
  · rfl
theorem sync_same (h : SyncF L E L') : L'.F = L.F ∧ L'.M = L.M := by
  rcases h with ⟨_, _, rfl⟩ | ⟨_, h⟩
  · exact ⟨rfl, rfl⟩
  rcases h with ⟨_, _, f', rfl⟩ | ⟨_, _, rfl⟩
  · exact ⟨rfl, rfl⟩
  · exact ⟨rfl, rfl⟩
theorem fail_same {n : Int} (h : FailF L n L') : L'.F = L.F ∧ L'.M = L.M := by
  obtain ⟨f', _, rfl⟩ := h
  exact ⟨rfl, rfl⟩
/-- A Put that says nothing: a frame more, a record more. -/
theorem put_zero (h : PutF s B L x E L') (hE : E = 0) : L.F.length < 20 ∧ (∃ ps, UnpF (byt x) s B 0 ps) ∧ ∃ r f', 2 ≤ r ∧ r ≤ 100000 ∧ L' = ⟨L.F ++ [x], L.M ++ [L.b + r], L.b + r, L.s, false, f'⟩ := by
  rcases h with ⟨_, h1, _⟩ | ⟨_, h⟩
  · omega
  rcases h with ⟨_, h1, _⟩ | ⟨hf, U, qs, hu, h⟩
  · omega
  rcases h with ⟨h1, h2, _⟩ | ⟨rfl, h⟩
  · omega
  rcases h with ⟨_, h1, _⟩ | ⟨_, _, r, h1, h2, h3⟩
  · omega
  · exact ⟨hf, ⟨qs, hu⟩, r, _, h1, h2, h3⟩
/-- A Put that says something: all frames and records as they were; it is what is wrong, or it has stopped. -/
theorem put_some {e : Int} {qs : List Prt} (h : PutF s B L x E L') (hE : E ≠ 0) (hu : UnpF (byt x) s B e qs) : L'.F = L.F ∧ L'.M = L.M ∧ (E = 6 ∨ E = if 20 ≤ L.F.length then 4 else e) := by
  rcases h with ⟨_, h1, rfl⟩ | ⟨_, h⟩
  · exact ⟨rfl, rfl, Or.inl h1⟩
  rcases h with ⟨hf, h1, rfl⟩ | ⟨hf, U, ps, hu', h⟩
  · exact ⟨rfl, rfl, Or.inr (by rw [if_pos hf]; exact h1)⟩
  obtain ⟨rfl, _⟩ := hu'.one hu
  rcases h with ⟨_, h1, rfl⟩ | ⟨_, h⟩
  · exact ⟨rfl, rfl, Or.inr (by rw [if_neg (by omega)]; exact h1)⟩
  rcases h with ⟨_, h1, r, f', _, _, rfl⟩ | ⟨_, h1, _⟩
  · exact ⟨rfl, rfl, Or.inl h1⟩
  · exact absurd h1 hE
end
/-- One that is safe, one that is not, and a crash. -/
theorem fact_crash {E1 E2 E3 : Int} {L1 L2 L3 : St} (h1 : PutF [2] 0 none0 ⟨#[0]⟩ E1 L1) (h2 : SyncF L1 E2 L2) (h3 : PutF [2] 0 L2 ⟨#[4]⟩ E3 L3) : E1 = 0 ∧ E2 = 0 ∧ E3 = 0 ∧ (crash L3 0).F = [⟨#[0]⟩] ∧ (crash L3 0).b = (crash L3 0).s := by
  obtain ⟨rfl, r, r1, r2, rfl⟩ := put_goes h1 rfl (by simp [none0]) (by rw [byt_zero]; exact unp_zero) (by simp [none0])
  obtain ⟨rfl, rfl⟩ := sync_goes h2 rfl (by simp [none0])
  obtain ⟨rfl, q, q1, q2, rfl⟩ := put_goes h3 rfl (by simp [none0]) (by rw [byt_four]; exact unp_four) (by simp [none0])
  refine ⟨rfl, rfl, rfl, ?_, rfl⟩
  have hl : left ⟨[⟨#[0]⟩, ⟨#[4]⟩], [0, 0 + r, 0 + r + q], 0 + r + q, 0 + r, false, none⟩ 0 = 1 := by
    unfold left high
    rw [if_neg (by omega)]
    show lst [0, 0 + r, 0 + r + q] (0 + r) 3 = 1
    have e2 : at0 [0, 0 + r, 0 + r + q] 2 = 0 + r + q := rfl
    have e1 : at0 [0, 0 + r, 0 + r + q] 1 = 0 + r := rfl
    rw [lst, e2, if_neg (by omega), lst, e1, if_pos (by omega)]
  show ([⟨#[0]⟩, ⟨#[4]⟩] : List ByteArray).take (left ⟨[⟨#[0]⟩, ⟨#[4]⟩], [0, 0 + r, 0 + r + q], 0 + r + q, 0 + r, false, none⟩ 0) = [⟨#[0]⟩]
  rw [hl]
  rfl

end Go.Proofs.YtjojeifoddonnakGreatDoor.Lg19

/-
  What is told of a frame that is packed, and of bytes that are unpacked, with a fault and without.
-/
namespace Go.Proofs.YtjojeifoddonnakGreatDoor.Pck
open Go.RowKit
open Go.Proofs.YtjojeifoddonnakGreatDoor.Tre Go.Proofs.YtjojeifoddonnakGreatDoor.Bnd Go.Proofs.YtjojeifoddonnakGreatDoor.Ev Go.Proofs.YtjojeifoddonnakGreatDoor.Frm Go.Proofs.YtjojeifoddonnakGreatDoor.Wid Go.Proofs.YtjojeifoddonnakGreatDoor.Hrn
set_option linter.unusedVariables false

/-- The text of a frame: none with a fault. -/
def pstr (ps : List Prt) (E : Int) : ByteArray := if E = 0 then str (oct (pbits ps)) else { data := #[] }
theorem pstr_ok (ps : List Prt) : pstr ps 0 = str (oct (pbits ps)) := rfl
theorem pstr_no (ps : List Prt) {E : Int} (h : E ≠ 0) : pstr ps E = { data := #[] } := by unfold pstr; rw [if_neg h]
/-- What Pack tells. -/
def PackSays (ps : List Prt) (s : List Int) (B : Int) (w : World) (e : Ending) (w' : World) : Prop := ∃ E, e = .returned (.tuple #[.string (pstr ps E), errV E]) ∧ PckF ps s B E ∧ Below w.heap.size w w'
/-- What Unpack tells. -/
def UnpSays (x : ByteArray) (s : List Int) (B : Int) (w : World) (e : Ending) (w' : World) : Prop :=
  ∃ E p q ps, e = .returned (.tuple #[.slice p ps.length q, errV E]) ∧ PtsN w.heap.size w' p ps ∧ ps.length ≤ q ∧ q ≤ 9223372036854775807 ∧ UnpF (byt x) s B E ps ∧ Below w.heap.size w w'

end Go.Proofs.YtjojeifoddonnakGreatDoor.Pck

/-
  The numbers of the landed log: a record is a byte that tells how long the frame is, then the frame; the records lie one behind the other, and less than one may be the last. No program here.
-/
namespace Go.Proofs.YtjojeifoddonnakGreatDoor.Lg19
open Go.Proofs.YtjojeifoddonnakGreatDoor.Tre Go.Proofs.YtjojeifoddonnakGreatDoor.Frm Go.Proofs.YtjojeifoddonnakGreatDoor.Pck Go.Proofs.YtjojeifoddonnakGreatDoor.Hrn Go.Proofs.YtjojeifoddonnakGreatDoor.Scl
set_option linter.unusedVariables false

def rcd (x : ByteArray) : List Int := (x.size : Int) :: byt x
def rcds : List ByteArray → List Int
  | [] => []
  | x :: F => rcd x ++ rcds F
theorem rcd_length (x : ByteArray) : (rcd x).length = x.size + 1 := by simp [rcd, byt_length]
theorem rcds_append (F G : List ByteArray) : rcds (F ++ G) = rcds F ++ rcds G := by
  induction F with
  | nil => rfl
  | cons x F ih => show rcd x ++ rcds (F ++ G) = (rcd x ++ rcds F) ++ rcds G; rw [ih, List.append_assoc]
theorem rcds_one (x : ByteArray) : rcds [x] = rcd x := by show rcd x ++ [] = rcd x; rw [List.append_nil]
/-- No whole record. -/
def Less (T : List Int) : Prop := T = [] ∨ ∃ n T', T = n :: T' ∧ (T'.length : Int) < n
theorem Less.nil : Less [] := Or.inl rfl
theorem Less.take {T : List Int} (h : Less T) (k : Nat) : Less (T.take k) := by
  rcases h with rfl | ⟨n, T', rfl, h⟩
  · rw [List.take_nil]; exact Less.nil
  · cases k with
    | zero => exact Or.inl rfl
    | succ k => exact Or.inr ⟨n, T'.take k, rfl, by rw [List.length_take]; omega⟩
theorem rcd_less (x : ByteArray) {k : Nat} (h : k < x.size + 1) : Less ((rcd x).take k) := by
  cases k with
  | zero => exact Or.inl rfl
  | succ k => exact Or.inr ⟨(x.size : Int), (byt x).take k, rfl, by rw [List.length_take, byt_length]; omega⟩
/-- Where the records end. -/
def ends (F : List ByteArray) (i : Nat) : Nat := (rcds (F.take i)).length
theorem ends_zero (F : List ByteArray) : ends F 0 = 0 := rfl
theorem ends_all (F : List ByteArray) {i : Nat} (h : F.length ≤ i) : ends F i = (rcds F).length := by unfold ends; rw [List.take_of_length_le h]
theorem take_next {F : List ByteArray} {i : Nat} (h : i < F.length) : F.take (i + 1) = F.take i ++ [F.getD i ⟨#[]⟩] := by
  rw [List.take_add_one, List.getElem?_eq_getElem h]
  simp [List.getD_eq_getElem?_getD, h]
theorem ends_next (F : List ByteArray) {i : Nat} (h : i < F.length) : ends F (i + 1) = ends F i + (F.getD i ⟨#[]⟩).size + 1 := by
  unfold ends
  rw [take_next h, rcds_append, rcds_one, List.length_append, rcd_length]
  omega
theorem ends_old {F : List ByteArray} {x : ByteArray} {i : Nat} (h : i ≤ F.length) : ends (F ++ [x]) i = ends F i := by unfold ends; rw [List.take_append_of_le_length h]
theorem ends_take {F : List ByteArray} {k i : Nat} (h : i ≤ k) : ends (F.take k) i = ends F i := by unfold ends; rw [List.take_take, Nat.min_eq_left h]
theorem rcds_drop (F : List ByteArray) {i : Nat} (h : i ≤ F.length) : rcds F = rcds (F.take i) ++ rcds (F.drop i) := by rw [← rcds_append, List.take_append_drop]
theorem drop_next {F : List ByteArray} {i : Nat} (h : i < F.length) : F.drop i = F.getD i ⟨#[]⟩ :: F.drop (i + 1) := by
  rw [List.drop_eq_getElem_cons h]
  simp [List.getD_eq_getElem?_getD, h]
/-- The byte ahead of a frame, and the frame. -/
theorem rcds_at {F : List ByteArray} {T : List Int} {i : Nat} (h : i < F.length) : (rcds F ++ T).drop (ends F i) = ((F.getD i ⟨#[]⟩).size : Int) :: (byt (F.getD i ⟨#[]⟩) ++ (rcds (F.drop (i + 1)) ++ T)) := by
  rw [rcds_drop F (Nat.le_of_lt h), List.append_assoc]
  unfold ends
  rw [List.drop_left, drop_next h]
  show ((rcd _ ++ rcds _) ++ T) = _
  rw [List.append_assoc]
  rfl
theorem at0_drop {l m : List Int} {k : Nat} {x : Int} (h : l.drop k = x :: m) : at0 l k = x := by
  unfold at0
  have : (l.drop k)[0]? = some x := by rw [h]; rfl
  rw [List.getElem?_drop, Nat.add_zero] at this
  rw [this]; rfl
theorem rcds_head {F : List ByteArray} {T : List Int} {i : Nat} (h : i < F.length) : at0 (rcds F ++ T) (ends F i) = ((F.getD i ⟨#[]⟩).size : Int) := at0_drop (rcds_at h)
theorem rcds_body {F : List ByteArray} {T : List Int} {i : Nat} (h : i < F.length) : ((rcds F ++ T).take (ends F (i + 1))).drop (ends F i + 1) = byt (F.getD i ⟨#[]⟩) := by
  have e := rcds_at (T := T) h
  have e2 : (rcds F ++ T).drop (ends F i + 1) = byt (F.getD i ⟨#[]⟩) ++ (rcds (F.drop (i + 1)) ++ T) := by rw [← List.drop_drop, e]; rfl
  rw [List.drop_take, e2, ends_next F h, show ends F i + (F.getD i ⟨#[]⟩).size + 1 - (ends F i + 1) = (byt (F.getD i ⟨#[]⟩)).length by rw [byt_length]; omega, List.take_left]
theorem ends_in {F : List ByteArray} {i : Nat} (h : i ≤ F.length) : ends F i ≤ (rcds F).length := by
  rw [rcds_drop F h, List.length_append]
  unfold ends
  omega
/-- Behind all records: what is there is no whole one. -/
theorem less_end {F : List ByteArray} {T : List Int} (h : Less T) (h0 : (rcds F).length < (rcds F ++ T).length) : ((rcds F ++ T).length : Int) < (rcds F).length + 1 + at0 (rcds F ++ T) (rcds F).length := by
  rcases h with rfl | ⟨n, T', rfl, hn⟩
  · simp at h0
  · rw [at0_drop (x := n) (m := T') List.drop_left, List.length_append, List.length_cons]
    omega
/-- A cut somewhere. -/
theorem cut_at {F : List ByteArray} {T : List Int} (hT : Less T) {i h : Nat} (hi : i ≤ F.length) (h1 : ends F i ≤ h) (h2 : i < F.length → h < ends F (i + 1)) : ∃ T', (rcds F ++ T).take h = rcds (F.take i) ++ T' ∧ Less T' := by
  have e : rcds F ++ T = rcds (F.take i) ++ (rcds (F.drop i) ++ T) := by rw [← List.append_assoc, ← rcds_drop F hi]
  refine ⟨(rcds (F.drop i) ++ T).take (h - ends F i), ?_, ?_⟩
  · rw [e, List.take_append]
    unfold ends at h1 ⊢
    rw [List.take_of_length_le h1]
  · by_cases hf : i < F.length
    · have h3 := h2 hf
      rw [ends_next F hf] at h3
      rw [drop_next hf]
      show Less (((rcd _ ++ rcds _) ++ T).take _)
      rw [List.append_assoc, List.take_append_of_le_length (by rw [rcd_length]; omega)]
      exact rcd_less _ (by omega)
    · rw [List.drop_eq_nil_of_le (by omega)]
      exact hT.take _
/-- Steps that are left, as they are told. -/
def steps (n : Int) : Option Nat := if n < 0 then none else some n.toNat
theorem steps_low {n : Int} (h : n < 0) : steps n = none := if_pos h
theorem steps_high {n : Int} (h : ¬ n < 0) : steps n = some n.toNat := if_neg h
/-- The counter, told: none stops, or the next one, or a later one. -/
theorem steps_zero {f : Option Nat} {lf : Int} (h : f = steps lf) (h0 : lf = 0) : f = some 0 := by rw [h, h0]; rfl
theorem steps_none {f : Option Nat} {lf : Int} (h : f = steps lf) (h0 : lf < 0) : f ≠ some 0 ∧ steps lf = f.map Nat.pred := by
  rw [h, steps_low h0]
  exact ⟨by simp, rfl⟩
theorem steps_more {f : Option Nat} {lf : Int} (h : f = steps lf) (h0 : 0 < lf) : f ≠ some 0 ∧ steps (lf - 1) = f.map Nat.pred := by
  rw [h, steps_high (by omega), steps_high (by omega)]
  refine ⟨fun e => ?_, ?_⟩
  · have := Option.some.inj e
    omega
  · show some (lf - 1).toNat = some (Nat.pred lf.toNat)
    congr 1
    rw [Nat.pred_eq_sub_one]
    omega
/-- A log's bytes and its counter are those of what it is told to be. -/
structure Inv (L : St) (D : List Int) (lf : Int) : Prop where
  dat : ∃ T, D = rcds L.F ++ T ∧ Less T ∧ T.length ≤ 51 ∧ (L.st = false → T = [])
  byts : Byts D
  frs : ∀ i, i < L.F.length → 1 ≤ (L.F.getD i ⟨#[]⟩).size ∧ (L.F.getD i ⟨#[]⟩).size ≤ 50
  few : L.F.length ≤ 20
  mlen : L.M.length = L.F.length + 1
  mrk : ∀ i, i ≤ L.F.length → at0 L.M i = (ends L.F i : Int)
  b : L.b = (D.length : Int)
  s : ∃ i, i ≤ L.F.length ∧ L.s = (ends L.F i : Int)
  f : L.f = steps lf
theorem inv_none0 : Inv none0 [] (-1) := ⟨⟨[], rfl, Less.nil, Nat.zero_le _, fun _ => rfl⟩, fun b hb => by simp at hb, fun i hi => by simp [none0] at hi, by simp [none0], rfl, fun i hi => by
  obtain rfl : i = 0 := by simpa [none0] using hi
  rfl, rfl, ⟨0, Nat.le_refl _, rfl⟩, rfl⟩
section
variable {L : St} {D : List Int} {lf : Int}
theorem ends_most {F : List ByteArray} (hf : ∀ i, i < F.length → 1 ≤ (F.getD i ⟨#[]⟩).size ∧ (F.getD i ⟨#[]⟩).size ≤ 50) {i : Nat} (hi : i ≤ F.length) : ends F i ≤ 51 * i := by
  induction i with
  | zero => rw [ends_zero]; omega
  | succ i ih =>
    have := ih (by omega)
    have := hf i (by omega)
    rw [ends_next F (by omega)]
    omega
theorem Inv.long (h : Inv L D lf) : D.length ≤ 1071 ∧ (rcds L.F).length ≤ 1020 ∧ (rcds L.F).length ≤ D.length := by
  obtain ⟨T, rfl, _, h3, _⟩ := h.dat
  have h1 := ends_most h.frs (Nat.le_refl _)
  rw [ends_all _ (Nat.le_refl _)] at h1
  have h2 := h.few
  rw [List.length_append]
  omega
theorem Inv.ok (h : Inv L D lf) : Ok L := by
  obtain ⟨T, hD, h1, h2, h3⟩ := h.dat
  have hT : (ends L.F L.F.length : Int) = ((rcds L.F).length : Int) := by rw [ends_all _ (Nat.le_refl _)]
  have hl : (D.length : Int) = (rcds L.F).length + T.length := by rw [hD, List.length_append]; omega
  refine ⟨h.mlen, by rw [h.mrk 0 (by omega), ends_zero]; rfl, fun i hi => ?_, h.few, ?_, fun e => ?_, ?_⟩
  · have := h.frs i hi
    have := ends_next L.F hi
    rw [h.mrk i (by omega), h.mrk (i + 1) (by omega)]
    omega
  · rw [h.mrk _ (Nat.le_refl _), hT, h.b]
    omega
  · have e2 := h3 e
    rw [h.mrk _ (Nat.le_refl _), hT, h.b, hl, e2]
    simp
  · obtain ⟨i, hi, hs⟩ := h.s
    exact ⟨i, hi, by rw [h.mrk i hi]; exact hs⟩
theorem Inv.safe (h : Inv L D lf) : 0 ≤ L.s ∧ L.s ≤ D.length := by
  obtain ⟨i, hi, hs⟩ := h.s
  have := ends_in hi
  have := h.long.2.2
  omega
/-- A whole frame behind all. -/
theorem Inv.put (h : Inv L D lf) (hst : L.st = false) (hf : L.F.length < 20) {x : ByteArray} (h1 : 1 ≤ x.size) (h2 : x.size ≤ 50) (l2 : Int) (hl : steps l2 = (L.f).map Nat.pred) :
    Inv ⟨L.F ++ [x], L.M ++ [L.b + (x.size + 1 : Nat)], L.b + (x.size + 1 : Nat), L.s, false, L.f.map Nat.pred⟩ (D ++ rcd x) l2 := by
  obtain ⟨T, hD, _, _, h3⟩ := h.dat
  have hT := h3 hst
  subst hT
  rw [List.append_nil] at hD
  have hF : (L.F ++ [x]).length = L.F.length + 1 := by simp
  refine ⟨⟨[], ?_, Less.nil, by simp, fun _ => rfl⟩, ?_, fun i hi => ?_, ?_, ?_, fun i hi => ?_, ?_, ?_, hl.symm⟩
  · show D ++ rcd x = rcds (L.F ++ [x]) ++ []
    rw [List.append_nil, rcds_append, rcds_one, hD]
  · intro c hc
    rcases List.mem_append.1 hc with hc | hc
    · exact h.byts c hc
    · rcases List.mem_cons.1 hc with rfl | hc
      · omega
      · exact byt_byts x c hc
  · have hi' : i < L.F.length + 1 := by rw [← hF]; exact hi
    show 1 ≤ ((L.F ++ [x]).getD i ⟨#[]⟩).size ∧ ((L.F ++ [x]).getD i ⟨#[]⟩).size ≤ 50
    by_cases e : i = L.F.length
    · subst e
      simp [List.getD_eq_getElem?_getD]
      omega
    · have := h.frs i (by omega)
      simp only [List.getD_eq_getElem?_getD] at this ⊢
      rw [List.getElem?_append_left (by omega)]
      exact this
  · show (L.F ++ [x]).length ≤ 20
    rw [hF]; omega
  · show (L.M ++ [_]).length = (L.F ++ [x]).length + 1
    rw [hF, List.length_append, h.mlen]
    rfl
  · show at0 (L.M ++ [L.b + (x.size + 1 : Nat)]) i = (ends (L.F ++ [x]) i : Int)
    have hi' : i ≤ L.F.length + 1 := by rw [← hF]; exact hi
    by_cases e : i = L.F.length + 1
    · subst e
      rw [← h.mlen, at0_top, h.b, ends_all _ (by rw [hF, h.mlen]; omega), rcds_append, rcds_one, List.length_append, rcd_length, ← hD]
      omega
    · rw [at0_push (by rw [h.mlen]; omega), ends_old (by omega)]
      exact h.mrk i (by omega)
  · show L.b + (x.size + 1 : Nat) = ((D ++ rcd x).length : Int)
    rw [h.b, List.length_append, rcd_length]
    omega
  · obtain ⟨i, hi, hs⟩ := h.s
    refine ⟨i, ?_, ?_⟩
    · show i ≤ (L.F ++ [x]).length
      rw [hF]; omega
    · show L.s = (ends (L.F ++ [x]) i : Int)
      rw [ends_old hi]; exact hs
/-- Half of one behind all. -/
theorem Inv.half (h : Inv L D lf) (hst : L.st = false) {x : ByteArray} (h1 : 1 ≤ x.size) (h2 : x.size ≤ 50) :
    Inv ⟨L.F, L.M, L.b + ((x.size + 1 : Nat) : Int) / 2, L.s, true, none⟩ (D ++ (rcd x).take ((x.size + 1) / 2)) (-1) := by
  obtain ⟨T, hD, _, _, h3⟩ := h.dat
  have hT := h3 hst
  subst hT
  rw [List.append_nil] at hD
  refine ⟨⟨(rcd x).take ((x.size + 1) / 2), ?_, rcd_less x (by omega), by rw [List.length_take, rcd_length]; omega, fun e => (by cases e)⟩, ?_, h.frs, h.few, h.mlen, h.mrk, ?_, h.s, rfl⟩
  · rw [hD]
  · intro c hc
    rcases List.mem_append.1 hc with hc | hc
    · exact h.byts c hc
    · rcases List.mem_cons.1 (List.mem_of_mem_take hc) with rfl | hc
      · omega
      · exact byt_byts x c hc
  · show L.b + _ = ((D ++ _).length : Int)
    rw [h.b, List.length_append, List.length_take, rcd_length]
    omega
theorem Inv.sync (h : Inv L D lf) (hst : L.st = false) (l2 : Int) (hl : steps l2 = (L.f).map Nat.pred) : Inv ⟨L.F, L.M, L.b, L.b, false, L.f.map Nat.pred⟩ D l2 := by
  obtain ⟨T, hD, h1, h2, h3⟩ := h.dat
  have hT := h3 hst
  refine ⟨⟨T, hD, h1, h2, fun _ => hT⟩, h.byts, h.frs, h.few, h.mlen, h.mrk, h.b, ⟨L.F.length, Nat.le_refl _, ?_⟩, hl.symm⟩
  show L.b = _
  rw [h.b, ends_all _ (Nat.le_refl _), hD, hT, List.append_nil]
theorem Inv.stop (h : Inv L D lf) : Inv ⟨L.F, L.M, L.b, L.s, true, none⟩ D (-1) := by
  obtain ⟨T, hD, h1, h2, h3⟩ := h.dat
  exact ⟨⟨T, hD, h1, h2, fun e => (by cases e)⟩, h.byts, h.frs, h.few, h.mlen, h.mrk, h.b, h.s, rfl⟩
theorem Inv.fail (h : Inv L D lf) (n : Int) : Inv ⟨L.F, L.M, L.b, L.s, L.st, steps n⟩ D n := ⟨h.dat, h.byts, h.frs, h.few, h.mlen, h.mrk, h.b, h.s, rfl⟩
theorem lst_next (M : List Int) (h : Int) (k : Nat) {i : Nat} (h1 : lst M h k < i) (h2 : i < k) : h < at0 M i := by
  induction k with
  | zero => omega
  | succ k ih =>
    rw [lst] at h1
    split at h1
    · omega
    · by_cases e : i = k
      · subst e; omega
      · exact ih h1 (by omega)
/-- What a crash leaves. -/
theorem Inv.cut (h : Inv L D lf) (keep : Int) : ∃ hh : Nat, high L keep = (hh : Int) ∧ hh ≤ D.length ∧ (∃ T', D.take hh = rcds (L.F.take (left L keep)) ++ T' ∧ Less T') ∧ (rcds (L.F.take (left L keep))).length ≤ hh ∧
    Inv (crash L keep) (D.take (rcds (L.F.take (left L keep))).length) (-1) := by
  obtain ⟨T, hD, h1, h2, h3⟩ := h.dat
  have hs := h.safe
  have hb := h.b
  have hh : 0 ≤ high L keep ∧ high L keep ≤ D.length := by
    unfold high
    split
    · split <;> omega
    · omega
  obtain ⟨n, hn⟩ : ∃ n : Nat, high L keep = n := ⟨(high L keep).toNat, by omega⟩
  have hll : left L keep ≤ L.F.length := by
    have := lst_le L.M (high L keep) L.M.length
    unfold left
    rw [h.mlen] at this ⊢
    omega
  have hlo : (ends L.F (left L keep) : Int) ≤ n := by
    rw [← h.mrk _ hll, ← hn]
    exact lst_is _ (by rw [h.mrk 0 (by omega), ends_zero]; exact hh.1) _
  have hhi : left L keep < L.F.length → n < ends L.F (left L keep + 1) := fun hlt => by
    have := lst_next L.M (high L keep) L.M.length (i := left L keep + 1) (Nat.lt_succ_self _) (by rw [h.mlen]; omega)
    rw [h.mrk _ (by omega), hn] at this
    omega
  have hcut := cut_at h1 hll (h := n) (by omega) hhi
  rw [← hD] at hcut
  have hF : (crash L keep).F.length = left L keep := by show (L.F.take _).length = _; rw [List.length_take]; omega
  have hE : (rcds (L.F.take (left L keep))).length = ends L.F (left L keep) := rfl
  refine ⟨n, hn, by omega, hcut, by omega, ⟨[], ?_, Less.nil, by simp, fun _ => rfl⟩, ?_, fun i hi => ?_, ?_, ?_, fun i hi => ?_, ?_, ⟨left L keep, ?_, ?_⟩, rfl⟩
  · show _ = rcds (L.F.take (left L keep)) ++ []
    rw [List.append_nil, hD, rcds_drop L.F hll, List.append_assoc, List.take_left]
  · exact fun c hc => h.byts c (List.mem_of_mem_take hc)
  · rw [hF] at hi
    show 1 ≤ ((L.F.take (left L keep)).getD i ⟨#[]⟩).size ∧ ((L.F.take (left L keep)).getD i ⟨#[]⟩).size ≤ 50
    have := h.frs i (by omega)
    simp only [List.getD_eq_getElem?_getD] at this ⊢
    rw [List.getElem?_take, if_pos hi]
    exact this
  · rw [hF]; have := h.few; omega
  · show (L.M.take _).length = _
    rw [hF, List.length_take, h.mlen]
    omega
  · rw [hF] at hi
    show at0 (L.M.take (left L keep + 1)) i = (ends (L.F.take (left L keep)) i : Int)
    rw [at0_take (by omega), ends_take hi]
    exact h.mrk i (by omega)
  · show at0 L.M (left L keep) = _
    rw [h.mrk _ hll, List.length_take, hE]
    have := ends_in hll
    have := h.long.2.2
    omega
  · rw [hF]; exact Nat.le_refl _
  · show at0 L.M (left L keep) = (ends (L.F.take (left L keep)) (left L keep) : Int)
    rw [ends_take (Nat.le_refl _)]
    exact h.mrk _ hll
end
/-- A frame that is read is short, and not empty. -/
theorem unp_sized {x : ByteArray} {s : List Int} {B : Int} {ps : List Prt} (h : UnpF (byt x) s B 0 ps) (h0 : Hid18.newF s B = 0) : 1 ≤ x.size ∧ x.size ≤ 50 := by
  have hb := (Hid18.newF_zero.1 h0).1
  rcases h with ⟨h1, _⟩ | ⟨_, h⟩
  · exact absurd hb h1
  · rcases h with ⟨_, h, _⟩ | ⟨_, h⟩
    · omega
    · rcases h with ⟨_, h, _⟩ | ⟨h, _⟩
      · omega
      · have h1 := h.size
        have h2 := h.long
        have h3 := (Bnd.bf_ok hb).1
        rw [byt_length] at h1 h2
        omega

end Go.Proofs.YtjojeifoddonnakGreatDoor.Lg19
