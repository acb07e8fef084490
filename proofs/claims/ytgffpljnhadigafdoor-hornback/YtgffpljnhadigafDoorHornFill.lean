/-
  horn.begin and horn.fill: by their contracts.
-/
import Derived.Test.YtgffpljnhadigafDoorStr
import Derived.Deep.QuietTactic
import Derived.BigQuiet
namespace Go.Proofs.YtgffpljnhadigafDoor.Hrn
open Go.RowKit
open Go.Proofs.YtgffpljnhadigafDoor.Tre Go.Proofs.YtgffpljnhadigafDoor.Scl
set_option linter.unusedVariables false

theorem str_extract (l : List Int) (k : Nat) : (str l).extract k (str l).size = str (l.drop k) := by
  apply ByteArray.ext
  rw [ByteArray.data_extract]
  show (u8s l).toArray.extract k (u8s l).toArray.size = (u8s (l.drop k)).toArray
  simp [u8s]
  rw [List.take_of_length_le (by simp)]
/-- A text's byte; the rest of a text; is it empty? -/
theorem run_byte {l : List Int} (hb : Byts l) {i : Nat} (h : i < l.length) (w : World) : (Instr.index 9 (.string (str l)) (.int .i64 i)).run Tryd.prog w = .ok (.int .u8 (at0 l i)) w := by
  have hs : i < (str l).size := by rw [str_size]; exact h
  rw [run_index_string w 9 (str l) .i64 i Tryd.underlying9, dif_pos ⟨by omega, by omega⟩]
  have e : ((i : Int)).toNat = i := by omega
  have e2 := byt_at (str l) hs
  rw [byt_str hb] at e2
  rw [← e2]
  simp only [e]
theorem run_cut {l : List Int} {k : Nat} (h : k ≤ l.length) (w : World) : (Instr.slice 9 (.string (str l)) (some (.int .i64 k)) none none).run Tryd.prog w = .ok (.string (str (l.drop k))) w := by
  rw [run_slice_string_from_if w 9 (str l) .i64 k Tryd.underlying9, if_pos ⟨by omega, by rw [str_size]; omega⟩]
  rw [show ((k : Int)).toNat = k by omega, str_extract]
theorem str_none (l : List Int) : ((str l).toList == []) = decide (l.length = 0) := by
  rw [str_toList]
  cases l <;> simp [u8s]

theorem fill_stop {r : List Int} {x y : Int} {r' : List Int} (hx : 65536 ≤ x) (h : fill r x = some (y, r')) : y = x ∧ r' = r := by
  cases r with
  | nil => simp only [fill, if_pos hx] at h; cases h; exact ⟨rfl, rfl⟩
  | cons b r => simp only [fill, if_pos hx] at h; cases h; exact ⟨rfl, rfl⟩

set_option maxRecDepth 100000 in
set_option maxHeartbeats 4000000 in
theorem fill_ok (x : Int) (r : List Int) (y : Int) (r' : List Int) (w : World) (h0 : 0 ≤ x) (h9 : x < 16777216) (hb : Hid (Byts r)) (h : Hid (fill r x = some (y, r'))) :
    Calls Tryd.prog 34 #[.int .i64 x, .string (str r)] w fun e w' => e = .returned (.tuple #[.int .i64 y, .string (str r'), .nilIface]) ∧ w' = w := by
  go_enter Tryd.func34, Tryd.ntmps34
  go_wp2
  go_loopw [0, 1] (fun n t wr => ∃ (z : Int) (q : List Int), n = .int .i64 z ∧ t = .string (str q) ∧ 0 ≤ z ∧ z < 16777216 ∧ Hid (Byts q) ∧ Hid (fill q z = some (y, r')) ∧ w = wr) (fun _ t _ => match t with | .string s => s.size | _ => 0)
  case atStart => exact ⟨x, r, rfl, rfl, h0, h9, hb, h, rfl⟩
  case round =>
    obtain ⟨z, q, rfl, rfl, z0, z9, HB, HF, rfl⟩ := hrel
    clear h hb
    by_cases hz : z < 65536
    · have hd : decide (z < 65536) = true := by simpa using hz
      cases q with
      | nil =>
        have h1 := unhide HF
        rw [fill, if_neg (by omega)] at h1
        cases h1
      | cons c q =>
        have hn1 := str_none (c :: q)
        rw [show decide ((c :: q).length = 0) = false by simp] at hn1
        have hc := (unhide HB) c (by simp)
        have hix : ∀ W, (Instr.index 9 (.string (str (c :: q))) (.int .i64 0)).run Tryd.prog W = .ok (.int .u8 c) W := fun W => run_byte (unhide HB) (i := 0) (by simp) W
        have hct : ∀ W, (Instr.slice 9 (.string (str (c :: q))) (some (.int .i64 1)) none none).run Tryd.prog W = .ok (.string (str q)) W := fun W => run_cut (l := c :: q) (k := 1) (by simp) W
        have HB2 : Hid (Byts q) := hide (fun b h => (unhide HB) b (by simp [h]))
        have HF2 : Hid (fill q (z * 256 + c) = some (y, r')) := hide (by have h1 := unhide HF; rw [fill, if_neg (by omega)] at h1; exact h1)
        have HSZ : Hid ((str q).size < (str (c :: q)).size) := hide (by rw [str_size, str_size]; simp)
        obtain ⟨c0, c9⟩ := hc
        have n1 : IntKind.i64.wrap (z * 256 + c) = z * 256 + c := IntWalk.i64_in _ (by omega)
        have n2 : IntKind.i64.wrap (z * 256) = z * 256 := IntWalk.i64_in _ (by omega)
        obtain ⟨s, hs⟩ : ∃ s, str (c :: q) = s := ⟨_, rfl⟩
        rw [hs] at hn1 hix hct HSZ ⊢
        clear hs HB HF
        go_wp2
        go_roundw
        case rel => exact ⟨z * 256 + c, q, by first | rfl | go_num, rfl, by omega, by omega, HB2, HF2, by first | trivial | rfl⟩
        case measure => exact unhide HSZ
    · have hd : decide (z < 65536) = false := by simpa using hz
      obtain ⟨rfl, rfl⟩ := fill_stop (by omega) (unhide HF)
      go_wp2
      go_ret3
      exact ⟨rfl, rfl⟩

set_option maxRecDepth 100000 in
set_option maxHeartbeats 4000000 in
theorem fill_no (x : Int) (r : List Int) (w : World) (h0 : 0 ≤ x) (h9 : x < 16777216) (hb : Hid (Byts r)) (h : Hid (fill r x = none)) :
    Calls Tryd.prog 34 #[.int .i64 x, .string (str r)] w fun e w' => e = .returned (.tuple #[.int .i64 0, .string { data := #[] }, .iface 48 (.int .i64 2)]) ∧ w' = w := by
  go_enter Tryd.func34, Tryd.ntmps34
  go_wp2
  go_loopw [0, 1] (fun n t wr => ∃ (z : Int) (q : List Int), n = .int .i64 z ∧ t = .string (str q) ∧ 0 ≤ z ∧ z < 16777216 ∧ Hid (Byts q) ∧ Hid (fill q z = none) ∧ w = wr) (fun _ t _ => match t with | .string s => s.size | _ => 0)
  case atStart => exact ⟨x, r, rfl, rfl, h0, h9, hb, h, rfl⟩
  case round =>
    obtain ⟨z, q, rfl, rfl, z0, z9, HB, HF, rfl⟩ := hrel
    clear h hb
    by_cases hz : z < 65536
    · have hd : decide (z < 65536) = true := by simpa using hz
      cases q with
      | nil =>
        have hn1 := str_none []
        rw [show decide (([] : List Int).length = 0) = true by rfl] at hn1
        obtain ⟨s, hs⟩ : ∃ s, str [] = s := ⟨_, rfl⟩
        rw [hs] at hn1 ⊢
        clear hs HB HF
        go_wp2
        go_ret3
        exact ⟨rfl, rfl⟩
      | cons c q =>
        have hn1 := str_none (c :: q)
        rw [show decide ((c :: q).length = 0) = false by simp] at hn1
        have hc := (unhide HB) c (by simp)
        have hix : ∀ W, (Instr.index 9 (.string (str (c :: q))) (.int .i64 0)).run Tryd.prog W = .ok (.int .u8 c) W := fun W => run_byte (unhide HB) (i := 0) (by simp) W
        have hct : ∀ W, (Instr.slice 9 (.string (str (c :: q))) (some (.int .i64 1)) none none).run Tryd.prog W = .ok (.string (str q)) W := fun W => run_cut (l := c :: q) (k := 1) (by simp) W
        have HB2 : Hid (Byts q) := hide (fun b h => (unhide HB) b (by simp [h]))
        have HF2 : Hid (fill q (z * 256 + c) = none) := hide (by have h1 := unhide HF; rw [fill, if_neg (by omega)] at h1; exact h1)
        have HSZ : Hid ((str q).size < (str (c :: q)).size) := hide (by rw [str_size, str_size]; simp)
        obtain ⟨c0, c9⟩ := hc
        have n1 : IntKind.i64.wrap (z * 256 + c) = z * 256 + c := IntWalk.i64_in _ (by omega)
        have n2 : IntKind.i64.wrap (z * 256) = z * 256 := IntWalk.i64_in _ (by omega)
        obtain ⟨s, hs⟩ : ∃ s, str (c :: q) = s := ⟨_, rfl⟩
        rw [hs] at hn1 hix hct HSZ ⊢
        clear hs HB HF
        go_wp2
        go_roundw
        case rel => exact ⟨z * 256 + c, q, by first | rfl | go_num, rfl, by omega, by omega, HB2, HF2, by first | trivial | rfl⟩
        case measure => exact unhide HSZ
    · have h1 := unhide HF
      rw [fill_enough q (by omega)] at h1
      cases h1

/-- The number of the first i bytes. -/
def nm (bs : List Int) : Nat → Int
  | 0 => 0
  | i + 1 => nm bs i * 256 + at0 bs i
theorem nm_in {bs : List Int} (hb : Byts bs) : ∀ i, i ≤ 3 → i ≤ bs.length → 0 ≤ nm bs i ∧ nm bs i < 256 ^ i := by
  intro i
  induction i with
  | zero => intro _ _; exact ⟨by simp [nm], by simp [nm]⟩
  | succ i ih =>
    intro h3 hl
    obtain ⟨a, b⟩ := ih (by omega) (by omega)
    have e : at0 bs i = bs[i] := by simp [at0, show i < bs.length by omega]
    obtain ⟨c, d⟩ := hb bs[i] (List.getElem_mem _)
    rw [nm, Int.pow_succ, e]
    omega
theorem nm_small {bs : List Int} (hb : Byts bs) {i : Nat} (h3 : i ≤ 3) (hl : 3 ≤ bs.length) : 0 ≤ nm bs i ∧ nm bs i < 16777216 := by
  obtain ⟨a, b⟩ := nm_in hb i h3 (by omega)
  have key : ∀ i : Nat, i < 4 → (256 : Int) ^ i ≤ 16777216 := by decide
  have := key i (by omega)
  exact ⟨a, by omega⟩
theorem nm_three (bs : List Int) : nm bs 3 = at0 bs 0 * 65536 + at0 bs 1 * 256 + at0 bs 2 := by
  simp only [nm]
  omega

/-- What begin tells: the first number, and the rest. -/
theorem begin_short (bs : List Int) (w : World) (h : bs.length < 3) :
    Calls Tryd.prog 33 #[.string (str bs)] w fun e w' => e = .returned (.tuple #[.int .i64 0, .string { data := #[] }, .iface 48 (.int .i64 2)]) ∧ w' = w := by
  have hsz : ∀ W, (Builtin.len_ #[9] 3 #[.string (str bs)]).run Tryd.prog W = .ok (.int .i64 (bs.length : Int)) W := fun W => by rw [run_len_string W 9 3 (str bs) Tryd.underlying9, str_size]; rfl
  obtain ⟨Z, hZ⟩ : ∃ Z, bs.length = Z := ⟨_, rfl⟩
  rw [hZ] at hsz h
  obtain ⟨s, hs⟩ : ∃ s, str bs = s := ⟨_, rfl⟩
  rw [hs] at hsz ⊢
  have hd : decide ((Z : Int) < 3) = true := by simp; omega
  clear hs hZ
  go_enter Tryd.func33, Tryd.ntmps33
  go_wp2
  go_ret3
  exact ⟨rfl, rfl⟩

/-- .. by the number. -/
def Beg (bs : List Int) (w : World) (e : Ending) (w' : World) : Prop :=
  (∃ n, w' = w.drewN n) ∧ ((nm bs 3 < 65536 ∧ e = .returned (.tuple #[.int .i64 0, .string { data := #[] }, .iface 48 (.int .i64 2)])) ∨ (65536 ≤ nm bs 3 ∧ e = .returned (.tuple #[.int .i64 (nm bs 3), .string (str (bs.drop 3)), .nilIface])))

set_option maxRecDepth 100000 in
set_option maxHeartbeats 4000000 in
theorem begin_at (bs : List Int) (w : World) (hb : Hid (Byts bs)) (h : 3 ≤ bs.length) (h9 : bs.length ≤ 9223372036854775807) :
    Calls Tryd.prog 33 #[.string (str bs)] w fun e w' => Beg bs w e w' := by
  have hsz : ∀ W, (Builtin.len_ #[9] 3 #[.string (str bs)]).run Tryd.prog W = .ok (.int .i64 (bs.length : Int)) W := fun W => by rw [run_len_string W 9 3 (str bs) Tryd.underlying9, str_size]; rfl
  have hct : ∀ W, (Instr.slice 9 (.string (str bs)) (some (.int .i64 3)) none none).run Tryd.prog W = .ok (.string (str (bs.drop 3))) W := fun W => run_cut (l := bs) (k := 3) h W
  have HIX : Hid (∀ i : Nat, i < 3 → ∀ W, (Instr.index 9 (.string (str bs)) (.int .i64 i)).run Tryd.prog W = .ok (.int .u8 (at0 bs i)) W) := hide (fun i hi W => run_byte (unhide hb) (by omega) W)
  have HBT : Hid (∀ i, i < 3 → 0 ≤ at0 bs i ∧ at0 bs i ≤ 255) := hide (fun i hi => by
    have e : at0 bs i = bs[i] := by simp [at0, show i < bs.length by omega]
    have := unhide hb bs[i] (List.getElem_mem _)
    omega)
  have HNM : Hid (∀ i, i ≤ 3 → 0 ≤ nm bs i ∧ nm bs i < 16777216) := hide (fun i hi => nm_small (unhide hb) hi h)
  have HP0 : Hid (∀ e w' n, nm bs 3 < 65536 → e = Ending.returned (.tuple #[.int .i64 0, .string { data := #[] }, .iface 48 (.int .i64 2)]) → w' = w.drewN n → Beg bs w e w') := hide (fun e w' n h1 h2 h3 => ⟨⟨n, h3⟩, Or.inl ⟨h1, h2⟩⟩)
  have HP1 : Hid (∀ e w' n, 65536 ≤ nm bs 3 → e = Ending.returned (.tuple #[.int .i64 (nm bs 3), .string (str (bs.drop 3)), .nilIface]) → w' = w.drewN n → Beg bs w e w') := hide (fun e w' n h1 h2 h3 => ⟨⟨n, h3⟩, Or.inr ⟨h1, h2⟩⟩)
  obtain ⟨Z, hZ⟩ : ∃ Z, bs.length = Z := ⟨_, rfl⟩
  rw [hZ] at hsz h h9
  obtain ⟨s, hs⟩ : ∃ s, str bs = s := ⟨_, rfl⟩
  rw [hs] at hsz hct HIX ⊢
  obtain ⟨s3, hs3⟩ : ∃ s3, str (bs.drop 3) = s3 := ⟨_, rfl⟩
  rw [hs3] at hct HP1
  have hd : decide ((Z : Int) < 3) = false := by simp; omega
  clear hs hZ hs3 hb
  go_enter Tryd.func33, Tryd.ntmps33
  go_wp2
  go_loopw [5, 11] (fun n i wr => ∃ (k : Nat) (X : Int), k ≤ 3 ∧ i = .int .i64 k ∧ n = .int .i64 X ∧ Hid (nm bs k = X) ∧ w = wr) (fun _ i _ => 3 - (intOf i).toNat)
  case atStart => exact ⟨0, 0, Nat.zero_le _, rfl, rfl, hide rfl, rfl⟩
  case round =>
    obtain ⟨k, X, hk, rfl, rfl, HX, rfl⟩ := hrel
    obtain ⟨x0, x9⟩ := unhide HNM k hk
    rw [unhide HX] at x0 x9
    by_cases hlt : k < 3
    · have hix := unhide HIX k hlt
      obtain ⟨c0, c9⟩ := unhide HBT k hlt
      have h2 := unhide HNM (k + 1) hlt
      have HX2 : Hid (nm bs (k + 1) = X * 256 + at0 bs k) := hide (by rw [nm, unhide HX])
      rw [unhide HX2] at h2
      obtain ⟨c, hc⟩ : ∃ c, at0 bs k = c := ⟨_, rfl⟩
      rw [hc] at hix c0 c9 HX2 h2
      have n1 : IntKind.i64.wrap (X * 256 + c) = X * 256 + c := IntWalk.i64_in _ (by omega)
      have n2 : IntKind.i64.wrap (X * 256) = X * 256 := IntWalk.i64_in _ (by omega)
      clear hc HX
      go_wp2
      go_roundw
      case rel => exact ⟨k + 1, X * 256 + c, by omega, by go_num, by first | rfl | go_num, HX2, by first | trivial | rfl⟩
      case measure => simp [intOf]; omega
    · obtain rfl : k = 3 := by omega
      by_cases hx : X < 65536
      · have hdx : decide (X < 65536) = true := by simpa using hx
        go_wp2
        go_ret3
        exact unhide HP0 _ _ 0 (by rw [unhide HX]; exact hx) rfl rfl
      · have hdx : decide (X < 65536) = false := by simpa using hx
        go_wp2
        go_quiet (fail)
        go_wp2
        go_ret3
        exact unhide HP1 _ _ _ (by rw [unhide HX]; omega) (by rw [unhide HX]; rfl) rfl

end Go.Proofs.YtgffpljnhadigafDoor.Hrn
