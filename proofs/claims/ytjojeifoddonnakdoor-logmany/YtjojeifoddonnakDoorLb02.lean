/-
  The numbers of chapter 11: signs as bytes, there and back; how many bytes. No program here.
-/
import Derived.Test.YtjojeifoddonnakDoorLb00
namespace Go.Proofs.YtjojeifoddonnakDoor.Hrn
open Go.Proofs.YtjojeifoddonnakDoor.Tre Go.Proofs.YtjojeifoddonnakDoor.Scl
set_option linter.unusedVariables false

/-- From Least to below 256 times as much. -/
def Mid (x : Int) : Prop := 65536 ≤ x ∧ x < 16777216
/-- A low byte is taken off, if so; and which. -/
def ren (F x : Int) : Int := if 65536 * F ≤ x then x / 256 else x
def offb (F x : Int) : List Int := if 65536 * F ≤ x then [x % 256] else []
def put (f : List Int) (s : Nat) (x : Int) : Int := ren (at0 f s) x / at0 f s * 256 + ren (at0 f s) x % at0 f s + pfx f s
/-- The last sign first, onto a number and bytes. -/
def enc (f : List Int) : List Int → Int × List Int → Int × List Int
  | [], z => z
  | s :: l, z => (put f s.toNat (enc f l z).1, offb (at0 f s.toNat) (enc f l z).1 ++ (enc f l z).2)
def three (x : Int) : List Int := [x / 65536, x / 256 % 256, x % 256]
def code (f l : List Int) : List Int := three (enc f l (65536, [])).1 ++ (enc f l (65536, [])).2

/-- There is such a sign, and it has a share. -/
def Sgn (f : List Int) (s : Int) : Prop := 0 ≤ s ∧ s < (f.length : Int) ∧ 0 < at0 f s.toNat
def Signs (f l : List Int) : Prop := ∀ s ∈ l, Sgn f s

theorem share_in {f : List Int} (hf : right f) {s : Nat} (h : s < f.length) (hp : 0 < at0 f s) : 1 ≤ at0 f s ∧ at0 f s ≤ 256 ∧ 0 ≤ pfx f s ∧ pfx f s + at0 f s ≤ 256 := by
  obtain ⟨h1, h2, h3, h4⟩ := hf
  have a1 := at_le_tot h3 h
  have a2 := pfx_nonneg h3 (j := s) (by omega)
  have a3 := pfx_mono h3 (i := s + 1) (j := f.length) (by omega) (Nat.le_refl _)
  rw [pfx] at a3
  unfold tot at h4 a1
  omega
theorem ren_in {F x : Int} (h1 : 1 ≤ F) (h2 : F ≤ 256) (hx : Mid x) : 256 * F ≤ ren F x ∧ ren F x < 65536 * F := by
  obtain ⟨x1, x2⟩ := hx
  unfold ren
  split <;> omega
/-- What a step is made of. -/
theorem put_parts {f : List Int} (hf : right f) {s : Nat} (h : s < f.length) (hp : 0 < at0 f s) {x : Int} (hx : Mid x) :
    256 ≤ ren (at0 f s) x / at0 f s ∧ ren (at0 f s) x / at0 f s < 65536 ∧ 0 ≤ ren (at0 f s) x % at0 f s ∧ ren (at0 f s) x % at0 f s < at0 f s := by
  obtain ⟨a1, a2, a3, a4⟩ := share_in hf h hp
  obtain ⟨r1, r2⟩ := ren_in a1 a2 hx
  exact ⟨(Int.le_ediv_iff_mul_le hp).2 r1, (Int.ediv_lt_iff_lt_mul hp).2 r2, Int.emod_nonneg _ (by omega), Int.emod_lt_of_pos _ hp⟩
theorem put_in {f : List Int} (hf : right f) {s : Nat} (h : s < f.length) (hp : 0 < at0 f s) {x : Int} (hx : Mid x) : Mid (put f s x) := by
  obtain ⟨a1, a2, a3, a4⟩ := share_in hf h hp
  obtain ⟨q1, q2, q3, q4⟩ := put_parts hf h hp hx
  unfold put Mid
  omega
theorem put_div {f : List Int} (hf : right f) {s : Nat} (h : s < f.length) (hp : 0 < at0 f s) {x : Int} (hx : Mid x) :
    put f s x / 256 = ren (at0 f s) x / at0 f s ∧ put f s x % 256 = ren (at0 f s) x % at0 f s + pfx f s := by
  obtain ⟨a1, a2, a3, a4⟩ := share_in hf h hp
  obtain ⟨q1, q2, q3, q4⟩ := put_parts hf h hp hx
  unfold put
  omega
theorem enc_in {f : List Int} (hf : right f) {l : List Int} (hl : Signs f l) {z : Int × List Int} (hz : Mid z.1) : Mid (enc f l z).1 := by
  induction l with
  | nil => exact hz
  | cons s l ih =>
    have hs := hl s (by simp)
    exact put_in hf (by have := hs.1; have := hs.2.1; omega) hs.2.2 (ih fun t ht => hl t (by simp [ht]))
theorem enc_append (f l m : List Int) (z : Int × List Int) : enc f (l ++ m) z = enc f l (enc f m z) := by
  induction l with
  | nil => rfl
  | cons s l ih => simp only [List.cons_append, enc, ih]
/-- Bytes. -/
def Byts (l : List Int) : Prop := ∀ b ∈ l, 0 ≤ b ∧ b < 256
theorem offb_byts (F x : Int) : Byts (offb F x) := by
  intro b hb
  unfold offb at hb
  split at hb
  · simp at hb; omega
  · simp at hb
theorem enc_byts (f l : List Int) {z : Int × List Int} (hz : Byts z.2) : Byts (enc f l z).2 := by
  induction l with
  | nil => exact hz
  | cons s l ih =>
    intro b hb
    rcases List.mem_append.1 hb with h | h
    · exact offb_byts _ _ b h
    · exact ih b h

/-- Bytes are read, till the number is not below Least. -/
def fill : List Int → Int → Option (Int × List Int)
  | [], x => if 65536 ≤ x then some (x, []) else none
  | b :: r, x => if 65536 ≤ x then some (x, b :: r) else fill r (x * 256 + b)
/-- Whose a place is, of the first n. -/
def scan (f : List Int) (p : Int) : Nat → Nat
  | 0 => 0
  | n + 1 => if pfx f n ≤ p ∧ p < pfx f n + at0 f n then n else scan f p n
def sg (f : List Int) (p : Int) : Nat := scan f p f.length
theorem scan_is {f : List Int} {p : Int} {n k : Nat} (h : k < n) (h1 : pfx f k ≤ p) (h2 : p < pfx f k + at0 f k) : scan f p n < n ∧ pfx f (scan f p n) ≤ p ∧ p < pfx f (scan f p n) + at0 f (scan f p n) := by
  induction n with
  | zero => omega
  | succ n ih =>
    rw [scan]
    split
    · rename_i h3
      exact ⟨by omega, h3.1, h3.2⟩
    · rename_i h3
      by_cases e : k = n
      · subst e; exact absurd ⟨h1, h2⟩ h3
      · obtain ⟨i1, i2⟩ := ih (by omega)
        exact ⟨by omega, i2⟩
theorem sg_is {f : List Int} (hf : right f) {p : Int} (h0 : 0 ≤ p) (h9 : p < 256) : IsAt f p (sg f p) := by
  obtain ⟨k, k1, k2, k3⟩ := is_at (f := f) h0 (by rw [hf.2.2.2]; exact h9)
  exact scan_is k1 k2 k3
theorem sg_one {f : List Int} (hf : right f) {p : Int} (h0 : 0 ≤ p) (h9 : p < 256) {k : Nat} (hk : IsAt f p k) : sg f p = k := IsAt.one hf.2.2.1 (sg_is hf h0 h9) hk
theorem isAt_sgn {f : List Int} {p : Int} {k : Nat} (h : IsAt f p k) : Sgn f (k : Int) := by
  obtain ⟨h1, h2, h3⟩ := h
  exact ⟨by omega, by omega, by rw [Int.toNat_natCast]; omega⟩
/-- What is left of a number when its sign is read. -/
def got (f : List Int) (x : Int) : Int := x / 256 * at0 f (sg f (x % 256)) + x % 256 - pfx f (sg f (x % 256))
def dec (f : List Int) : Nat → Int → List Int → Option (List Int × Int × List Int)
  | 0, x, r => some ([], x, r)
  | n + 1, x, r => match fill r (got f x) with
    | none => none
    | some z => (dec f n z.1 z.2).map fun q => ((sg f (x % 256) : Int) :: q.1, q.2)

theorem got_in {f : List Int} (hf : right f) {x : Int} (h0 : 0 ≤ x) (h9 : x < 16777216) : 0 ≤ got f x ∧ got f x < 16777216 := by
  have hk := sg_is hf (p := x % 256) (by omega) (by omega)
  unfold got
  generalize sg f (x % 256) = k at *
  obtain ⟨k1, k2, k3⟩ := hk
  obtain ⟨a1, a2, a3, a4⟩ := share_in hf k1 (by omega)
  have m0 : 0 ≤ x / 256 * at0 f k := Int.mul_nonneg (by omega) (by omega)
  have m1 : x / 256 * at0 f k ≤ x / 256 * 256 := Int.mul_le_mul_of_nonneg_left a2 (by omega)
  omega
theorem fill_in {r : List Int} (hr : Byts r) {x y : Int} {r' : List Int} (h0 : 0 ≤ x) (h9 : x < 16777216) (h : fill r x = some (y, r')) : Mid y ∧ Byts r' := by
  induction r generalizing x with
  | nil =>
    unfold fill at h
    split at h
    · cases h; exact ⟨⟨by assumption, h9⟩, hr⟩
    · cases h
  | cons b r ih =>
    unfold fill at h
    split at h
    · cases h; exact ⟨⟨by assumption, h9⟩, hr⟩
    · have := hr b (by simp)
      exact ih (fun c hc => hr c (by simp [hc])) (by omega) (by omega) h
theorem fill_enough (r : List Int) {x : Int} (h : 65536 ≤ x) : fill r x = some (x, r) := by cases r <;> simp [fill, h]
theorem fill_one (b : Int) (r : List Int) {x : Int} (h : x < 65536) (h2 : 65536 ≤ x * 256 + b) : fill (b :: r) x = some (x * 256 + b, r) := by
  rw [fill, if_neg (by omega), fill_enough r h2]

/-- A sign that was put is read again. -/
theorem dec_one {f : List Int} (hf : right f) {s : Nat} (h : s < f.length) (hp : 0 < at0 f s) {x : Int} (hx : Mid x) (r : List Int) :
    sg f (put f s x % 256) = s ∧ fill (offb (at0 f s) x ++ r) (got f (put f s x)) = some (x, r) := by
  obtain ⟨a1, a2, a3, a4⟩ := share_in hf h hp
  obtain ⟨q1, q2, q3, q4⟩ := put_parts hf h hp hx
  obtain ⟨d1, d2⟩ := put_div hf h hp hx
  have hs : sg f (put f s x % 256) = s := sg_one hf (by omega) (by omega) ⟨h, by omega, by omega⟩
  refine ⟨hs, ?_⟩
  have hg : got f (put f s x) = ren (at0 f s) x := by
    unfold got
    rw [hs, d1, d2]
    have := Int.ediv_mul_add_emod (ren (at0 f s) x) (at0 f s)
    omega
  rw [hg]
  obtain ⟨x1, x2⟩ := hx
  unfold offb ren
  split
  · rw [List.cons_append, List.nil_append, fill_one _ _ (by omega) (by omega)]
    congr 2
    omega
  · rw [List.nil_append, fill_enough _ x1]
/-- What was put is read: signs come back. -/
theorem dec_enc {f : List Int} (hf : right f) {l : List Int} (hl : Signs f l) {z : Int × List Int} (hz : Mid z.1) : dec f l.length (enc f l z).1 (enc f l z).2 = some (l, z) := by
  induction l with
  | nil => rfl
  | cons s l ih =>
    have hs := hl s (by simp)
    have hl' : Signs f l := fun t ht => hl t (by simp [ht])
    obtain ⟨e1, e2⟩ := dec_one hf (s := s.toNat) (by have := hs.1; have := hs.2.1; omega) hs.2.2 (enc_in hf hl' hz) (enc f l z).2
    rw [List.length_cons, enc, dec]
    simp only
    rw [e2]
    simp only
    rw [ih hl', e1]
    have := hs.1
    simp
    omega
/-- So many signs are read, each with a share. -/
theorem dec_len {f : List Int} (hf : right f) {n : Nat} {x y : Int} {r r' l : List Int} (h0 : 0 ≤ x) (h9 : x < 16777216) (hr : Byts r) (h : dec f n x r = some (l, y, r')) : l.length = n ∧ Signs f l := by
  induction n generalizing x r l with
  | zero => cases h; exact ⟨rfl, fun s hs => by simp at hs⟩
  | succ n ih =>
    rw [dec] at h
    cases hfl : fill r (got f x) with
    | none => rw [hfl] at h; cases h
    | some z =>
      rw [hfl] at h
      simp only at h
      obtain ⟨g1, g2⟩ := got_in hf h0 h9
      obtain ⟨m1, m2⟩ := fill_in hr g1 g2 (y := z.1) (r' := z.2) hfl
      obtain ⟨⟨q1, q2⟩, hq, e⟩ := Option.map_eq_some_iff.1 h
      obtain ⟨rfl, rfl⟩ := Prod.mk.inj e
      obtain ⟨i1, i2⟩ := ih (by have := m1.1; omega) m1.2 m2 (l := q1) hq
      refine ⟨by rw [List.length_cons, i1], fun t ht => ?_⟩
      rcases List.mem_cons.1 ht with e | e
      · rw [e]; exact isAt_sgn (sg_is hf (by omega) (by omega))
      · exact i2 t e
/-- What is read of a number that is great enough is put again. -/
theorem enc_dec {f : List Int} (hf : right f) {n : Nat} {x y : Int} {r r' l : List Int} (hx : Mid x) (hr : Byts r) (h : dec f n x r = some (l, y, r')) : Mid y ∧ enc f l (y, r') = (x, r) := by
  induction n generalizing x r l with
  | zero => cases h; exact ⟨hx, rfl⟩
  | succ n ih =>
    rw [dec] at h
    cases hfl : fill r (got f x) with
    | none => rw [hfl] at h; cases h
    | some z =>
      rw [hfl] at h
      simp only at h
      have h0 : 0 ≤ x := by have := hx.1; omega
      obtain ⟨g1, g2⟩ := got_in hf h0 hx.2
      obtain ⟨m1, m2⟩ := fill_in hr g1 g2 (y := z.1) (r' := z.2) hfl
      obtain ⟨⟨q1, q2⟩, hq, e⟩ := Option.map_eq_some_iff.1 h
      obtain ⟨rfl, rfl⟩ := Prod.mk.inj e
      obtain ⟨i1, i2⟩ := ih m1 m2 (l := q1) hq
      refine ⟨i1, ?_⟩
      rw [enc, i2]
      simp only
      rw [Int.toNat_natCast]
      have hk := sg_is hf (p := x % 256) (by omega) (by omega)
      unfold got at hfl
      generalize hs : sg f (x % 256) = k at *
      obtain ⟨k1, k2, k3⟩ := hk
      have hp : 0 < at0 f k := by omega
      obtain ⟨a1, a2, a3, a4⟩ := share_in hf k1 hp
      obtain ⟨x1, x2⟩ := hx
      -- the number ahead of the bytes
      obtain ⟨Q, hQ⟩ : ∃ Q, x / 256 = Q := ⟨_, rfl⟩
      obtain ⟨m, hm⟩ : ∃ m, x % 256 - pfx f k = m := ⟨_, rfl⟩
      have hq1 : 256 ≤ Q := by omega
      have hq2 : Q < 65536 := by omega
      have n1 : 256 * at0 f k ≤ Q * at0 f k := Int.mul_le_mul_of_nonneg_right hq1 (by omega)
      have n2 : Q * at0 f k ≤ 65535 * at0 f k := Int.mul_le_mul_of_nonneg_right (by omega) (by omega)
      have ey : x / 256 * at0 f k + x % 256 - pfx f k = Q * at0 f k + m := by rw [hQ]; omega
      rw [ey] at hfl
      have hdiv : (Q * at0 f k + m) / at0 f k = Q := by
        rw [Int.add_comm, Int.add_mul_ediv_right _ _ (by omega), Int.ediv_eq_zero_of_lt (by omega) (by omega)]; omega
      have hmod : (Q * at0 f k + m) % at0 f k = m := by
        rw [Int.add_comm, Int.add_mul_emod_self_right, Int.emod_eq_of_lt (by omega) (by omega)]
      generalize hY : Q * at0 f k + m = Y at *
      have key : ren (at0 f k) z.1 = Y ∧ offb (at0 f k) z.1 ++ z.2 = r := by
        by_cases hlt : 65536 ≤ Y
        · rw [fill_enough r hlt] at hfl
          cases hfl
          unfold ren offb
          rw [if_neg (by simp only; omega), if_neg (by simp only; omega)]
          exact ⟨rfl, rfl⟩
        · cases r with
          | nil => rw [fill, if_neg hlt] at hfl; cases hfl
          | cons b r =>
            have hb := hr b (by simp)
            rw [fill_one b r (by omega) (by omega)] at hfl
            cases hfl
            unfold ren offb
            rw [if_pos (by simp only; omega), if_pos (by simp only; omega)]
            refine ⟨by simp only; omega, ?_⟩
            have : (Y * 256 + b) % 256 = b := by omega
            simp only [this, List.cons_append, List.nil_append]
      rw [key.2]
      unfold put
      rw [key.1, hdiv, hmod]
      congr 1
      omega

/-- A number is that of its three bytes. -/
theorem three_is {x : Int} (h : Mid x) : x / 65536 * 65536 + x / 256 % 256 * 256 + x % 256 = x := by omega
theorem three_byts {x : Int} (h : Mid x) : Byts (three x) := by
  obtain ⟨h1, h2⟩ := h
  intro b hb
  simp [three] at hb
  omega
theorem three_of {a b c : Int} (ha : 0 ≤ a ∧ a < 256) (hb : 0 ≤ b ∧ b < 256) (hc : 0 ≤ c ∧ c < 256) : three (a * 65536 + b * 256 + c) = [a, b, c] := by
  unfold three
  congr 1
  · omega
  · congr 1
    · omega
    · congr 1; omega
theorem least : Mid 65536 := ⟨by omega, by omega⟩
theorem code_byts {f l : List Int} (hf : right f) (hl : Signs f l) : Byts (code f l) := by
  intro b hb
  rcases List.mem_append.1 hb with h | h
  · exact three_byts (enc_in hf hl least) b h
  · exact enc_byts f l (z := (65536, [])) (fun c hc => by simp at hc) b h

/-- l are the n signs of these bytes. -/
def IsRow (f bs : List Int) (n : Nat) (l : List Int) : Prop := l.length = n ∧ Signs f l ∧ code f l = bs
/-- The bytes of a row tell it. -/
theorem code_dec {f l : List Int} (hf : right f) (hl : Signs f l) : ∃ x r, code f l = three x ++ r ∧ Mid x ∧ Byts r ∧ dec f l.length x r = some (l, 65536, []) :=
  ⟨_, _, rfl, enc_in hf hl least, enc_byts f l (fun c hc => by simp at hc), dec_enc hf hl least⟩
theorem three_inj {x y : Int} {r s : List Int} (hx : Mid x) (hy : Mid y) (h : three x ++ r = three y ++ s) : x = y ∧ r = s := by
  simp [three] at h
  have a := three_is hx
  have b := three_is hy
  obtain ⟨h1, h2, h3, h4⟩ := h
  rw [h1, h2, h3] at a
  exact ⟨by omega, h4⟩
theorem IsRow.one {f bs : List Int} (hf : right f) {n : Nat} {l m : List Int} (h : IsRow f bs n l) (k : IsRow f bs n m) : l = m := by
  obtain ⟨x, r, e1, hx, _, d1⟩ := code_dec hf h.2.1
  obtain ⟨y, s, e2, hy, _, d2⟩ := code_dec hf k.2.1
  obtain ⟨rfl, rfl⟩ := three_inj hx hy (by rw [← e1, ← e2, h.2.2, k.2.2])
  rw [h.1] at d1
  rw [k.1, d1] at d2
  cases d2
  rfl
/-- Read of three bytes and the rest, and put again: it is so just where it is a row. -/
theorem row_iff {f : List Int} (hf : right f) {a b c : Int} {r : List Int} (hb : Byts (a :: b :: c :: r)) {n : Nat} {l : List Int} :
    IsRow f (a :: b :: c :: r) n l ↔ dec f n (a * 65536 + b * 256 + c) r = some (l, 65536, []) ∧ code f l = a :: b :: c :: r := by
  have ha := hb a (by simp)
  have hb' := hb b (by simp)
  have hc := hb c (by simp)
  constructor
  · intro h
    obtain ⟨x, s, e1, hx, _, d1⟩ := code_dec hf h.2.1
    rw [h.2.2, h.1] at *
    have e2 : three (a * 65536 + b * 256 + c) ++ r = three x ++ s := by rw [three_of ha hb' hc, ← e1]; rfl
    have e3 : a * 65536 + b * 256 + c = x := by
      have := three_is hx
      rw [three_of ha hb' hc] at e2
      simp [three] at e2
      omega
    rw [e3] at e2 ⊢
    rw [List.append_cancel_left e2]
    exact ⟨d1, rfl⟩
  · rintro ⟨h1, h2⟩
    obtain ⟨i1, i2⟩ := dec_len hf (by omega) (by omega) (fun x hx => hb x (by simp [hx])) h1
    exact ⟨i1, i2, h2⟩
/-- .. or where the number is great enough at first. -/
theorem row_iff' {f : List Int} (hf : right f) {a b c : Int} {r : List Int} (hb : Byts (a :: b :: c :: r)) {n : Nat} {l : List Int} :
    IsRow f (a :: b :: c :: r) n l ↔ dec f n (a * 65536 + b * 256 + c) r = some (l, 65536, []) ∧ 65536 ≤ a * 65536 + b * 256 + c := by
  have ha := hb a (by simp)
  have hb' := hb b (by simp)
  have hc := hb c (by simp)
  rw [row_iff hf hb]
  constructor
  · rintro ⟨h1, h2⟩
    refine ⟨h1, ?_⟩
    obtain ⟨i1, i2⟩ := dec_len hf (by omega) (by omega) (fun x hx => hb x (by simp [hx])) h1
    obtain ⟨x, s, e1, hx, _, d1⟩ := code_dec hf i2
    rw [h2] at e1
    have := three_is hx
    have := hx.1
    simp [three] at e1
    omega
  · rintro ⟨h1, h2⟩
    refine ⟨h1, ?_⟩
    obtain ⟨_, e⟩ := enc_dec hf ⟨h2, by omega⟩ (fun x hx => hb x (by simp [hx])) h1
    unfold code
    rw [e]
    simp only
    rw [three_of ha hb' hc]
    rfl
theorem row_short {f bs : List Int} {n : Nat} {l : List Int} (h : bs.length < 3) : ¬ IsRow f bs n l := fun k => by
  have := k.2.2
  rw [← this] at h
  simp [code, three] at h
  omega

/-- Of one sign more it is none, where no share is Total. -/
theorem row_more {f l m : List Int} (hf : right f) (hl : Signs f l) (hno : ∀ i, i < f.length → at0 f i ≠ 256) (h : IsRow f (code f l) (l.length + 1) m) : False := by
  obtain ⟨h1, h2, h3⟩ := h
  have e0 : m.take l.length ++ m.drop l.length = m := List.take_append_drop _ _
  have hd : (m.drop l.length).length = 1 := by rw [List.length_drop]; omega
  obtain ⟨s, hs⟩ : ∃ s, m.drop l.length = [s] := by
    match hm : m.drop l.length, hd with
    | [s], _ => exact ⟨s, rfl⟩
  rw [hs] at e0
  have hsg : Sgn f s := h2 s (by rw [← e0]; simp)
  have hm' : Signs f (m.take l.length) := fun t ht => h2 t (List.mem_of_mem_take ht)
  have ht : (m.take l.length).length = l.length := by rw [List.length_take]; omega
  have hs1 : Signs f [s] := fun t ht => by simp at ht; rw [ht]; exact hsg
  have hM : Mid (enc f [s] (65536, [])).1 := enc_in hf hs1 least
  have d1 := dec_enc hf hl (z := (65536, [])) least
  have d2 := dec_enc hf hm' (z := enc f [s] (65536, [])) hM
  rw [← enc_append, e0, ht] at d2
  have e1 := three_inj (enc_in hf h2 least) (enc_in hf hl least) (show three _ ++ _ = three _ ++ _ from h3)
  rw [e1.1, e1.2, d1] at d2
  have e2 : enc f [s] (65536, []) = (65536, []) := by
    have := Option.some.inj d2
    exact (Prod.mk.inj this).2.symm
  simp only [enc] at e2
  obtain ⟨p1, p2⟩ := Prod.mk.inj e2
  have hF := share_in hf (s := s.toNat) (by have := hsg.1; have := hsg.2.1; omega) hsg.2.2
  have hne := hno s.toNat (by have := hsg.1; have := hsg.2.1; omega)
  obtain ⟨a1, a2, a3, a4⟩ := hF
  unfold put ren at p1
  rw [if_neg (by
    intro hh
    unfold offb at p2
    rw [if_pos hh] at p2
    simp at p2)] at p1
  have q1 : 257 ≤ 65536 / at0 f s.toNat := (Int.le_ediv_iff_mul_le (by omega)).2 (by omega)
  have q2 : 0 ≤ 65536 % at0 f s.toNat := Int.emod_nonneg _ (by omega)
  omega

/-- How many bits a share needs. -/
def nb (F : Int) : Nat := if 256 ≤ F then 0 else if 128 ≤ F then 1 else if 64 ≤ F then 2 else if 32 ≤ F then 3 else if 16 ≤ F then 4 else if 8 ≤ F then 5 else if 4 ≤ F then 6 else if 2 ≤ F then 7 else 8
theorem nb_is {F : Int} (h : 1 ≤ F) : 256 ≤ F * 2 ^ nb F := by
  unfold nb
  repeat' split
  all_goals (simp only [Int.reducePow]; omega)
theorem nb_le (F : Int) : nb F ≤ 8 := by
  unfold nb
  repeat' split
  all_goals omega
def need (f : List Int) : List Int → Nat
  | [] => 0
  | s :: l => nb (at0 f s.toNat) + need f l
theorem need_append (f l m : List Int) : need f (l ++ m) = need f l + need f m := by
  induction l with
  | nil => simp [need]
  | cons s l ih => rw [List.cons_append, need, need, ih]; omega
theorem need_le (f l : List Int) : need f l ≤ 8 * l.length := by
  induction l with
  | nil => simp [need]
  | cons s l ih => rw [need, List.length_cons]; have := nb_le (at0 f s.toNat); omega
theorem pow_pos' {a : Int} (h : 0 < a) (n : Nat) : 0 < a ^ n := Int.pow_pos h

/-- A step makes the number greater by no more than the bits say, and a little. -/
theorem put_bits {f : List Int} (hf : right f) {s : Nat} (h : s < f.length) (hp : 0 < at0 f s) {x : Int} (hx : Mid x) : 256 * put f s x ≤ 257 * 2 ^ nb (at0 f s) * ren (at0 f s) x := by
  obtain ⟨a1, a2, a3, a4⟩ := share_in hf h hp
  obtain ⟨q1, q2, q3, q4⟩ := put_parts hf h hp hx
  have hd := Int.ediv_mul_add_emod (ren (at0 f s) x) (at0 f s)
  have hb := nb_is a1
  unfold put
  generalize ren (at0 f s) x = R at *
  generalize R / at0 f s = q at *
  generalize R % at0 f s = m at *
  generalize at0 f s = F at *
  generalize (2 : Int) ^ nb F = B at *
  have hB : 0 ≤ B := by
    rcases Int.lt_or_le B 0 with e | e
    · have := Int.mul_nonpos_of_nonneg_of_nonpos (show (0 : Int) ≤ F by omega) (show B ≤ 0 by omega)
      omega
    · exact e
  have h1 : q * 256 ≤ q * (F * B) := Int.mul_le_mul_of_nonneg_left hb (by omega)
  have h2 : q * (F * B) ≤ R * B := by
    rw [← Int.mul_assoc]
    exact Int.mul_le_mul_of_nonneg_right (by omega) hB
  have h3 : 257 * B * R = 257 * (R * B) := by rw [Int.mul_assoc, Int.mul_comm B R]
  rw [h3]
  omega
theorem off_less {F x : Int} (h0 : 0 ≤ x) (r : List Int) : (256 : Int) ^ (offb F x ++ r).length * ren F x ≤ 256 ^ r.length * x := by
  unfold offb ren
  split
  · rw [List.cons_append, List.nil_append, List.length_cons, Int.pow_succ, Int.mul_assoc]
    exact Int.mul_le_mul_of_nonneg_left (by omega) (Int.le_of_lt (pow_pos' (by omega) _))
  · rw [List.nil_append]; exact Int.le_refl _
theorem enc_bits {f : List Int} (hf : right f) {l : List Int} (hl : Signs f l) :
    (256 : Int) ^ l.length * (256 ^ (enc f l (65536, [])).2.length * (enc f l (65536, [])).1) ≤ 65536 * (2 ^ need f l * 257 ^ l.length) := by
  induction l with
  | nil => simp [enc, need]
  | cons s l ih =>
    have hs := hl s (by simp)
    have hl' : Signs f l := fun t ht => hl t (by simp [ht])
    have hi := ih hl'
    have hM := enc_in hf hl' (z := (65536, [])) least
    rw [enc, need, List.length_cons]
    simp only
    generalize enc f l (65536, []) = z at *
    have b1 := put_bits hf (s := s.toNat) (by have := hs.1; have := hs.2.1; omega) hs.2.2 hM
    have b2 := off_less (F := at0 f s.toNat) (x := z.1) (by have := hM.1; omega) z.2
    generalize put f s.toNat z.1 = P at *
    generalize ren (at0 f s.toNat) z.1 = R at *
    generalize (offb (at0 f s.toNat) z.1 ++ z.2).length = K at *
    rw [Int.pow_succ, Int.pow_succ, Int.pow_add]
    have pB : (0 : Int) < 2 ^ nb (at0 f s.toNat) := pow_pos' (by omega) _
    have pN : (0 : Int) < 256 ^ l.length := pow_pos' (by omega) _
    have pK : (0 : Int) < 256 ^ K := pow_pos' (by omega) _
    generalize (2 : Int) ^ nb (at0 f s.toNat) = B at *
    generalize (256 : Int) ^ l.length = A at *
    generalize (256 : Int) ^ K = D at *
    generalize (256 : Int) ^ z.2.length = E at *
    generalize (2 : Int) ^ need f l = G at *
    generalize (257 : Int) ^ l.length = H at *
    calc A * 256 * (D * P) = A * (D * (256 * P)) := by ac_rfl
      _ ≤ A * (D * (257 * B * R)) := Int.mul_le_mul_of_nonneg_left (Int.mul_le_mul_of_nonneg_left b1 (Int.le_of_lt pK)) (Int.le_of_lt pN)
      _ = A * (257 * B * (D * R)) := by ac_rfl
      _ ≤ A * (257 * B * (E * z.1)) := Int.mul_le_mul_of_nonneg_left (Int.mul_le_mul_of_nonneg_left b2 (by omega)) (Int.le_of_lt pN)
      _ = 257 * B * (A * (E * z.1)) := by ac_rfl
      _ ≤ 257 * B * (65536 * (G * H)) := Int.mul_le_mul_of_nonneg_left hi (by omega)
      _ = 65536 * (B * G * (H * 257)) := by ac_rfl
theorem pows {n : Nat} (h : n ≤ 60) : (257 : Int) ^ n < 2 * 256 ^ n := by
  have key : ∀ k : Nat, k ≤ 60 → (257 : Int) ^ k < 2 * 256 ^ k := by decide +kernel
  exact key n h
/-- No more bytes than told. -/
theorem code_len {f l : List Int} (hf : right f) (hl : Signs f l) (h60 : l.length ≤ 60) : 3 ≤ (code f l).length ∧ (code f l).length ≤ 3 + need f l / 8 := by
  have e : (code f l).length = 3 + (enc f l (65536, [])).2.length := by simp [code, three]; omega
  refine ⟨by omega, ?_⟩
  have hb := enc_bits hf hl
  have hM := (enc_in hf hl (z := (65536, [])) least).1
  have hp := pows h60
  rw [e]
  generalize (enc f l (65536, [])).2.length = K at *
  generalize (enc f l (65536, [])).1 = x at *
  generalize need f l = S at *
  have pN : (0 : Int) < 256 ^ l.length := pow_pos' (by omega) _
  have pK : (0 : Int) < 256 ^ K := pow_pos' (by omega) _
  have pS : (0 : Int) < 2 ^ S := pow_pos' (by omega) _
  have h1 : (256 : Int) ^ l.length * (256 ^ K * 65536) ≤ 65536 * (2 ^ S * 257 ^ l.length) :=
    Int.le_trans (Int.mul_le_mul_of_nonneg_left (Int.mul_le_mul_of_nonneg_left hM (Int.le_of_lt pK)) (Int.le_of_lt pN)) hb
  have h2 : (256 : Int) ^ l.length * 256 ^ K < 256 ^ l.length * (2 ^ S * 2) := by
    have e1 : (256 : Int) ^ l.length * (256 ^ K * 65536) = 65536 * (256 ^ l.length * 256 ^ K) := by ac_rfl
    have e2 : (2 : Int) ^ S * 257 ^ l.length < 2 ^ S * (2 * 256 ^ l.length) := Int.mul_lt_mul_of_pos_left hp pS
    have e3 : (2 : Int) ^ S * (2 * 256 ^ l.length) = 256 ^ l.length * (2 ^ S * 2) := by ac_rfl
    omega
  have h3 : (256 : Int) ^ K < 2 ^ S * 2 := Int.lt_of_mul_lt_mul_left h2 (Int.le_of_lt pN)
  have h4 : (2 : Int) ^ (8 * K) < 2 ^ (S + 1) := by
    rw [Int.pow_succ, Int.pow_mul]
    exact h3
  have h5 : (2 : Nat) ^ (8 * K) < 2 ^ (S + 1) := by exact_mod_cast h4
  have h6 : 8 * K < S + 1 := (Nat.pow_lt_pow_iff_right (by omega)).1 h5
  omega

end Go.Proofs.YtjojeifoddonnakDoor.Hrn
