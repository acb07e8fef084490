/-
  What sound.Mix does, called with any two slices: its contract.
-/
import Derived.Test.YtjnmogmagngenaaDoorSoundTwo
namespace Go.Proofs.YtjnmogmagngenaaDoor.Snd
open Go.RowKit
set_option linter.unusedVariables false

theorem info_int : (Tryd.prog.info? 3).map (fun i => (i.zero, i.size, i.bytes)) = some (some (.int .i64 0), 1, 8) := by kernel_rfl

def clamp (x : Int) : Int := if x < -1000 then -1000 else if 1000 < x then 1000 else x
def mixAt (l m : List Int) (j : Nat) : Int := clamp (l.getD j 0 + m.getD j 0)
/-- Two, mixed. -/
def mix (l m : List Int) : List Int := (List.range l.length).map (mixAt l m)
/-- The first k mixed, the rest still 0. -/
def mixTo (l m : List Int) (k : Nat) : List Int := (List.range l.length).map fun j => if j < k then mixAt l m j else 0

theorem mixTo_length (l m : List Int) (k : Nat) : (mixTo l m k).length = l.length := by simp [mixTo]
theorem mix_length (l m : List Int) : (mix l m).length = l.length := by simp [mix]
theorem mixTo_zero (l m : List Int) : mixTo l m 0 = List.replicate l.length 0 := by
  apply List.ext_getElem
  · simp [mixTo]
  · intro j h1 h2; simp [mixTo]
theorem mixTo_all (l m : List Int) : mixTo l m l.length = mix l m := by
  unfold mixTo mix
  apply List.map_congr_left
  intro j hj
  rw [if_pos (by simpa using hj)]
theorem mixTo_set (l m : List Int) (k : Nat) (hk : k < l.length) : (mixTo l m k).set k (mixAt l m k) = mixTo l m (k + 1) := by
  apply List.ext_getElem
  · simp [mixTo]
  · intro j h1 h2
    simp only [mixTo, List.getElem_set, List.getElem_map, List.getElem_range]
    by_cases h : k = j
    · subst h; simp
    · rw [if_neg h]
      by_cases h3 : j < k
      · rw [if_pos h3, if_pos (by omega)]
      · rw [if_neg h3, if_neg (by omega)]

/-- A slice of the call's own holds these numbers. -/
def Owns (w : World) (base g : Nat) (l : List Int) (n : Nat) : Prop := w.ownsRow base 3 1 (.slice (some ⟨g, 0, none⟩) n n) n (l.map (Value.int .i64))

theorem Owns.row {w : World} {base g : Nat} {l : List Int} (h : Owns w base g l l.length) : Row w (some ⟨g, 0, none⟩) l := by
  by_cases hl : l = []
  · exact Or.inl hl
  · refine Or.inr ⟨g, 0, rfl, ?_, fun j hj => ?_⟩
    · rcases h.2 with ⟨h', _⟩ | ⟨g', cap', cur, h', _, hg, _⟩
      · simp at h'
      · simp only [Value.slice.injEq, Option.some.injEq, Addr.mk.injEq, and_true, true_and] at h'
        rw [← h'.1] at hg
        exact (Array.getElem?_eq_some_iff.1 hg).1
    · rw [Nat.zero_add, World.ownsRow.cellAt h j (by omega)]
      simp [List.getD_eq_getElem?_getD, List.getElem?_eq_getElem hj]

theorem Owns.cell {w : World} {base g n : Nat} {l : List Int} (h : Owns w base g l n) {k : Nat} (hk : k < n) (hl : k < l.length) : w.cell? ⟨g, k, none⟩ = some (.int .i64 (l.getD k 0)) := by
  rw [World.ownsRow.cellAt h k (by omega)]
  simp [List.getD_eq_getElem?_getD, List.getElem?_eq_getElem hl]

theorem Owns.put {w : World} {base g n k : Nat} {l m : List Int} (h : Owns w base g (mixTo l m k) n) (hk : k < l.length) :
    Owns (w.setCell ⟨g, k, none⟩ (.int .i64 (mixAt l m k))).drew base g (mixTo l m (k + 1)) n := by
  have h1 := (World.ownsRow.stored h k (.int .i64 (mixAt l m k))).1
  rw [← List.map_set, mixTo_set l m k hk] at h1
  exact h1.drew
theorem mixVal (l m : List Int) (k : Nat) (hl : k < l.length) (hm : k < m.length) :
    (if 1000 < (if l[k] + m[k] < -1000 then -1000 else l[k] + m[k]) then 1000 else if l[k] + m[k] < -1000 then -1000 else l[k] + m[k]) = mixAt l m k := by
  have e1 : l.getD k 0 = l[k] := by rw [List.getD_eq_getElem?_getD, List.getElem?_eq_getElem hl]; rfl
  have e2 : m.getD k 0 = m[k] := by rw [List.getD_eq_getElem?_getD, List.getElem?_eq_getElem hm]; rfl
  unfold mixAt clamp
  rw [e1, e2]
  by_cases h1 : l[k] + m[k] < -1000
  · simp [h1]
  · simp [h1]

set_option maxHeartbeats 400000 in
theorem mix_ok (a : Option Addr) (cap : Nat) (l : List Int) (a' : Option Addr) (cap' : Nat) (m : List Int) (w : World) (hl : l.length ≤ 9223372036854775807) (hm : m.length ≤ 9223372036854775807) (hr : Row w a l) (hr' : Row w a' m) (h : Hid (two l m = 0)) :
    Calls Tryd.prog 13 #[.slice a l.length cap, .slice a' m.length cap'] w fun e w' => ∃ g, e = .returned (.tuple #[.slice (some ⟨g, 0, none⟩) (mix l m).length (mix l m).length, .nilIface]) ∧ Row w' (some ⟨g, 0, none⟩) (mix l m) ∧ Below w.heap.size w w' := by
  obtain ⟨ol, om, hlm⟩ := two_ok (unhide h)
  obtain ⟨i0, hi, hz0, hz1, hz2⟩ := info_parts info_int
  have HZ2 := hide hz2
  clear hz2
  have i1 : l.length ≤ m.length := by omega
  have i2 : m.length ≤ l.length := by omega
  have i3 : l.length ≤ 32 := ol.1
  clear hlm
  go_enter Tryd.func13, Tryd.ntmps13
  go_wp2_with fail
  refine (checkTwo_ok a cap l a' cap' m w hl hm hr hr' h).mono ?_
  rintro e w1 ⟨rfl, hb1⟩
  have hr1 := hr.below hb1
  have hr2 := hr'.below hb1
  go_wp2_with (at_make; refine wpList_make_full _ rfl _ _ 22 rfl w1.heap.size 3 i0 (.int .i64 0) 1 Tryd.underlying22 hi hz0 hz1 _ _ _ _ l.length rfl rfl rfl rfl ?c1 ?c2 (Nat.le_refl _) ?_)
  case c1 => rw [unhide HZ2]; omega
  case c2 => unfold maxLen; omega
  intro w2 hown hgrow
  have hb2 : Below w1.heap.size w1 w2 := (Below.refl _ _).grown hgrow (Nat.le_refl _) (by intro k hk; cases hk)
  have HO : Owns w2 w1.heap.size w1.heap.size (mixTo l m 0) l.length := by
    unfold Owns
    rw [mixTo_zero, List.map_replicate]
    rw [← toList_madeCells_one]; exact hown
  clear hown hgrow
  go_wp2
  go_loopw [20] (fun i wr => ∃ k : Nat, k ≤ l.length ∧ i = .int .i64 k ∧ Owns wr w1.heap.size w1.heap.size (mixTo l m k) l.length ∧ Below w1.heap.size w1 wr) (fun i _ => l.length - (intOf i).toNat)
  case atStart => exact ⟨0, Nat.zero_le _, rfl, HO, hb2⟩
  case round =>
    obtain ⟨k, hk, rfl, hO, hB⟩ := hrel
    clear HO hb2
    by_cases hlt : k < l.length
    · have hrl := hr1.below hB
      have hrm := hr2.below hB
      obtain ⟨b, off, rfl, hb, hcs⟩ := hr1.at hlt
      have hck := (hB.cell (p := ⟨b, off + k, none⟩) hb).trans (hcs k hlt)
      have hlt' : k < m.length := by omega
      obtain ⟨b', off', rfl, hb', hcs'⟩ := hr2.at hlt'
      have hck' := (hB.cell (p := ⟨b', off' + k, none⟩) hb').trans (hcs' k hlt')
      clear hcs hcs' hrl hrm
      obtain ⟨e1, e2⟩ := ol.at hlt
      obtain ⟨e3, e4⟩ := om.at hlt'
      have hadd : IntKind.i64.wrap (l[k] + m[k]) = l[k] + m[k] := IntWalk.i64_in _ (by omega)
      have hcell := hO.cell hlt (by rw [mixTo_length]; exact hlt)
      have hfro := World.ownsRow.frozenAt hO k
      go_wp2
      go_region
      go_wp2
      go_roundw
      case rel =>
        refine ⟨k + 1, by omega, by go_num, ?_, ?_⟩
        · rw [mixVal l m k hlt hlt']
          exact (hO.put hlt)
        · exact (hB.setCell (Nat.le_refl _) _).drew
      case measure => simp [intOf]; omega
    · have hkl : k = l.length := by omega
      subst hkl
      go_wp2
      go_ret2
      rw [mixTo_all] at hO
      refine ⟨w1.heap.size, by rw [mix_length]; rfl, Owns.row (by rw [mix_length]; exact hO), Below.chain hb1 hB⟩

theorem mix_no (a : Option Addr) (cap : Nat) (l : List Int) (a' : Option Addr) (cap' : Nat) (m : List Int) (w : World) (hl : l.length ≤ 9223372036854775807) (hm : m.length ≤ 9223372036854775807) (hr : Row w a l) (hr' : Row w a' m) (h : Hid (two l m ≠ 0)) :
    Calls Tryd.prog 13 #[.slice a l.length cap, .slice a' m.length cap'] w fun e w' => e = .returned (.tuple #[.slice none 0 0, .iface 42 (.int .i64 (two l m))]) ∧ Below w.heap.size w w' := by
  go_enter Tryd.func13, Tryd.ntmps13
  go_wp2_with fail
  refine (checkTwo_no a cap l a' cap' m w hl hm hr hr' h).mono ?_
  rintro e w1 ⟨rfl, hb1⟩
  go_wp2
  go_ret2
  exact ⟨rfl, hb1⟩
end Go.Proofs.YtjnmogmagngenaaDoor.Snd
