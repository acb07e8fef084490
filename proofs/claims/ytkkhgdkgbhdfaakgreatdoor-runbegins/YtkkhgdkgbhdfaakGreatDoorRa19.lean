/-
  The library's functions that package run calls, by their contracts, in lists of bytes.
-/
import Derived.Test.YtkkhgdkgbhdfaakGreatDoorRa09
import Derived.Test.YtkkhgdkgbhdfaakGreatDoorRa18
import Derived.Test.YtkkhgdkgbhdfaakGreatDoorRa12
import Derived.Test.YtkkhgdkgbhdfaakGreatDoorRa06
import Derived.Test.YtkkhgdkgbhdfaakGreatDoorRa17
namespace Go.Proofs.YtkkhgdkgbhdfaakGreatDoor.Lb
open Go.RowKit
open Go.Proofs.YtkkhgdkgbhdfaakGreatDoor.Tre Go.Proofs.YtkkhgdkgbhdfaakGreatDoor.Hrn Go.Proofs.YtkkhgdkgbhdfaakGreatDoor.Txt Go.Proofs.YtkkhgdkgbhdfaakGreatDoor.Ses
set_option linter.unusedVariables false

/-- What the library's own variables hold. -/
structure Lib20 (w : World) : Prop where
  mx : ∃ m, w.cell? ⟨1, 0, none⟩ = some (.int .i64 m)
  er : Aser.Laid w
  sy : ∃ t p, w.var? Tryz.prog "strconv.ErrSyntax" = some #[.iface t p]
  rg : ∃ t p, w.var? Tryz.prog "strconv.ErrRange" = some #[.iface t p]
  tb : Lib.TabIs Tryz.prog w "internal/strconv.uint64pow10" .u64 Lib.pow10Tab
theorem cell_lt {w : World} {g j : Nat} {v : Value} (h : w.cell? ⟨g, j, none⟩ = some v) : g < w.heap.size := by
  rcases Nat.lt_or_ge g w.heap.size with h1 | h1
  · exact h1
  · simp [World.cell?, Array.getElem?_eq_none h1] at h
theorem var_on {n g : Nat} {w w' : World} {s : String} {cs : Array Value} (hg : Tryz.prog.globalNamed s = some g) (hb : Below n w w') (hn : g < n) (h : w.var? Tryz.prog s = some cs) : w'.var? Tryz.prog s = some cs := by
  unfold World.var? at h ⊢
  rw [hg] at h ⊢
  simp only [Option.bind_some] at h ⊢
  rw [hb.block g hn]
  exact h
theorem Lib20.on {n : Nat} {w w' : World} (h : Lib20 w) (hb : Below n w w') (hn : 9 ≤ n) : Lib20 w' := by
  have hc : ∀ g, g < 9 → w'.cell? ⟨g, 0, none⟩ = w.cell? ⟨g, 0, none⟩ := fun g hg => World.cell?_of_block (a := ⟨g, 0, none⟩) (hb.block g (by omega))
  obtain ⟨m, h1⟩ := h.mx
  obtain ⟨t, p, h2⟩ := h.sy
  obtain ⟨t', p', h3⟩ := h.rg
  have g1 : Tryz.prog.globalNamed "strconv.ErrSyntax" = some 2 := by kernel_rfl
  have g2 : Tryz.prog.globalNamed "strconv.ErrRange" = some 3 := by kernel_rfl
  have g3 : Tryz.prog.globalNamed "internal/strconv.uint64pow10" = some 4 := by kernel_rfl
  exact ⟨⟨m, (hc _ (by decide)).trans h1⟩, (hc _ (by decide)).trans h.er, ⟨t, p, var_on g1 hb (by omega) h2⟩, ⟨t', p', var_on g2 hb (by omega) h3⟩, var_on g3 hb (by omega) h.tb⟩

theorem below_drewN (w : World) (n : Nat) : Below w.heap.size w (w.drewN n) := ⟨rfl, rfl, rfl, Nat.le_refl _, fun _ _ => rfl⟩
theorem below_grow (w : World) (n : Nat) (os : Array Obj) : Below w.heap.size w (Go.Sort.grow (w.drewN n) os) :=
  ⟨rfl, rfl, rfl, by rw [Go.Sort.size_grow]; exact Nat.le_add_right _ _, fun k hk => Go.Sort.heap_grow_old (w.drewN n) os hk⟩

theorem nl_str : ({ data := #[10] } : ByteArray) = str [10] := by decide +kernel
theorem sp_str : ({ data := #[32] } : ByteArray) = str [32] := by decide +kernel

/-- A text is cut at its first byte 10; or there is none. -/
theorem cut_no {l : List Int} (hb : Byts l) (hl : l.length ≤ 3000) (h : ∀ b ∈ l, b ≠ 10) (w : World) (m : Int) (hm : w.cell? ⟨1, 0, none⟩ = some (.int .i64 m)) :
    Calls Tryz.prog 66 #[.string (str l), .string { data := #[10] }] w fun e w' => e = .returned (.tuple #[.string (str l), .string (str []), .bool false]) ∧ ∃ n, w' = w.drewN n := by
  have c := Any.strings_Cut Tryz.lays145 (str l) (str [10]) m w (by rw [str_size]; omega) hm
  rw [nl_str]
  refine (show Calls Tryz.prog 66 #[.string (str l), .string (str [10])] w _ from c).mono ?_
  rintro e w' ⟨rfl, hw⟩
  refine ⟨?_, hw⟩
  show Ending.returned (.tuple #[.string ⟨(Lib.cut (u8s l) (u8s [10])).1.toArray⟩, .string ⟨(Lib.cut (u8s l) (u8s [10])).2.1.toArray⟩, .bool (Lib.cut (u8s l) (u8s [10])).2.2]) = _
  rw [lcut_none (by omega) hb h]
  rfl
theorem cut_yes {a r : List Int} (hb : Byts (a ++ 10 :: r)) (hl : (a ++ 10 :: r).length ≤ 3000) (h : ∀ b ∈ a, b ≠ 10) (w : World) (m : Int) (hm : w.cell? ⟨1, 0, none⟩ = some (.int .i64 m)) :
    Calls Tryz.prog 66 #[.string (str (a ++ 10 :: r)), .string { data := #[10] }] w fun e w' => e = .returned (.tuple #[.string (str a), .string (str r), .bool true]) ∧ ∃ n, w' = w.drewN n := by
  have c := Any.strings_Cut Tryz.lays145 (str (a ++ 10 :: r)) (str [10]) m w (by rw [str_size]; omega) hm
  rw [nl_str]
  refine (show Calls Tryz.prog 66 #[.string (str (a ++ 10 :: r)), .string (str [10])] w _ from c).mono ?_
  rintro e w' ⟨rfl, hw⟩
  refine ⟨?_, hw⟩
  show Ending.returned (.tuple #[.string ⟨(Lib.cut (u8s (a ++ 10 :: r)) (u8s [10])).1.toArray⟩, .string ⟨(Lib.cut (u8s (a ++ 10 :: r)) (u8s [10])).2.1.toArray⟩, .bool (Lib.cut (u8s (a ++ 10 :: r)) (u8s [10])).2.2]) = _
  rw [lcut_some (by omega) (byts_two hb).1 h]
  rfl
/-- A text is cut at each blank. -/
theorem split20 {l : List Int} (hb : Byts l) (hl : l.length ≤ 3000) (w : World) (hL : Lib20 w) :
    Calls Tryz.prog 92 #[.string (str l), .string { data := #[32] }] w fun e w' => e = .returned (.slice (some ⟨w.heap.size, 0, none⟩) (cut 32 l).length (cut 32 l).length) ∧ Below w.heap.size w w' ∧ w.heap.size < w'.heap.size ∧ Hid (∀ j, j < (cut 32 l).length → w'.cell? ⟨w.heap.size, j, none⟩ = some (.string (str ((cut 32 l).getD j [])))) := by
  obtain ⟨m, hm⟩ := hL.mx
  have c := Any.strings_Split Tryz.lays146 (by kernel_rfl) (str l) (str [32]) m w (by rw [str_size]; omega) hm (by rw [str_size]; decide)
  rw [sp_str]
  refine (show Calls Tryz.prog 92 #[.string (str l), .string (str [32])] w _ from c).mono ?_
  rintro e w' ⟨rfl, rfl⟩
  have e1 := countB_is (c := 32) (by omega) hb
  have e2 := split_is (c := 32) (by omega) l.length l (Nat.le_refl _) hb
  have e3 : Lib.countB (str l) (str [32]) = (cut 32 l).length - 1 := by omega
  rw [e1, e3, e2]
  refine ⟨rfl, (Below.refl _ _).alloc (Nat.le_refl _) _, by simp, hide fun j hj => ?_⟩
  rw [World.cell?_alloc_at _ _ _ _ rfl]
  simp [List.getElem?_eq_getElem hj]
/-- A number is written. -/
theorem itoa20 (n : Int) (h0 : -9223372036854775808 ≤ n) (h1 : n ≤ 9223372036854775807) (w : World) (hL : Lib20 w) :
    Calls Tryz.prog 96 #[.int .i64 n] w fun e w' => e = .returned (.string (str (tl1 n))) ∧ Below w.heap.size w w' := by
  have c := Any.strconv_Itoa Tryz.laysM171 n h0 h1 w hL.tb
  refine (show Calls Tryz.prog 96 #[.int .i64 n] w _ from c).mono ?_
  rintro e w' ⟨rfl, k, os, rfl⟩
  exact ⟨by rw [itoa_is h0 h1], below_grow w k os⟩
/-- A number is read; or it is none. -/
theorem atoi_yes {x : List Int} {n : Int} (hl : x.length ≤ 3000) (h : Lib.atoiAll (str x).data.toList = .ok n) (w : World) :
    Calls Tryz.prog 123 #[.string (str x)] w fun e w' => e = .returned (.tuple #[.int .i64 n, .nilIface]) ∧ Below w.heap.size w w' := by
  have c := Any.strconv_Atoi_ok Tryz.laysC172 (str x) (by rw [str_size]; omega) n h w
  refine (show Calls Tryz.prog 123 #[.string (str x)] w _ from c).mono ?_
  rintro e w' ⟨rfl, rfl | ⟨t, rfl⟩⟩
  · exact ⟨rfl, Below.refl _ _⟩
  · exact ⟨rfl, Lib.bytesWorld_below _ _ _⟩
theorem atoi_no {x : List Int} (hl : x.length ≤ 3000) (h : ∀ n, Lib.atoiAll (str x).data.toList ≠ .ok n) (w : World) (hL : Lib20 w) :
    Calls Tryz.prog 123 #[.string (str x)] w fun e w' => ∃ v t p, e = .returned (.tuple #[.int .i64 v, .iface t p]) ∧ Below w.heap.size w w' := by
  cases hc : Lib.atoiAll (str x).data.toList
  · exact absurd hc (h _)
  · obtain ⟨t, p, h2⟩ := hL.sy
    have c := Any.strconv_Atoi_syntax_var Tryz.laysC172 (str x) (by rw [str_size]; omega) hc t p w h2
    refine (show Calls Tryz.prog 123 #[.string (str x)] w _ from c).mono ?_
    rintro e w' ⟨N, rfl, -, -, hb⟩
    exact ⟨_, _, _, rfl, hb⟩
  · obtain ⟨t, p, h2⟩ := hL.rg
    have c := Any.strconv_Atoi_range_var Tryz.laysC172 (str x) (by rw [str_size]; omega) hc t p w h2
    refine (show Calls Tryz.prog 123 #[.string (str x)] w _ from c).mono ?_
    rintro e w' ⟨N, rfl, -, -, hb⟩
    exact ⟨_, _, _, rfl, hb⟩
/-- Numbers that are written, joined with a blank between. -/
theorem join20 {l : List Int} (hne : l ≠ []) (hn : l.length ≤ 1000) (a : Option Addr) (cap : Nat) (w : World) (hcap : l.length ≤ cap) (hr : RowT w a (l.map fun n => str (tl1 n))) :
    Calls Tryz.prog 97 #[.slice a l.length cap, .string { data := #[32] }] w fun e w' => e = .returned (.string (str (tell l))) ∧ Below w.heap.size w w' := by
  rcases hr with h | ⟨b, off, rfl, hlt, hc⟩
  · exact absurd (List.map_eq_nil_iff.1 h) hne
  · have hlen : (l.map fun n => str (tl1 n)).length = l.length := by simp
    have htl := tell_length l
    have hj := join_is hne
    have c := Any.strings_Join Tryz.lays156 Tryz.Builder_Extra_156 b off cap (l.map fun n => str (tl1 n)) (str [32]) w (fun j x hx => by
        have hjl : j < (l.map fun n => str (tl1 n)).length := (List.getElem?_eq_some_iff.1 hx).1
        rw [hc j hjl, List.getD_eq_getElem?_getD, hx]
        rfl) hlt (by omega) (by omega) (by rw [hj, u8s_length]; omega)
    rw [hlen, hj] at c
    rw [sp_str]
    refine (show Calls Tryz.prog 97 #[.slice (some ⟨b, off, none⟩) l.length cap, .string (str [32])] w _ from c).mono ?_
    rintro e w' ⟨rfl, hb⟩
    exact ⟨rfl, hb⟩

end Go.Proofs.YtkkhgdkgbhdfaakGreatDoor.Lb

/-
  run.wants: a map of seven words that the call makes; what is found in it. run.newDesk.
-/
namespace Go.Proofs.YtkkhgdkgbhdfaakGreatDoor.Lb
open Go.RowKit
open Go.Proofs.YtkkhgdkgbhdfaakGreatDoor.Tre Go.Proofs.YtkkhgdkgbhdfaakGreatDoor.Hrn Go.Proofs.YtkkhgdkgbhdfaakGreatDoor.Txt Go.Proofs.YtkkhgdkgbhdfaakGreatDoor.Ses
set_option linter.unusedVariables false

/-- A word, and what it wants. -/
def ent (s : ByteArray) (f : Int) (r : Bool) (b : Nat) : MapEntry := ⟨.string s, .agg #[.int .i64 f, .bool r], b⟩
def wordsM : Obj := .map #[ent ⟨#[99, 111, 117, 110, 116]⟩ 2 false 0, ent ⟨#[114, 97, 110, 107]⟩ 0 true 1, ent ⟨#[114, 111, 119]⟩ 3 false 2, ent ⟨#[110, 101, 97, 114]⟩ 1 true 3, ent ⟨#[103, 97, 105, 110]⟩ 1 false 4, ent ⟨#[116, 117, 114, 110]⟩ 1 false 5, ent ⟨#[109, 97, 121]⟩ 0 false 6] 7

theorem push_set {α : Type} (a : Array α) (x y : α) : (a.push x).setIfInBounds a.size y = a.push y := by
  apply Array.ext'
  simp
theorem put_new (w : World) (es : Array MapEntry) (c : Nat) (k : ByteArray) (v : Value) (hf : Instr.findNow .string (.string k) es.toList 0 = some none) :
    (Instr.mapUpdate 109 (.map (some w.heap.size)) (.string k) v).run Tryz.prog (w.alloc (.map es c)) = .ok () (w.alloc (.map (es.push ⟨.string k, v, c⟩) (c + 1))) := by
  have h1 : (w.alloc (.map es c)).heap[w.heap.size]? = some (.map es c) := (MapKept.heap_alloc w _).1
  have h2 : (Instr.checkKey false 10000 9 (.string k)).run Tryz.prog (w.alloc (.map es c)) = .ok () (w.alloc (.map es c)) := MapKept.run_checkKey Tryz.underlying9 (by trivial) false 9999
  have h3 : (Instr.findKey 9 (.string k) es.toList).run Tryz.prog (w.alloc (.map es c)) = .ok none (w.alloc (.map es c)) := MapKept.run_findKey Tryz.underlying9 hf
  simp [Instr.mapUpdate, run_underlying Tryz.underlying109, MapKept.run_getObj_map h1, h2, h3, MapKept.run_setObj_map _ h1, Result.andThen]
  simp [World.alloc, -World.alloc_eq]
  exact push_set _ _ _

set_option maxRecDepth 100000 in
theorem wants20 (w : World) : Calls Tryz.prog 64 #[] w fun e w' => e = .returned (.map (some w.heap.size)) ∧ w' = w.alloc wordsM := by
  have p1 : (Instr.mapUpdate 109 (.map (some w.heap.size)) (.string ⟨#[99, 111, 117, 110, 116]⟩) (.agg #[.int .i64 2, .bool false])).run Tryz.prog (w.alloc (.map #[] 0)) = .ok () (w.alloc (.map #[ent ⟨#[99, 111, 117, 110, 116]⟩ 2 false 0] 1)) := put_new w _ _ _ _ (by rfl)
  have p2 : (Instr.mapUpdate 109 (.map (some w.heap.size)) (.string ⟨#[114, 97, 110, 107]⟩) (.agg #[.int .i64 0, .bool true])).run Tryz.prog (w.alloc (.map #[ent ⟨#[99, 111, 117, 110, 116]⟩ 2 false 0] 1)) = .ok () (w.alloc (.map #[ent ⟨#[99, 111, 117, 110, 116]⟩ 2 false 0, ent ⟨#[114, 97, 110, 107]⟩ 0 true 1] 2)) := put_new w _ _ _ _ (by rfl)
  have p3 : (Instr.mapUpdate 109 (.map (some w.heap.size)) (.string ⟨#[114, 111, 119]⟩) (.agg #[.int .i64 3, .bool false])).run Tryz.prog (w.alloc (.map #[ent ⟨#[99, 111, 117, 110, 116]⟩ 2 false 0, ent ⟨#[114, 97, 110, 107]⟩ 0 true 1] 2)) = .ok () (w.alloc (.map #[ent ⟨#[99, 111, 117, 110, 116]⟩ 2 false 0, ent ⟨#[114, 97, 110, 107]⟩ 0 true 1, ent ⟨#[114, 111, 119]⟩ 3 false 2] 3)) := put_new w _ _ _ _ (by rfl)
  have p4 : (Instr.mapUpdate 109 (.map (some w.heap.size)) (.string ⟨#[110, 101, 97, 114]⟩) (.agg #[.int .i64 1, .bool true])).run Tryz.prog (w.alloc (.map #[ent ⟨#[99, 111, 117, 110, 116]⟩ 2 false 0, ent ⟨#[114, 97, 110, 107]⟩ 0 true 1, ent ⟨#[114, 111, 119]⟩ 3 false 2] 3)) = .ok () (w.alloc (.map #[ent ⟨#[99, 111, 117, 110, 116]⟩ 2 false 0, ent ⟨#[114, 97, 110, 107]⟩ 0 true 1, ent ⟨#[114, 111, 119]⟩ 3 false 2, ent ⟨#[110, 101, 97, 114]⟩ 1 true 3] 4)) := put_new w _ _ _ _ (by rfl)
  have p5 : (Instr.mapUpdate 109 (.map (some w.heap.size)) (.string ⟨#[103, 97, 105, 110]⟩) (.agg #[.int .i64 1, .bool false])).run Tryz.prog (w.alloc (.map #[ent ⟨#[99, 111, 117, 110, 116]⟩ 2 false 0, ent ⟨#[114, 97, 110, 107]⟩ 0 true 1, ent ⟨#[114, 111, 119]⟩ 3 false 2, ent ⟨#[110, 101, 97, 114]⟩ 1 true 3] 4)) = .ok () (w.alloc (.map #[ent ⟨#[99, 111, 117, 110, 116]⟩ 2 false 0, ent ⟨#[114, 97, 110, 107]⟩ 0 true 1, ent ⟨#[114, 111, 119]⟩ 3 false 2, ent ⟨#[110, 101, 97, 114]⟩ 1 true 3, ent ⟨#[103, 97, 105, 110]⟩ 1 false 4] 5)) := put_new w _ _ _ _ (by rfl)
  have p6 : (Instr.mapUpdate 109 (.map (some w.heap.size)) (.string ⟨#[116, 117, 114, 110]⟩) (.agg #[.int .i64 1, .bool false])).run Tryz.prog (w.alloc (.map #[ent ⟨#[99, 111, 117, 110, 116]⟩ 2 false 0, ent ⟨#[114, 97, 110, 107]⟩ 0 true 1, ent ⟨#[114, 111, 119]⟩ 3 false 2, ent ⟨#[110, 101, 97, 114]⟩ 1 true 3, ent ⟨#[103, 97, 105, 110]⟩ 1 false 4] 5)) = .ok () (w.alloc (.map #[ent ⟨#[99, 111, 117, 110, 116]⟩ 2 false 0, ent ⟨#[114, 97, 110, 107]⟩ 0 true 1, ent ⟨#[114, 111, 119]⟩ 3 false 2, ent ⟨#[110, 101, 97, 114]⟩ 1 true 3, ent ⟨#[103, 97, 105, 110]⟩ 1 false 4, ent ⟨#[116, 117, 114, 110]⟩ 1 false 5] 6)) := put_new w _ _ _ _ (by rfl)
  have p7 : (Instr.mapUpdate 109 (.map (some w.heap.size)) (.string ⟨#[109, 97, 121]⟩) (.agg #[.int .i64 0, .bool false])).run Tryz.prog (w.alloc (.map #[ent ⟨#[99, 111, 117, 110, 116]⟩ 2 false 0, ent ⟨#[114, 97, 110, 107]⟩ 0 true 1, ent ⟨#[114, 111, 119]⟩ 3 false 2, ent ⟨#[110, 101, 97, 114]⟩ 1 true 3, ent ⟨#[103, 97, 105, 110]⟩ 1 false 4, ent ⟨#[116, 117, 114, 110]⟩ 1 false 5] 6)) = .ok () (w.alloc (.map #[ent ⟨#[99, 111, 117, 110, 116]⟩ 2 false 0, ent ⟨#[114, 97, 110, 107]⟩ 0 true 1, ent ⟨#[114, 111, 119]⟩ 3 false 2, ent ⟨#[110, 101, 97, 114]⟩ 1 true 3, ent ⟨#[103, 97, 105, 110]⟩ 1 false 4, ent ⟨#[116, 117, 114, 110]⟩ 1 false 5, ent ⟨#[109, 97, 121]⟩ 0 false 6] 7)) := put_new w _ _ _ _ (by rfl)
  have hmm := @run_makeMap Tryz.prog
  go_enter Tryz.func64, Tryz.ntmps64
  go_wp2
  go_ret
  exact ⟨rfl, rfl⟩

theorem ba_beq (a b : ByteArray) : (a == b) = (a.data == b.data) := by cases a; cases b; rfl
theorem str_beq {c k : List Int} (hc : Byts c) (hk : Byts k) : (str c == str k) = decide (c = k) := by
  rw [ba_beq]
  by_cases h : c = k
  · rw [h, decide_eq_true rfl, beq_self_eq_true]
  · rw [decide_eq_false h, beq_eq_false_iff_ne]
    intro e
    refine h (str_inj hc hk ?_)
    have : (str c) = ⟨(str c).data⟩ := rfl
    rw [this, e]
theorem words_byts : Byts kCount ∧ Byts kRank ∧ Byts kRow ∧ Byts kNear ∧ Byts kGain ∧ Byts kTurn ∧ Byts kMay := by
  refine ⟨?_, ?_, ?_, ?_, ?_, ?_, ?_⟩ <;> (unfold Byts; decide +kernel)
theorem words_str : (⟨#[99, 111, 117, 110, 116]⟩ : ByteArray) = str kCount ∧ (⟨#[114, 97, 110, 107]⟩ : ByteArray) = str kRank ∧ (⟨#[114, 111, 119]⟩ : ByteArray) = str kRow ∧ (⟨#[110, 101, 97, 114]⟩ : ByteArray) = str kNear ∧ (⟨#[103, 97, 105, 110]⟩ : ByteArray) = str kGain ∧ (⟨#[116, 117, 114, 110]⟩ : ByteArray) = str kTurn ∧ (⟨#[109, 97, 121]⟩ : ByteArray) = str kMay := by
  refine ⟨?_, ?_, ?_, ?_, ?_, ?_, ?_⟩ <;> decide +kernel
/-- What is found at a word. -/
theorem find_word {c : List Int} (hb : Byts c) : ∃ r, Instr.findNow .string (.string (str c)) [ent ⟨#[99, 111, 117, 110, 116]⟩ 2 false 0, ent ⟨#[114, 97, 110, 107]⟩ 0 true 1, ent ⟨#[114, 111, 119]⟩ 3 false 2, ent ⟨#[110, 101, 97, 114]⟩ 1 true 3, ent ⟨#[103, 97, 105, 110]⟩ 1 false 4, ent ⟨#[116, 117, 114, 110]⟩ 1 false 5, ent ⟨#[109, 97, 121]⟩ 0 false 6] 0 = some r ∧ ((kind c = 0 ∧ r = none) ∨ (kind c ≠ 0 ∧ ∃ i, r = some (i, .agg #[.int .i64 (fst20 (kind c)), .bool (more (kind c))]))) := by
  obtain ⟨b1, b2, b3, b4, b5, b6, b7⟩ := words_byts
  obtain ⟨s1, s2, s3, s4, s5, s6, s7⟩ := words_str
  have key : ∀ {k : List Int} {f : Int} {r : Bool} {b i : Nat} {es : List MapEntry}, Byts k → Instr.findNow .string (.string (str c)) (ent (str k) f r b :: es) i = if c = k then some (some (i, .agg #[.int .i64 f, .bool r])) else Instr.findNow .string (.string (str c)) es (i + 1) := by
    intro k f r b i es hk
    have h1 : Instr.sameNow .string (.string (str c)) (ent (str k) f r b).key = some (decide (c = k)) := by
      show some (str c == str k) = _
      rw [str_beq hb hk]
    rw [Instr.findNow, h1]
    by_cases h : c = k
    · rw [decide_eq_true h, if_pos h]; rfl
    · rw [decide_eq_false h, if_neg h]
  rw [s1, s2, s3, s4, s5, s6, s7, key b1, key b2, key b3, key b4, key b5, key b6, key b7]
  unfold kind
  by_cases h1 : c = kCount
  · exact ⟨_, by rw [if_pos h1], Or.inr ⟨by rw [if_pos h1]; decide, 0, by rw [if_pos h1]; rfl⟩⟩
  · rw [if_neg h1, if_neg h1]
    by_cases h2 : c = kRank
    · exact ⟨_, by rw [if_pos h2], Or.inr ⟨by rw [if_pos h2]; decide, 1, by rw [if_pos h2]; rfl⟩⟩
    · rw [if_neg h2, if_neg h2]
      by_cases h3 : c = kRow
      · exact ⟨_, by rw [if_pos h3], Or.inr ⟨by rw [if_pos h3]; decide, 2, by rw [if_pos h3]; rfl⟩⟩
      · rw [if_neg h3, if_neg h3]
        by_cases h4 : c = kNear
        · exact ⟨_, by rw [if_pos h4], Or.inr ⟨by rw [if_pos h4]; decide, 3, by rw [if_pos h4]; rfl⟩⟩
        · rw [if_neg h4, if_neg h4]
          by_cases h5 : c = kGain
          · exact ⟨_, by rw [if_pos h5], Or.inr ⟨by rw [if_pos h5]; decide, 4, by rw [if_pos h5]; rfl⟩⟩
          · rw [if_neg h5, if_neg h5]
            by_cases h6 : c = kTurn
            · exact ⟨_, by rw [if_pos h6], Or.inr ⟨by rw [if_pos h6]; decide, 5, by rw [if_pos h6]; rfl⟩⟩
            · rw [if_neg h6, if_neg h6]
              by_cases h7 : c = kMay
              · exact ⟨_, by rw [if_pos h7], Or.inr ⟨by rw [if_pos h7]; decide, 6, by rw [if_pos h7]; rfl⟩⟩
              · rw [if_neg h7, if_neg h7]
                exact ⟨none, rfl, Or.inl ⟨rfl, rfl⟩⟩
theorem zero_want (w : World) : (zeroValue 149).run Tryz.prog w = .ok (.agg #[.int .i64 0, .bool false]) w := by kernel_rfl
theorem look20 {c : List Int} (hb : Byts c) (w : World) (b : Nat) (hm : w.heap[b]? = some wordsM) :
    (Instr.lookup 109 (.map (some b)) (.string (str c)) true).run Tryz.prog w = .ok (.tuple #[.agg #[.int .i64 (fst20 (kind c)), .bool (more (kind c))], .bool (decide (kind c ≠ 0))]) w := by
  have h2 : ∀ e, (Instr.checkKey e 10000 9 (.string (str c))).run Tryz.prog w = .ok () w := fun e => MapKept.run_checkKey Tryz.underlying9 (by trivial) e 9999
  obtain ⟨r, hf, hr⟩ := find_word hb
  have h3 : (Instr.findKey 9 (.string (str c)) [ent ⟨#[99, 111, 117, 110, 116]⟩ 2 false 0, ent ⟨#[114, 97, 110, 107]⟩ 0 true 1, ent ⟨#[114, 111, 119]⟩ 3 false 2, ent ⟨#[110, 101, 97, 114]⟩ 1 true 3, ent ⟨#[103, 97, 105, 110]⟩ 1 false 4, ent ⟨#[116, 117, 114, 110]⟩ 1 false 5, ent ⟨#[109, 97, 121]⟩ 0 false 6]).run Tryz.prog w = .ok r w := MapKept.run_findKey Tryz.underlying9 hf
  rcases hr with ⟨hk, rfl⟩ | ⟨hk, i, rfl⟩
  · simp [Instr.lookup, run_underlying Tryz.underlying109, MapKept.run_getObj_map hm, h2, h3, Result.andThen, hk, fst20, more]
  · simp [Instr.lookup, run_underlying Tryz.underlying109, MapKept.run_getObj_map hm, h2, h3, Result.andThen, hk]

set_option maxRecDepth 100000 in
theorem newDesk20 (w : World) : Calls Tryz.prog 39 #[] w fun e w' => e = .returned (.pointer (some ⟨w.heap.size + 1, 0, none⟩)) ∧ w' = (w.alloc wordsM).alloc (.cells #[.int .i64 100, .int .i64 20, .int .i64 100, .map (some w.heap.size)] 112) := by
  have c := wants20 w
  go_enter Tryz.func39, Tryz.ntmps39
  go_wp2_with fail
  refine c.mono ?_
  rintro e w1 ⟨rfl, rfl⟩
  go_wp2
  go_ret
  exact ⟨by simp, rfl⟩

end Go.Proofs.YtkkhgdkgbhdfaakGreatDoor.Lb
