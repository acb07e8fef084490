/-
  What the rows of this seat list of the library's variables: that it is what the walks want.
-/
import Derived.Test.YtkkhgdkgbhdfaakGreatDoorRa19
import Derived.Test.YtkkhgdkgbhdfaakGreatDoorRows
import Derived.LaidLaws
import Derived.LaidHandle
import Derived.LaidMore
import Derived.Lib.LaidTab
import Derived.Shelf.Vars
namespace Go.Proofs.YtkkhgdkgbhdfaakGreatDoor.Lb
open Go.RowKit
open Go.Proofs.YtkkhgdkgbhdfaakGreatDoor.Aser
set_option linter.unusedVariables false

/-- The variables that are listed: all but the handle; the handle. -/
abbrev laidD : List (String × DataW Unit) := [("math/bits.deBruijn32tab", Rows.laid_math_bits_deBruijn32tab), ("math/bits.deBruijn64tab", Rows.laid_math_bits_deBruijn64tab), ("internal/strconv.uint64pow10", Rows.laid_internal_strconv_uint64pow10), ("unicode/utf8.acceptRanges", Rows.laid_unicode_utf8_acceptRanges), ("strconv.ErrRange", Rows.laid_strconv_ErrRange), ("strconv.ErrSyntax", Rows.laid_strconv_ErrSyntax), ("unicode/utf8.first", Rows.laid_unicode_utf8_first)]
abbrev laidE : List (String × DataW Unit) := [("errors.errorType", Rows.laid_errors_errorType)]
abbrev laid20 : List (String × DataW Unit) := [("math/bits.deBruijn32tab", Rows.laid_math_bits_deBruijn32tab), ("math/bits.deBruijn64tab", Rows.laid_math_bits_deBruijn64tab), ("internal/strconv.uint64pow10", Rows.laid_internal_strconv_uint64pow10), ("unicode/utf8.acceptRanges", Rows.laid_unicode_utf8_acceptRanges), ("errors.errorType", Rows.laid_errors_errorType), ("strconv.ErrRange", Rows.laid_strconv_ErrRange), ("strconv.ErrSyntax", Rows.laid_strconv_ErrSyntax), ("unicode/utf8.first", Rows.laid_unicode_utf8_first)]
theorem row_list : Rows.runTankRow.laid = laid20 := rfl
theorem data_list : (laid20.filter fun x => x.2.handleName?.isNone) = laidD := by kernel_rfl
theorem handle_list : (laid20.filter fun x => x.2.handleName?.isSome) = laidE := by kernel_rfl

theorem laid_at {P : Program} {W : World} {n : String} {d : DataW Unit} : ∀ {l : List (String × DataW Unit)} {ps : List MemPlace}, DataW.LaidVars P W l ps → (n, d) ∈ l →
    ∃ g t cs fuel p, P.globalNamed n = some g ∧ (P.globals[g]?).map (·.type) = some t ∧ W.var? P n = some cs ∧ DataW.trod (fun _ => ()) P W 0 (fun _ => true) false fuel t cs.toList = some (d, p)
  | [], _, _, hm => by cases hm
  | x :: r, ps, h, hm => by
    obtain ⟨g, t, cs, fuel, p, q, h1, h2, h3, h4, h5, -⟩ := h
    rcases List.mem_cons.1 hm with e | e
    · subst e
      exact ⟨g, t, cs, fuel, p, h1, h2, h3, h4⟩
    · exact laid_at h5 e

theorem errT : Tryz.prog.globalNamed "errors.errorType" = some 0 := by kernel_rfl
theorem rtT : (Tryz.prog.cutTypes.find? (·.1 == "internal/reflectlite.rtype")).map (·.2) = some 168 := by kernel_rfl
theorem oneRow : ((List.range 272).filter fun t => Tryz.prog.rowNamed t [101, 114, 114, 111, 114]) = [26] := by kernel_rfl
theorem sizeT : Tryz.prog.types.size = 272 := by kernel_rfl

theorem handle_er {W : World} (h : handlesMet Tryz.prog laidE W) : Aser.Laid W := by
  obtain ⟨name, u, ty, e1, e2, e3, e4, e5⟩ := h _ (List.mem_singleton.2 rfl)
  have en : name = [101, 114, 114, 111, 114] := (Option.some.inj e1).symm
  subst en
  obtain rfl := Option.some.inj (rtT.symm.trans e2)
  have hm : ty ∈ (List.range 272).filter fun t => Tryz.prog.rowNamed t [101, 114, 114, 111, 114] := List.mem_filter.2 ⟨List.mem_range.2 (by rw [← sizeT]; exact e3), e4⟩
  rw [oneRow] at hm
  obtain rfl := List.mem_singleton.1 hm
  have hh : typeHandle Tryz.prog 26 = .pointer (some ⟨9, 26, none⟩) := by kernel_rfl
  rw [hh] at e5
  unfold Aser.Laid
  simpa using World.var?_cell errT e5 0

theorem sent_at {W : World} {n : String} {d : DataW Unit} {nm : String} {g : Nat} {ps : List MemPlace} (hv : DataW.LaidVars Tryz.prog W laidD ps) (hm : (n, DataW.iface nm d) ∈ laidD) (hg : Tryz.prog.globalNamed n = some g) (hty : (Tryz.prog.globals[g]?).map (·.type) = some 26) :
    ∃ t p, W.var? Tryz.prog n = some #[.iface t p] := by
  obtain ⟨g', t, cs, fuel, p, h1, h2, h3, h4⟩ := laid_at hv hm
  obtain rfl := Option.some.inj (hg.symm.trans h1)
  obtain rfl := Option.some.inj (hty.symm.trans h2)
  obtain ⟨f2, u, v, hcs, -, -⟩ := iface_of_trod Tryz.underlying26 h4
  exact ⟨u, v, by rw [h3, Array.eq_one_of_toList hcs]⟩

theorem tab_eq : Rows.laid_internal_strconv_uint64pow10 = (Lib.tabData .u64 Lib.pow10Tab : DataW Unit) := by kernel_rfl
theorem tab_at {W : World} {ps : List MemPlace} (hv : DataW.LaidVars Tryz.prog W laidD ps) : Lib.TabIs Tryz.prog W "internal/strconv.uint64pow10" .u64 Lib.pow10Tab := by
  obtain ⟨g', t, cs, fuel, p, h1, h2, h3, h4⟩ := laid_at (n := "internal/strconv.uint64pow10") (d := Rows.laid_internal_strconv_uint64pow10) hv (by simp)
  obtain rfl := Option.some.inj ((show Tryz.prog.globalNamed "internal/strconv.uint64pow10" = some 4 by kernel_rfl).symm.trans h1)
  obtain rfl := Option.some.inj ((show (Tryz.prog.globals[4]?).map (·.type) = some 232 by kernel_rfl).symm.trans h2)
  rw [tab_eq] at h4
  unfold Lib.TabIs
  rw [h3, ← Lib.cells_of_tab (n := 20) (e := 206) Tryz.underlying232 Tryz.underlying206 (by kernel_rfl) (by kernel_rfl) h4]

/-- A row's premise gives what the walks want of the library's variables. -/
theorem lib_of_laid {W : World} (h : laidMetH Tryz.prog laid20 W) (hsh : W.ShapedOpen Tryz.prog) : Lib20 W := by
  have h' : laidMet Tryz.prog laidD W ∧ handlesMet Tryz.prog laidE W := by
    unfold laidMetH at h
    rw [handle_list, data_list] at h
    exact h
  obtain ⟨⟨ps, hv, -, -⟩, h2⟩ := h'
  have hm1 : ("strconv.ErrRange", Rows.laid_strconv_ErrRange) ∈ laidD := .tail _ (.tail _ (.tail _ (.tail _ (.head _))))
  have hm2 : ("strconv.ErrSyntax", Rows.laid_strconv_ErrSyntax) ∈ laidD := .tail _ (.tail _ (.tail _ (.tail _ (.tail _ (.head _)))))
  have hmx : ∃ m, W.cell? ⟨1, 0, none⟩ = some (.int .i64 m) :=
    cell_of_shapedOpen_int (t := 3) (zero := #[.int .i64 0]) hsh (show 1 < Tryz.prog.globals.size from of_decide_eq_true (by kernel_rfl)) (by kernel_rfl) rfl (by kernel_rfl) (by kernel_rfl) Tryz.underlying3
  exact ⟨hmx, handle_er h2, sent_at (g := 2) hv hm2 (by kernel_rfl) (by kernel_rfl), sent_at (g := 3) hv hm1 (by kernel_rfl) (by kernel_rfl), tab_at hv⟩

theorem globals_in {W : World} (h : laidMetH Tryz.prog laid20 W) : 9 ≤ W.heap.size := by
  have h' : laidMet Tryz.prog laidD W ∧ handlesMet Tryz.prog laidE W := by
    unfold laidMetH at h
    rw [handle_list, data_list] at h
    exact h
  obtain ⟨⟨ps, hv, -, -⟩, -⟩ := h'
  obtain ⟨g, t, cs, fuel, p, h1, h2, h3, h4⟩ := laid_at (n := "math/bits.deBruijn64tab") (d := Rows.laid_math_bits_deBruijn64tab) hv (.tail _ (.head _))
  have hg : Tryz.prog.globalNamed "math/bits.deBruijn64tab" = some 8 := by kernel_rfl
  unfold World.var? at h3
  rw [hg] at h3
  simp only [Option.bind_some] at h3
  rcases Nat.lt_or_ge 8 W.heap.size with h5 | h5
  · exact h5
  · rw [Array.getElem?_eq_none h5] at h3
    cases h3
theorem lib_both {W : World} (h : laidMetH Tryz.prog laid20 W) (hsh : W.ShapedOpen Tryz.prog) : Lib20 W ∧ 9 ≤ W.heap.size := ⟨lib_of_laid h hsh, globals_in h⟩

end Go.Proofs.YtkkhgdkgbhdfaakGreatDoor.Lb
