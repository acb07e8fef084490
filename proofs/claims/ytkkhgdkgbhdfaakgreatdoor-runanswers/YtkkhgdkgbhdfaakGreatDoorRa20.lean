/-
  copy onto a slice of integers that this call has made itself.
-/
import Derived.Test.YtkkhgdkgbhdfaakGreatDoorRa05
import Derived.Laws.CopyOwn
namespace Go.Proofs.YtkkhgdkgbhdfaakGreatDoor
open Go.RowKit
set_option linter.unusedVariables false

theorem size_int : (Tryz.prog.info? 3).map (·.size) = some 1 := by kernel_rfl

set_option maxRecDepth 100000 in
theorem run_cpy (w : World) (base : Nat) (v : Value) (L m : List Int) (ty : TypeId) (hv : Has w base v L) (ad : Option Addr) (cap : Nat) (hr : Row w ad m) (hle : m.length ≤ L.length) :
    ∃ w', (Builtin.copy_ #[22, 22] ty #[v, .slice ad m.length cap]).run Tryz.prog w = .ok (goInt m.length) w' ∧ Has w' base v (m ++ L.drop m.length) ∧ w.grownBy w' v.ownBlock := by
  by_cases hm : m = []
  · subst hm
    obtain ⟨a, c, rfl, _⟩ := hv.row
    exact ⟨w, run_copy_none w _ _ _ 3 _ _ _ _ _ _ Tryz.underlying22 size_int (Nat.min_eq_left (Nat.zero_le _)), by simpa using hv, World.grownBy.refl _ _⟩
  · have hm0 : 0 < m.length := List.length_pos_iff.2 hm
    obtain ⟨b, off, rfl, hb, hcs⟩ := hr.at hm0
    have hlen : L.length = (L.map (Value.int .i64)).length := by simp
    rcases hv.2 with ⟨_, h0⟩ | ⟨g, gcap, cur, rfl, hbg, hg, hnc, hcm, hsz, htake⟩
    · omega
    · have hc : ∀ (j : Nat) (u : Value), (m.map (Value.int .i64))[j]? = some u → w.cell? ((⟨b, off, none⟩ : Addr).add j) = some u := by
        intro j u hu
        have hj : j < m.length := by
          rcases Nat.lt_or_ge j m.length with h | h
          · exact h
          · rw [List.getElem?_eq_none (by simpa using h)] at hu; cases hu
        rw [addr_plain, hcs j hj]
        simp [List.getElem?_map, List.getElem?_eq_getElem hj] at hu
        simp [List.getD_eq_getElem?_getD, List.getElem?_eq_getElem hj, hu]
      have hrun := run_copy_row (P := Tryz.prog) w 22 22 ty 3 g 0 L.length gcap ⟨b, off, none⟩ m.length cap cur 3 (m.map (Value.int .i64)) Tryz.underlying22 size_int hg (by rw [List.length_map]; exact (Nat.min_eq_left hle).symm) hc
        (by rw [List.length_map]; omega) (by intro u hu; obtain ⟨z, _, rfl⟩ := List.mem_map.1 hu; rfl)
      rw [List.length_map] at hrun
      refine ⟨_, hrun, ⟨by simp, .inr ⟨g, gcap, _, ?_, hbg, setRow_heap w g cur _ 3 _ hg, ?_, hcm, ?_, ?_⟩⟩, ⟨rfl, rfl, rfl, by simp [World.setRow], fun k _ hk => setRow_other w g k _ (fun e => hk (by simp [Value.ownBlock, e]))⟩⟩
      · congr 1; simp; omega
      · simp; omega
      · simp; omega
      · have ed : (L.map (Value.int .i64)).drop m.length = (cur.toList.drop m.length).take (L.length - m.length) := by
          rw [← htake, Nat.mul_one, List.drop_take]
        have el : (m ++ L.drop m.length).length = m.length + (L.length - m.length) := by simp
        rw [el, Nat.mul_one, List.map_append, List.map_drop, ed]
        simp only [List.take_zero, List.nil_append, Nat.zero_add]
        rw [List.take_append, List.take_of_length_le (by simp)]
        simp

theorem wpList_cpy {ops : Array Oper} {rest : List Oper} {o : Oper} {a : Act} {Q : Exit → Act → World → Prop} (w : World) (hgd : o.guard = none) (s x : Operand)
    (ho : o.op = .call { callee := .builtin .copy, args := #[s, x], argTypes := #[22, 22] }) (base : Nat) (v : Value) (L m : List Int) (ad : Option Addr) (cap : Nat) (hs : a.eval s = v) (hv : Has w base v L)
    (hx : a.eval x = .slice ad m.length cap) (hr : Row w ad m) (hle : m.length ≤ L.length)
    (h : ∀ w', Has w' base v (m ++ L.drop m.length) → w.grownBy w' v.ownBlock → wpList Tryz.prog ops Q rest (a.put o.dst (goInt m.length)) w') :
    wpList Tryz.prog ops Q (o :: rest) a w := by
  refine wpList_plain hgd fun K hK => ?_
  obtain ⟨w', hrun, h2, h3⟩ := run_cpy w base v L m o.type hv ad cap hr hle
  unfold Oper.wp
  simp [execOp, ho, resolve, invoke, builtin, hs, hx, hrun, Result.andThen]
  exact hK _ _ (h w' h2 h3)

end Go.Proofs.YtkkhgdkgbhdfaakGreatDoor
