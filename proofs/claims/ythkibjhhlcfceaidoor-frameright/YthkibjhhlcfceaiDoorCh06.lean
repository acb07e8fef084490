/-
  What is told of samples, sizes and bits, and of a frame, with a fault and without.
-/
import Derived.Test.YthkibjhhlcfceaiDoorCh05
import Derived.Test.YthkibjhhlcfceaiDoorCh01
import Derived.Deep.QuietTactic
import Derived.BigQuiet
namespace Go.Proofs.YthkibjhhlcfceaiDoor.Frm
open Go.RowKit
open Go.Proofs.YthkibjhhlcfceaiDoor.Tre Go.Proofs.YthkibjhhlcfceaiDoor.Bnd Go.Proofs.YthkibjhhlcfceaiDoor.Ev
set_option linter.unusedVariables false

/-- The parts: none with a fault. -/
def EncL (l s : List Int) (B : Int) (ps : List Prt) : Prop := (encF l s B ≠ 0 ∧ ps = []) ∨ (encF l s B = 0 ∧ Made (cuts (Lap.lap l) s) s B ps)
theorem EncL.one {l s : List Int} {B : Int} {ps qs : List Prt} (h : EncL l s B ps) (h' : EncL l s B qs) : ps = qs := by
  rcases h with ⟨h1, rfl⟩ | ⟨h1, h2⟩
  · rcases h' with ⟨_, rfl⟩ | ⟨h3, _⟩
    · rfl
    · exact absurd h3 h1
  · rcases h' with ⟨h3, _⟩ | ⟨_, h4⟩
    · exact absurd h1 h3
    · exact h2.one h4
theorem EncL.len {l s : List Int} {B : Int} {ps : List Prt} (h : EncL l s B ps) : ps.length ≤ 8 := by
  rcases h with ⟨_, rfl⟩ | ⟨h1, h2⟩
  · simp
  · have h3 := (encF_zero.1 h1).1
    have h4 := (bf_ok h3).2.1
    rw [h2.1, cuts_length]
    exact h4
/-- What Encode tells. -/
def EncSays (l s : List Int) (B : Int) (w : World) (e : Ending) (w' : World) : Prop :=
  ∃ p q ps, e = .returned (.tuple #[.slice p ps.length q, errV (encF l s B)]) ∧ Pts w' p ps ∧ ps.length ≤ q ∧ q ≤ 9223372036854775807 ∧ EncL l s B ps ∧ Below w.heap.size w w'
def decL (ps : List Prt) : List Int := if decF ps = 0 then Lap.unlap (all ps) else []
theorem decL_len (ps : List Prt) : (decL ps).length ≤ 32 := by
  unfold decL
  split
  · rename_i h
    unfold decF at h
    split at h
    · omega
    · split at h
      · omega
      · split at h
        · split at h
          · rename_i h1 h2 h3 h4
            rw [Lap.unlap_length (by rw [all_length]; omega), all_length]
            omega
          · omega
        · exact absurd h (by assumption)
  · simp

end Go.Proofs.YthkibjhhlcfceaiDoor.Frm

/-
  band.Check, called with any sizes: its contract.
-/
namespace Go.Proofs.YthkibjhhlcfceaiDoor.Bnd
open Go.RowKit
open Go.Proofs.YthkibjhhlcfceaiDoor.Tre
set_option linter.unusedVariables false

theorem any_of (l : List Int) (k : Nat) (hk : k < l.length) (h : bad l[k] = true) : l.any bad = true :=
  List.any_eq_true.2 ⟨l[k], List.getElem_mem hk, h⟩
theorem any_step (l : List Int) (k : Nat) (hk : k < l.length) (h0 : (l.take k).any bad = false) (h : bad l[k] = false) : (l.take (k + 1)).any bad = false := by
  rw [List.take_succ_eq_append_getElem hk, List.any_append, h0]
  simp [h]

theorem size1 (n : Int) (w : World) : Calls Tryd.prog 39 #[.int .i64 n] w fun e w' => e = .returned (.bool (bad n)) ∧ w' = w := by
  by_cases h1 : n < 1
  · have h3 : decide (n < 1) = true := by simpa using h1
    go_enter Tryd.func39, Tryd.ntmps39
    go_wp2
    go_ret
    exact ⟨by simp [bad, h3], rfl⟩
  · have h2 : decide (n < 1) = false := by simpa using h1
    go_enter Tryd.func39, Tryd.ntmps39
    go_wp2
    go_ret
    exact ⟨by simp [bad, h2], rfl⟩

set_option maxHeartbeats 400000 in
theorem indexFunc (a : Option Addr) (cap : Nat) (l : List Int) (w : World) (hl : l.length ≤ 9223372036854775807) (hr : Row w a l) :
    Calls Tryd.prog 47 #[.slice a l.length cap, .func (.func 39) #[] #[]] w
      fun e w' => (∃ r : Int, e = .returned (.int .i64 r) ∧ (decide (0 ≤ r)) = l.any bad) ∧ w' = w := by
  go_enter Tryd.func47, Tryd.ntmps47
  go_wp2
  go_loop [8] (fun i => ∃ k : Nat, k ≤ l.length ∧ i = .int .i64 k ∧ (l.take k).any bad = false) (fun i => l.length - (intOf i).toNat)
  case atStart => exact ⟨0, Nat.zero_le _, rfl, by simp⟩
  case round =>
    obtain ⟨k, hk, rfl, hno⟩ := hrel
    have HNO : Hid ((l.take k).any bad = false) := hno
    clear hno
    by_cases hlt : k < l.length
    · obtain ⟨b, off, rfl, hb, hcs⟩ := hr.at hlt
      have hck := hcs k hlt
      clear hcs
      go_wp2_with (go_at_call 39; refine (size1 _ _).mono ?_; rintro e w' ⟨rfl, rfl⟩)
      · go_ret
        have hh : bad l[k] = true := by assumption
        exact ⟨⟨k, rfl, by rw [any_of l k hlt hh]; simp⟩, rfl⟩
      · have hh : bad l[k] = false := by assumption
        go_round
        case rel => exact ⟨k + 1, by omega, by go_num, any_step l k hlt HNO.out hh⟩
        case measure => simp [intOf]; omega
    · go_wp2
      go_ret
      have hh := HNO.out
      rw [List.take_of_length_le (by omega)] at hh
      exact ⟨⟨-1, rfl, by rw [hh]; rfl⟩, rfl⟩

theorem containsFunc (a : Option Addr) (cap : Nat) (l : List Int) (w : World) (hl : l.length ≤ 9223372036854775807) (hr : Row w a l) :
    Calls Tryd.prog 24 #[.slice a l.length cap, .func (.func 39) #[] #[]] w
      fun e w' => e = .returned (.bool (l.any bad)) ∧ w' = w := by
  go_enter Tryd.func24, Tryd.ntmps24
  go_wp2_with fail
  refine (indexFunc a cap l w hl hr).mono ?_
  rintro e w' ⟨⟨r, rfl, hr2⟩, rfl⟩
  have HR := hide hr2
  clear hr2
  go_wp2
  go_ret
  exact ⟨by rw [← unhide HR]; rfl, rfl⟩

/-- An error as a value. -/
def errB (e : Int) : Value := if e = 0 then .nilIface else .iface 47 (.int .i64 e)
theorem errB_zero {e : Int} (h : e = 0) : errB e = .nilIface := by simp [errB, h]
theorem errB_ne {e : Int} (h : e ≠ 0) : errB e = .iface 47 (.int .i64 e) := by simp [errB, h]
/-- What Check tells. -/
def tells (s : List Int) : Ending := .returned (.tuple #[.int .i64 (if bf s = 0 then (total s : Int) else 0), errB (bf s)])

set_option maxHeartbeats 1000000 in
theorem check (a : Option Addr) (cap : Nat) (s : List Int) (w : World) (hl : s.length ≤ 9223372036854775807) (hr : Row w a s) :
    Calls Tryd.prog 15 #[.slice a s.length cap] w fun e w' => e = tells s ∧ w' = w := by
  by_cases h0 : s.length = 0
  · have hv : tells s = .returned (.tuple #[.int .i64 0, .iface 47 (.int .i64 5)]) := by simp [tells, errB, bf, h0]
    have hz : ((s.length : Int) == 0) = true := by simp [h0]
    rw [hv]
    clear hv
    go_enter Tryd.func15, Tryd.ntmps15
    go_wp2
    go_ret2
    exact ⟨rfl, rfl⟩
  · have hz : ((s.length : Int) == 0) = false := by rw [beq_eq_false_iff_ne]; omega
    by_cases h8 : 8 < s.length
    · have hv : tells s = .returned (.tuple #[.int .i64 0, .iface 47 (.int .i64 4)]) := by simp [tells, errB, bf, h0, h8]
      rw [hv]
      clear hv h0
      go_enter Tryd.func15, Tryd.ntmps15
      go_wp2
      go_ret2
      exact ⟨rfl, rfl⟩
    · cases hany : s.any bad
      · have hsz : Sizes s := fun i hi => by
          rw [at_get hi]
          exact bad_no (by simpa using List.any_eq_false.1 hany _ (List.getElem_mem hi))
        have HA := hide hany
        have HSZ := hide hsz
        have HT : Hid (tells s = if 32 < total s then .returned (.tuple #[.int .i64 0, .iface 47 (.int .i64 4)]) else .returned (.tuple #[.int .i64 (total s : Int), .nilIface])) := hide (by
          by_cases h : 32 < total s
          · rw [if_pos h]; simp [tells, errB, bf, h0, h8, hany, h]
          · rw [if_neg h]; simp [tells, errB, bf, h0, h8, hany, h])
        obtain ⟨N, hN⟩ : ∃ N, s.length = N := ⟨_, rfl⟩
        have HN := hide hN
        have hcf := containsFunc a cap s w hl hr
        rw [unhide HA] at hcf
        rw [hN] at hcf hz h8 h0 hl ⊢
        clear hN hany hsz h0
        go_enter Tryd.func15, Tryd.ntmps15
        go_wp2_with fail
        refine hcf.mono ?_
        clear hcf
        rintro e w1 ⟨rfl, rfl⟩
        go_wp2
        go_loopw [4, 20] (fun t i wr => ∃ j T : Nat, j ≤ N ∧ i = .int .i64 j ∧ t = .int .i64 T ∧ Hid (T = pre s j) ∧ T ≤ 48 ∧ wr = w1) (fun _ i _ => N - (intOf i).toNat)
        case atStart => exact ⟨0, 0, Nat.zero_le _, rfl, rfl, rfl, by omega, rfl⟩
        case round =>
          obtain ⟨j, T, hj, rfl, rfl, HT2, hT, rfl⟩ := hrel
          by_cases hlt : j < N
          · have hlt' : j < s.length := by rw [unhide HN]; exact hlt
            obtain ⟨b, off, rfl, hb, hc⟩ := hr.at hlt'
            have c1 := hc j hlt'
            have h1 := unhide HSZ j hlt'
            have eX : s.getD j 0 = at0 s j := by rw [List.getD_eq_getElem?_getD]; rfl
            have HS : Hid (pre s (j + 1) = T + (at0 s j).toNat) := hide (by rw [pre_succ, unhide HT2])
            have h6 := pre_six (unhide HSZ) (j := j + 1) (by omega)
            rw [unhide HS] at h6
            rw [eX] at c1
            obtain ⟨X, hX⟩ : ∃ X : Nat, at0 s j = X := ⟨(at0 s j).toNat, by omega⟩
            rw [hX] at c1 HS h6 h1
            have hX2 : ((X : Int)).toNat = X := by omega
            rw [hX2] at HS h6
            have hj1 : j + 1 ≤ N := by omega
            have h48 : T + X ≤ 48 := by omega
            clear hc hX eX hlt' h1 h6 hX2
            go_wp2
            go_roundw
            case rel => exact ⟨j + 1, T + X, by omega, by go_num, by go_num, hide (unhide HS).symm, h48, by first | trivial | rfl⟩
            case measure => simp [intOf]; omega
          · obtain rfl : j = N := by omega
            have HT3 : Hid (total s = T) := hide (by rw [unhide HT2, ← unhide HN]; rfl)
            have ht := unhide HT
            rw [unhide HT3] at ht
            by_cases h : 32 < T
            · rw [if_pos h] at ht
              have HE := hide ht
              clear ht
              go_wp2
              go_ret2
              exact ⟨(unhide HE).symm, rfl⟩
            · rw [if_neg h] at ht
              have HE := hide ht
              clear ht
              go_wp2
              go_ret2
              exact ⟨(unhide HE).symm, rfl⟩
      · have hv : tells s = .returned (.tuple #[.int .i64 0, .iface 47 (.int .i64 1)]) := by simp [tells, errB, bf, h0, h8, hany]
        have hcf := containsFunc a cap s w hl hr
        rw [hany] at hcf
        rw [hv]
        clear hv h0 hany
        go_enter Tryd.func15, Tryd.ntmps15
        go_wp2_with fail
        refine hcf.mono ?_
        clear hcf
        rintro e w1 ⟨rfl, rfl⟩
        go_wp2
        go_ret2
        exact ⟨rfl, rfl⟩

theorem check_ok (a : Option Addr) (cap : Nat) (s : List Int) (w : World) (hl : s.length ≤ 9223372036854775807) (hr : Row w a s) (h : Hid (bf s = 0)) :
    Calls Tryd.prog 15 #[.slice a s.length cap] w fun e w' => e = .returned (.tuple #[.int .i64 (total s : Int), .nilIface]) ∧ w' = w := by
  have := check a cap s w hl hr
  unfold tells at this
  rwa [if_pos (unhide h), errB_zero (unhide h)] at this
theorem check_no (a : Option Addr) (cap : Nat) (s : List Int) (w : World) (hl : s.length ≤ 9223372036854775807) (hr : Row w a s) (h : Hid (bf s ≠ 0)) :
    Calls Tryd.prog 15 #[.slice a s.length cap] w fun e w' => e = .returned (.tuple #[.int .i64 0, .iface 47 (.int .i64 (bf s))]) ∧ w' = w := by
  have := check a cap s w hl hr
  unfold tells at this
  rwa [if_neg (unhide h), errB_ne (unhide h)] at this

end Go.Proofs.YthkibjhhlcfceaiDoor.Bnd

/-
  A slice of slices that this call has made itself: made, one of them set, one appended; and what it is to read.
-/
namespace Go.Proofs.YthkibjhhlcfceaiDoor
open Go.RowKit
open Go.Proofs.YthkibjhhlcfceaiDoor.Tre
set_option linter.unusedVariables false

theorem info_ints : (Tryd.prog.info? 22).map (fun i => (i.zero, i.size, i.bytes)) = some (some (.slice none 0 0), 1, 24) := by kernel_rfl

/-- A slice of this call's own (its block at base or behind) holds these slices. -/
def HasS (w : World) (base : Nat) (v : Value) (vs : List Value) : Prop := w.ownsRow base 22 1 v vs.length vs
theorem HasS.nil (w : World) (base : Nat) : HasS w base (.slice none 0 0) [] := World.ownsRow_nil _ _ _ _
theorem HasS.kept {w w' : World} {base : Nat} {v : Value} {vs : List Value} {row : Option Nat} (h : HasS w base v vs) (hg : w.grownBy w' row) (hne : v.ownBlock = none ∨ v.ownBlock ≠ row) : HasS w' base v vs := World.ownsRow.kept h hg hne
theorem HasS.alloc {w : World} {base : Nat} {v : Value} {vs : List Value} (h : HasS w base v vs) (o : Obj) : HasS (w.alloc o) base v vs := World.ownsRow.alloc h o
theorem HasS.below {w w' : World} {base : Nat} {v : Value} {vs : List Value} (h : HasS w base v vs) (hb : Below w.heap.size w w') : HasS w' base v vs := by
  refine ⟨h.1, ?_⟩
  rcases h.2 with hn | ⟨g, cap, cur, rfl, hbg, hgg, rest⟩
  · exact .inl hn
  · exact .inr ⟨g, cap, cur, rfl, hbg, (hb.block g (Array.getElem?_eq_some_iff.1 hgg).1).trans hgg, rest⟩
theorem HasS.lt {w : World} {base : Nat} {v : Value} {vs : List Value} (h : HasS w base v vs) : ∀ k, v.ownBlock = some k → base ≤ k ∧ k < w.heap.size := World.ownsRow.lt h
theorem HasS.get {w : World} {base g n c : Nat} {vs : List Value} (h : HasS w base (.slice (some ⟨g, 0, none⟩) n c) vs) (hn : n = vs.length) {j : Nat} {V : Value} (hj : vs[j]? = some V) : w.cell? ⟨g, j, none⟩ = some V := by
  have hlt : j < vs.length := (List.getElem?_eq_some_iff.1 hj).1
  subst hn
  have := World.ownsRow.cellAt h j (by omega)
  rw [this]
  simp [hj]
theorem HasS.put {w : World} {base g n c : Nat} {vs : List Value} (h : HasS w base (.slice (some ⟨g, 0, none⟩) n c) vs) (hn : n = vs.length) (j : Nat) (V : Value) :
    HasS (w.setCell ⟨g, j, none⟩ V) base (.slice (some ⟨g, 0, none⟩) n c) (vs.set j V) ∧ w.grownBy (w.setCell ⟨g, j, none⟩ V) (some g) := by
  subst hn
  have := World.ownsRow.stored h j V
  refine ⟨?_, this.2⟩
  unfold HasS
  rw [List.length_set]
  exact this.1
theorem HasS.frozen {w : World} {base g n c : Nat} {vs : List Value} (h : HasS w base (.slice (some ⟨g, 0, none⟩) n c) vs) (hn : n = vs.length) (j : Nat) : w.frozen? ⟨g, j, none⟩ = false := by
  subst hn
  exact World.ownsRow.frozenAt h j

/-- What such a slice is to read. -/
theorem HasS.rws {w : World} {base : Nat} {v : Value} {vs : List Value} {ll : List (List Int)} (h : HasS w base v vs) (hl : ll.length = vs.length) (hc : ∀ r, r < ll.length → ∃ V, vs[r]? = some V ∧ Sli w V (rowAt ll r)) :
    ∃ a cap, v = .slice a ll.length cap ∧ Rws w a ll := by
  have h' := h
  rcases h.2 with ⟨h1, h2⟩ | ⟨g, cap, cur, hv, hb, hg, r⟩
  · have e : ll = [] := List.length_eq_zero_iff.1 (by omega)
    subst e
    exact ⟨none, 0, h1, Or.inl rfl⟩
  · refine ⟨some ⟨g, 0, none⟩, cap, by rw [hl]; exact hv, ?_⟩
    by_cases hl0 : ll = []
    · exact Or.inl hl0
    · refine Or.inr ⟨g, 0, rfl, (Array.getElem?_eq_some_iff.1 hg).1, fun j hj => ?_⟩
      subst hv
      obtain ⟨V, hV, hs⟩ := hc j hj
      rw [Nat.zero_add]
      exact cel_of (h'.get rfl hV) hs

/-- make of slices: nil ones of this call's own. -/
theorem wpList_mks {ops : Array Oper} {rest : List Oper} {o : Oper} {a : Act} {Q : Exit → Act → World → Prop} (w : World) (hgd : o.guard = none) (s : Operand)
    (ho : o.op = .makeSlice 44 s s) (n : Nat) (hs : a.eval s = .int .i64 n) (hn : n ≤ 1000000)
    (h : ∀ w', HasS w' w.heap.size (.slice (some ⟨w.heap.size, 0, none⟩) n n) (List.replicate n (.slice none 0 0)) → Below w.heap.size w w' → w.heap.size < w'.heap.size → wpList Tryd.prog ops Q rest (a.put o.dst (.slice (some ⟨w.heap.size, 0, none⟩) n n)) w') :
    wpList Tryd.prog ops Q (o :: rest) a w := by
  obtain ⟨i0, hi, hz0, hz1, hz2⟩ := info_parts info_ints
  refine wpList_make_full w hgd s s 44 ho w.heap.size 22 i0 (.slice none 0 0) 1 Tryd.underlying44 hi hz0 hz1 _ _ _ _ n hs hs rfl rfl (by rw [hz2]; omega) (by unfold maxLen; omega) (Nat.le_refl _) ?_
  intro w2 hown hgrow
  rw [Nat.mul_one] at hown
  refine h w2 ?_ ((Below.refl _ _).grown hgrow (Nat.le_refl _) (by intro k hk; cases hk)) ?_
  · unfold HasS
    rw [List.length_replicate, ← toList_madeCells_one]
    exact hown
  · exact (World.ownsRow.lt hown w.heap.size rfl).2

/-- append of one slice. -/
theorem run_apps (w : World) (base : Nat) (v : Value) (vs : List Value) (ty : TypeId) (hv : HasS w base v vs) (V : Value) (b off cap : Nat) (hV : V.oneCell' = true) (hc : w.cell? ⟨b, off, none⟩ = some V) (hlen : vs.length + 1 ≤ 1000000) (hbase : base ≤ w.heap.size) :
    ∃ v' w', (Builtin.append_ #[44, 44] ty #[v, .slice (some ⟨b, off, none⟩) 1 cap]).run Tryd.prog w = .ok v' w' ∧ HasS w' base v' (vs ++ [V]) ∧ w.grownBy w' v.ownBlock ∧ (v'.ownBlock = v.ownBlock ∨ v'.ownBlock = some w.heap.size) := by
  obtain ⟨i, hi, hz0, hz1, hz2⟩ := info_parts info_ints
  have hcs : ∀ (j : Nat) (u : Value), ([V] : List Value)[j]? = some u → w.cell? ((⟨b, off, none⟩ : Addr).add j) = some u := by
    intro j u hu
    have hj : j = 0 := by
      rcases Nat.lt_or_ge j 1 with h | h
      · omega
      · rw [List.getElem?_eq_none (by simpa using h)] at hu; cases hu
    subst hj
    rw [addr_plain, Nat.add_zero, hc]
    simpa using hu
  obtain ⟨v', w', h1, h2, h3, h4, h5⟩ := run_append_own_at (P := Tryd.prog) w base 44 ty 22 i (.slice none 0 0) 1 24 Tryd.underlying44 hi hz0 hz1 hz2 rfl (by omega) v vs.length vs hv ⟨b, off, none⟩ 1 cap [V] (by simp) hcs
    (by intro u hu; obtain rfl : u = V := by simpa using hu
        exact hV) (by simp only [maxLen]; omega) (by omega) hbase
  refine ⟨v', w', h1, ?_, h3, h5⟩
  unfold HasS
  rw [List.length_append]
  exact h2

theorem wpList_apps {ops : Array Oper} {rest : List Oper} {o : Oper} {a : Act} {Q : Exit → Act → World → Prop} (w : World) (hgd : o.guard = none) (s x : Operand)
    (ho : o.op = .call { callee := .builtin .append, args := #[s, x], argTypes := #[44, 44] }) (base : Nat) (v : Value) (vs : List Value) (V : Value) (b off cap : Nat) (hs : a.eval s = v) (hv : HasS w base v vs)
    (hx : a.eval x = .slice (some ⟨b, off, none⟩) 1 cap) (hV : V.oneCell' = true) (hc : w.cell? ⟨b, off, none⟩ = some V) (hlen : vs.length + 1 ≤ 1000000) (hbase : base ≤ w.heap.size)
    (h : ∀ v' w', HasS w' base v' (vs ++ [V]) → w.grownBy w' v.ownBlock → (v'.ownBlock = v.ownBlock ∨ v'.ownBlock = some w.heap.size) → wpList Tryd.prog ops Q rest (a.put o.dst v') w') :
    wpList Tryd.prog ops Q (o :: rest) a w := by
  refine wpList_plain hgd fun K hK => ?_
  obtain ⟨v', w', hrun, h2, h3, h4⟩ := run_apps w base v vs o.type hv V b off cap hV hc hlen hbase
  unfold Oper.wp
  simp [execOp, ho, resolve, invoke, builtin, hs, hx, hrun, Result.andThen]
  exact hK _ _ (h v' w' h2 h3 h4)

end Go.Proofs.YthkibjhhlcfceaiDoor
