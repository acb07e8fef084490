/-
  Texts as lists of bytes: those that are made of slices of bytes.
-/
import Derived.Test.YtjojeifoddonnakGreatDoorLd19
import Derived.Laws.IdiomStrings
import Derived.Test.YtjojeifoddonnakGreatDoorLd09
import Derived.Test.YtjojeifoddonnakGreatDoorLd08
namespace Go.Proofs.YtjojeifoddonnakGreatDoor.Hrn
open Go.RowKit
open Go.Proofs.YtjojeifoddonnakGreatDoor.Tre Go.Proofs.YtjojeifoddonnakGreatDoor.Scl
set_option linter.unusedVariables false

/-- A text of bytes that a slice holds. -/
theorem run_str (w : World) (a : Addr) (cap : Nat) (l : List Int) (hb : Byts l) (hc : ∀ j, j < l.length → w.cell? (a.add j) = some (.int .u8 (at0 l j))) :
    (convert 45 9 (.slice (some a) l.length cap)).run Tryz.prog w = .ok (.string (str l)) w := by
  have h := run_convert_bytes_back (P := Tryz.prog) w 45 9 5 a cap (u8s l) Tryz.underlying45 Tryz.underlying5 Tryz.underlying9 (fun j hj => by
    rw [u8s_length] at hj
    rw [hc j hj]
    have e : at0 l j = l[j] := by simp [at0, hj]
    obtain ⟨h0, h1⟩ := hb l[j] (List.getElem_mem hj)
    rw [e]
    simp [u8s]
    omega)
  rw [u8s_length] at h
  exact h
theorem run_str1 (w : World) (n : Int) (t : TypeId) (h0 : 0 ≤ n) (h1 : n < 256) :
    (convert 45 9 (.slice (some ⟨w.heap.size, 0, none⟩) 1 1)).run Tryz.prog (w.alloc (.cells #[.int .u8 n] t)) = .ok (.string (str [n])) (w.alloc (.cells #[.int .u8 n] t)) :=
  run_str (w.alloc (.cells #[.int .u8 n] t)) ⟨w.heap.size, 0, none⟩ 1 [n] (fun b hb => by simp at hb; omega) (fun j hj => by
    obtain rfl : j = 0 := by simpa using hj
    rw [addr_plain, World.cell?_alloc_at _ _ _ _ rfl]; rfl)
theorem run_str3 (w : World) (x y z : Int) (t : TypeId) (hb : Byts [x, y, z]) :
    (convert 45 9 (.slice (some ⟨w.heap.size, 0, none⟩) 3 3)).run Tryz.prog (w.alloc (.cells #[.int .u8 x, .int .u8 y, .int .u8 z] t)) = .ok (.string (str [x, y, z])) (w.alloc (.cells #[.int .u8 x, .int .u8 y, .int .u8 z] t)) :=
  run_str (w.alloc (.cells #[.int .u8 x, .int .u8 y, .int .u8 z] t)) ⟨w.heap.size, 0, none⟩ 3 [x, y, z] hb (fun j hj => by
    have hj' : j = 0 ∨ j = 1 ∨ j = 2 := by simp at hj; omega
    rcases hj' with rfl | rfl | rfl <;> (rw [addr_plain, World.cell?_alloc_at _ _ _ _ rfl]; rfl))
end Go.Proofs.YtjojeifoddonnakGreatDoor.Hrn

/-
  A slice of bytes of this call's own: append of one byte, outside a fence; the text that it holds.
-/
namespace Go.Proofs.YtjojeifoddonnakGreatDoor
open Go.RowKit
open Go.Proofs.YtjojeifoddonnakGreatDoor.Tre Go.Proofs.YtjojeifoddonnakGreatDoor.Hrn
set_option linter.unusedVariables false

theorem wpList_appy {ops : Array Oper} {rest : List Oper} {o : Oper} {a : Act} {Q : Exit → Act → World → Prop} (w : World) (hgd : o.guard = none) (s x : Operand)
    (ho : o.op = .call { callee := .builtin .append, args := #[s, x], argTypes := #[45, 45] }) (base : Nat) (v : Value) (l : List Int) (c : Int) (b cap : Nat) (hs : a.eval s = v) (hv : HasY w base v l)
    (hx : a.eval x = .slice (some ⟨b, 0, none⟩) 1 cap) (hr : w.cell? ⟨b, 0, none⟩ = some (.int .u8 c)) (hlen : l.length + 1 ≤ 1000000) (hbase : base ≤ w.heap.size)
    (h : ∀ v' w', HasY w' base v' (l ++ [c]) → w.grownBy w' v.ownBlock → (v'.ownBlock = v.ownBlock ∨ v'.ownBlock = some w.heap.size) → wpList Tryz.prog ops Q rest (a.put o.dst v') w') :
    wpList Tryz.prog ops Q (o :: rest) a w := by
  refine wpList_plain hgd fun K hK => ?_
  obtain ⟨v', w', hrun, h2, h3, h4⟩ := run_appy w base v l c o.type hv b cap hr hlen hbase
  unfold Oper.wp
  simp [execOp, ho, resolve, invoke, builtin, hs, hx, hrun, Result.andThen]
  exact hK _ _ (h v' w' h2 h3 h4)
theorem stepped_y {W w1 : World} {n₀ : Nat} {v v' : Value} {l l' : List Int} {tmp : Obj} (h : HasY W n₀ v l) (hn : n₀ ≤ W.heap.size)
    (hg : (W.alloc tmp).grownBy w1 v.ownBlock) : Below n₀ W w1 := ((Below.refl n₀ W).alloc hn tmp).grown hg (by simp; omega) (fun j e => (h.lt j e).1)
theorem run_str_nil (w : World) : (convert 45 9 (.slice none 0 0)).run Tryz.prog w = .ok (.string (str [])) w := by
  simp [convert, run_underlying Tryz.underlying45, run_underlying Tryz.underlying9, run_underlying Tryz.underlying5]
  rfl
/-- string(b) of what such a slice holds. -/
theorem run_str_y {w : World} {base : Nat} {v : Value} {l : List Int} (h : HasY w base v l) (hb : Byts l) : (convert 45 9 v).run Tryz.prog w = .ok (.string (str l)) w := by
  by_cases h0 : l = []
  · subst h0
    rcases h.2 with ⟨rfl, _⟩ | ⟨g, cap, cur, rfl, _⟩
    · exact run_str_nil w
    · exact run_str w ⟨g, 0, none⟩ cap [] hb (fun j hj => by simp at hj)
  · obtain ⟨g, c, rfl, _⟩ := h.one (List.length_pos_iff.2 h0)
    exact run_str w ⟨g, 0, none⟩ c l hb (fun j hj => by rw [addr_plain, Nat.zero_add]; exact h.get hj)

end Go.Proofs.YtjojeifoddonnakGreatDoor

/-
  hornref2.Octets: by its contract.
-/
namespace Go.Proofs.YtjojeifoddonnakGreatDoor.Wid
open Go.RowKit
open Go.Proofs.YtjojeifoddonnakGreatDoor.Tre Go.Proofs.YtjojeifoddonnakGreatDoor.Scl Go.Proofs.YtjojeifoddonnakGreatDoor.Bnd Go.Proofs.YtjojeifoddonnakGreatDoor.Hrn
set_option linter.unusedVariables false

theorem eight_at (l : List Int) (j : Nat) {q : Nat} (h : q < 8) : at0 (eight l j) q = at0 l (8 * j + q) := by unfold eight; exact upto_at _ h

set_option maxRecDepth 100000 in
set_option maxHeartbeats 8000000 in
theorem refOctets (a : Option Addr) (cap : Nat) (l : List Int) (w : World) (hr : Row w a l) (h400 : l.length ≤ 400) (hb : Hid (Bit l)) :
    Calls Tryz.prog 43 #[.slice a l.length cap] w fun e w' => e = .returned (.string (str (oct l))) ∧ Below w.heap.size w w' := by
  have HBY : Hid (Byts (oct l)) := hide (oct_in (unhide hb))
  have HOC : Hid (oct l = upto (fun i => num 0 (eight l i)) ((l.length + 7) / 8)) := hide rfl
  obtain ⟨cd, hcd⟩ : ∃ cd, oct l = cd := ⟨_, rfl⟩
  rw [hcd] at HBY HOC ⊢
  have HSE : Hid (∀ j q, 0 ≤ num 0 ((eight l j).take q) ∧ num 0 ((eight l j).take q) ≤ 1048576) := hide (fun j q => num_small (eight_bit (unhide hb) j) (by rw [eight_length]; omega) q)
  have HS8 : Hid (∀ j, 0 ≤ num 0 (eight l j) ∧ num 0 (eight l j) ≤ 255) := hide (fun j => by
    have h := num_in (eight_bit (unhide hb) j)
    rw [eight_length] at h
    have h2 := h.2
    exact ⟨h.1, by omega⟩)
  obtain ⟨N, hN⟩ : ∃ N, l.length = N := ⟨_, rfl⟩
  have HN := hide hN
  rw [hN] at h400 HOC ⊢
  clear hN hcd
  go_enter Tryz.func43, Tryz.ntmps43
  go_wp2
  go_loopw [3, 4] (fun v i wr => ∃ j I : Nat, I ≤ N + 7 ∧ I = 8 * j ∧ i = .int .i64 I ∧ HasY wr w.heap.size v (upto (fun i => num 0 (eight l i)) j) ∧ Below w.heap.size w wr) (fun _ i _ => N + 8 - (intOf i).toNat)
  case atStart => exact ⟨0, 0, by omega, rfl, rfl, HasY.nil _ _, Below.refl _ _⟩
  case round =>
    obtain ⟨j, I, hI, hIj, rfl, hv, hB⟩ := hrel
    have HIJ := hide hIj
    clear hIj
    by_cases hlt : I < N
    · have HT8 : Hid (∀ q, q < 8 → num 0 ((eight l j).take (q + 1)) = 2 * num 0 ((eight l j).take q) + at0 l (I + q)) := hide (fun q hq => by
        rw [num_take (by rw [eight_length]; exact hq), eight_at l j hq, unhide HIJ])
      have HTA : Hid (num 0 ((eight l j).take 8) = num 0 (eight l j)) := hide (by rw [List.take_of_length_le (by rw [eight_length]; exact Nat.le_refl _)])
      have hI8 : IntKind.i64.wrap ((I : Int) + 8) = (I : Int) + 8 := IntWalk.i64_in _ (by omega)
      have hrw := hr.below hB
      have HX0 : Hid (num 0 ((eight l j).take 0) = 0) := hide rfl
      rename World => w5
      go_wp2
      go_loopw [5, 6] (fun n k wr => ∃ (q K : Nat) (X : Int), q ≤ 8 ∧ K = I + q ∧ k = .int .i64 K ∧ n = .int .i64 X ∧ Hid (num 0 ((eight l j).take q) = X) ∧ w5 = wr) (fun _ k _ => I + 8 - (intOf k).toNat)
      case atStart => exact ⟨0, I, 0, by omega, rfl, rfl, rfl, HX0, rfl⟩
      case round =>
        obtain ⟨q, K, X, hq, hK, rfl, rfl, HX, rfl⟩ := hrel
        clear HX0
        by_cases hq8 : q < 8
        · have hs := unhide HSE j q
          have HX2 : Hid (num 0 ((eight l j).take (q + 1)) = 2 * X + at0 l K) := hide (by rw [unhide HT8 q hq8, unhide HX, hK])
          rw [unhide HX] at hs
          have hbt := bit_at (unhide hb) K
          have w1 : IntKind.i64.wrap (2 * X) = 2 * X := IntWalk.i64_in _ (by omega)
          have hkd : decide ((K : Int) < (I : Int) + 8) = true := by simp; omega
          have hK1 : K + 1 = I + (q + 1) := by omega
          have hK9 : K ≤ I + 8 := by omega
          clear HX hK
          by_cases hkN : K < N
          · obtain ⟨b1, off1, rfl, _, hc1⟩ := Scl.cell_at hrw (by rw [unhide HN]; omega)
            have c1 := hc1 K (by rw [unhide HN]; exact hkN)
            obtain ⟨B, hBB⟩ : ∃ B, at0 l K = B := ⟨_, rfl⟩
            rw [hBB] at c1 HX2 hbt
            have w2 : IntKind.i64.wrap (2 * X + B) = 2 * X + B := IntWalk.i64_in _ (by omega)
            clear hBB hc1 hbt hs
            go_wp2
            go_roundw
            case rel => exact ⟨q + 1, K + 1, 2 * X + B, by omega, hK1, by go_num, by first | rfl | go_num, HX2, by first | trivial | rfl⟩
            case measure => simp [intOf]; omega
          · have e0 : at0 l K = 0 := at0_none (by rw [unhide HN]; omega)
            have HX3 : Hid (num 0 ((eight l j).take (q + 1)) = 2 * X) := hide (by rw [unhide HX2, e0]; omega)
            clear HX2 e0 hbt hs
            go_wp2
            go_roundw
            case rel => exact ⟨q + 1, K + 1, 2 * X, by omega, hK1, by go_num, by first | rfl | go_num, HX3, by first | trivial | rfl⟩
            case measure => simp [intOf]; omega
        · obtain rfl : q = 8 := by omega
          have hkd : decide ((K : Int) < (I : Int) + 8) = false := by simp; omega
          have hx := unhide HS8 j
          have HXX : Hid (num 0 (eight l j) = X) := hide (by rw [← unhide HX, unhide HTA])
          rw [unhide HXX] at hx
          obtain ⟨x0, x9⟩ := hx
          have hm : X % 256 = X := by omega
          have HUP : Hid (upto (fun i => num 0 (eight l i)) (j + 1) = upto (fun i => num 0 (eight l i)) j ++ [X]) := hide (by rw [upto_succ]; simp only [unhide HXX])
          have hln : Hid ((upto (fun i => num 0 (eight l i)) j).length + 1 ≤ 1000000) := hide (by rw [upto_length]; have := unhide HIJ; omega)
          have hWs := hB.size
          have hI2 : I + 8 = 8 * (j + 1) := by have := unhide HIJ; omega
          have HI2 := hide hI2
          clear HX HTA HT8 hK hI2
          go_wp2_with (at_builtin; refine wpList_appy _ rfl _ _ rfl w.heap.size u3 _ X _ _ rfl (hv.alloc _) rfl (cell_byte _ _ _) (unhide hln) (by simp; omega) ?_; intro s' w6 k6 g6 at6)
          have hB6 := hB.trans (stepped_y (l' := []) (v' := s') hv hWs g6)
          rw [← unhide HUP] at k6
          clear hv hB at6 g6
          go_wp2
          go_roundw
          case rel => exact ⟨j + 1, I + 8, by omega, unhide HI2, by go_num, k6, hB6⟩
          case measure => simp [intOf]; omega
    · have HE : Hid (upto (fun i => num 0 (eight l i)) j = cd) := hide (by
        rw [unhide HOC]
        congr 1
        have := unhide HIJ
        omega)
      rw [unhide HE] at hv
      have hcv := run_str_y hv (unhide HBY)
      obtain ⟨p9, n9, q9, rfl⟩ := hv.any
      go_wp2
      go_ret
      exact ⟨rfl, hB⟩

end Go.Proofs.YtjojeifoddonnakGreatDoor.Wid

/-
  hornref2.Open: by its contract.
-/
namespace Go.Proofs.YtjojeifoddonnakGreatDoor.Wid
open Go.RowKit
open Go.Proofs.YtjojeifoddonnakGreatDoor.Tre Go.Proofs.YtjojeifoddonnakGreatDoor.Scl Go.Proofs.YtjojeifoddonnakGreatDoor.Bnd Go.Proofs.YtjojeifoddonnakGreatDoor.Hrn
set_option linter.unusedVariables false

theorem upto_add (f : Nat → Int) (n k : Nat) : upto f (n + k) = upto f n ++ upto (fun i => f (n + i)) k := by
  induction k with
  | zero => simp [upto]
  | succ k ih => rw [← Nat.add_assoc, upto_succ, ih, upto_succ, List.append_assoc]
theorem opn_step (b : List Int) (j : Nat) : upto (opnF b) (8 * j) ++ bin 8 (at0 b j) = upto (opnF b) (8 * (j + 1)) := by
  rw [show 8 * (j + 1) = 8 * j + 8 by omega, upto_add]
  congr 1
  rw [eq_upto (bin 8 (at0 b j)), bin_length]
  exact upto_congr fun i hi => (opnF_at b j i hi).symm
/-- What is taken next: the half of what so many bits bear. -/
def pw : Nat → Int
  | 0 => 0
  | m + 1 => 2 ^ m
theorem pw_half (m : Nat) : Int.tdiv (2 ^ m) 2 = pw m := by
  cases m with
  | zero => rfl
  | succ m =>
    rw [pw, two_succ, Int.tdiv_eq_ediv_of_nonneg (by have := two_pos m; omega)]
    omega
theorem run_idx (s : ByteArray) (i : Nat) (h : i < s.size) (w : World) : (Instr.index 9 (.string s) (.int .i64 i)).run Tryz.prog w = .ok (.int .u8 (at0 (byt s) i)) w := by
  rw [run_index_string w 9 s .i64 i Tryz.underlying9, dif_pos ⟨by omega, by omega⟩]
  have e : ((i : Int)).toNat = i := by omega
  rw [← byt_at s h]
  simp only [e]

set_option maxRecDepth 100000 in
set_option maxHeartbeats 8000000 in
theorem refOpen (s : ByteArray) (w : World) (h50 : s.size ≤ 1000) :
    Calls Tryz.prog 24 #[.string s] w fun e w' => ∃ v, e = .returned v ∧ Has w' w.heap.size v (opn (byt s)) ∧ Below w.heap.size w w' := by
  have HIX : Hid (∀ i, i < s.size → ∀ W, (Instr.index 9 (.string s) (.int .i64 i)).run Tryz.prog W = .ok (.int .u8 (at0 (byt s) i)) W) := hide (fun i h W => run_idx s i h W)
  have HZ := hide (byt_length s)
  have HBT : Hid (∀ i, i < s.size → 0 ≤ at0 (byt s) i ∧ at0 (byt s) i ≤ 255) := hide (fun i hi => by
    have hi' : i < (byt s).length := by rw [unhide HZ]; exact hi
    have e : at0 (byt s) i = (byt s)[i] := by simp [at0, hi']
    have := byt_byts s (byt s)[i] (List.getElem_mem hi')
    omega)
  have HOP : Hid (opn (byt s) = upto (opnF (byt s)) (8 * (byt s).length)) := hide rfl
  rw [unhide HZ] at HOP
  obtain ⟨bs, hbs⟩ : ∃ bs, byt s = bs := ⟨_, rfl⟩
  rw [hbs] at HIX HBT HOP ⊢
  obtain ⟨od, hod⟩ : ∃ od, opn bs = od := ⟨_, rfl⟩
  rw [hod] at HOP ⊢
  obtain ⟨N, hN⟩ : ∃ N, s.size = N := ⟨_, rfl⟩
  have hsz : ∀ W, (Builtin.len_ #[9] 3 #[.string s]).run Tryz.prog W = .ok (.int .i64 (N : Int)) W := fun W => by rw [run_len_string W 9 3 s Tryz.underlying9, hN]; rfl
  rw [hN] at h50 HIX HBT HOP
  have HO0 : Hid (upto (opnF bs) (8 * 0) = []) := hide rfl
  clear hbs hod hN HZ
  go_enter Tryz.func24, Tryz.ntmps24
  go_wp2
  go_loopw [3, 4] (fun v i wr => ∃ j : Nat, j ≤ N ∧ i = .int .i64 j ∧ Has wr w.heap.size v (upto (opnF bs) (8 * j)) ∧ Below w.heap.size w wr) (fun _ i _ => N - (intOf i).toNat)
  case atStart => exact ⟨0, Nat.zero_le _, rfl, by rw [unhide HO0]; exact Has.nil _ _, Below.refl _ _⟩
  case round =>
    obtain ⟨j, hj, rfl, hv, hB⟩ := hrel
    clear HO0
    by_cases hlt : j < N
    · have hix := unhide HIX j hlt
      obtain ⟨z0, z9⟩ := unhide HBT j hlt
      have HST := hide (opn_step bs j)
      obtain ⟨Z0, hZ0⟩ : ∃ Z, at0 bs j = Z := ⟨_, rfl⟩
      rw [hZ0] at hix z0 z9 HST
      have HP0 : Hid ((128 : Int) = pw 8) := hide rfl
      have HLN : Hid ((upto (opnF bs) (8 * (j + 1))).length ≤ 8008) := hide (by rw [upto_length]; omega)
      obtain ⟨tg, htg⟩ : ∃ tg, upto (opnF bs) (8 * (j + 1)) = tg := ⟨_, rfl⟩
      have HTG := hide htg
      rw [htg] at HST HLN
      obtain ⟨o0, ho0⟩ : ∃ o0, upto (opnF bs) (8 * j) = o0 := ⟨_, rfl⟩
      rw [ho0] at hv HST
      have HZ9 : Hid (Z0 < 2 ^ 8) := hide (by omega)
      clear hZ0 htg ho0
      go_wp2
      go_loopw [3, 5, 6] (fun v p n wr => ∃ (m : Nat) (Q Z : Int) (O : List Int), m ≤ 8 ∧ p = .int .i64 Q ∧ n = .int .i64 Z ∧ Hid (Q = pw m) ∧ 0 ≤ Z ∧ Hid (Z < 2 ^ m) ∧ Has wr w.heap.size v O ∧ Hid (O ++ bin m Z = tg) ∧ Below w.heap.size w wr) (fun _ p _ _ => (intOf p).toNat)
      case atStart => exact ⟨8, 128, Z0, _, by omega, rfl, rfl, HP0, z0, HZ9, hv, HST, hB⟩
      case round =>
        clear hv hB HST HP0 HZ9 hix z0 z9
        obtain ⟨m, Q, Z, O, hm, rfl, rfl, HQ, z0, HZ9, hv, HO, hB⟩ := hrel
        cases m with
        | zero =>
          obtain rfl : Q = 0 := unhide HQ
          have hv2 : Has wr w.heap.size u3 (upto (opnF bs) (8 * (j + 1))) := by
            rw [unhide HTG, ← unhide HO, bin, List.append_nil]
            exact hv
          clear HO hv HQ
          go_wp2
          go_roundw
          case rel => exact ⟨j + 1, by omega, by go_num, hv2, hB⟩
          case measure => simp [intOf]; omega
        | succ m =>
          have z9 := unhide HZ9
          rw [two_succ] at z9
          have t1 := pw_half m
          have HPM : Hid (pw m = pw m) := hide rfl
          obtain ⟨g1, g9⟩ := two_le (k := m) (by omega)
          have HO2 : Hid ((O ++ [Z / 2 ^ m]) ++ bin m (Z % 2 ^ m) = tg) := hide (by rw [← unhide HO, bin]; simp)
          have HMM : Hid (Z % 2 ^ m < 2 ^ m) := hide (mod_in Z).2
          obtain rfl : Q = 2 ^ m := unhide HQ
          have HGM : Hid ((2 : Int) ^ m = 2 ^ m) := hide rfl
          have hpm : 0 ≤ pw m ∧ pw m < 2 ^ m := by
            cases m with
            | zero => exact ⟨by simp [pw], by simp [pw]⟩
            | succ m => rw [pw, two_succ]; have := two_pos m; omega
          obtain ⟨G, hG⟩ : ∃ G : Int, 2 ^ m = G := ⟨_, rfl⟩
          obtain ⟨V, hV⟩ : ∃ V : Int, pw m = V := ⟨_, rfl⟩
          have HV : Hid (V = pw m) := hide hV.symm
          rw [hG] at z9 t1 g1 g9 HO2 HMM hpm ⊢
          rw [hV] at t1 hpm
          obtain ⟨v0, v9⟩ := hpm
          have t2 : Int.tdiv Z G = Z / G := Int.tdiv_eq_ediv_of_nonneg z0
          have t3 : Int.tmod Z G = Z % G := Int.tmod_eq_emod_of_nonneg z0
          have hd : decide (0 < G) = true := by simp; omega
          have hg0 : (G == 0) = false := by rw [beq_eq_false_iff_ne]; omega
          have m0 : 0 ≤ Z % G := Int.emod_nonneg _ (by omega)
          have m9 : Z % G < G := Int.emod_lt_of_pos _ (by omega)
          have d0 : 0 ≤ Z / G := Int.ediv_nonneg z0 (by omega)
          have d9 : Z / G ≤ 1 := by
            have : Z / G < 2 := (Int.ediv_lt_iff_lt_mul (by omega)).2 (by omega)
            omega
          have hln : Hid (O.length + 1 ≤ 17592186044416) := hide (by
            have e := congrArg List.length (unhide HO)
            rw [List.length_append] at e
            have := unhide HLN
            omega)
          have HZ2 : Hid (Z % G < 2 ^ m) := hide (by rw [hG]; exact m9)
          obtain ⟨D, hD⟩ : ∃ D, Z / G = D := ⟨_, rfl⟩
          obtain ⟨M, hM⟩ : ∃ M, Z % G = M := ⟨_, rfl⟩
          rw [hD] at HO2 t2 d0 d9
          rw [hM] at HO2 t3 m0 m9 HZ2
          have hWs := hB.size
          clear hG hV hD hM HO HQ HZ9 HGM HPM HMM
          go_wp2_with (at_builtin; refine wpList_appL _ rfl _ _ rfl w.heap.size u3 O [D] _ _ rfl (hv.alloc _) rfl (row_one _ _ _) (unhide hln) (by simp; omega) ?_; intro s' w6 k6 g6 at6)
          obtain ⟨d1, d2⟩ := stepped_plain hv hWs k6 g6 at6
          have hB6 := hB.trans d1
          clear hv hB d1 d2 g6 at6
          go_wp2
          go_roundw
          case rel => exact ⟨m, V, M, _, by omega, by first | rfl | go_num, by first | rfl | go_num, HV, m0, HZ2, k6, HO2, hB6⟩
          case measure => simp [intOf]; omega
    · obtain rfl : j = N := by omega
      rw [← unhide HOP] at hv
      obtain ⟨p9, n9, q9, rfl⟩ := hv.shape
      go_wp2
      go_ret
      exact ⟨_, rfl, hv, hB⟩

end Go.Proofs.YtjojeifoddonnakGreatDoor.Wid
