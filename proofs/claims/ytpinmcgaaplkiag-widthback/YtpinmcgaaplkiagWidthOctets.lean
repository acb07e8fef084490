/-
  width.Octets: by its contract.
-/
import Derived.Test.YtpinmcgaaplkiagWidthCheck
import Derived.Test.YtpinmcgaaplkiagWidthIter
import Derived.Test.YtpinmcgaaplkiagOwnByteTwo
namespace Go.Proofs.Ytpinmcgaaplkiag.Wid
open Go.RowKit Go.Shelf
open Go.Proofs.Ytpinmcgaaplkiag.Tre Go.Proofs.Ytpinmcgaaplkiag.Scl Go.Proofs.Ytpinmcgaaplkiag.Bnd Go.Proofs.Ytpinmcgaaplkiag.Itr Go.Proofs.Ytpinmcgaaplkiag.Hrn
set_option linter.unusedVariables false
attribute [local go_sem] Oper.semAt_some

theorem octets_no (a : Option Addr) (cap : Nat) (bs : List Int) (E : Int) (w : World) (hr : Row w a bs) (zl : bs.length ≤ 17592186044416) (hE : Hid (bsF bs = E)) (hne : Hid (E ≠ 0)) :
    Calls Try.prog 14 #[.slice a bs.length cap] w fun e w' => e = .returned (.tuple #[.string { data := #[] }, .iface 47 (.int .i64 E)]) ∧ Below w.heap.size w w' := by
  have hck := check_no a cap bs E w hr (by omega) hE hne
  obtain ⟨M, hM⟩ : ∃ M, bs.length = M := ⟨_, rfl⟩
  rw [hM] at hck ⊢
  clear hM hE hne zl
  go_enter Try.func14, Try.ntmps14
  go_wp2_with fail
  refine hck.mono ?_
  clear hck
  rintro e w1 ⟨rfl, hw1⟩
  obtain rfl : w = w1 := hw1.symm
  clear hw1
  go_wp2
  go_ret2
  exact ⟨rfl, Below.refl _ _⟩

/-- The boxes of Octets: the bytes, the bits. -/
def OctB (n₀ : Nat) (lv v : Value) (O : List Int) (W : World) : Prop :=
  Boxed W n₀ 42 v ∧ Boxed W (n₀ + 1) 23 lv ∧ HasY W n₀ v O
theorem OctB.keeps {n₀ : Nat} {lv v : Value} {O : List Int} {W W' : World} {row : Option Nat} (h : OctB n₀ lv v O W) (hg : W.grownBy W' row) (hrow : ∀ r, row = some r → ∃ o : Obj, W.heap[r]? = some o ∧ o.isCells = false) : OctB n₀ lv v O W' := by
  obtain ⟨b1, b2, h1⟩ := h
  exact ⟨boxed_keeps b1 hg hrow, boxed_keeps b2 hg hrow, row_keeps h1 hg hrow⟩
/-- A byte more. -/
theorem OctB.byte {n₀ : Nat} {lv v v' : Value} {c : Int} {O : List Int} {W w1 : World} {tmp : Obj} (h : OctB n₀ lv v O W) (hn : n₀ ≤ W.heap.size) (h' : HasY w1 n₀ v' (O ++ [c])) (hg : (W.alloc tmp).grownBy w1 v.ownBlock) :
    Boxed w1 n₀ 42 v ∧ OctB n₀ lv v' (O ++ [c]) (w1.setCell ⟨n₀, 0, none⟩ v') ∧ KeepsOthers W (w1.setCell ⟨n₀, 0, none⟩ v') ∧ Below n₀ W (w1.setCell ⟨n₀, 0, none⟩ v') := by
  obtain ⟨b1, b2, h1⟩ := h
  obtain ⟨d1, d2, d3, d4, d5⟩ := b1.appended (by decide) h1 hn (Nat.le_refl _) h' hg
  exact ⟨d1, ⟨d2, ((b2.alloc tmp).kept hg (b2.not_row (by decide) h1)).other (by omega) v', d3⟩, d4, d5⟩
/-- Between two rounds of Octets. -/
def OctI (w : World) (bs : List Int) (lv : Value) (pre : List Nat) (W : World) : Prop :=
  (∃ v, OctB w.heap.size lv v (pre.map fun i => num 0 (eight bs i)) W) ∧ Below w.heap.size w W
theorem octI_own (w : World) (bs : List Int) (lv : Value) (D : Nat) (hD : w.heap.size ≤ D) : OwnFrom D (OctI w bs lv) := by
  rintro s X Y row ⟨⟨v, h1⟩, hB⟩ hg hrow
  exact ⟨⟨v, h1.keeps hg (fun r e => (hrow r e).2)⟩, hB.grown hg hB.size (fun k e => by have := (hrow k e).1; omega)⟩

set_option maxRecDepth 100000 in
set_option maxHeartbeats 8000000 in
theorem octets_ok (a : Option Addr) (cap : Nat) (bs : List Int) (w : World) (hr : Row w a bs) (hm : bs.length ≤ cap) (hE : Hid (bsF bs = 0)) :
    Calls Try.prog 14 #[.slice a bs.length cap] w fun e w' => e = .returned (.tuple #[.string (str (oct bs)), .nilIface]) ∧ Below w.heap.size w w' := by
  obtain ⟨h400, hbit⟩ := bsF_zero.1 (unhide hE)
  have hck := check_ok a cap bs w hr hE
  have HBI := hide hbit
  have HBY : Hid (Byts (oct bs)) := hide (oct_in hbit)
  have HOC : Hid ((List.range ((bs.length + 7) / 8)).map (fun i => num 0 (eight bs i)) = oct bs) := hide rfl
  obtain ⟨K, hK0⟩ : ∃ K, K = (bs.length + 7) / 8 := ⟨_, rfl⟩
  have HK := hide hK0
  have hK9 : K ≤ 51 := by omega
  rw [← hK0] at HOC
  clear hE hbit hK0
  refine (callsIn_wide (n := 5)).1 ?_
  refine callsIn_of_wp_marks Try.func14 rfl trivial ?_ rfl
  simp only [Try.ntmps14, List.size_toArray, List.length_cons, List.length_nil, Nat.reduceAdd, Nat.reduceSub, Array.replicate_succ, Array.replicate_zero, List.push_toArray, List.append_toArray, List.nil_append, List.cons_append]
  gi_wp2_with (first
    | (refine ⟨trivial, ?_⟩; gi_at_call 28; refine (callsIn_wide.2 hck).mono ?_; rintro e w1 ⟨rfl, hw1⟩; obtain rfl : w = w1 := hw1.symm; clear hw1)
    | (refine ⟨trivial, ?_⟩; gi_at_call 30; refine (eights_in _ _ _ _ _).mono ?_; rintro e w' ⟨rfl, rfl⟩))
  have b1 := (Boxed.new w 42 (.slice none 0 0)).alloc (.cells #[.slice a bs.length cap] 23)
  have b2 := Boxed.new (w.alloc (.cells #[.slice none 0 0] 42)) 23 (.slice a bs.length cap)
  have hB0 : Below w.heap.size w ((w.alloc (.cells #[.slice none 0 0] 42)).alloc (.cells #[.slice a bs.length cap] 23)) := ((Below.refl _ w).alloc (Nat.le_refl _) _).alloc (by simp) _
  have hn5 : w.heap.size + 1 < ((w.alloc (.cells #[.slice none 0 0] 42)).alloc (.cells #[.slice a bs.length cap] 23)).heap.size := by simp
  simp only [World.size_alloc] at b2
  obtain ⟨W0, hW0⟩ : ∃ W0, ((w.alloc (.cells #[.slice none 0 0] 42)).alloc (.cells #[.slice a bs.length cap] 23)) = W0 := ⟨_, rfl⟩
  rw [hW0] at b1 b2 hB0 hn5 ⊢
  clear hW0 hck
  have hsz := hB0.size
  refine wpIn_rangeFunc_ownG rfl (by omega) (gf := 42) (lb := #[.pointer (some ⟨w.heap.size + 1, 0, none⟩)]) rfl trivial (enters_of Try.func42 (by kernel_rfl) rfl)
    (eights_stops _ (by omega) (w.heap.size + 1) w.heap.size a cap bs h400 hm HBI K HK W0 hn5 hsz b2.cell ((rowB_of hr).below hB0)) Kp.trans (kp_b hsz hn5) (Below.refl _ _) (fun _ => rfl)
    (OctI w bs (.slice a bs.length cap)) (fun _ _ _ => False) (octI_own w bs _ _ hsz) (fun _ _ _ _ _ hs _ _ => hs)
    ⟨⟨_, ⟨b1, b2, HasY.nil _ _⟩⟩, hB0⟩
    (fun x => { tmps := #[.slice a bs.length cap, undef, .string { data := #[] }, .nilIface, .nilIface, .pointer (some ⟨w.heap.size, 0, none⟩), .int .i64 (num 0 (eight bs x)), .slice a bs.length cap, .nilIface, .nilIface, .bool false, undef, .slice a bs.length cap,
      .func (.func 42) #[] #[.pointer (some ⟨w.heap.size + 1, 0, none⟩)], .int .i64 (num 0 (eight bs x)), undef, undef, undef, undef, undef, undef, undef], defers := [] }) ?assign ?body ?done ?stop
  case assign =>
    intro L x W K hK
    gi_wp2
    exact hK
  case body =>
    rintro L pre x W ⟨⟨v, hEB⟩, hB⟩ hlt
    have h8 := num_in (eight_bit (unhide HBI) x)
    rw [eight_length] at h8
    obtain ⟨c0, c9⟩ := h8
    have HMP : Hid ((pre ++ [x]).map (fun i => num 0 (eight bs i)) = pre.map (fun i => num 0 (eight bs i)) ++ [num 0 (eight bs x)]) := hide (by rw [List.map_append]; rfl)
    obtain ⟨C, hC⟩ : ∃ C, num 0 (eight bs x) = C := ⟨_, rfl⟩
    rw [hC] at c0 c9 HMP ⊢
    have c9' : C ≤ 255 := by omega
    have u3 : C % 256 = C := by omega
    have hyl : (pre.map (fun i => num 0 (eight bs i))).length + 1 ≤ 1000000 := by rw [List.length_map]; omega
    have HYL := hide hyl
    obtain ⟨O, hO⟩ : ∃ O, pre.map (fun i => num 0 (eight bs i)) = O := ⟨_, rfl⟩
    rw [hO] at hEB HYL HMP
    have hcb := hEB.1.cell
    have hWs := hB.size
    have h2 := hEB.2.1
    obtain ⟨lv, hlv⟩ : ∃ lv, Value.slice a bs.length cap = lv := ⟨_, rfl⟩
    have HLV := hide hlv
    rw [hlv] at hEB h2
    clear hC hO hyl c9 hlt b1 b2 hB0 hn5 hsz hlv
    gi_wp2_with (
      gi_at_builtin
      refine wpListIn_appy _ rfl _ _ rfl w.heap.size v O C _ _ rfl (hEB.2.2.alloc _) rfl (cell_byte _ _ _) (unhide HYL) (by simp; omega) ?_
      intro u1 w6 k6 g6 at6
      obtain ⟨d1, d2, d3, d4⟩ := OctB.byte hEB hWs k6 g6
      obtain ⟨pa, na, ca, rfl⟩ := k6.any
      have f1 := d1.cell
      have f2 := d1.frozen)
    exact ⟨d3.from _, ⟨d4, d2.2.1.trans h2.symm⟩, ⟨⟨_, by rw [unhide HLV, unhide HMP]; exact d2⟩, hB.trans d4⟩⟩
  case done =>
    rintro D ys W hD rfl ⟨⟨v, hEB⟩, hB⟩ hK
    rw [unhide HOC] at hEB
    obtain ⟨cd, hcd⟩ : ∃ cd, oct bs = cd := ⟨_, rfl⟩
    have HCD := hide hcd
    rw [hcd] at hEB HBY
    have hcb := hEB.1.cell
    have hcv := run_str_y hEB.2.2 (unhide HBY)
    obtain ⟨pa, na, ca, rfl⟩ := hEB.2.2.any
    clear b1 b2 hn5 hcd
    gi_wp2
    refine ⟨by simp, .inl ⟨_, _, rfl, run_takeDeferred hK, ?_⟩⟩
    refine ⟨.tuple #[.string (str cd), .nilIface], ?_, by rw [unhide HCD], hB.trans (belowK_b (w := w) (Nat.le_refl _) _ D _ _ (by omega) hK rfl rfl)⟩
    simp [results, Try.f14, go_sem]
  case stop =>
    rintro D c pre W _ _ h _
    exact h.elim

end Go.Proofs.Ytpinmcgaaplkiag.Wid
