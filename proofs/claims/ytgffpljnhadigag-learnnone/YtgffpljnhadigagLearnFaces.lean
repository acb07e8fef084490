/-
  learn.Count, Shares, Cost: by their contracts.
-/
import Derived.Test.YtgffpljnhadigagLearnCheck
import Derived.Test.YtgffpljnhadigagScaleOf
import Derived.Test.YtgffpljnhadigagHornBits
namespace Go.Proofs.Ytgffpljnhadigag.Lrn
open Go.RowKit
open Go.Proofs.Ytgffpljnhadigag.Tre Go.Proofs.Ytgffpljnhadigag.Lap Go.Proofs.Ytgffpljnhadigag.Mid Go.Proofs.Ytgffpljnhadigag.Scl Go.Proofs.Ytgffpljnhadigag.Hrn
set_option linter.unusedVariables false

theorem count_no (a : Option Addr) (cap : Nat) (ll : List (List Int)) (n E : Int) (w : World) (hr : Rws w a ll) (zl : ll.length ≤ 9223372036854775807) (hE : Hid (rows ll n = E)) (hne : Hid (E ≠ 0)) :
    Calls Try.prog 5 #[.slice a ll.length cap, .int .i64 n] w fun e w' => e = .returned (.tuple #[.slice none 0 0, .iface 44 (.int .i64 E)]) ∧ Below w.heap.size w w' := by
  have hck := check a cap ll n E w hr zl hE
  rw [errV_ne (unhide hne)] at hck
  obtain ⟨N, hN⟩ : ∃ N, ll.length = N := ⟨_, rfl⟩
  rw [hN] at hck ⊢
  clear hN hE hne zl hr
  go_enter Try.func5, Try.ntmps5
  go_wp2_with fail
  refine hck.mono ?_
  rintro e w1 ⟨rfl, hb1⟩
  go_wp2
  go_ret2
  exact ⟨rfl, hb1⟩

/-- How often a sign was counted so far, and once more. -/
def cn (ll : List (List Int)) (l : List Int) (s : Nat) : Int := 1 + (tms ll s : Int) + (l.count (s : Int) : Int)
theorem cn_zero (ll : List (List Int)) (s : Nat) : cn (ll.take 0) [] s = 1 := rfl
theorem cn_next {ll : List (List Int)} {k : Nat} (h : k < ll.length) (s : Nat) : cn (ll.take (k + 1)) [] s = cn (ll.take k) (rowAt ll k) s := by
  unfold cn
  rw [tms_step h]
  simp
  omega
theorem cn_step (ll : List (List Int)) {l : List Int} {q : Nat} (h : q < l.length) {S : Nat} (hS : at0 l q = S) (s : Nat) : cn ll (l.take (q + 1)) s = if s = S then cn ll (l.take q) s + 1 else cn ll (l.take q) s := by
  unfold cn
  rw [count_step h, hS]
  by_cases e : s = S
  · subst e; simp; omega
  · rw [if_neg (by omega), if_neg e]; simp
theorem cn_all (ll : List (List Int)) (s : Nat) : cn (ll.take ll.length) [] s = 1 + (tms ll s : Int) := by
  unfold cn
  rw [tms_all]
  simp
theorem cn_le {n : Int} {ll : List (List Int)} (h : ∀ l ∈ ll, Rw n l) (h60 : ll.length ≤ 60) {l : List Int} (hl : l.length ≤ 60) (j q s : Nat) : 0 ≤ cn (ll.take j) (l.take q) s ∧ cn (ll.take j) (l.take q) s ≤ 4000 := by
  have h1 := tms_le (ll := ll.take j) (fun m hm => h m (List.mem_of_mem_take hm)) (by rw [List.length_take]; omega) (s : Int)
  have h2 : (l.take q).count (s : Int) ≤ (l.take q).length := List.count_le_length
  rw [List.length_take] at h2
  unfold cn
  omega
theorem cn_set {ll : List (List Int)} {l : List Int} {q S n : Nat} (h : q < l.length) (hS : at0 l q = S) : (upto (cn ll (l.take q)) n).set S (cn ll (l.take q) S + 1) = upto (cn ll (l.take (q + 1))) n := by
  refine eq_of_at (by rw [List.length_set, upto_length, upto_length]) fun i hi => ?_
  rw [List.length_set, upto_length] at hi
  rw [upto_at _ hi, cn_step ll h hS]
  by_cases e : i = S
  · subst e
    rw [if_pos rfl]
    simp [at0, upto_length, hi]
  · rw [if_neg e, ← upto_at (cn ll (l.take q)) hi]
    have e' : ¬ S = i := fun h => e h.symm
    simp [at0, e']

set_option maxRecDepth 100000 in
set_option maxHeartbeats 4000000 in
theorem count_ok (a : Option Addr) (cap : Nat) (ll : List (List Int)) (n : Nat) (w : World) (hr : Rws w a ll) (hE : Hid (rows ll n = 0)) :
    Calls Try.prog 5 #[.slice a ll.length cap, .int .i64 n] w fun e w' => ∃ v, e = .returned (.tuple #[v, .nilIface]) ∧ Has w' w.heap.size v (cts ll n) ∧ Below w.heap.size w w' := by
  obtain ⟨h1, h2, h3, h4⟩ := rows_zero (unhide hE)
  have HW := hide h4
  have hck := check a cap ll n 0 w hr (by omega) hE
  rw [errV_zero] at hck
  have HE : Hid (upto (cn (ll.take ll.length) []) n = cts ll n) := hide (upto_congr fun s _ => cn_all ll s)
  have H3 := hide h3
  obtain ⟨N, hN⟩ : ∃ N, ll.length = N := ⟨_, rfl⟩
  have HN := hide hN
  rw [hN] at hck h3 HE ⊢
  have hn1 : 1 ≤ n := by omega
  have hn40 : n ≤ 40 := by omega
  clear hN hE h4 h1 h2
  go_enter Try.func5, Try.ntmps5
  go_wp2_with fail
  refine hck.mono ?_
  clear hck
  rintro e w1 ⟨rfl, hb1⟩
  go_wp2_with (at_make; refine wpList_mk _ rfl _ rfl n rfl (by omega) ?_; intro w2 hv2 hb2)
  obtain ⟨g, hg⟩ : ∃ g, w1.heap.size = g := ⟨_, rfl⟩
  have hg0 : w.heap.size ≤ g := by rw [← hg]; exact hb1.size
  have hB := Below.chain hb1 hb2
  rw [hg] at hv2 ⊢
  have hm0 : Has w2 w.heap.size (.slice (some ⟨g, 0, none⟩) n n) (mid (fun _ => 1) (fun _ => 0) n 0) := by rw [mid_zero]; exact hv2.mono hg0
  clear hb1 hb2 hv2 hg
  go_wp2
  go_loopw [22] (fun i wr => ∃ j : Nat, j ≤ n ∧ i = .int .i64 j ∧ Has wr w.heap.size (.slice (some ⟨g, 0, none⟩) n n) (mid (fun _ => 1) (fun _ => 0) n j) ∧ Below w.heap.size w wr) (fun i _ => n - (intOf i).toNat)
  case atStart => exact ⟨0, Nat.zero_le _, rfl, hm0, hB⟩
  case round =>
    obtain ⟨j, hj, rfl, hm, hB⟩ := hrel
    clear hm0
    by_cases hlt : j < n
    · have c2 := hm.get (j := j) (by rw [mid_length]; exact hlt)
      rw [mid_at _ _ hlt] at c2
      have f2' := hm.frozen j
      obtain ⟨m1, m2, m3⟩ := put_mid hm hlt rfl 0
      have M1 := hide m1
      have M3 := hide (m3 _ hB hg0)
      clear hm m1 m2 m3
      go_wp2
      go_roundw
      case rel => exact ⟨j + 1, by omega, by go_num, unhide M1, unhide M3⟩
      case measure => simp [intOf]; omega
    · obtain rfl : j = n := by omega
      have hk0 : Has wr w.heap.size (.slice (some ⟨g, 0, none⟩) j j) (upto (cn (ll.take 0) []) j) := by
        rw [mid_all] at hm
        exact hm
      clear hm
      go_wp2
      go_loopw [31] (fun i wr => ∃ r : Nat, r ≤ N ∧ i = .int .i64 r ∧ Has wr w.heap.size (.slice (some ⟨g, 0, none⟩) j j) (upto (cn (ll.take r) []) j) ∧ Below w.heap.size w wr) (fun i _ => N - (intOf i).toNat)
      case atStart => exact ⟨0, Nat.zero_le _, rfl, hk0, hB⟩
      case round =>
        clear hB hk0
        obtain ⟨r, hrN, rfl, hk, hB⟩ := hrel
        by_cases hlt2 : r < N
        · have hlt' : r < ll.length := by rw [unhide HN]; exact hlt2
          obtain ⟨b1, off1, rfl, hb1, hc1⟩ := hr.at hlt'
          obtain ⟨A, C, c1, c2, c3, c4, c5⟩ := hc1 r hlt'
          have HX : Hid (upto (cn (ll.take (r + 1)) []) j = upto (cn (ll.take r) (rowAt ll r)) j) := hide (upto_congr fun s _ => cn_next hlt' s)
          have hrw : Rw j (rowAt ll r) := unhide HW _ (by rw [rowAt_get hlt']; exact List.getElem_mem hlt')
          obtain ⟨l, hl⟩ : ∃ l, rowAt ll r = l := ⟨_, rfl⟩
          rw [hl] at c1 c3 c5 HX hrw
          have HLE : Hid (∀ q s, 0 ≤ cn (ll.take r) (l.take q) s ∧ cn (ll.take r) (l.take q) s ≤ 4000) := hide (fun q s => cn_le (unhide HW) (unhide H3) hrw.1 r q s)
          have HSG := hide hrw.2
          have h60 := hrw.1
          have c1w := (hB.cell (p := ⟨b1, off1 + r, none⟩) hb1).trans c1
          have HC5 : Hid (Row w A l) := hide c5
          obtain ⟨cur, hcur⟩ : ∃ cur, cn (ll.take r) = cur := ⟨_, rfl⟩
          have HST : Hid (∀ q S : Nat, q < l.length → at0 l q = S → (upto (cur (l.take q)) j).set S (cur (l.take q) S + 1) = upto (cur (l.take (q + 1))) j) := hide (fun q S h1 h2 => by rw [← hcur]; exact cn_set h1 h2)
          rw [hcur] at hk HX HLE
          obtain ⟨L, hL⟩ : ∃ L, l.length = L := ⟨_, rfl⟩
          have HL := hide hL
          rw [hL] at c1w c3 h60
          have hq0 : Has wr w.heap.size (.slice (some ⟨g, 0, none⟩) j j) (upto (cur (l.take 0)) j) := hk
          clear hcur hl hL hrw c1 c2 c4 c5 hc1 hlt' hk
          go_wp2
          go_loopw [37] (fun i wr => ∃ q : Nat, q ≤ L ∧ i = .int .i64 q ∧ Has wr w.heap.size (.slice (some ⟨g, 0, none⟩) j j) (upto (cur (l.take q)) j) ∧ Below w.heap.size w wr) (fun i _ => L - (intOf i).toNat)
          case atStart => exact ⟨0, Nat.zero_le _, rfl, hq0, hB⟩
          case round =>
            clear hB hq0 c1w
            obtain ⟨q, hqL, rfl, hk, hB⟩ := hrel
            by_cases hlt3 : q < L
            · have hlt' : q < l.length := by rw [unhide HL]; exact hlt3
              obtain ⟨b2, off2, rfl, hb2, hc2⟩ := cell_at ((unhide HC5).below hB) (by omega)
              have e1 := hc2 q hlt'
              have hsg := unhide HSG (at0 l q) (by
                have e : at0 l q = l[q] := by simp [at0, hlt']
                rw [e]; exact List.getElem_mem hlt')
              obtain ⟨S, hS⟩ : ∃ S : Nat, at0 l q = S := ⟨(at0 l q).toNat, by omega⟩
              have HS1 : Hid ((upto (cur (l.take q)) j).set S (cur (l.take q) S + 1) = upto (cur (l.take (q + 1))) j) := hide (unhide HST q S hlt' hS)
              rw [hS] at e1 hsg
              have hSj : S < j := by omega
              have hle := unhide HLE q S
              have e2 := hk.get (j := S) (by rw [upto_length]; exact hSj)
              rw [upto_at _ hSj] at e2
              have e3 := hk.frozen S
              obtain ⟨X, hX⟩ : ∃ X, cur (l.take q) S = X := ⟨_, rfl⟩
              rw [hX] at e2 hle HS1
              obtain ⟨x0, x9⟩ := hle
              have wx : IntKind.i64.wrap (X + 1) = X + 1 := IntWalk.i64_in _ (by omega)
              obtain ⟨m1, m2⟩ := hk.put S (X + 1)
              rw [unhide HS1] at m1
              have M1 := hide m1
              have M3 : Hid (Below w.heap.size w (wr.setCell ⟨g, S, none⟩ (.int .i64 (X + 1)))) := hide (Below.setCell (p := ⟨g, S, none⟩) hB hg0 _)
              clear hS hX hc2 hlt' hsg m1 m2 hk HS1
              go_wp2
              go_roundw
              case rel => exact ⟨q + 1, by omega, by go_num, unhide M1, unhide M3⟩
              case measure => simp [intOf]; omega
            · obtain rfl : q = L := by omega
              have hk2 : Has wr w.heap.size (.slice (some ⟨g, 0, none⟩) j j) (upto (cn (ll.take (r + 1)) []) j) := by
                rw [unhide HX]
                rw [← unhide HL, List.take_length] at hk
                exact hk
              clear hk
              go_wp2
              go_roundw
              case rel => exact ⟨r + 1, by omega, by go_num, hk2, hB⟩
              case measure => simp [intOf]; omega
        · obtain rfl : r = N := by omega
          rw [unhide HE] at hk
          go_wp2
          go_ret2
          exact ⟨_, rfl, hk, hB⟩

theorem shares_no (a : Option Addr) (cap : Nat) (ll : List (List Int)) (n E : Int) (w : World) (hr : Rws w a ll) (zl : ll.length ≤ 9223372036854775807) (hE : Hid (rows ll n = E)) (hne : Hid (E ≠ 0)) :
    Calls Try.prog 6 #[.slice a ll.length cap, .int .i64 n] w fun e w' => e = .returned (.tuple #[.slice none 0 0, .iface 44 (.int .i64 E)]) ∧ Below w.heap.size w w' := by
  have hck := count_no a cap ll n E w hr zl hE hne
  obtain ⟨N, hN⟩ : ∃ N, ll.length = N := ⟨_, rfl⟩
  rw [hN] at hck ⊢
  clear hN hE hne zl hr
  go_enter Try.func6, Try.ntmps6
  go_wp2_with fail
  refine hck.mono ?_
  rintro e w1 ⟨rfl, hb1⟩
  go_wp2
  go_ret2
  exact ⟨rfl, hb1⟩

set_option maxHeartbeats 1000000 in
theorem shares_ok (a : Option Addr) (cap : Nat) (ll : List (List Int)) (n : Nat) (w : World) (hr : Rws w a ll) (hE : Hid (rows ll n = 0)) :
    Calls Try.prog 6 #[.slice a ll.length cap, .int .i64 n] w fun e w' => ∃ v, e = .returned (.tuple #[v, .nilIface]) ∧ Has w' w.heap.size v (scale (cts ll n)) ∧ Below w.heap.size w w' := by
  have hck := count_ok a cap ll n w hr hE
  have HCF := hide (cts_ok (unhide hE))
  obtain ⟨c, hc⟩ : ∃ c, cts ll n = c := ⟨_, rfl⟩
  rw [hc] at hck HCF ⊢
  obtain ⟨N, hN⟩ : ∃ N, ll.length = N := ⟨_, rfl⟩
  rw [hN] at hck ⊢
  clear hN hE hr hc
  go_enter Try.func6, Try.ntmps6
  go_wp2_with fail
  refine hck.mono ?_
  clear hck
  rintro e w1 ⟨v, rfl, k1, hb1⟩
  obtain ⟨p, q, rfl, hrow⟩ := k1.row
  have hof := of_ok p q c w1 hrow HCF
  obtain ⟨M, hM⟩ : ∃ M, c.length = M := ⟨_, rfl⟩
  rw [hM] at hof ⊢
  have hs1 := hb1.size
  clear hM hrow k1
  go_wp2_with fail
  refine hof.mono ?_
  clear hof
  rintro e w2 ⟨v, rfl, k2, hb2⟩
  obtain ⟨p3, n3, q3, rfl⟩ := k2.shape
  go_wp2
  go_ret2
  exact ⟨_, rfl, k2.mono hs1, Below.chain hb1 hb2⟩

theorem cost_no (a : Option Addr) (cap : Nat) (f : List Int) (b : Option Addr) (capb : Nat) (l : List Int) (E : Int) (w : World) (hrf : Row w a f) (hm : f.length ≤ cap) (hm9 : cap ≤ 9223372036854775807) (hrl : Row w b l) (zl : l.length ≤ 9223372036854775807) (hE : Hid (RowF f l E)) (hne : Hid (E ≠ 0)) :
    Calls Try.prog 10 #[.slice a f.length cap, .slice b l.length capb] w fun e w' => e = .returned (.tuple #[.int .i64 0, .iface 44 (.int .i64 E)]) ∧ Below w.heap.size w w' := by
  have hck := bits_no a cap f b capb l E w hrf hm hm9 hrl zl hE hne
  obtain ⟨N, hN⟩ : ∃ N, l.length = N := ⟨_, rfl⟩
  obtain ⟨M, hM⟩ : ∃ M, f.length = M := ⟨_, rfl⟩
  rw [hN, hM] at hck ⊢
  clear hN hM hE hne hm hm9 zl
  go_enter Try.func10, Try.ntmps10
  go_wp2_with fail
  refine hck.mono ?_
  rintro e w1 ⟨rfl, hb1⟩
  go_wp2
  go_ret2
  exact ⟨rfl, hb1⟩

theorem cost_ok (a : Option Addr) (cap : Nat) (f : List Int) (b : Option Addr) (capb : Nat) (l : List Int) (w : World) (hrf : Row w a f) (hm : f.length ≤ cap) (hm9 : cap ≤ 9223372036854775807) (hrl : Row w b l) (hE : Hid (RowF f l 0)) :
    Calls Try.prog 10 #[.slice a f.length cap, .slice b l.length capb] w fun e w' => e = .returned (.tuple #[.int .i64 (need f l), .nilIface]) ∧ Below w.heap.size w w' := by
  have hck := bits_ok a cap f b capb l w hrf hm hm9 hrl hE
  obtain ⟨N, hN⟩ : ∃ N, l.length = N := ⟨_, rfl⟩
  obtain ⟨M, hM⟩ : ∃ M, f.length = M := ⟨_, rfl⟩
  obtain ⟨U, hU⟩ : ∃ U, need f l = U := ⟨_, rfl⟩
  rw [hU, hN, hM] at hck
  rw [hU, hN, hM]
  clear hN hM hE hm hm9 hU
  go_enter Try.func10, Try.ntmps10
  go_wp2_with fail
  refine hck.mono ?_
  rintro e w1 ⟨rfl, hb1⟩
  go_wp2
  go_ret2
  exact ⟨rfl, hb1⟩

end Go.Proofs.Ytgffpljnhadigag.Lrn
