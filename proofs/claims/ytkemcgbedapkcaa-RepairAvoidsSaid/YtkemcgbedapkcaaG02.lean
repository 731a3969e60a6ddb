/- Merged: RfA RfB SpA SpB. -/
import Derived.Test.YtkemcgbedapkcaaG01
import Derived.Deep.Slices
import Derived.Deep.Grids
import Derived.ChangeSame
import Derived.ChangeOld
import Derived.OpenShut
/- waymarkref1.Check. -/
namespace Go.Proofs.Ytkemcgbedapkcaa
open Go.RowKit
set_option maxHeartbeats 6400000
set_option maxRecDepth 100000
theorem refCheck_long (nd : Int) (A : Option Addr) (n c : Nat) (w : World) (hn : 120 < n) : Calls Try.prog 22 #[.agg #[.int .i64 nd, .slice A n c]] w fun e w' => e = .returned (.tuple #[.int .i64 (-1), .int .i64 6]) ∧ Below w.heap.size w w' := by
  have b1 : Below w.heap.size w (w.alloc (.cells #[.int .i64 nd, .slice A n c] 24)) := Below.alloc (Below.refl _ _) (Nat.le_refl _) _
  have t1 : decide ((120 : Int) < (n : Int)) = true := by simp; omega
  clear hn
  go_enter Try.func22, Try.ntmps22
  go_wp2_with fail
  go_ret2
  exact ⟨rfl, b1⟩
theorem refCheck_nodes (nd : Int) (A : Option Addr) (n c : Nat) (w : World) (hn : n ≤ 120) (h : nd < 1 ∨ 40 < nd) : Calls Try.prog 22 #[.agg #[.int .i64 nd, .slice A n c]] w fun e w' => e = .returned (.tuple #[.int .i64 (-1), .int .i64 1]) ∧ Below w.heap.size w w' := by
  have b1 : Below w.heap.size w (w.alloc (.cells #[.int .i64 nd, .slice A n c] 24)) := Below.alloc (Below.refl _ _) (Nat.le_refl _) _
  have t1 : decide ((120 : Int) < (n : Int)) = false := by simp; omega
  by_cases h1 : nd < 1
  · have t2 : decide (nd < 1) = true := by simpa using h1
    clear hn h h1
    go_enter Try.func22, Try.ntmps22
    go_wp2_with fail
    go_ret2
    exact ⟨rfl, b1⟩
  · have t2 : decide (nd < 1) = false := by simpa using h1
    have t3 : decide (40 < nd) = true := by simp; omega
    clear hn h h1
    go_enter Try.func22, Try.ntmps22
    go_wp2_with fail
    go_ret2
    exact ⟨rfl, b1⟩
theorem refCheck_in (nd : Int) (A : Option Addr) (n c : Nat) (l : List Lnk) (w : World) (hr : RLnk w w.heap.size A n l) (hn : n ≤ 120) (h1 : 1 ≤ nd) (h2 : nd ≤ 40) : Calls Try.prog 22 #[.agg #[.int .i64 nd, .slice A n c]] w fun e w' => e = .returned (.tuple #[.int .i64 (chk nd l 0).1, .int .i64 (chk nd l 0).2]) ∧ Below w.heap.size w w' := by
  have b1 : Below w.heap.size w (w.alloc (.cells #[.int .i64 nd, .slice A n c] 24)) := Below.alloc (Below.refl _ _) (Nat.le_refl _) _
  have q1 : decide ((120 : Int) < (n : Int)) = false := by simp; omega
  have q2 : decide (nd < 1) = false := by simp; omega
  have q3 : decide (40 < nd) = false := by simp; omega
  have hl := hr.1
  have HR := hid hr
  clear hr h1 h2
  obtain ⟨g0, g1, _⟩ := box_cells (heap_alloc_new w (.cells #[.int .i64 nd, .slice A n c] 24))
  obtain ⟨w1, hw1⟩ : ∃ w1, w.alloc (.cells #[.int .i64 nd, .slice A n c] 24) = w1 := ⟨_, rfl⟩
  have hs1 : w1.heap.size = w.heap.size + 1 := by rw [← hw1]; simp
  rw [hw1] at b1 g0 g1
  go_enter Try.func22, Try.ntmps22
  go_wp2_with fail
  go_loopw [4] (fun i wr => ∃ (k : Nat), k ≤ n ∧ i = .int .i64 k ∧ Hid (chk nd l 0 = chk nd (l.drop k) k) ∧ Below w1.heap.size w1 wr) (fun i _ => n - (intOf i).toNat)
  case atStart => exact ⟨0, Nat.zero_le _, rfl, rfl, Below.refl _ _⟩
  case round =>
    obtain ⟨k, hk, rfl, HC, hbel⟩ := hrel
    have hs := hbel.size
    have hlo : w.heap.size < wr.heap.size := by omega
    have e0 := (hbel.cell (p := ⟨w.heap.size, 0, none⟩) (by show w.heap.size < _; omega)).trans g0
    have e1 := (hbel.cell (p := ⟨w.heap.size, 1, none⟩) (by show w.heap.size < _; omega)).trans g1
    by_cases hlt : k < n
    · obtain ⟨x, hx⟩ : ∃ x, l[k]? = some x := ⟨l[k]'(by rw [hl]; omega), List.getElem?_eq_getElem _⟩
      obtain ⟨b, off, rfl, hb, hc⟩ := (HR.out.below (b1.trans (hbel.mono (by omega)))).2 (by omega)
      have hbw : b < wr.heap.size := by omega
      obtain ⟨c0, c1, c2, c3⟩ := hc k x hx
      have HQ := hid (HC.out.trans (chk_step hx))
      have HW := hid (b1.trans (hbel.mono (by omega)))
      have HB : Hid (Below w1.heap.size w1 (wr.alloc (.cells #[.int .i64 x.a, .int .i64 x.b, .int .i64 x.m, .int .i64 x.c] 49))) := hbel.trans ((Below.alloc (Below.refl _ _) (Nat.le_refl _) _).mono hs)
      obtain ⟨xa, xb, xm, xc⟩ := x
      simp only at c0 c1 c2 c3 HB
      clear hc hx
      by_cases h0 : xa < 0
      · have t0 : decide (xa < 0) = true := by simpa using h0
        have HQ2 : Hid (chk nd l 0 = ((k : Int), 4)) := by
          have q : lnkErr nd ⟨xa, xb, xm, xc⟩ = 4 := by unfold lnkErr; rw [if_neg (by simp; omega)]
          show _ = _
          rw [HQ.out, q, if_neg (by decide)]
        clear h0
        go_wp2_with fail
        go_ret2
        exact ⟨by rw [HQ2.out]; rfl, b1.trans (HB.out.mono (by omega))⟩
      have t0 : decide (xa < 0) = false := by simpa using h0
      by_cases h1 : nd ≤ xa
      · have t1 : decide (nd ≤ xa) = true := by simpa using h1
        have HQ2 : Hid (chk nd l 0 = ((k : Int), 4)) := by
          have q : lnkErr nd ⟨xa, xb, xm, xc⟩ = 4 := by unfold lnkErr; rw [if_neg (by simp; omega)]
          show _ = _
          rw [HQ.out, q, if_neg (by decide)]
        clear h0 h1
        go_wp2_with fail
        go_ret2
        exact ⟨by rw [HQ2.out]; rfl, b1.trans (HB.out.mono (by omega))⟩
      have t1 : decide (nd ≤ xa) = false := by simpa using h1
      by_cases h2 : xb < 0
      · have t2 : decide (xb < 0) = true := by simpa using h2
        have HQ2 : Hid (chk nd l 0 = ((k : Int), 4)) := by
          have q : lnkErr nd ⟨xa, xb, xm, xc⟩ = 4 := by unfold lnkErr; rw [if_neg (by simp; omega)]
          show _ = _
          rw [HQ.out, q, if_neg (by decide)]
        clear h0 h1 h2
        go_wp2_with fail
        go_ret2
        exact ⟨by rw [HQ2.out]; rfl, b1.trans (HB.out.mono (by omega))⟩
      have t2 : decide (xb < 0) = false := by simpa using h2
      by_cases h3 : nd ≤ xb
      · have t3 : decide (nd ≤ xb) = true := by simpa using h3
        have HQ2 : Hid (chk nd l 0 = ((k : Int), 4)) := by
          have q : lnkErr nd ⟨xa, xb, xm, xc⟩ = 4 := by unfold lnkErr; rw [if_neg (by simp; omega)]
          show _ = _
          rw [HQ.out, q, if_neg (by decide)]
        clear h0 h1 h2 h3
        go_wp2_with fail
        go_ret2
        exact ⟨by rw [HQ2.out]; rfl, b1.trans (HB.out.mono (by omega))⟩
      have t3 : decide (nd ≤ xb) = false := by simpa using h3
      by_cases h4 : xa = xb
      · have t4 : (xa == xb) = true := by simpa using h4
        have HQ2 : Hid (chk nd l 0 = ((k : Int), 4)) := by
          have q : lnkErr nd ⟨xa, xb, xm, xc⟩ = 4 := by unfold lnkErr; rw [if_neg (by simp; omega)]
          show _ = _
          rw [HQ.out, q, if_neg (by decide)]
        clear h0 h1 h2 h3 h4
        go_wp2_with fail
        go_ret2
        exact ⟨by rw [HQ2.out]; rfl, b1.trans (HB.out.mono (by omega))⟩
      have t4 : (xa == xb) = false := by simpa using h4
      by_cases h5 : xm < 1
      · have t5 : decide (xm < 1) = true := by simpa using h5
        have HQ2 : Hid (chk nd l 0 = ((k : Int), 1)) := by
          have q : lnkErr nd ⟨xa, xb, xm, xc⟩ = 1 := by unfold lnkErr; rw [if_pos (by simp; omega), if_neg (by simp; omega)]
          show _ = _
          rw [HQ.out, q, if_neg (by decide)]
        clear h0 h1 h2 h3 h4 h5
        go_wp2_with fail
        go_ret2
        exact ⟨by rw [HQ2.out]; rfl, b1.trans (HB.out.mono (by omega))⟩
      have t5 : decide (xm < 1) = false := by simpa using h5
      by_cases h6 : 16777216 < xm
      · have t6 : decide (16777216 < xm) = true := by simpa using h6
        have HQ2 : Hid (chk nd l 0 = ((k : Int), 1)) := by
          have q : lnkErr nd ⟨xa, xb, xm, xc⟩ = 1 := by unfold lnkErr; rw [if_pos (by simp; omega), if_neg (by simp; omega)]
          show _ = _
          rw [HQ.out, q, if_neg (by decide)]
        clear h0 h1 h2 h3 h4 h5 h6
        go_wp2_with fail
        go_ret2
        exact ⟨by rw [HQ2.out]; rfl, b1.trans (HB.out.mono (by omega))⟩
      have t6 : decide (16777216 < xm) = false := by simpa using h6
      by_cases h7 : xc < 0
      · have t7 : decide (xc < 0) = true := by simpa using h7
        have HQ2 : Hid (chk nd l 0 = ((k : Int), 1)) := by
          have q : lnkErr nd ⟨xa, xb, xm, xc⟩ = 1 := by unfold lnkErr; rw [if_pos (by simp; omega), if_neg (by simp; omega)]
          show _ = _
          rw [HQ.out, q, if_neg (by decide)]
        clear h0 h1 h2 h3 h4 h5 h6 h7
        go_wp2_with fail
        go_ret2
        exact ⟨by rw [HQ2.out]; rfl, b1.trans (HB.out.mono (by omega))⟩
      have t7 : decide (xc < 0) = false := by simpa using h7
      by_cases h8 : 62 < xc
      · have t8 : decide (62 < xc) = true := by simpa using h8
        have HQ2 : Hid (chk nd l 0 = ((k : Int), 1)) := by
          have q : lnkErr nd ⟨xa, xb, xm, xc⟩ = 1 := by unfold lnkErr; rw [if_pos (by simp; omega), if_neg (by simp; omega)]
          show _ = _
          rw [HQ.out, q, if_neg (by decide)]
        clear h0 h1 h2 h3 h4 h5 h6 h7 h8
        go_wp2_with fail
        go_ret2
        exact ⟨by rw [HQ2.out]; rfl, b1.trans (HB.out.mono (by omega))⟩
      have t8 : decide (62 < xc) = false := by simpa using h8
      have HQ2 : Hid (chk nd l 0 = chk nd (l.drop (k + 1)) (k + 1)) := by
        have q : lnkErr nd ⟨xa, xb, xm, xc⟩ = 0 := by unfold lnkErr; rw [if_pos (by simp; omega), if_pos (by simp; omega)]
        show _ = _
        rw [HQ.out, q, if_pos rfl]
      clear h0 h1 h2 h3 h4 h5 h6 h7 h8
      go_wp2_with fail
      go_roundw
      case rel => exact ⟨k + 1, by omega, by go_num, HQ2.out, HB.out⟩
      case measure => simp [intOf]; omega
    · obtain rfl : k = n := by omega
      have HQ2 : Hid (chk nd l 0 = (-1, 0)) := by
        show _ = _
        rw [HC.out, List.drop_of_length_le (by omega)]; rfl
      have HB := hid (b1.trans (hbel.mono (by omega)))
      go_wp2_with fail
      go_ret2
      exact ⟨by rw [HQ2.out]; rfl, HB.out⟩
theorem refCheck_any (nd : Int) (A : Option Addr) (n c : Nat) (l : List Lnk) (w : World) (hr : RLnk w w.heap.size A n l) : Calls Try.prog 22 #[.agg #[.int .i64 nd, .slice A n c]] w fun e w' => e = .returned (.tuple #[.int .i64 (checkS nd l).1, .int .i64 (checkS nd l).2]) ∧ Below w.heap.size w w' := by
  unfold checkS
  rw [hr.1]
  by_cases h1 : 120 < n
  · rw [if_pos h1]; exact refCheck_long nd A n c w h1
  · rw [if_neg h1]
    by_cases h2 : nd < 1 ∨ 40 < nd
    · rw [if_pos h2]; exact refCheck_nodes nd A n c w (by omega) h2
    · rw [if_neg h2]; exact refCheck_in nd A n c l w hr (by omega) (by omega) (by omega)
end Go.Proofs.Ytkemcgbedapkcaa

/- Cut out of RfB. -/
namespace Go.Proofs.Ytkemcgbedapkcaa
open Go.RowKit
set_option maxHeartbeats 12800000
set_option maxRecDepth 100000
theorem refEnds_any (nd : Int) (A : Option Addr) (n c : Nat) (l : List Lnk) (e : Int) (w : World) (hr : RLnk w w.heap.size A n l) (hn : n ≤ 1000) (he : e ≤ 9223372036854775807) :
    Calls Try.prog 13 #[.agg #[.int .i64 nd, .slice A n c], .int .i64 e] w fun x w' => x = .returned (.tuple #[.int .i64 (endsS l e).1, .int .i64 (endsS l e).2.1, .bool (endsS l e).2.2]) ∧ Below w.heap.size w w' := by
  have b1 : Below w.heap.size w (w.alloc (.cells #[.int .i64 nd, .slice A n c] 24)) := Below.alloc (Below.refl _ _) (Nat.le_refl _) _
  have hl := hr.1
  by_cases h0 : e < 0
  · have t1 : decide (e < 0) = true := by simpa using h0
    have Q : endsS l e = (0, 0, false) := by unfold endsS; rw [if_pos h0]
    rw [Q]
    clear hr h0 Q hn hl
    go_enter Try.func13, Try.ntmps13
    go_wp2_with fail
    go_ret3
    exact ⟨rfl, b1⟩
  · have t1 : decide (e < 0) = false := by simpa using h0
    obtain ⟨k, rfl⟩ := Int.eq_ofNat_of_zero_le (Int.not_lt.1 h0)
    obtain ⟨q, hq⟩ : ∃ q, k / 2 = q := ⟨_, rfl⟩
    have d3 : wrap64 (q : Int) = (q : Int) := IntWalk.wrap64_in _ (by omega)
    have d1 : Int.tdiv (k : Int) 2 = (q : Int) := by rw [← hq]; rfl
    by_cases h1 : n ≤ q
    · have t2 : decide ((n : Int) ≤ (q : Int)) = true := by simpa using h1
      have Q : endsS l (k : Int) = (0, 0, false) := endsS_none (by omega)
      rw [Q]
      clear hr h0 Q hn hl hq
      go_enter Try.func13, Try.ntmps13
      go_wp2_with fail
      go_ret3
      exact ⟨rfl, b1⟩
    · have t2 : decide ((n : Int) ≤ (q : Int)) = false := by simp; omega
      obtain ⟨x, hx⟩ : ∃ x, l[q]? = some x := ⟨l[q]'(by omega), List.getElem?_eq_getElem _⟩
      have Q := endsS_some (hq ▸ hx : l[k / 2]? = some x)
      rw [Q]
      obtain ⟨b, off, rfl, hb, hc⟩ := hr.2 (by omega)
      obtain ⟨c0, c1, c2, c3⟩ := hc q x hx
      rcases Nat.mod_two_eq_zero_or_one k with hm | hm
      · have d2 : Int.tmod (k : Int) 2 = 0 := by have : Int.tmod (k : Int) 2 = ((k % 2 : Nat) : Int) := rfl; rw [this, hm]; rfl
        rw [if_pos hm]
        clear hc hx hr h0 Q hl hq hm
        go_enter Try.func13, Try.ntmps13
        go_wp2_with (go_big_quiet (fail))
        go_ret3
        exact ⟨rfl, below_drewN (b1.alloc (by simp) _)⟩
      · have d2 : Int.tmod (k : Int) 2 = 1 := by have : Int.tmod (k : Int) 2 = ((k % 2 : Nat) : Int) := rfl; rw [this, hm]; rfl
        rw [if_neg (by omega)]
        clear hc hx hr h0 Q hl hq hm
        go_enter Try.func13, Try.ntmps13
        go_wp2_with (go_big_quiet (fail))
        go_ret3
        exact ⟨rfl, below_drewN (b1.alloc (by simp) _)⟩
theorem refOut_any (nd : Int) (A : Option Addr) (n c : Nat) (l : List Lnk) (node : Int) (w : World) (hr : RLnk w w.heap.size A n l) (hn : n ≤ 1000) :
    Calls Try.prog 39 #[.agg #[.int .i64 nd, .slice A n c], .int .i64 node] w (OutAns l node w) := by
  have b1 : Below w.heap.size w (w.alloc (.cells #[.int .i64 nd, .slice A n c] 24)) := Below.alloc (Below.refl _ _) (Nat.le_refl _) _
  obtain ⟨i5, hi, hz0, hz1, hz2⟩ := info_parts (show (Try.prog.info? 3).map (fun i => (i.zero, i.size, i.bytes)) = some (some (.int .i64 0), 1, 8) by kernel_rfl)
  have Ai := hid hi; have Az0 := hid hz0; have Az1 := hid hz1; have Az2 := hid hz2
  clear hi hz0 hz1 hz2
  have hl := hr.1
  have HR := hid hr
  clear hr
  obtain ⟨g0, g1, _⟩ := box_cells (heap_alloc_new w (.cells #[.int .i64 nd, .slice A n c] 24))
  obtain ⟨w1, hw1⟩ : ∃ w1, w.alloc (.cells #[.int .i64 nd, .slice A n c] 24) = w1 := ⟨_, rfl⟩
  have hs1 : w1.heap.size = w.heap.size + 1 := by rw [← hw1]; simp
  rw [hw1] at b1 g0 g1
  go_enter Try.func39, Try.ntmps39
  go_wp2_with fail
  go_loopw [5, 6] (fun v i wr => ∃ (k : Nat), k ≤ 2 * n ∧ i = .int .i64 k ∧ wr.ownsRow w1.heap.size 3 1 v (outS l node k).length (icells (outS l node k)) ∧ Below w1.heap.size w1 wr) (fun _ i _ => 2 * n - (intOf i).toNat)
  case atStart => exact ⟨0, Nat.zero_le _, rfl, World.ownsRow_nil _ _ _ _, Below.refl _ _⟩
  case round =>
    obtain ⟨k, hk, rfl, hown, hbel⟩ := hrel
    have hs := hbel.size
    have hlo : w.heap.size < wr.heap.size := by omega
    have e0 := (hbel.cell (p := ⟨w.heap.size, 0, none⟩) (by show w.heap.size < _; omega)).trans g0
    have e1 := (hbel.cell (p := ⟨w.heap.size, 1, none⟩) (by show w.heap.size < _; omega)).trans g1
    have HO := hid hown
    have hkl := outS_len l node k
    have HL := hid hkl
    clear hown hkl
    have HB := hid hbel
    clear hbel
    by_cases hlt : k < 2 * n
    · have HE := hid (refEnds_any nd A n c l (k : Int) wr ((HR.out.below (b1.trans (HB.out.mono (by omega)))).more (by omega)) hn (by omega))
      have HQ := hid (outS_succ l node k)
      obtain ⟨F, hF⟩ : ∃ F, (endsS l (k : Int)).1 = F := ⟨_, rfl⟩
      rw [hF] at HE HQ
      clear hF
      by_cases hq : F = node
      · subst hq
        have HQ2 : Hid (outS l F (k + 1) = outS l F k ++ [(k : Int)]) := by show _ = _; rw [HQ.out, if_pos rfl]
        go_wp2_with (first
          | (go_at_call 13; (with_reducible refine HE.out.mono ?_); rintro e' w2 ⟨rfl, hb2⟩; have hs2 := hb2.size)
          | (at_builtin; refine wpList_append_own _ rfl (.tmp 28) (.tmp 30) 40 rfl w1.heap.size 3 i5 (.int .i64 0) 1 8 Try.underlying40 Ai.out Az0.out Az1.out Az2.out rfl (by decide) _ _ _ rfl ((own_below HO.out hb2).alloc _) ⟨w2.heap.size, 0, none⟩ 1 1 (icells [(k : Int)]) rfl rfl (new_row (int_row _)) (icells_one _) (by unfold maxLen; have := HL.out; omega) (by have := HL.out; omega) (by simp; omega) ?_; intro v4 w4 hown4 hg4 _; have hb4 : Below w1.heap.size w1 w4 := Below.grown ((HB.out.trans (hb2.mono hs)).alloc (by omega) _) hg4 (by simp; omega) (fun q hq => ((own_below HO.out hb2).lt q hq).1)))
        go_roundw
        case rel => exact ⟨k + 1, by omega, by go_num, by rw [HQ2.out, List.length_append, icells_app]; exact hown4, hb4⟩
        case measure => simp [intOf]; omega
      · have t : (F == node) = false := by simpa using hq
        have HQ2 : Hid (outS l node (k + 1) = outS l node k) := by show _ = _; rw [HQ.out, if_neg hq, List.append_nil]
        go_wp2_with (go_at_call 13; (with_reducible refine HE.out.mono ?_); rintro e' w2 ⟨rfl, hb2⟩)
        go_roundw
        case rel => exact ⟨k + 1, by omega, by go_num, by rw [HQ2.out]; exact own_below HO.out hb2, HB.out.trans (hb2.mono hs)⟩
        case measure => simp [intOf]; omega
    · obtain rfl : k = 2 * n := by omega
      go_wp2_with fail
      go_ret
      exact ⟨_, rfl, by rw [hl]; exact own_mono HO.out (by omega), b1.trans (HB.out.mono (by omega))⟩
end Go.Proofs.Ytkemcgbedapkcaa

/- Shortest ways, plainly: what a row of distances has to be, that there is at most one, and how edge by edge it comes about. -/
namespace Go.Proofs.Ytkemcgbedapkcaa
open Go.RowKit
set_option maxHeartbeats 1600000
set_option maxRecDepth 100000
def isDn (dn : List Bool) (i : Nat) : Bool := dn.getD i false
def tov (l : List Lnk) (k : Nat) : Int := (endsS l (k : Int)).2.1
def met (l : List Lnk) (k : Nat) : Int := (l.getD (k / 2) default).m
def dAt (d : List Int) (v : Int) : Int := d.getD v.toNat (-1)
/-- A graph as Check wants it. -/
def GOk (nd : Nat) (l : List Lnk) : Prop := l.length ≤ 120 ∧ 1 ≤ nd ∧ nd ≤ 40 ∧ (chk (nd : Int) l 0).2 = 0
theorem edge_facts {nd : Nat} {l : List Lnk} (h : GOk nd l) {k : Nat} (hk : k < 2 * l.length) : ∃ (a b : Nat) (x : Lnk), l[k / 2]? = some x ∧ endsS l (k : Int) = ((a : Int), (b : Int), true) ∧ frm l k = (a : Int) ∧ tov l k = (b : Int) ∧ met l k = x.m ∧ a < nd ∧ b < nd ∧ a ≠ b ∧ 1 ≤ x.m ∧ x.m ≤ 16777216 := by
  obtain ⟨x, hx⟩ : ∃ x, l[k / 2]? = some x := ⟨l[k / 2]'(by omega), List.getElem?_eq_getElem _⟩
  have h1 := chk_all h.2.2.2 x (List.mem_of_getElem? hx)
  have h2 := endsS_some hx
  have hm : met l k = x.m := by unfold met; rw [List.getD_eq_getElem?_getD, hx]; rfl
  unfold lnkErr at h1
  split at h1
  · rename_i h3
    obtain ⟨ha, ha', hb, hb', hab⟩ := h3
    split at h1
    · rename_i h4
      obtain ⟨a, ha2⟩ := Int.eq_ofNat_of_zero_le ha
      obtain ⟨b, hb2⟩ := Int.eq_ofNat_of_zero_le hb
      unfold frm tov
      rw [h2]
      rcases Nat.mod_two_eq_zero_or_one k with hk2 | hk2
      · rw [if_pos hk2]
        exact ⟨a, b, x, hx, by rw [ha2, hb2], ha2, hb2, hm, by omega, by omega, by omega, h4.1, h4.2.1⟩
      · rw [if_neg (by omega)]
        exact ⟨b, a, x, hx, by rw [ha2, hb2], hb2, ha2, hm, by omega, by omega, by omega, h4.1, h4.2.1⟩
    · cases h1
  · cases h1
/-- What P701 asks of a row of distances from s. -/
structure DistOk (nd : Nat) (l : List Lnk) (dn : List Bool) (s : Nat) (d : List Int) : Prop where
  len : d.length = nd
  src : dAt d (s : Int) = 0
  low : ∀ v : Nat, v < nd → -1 ≤ dAt d (v : Int)
  clo : ∀ k, k < 2 * l.length → isDn dn (k / 2) = false → 0 ≤ dAt d (frm l k) → 0 ≤ dAt d (tov l k) ∧ dAt d (tov l k) ≤ dAt d (frm l k) + met l k
  via : ∀ v : Nat, v < nd → v ≠ s → 0 ≤ dAt d (v : Int) → ∃ k, k < 2 * l.length ∧ isDn dn (k / 2) = false ∧ tov l k = (v : Int) ∧ 0 ≤ dAt d (frm l k) ∧ dAt d (v : Int) = dAt d (frm l k) + met l k
theorem dist_le {nd : Nat} {l : List Lnk} {dn : List Bool} {s : Nat} {d d' : List Int} (hg : GOk nd l) (h : DistOk nd l dn s d) (h' : DistOk nd l dn s d') :
    ∀ (N : Nat) (v : Nat), v < nd → 0 ≤ dAt d (v : Int) → dAt d (v : Int) ≤ (N : Int) → 0 ≤ dAt d' (v : Int) ∧ dAt d' (v : Int) ≤ dAt d (v : Int) := by
  intro N
  induction N with
  | zero =>
    intro v hv h0 h1
    by_cases hs : v = s
    · subst hs; rw [h'.src]; omega
    · obtain ⟨k, hk, _, ht, hf, he⟩ := h.via v hv hs h0
      obtain ⟨a, b, x, _, _, hfa, _, hm, _, _, _, hm1, _⟩ := edge_facts hg hk
      omega
  | succ N ih =>
    intro v hv h0 h1
    by_cases hs : v = s
    · subst hs; rw [h'.src]; omega
    · obtain ⟨k, hk, hu, ht, hf, he⟩ := h.via v hv hs h0
      obtain ⟨a, b, x, _, _, hfa, _, hm, ha, _, _, hm1, _⟩ := edge_facts hg hk
      rw [hfa] at hf he
      obtain ⟨i1, i2⟩ := ih a ha hf (by omega)
      have := h'.clo k hk hu (by rw [hfa]; exact i1)
      rw [ht, hfa] at this
      omega
theorem dist_unique {nd : Nat} {l : List Lnk} {dn : List Bool} {s : Nat} {d d' : List Int} (hg : GOk nd l) (h : DistOk nd l dn s d) (h' : DistOk nd l dn s d') : d = d' := by
  refine List.ext_getElem (by rw [h.len, h'.len]) fun i h1 h2 => ?_
  have hi : i < nd := by rw [← h.len]; exact h1
  have e1 : dAt d (i : Int) = d[i] := by unfold dAt; rw [List.getD_eq_getElem?_getD, Int.toNat_natCast, List.getElem?_eq_getElem h1]; rfl
  have e2 : dAt d' (i : Int) = d'[i] := by unfold dAt; rw [List.getD_eq_getElem?_getD, Int.toNat_natCast, List.getElem?_eq_getElem h2]; rfl
  rw [← e1, ← e2]
  have l1 := h.low i hi
  have l2 := h'.low i hi
  by_cases c1 : 0 ≤ dAt d (i : Int)
  · have a := dist_le hg h h' (dAt d (i : Int)).toNat i hi c1 (by omega)
    have b := dist_le hg h' h (dAt d' (i : Int)).toNat i hi a.1 (by omega)
    omega
  · by_cases c2 : 0 ≤ dAt d' (i : Int)
    · have b := dist_le hg h' h (dAt d' (i : Int)).toNat i hi c2 (by omega)
      omega
    · omega
/-- The row of distances, if there is one. -/
noncomputable def distS (nd : Nat) (l : List Lnk) (dn : List Bool) (s : Nat) : List Int := open Classical in if h : ∃ d, DistOk nd l dn s d then Classical.choose h else []
theorem distS_eq {nd : Nat} {l : List Lnk} {dn : List Bool} {s : Nat} {d : List Int} (hg : GOk nd l) (h : DistOk nd l dn s d) : distS nd l dn s = d := by
  have he : ∃ d, DistOk nd l dn s d := ⟨d, h⟩
  unfold distS
  rw [dif_pos he]
  exact dist_unique hg (Classical.choose_spec he) h
/-- What From and To answer. -/
noncomputable def fromS (nd : Int) (l : List Lnk) (dn : List Bool) (s : Int) : List Int := if (checkS nd l).2 = 0 ∧ 0 ≤ s ∧ s < nd then distS nd.toNat l dn s.toNat else []
theorem gok_of {nd : Nat} {l : List Lnk} (h : (checkS (nd : Int) l).2 = 0) : GOk nd l := by
  obtain ⟨h1, h2, h3, h4⟩ := checkS_ok h
  exact ⟨h1, by omega, by omega, h4⟩

/-! ### Edge by edge -/
def lab : List Int → Nat
  | [] => 0
  | x :: r => lab r + if x < 0 then 0 else 1
def pot (x : Int) : Nat := if x < 0 then 687865856 else x.toNat
def sumP : List Int → Nat
  | [] => 0
  | x :: r => sumP r + pot x
theorem lab_le (d : List Int) : lab d ≤ d.length := by
  induction d with
  | nil => exact Nat.le_refl _
  | cons x r ih => simp only [lab, List.length_cons]; split <;> omega
theorem lab_set {d : List Int} {i : Nat} {x y : Int} (h : d[i]? = some y) (hx : 0 ≤ x) : lab (d.set i x) = lab d + if y < 0 then 1 else 0 := by
  induction d generalizing i with
  | nil => simp at h
  | cons a r ih =>
    cases i with
    | zero =>
      simp at h; subst h
      simp only [List.set_cons_zero, lab]
      rw [if_neg (show ¬x < 0 by omega)]
      split <;> omega
    | succ i =>
      simp only [List.set_cons_succ, lab]
      rw [ih (by simpa using h)]
      omega
theorem sumP_set {d : List Int} {i : Nat} {x y : Int} (h : d[i]? = some y) (hx : pot x < pot y) : sumP (d.set i x) < sumP d := by
  induction d generalizing i with
  | nil => simp at h
  | cons a r ih =>
    cases i with
    | zero => simp at h; subst h; simp only [List.set_cons_zero, sumP]; omega
    | succ i => simp only [List.set_cons_succ, sumP]; have := ih (i := i) (by simpa using h); omega
theorem lab_pos {d : List Int} {i : Nat} (h : d[i]? = some 0) : 1 ≤ lab d := by
  induction d generalizing i with
  | nil => simp at h
  | cons a r ih =>
    cases i with
    | zero => simp at h; subst h; simp [lab]
    | succ i => simp only [lab]; have := ih (i := i) (by simpa using h); omega
theorem dAt_get {d : List Int} {v : Nat} (h : v < d.length) : d[v]? = some (dAt d (v : Int)) := by
  unfold dAt
  rw [List.getD_eq_getElem?_getD, Int.toNat_natCast, List.getElem?_eq_getElem h]
  rfl
theorem dAt_set {d : List Int} {b v : Nat} {x : Int} (h : b < d.length) : dAt (d.set b x) (v : Int) = if v = b then x else dAt d (v : Int) := by
  unfold dAt
  rw [List.getD_eq_getElem?_getD, List.getD_eq_getElem?_getD, Int.toNat_natCast, List.getElem?_set]
  by_cases hv : b = v
  · subst hv; simp [h]
  · rw [if_neg hv, if_neg (fun e => hv e.symm)]
/-- What holds while edges are looked at. -/
structure PInv (nd : Nat) (l : List Lnk) (dn : List Bool) (s : Nat) (d : List Int) : Prop where
  len : d.length = nd
  src : dAt d (s : Int) = 0
  low : ∀ v : Nat, v < nd → -1 ≤ dAt d (v : Int)
  via : ∀ v : Nat, v < nd → v ≠ s → 0 ≤ dAt d (v : Int) → ∃ k, k < 2 * l.length ∧ isDn dn (k / 2) = false ∧ tov l k = (v : Int) ∧ 0 ≤ dAt d (frm l k) ∧ dAt d (frm l k) + met l k ≤ dAt d (v : Int)
  top : ∀ v : Nat, v < nd → dAt d (v : Int) + 16777216 ≤ (lab d : Int) * 16777216
def cloAt (l : List Lnk) (dn : List Bool) (d : List Int) (k : Nat) : Prop := isDn dn (k / 2) = false → 0 ≤ dAt d (frm l k) → 0 ≤ dAt d (tov l k) ∧ dAt d (tov l k) ≤ dAt d (frm l k) + met l k
theorem PInv.done {nd : Nat} {l : List Lnk} {dn : List Bool} {s : Nat} {d : List Int} (h : PInv nd l dn s d) (hc : ∀ k, k < 2 * l.length → cloAt l dn d k) : DistOk nd l dn s d := by
  refine ⟨h.len, h.src, h.low, hc, fun v hv hs h0 => ?_⟩
  obtain ⟨k, hk, hu, ht, hf, he⟩ := h.via v hv hs h0
  have := (hc k hk hu hf).2
  rw [ht] at this
  exact ⟨k, hk, hu, ht, hf, by omega⟩
theorem PInv.start {nd : Nat} {l : List Lnk} {dn : List Bool} {s : Nat} (hs : s < nd) : PInv nd l dn s ((List.replicate nd (-1 : Int)).set s 0) := by
  have hr : ∀ v : Nat, dAt (List.replicate nd (-1 : Int)) (v : Int) = -1 := by
    intro v
    unfold dAt
    rw [List.getD_eq_getElem?_getD, Int.toNat_natCast]
    rcases Nat.lt_or_ge v nd with h | h
    · rw [List.getElem?_replicate, if_pos h]; rfl
    · rw [List.getElem?_eq_none (by simpa using h)]; rfl
  have hd : ∀ v : Nat, dAt ((List.replicate nd (-1 : Int)).set s 0) (v : Int) = if v = s then 0 else -1 := by
    intro v
    rw [dAt_set (by simpa using hs), hr]
  have hl : lab ((List.replicate nd (-1 : Int)).set s 0) ≥ 1 := by
    refine lab_pos (i := s) ?_
    rw [List.getElem?_set, if_pos rfl, if_pos (by simpa using hs)]
  refine ⟨by simp, by rw [hd, if_pos rfl], fun v _ => by rw [hd]; split <;> omega, fun v _ hv h0 => ?_, fun v _ => ?_⟩
  · rw [hd, if_neg hv] at h0; omega
  · rw [hd]; split <;> omega
theorem PInv.bound {nd : Nat} {l : List Lnk} {dn : List Bool} {s : Nat} {d : List Int} (h : PInv nd l dn s d) (hnd : nd ≤ 40) {v : Nat} (hv : v < nd) : -1 ≤ dAt d (v : Int) ∧ dAt d (v : Int) ≤ 654311424 := by
  have h1 := h.low v hv
  have h2 := h.top v hv
  have h3 := lab_le d
  rw [h.len] at h3
  omega
/-- An edge that makes a node nearer. -/
theorem PInv.relax {nd : Nat} {l : List Lnk} {dn : List Bool} {s : Nat} {d : List Int} (hg : GOk nd l) (h : PInv nd l dn s d) {k a b : Nat} {m : Int} (hk : k < 2 * l.length) (hu : isDn dn (k / 2) = false) (hf : frm l k = (a : Int)) (ht : tov l k = (b : Int)) (hm : met l k = m)
    (ha : a < nd) (hb : b < nd) (hab : a ≠ b) (hm1 : 1 ≤ m) (hm2 : m ≤ 16777216) (h0 : 0 ≤ dAt d (a : Int)) (hn : dAt d (b : Int) < 0 ∨ dAt d (a : Int) + m < dAt d (b : Int)) :
    PInv nd l dn s (d.set b (dAt d (a : Int) + m)) ∧ sumP (d.set b (dAt d (a : Int) + m)) < sumP d := by
  have hbl : b < d.length := by rw [h.len]; exact hb
  have hs : b ≠ s := by rintro rfl; rw [h.src] at hn; omega
  have hv : ∀ v : Nat, dAt (d.set b (dAt d (a : Int) + m)) (v : Int) = if v = b then dAt d (a : Int) + m else dAt d (v : Int) := fun v => dAt_set hbl
  have htop := h.top a ha
  have hlow := h.low b hb
  have hlab := lab_set (x := dAt d (a : Int) + m) (dAt_get hbl) (by omega)
  have hle : ∀ v : Nat, v < nd → 0 ≤ dAt d (v : Int) → 0 ≤ dAt (d.set b (dAt d (a : Int) + m)) (v : Int) ∧ dAt (d.set b (dAt d (a : Int) + m)) (v : Int) ≤ dAt d (v : Int) := by
    intro v hv1 hv2
    rw [hv]
    split
    · subst v; omega
    · omega
  refine ⟨⟨by rw [List.length_set]; exact h.len, by rw [hv, if_neg (fun e => hs e.symm)]; exact h.src, fun v hv1 => by rw [hv]; split; omega; exact h.low v hv1, fun v hv1 hvs hv0 => ?_, fun v hv1 => ?_⟩, ?_⟩
  · by_cases hvb : v = b
    · subst hvb
      refine ⟨k, hk, hu, ht, ?_, ?_⟩
      · rw [hf, hv, if_neg hab]; exact h0
      · rw [hf, hv, if_neg hab, hv, if_pos rfl, hm]; omega
    · rw [hv, if_neg hvb] at hv0 ⊢
      obtain ⟨k', hk', hu', ht', hf', he'⟩ := h.via v hv1 hvs hv0
      obtain ⟨a', _, _, _, _, hfa', _, _, ha', _⟩ := edge_facts hg hk'
      rw [hfa'] at hf' he'
      have := hle a' ha' hf'
      refine ⟨k', hk', hu', ht', ?_, ?_⟩
      · rw [hfa']; exact this.1
      · rw [hfa']; omega
  · rw [hlab, hv]
    have := h.top v hv1
    by_cases hvb : v = b
    · subst hvb
      rw [if_pos rfl]
      split <;> omega
    · rw [if_neg hvb]
      split <;> omega
  · refine sumP_set (dAt_get hbl) ?_
    have hb1 := (h.bound hg.2.2.1 ha).2
    unfold pot
    rw [if_neg (by omega)]
    split <;> omega
theorem cloAt_no {l : List Lnk} {dn : List Bool} {d : List Int} {k a b : Nat} {m : Int} (hf : frm l k = (a : Int)) (ht : tov l k = (b : Int)) (hm : met l k = m) (h : dAt d (a : Int) < 0 ∨ isDn dn (k / 2) = true ∨ (0 ≤ dAt d (b : Int) ∧ dAt d (b : Int) ≤ dAt d (a : Int) + m)) : cloAt l dn d k := by
  intro hu h0
  rw [hf] at h0
  rw [ht, hf, hm]
  rcases h with h | h | h
  · omega
  · rw [hu] at h; cases h
  · exact h
end Go.Proofs.Ytkemcgbedapkcaa

/- Rows of bools and of numbers as arguments; a row of numbers that a call writes; IsDown, Node. -/
namespace Go.Proofs.Ytkemcgbedapkcaa
open Go.RowKit Go.ChangeShapes Go.WideShapes Go.Deep
set_option maxHeartbeats 3200000
set_option maxRecDepth 100000
/-- A slice value reads as the bools l below block B. -/
def RBl (w : World) (B : Nat) (A : Option Addr) (n : Nat) (l : List Bool) : Prop :=
  l.length = n ∧ (0 < n → ∃ b off, A = some ⟨b, off, none⟩ ∧ b < B ∧ ∀ (i : Nat) (x : Bool), l[i]? = some x → w.cell? ⟨b, off + i, none⟩ = some (.bool x))
theorem RBl.below {w w' : World} {B n : Nat} {A : Option Addr} {l : List Bool} (h : RBl w B A n l) (hb : Below B w w') : RBl w' B A n l := by
  refine ⟨h.1, fun hn => ?_⟩
  obtain ⟨b, off, hA, hB, hc⟩ := h.2 hn
  exact ⟨b, off, hA, hB, fun i e he => (hb.cell (p := ⟨b, _, none⟩) hB).trans (hc i e he)⟩
theorem RBl.more {w : World} {B B' n : Nat} {A : Option Addr} {l : List Bool} (h : RBl w B A n l) (hB : B ≤ B') : RBl w B' A n l := by
  refine ⟨h.1, fun hn => ?_⟩
  obtain ⟨b, off, hA, hb, hc⟩ := h.2 hn
  exact ⟨b, off, hA, by omega, hc⟩
theorem RBl.on {a b : World} {A : Option Addr} {n : Nat} {l : List Bool} (h : RBl a a.heap.size A n l) (hb : Below a.heap.size a b) : RBl b b.heap.size A n l := (h.below hb).more hb.size
theorem open_bls {H : Type} {enc : TypeId × Value → H} {w : World} {A : Option Addr} {len cap : Nat} {d : DataW H} {p : List MemPlace}
    (h : DataW.Trod enc Try.prog w 0 (fun _ => true) true 43 (.slice A len cap) d p) : ∃ l : List Bool, RBl w w.heap.size A len l ∧ len ≤ maxLen ∧ (A = none → len = 0 ∧ cap = 0) ∧ len ≤ cap := by
  obtain ⟨fuel, hf⟩ := h
  rcases open_bools Try.underlying43 Try.underlying4 (by kernel_rfl) hf with ⟨hcs, _⟩ | ⟨a, len, c, bs, hcs, _, hl, hm, _, hcell⟩
  · simp [Value.cells] at hcs
    obtain ⟨rfl, rfl, rfl⟩ := hcs
    exact ⟨[], ⟨rfl, fun h => by omega⟩, by unfold maxLen; omega, fun _ => ⟨rfl, rfl⟩, Nat.le_refl _⟩
  · simp [Value.cells] at hcs
    obtain ⟨rfl, rfl, rfl⟩ := hcs
    refine ⟨(List.range len).map bs, ⟨by simp, fun hn => ?_⟩, by omega, fun h => (by cases h), hl⟩
    have hsp : a.spot = none := by
      have := World.cell?_spot (hcell 0 (by omega))
      simpa [Addr.add] using this
    obtain ⟨b, off, spot⟩ := a
    subst hsp
    have hb := cell_lt (hcell 0 (by omega))
    rw [Go.WideShapes.add_plain] at hb
    refine ⟨b, off, rfl, hb, fun i x hx => ?_⟩
    simp only [List.getElem?_map, Option.map_eq_some_iff] at hx
    obtain ⟨j, hj, rfl⟩ := hx
    have hj2 : i < len := by
      have := (List.getElem?_eq_some_iff.1 hj).1
      simpa using this
    rw [List.getElem?_range hj2] at hj
    injection hj with hj
    subst hj
    have := hcell i (by omega)
    rw [Go.WideShapes.add_plain] at this
    exact this
theorem open_nms {H : Type} {enc : TypeId × Value → H} {w : World} {A : Option Addr} {len cap : Nat} {d : DataW H} {p : List MemPlace}
    (h : DataW.Trod enc Try.prog w 0 (fun _ => true) true 40 (.slice A len cap) d p) : ∃ l : List Int, RInt w w.heap.size A len l ∧ (∀ x ∈ l, -9223372036854775808 ≤ x ∧ x ≤ 9223372036854775807) ∧ len ≤ maxLen ∧ (A = none → len = 0 ∧ cap = 0) ∧ len ≤ cap := by
  obtain ⟨fuel, hf⟩ := h
  rcases open_ints Try.underlying40 Try.underlying3 (by kernel_rfl) hf with ⟨hcs, _⟩ | ⟨a, len, c, zs, hcs, _, hl, hm, hz, _, hcell, hwz⟩
  · simp [Value.cells] at hcs
    obtain ⟨rfl, rfl, rfl⟩ := hcs
    exact ⟨[], ⟨rfl, fun h => by omega⟩, by simp, by unfold maxLen; omega, fun _ => ⟨rfl, rfl⟩, Nat.le_refl _⟩
  · simp [Value.cells] at hcs
    obtain ⟨rfl, rfl, rfl⟩ := hcs
    simp only [if_true] at hz
    have hw : ∀ x ∈ zs, -9223372036854775808 ≤ x ∧ x ≤ 9223372036854775807 := by
      intro x hx
      have hw := hwz x hx
      simp only [Lit.wf, Bool.and_eq_true, decide_eq_true_eq] at hw
      have h1 : IntKind.i64.min = -9223372036854775808 := rfl
      have h2 : IntKind.i64.max = 9223372036854775807 := rfl
      rw [h1, h2] at hw
      exact hw
    refine ⟨zs.take len, ⟨by rw [List.length_take]; omega, fun hn => ?_⟩, fun x hx => hw x (List.mem_of_mem_take hx), by omega, fun h => (by cases h), hl⟩
    have hsp : a.spot = none := by
      have := World.cell?_spot (hcell 0 (by omega))
      simpa [Addr.add] using this
    obtain ⟨b, off, spot⟩ := a
    subst hsp
    have hb := cell_lt (hcell 0 (by omega))
    rw [Go.WideShapes.add_plain] at hb
    refine ⟨b, off, rfl, hb, fun i x hx => ?_⟩
    rw [List.getElem?_take] at hx
    split at hx
    · have := hcell i (by have := (List.getElem?_eq_some_iff.1 hx).1; omega)
      rw [Go.WideShapes.add_plain] at this
      rw [this, List.getD_eq_getElem?_getD, hx]; rfl
    · cases hx
/-- Block G is the row d. -/
def IRow (w : World) (G : Nat) (d : List Int) : Prop := w.heap[G]? = some (.cells (icells d).toArray 3 (0, 0))
theorem IRow.lt {w : World} {G : Nat} {d : List Int} (h : IRow w G d) : G < w.heap.size := by
  rcases Nat.lt_or_ge G w.heap.size with h1 | h1
  · exact h1
  · have h2 : w.heap[G]? = _ := h
    rw [Array.getElem?_eq_none h1] at h2; cases h2
theorem IRow.cell {w : World} {G i : Nat} {x : Int} {d : List Int} (h : IRow w G d) (hx : d[i]? = some x) : w.cell? ⟨G, i, none⟩ = some (.int .i64 x) := by
  rw [cell_of_row _ _ _ _ _ _ h]
  simp [icells, hx]
theorem IRow.frozen {w : World} {G : Nat} {d : List Int} (h : IRow w G d) (i : Nat) : w.frozen? ⟨G, i, none⟩ = false := frozen_of_row _ _ _ _ _ h
theorem IRow.on {w w' : World} {G : Nat} {d : List Int} (h : IRow w G d) (hb : Below w.heap.size w w') : IRow w' G d := box_below h hb h.lt
theorem IRow.set {w : World} {G i : Nat} {d : List Int} (h : IRow w G d) (x : Int) : IRow (w.setCell ⟨G, i, none⟩ (.int .i64 x)) G (d.set i x) := by
  have h1 := heap_setCell_same w G i _ _ (.int .i64 x) h
  unfold IRow
  rw [h1]
  simp [icells, List.map_set]
theorem IRow.drewN {w : World} {G : Nat} {d : List Int} (h : IRow w G d) (k : Nat) : IRow (w.drewN k) G d := h
theorem IRow.made {w : World} {base G N : Nat} (h : w.ownsRow base 3 1 (.slice (some ⟨G, 0, none⟩) N N) N (madeCells (Value.int .i64 0).cells (N * 1)).toList) : IRow w G (List.replicate N 0) := by
  rcases h.2 with ⟨h1, _⟩ | ⟨g, cap, cur, h1, _, hg, _, _, h4, h5⟩
  · cases h1
  · simp only [Value.slice.injEq, Option.some.injEq, Addr.mk.injEq] at h1
    obtain ⟨⟨rfl, _⟩, _, rfl⟩ := h1
    have h6 : cur.toList = List.replicate N (Value.int .i64 0) := by
      rw [List.take_of_length_le (by simp; omega)] at h5
      rw [h5, Nat.mul_one, show (Value.int .i64 0).cells = #[Value.int .i64 0] from rfl, toList_madeCells_one]
    unfold IRow
    rw [hg]
    have h7 : cur = (icells (List.replicate N 0)).toArray := by
      rw [← Array.toArray_toList (xs := cur), h6]
      simp [icells]
    rw [h7]
theorem IRow.owned {w : World} {base G N : Nat} {d : List Int} (h : IRow w G d) (hl : d.length = N) (hb : base ≤ G) (hN : N ≤ maxLen) : w.ownsRow base 3 1 (.slice (some ⟨G, 0, none⟩) N N) N (icells d) := by
  refine ⟨by rw [icells_len, hl, Nat.mul_one], .inr ⟨G, N, _, rfl, hb, h, Nat.le_refl _, hN, by simp [icells, hl], ?_⟩⟩
  rw [List.take_of_length_le (by simp [icells, hl])]
/-- The potential of block G. -/
def potW (w : World) (G : Nat) : Nat := match w.heap[G]? with
  | some (.cells cs _ _) => sumP (cs.toList.map intOf)
  | _ => 0
theorem IRow.pot {w : World} {G : Nat} {d : List Int} (h : IRow w G d) : potW w G = sumP d := by
  have h' : w.heap[G]? = some (.cells (icells d).toArray 3 (0, 0)) := h
  unfold potW
  rw [h']
  simp only [icells, List.map_map]
  congr 1
  exact (List.map_congr_left (fun x _ => rfl)).trans (List.map_id _)
theorem node_any (nd : Int) (A : Option Addr) (n c : Nat) (v : Int) (w : World) : Calls Try.prog 23 #[.agg #[.int .i64 nd, .slice A n c], .int .i64 v] w fun e w' => e = .returned (.bool (decide (0 ≤ v) && decide (v < nd))) ∧ Below w.heap.size w w' := by
  have b1 : Below w.heap.size w (w.alloc (.cells #[.int .i64 nd, .slice A n c] 24)) := Below.alloc (Below.refl _ _) (Nat.le_refl _) _
  by_cases h : 0 ≤ v
  · have t1 : decide (0 ≤ v) = true := by simpa using h
    rw [t1]
    clear h
    go_enter Try.func23, Try.ntmps23
    go_wp2_with fail
    go_ret
    exact ⟨by simp, b1⟩
  · have t1 : decide (0 ≤ v) = false := by simpa using h
    rw [t1]
    clear h
    go_enter Try.func23, Try.ntmps23
    go_wp2_with fail
    go_ret
    exact ⟨by simp, b1⟩
theorem isDown_any (A : Option Addr) (n c : Nat) (dn : List Bool) (i : Nat) (w : World) (hr : RBl w w.heap.size A n dn) (hi : i ≤ 1000000) : Calls Try.prog 24 #[.slice A n c, .int .i64 (i : Int)] w fun e w' => e = .returned (.bool (isDn dn i)) ∧ w = w' := by
  have t1 : decide (0 ≤ (i : Int)) = true := by simp
  have hl := hr.1
  by_cases h : i < n
  · have t2 : decide (i < n) = true := by simpa using h
    have t2' : decide ((i : Int) < (n : Int)) = true := by simpa using h
    obtain ⟨x, hx⟩ : ∃ x, dn[i]? = some x := ⟨dn[i]'(by omega), List.getElem?_eq_getElem _⟩
    obtain ⟨b, off, rfl, hb, hc⟩ := hr.2 (by omega)
    have c0 := hc i x hx
    have Q : isDn dn i = x := by unfold isDn; rw [List.getD_eq_getElem?_getD, hx]; rfl
    rw [Q]
    clear hc hx hr Q
    go_enter Try.func24, Try.ntmps24
    go_wp2_with fail
    go_ret
    exact ⟨by simp, rfl⟩
  · have t2 : decide (i < n) = false := by simpa using h
    have t2' : decide ((i : Int) < (n : Int)) = false := by simp; omega
    have Q : isDn dn i = false := by unfold isDn; rw [List.getD_eq_getElem?_getD, List.getElem?_eq_none (by omega)]; rfl
    rw [Q]
    clear hr Q
    go_enter Try.func24, Try.ntmps24
    go_wp2_with fail
    go_ret
    exact ⟨by simp, rfl⟩
end Go.Proofs.Ytkemcgbedapkcaa
