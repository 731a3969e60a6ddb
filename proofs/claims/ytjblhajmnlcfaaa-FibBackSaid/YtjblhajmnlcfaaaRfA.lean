/- waymarkref1.Check. -/
import Derived.Test.YtjblhajmnlcfaaaWgB
namespace Go.Proofs.Ytjblhajmnlcfaaa
open Go.RowKit
set_option maxHeartbeats 6400000
set_option maxRecDepth 100000
theorem refCheck_long (nd : Int) (A : Option Addr) (n c : Nat) (w : World) (hn : 120 < n) : Calls Try.prog 17 #[.agg #[.int .i64 nd, .slice A n c]] w fun e w' => e = .returned (.tuple #[.int .i64 (-1), .int .i64 6]) ∧ Below w.heap.size w w' := by
  have b1 : Below w.heap.size w (w.alloc (.cells #[.int .i64 nd, .slice A n c] 24)) := Below.alloc (Below.refl _ _) (Nat.le_refl _) _
  have t1 : decide ((120 : Int) < (n : Int)) = true := by simp; omega
  clear hn
  go_enter Try.func17, Try.ntmps17
  go_wp2_with fail
  go_ret2
  exact ⟨rfl, b1⟩
theorem refCheck_nodes (nd : Int) (A : Option Addr) (n c : Nat) (w : World) (hn : n ≤ 120) (h : nd < 1 ∨ 40 < nd) : Calls Try.prog 17 #[.agg #[.int .i64 nd, .slice A n c]] w fun e w' => e = .returned (.tuple #[.int .i64 (-1), .int .i64 1]) ∧ Below w.heap.size w w' := by
  have b1 : Below w.heap.size w (w.alloc (.cells #[.int .i64 nd, .slice A n c] 24)) := Below.alloc (Below.refl _ _) (Nat.le_refl _) _
  have t1 : decide ((120 : Int) < (n : Int)) = false := by simp; omega
  by_cases h1 : nd < 1
  · have t2 : decide (nd < 1) = true := by simpa using h1
    clear hn h h1
    go_enter Try.func17, Try.ntmps17
    go_wp2_with fail
    go_ret2
    exact ⟨rfl, b1⟩
  · have t2 : decide (nd < 1) = false := by simpa using h1
    have t3 : decide (40 < nd) = true := by simp; omega
    clear hn h h1
    go_enter Try.func17, Try.ntmps17
    go_wp2_with fail
    go_ret2
    exact ⟨rfl, b1⟩
theorem refCheck_in (nd : Int) (A : Option Addr) (n c : Nat) (l : List Lnk) (w : World) (hr : RLnk w w.heap.size A n l) (hn : n ≤ 120) (h1 : 1 ≤ nd) (h2 : nd ≤ 40) : Calls Try.prog 17 #[.agg #[.int .i64 nd, .slice A n c]] w fun e w' => e = .returned (.tuple #[.int .i64 (chk nd l 0).1, .int .i64 (chk nd l 0).2]) ∧ Below w.heap.size w w' := by
  have b1 : Below w.heap.size w (w.alloc (.cells #[.int .i64 nd, .slice A n c] 24)) := Below.alloc (Below.refl _ _) (Nat.le_refl _) _
  have q1 : decide ((120 : Int) < (n : Int)) = false := by simp; omega
  have q2 : decide (nd < 1) = false := by simp; omega
  have q3 : decide (40 < nd) = false := by simp; omega
  have hl := hr.1
  have HR := hid hr
  clear hr h1 h2
  obtain ⟨g0, g1, _⟩ := box_cells (heap_alloc_new w (.cells #[.int .i64 nd, .slice A n c] 24))
  obtain ⟨w1, hw1⟩ : ∃ w1, w.alloc (.cells #[.int .i64 nd, .slice A n c] 24) = w1 := ⟨_, rfl⟩
  have hs1 : w1.heap.size = w.heap.size + 1 := by rw [← hw1]; simp
  rw [hw1] at b1 g0 g1
  go_enter Try.func17, Try.ntmps17
  go_wp2_with fail
  go_loopw [4] (fun i wr => ∃ (k : Nat), k ≤ n ∧ i = .int .i64 k ∧ Hid (chk nd l 0 = chk nd (l.drop k) k) ∧ Below w1.heap.size w1 wr) (fun i _ => n - (intOf i).toNat)
  case atStart => exact ⟨0, Nat.zero_le _, rfl, rfl, Below.refl _ _⟩
  case round =>
    obtain ⟨k, hk, rfl, HC, hbel⟩ := hrel
    have hs := hbel.size
    have hlo : w.heap.size < wr.heap.size := by omega
    have e0 := (hbel.cell (p := ⟨w.heap.size, 0, none⟩) (by show w.heap.size < _; omega)).trans g0
    have e1 := (hbel.cell (p := ⟨w.heap.size, 1, none⟩) (by show w.heap.size < _; omega)).trans g1
    by_cases hlt : k < n
    · obtain ⟨x, hx⟩ : ∃ x, l[k]? = some x := ⟨l[k]'(by rw [hl]; omega), List.getElem?_eq_getElem _⟩
      obtain ⟨b, off, rfl, hb, hc⟩ := (HR.out.below (b1.trans (hbel.mono (by omega)))).2 (by omega)
      have hbw : b < wr.heap.size := by omega
      obtain ⟨c0, c1, c2, c3⟩ := hc k x hx
      have HQ := hid (HC.out.trans (chk_step hx))
      have HW := hid (b1.trans (hbel.mono (by omega)))
      have HB : Hid (Below w1.heap.size w1 (wr.alloc (.cells #[.int .i64 x.a, .int .i64 x.b, .int .i64 x.m, .int .i64 x.c] 42))) := hbel.trans ((Below.alloc (Below.refl _ _) (Nat.le_refl _) _).mono hs)
      obtain ⟨xa, xb, xm, xc⟩ := x
      simp only at c0 c1 c2 c3 HB
      clear hc hx
      by_cases h0 : xa < 0
      · have t0 : decide (xa < 0) = true := by simpa using h0
        have HQ2 : Hid (chk nd l 0 = ((k : Int), 4)) := by
          have q : lnkErr nd ⟨xa, xb, xm, xc⟩ = 4 := by unfold lnkErr; rw [if_neg (by simp; omega)]
          show _ = _
          rw [HQ.out, q, if_neg (by decide)]
        clear h0
        go_wp2_with fail
        go_ret2
        exact ⟨by rw [HQ2.out]; rfl, b1.trans (HB.out.mono (by omega))⟩
      have t0 : decide (xa < 0) = false := by simpa using h0
      by_cases h1 : nd ≤ xa
      · have t1 : decide (nd ≤ xa) = true := by simpa using h1
        have HQ2 : Hid (chk nd l 0 = ((k : Int), 4)) := by
          have q : lnkErr nd ⟨xa, xb, xm, xc⟩ = 4 := by unfold lnkErr; rw [if_neg (by simp; omega)]
          show _ = _
          rw [HQ.out, q, if_neg (by decide)]
        clear h0 h1
        go_wp2_with fail
        go_ret2
        exact ⟨by rw [HQ2.out]; rfl, b1.trans (HB.out.mono (by omega))⟩
      have t1 : decide (nd ≤ xa) = false := by simpa using h1
      by_cases h2 : xb < 0
      · have t2 : decide (xb < 0) = true := by simpa using h2
        have HQ2 : Hid (chk nd l 0 = ((k : Int), 4)) := by
          have q : lnkErr nd ⟨xa, xb, xm, xc⟩ = 4 := by unfold lnkErr; rw [if_neg (by simp; omega)]
          show _ = _
          rw [HQ.out, q, if_neg (by decide)]
        clear h0 h1 h2
        go_wp2_with fail
        go_ret2
        exact ⟨by rw [HQ2.out]; rfl, b1.trans (HB.out.mono (by omega))⟩
      have t2 : decide (xb < 0) = false := by simpa using h2
      by_cases h3 : nd ≤ xb
      · have t3 : decide (nd ≤ xb) = true := by simpa using h3
        have HQ2 : Hid (chk nd l 0 = ((k : Int), 4)) := by
          have q : lnkErr nd ⟨xa, xb, xm, xc⟩ = 4 := by unfold lnkErr; rw [if_neg (by simp; omega)]
          show _ = _
          rw [HQ.out, q, if_neg (by decide)]
        clear h0 h1 h2 h3
        go_wp2_with fail
        go_ret2
        exact ⟨by rw [HQ2.out]; rfl, b1.trans (HB.out.mono (by omega))⟩
      have t3 : decide (nd ≤ xb) = false := by simpa using h3
      by_cases h4 : xa = xb
      · have t4 : (xa == xb) = true := by simpa using h4
        have HQ2 : Hid (chk nd l 0 = ((k : Int), 4)) := by
          have q : lnkErr nd ⟨xa, xb, xm, xc⟩ = 4 := by unfold lnkErr; rw [if_neg (by simp; omega)]
          show _ = _
          rw [HQ.out, q, if_neg (by decide)]
        clear h0 h1 h2 h3 h4
        go_wp2_with fail
        go_ret2
        exact ⟨by rw [HQ2.out]; rfl, b1.trans (HB.out.mono (by omega))⟩
      have t4 : (xa == xb) = false := by simpa using h4
      by_cases h5 : xm < 1
      · have t5 : decide (xm < 1) = true := by simpa using h5
        have HQ2 : Hid (chk nd l 0 = ((k : Int), 1)) := by
          have q : lnkErr nd ⟨xa, xb, xm, xc⟩ = 1 := by unfold lnkErr; rw [if_pos (by simp; omega), if_neg (by simp; omega)]
          show _ = _
          rw [HQ.out, q, if_neg (by decide)]
        clear h0 h1 h2 h3 h4 h5
        go_wp2_with fail
        go_ret2
        exact ⟨by rw [HQ2.out]; rfl, b1.trans (HB.out.mono (by omega))⟩
      have t5 : decide (xm < 1) = false := by simpa using h5
      by_cases h6 : 16777216 < xm
      · have t6 : decide (16777216 < xm) = true := by simpa using h6
        have HQ2 : Hid (chk nd l 0 = ((k : Int), 1)) := by
          have q : lnkErr nd ⟨xa, xb, xm, xc⟩ = 1 := by unfold lnkErr; rw [if_pos (by simp; omega), if_neg (by simp; omega)]
          show _ = _
          rw [HQ.out, q, if_neg (by decide)]
        clear h0 h1 h2 h3 h4 h5 h6
        go_wp2_with fail
        go_ret2
        exact ⟨by rw [HQ2.out]; rfl, b1.trans (HB.out.mono (by omega))⟩
      have t6 : decide (16777216 < xm) = false := by simpa using h6
      by_cases h7 : xc < 0
      · have t7 : decide (xc < 0) = true := by simpa using h7
        have HQ2 : Hid (chk nd l 0 = ((k : Int), 1)) := by
          have q : lnkErr nd ⟨xa, xb, xm, xc⟩ = 1 := by unfold lnkErr; rw [if_pos (by simp; omega), if_neg (by simp; omega)]
          show _ = _
          rw [HQ.out, q, if_neg (by decide)]
        clear h0 h1 h2 h3 h4 h5 h6 h7
        go_wp2_with fail
        go_ret2
        exact ⟨by rw [HQ2.out]; rfl, b1.trans (HB.out.mono (by omega))⟩
      have t7 : decide (xc < 0) = false := by simpa using h7
      by_cases h8 : 62 < xc
      · have t8 : decide (62 < xc) = true := by simpa using h8
        have HQ2 : Hid (chk nd l 0 = ((k : Int), 1)) := by
          have q : lnkErr nd ⟨xa, xb, xm, xc⟩ = 1 := by unfold lnkErr; rw [if_pos (by simp; omega), if_neg (by simp; omega)]
          show _ = _
          rw [HQ.out, q, if_neg (by decide)]
        clear h0 h1 h2 h3 h4 h5 h6 h7 h8
        go_wp2_with fail
        go_ret2
        exact ⟨by rw [HQ2.out]; rfl, b1.trans (HB.out.mono (by omega))⟩
      have t8 : decide (62 < xc) = false := by simpa using h8
      have HQ2 : Hid (chk nd l 0 = chk nd (l.drop (k + 1)) (k + 1)) := by
        have q : lnkErr nd ⟨xa, xb, xm, xc⟩ = 0 := by unfold lnkErr; rw [if_pos (by simp; omega), if_pos (by simp; omega)]
        show _ = _
        rw [HQ.out, q, if_pos rfl]
      clear h0 h1 h2 h3 h4 h5 h6 h7 h8
      go_wp2_with fail
      go_roundw
      case rel => exact ⟨k + 1, by omega, by go_num, HQ2.out, HB.out⟩
      case measure => simp [intOf]; omega
    · obtain rfl : k = n := by omega
      have HQ2 : Hid (chk nd l 0 = (-1, 0)) := by
        show _ = _
        rw [HC.out, List.drop_of_length_le (by omega)]; rfl
      have HB := hid (b1.trans (hbel.mono (by omega)))
      go_wp2_with fail
      go_ret2
      exact ⟨by rw [HQ2.out]; rfl, HB.out⟩
theorem refCheck_any (nd : Int) (A : Option Addr) (n c : Nat) (l : List Lnk) (w : World) (hr : RLnk w w.heap.size A n l) : Calls Try.prog 17 #[.agg #[.int .i64 nd, .slice A n c]] w fun e w' => e = .returned (.tuple #[.int .i64 (checkS nd l).1, .int .i64 (checkS nd l).2]) ∧ Below w.heap.size w w' := by
  unfold checkS
  rw [hr.1]
  by_cases h1 : 120 < n
  · rw [if_pos h1]; exact refCheck_long nd A n c w h1
  · rw [if_neg h1]
    by_cases h2 : nd < 1 ∨ 40 < nd
    · rw [if_pos h2]; exact refCheck_nodes nd A n c w (by omega) h2
    · rw [if_neg h2]; exact refCheck_in nd A n c l w hr (by omega) (by omega) (by omega)
end Go.Proofs.Ytjblhajmnlcfaaa
