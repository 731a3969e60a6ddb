/- graph.Check, Ends, Out, Back. -/
import Derived.Test.YtjblhajmnlcfaaaWgC
namespace Go.Proofs.Ytjblhajmnlcfaaa
open Go.RowKit
set_option maxHeartbeats 6400000
set_option maxRecDepth 100000
theorem isBelow_yes (n m : Int) (w : World) (h : 0 ≤ n) (h' : n < m) : Calls Try.prog 24 #[.int .i64 n, .int .i64 m] w fun e w' => e = .returned (.bool true) ∧ w = w' := by
  have t1 : decide (0 ≤ n) = true := by simpa using h
  have t2 : decide (n < m) = true := by simpa using h'
  clear h h'
  go_enter Try.func24, Try.ntmps24
  go_wp2_with fail
  go_ret
  exact ⟨rfl, rfl⟩
theorem isBelow_no (n m : Int) (w : World) (h : ¬(0 ≤ n ∧ n < m)) : Calls Try.prog 24 #[.int .i64 n, .int .i64 m] w fun e w' => e = .returned (.bool false) ∧ w = w' := by
  by_cases h0 : 0 ≤ n
  · have t1 : decide (0 ≤ n) = true := by simpa using h0
    have t2 : decide (n < m) = false := by simp; omega
    clear h h0
    go_enter Try.func24, Try.ntmps24
    go_wp2_with fail
    go_ret
    exact ⟨rfl, rfl⟩
  · have t1 : decide (0 ≤ n) = false := by simpa using h0
    clear h h0
    go_enter Try.func24, Try.ntmps24
    go_wp2_with fail
    go_ret
    exact ⟨rfl, rfl⟩
theorem checkLink_any (x : Lnk) (nd : Int) (w : World) : Calls Try.prog 22 #[.agg #[.int .i64 x.a, .int .i64 x.b, .int .i64 x.m, .int .i64 x.c], .int .i64 nd] w fun e w' => e = .returned (.int .i64 (lnkErr nd x)) ∧ Below w.heap.size w w' := by
  obtain ⟨a, b, m, c⟩ := x
  have b1 : Below w.heap.size w (w.alloc (.cells #[.int .i64 a, .int .i64 b, .int .i64 m, .int .i64 c] 42)) := Below.alloc (Below.refl _ _) (Nat.le_refl _) _
  by_cases ha : 0 ≤ a ∧ a < nd
  · have HA := hid (fun w => isBelow_yes a nd w ha.1 ha.2)
    by_cases hb : 0 ≤ b ∧ b < nd
    · have HB := hid (fun w => isBelow_yes b nd w hb.1 hb.2)
      by_cases hab : a = b
      · subst hab
        have Q : lnkErr nd ⟨a, a, m, c⟩ = 4 := by unfold lnkErr; rw [if_neg (by simp)]
        rw [Q]
        clear Q ha hb
        go_enter Try.func22, Try.ntmps22
        go_wp2_with (go_at_call 24; (with_reducible (first | refine (HA.out _).mono ?_ | refine (HB.out _).mono ?_)); rintro _ _ ⟨rfl, rfl⟩)
        go_ret
        exact ⟨rfl, b1⟩
      · have t1 : (a == b) = false := by simpa using hab
        by_cases hm1 : m < 1
        · have t2 : decide (m < 1) = true := by simpa using hm1
          have Q : lnkErr nd ⟨a, b, m, c⟩ = 1 := by unfold lnkErr; rw [if_pos (by simp; omega), if_neg (by simp; omega)]
          rw [Q]
          clear Q ha hb hab hm1
          go_enter Try.func22, Try.ntmps22
          go_wp2_with (go_at_call 24; (with_reducible (first | refine (HA.out _).mono ?_ | refine (HB.out _).mono ?_)); rintro _ _ ⟨rfl, rfl⟩)
          go_ret
          exact ⟨rfl, b1⟩
        · have t2 : decide (m < 1) = false := by simpa using hm1
          by_cases hm2 : 16777216 < m
          · have t3 : decide (16777216 < m) = true := by simpa using hm2
            have Q : lnkErr nd ⟨a, b, m, c⟩ = 1 := by unfold lnkErr; rw [if_pos (by simp; omega), if_neg (by simp; omega)]
            rw [Q]
            clear Q ha hb hab hm1 hm2
            go_enter Try.func22, Try.ntmps22
            go_wp2_with (go_at_call 24; (with_reducible (first | refine (HA.out _).mono ?_ | refine (HB.out _).mono ?_)); rintro _ _ ⟨rfl, rfl⟩)
            go_ret
            exact ⟨rfl, b1⟩
          · have t3 : decide (16777216 < m) = false := by simpa using hm2
            by_cases hc1 : c < 0
            · have t4 : decide (c < 0) = true := by simpa using hc1
              have Q : lnkErr nd ⟨a, b, m, c⟩ = 1 := by unfold lnkErr; rw [if_pos (by simp; omega), if_neg (by simp; omega)]
              rw [Q]
              clear Q ha hb hab hm1 hm2 hc1
              go_enter Try.func22, Try.ntmps22
              go_wp2_with (go_at_call 24; (with_reducible (first | refine (HA.out _).mono ?_ | refine (HB.out _).mono ?_)); rintro _ _ ⟨rfl, rfl⟩)
              go_ret
              exact ⟨rfl, b1⟩
            · have t4 : decide (c < 0) = false := by simpa using hc1
              by_cases hc2 : 62 < c
              · have t5 : decide (62 < c) = true := by simpa using hc2
                have Q : lnkErr nd ⟨a, b, m, c⟩ = 1 := by unfold lnkErr; rw [if_pos (by simp; omega), if_neg (by simp; omega)]
                rw [Q]
                clear Q ha hb hab hm1 hm2 hc1 hc2
                go_enter Try.func22, Try.ntmps22
                go_wp2_with (go_at_call 24; (with_reducible (first | refine (HA.out _).mono ?_ | refine (HB.out _).mono ?_)); rintro _ _ ⟨rfl, rfl⟩)
                go_ret
                exact ⟨rfl, b1⟩
              · have t5 : decide (62 < c) = false := by simpa using hc2
                have Q : lnkErr nd ⟨a, b, m, c⟩ = 0 := by unfold lnkErr; rw [if_pos (by simp; omega), if_pos (by simp; omega)]
                rw [Q]
                clear Q ha hb hab hm1 hm2 hc1 hc2
                go_enter Try.func22, Try.ntmps22
                go_wp2_with (go_at_call 24; (with_reducible (first | refine (HA.out _).mono ?_ | refine (HB.out _).mono ?_)); rintro _ _ ⟨rfl, rfl⟩)
                go_ret
                exact ⟨rfl, b1⟩
    · have HB := hid (fun w => isBelow_no b nd w hb)
      have Q : lnkErr nd ⟨a, b, m, c⟩ = 4 := by unfold lnkErr; rw [if_neg (by simp; omega)]
      rw [Q]
      clear Q ha hb
      go_enter Try.func22, Try.ntmps22
      go_wp2_with (go_at_call 24; (with_reducible (first | refine (HA.out _).mono ?_ | refine (HB.out _).mono ?_)); rintro _ _ ⟨rfl, rfl⟩)
      go_ret
      exact ⟨rfl, b1⟩
  · have HA := hid (fun w => isBelow_no a nd w ha)
    have Q : lnkErr nd ⟨a, b, m, c⟩ = 4 := by unfold lnkErr; rw [if_neg (by simp; omega)]
    rw [Q]
    clear Q ha
    go_enter Try.func22, Try.ntmps22
    go_wp2_with (go_at_call 24; (with_reducible refine (HA.out _).mono ?_); rintro _ _ ⟨rfl, rfl⟩)
    go_ret
    exact ⟨rfl, b1⟩
/-- What checkSizes answers. -/
def sizeErr (nd : Int) (n : Nat) : Int := if 120 < n then 6 else if nd < 1 ∨ 40 < nd then 1 else 0
theorem checkSizes_any (nd : Int) (A : Option Addr) (n c : Nat) (w : World) : Calls Try.prog 21 #[.agg #[.int .i64 nd, .slice A n c]] w fun e w' => e = .returned (.int .i64 (sizeErr nd n)) ∧ Below w.heap.size w w' := by
  have b1 : Below w.heap.size w (w.alloc (.cells #[.int .i64 nd, .slice A n c] 24)) := Below.alloc (Below.refl _ _) (Nat.le_refl _) _
  by_cases hn : 120 < n
  · have t1 : decide ((120 : Int) < (n : Int)) = true := by simp; omega
    have Q : sizeErr nd n = 6 := by unfold sizeErr; rw [if_pos hn]
    rw [Q]
    clear Q hn
    go_enter Try.func21, Try.ntmps21
    go_wp2_with fail
    go_ret
    exact ⟨rfl, b1⟩
  · have t1 : decide ((120 : Int) < (n : Int)) = false := by simp; omega
    by_cases h1 : nd < 1
    · have t2 : decide (nd < 1) = true := by simpa using h1
      have Q : sizeErr nd n = 1 := by unfold sizeErr; rw [if_neg hn, if_pos (.inl h1)]
      rw [Q]
      clear Q hn h1
      go_enter Try.func21, Try.ntmps21
      go_wp2_with fail
      go_ret
      exact ⟨rfl, b1⟩
    · have t2 : decide (nd < 1) = false := by simpa using h1
      by_cases h2 : 40 < nd
      · have t3 : decide (40 < nd) = true := by simpa using h2
        have Q : sizeErr nd n = 1 := by unfold sizeErr; rw [if_neg hn, if_pos (.inr h2)]
        rw [Q]
        clear Q hn h1 h2
        go_enter Try.func21, Try.ntmps21
        go_wp2_with fail
        go_ret
        exact ⟨rfl, b1⟩
      · have t3 : decide (40 < nd) = false := by simpa using h2
        have Q : sizeErr nd n = 0 := by unfold sizeErr; rw [if_neg hn, if_neg (by omega)]
        rw [Q]
        clear Q hn h1 h2
        go_enter Try.func21, Try.ntmps21
        go_wp2_with fail
        go_ret
        exact ⟨rfl, b1⟩
theorem check_any (nd : Int) (A : Option Addr) (n c : Nat) (l : List Lnk) (w : World) (hr : RLnk w w.heap.size A n l) : Calls Try.prog 19 #[.agg #[.int .i64 nd, .slice A n c]] w fun e w' => e = .returned (.tuple #[.int .i64 (checkS nd l).1, .int .i64 (checkS nd l).2]) ∧ Below w.heap.size w w' := by
  have HS := hid (fun w => checkSizes_any nd A n c w)
  have b1 : Below w.heap.size w (w.alloc (.cells #[.int .i64 nd, .slice A n c] 24)) := Below.alloc (Below.refl _ _) (Nat.le_refl _) _
  have hl := hr.1
  by_cases hs : sizeErr nd n = 0
  · have Q : checkS nd l = chk nd l 0 := by
      unfold sizeErr at hs; unfold checkS; rw [hl]
      split at hs
      · cases hs
      · split at hs
        · cases hs
        · rw [if_neg ‹_›, if_neg ‹_›]
    have hn : n ≤ 120 := by
      unfold sizeErr at hs
      split at hs
      · cases hs
      · omega
    rw [Q]
    have HR := hid hr
    rw [hs] at HS
    clear hr Q hs
    have HX := hid (fun x w => checkLink_any x nd w)
    go_enter Try.func19, Try.ntmps19
    go_wp2_with (go_at_call 21; (with_reducible refine (HS.out _).mono ?_); rintro e' w1 ⟨rfl, hb1⟩; have hb1' := b1.trans (hb1.mono (by simp)); obtain ⟨g0, g1, _⟩ := box_cells (box_below (heap_alloc_new w _) hb1 (by simp)))
    go_loopw [16] (fun i wr => ∃ (k : Nat), k ≤ n ∧ i = .int .i64 k ∧ Hid (chk nd l 0 = chk nd (l.drop k) k) ∧ Below w1.heap.size w1 wr) (fun i _ => n - (intOf i).toNat)
    case atStart => exact ⟨0, Nat.zero_le _, rfl, rfl, Below.refl _ _⟩
    case round =>
      obtain ⟨k, hk, rfl, HC, hbel⟩ := hrel
      have hs1 := hb1.size
      have hs := hbel.size
      simp at hs1
      have hlo : w.heap.size < wr.heap.size := by omega
      by_cases hlt : k < n
      · obtain ⟨x, hx⟩ : ∃ x, l[k]? = some x := ⟨l[k]'(by rw [hl]; omega), List.getElem?_eq_getElem _⟩
        obtain ⟨b, off, rfl, hb, hc⟩ := (HR.out.below (hb1'.trans (hbel.mono (by omega)))).2 (by omega)
        obtain ⟨c0, c1, c2, c3⟩ := hc k x hx
        have e0 := (hbel.cell (p := ⟨w.heap.size, 0, none⟩) (by show w.heap.size < _; omega)).trans g0
        have HQ := hid (HC.out.trans (chk_step hx))
        have HXx := hid (fun w => HX.out x w)
        clear hc hx
        by_cases hq : lnkErr nd x = 0
        · rw [hq] at HXx
          have HQ2 := hid (HQ.out.trans (if_pos hq))
          clear hq
          go_wp2_with (go_at_call 22; (with_reducible refine (HXx.out _).mono ?_); rintro e' w2 ⟨rfl, hb2⟩)
          go_roundw
          case rel => exact ⟨k + 1, by omega, by go_num, HQ2.out, hbel.trans ((Below.alloc (Below.refl _ _) (Nat.le_refl _) _).trans (hb2.mono (by simp)) |>.mono hs)⟩
          case measure => simp [intOf]; omega
        · have t : (lnkErr nd x != 0) = true := by simpa using hq
          have HQ2 := hid (HQ.out.trans (if_neg hq))
          obtain ⟨E, hE⟩ : ∃ E, lnkErr nd x = E := ⟨_, rfl⟩
          rw [hE] at HXx HQ2 t
          clear hE hq
          go_wp2_with (go_at_call 22; (with_reducible refine (HXx.out _).mono ?_); rintro e' w2 ⟨rfl, hb2⟩)
          go_ret2
          exact ⟨by rw [HQ2.out]; rfl, hb1'.trans ((hbel.trans ((Below.alloc (Below.refl _ _) (Nat.le_refl _) _).trans (hb2.mono (by simp)) |>.mono hs)).mono (by omega))⟩
      · obtain rfl : k = n := by omega
        have HQ2 : Hid (chk nd l 0 = (-1, 0)) := by
          show _ = _
          rw [HC.out, List.drop_of_length_le (by omega)]; rfl
        go_wp2_with fail
        go_ret2
        exact ⟨by rw [HQ2.out]; rfl, hb1'.trans (hbel.mono (by omega))⟩
  · have Q : checkS nd l = (-1, sizeErr nd n) := by
      unfold sizeErr at hs; unfold checkS sizeErr; rw [hl]
      split
      · rfl
      · rename_i h1
        rw [if_neg h1] at hs
        split
        · rfl
        · rename_i h2
          rw [if_neg h2] at hs
          exact absurd rfl hs
    have t : (sizeErr nd n != 0) = true := by simpa using hs
    obtain ⟨E, hE⟩ : ∃ E, sizeErr nd n = E := ⟨_, rfl⟩
    rw [hE] at HS Q t
    rw [Q]
    clear hE hs Q
    go_enter Try.func19, Try.ntmps19
    go_wp2_with (go_at_call 21; (with_reducible refine (HS.out _).mono ?_); rintro e' w1 ⟨rfl, hb1⟩)
    go_ret2
    exact ⟨rfl, b1.trans (hb1.mono (by simp))⟩
theorem ends_any (nd : Int) (A : Option Addr) (n c : Nat) (l : List Lnk) (e : Int) (w : World) (hr : RLnk w w.heap.size A n l) (hn : n ≤ 1000) (he : e ≤ 9223372036854775807) :
    Calls Try.prog 23 #[.agg #[.int .i64 nd, .slice A n c], .int .i64 e] w fun x w' => x = .returned (.tuple #[.int .i64 (endsS l e).1, .int .i64 (endsS l e).2.1, .bool (endsS l e).2.2]) ∧ Below w.heap.size w w' := by
  have b1 : Below w.heap.size w (w.alloc (.cells #[.int .i64 nd, .slice A n c] 24)) := Below.alloc (Below.refl _ _) (Nat.le_refl _) _
  have hl := hr.1
  by_cases h0 : e < 0
  · have t1 : decide (e < 0) = true := by simpa using h0
    have Q : endsS l e = (0, 0, false) := by unfold endsS; rw [if_pos h0]
    rw [Q]
    clear hr h0 Q hn hl
    go_enter Try.func23, Try.ntmps23
    go_wp2_with fail
    go_ret3
    exact ⟨rfl, b1⟩
  · have t1 : decide (e < 0) = false := by simpa using h0
    obtain ⟨k, rfl⟩ := Int.eq_ofNat_of_zero_le (Int.not_lt.1 h0)
    obtain ⟨q, hq⟩ : ∃ q, k / 2 = q := ⟨_, rfl⟩
    have d3 : wrap64 (q : Int) = (q : Int) := IntWalk.wrap64_in _ (by omega)
    have d1 : Int.tdiv (k : Int) 2 = (q : Int) := by rw [← hq]; rfl
    by_cases h1 : n ≤ q
    · have t2 : decide ((n : Int) ≤ (q : Int)) = true := by simpa using h1
      have Q : endsS l (k : Int) = (0, 0, false) := endsS_none (by omega)
      rw [Q]
      clear hr h0 Q hn hl hq
      go_enter Try.func23, Try.ntmps23
      go_wp2_with fail
      go_ret3
      exact ⟨rfl, b1⟩
    · have t2 : decide ((n : Int) ≤ (q : Int)) = false := by simp; omega
      obtain ⟨x, hx⟩ : ∃ x, l[q]? = some x := ⟨l[q]'(by omega), List.getElem?_eq_getElem _⟩
      have Q := endsS_some (hq ▸ hx : l[k / 2]? = some x)
      rw [Q]
      obtain ⟨b, off, rfl, hb, hc⟩ := hr.2 (by omega)
      obtain ⟨c0, c1, c2, c3⟩ := hc q x hx
      rcases Nat.mod_two_eq_zero_or_one k with hm | hm
      · have d2 : Int.tmod (k : Int) 2 = 0 := by have : Int.tmod (k : Int) 2 = ((k % 2 : Nat) : Int) := rfl; rw [this, hm]; rfl
        rw [if_pos hm]
        clear hc hx hr h0 Q hl hq hm
        go_enter Try.func23, Try.ntmps23
        go_wp2_with (go_big_quiet (fail))
        go_ret3
        exact ⟨rfl, below_drewN (b1.alloc (by simp) _)⟩
      · have d2 : Int.tmod (k : Int) 2 = 1 := by have : Int.tmod (k : Int) 2 = ((k % 2 : Nat) : Int) := rfl; rw [this, hm]; rfl
        rw [if_neg (by omega)]
        clear hc hx hr h0 Q hl hq hm
        go_enter Try.func23, Try.ntmps23
        go_wp2_with (go_big_quiet (fail))
        go_ret3
        exact ⟨rfl, below_drewN (b1.alloc (by simp) _)⟩
end Go.Proofs.Ytjblhajmnlcfaaa
