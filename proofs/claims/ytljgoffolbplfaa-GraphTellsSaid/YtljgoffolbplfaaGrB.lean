/- isBelow, checkLink, checkSizes, Check. -/
import Derived.Test.YtljgoffolbplfaaGrA
namespace Go.Proofs.Ytljgoffolbplfaa
open Go.RowKit
set_option maxHeartbeats 3200000
set_option maxRecDepth 100000
theorem isBelow_yes (n m : Int) (w : World) (h : 0 ≤ n) (h' : n < m) : Calls Try.prog 56 #[.int .i64 n, .int .i64 m] w fun e w' => e = .returned (.bool true) ∧ w = w' := by
  have t1 : decide (0 ≤ n) = true := by simpa using h
  have t2 : decide (n < m) = true := by simpa using h'
  clear h h'
  go_enter Try.func56, Try.ntmps56
  go_wp2_with fail
  go_ret
  exact ⟨rfl, rfl⟩
theorem isBelow_no (n m : Int) (w : World) (h : ¬(0 ≤ n ∧ n < m)) : Calls Try.prog 56 #[.int .i64 n, .int .i64 m] w fun e w' => e = .returned (.bool false) ∧ w = w' := by
  by_cases h0 : 0 ≤ n
  · have t1 : decide (0 ≤ n) = true := by simpa using h0
    have t2 : decide (n < m) = false := by simp; omega
    clear h h0
    go_enter Try.func56, Try.ntmps56
    go_wp2_with fail
    go_ret
    exact ⟨rfl, rfl⟩
  · have t1 : decide (0 ≤ n) = false := by simpa using h0
    clear h h0
    go_enter Try.func56, Try.ntmps56
    go_wp2_with fail
    go_ret
    exact ⟨rfl, rfl⟩
theorem checkLink_any (x : Lnk) (nd : Int) (w : World) : Calls Try.prog 41 #[.agg #[.int .i64 x.a, .int .i64 x.b, .int .i64 x.m, .int .i64 x.c], .int .i64 nd] w fun e w' => e = .returned (.int .i64 (lnkErr nd x)) ∧ Below w.heap.size w w' := by
  obtain ⟨a, b, m, c⟩ := x
  have b1 : Below w.heap.size w (w.alloc (.cells #[.int .i64 a, .int .i64 b, .int .i64 m, .int .i64 c] 41)) := Below.alloc (Below.refl _ _) (Nat.le_refl _) _
  by_cases ha : 0 ≤ a ∧ a < nd
  · have HA := hid (fun w => isBelow_yes a nd w ha.1 ha.2)
    by_cases hb : 0 ≤ b ∧ b < nd
    · have HB := hid (fun w => isBelow_yes b nd w hb.1 hb.2)
      by_cases hab : a = b
      · subst hab
        have Q : lnkErr nd ⟨a, a, m, c⟩ = 4 := by unfold lnkErr; rw [if_neg (by simp)]
        rw [Q]
        clear Q ha hb
        go_enter Try.func41, Try.ntmps41
        go_wp2_with (go_at_call 56; (with_reducible (first | refine (HA.out _).mono ?_ | refine (HB.out _).mono ?_)); rintro _ _ ⟨rfl, rfl⟩)
        go_ret
        exact ⟨rfl, b1⟩
      · have t1 : (a == b) = false := by simpa using hab
        by_cases hm1 : m < 1
        · have t2 : decide (m < 1) = true := by simpa using hm1
          have Q : lnkErr nd ⟨a, b, m, c⟩ = 1 := by unfold lnkErr; rw [if_pos (by simp; omega), if_neg (by simp; omega)]
          rw [Q]
          clear Q ha hb hab hm1
          go_enter Try.func41, Try.ntmps41
          go_wp2_with (go_at_call 56; (with_reducible (first | refine (HA.out _).mono ?_ | refine (HB.out _).mono ?_)); rintro _ _ ⟨rfl, rfl⟩)
          go_ret
          exact ⟨rfl, b1⟩
        · have t2 : decide (m < 1) = false := by simpa using hm1
          by_cases hm2 : 16777216 < m
          · have t3 : decide (16777216 < m) = true := by simpa using hm2
            have Q : lnkErr nd ⟨a, b, m, c⟩ = 1 := by unfold lnkErr; rw [if_pos (by simp; omega), if_neg (by simp; omega)]
            rw [Q]
            clear Q ha hb hab hm1 hm2
            go_enter Try.func41, Try.ntmps41
            go_wp2_with (go_at_call 56; (with_reducible (first | refine (HA.out _).mono ?_ | refine (HB.out _).mono ?_)); rintro _ _ ⟨rfl, rfl⟩)
            go_ret
            exact ⟨rfl, b1⟩
          · have t3 : decide (16777216 < m) = false := by simpa using hm2
            by_cases hc1 : c < 0
            · have t4 : decide (c < 0) = true := by simpa using hc1
              have Q : lnkErr nd ⟨a, b, m, c⟩ = 1 := by unfold lnkErr; rw [if_pos (by simp; omega), if_neg (by simp; omega)]
              rw [Q]
              clear Q ha hb hab hm1 hm2 hc1
              go_enter Try.func41, Try.ntmps41
              go_wp2_with (go_at_call 56; (with_reducible (first | refine (HA.out _).mono ?_ | refine (HB.out _).mono ?_)); rintro _ _ ⟨rfl, rfl⟩)
              go_ret
              exact ⟨rfl, b1⟩
            · have t4 : decide (c < 0) = false := by simpa using hc1
              by_cases hc2 : 62 < c
              · have t5 : decide (62 < c) = true := by simpa using hc2
                have Q : lnkErr nd ⟨a, b, m, c⟩ = 1 := by unfold lnkErr; rw [if_pos (by simp; omega), if_neg (by simp; omega)]
                rw [Q]
                clear Q ha hb hab hm1 hm2 hc1 hc2
                go_enter Try.func41, Try.ntmps41
                go_wp2_with (go_at_call 56; (with_reducible (first | refine (HA.out _).mono ?_ | refine (HB.out _).mono ?_)); rintro _ _ ⟨rfl, rfl⟩)
                go_ret
                exact ⟨rfl, b1⟩
              · have t5 : decide (62 < c) = false := by simpa using hc2
                have Q : lnkErr nd ⟨a, b, m, c⟩ = 0 := by unfold lnkErr; rw [if_pos (by simp; omega), if_pos (by simp; omega)]
                rw [Q]
                clear Q ha hb hab hm1 hm2 hc1 hc2
                go_enter Try.func41, Try.ntmps41
                go_wp2_with (go_at_call 56; (with_reducible (first | refine (HA.out _).mono ?_ | refine (HB.out _).mono ?_)); rintro _ _ ⟨rfl, rfl⟩)
                go_ret
                exact ⟨rfl, b1⟩
    · have HB := hid (fun w => isBelow_no b nd w hb)
      have Q : lnkErr nd ⟨a, b, m, c⟩ = 4 := by unfold lnkErr; rw [if_neg (by simp; omega)]
      rw [Q]
      clear Q ha hb
      go_enter Try.func41, Try.ntmps41
      go_wp2_with (go_at_call 56; (with_reducible (first | refine (HA.out _).mono ?_ | refine (HB.out _).mono ?_)); rintro _ _ ⟨rfl, rfl⟩)
      go_ret
      exact ⟨rfl, b1⟩
  · have HA := hid (fun w => isBelow_no a nd w ha)
    have Q : lnkErr nd ⟨a, b, m, c⟩ = 4 := by unfold lnkErr; rw [if_neg (by simp; omega)]
    rw [Q]
    clear Q ha
    go_enter Try.func41, Try.ntmps41
    go_wp2_with (go_at_call 56; (with_reducible refine (HA.out _).mono ?_); rintro _ _ ⟨rfl, rfl⟩)
    go_ret
    exact ⟨rfl, b1⟩
end Go.Proofs.Ytljgoffolbplfaa
