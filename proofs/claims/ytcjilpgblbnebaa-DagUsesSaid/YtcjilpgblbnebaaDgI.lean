/- DagUses. -/
import Derived.Test.YtcjilpgblbnebaaDgF
import Derived.Test.YtcjilpgblbnebaaDgH
namespace Go.Proofs.Ytcjilpgblbnebaa
open Go.RowKit
set_option maxHeartbeats 12800000
set_option maxRecDepth 100000
theorem duses_not (h : DagSpec 10 9 12) (nd : Int) (A : Option Addr) (n c : Nat) (l : List Lnk) (Ad : Option Addr) (n' c' : Nat) (s t : Int) (w : World) (hr : RLnk w w.heap.size A n l) (hn : ¬((checkS nd l).2 = 0 ∧ n ≤ 60 ∧ n' ≤ 200 ∧ 0 ≤ s ∧ s < nd ∧ 0 ≤ t ∧ t < nd)) :
    Calls Try.prog 5 #[.agg #[.int .i64 nd, .slice A n c], .slice Ad n' c', .int .i64 s, .int .i64 t] w fun e w' => e = .returned (.bool true) ∧ Below w.heap.size w w' := by
  have HA := hid (fun (w' : World) (hh : Held w nd A n c w') => hh.calls (alive_any h w'))
  have HK := hid (fun (w' : World) (hh : Held w nd A n c w') => hh.calls (refCheck_any nd A n c l w' (hh.on hr)))
  have hS := Held.start w nd A n c
  obtain ⟨g0, g1⟩ := hS.cells
  obtain ⟨k1, hk1⟩ : ∃ k1, (checkS nd l).1 = k1 := ⟨_, rfl⟩
  obtain ⟨k2, hk2⟩ : ∃ k2, (checkS nd l).2 = k2 := ⟨_, rfl⟩
  rw [hk1, hk2] at HK
  rw [hk2] at hn
  clear h hr hk1 hk2
  by_cases c0 : k2 = 0
  · have t0 : (k2 != 0) = false := by simpa using c0
    by_cases c1 : ¬60 < n
    · have t1 : decide ((60 : Int) < (n : Int)) = false := by simp; omega
      have t1' : decide (60 < n) = false := by simp; omega
      by_cases c2 : ¬200 < n'
      · have t2 : decide ((200 : Int) < (n' : Int)) = false := by simp; omega
        have t2' : decide (200 < n') = false := by simp; omega
        by_cases c3 : ¬s < 0
        · have t3 : decide (s < 0) = false := by simp; omega
          by_cases c4 : ¬nd ≤ s
          · have t4 : decide (nd ≤ s) = false := by simp; omega
            by_cases c5 : ¬t < 0
            · have t5 : decide (t < 0) = false := by simp; omega
              by_cases c6 : ¬nd ≤ t
              · have t6 : decide (nd ≤ t) = false := by simp; omega
                exact absurd ⟨c0, by omega, by omega, by omega, by omega, by omega, by omega⟩ hn
              · have t6 : decide (nd ≤ t) = true := by simp; omega
                clear hn c0 c1 c2 c3 c4 c5 c6
                go_enter Try.func5, Try.ntmps5
                go_wp2_with (first
                  | (go_at_call 7; (with_reducible refine (HA.out _ hS).mono ?_); rintro e' w1 ⟨rfl, h1⟩; obtain ⟨g2, g3⟩ := h1.cells)
                  | (go_at_call 15; (with_reducible refine (HK.out _ h1).mono ?_); rintro e' w2 ⟨rfl, h2⟩; obtain ⟨g4, g5⟩ := h2.cells))
                go_ret
                exact ⟨rfl, h2.1⟩
            · have t5 : decide (t < 0) = true := by simp; omega
              clear hn c0 c1 c2 c3 c4 c5
              go_enter Try.func5, Try.ntmps5
              go_wp2_with (first
                | (go_at_call 7; (with_reducible refine (HA.out _ hS).mono ?_); rintro e' w1 ⟨rfl, h1⟩; obtain ⟨g2, g3⟩ := h1.cells)
                | (go_at_call 15; (with_reducible refine (HK.out _ h1).mono ?_); rintro e' w2 ⟨rfl, h2⟩; obtain ⟨g4, g5⟩ := h2.cells))
              go_ret
              exact ⟨rfl, h2.1⟩
          · have t4 : decide (nd ≤ s) = true := by simp; omega
            clear hn c0 c1 c2 c3 c4
            go_enter Try.func5, Try.ntmps5
            go_wp2_with (first
              | (go_at_call 7; (with_reducible refine (HA.out _ hS).mono ?_); rintro e' w1 ⟨rfl, h1⟩; obtain ⟨g2, g3⟩ := h1.cells)
              | (go_at_call 15; (with_reducible refine (HK.out _ h1).mono ?_); rintro e' w2 ⟨rfl, h2⟩; obtain ⟨g4, g5⟩ := h2.cells))
            go_ret
            exact ⟨rfl, h2.1⟩
        · have t3 : decide (s < 0) = true := by simp; omega
          clear hn c0 c1 c2 c3
          go_enter Try.func5, Try.ntmps5
          go_wp2_with (first
            | (go_at_call 7; (with_reducible refine (HA.out _ hS).mono ?_); rintro e' w1 ⟨rfl, h1⟩; obtain ⟨g2, g3⟩ := h1.cells)
            | (go_at_call 15; (with_reducible refine (HK.out _ h1).mono ?_); rintro e' w2 ⟨rfl, h2⟩; obtain ⟨g4, g5⟩ := h2.cells))
          go_ret
          exact ⟨rfl, h2.1⟩
      · have t2 : decide ((200 : Int) < (n' : Int)) = true := by simp; omega
        have t2' : decide (200 < n') = true := by simp; omega
        clear hn c0 c1 c2
        go_enter Try.func5, Try.ntmps5
        go_wp2_with (first
          | (go_at_call 7; (with_reducible refine (HA.out _ hS).mono ?_); rintro e' w1 ⟨rfl, h1⟩; obtain ⟨g2, g3⟩ := h1.cells)
          | (go_at_call 15; (with_reducible refine (HK.out _ h1).mono ?_); rintro e' w2 ⟨rfl, h2⟩; obtain ⟨g4, g5⟩ := h2.cells))
        go_ret
        exact ⟨rfl, h2.1⟩
    · have t1 : decide ((60 : Int) < (n : Int)) = true := by simp; omega
      have t1' : decide (60 < n) = true := by simp; omega
      clear hn c0 c1
      go_enter Try.func5, Try.ntmps5
      go_wp2_with (first
        | (go_at_call 7; (with_reducible refine (HA.out _ hS).mono ?_); rintro e' w1 ⟨rfl, h1⟩; obtain ⟨g2, g3⟩ := h1.cells)
        | (go_at_call 15; (with_reducible refine (HK.out _ h1).mono ?_); rintro e' w2 ⟨rfl, h2⟩; obtain ⟨g4, g5⟩ := h2.cells))
      go_ret
      exact ⟨rfl, h2.1⟩
  · have t0 : (k2 != 0) = true := by simpa using c0
    clear hn c0
    go_enter Try.func5, Try.ntmps5
    go_wp2_with (first
      | (go_at_call 7; (with_reducible refine (HA.out _ hS).mono ?_); rintro e' w1 ⟨rfl, h1⟩; obtain ⟨g2, g3⟩ := h1.cells)
      | (go_at_call 15; (with_reducible refine (HK.out _ h1).mono ?_); rintro e' w2 ⟨rfl, h2⟩; obtain ⟨g4, g5⟩ := h2.cells))
    go_ret
    exact ⟨rfl, h2.1⟩
end Go.Proofs.Ytcjilpgblbnebaa
