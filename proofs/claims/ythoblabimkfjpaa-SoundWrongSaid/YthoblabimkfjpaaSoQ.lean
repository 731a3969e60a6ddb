/- SoundWrong, every input. -/
import Derived.Test.YthoblabimkfjpaaSoN
import Derived.Test.YthoblabimkfjpaaSoP
namespace Go.Proofs.Ythoblabimkfjpaa
open Go.RowKit
set_option maxHeartbeats 6400000
set_option maxRecDepth 100000
theorem swrong_any (h : SoundSpec 16 20) (x y : Int) (w : World) : Calls Try.prog 6 #[.int .i64 x, .int .i64 y] w fun e w' => e = .returned (.bool true) ∧ Below w.heap.size w w' := by
  by_cases hx : 0 ≤ x ∧ x < 10 ∧ 0 ≤ y ∧ y < 5
  · obtain ⟨k, rfl⟩ := Int.eq_ofNat_of_zero_le hx.1
    obtain ⟨j, rfl⟩ := Int.eq_ofNat_of_zero_le hx.2.2.1
    by_cases hk : k < 5
    · exact swrong_SoN h _ k j (by omega) rfl (by omega) (by omega) hk w
    · exact swrong_SoP h _ k j (by omega) rfl (by omega) (by omega) (by omega) w
  · have HA := hid (alive14 h w)
    rcases (show decide (x < 0) = true ∨ (decide (x < 0) = false ∧ decide ((9 : Int) < x) = true) ∨ (decide (x < 0) = false ∧ decide ((9 : Int) < x) = false ∧ decide (y < 0) = true) ∨ (decide (x < 0) = false ∧ decide ((9 : Int) < x) = false ∧ decide (y < 0) = false ∧ decide ((4 : Int) < y) = true) by simp only [decide_eq_true_eq, decide_eq_false_iff_not]; omega) with t1 | ⟨t1, t2⟩ | ⟨t1, t2, t3⟩ | ⟨t1, t2, t3, t4⟩ <;>
    · clear h hx
      go_enter Try.func6, Try.ntmps6
      go_wp2_with (first
        | (go_at_call 14; (with_reducible refine HA.out.mono ?_); rintro e' w1 ⟨rfl, hb1⟩))
      go_ret
      exact ⟨rfl, hb1⟩
end Go.Proofs.Ythoblabimkfjpaa
