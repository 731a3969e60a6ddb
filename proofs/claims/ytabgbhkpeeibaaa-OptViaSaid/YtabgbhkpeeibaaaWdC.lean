/- Words without a type of the program, continued: an argument's range. -/
import Derived.Test.YtabgbhkpeeibaaaWdB
namespace Go.Proofs.Ytabgbhkpeeibaaa
open Go.RowKit
theorem wf_i64 {a : Int} (h : (Lit.int .i64 a).wf = true) : -9223372036854775808 ≤ a ∧ a ≤ 9223372036854775807 := by
  simp only [Lit.wf, Bool.and_eq_true, decide_eq_true_eq] at h
  have h1 : IntKind.i64.min = -9223372036854775808 := rfl
  have h2 : IntKind.i64.max = 9223372036854775807 := rfl
  rw [h1, h2] at h
  exact h
end Go.Proofs.Ytabgbhkpeeibaaa
