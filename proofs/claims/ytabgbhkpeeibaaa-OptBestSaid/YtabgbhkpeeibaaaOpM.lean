/- What laws of opt use. -/
import Derived.Test.YtabgbhkpeeibaaaOpK
import Derived.Deep.DeepCutAuto
import Derived.Deep.CutBlock
namespace Go.Proofs.Ytabgbhkpeeibaaa
open Go.RowKit
set_option maxHeartbeats 64000000
set_option maxRecDepth 100000
theorem run_more {v u : Int} {p : List Int} {j : Nat} (hj : j ≤ runN v p) (hu : p[j]? = some u) : (u = v → j + 1 ≤ runN v p) ∧ (u ≠ v → runN v p = j) := by
  constructor
  · rintro rfl
    rcases Nat.lt_or_ge j (runN u p) with h | h
    · exact h
    · obtain rfl : j = runN u p := by omega
      exact absurd rfl (runN_end hu)
  · intro h
    rcases Nat.lt_or_ge j (runN v p) with h3 | h3
    · have h4 := runN_at h3
      rw [hu] at h4
      exact absurd (Option.some.inj h4) h
    · omega
theorem run_all {v : Int} {p : List Int} {j : Nat} (hj : j ≤ runN v p) (h : p.length ≤ j) : runN v p = j := by
  have := runN_le v p
  omega
theorem goW_start {l : List Lnk} {gn : List Bool} {P es : List Int} {f : Int} {k : Nat} : Hid (goW l gn P es f k = (goW l gn P (es.drop 0) f k).map (fun q => (q.1, q.2.1, (0 : Int) + q.2.2))) := by
  show _ = _
  rw [List.drop_zero]
  cases goW l gn P es f k <;> simp
theorem met_top {nd : Int} {l : List Lnk} {K : Nat} (hck : (checkS nd l).2 = 0) (hK : K < 2 * l.length) : met l K ≤ 16777216 := by
  obtain ⟨hl, h1, h2, hc⟩ := checkS_ok hck
  obtain ⟨N, rfl⟩ := Int.eq_ofNat_of_zero_le (show 0 ≤ nd by omega)
  obtain ⟨a, b, xx, -, -, -, -, hm, -, -, -, -, hm1⟩ := edge_facts (gok_of hck) hK
  omega
theorem path_end {w8 : World} {B n m c : Nat} {D : Option Addr} {v : List Int} {t : Int} (ho : w8.ownsRow B 3 1 (.slice D (0 + n + 1) c) (0 + n + 1) ([] ++ icells v ++ icells [t])) (hv : v.length = n) (hm : 0 + n + 1 = m) : RInt w8 w8.heap.size D m (v ++ [t]) := by
  have e1 : [] ++ icells v ++ icells [t] = icells (v ++ [t]) := by simp [icells]
  rw [e1] at ho
  obtain ⟨A', c', he, _, hr⟩ := own_ints ho (by simp; omega)
  cases he
  rw [hm] at hr
  exact hr
end Go.Proofs.Ytabgbhkpeeibaaa
