/- waymarkref1.Ends, Out, SameInts. -/
import Derived.Test.YthoblabimkfjpaaWgC
namespace Go.Proofs.Ythoblabimkfjpaa
open Go.RowKit
set_option maxHeartbeats 6400000
set_option maxRecDepth 100000
theorem same_any (A A' : Option Addr) (n c c' : Nat) (l : List Int) (w : World) (hr : RInt w w.heap.size A n l) (hr' : RInt w w.heap.size A' n l) (hn : n ≤ 1000000) :
    Calls Try.prog 57 #[.slice A n c, .slice A' n c'] w fun e w' => e = .returned (.bool true) ∧ Below w.heap.size w w' := by
  have HR := hid hr
  have HR' := hid hr'
  have hl := hr.1
  have t0 : ((n : Int) != (n : Int)) = false := by simp
  clear hr hr'
  go_enter Try.func57, Try.ntmps57
  go_wp2_with fail
  go_loopw [5] (fun i wr => ∃ (k : Nat), k ≤ n ∧ i = .int .i64 k ∧ Below w.heap.size w wr) (fun i _ => n - (intOf i).toNat)
  case atStart => exact ⟨0, Nat.zero_le _, rfl, Below.refl _ _⟩
  case round =>
    obtain ⟨k, hk, rfl, hbel⟩ := hrel
    by_cases hlt : k < n
    · obtain ⟨x, hx⟩ : ∃ x, l[k]? = some x := ⟨l[k]'(by omega), List.getElem?_eq_getElem _⟩
      obtain ⟨b, off, rfl, hb, hc⟩ := (HR.out.below hbel).2 (by omega)
      obtain ⟨b', off', rfl, hb', hc'⟩ := (HR'.out.below hbel).2 (by omega)
      have c0 := hc k x hx
      have d0 := hc' k x hx
      have t1 : (x != x) = false := by simp
      clear hc hc' hx
      go_wp2_with (go_big_quiet (fail))
      go_roundw
      case rel => exact ⟨k + 1, by omega, by go_num, below_drewN hbel⟩
      case measure => simp [intOf]; omega
    · obtain rfl : k = n := by omega
      go_wp2_with fail
      go_ret
      exact ⟨rfl, hbel⟩
end Go.Proofs.Ythoblabimkfjpaa
