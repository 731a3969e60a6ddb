/- SameSegs of rows that are the same. -/
import Derived.Test.YtjblhajmnlcfaaaSgA
import Derived.BigQuiet
namespace Go.Proofs.Ytjblhajmnlcfaaa
open Go.RowKit
set_option maxHeartbeats 6400000
set_option maxRecDepth 100000
theorem sameSegs_any (A A' : Option Addr) (n c c' : Nat) (l : List Sg) (w : World) (h : RSeg w w.heap.size A n l) (h' : RSeg w w.heap.size A' n l) (hn : n * 16 ≤ 140737488355328) :
    Calls Try.prog 14 #[.slice A n c, .slice A' n c'] w fun e w' => e = .returned (.bool true) ∧ Below w.heap.size w w' := by
  have H1 := hid h
  have H2 := hid h'
  have t0 : ((n : Int) != (n : Int)) = false := by simp
  clear h h'
  go_enter Try.func14, Try.ntmps14
  go_wp2_with fail
  go_loopw [5] (fun iv wr => ∃ k : Nat, k ≤ n ∧ iv = .int .i64 k ∧ Hid (Below w.heap.size w wr)) (fun iv _ => n - (intOf iv).toNat)
  case atStart => exact ⟨0, Nat.zero_le _, rfl, Below.refl _ _⟩
  case round =>
    obtain ⟨k, hk, rfl, HB⟩ := hrel
    by_cases hlt : k < n
    · obtain ⟨s, hs⟩ : ∃ s, l[k]? = some s := ⟨l[k]'(by rw [H1.out.1]; exact hlt), List.getElem?_eq_getElem _⟩
      obtain ⟨b, off, rfl, hbl, hc⟩ := H1.out.2 (by omega)
      obtain ⟨b', off', rfl, hbl', hc'⟩ := H2.out.2 (by omega)
      have c0 := (HB.out.cell (p := ⟨b, off + k * 2, none⟩) hbl).trans (hc k s hs).1
      have c1 := (HB.out.cell (p := ⟨b, off + k * 2 + 1, none⟩) hbl).trans (hc k s hs).2
      have d0 := (HB.out.cell (p := ⟨b', off' + k * 2, none⟩) hbl').trans (hc' k s hs).1
      have d1 := (HB.out.cell (p := ⟨b', off' + k * 2 + 1, none⟩) hbl').trans (hc' k s hs).2
      have hne : ∀ W : World, (binOp .neq 26 (.agg #[.bool s.edge, .int .i64 s.too]) (.agg #[.bool s.edge, .int .i64 s.too])).run Try.prog W = .ok (.bool false) W := fun W => by rw [seg_ne]; simp
      have t1 : decide ((k : Int) < (n : Int)) = true := decide_eq_true (by omega)
      have t2 : decide (k < n) = true := decide_eq_true hlt
      have i0 : (0 : Int) ≤ (k : Int) := by omega
      have i1 : (k : Int) < (n : Int) := by omega
      have ewk : IntKind.i64.wrap ((k : Int) + 1) = (k : Int) + 1 := by rw [IntKind.wrap_i64]; omega
      obtain ⟨se, hse⟩ : ∃ se, s.edge = se := ⟨_, rfl⟩
      obtain ⟨st, hst⟩ : ∃ st, s.too = st := ⟨_, rfl⟩
      rw [hse] at c0 d0 hne
      rw [hst] at c1 d1 hne
      clear hs hc hc' hse hst
      go_wp2_with fail
      go_big_quiet (fail)
      go_wp2_with fail
      go_roundw
      case rel => exact ⟨k + 1, by omega, by go_num, ⟨HB.out.os, HB.out.tape, HB.out.output, HB.out.size, HB.out.block⟩⟩
      case measure => simp [intOf]; omega
    · obtain rfl : k = n := by omega
      have t1 : decide ((k : Int) < (k : Int)) = false := decide_eq_false (by omega)
      have t2 : decide (k < k) = false := decide_eq_false (by omega)
      go_wp2_with fail
      go_ret
      exact ⟨rfl, HB.out⟩
end Go.Proofs.Ytjblhajmnlcfaaa
