/- GraphLimits. -/
import Derived.Test.YtljgoffolbplfaaGrH
namespace Go.Proofs.Ytljgoffolbplfaa
open Go.RowKit
set_option maxHeartbeats 6400000
set_option maxRecDepth 100000
theorem rlnk_block {w : World} {b : Nat} {x : Lnk} (h : w.heap[b]? = some (.cells #[.int .i64 x.a, .int .i64 x.b, .int .i64 x.m, .int .i64 x.c] 41 (0, 0))) : RLnk w w.heap.size (some ⟨b, 0, none⟩) 1 [x] := by
  have hlt : b < w.heap.size := by
    rcases Nat.lt_or_ge b w.heap.size with h1 | h1
    · exact h1
    · rw [Array.getElem?_eq_none h1] at h; cases h
  refine ⟨rfl, fun _ => ⟨b, 0, rfl, hlt, fun i e he => ?_⟩⟩
  have hi : i = 0 := by
    have := (List.getElem?_eq_some_iff.1 he).1
    simp at this; omega
  subst hi
  simp at he
  subst he
  refine ⟨?_, ?_, ?_, ?_⟩ <;> (rw [cell_of_row _ _ _ _ _ _ h]; rfl)
theorem limits_out (i : Int) (o : Bool) (w : World) (h : i < 0 ∨ 4 < i) : Calls Try.prog 5 #[.int .i64 i, .bool o] w fun e w' => e = .returned (.bool true) ∧ Below w.heap.size w w' := by
  by_cases h1 : i < 0
  · have t1 : decide (i < 0) = true := by simpa using h1
    clear h h1
    go_enter Try.func5, Try.ntmps5
    go_wp2_with (go_at_call 14; (with_reducible refine (alive_any _).mono ?_); rintro e' w1 ⟨rfl, hb1⟩)
    go_ret
    exact ⟨rfl, hb1⟩
  · have t1 : decide (i < 0) = false := by simpa using h1
    have t2 : decide (4 < i) = true := by simp; omega
    clear h h1
    go_enter Try.func5, Try.ntmps5
    go_wp2_with (go_at_call 14; (with_reducible refine (alive_any _).mono ?_); rintro e' w1 ⟨rfl, hb1⟩)
    go_ret
    exact ⟨rfl, hb1⟩
theorem check_lim (w1 : World) (nd a b m c k e : Int) (hq : checkS nd [⟨a, b, m, c⟩] = (k, e)) :
    Calls Try.prog 15 #[.agg #[.int .i64 nd, .slice (some ⟨w1.heap.size, 0, none⟩) 1 1]] ((w1.alloc (.cells #[.int .i64 a, .int .i64 b, .int .i64 m, .int .i64 c] 41)).alloc (.cells #[.int .i64 nd, .slice (some ⟨w1.heap.size, 0, none⟩) 1 1] 24))
      fun e' w' => e' = .returned (.tuple #[.int .i64 k, .int .i64 e]) ∧ Below w1.heap.size w1 w' := by
  have h1 := heap_alloc_new w1 (.cells #[.int .i64 a, .int .i64 b, .int .i64 m, .int .i64 c] 41)
  have hb0 : Below w1.heap.size w1 (w1.alloc (.cells #[.int .i64 a, .int .i64 b, .int .i64 m, .int .i64 c] 41)) := Below.alloc (Below.refl _ _) (Nat.le_refl _) _
  have hb1 : Below w1.heap.size w1 ((w1.alloc (.cells #[.int .i64 a, .int .i64 b, .int .i64 m, .int .i64 c] 41)).alloc (.cells #[.int .i64 nd, .slice (some ⟨w1.heap.size, 0, none⟩) 1 1] 24)) := hb0.alloc hb0.size _
  have h2 := box_below h1 (Below.alloc (Below.refl (w1.heap.size + 1) (w1.alloc (.cells #[.int .i64 a, .int .i64 b, .int .i64 m, .int .i64 c] 41))) (by simp) (.cells #[.int .i64 nd, .slice (some ⟨w1.heap.size, 0, none⟩) 1 1] 24)) (by omega)
  refine (check_any nd _ 1 1 [⟨a, b, m, c⟩] _ (rlnk_block h2)).mono ?_
  rintro e' w' ⟨rfl, hb⟩
  rw [hq]
  exact ⟨rfl, hb1.trans (hb.mono hb1.size)⟩
theorem limits_0f (w : World) : Calls Try.prog 5 #[.int .i64 0, .bool false] w fun e w' => e = .returned (.bool true) ∧ Below w.heap.size w w' := by
  have HK := hid (fun (w1 : World) => check_lim w1 40 0 1 1 0 (-1) 0 (by decide))
  have HN := hid (fun (k : Int) (w1 : World) => num_any k w1)
  go_enter Try.func5, Try.ntmps5
  go_wp2_with (first
    | (go_at_call 14; (with_reducible refine (alive_any _).mono ?_); rintro e' w1 ⟨rfl, hb1⟩)
    | (go_at_call 15; (with_reducible refine (HK.out w1).mono ?_); rintro e' w2 ⟨rfl, hb2⟩)
    | (go_at_call 19; (with_reducible refine (HN.out _ _).mono ?_); rintro _ _ ⟨rfl, rfl⟩))
  go_ret
  exact ⟨rfl, hb1.trans (hb2.mono hb1.size)⟩
theorem limits_0t (w : World) : Calls Try.prog 5 #[.int .i64 0, .bool true] w fun e w' => e = .returned (.bool true) ∧ Below w.heap.size w w' := by
  have HK := hid (fun (w1 : World) => check_lim w1 41 0 1 1 0 (-1) 1 (by decide))
  have HN := hid (fun (k : Int) (w1 : World) => num_any k w1)
  go_enter Try.func5, Try.ntmps5
  go_wp2_with (first
    | (go_at_call 14; (with_reducible refine (alive_any _).mono ?_); rintro e' w1 ⟨rfl, hb1⟩)
    | (go_at_call 15; (with_reducible refine (HK.out w1).mono ?_); rintro e' w2 ⟨rfl, hb2⟩)
    | (go_at_call 19; (with_reducible refine (HN.out _ _).mono ?_); rintro _ _ ⟨rfl, rfl⟩))
  go_ret
  exact ⟨rfl, hb1.trans (hb2.mono hb1.size)⟩
theorem limits_2f (w : World) : Calls Try.prog 5 #[.int .i64 2, .bool false] w fun e w' => e = .returned (.bool true) ∧ Below w.heap.size w w' := by
  have HK := hid (fun (w1 : World) => check_lim w1 2 0 1 16777216 0 (-1) 0 (by decide))
  have HN := hid (fun (k : Int) (w1 : World) => num_any k w1)
  go_enter Try.func5, Try.ntmps5
  go_wp2_with (first
    | (go_at_call 14; (with_reducible refine (alive_any _).mono ?_); rintro e' w1 ⟨rfl, hb1⟩)
    | (go_at_call 15; (with_reducible refine (HK.out w1).mono ?_); rintro e' w2 ⟨rfl, hb2⟩)
    | (go_at_call 19; (with_reducible refine (HN.out _ _).mono ?_); rintro _ _ ⟨rfl, rfl⟩))
  go_ret
  exact ⟨rfl, hb1.trans (hb2.mono hb1.size)⟩
theorem limits_2t (w : World) : Calls Try.prog 5 #[.int .i64 2, .bool true] w fun e w' => e = .returned (.bool true) ∧ Below w.heap.size w w' := by
  have HK := hid (fun (w1 : World) => check_lim w1 2 0 1 16777217 0 0 1 (by decide))
  have HN := hid (fun (k : Int) (w1 : World) => num_any k w1)
  go_enter Try.func5, Try.ntmps5
  go_wp2_with (first
    | (go_at_call 14; (with_reducible refine (alive_any _).mono ?_); rintro e' w1 ⟨rfl, hb1⟩)
    | (go_at_call 15; (with_reducible refine (HK.out w1).mono ?_); rintro e' w2 ⟨rfl, hb2⟩)
    | (go_at_call 19; (with_reducible refine (HN.out _ _).mono ?_); rintro _ _ ⟨rfl, rfl⟩))
  go_ret
  exact ⟨rfl, hb1.trans (hb2.mono hb1.size)⟩
theorem limits_3f (w : World) : Calls Try.prog 5 #[.int .i64 3, .bool false] w fun e w' => e = .returned (.bool true) ∧ Below w.heap.size w w' := by
  have HK := hid (fun (w1 : World) => check_lim w1 2 0 1 1 62 (-1) 0 (by decide))
  have HN := hid (fun (k : Int) (w1 : World) => num_any k w1)
  go_enter Try.func5, Try.ntmps5
  go_wp2_with (first
    | (go_at_call 14; (with_reducible refine (alive_any _).mono ?_); rintro e' w1 ⟨rfl, hb1⟩)
    | (go_at_call 15; (with_reducible refine (HK.out w1).mono ?_); rintro e' w2 ⟨rfl, hb2⟩)
    | (go_at_call 19; (with_reducible refine (HN.out _ _).mono ?_); rintro _ _ ⟨rfl, rfl⟩))
  go_ret
  exact ⟨rfl, hb1.trans (hb2.mono hb1.size)⟩
theorem limits_3t (w : World) : Calls Try.prog 5 #[.int .i64 3, .bool true] w fun e w' => e = .returned (.bool true) ∧ Below w.heap.size w w' := by
  have HK := hid (fun (w1 : World) => check_lim w1 2 0 1 1 63 0 1 (by decide))
  have HN := hid (fun (k : Int) (w1 : World) => num_any k w1)
  go_enter Try.func5, Try.ntmps5
  go_wp2_with (first
    | (go_at_call 14; (with_reducible refine (alive_any _).mono ?_); rintro e' w1 ⟨rfl, hb1⟩)
    | (go_at_call 15; (with_reducible refine (HK.out w1).mono ?_); rintro e' w2 ⟨rfl, hb2⟩)
    | (go_at_call 19; (with_reducible refine (HN.out _ _).mono ?_); rintro _ _ ⟨rfl, rfl⟩))
  go_ret
  exact ⟨rfl, hb1.trans (hb2.mono hb1.size)⟩
theorem limits_4f (w : World) : Calls Try.prog 5 #[.int .i64 4, .bool false] w fun e w' => e = .returned (.bool true) ∧ Below w.heap.size w w' := by
  have HK := hid (fun (w1 : World) => check_lim w1 2 0 1 1 0 (-1) 0 (by decide))
  have HN := hid (fun (k : Int) (w1 : World) => num_any k w1)
  go_enter Try.func5, Try.ntmps5
  go_wp2_with (first
    | (go_at_call 14; (with_reducible refine (alive_any _).mono ?_); rintro e' w1 ⟨rfl, hb1⟩)
    | (go_at_call 15; (with_reducible refine (HK.out w1).mono ?_); rintro e' w2 ⟨rfl, hb2⟩)
    | (go_at_call 19; (with_reducible refine (HN.out _ _).mono ?_); rintro _ _ ⟨rfl, rfl⟩))
  go_ret
  exact ⟨rfl, hb1.trans (hb2.mono hb1.size)⟩
theorem limits_4t (w : World) : Calls Try.prog 5 #[.int .i64 4, .bool true] w fun e w' => e = .returned (.bool true) ∧ Below w.heap.size w w' := by
  have HK := hid (fun (w1 : World) => check_lim w1 2 0 1 0 0 0 1 (by decide))
  have HN := hid (fun (k : Int) (w1 : World) => num_any k w1)
  go_enter Try.func5, Try.ntmps5
  go_wp2_with (first
    | (go_at_call 14; (with_reducible refine (alive_any _).mono ?_); rintro e' w1 ⟨rfl, hb1⟩)
    | (go_at_call 15; (with_reducible refine (HK.out w1).mono ?_); rintro e' w2 ⟨rfl, hb2⟩)
    | (go_at_call 19; (with_reducible refine (HN.out _ _).mono ?_); rintro _ _ ⟨rfl, rfl⟩))
  go_ret
  exact ⟨rfl, hb1.trans (hb2.mono hb1.size)⟩
end Go.Proofs.Ytljgoffolbplfaa
