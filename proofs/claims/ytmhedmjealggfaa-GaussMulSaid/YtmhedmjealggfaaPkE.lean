import Derived.Test.YtmhedmjealggfaaPkD
namespace Go.Proofs.Ytmhedmjealggfaa
open Go.RowKit
set_option maxHeartbeats 1600000
set_option maxRecDepth 100000

theorem bytes_bad {f : FuncId} (hB : BytesSpec f) (t : Tup) (hf : t.fits) (hk : t.ok = false) (w : World) : Calls Try.prog f #[.agg #[.int .u32 t.src, .int .u32 t.dst, .int .i64 t.pro, .int .i64 t.sp, .int .i64 t.dp]] w fun e w' =>
    ∃ A c, e = .returned (.slice A 0 c) ∧ Below w.heap.size w w' := by
  refine (hB t hf w).mono fun e w' ⟨A, c, h1, _, _, h3⟩ => ⟨A, c, ?_, h3⟩
  rw [h1, bytes_no hk]; rfl
theorem limits2_out (hB : BytesSpec 11) (hR : ReadSpec 12) (n : Int) (o : Bool) (w : World) (h : n < 0 ∨ 3 < n) : Calls Try.prog 4 #[.int .i64 n, .bool o] w fun e w' => e = .returned (.bool true) ∧ Below w.heap.size w w' := by
  have HA := hid (fun w => alive2 hB hR w)
  clear hB hR
  rcases (show decide (n < 0) = true ∨ (decide (n < 0) = false ∧ decide (3 < n) = true) by simp only [decide_eq_true_eq, decide_eq_false_iff_not]; omega) with h1 | ⟨h1, h2⟩ <;>
  · clear h
    go_enter Try.func4, Try.ntmps4
    go_wp2_with (go_at_call 10; (with_reducible refine (HA.out _).mono ?_); rintro e' w1 ⟨rfl, hb1⟩)
    go_ret
    exact ⟨rfl, hb1⟩
theorem limits2_0f (hB : BytesSpec 11) (hR : ReadSpec 12) (w : World) : Calls Try.prog 4 #[.int .i64 0, .bool false] w fun e w' => e = .returned (.bool true) ∧ Below w.heap.size w w' := by
  have HA := hid (fun w => alive2 hB hR w)
  have HB := hid (fun w => bytes_ok hB ⟨0, 0, 255, 0, 0⟩ ⟨by decide, by decide, by decide, by decide⟩ (by decide) w)
  clear hB hR
  go_enter Try.func4, Try.ntmps4
  go_wp2_with (go_at_call 10; (with_reducible refine (HA.out _).mono ?_); rintro e' w1 ⟨rfl, hb1⟩)
  refine (HB.out _).mono ?_
  rintro e' w2 ⟨A, c, rfl, _, _, hb2⟩
  go_wp2_with fail
  go_ret
  exact ⟨rfl, (hb1.alloc hb1.size _).trans (hb2.mono (by have := hb1.size; simp; omega))⟩
theorem limits2_0t (hB : BytesSpec 11) (hR : ReadSpec 12) (w : World) : Calls Try.prog 4 #[.int .i64 0, .bool true] w fun e w' => e = .returned (.bool true) ∧ Below w.heap.size w w' := by
  have HA := hid (fun w => alive2 hB hR w)
  have HB := hid (fun w => bytes_bad hB ⟨0, 0, 256, 0, 0⟩ ⟨by decide, by decide, by decide, by decide⟩ (by decide) w)
  clear hB hR
  go_enter Try.func4, Try.ntmps4
  go_wp2_with (go_at_call 10; (with_reducible refine (HA.out _).mono ?_); rintro e' w1 ⟨rfl, hb1⟩)
  refine (HB.out _).mono ?_
  rintro e' w2 ⟨A, c, rfl, hb2⟩
  go_wp2_with fail
  go_ret
  exact ⟨rfl, (hb1.alloc hb1.size _).trans (hb2.mono (by have := hb1.size; simp; omega))⟩
theorem limits2_1f (hB : BytesSpec 11) (hR : ReadSpec 12) (w : World) : Calls Try.prog 4 #[.int .i64 1, .bool false] w fun e w' => e = .returned (.bool true) ∧ Below w.heap.size w w' := by
  have HA := hid (fun w => alive2 hB hR w)
  have HB := hid (fun w => bytes_ok hB ⟨0, 0, 0, 65535, 0⟩ ⟨by decide, by decide, by decide, by decide⟩ (by decide) w)
  clear hB hR
  go_enter Try.func4, Try.ntmps4
  go_wp2_with (go_at_call 10; (with_reducible refine (HA.out _).mono ?_); rintro e' w1 ⟨rfl, hb1⟩)
  refine (HB.out _).mono ?_
  rintro e' w2 ⟨A, c, rfl, _, _, hb2⟩
  go_wp2_with fail
  go_ret
  exact ⟨rfl, (hb1.alloc hb1.size _).trans (hb2.mono (by have := hb1.size; simp; omega))⟩
theorem limits2_1t (hB : BytesSpec 11) (hR : ReadSpec 12) (w : World) : Calls Try.prog 4 #[.int .i64 1, .bool true] w fun e w' => e = .returned (.bool true) ∧ Below w.heap.size w w' := by
  have HA := hid (fun w => alive2 hB hR w)
  have HB := hid (fun w => bytes_bad hB ⟨0, 0, 0, 65536, 0⟩ ⟨by decide, by decide, by decide, by decide⟩ (by decide) w)
  clear hB hR
  go_enter Try.func4, Try.ntmps4
  go_wp2_with (go_at_call 10; (with_reducible refine (HA.out _).mono ?_); rintro e' w1 ⟨rfl, hb1⟩)
  refine (HB.out _).mono ?_
  rintro e' w2 ⟨A, c, rfl, hb2⟩
  go_wp2_with fail
  go_ret
  exact ⟨rfl, (hb1.alloc hb1.size _).trans (hb2.mono (by have := hb1.size; simp; omega))⟩
theorem limits2_2f (hB : BytesSpec 11) (hR : ReadSpec 12) (w : World) : Calls Try.prog 4 #[.int .i64 2, .bool false] w fun e w' => e = .returned (.bool true) ∧ Below w.heap.size w w' := by
  have HA := hid (fun w => alive2 hB hR w)
  have HB := hid (fun w => bytes_ok hB ⟨0, 0, 0, 0, 65535⟩ ⟨by decide, by decide, by decide, by decide⟩ (by decide) w)
  clear hB hR
  go_enter Try.func4, Try.ntmps4
  go_wp2_with (go_at_call 10; (with_reducible refine (HA.out _).mono ?_); rintro e' w1 ⟨rfl, hb1⟩)
  refine (HB.out _).mono ?_
  rintro e' w2 ⟨A, c, rfl, _, _, hb2⟩
  go_wp2_with fail
  go_ret
  exact ⟨rfl, (hb1.alloc hb1.size _).trans (hb2.mono (by have := hb1.size; simp; omega))⟩
theorem limits2_2t (hB : BytesSpec 11) (hR : ReadSpec 12) (w : World) : Calls Try.prog 4 #[.int .i64 2, .bool true] w fun e w' => e = .returned (.bool true) ∧ Below w.heap.size w w' := by
  have HA := hid (fun w => alive2 hB hR w)
  have HB := hid (fun w => bytes_bad hB ⟨0, 0, 0, 0, 65536⟩ ⟨by decide, by decide, by decide, by decide⟩ (by decide) w)
  clear hB hR
  go_enter Try.func4, Try.ntmps4
  go_wp2_with (go_at_call 10; (with_reducible refine (HA.out _).mono ?_); rintro e' w1 ⟨rfl, hb1⟩)
  refine (HB.out _).mono ?_
  rintro e' w2 ⟨A, c, rfl, hb2⟩
  go_wp2_with fail
  go_ret
  exact ⟨rfl, (hb1.alloc hb1.size _).trans (hb2.mono (by have := hb1.size; simp; omega))⟩
theorem limits2_3f (hB : BytesSpec 11) (hR : ReadSpec 12) (w : World) : Calls Try.prog 4 #[.int .i64 3, .bool false] w fun e w' => e = .returned (.bool true) ∧ Below w.heap.size w w' := by
  have HA := hid (fun w => alive2 hB hR w)
  have HB := hid (fun w => bytes_ok hB ⟨0, 0, 0, 0, 0⟩ ⟨by decide, by decide, by decide, by decide⟩ (by decide) w)
  clear hB hR
  go_enter Try.func4, Try.ntmps4
  go_wp2_with (go_at_call 10; (with_reducible refine (HA.out _).mono ?_); rintro e' w1 ⟨rfl, hb1⟩)
  refine (HB.out _).mono ?_
  rintro e' w2 ⟨A, c, rfl, _, _, hb2⟩
  go_wp2_with fail
  go_ret
  exact ⟨rfl, (hb1.alloc hb1.size _).trans (hb2.mono (by have := hb1.size; simp; omega))⟩
theorem limits2_3t (hB : BytesSpec 11) (hR : ReadSpec 12) (w : World) : Calls Try.prog 4 #[.int .i64 3, .bool true] w fun e w' => e = .returned (.bool true) ∧ Below w.heap.size w w' := by
  have HA := hid (fun w => alive2 hB hR w)
  have HB := hid (fun w => bytes_bad hB ⟨0, 0, -1, 0, 0⟩ ⟨by decide, by decide, by decide, by decide⟩ (by decide) w)
  clear hB hR
  go_enter Try.func4, Try.ntmps4
  go_wp2_with (go_at_call 10; (with_reducible refine (HA.out _).mono ?_); rintro e' w1 ⟨rfl, hb1⟩)
  refine (HB.out _).mono ?_
  rintro e' w2 ⟨A, c, rfl, hb2⟩
  go_wp2_with fail
  go_ret
  exact ⟨rfl, (hb1.alloc hb1.size _).trans (hb2.mono (by have := hb1.size; simp; omega))⟩
theorem limits2_any (hB : BytesSpec 11) (hR : ReadSpec 12) (n : Int) (o : Bool) (w : World) : Calls Try.prog 4 #[.int .i64 n, .bool o] w fun e w' => e = .returned (.bool true) ∧ Below w.heap.size w w' := by
  by_cases h : n < 0 ∨ 3 < n
  · exact limits2_out hB hR n o w h
  · rcases (show n = 0 ∨ n = 1 ∨ n = 2 ∨ n = 3 by omega) with rfl | rfl | rfl | rfl <;> cases o
    · exact limits2_0f hB hR w
    · exact limits2_0t hB hR w
    · exact limits2_1f hB hR w
    · exact limits2_1t hB hR w
    · exact limits2_2f hB hR w
    · exact limits2_2t hB hR w
    · exact limits2_3f hB hR w
    · exact limits2_3t hB hR w
end Go.Proofs.Ytmhedmjealggfaa
