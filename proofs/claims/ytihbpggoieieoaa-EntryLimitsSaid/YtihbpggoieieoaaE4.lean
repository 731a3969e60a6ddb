import Derived.Test.YtihbpggoieieoaaK
namespace Go.Proofs.Ytihbpggoieieoaa
open Go.RowKit
set_option maxHeartbeats 1600000
set_option maxRecDepth 100000

theorem put_at_yes (w : World) (l : List Ent) (cs : Array Value) (h : cs = (flat l).toArray) (k o : Nat) (ho : o = k * 4) (e : Ent) (he : l[k]? = some e) (c : Nat) (hs : isStk [e] = true) :
    Calls Try.prog 8 #[.slice (some ⟨w.heap.size, o, none⟩) 1 c] (w.alloc (.cells cs 38)) fun e w' => ∃ A c', e = .returned (.tuple #[.slice A 4 c', .int .i64 0]) ∧ Below w.heap.size w w' := by
  subst ho
  have hr := (new_ent (w := w) h)
  have hk : k < l.length := (List.getElem?_eq_some_iff.1 he).1
  have hr' : REnt (w.alloc (.cells cs 38)) (w.alloc (.cells cs 38)).heap.size (some ⟨w.heap.size, k * 4, none⟩) 1 [e] := by
    obtain ⟨b, off, h1, h2, h3⟩ := hr.2 (by omega)
    simp only [Option.some.injEq, Addr.mk.injEq] at h1
    obtain ⟨rfl, rfl, _⟩ := h1
    refine ⟨rfl, fun _ => ⟨_, _, rfl, h2, fun i e' he' => ?_⟩⟩
    cases i with
    | succ i => simp at he'
    | zero =>
      simp at he'; subst he'
      have := h3 k e he
      simpa using this
  refine (putA_yes hs (put_all _ 1 c [e] _ hr')).mono fun e w' ⟨A, c, h1, _, h2⟩ => ⟨A, c, h1, ?_⟩
  exact ((Below.refl _ w).alloc (Nat.le_refl _) _).trans (h2.mono (by simp))
theorem put_at_no (w : World) (l : List Ent) (cs : Array Value) (h : cs = (flat l).toArray) (k o : Nat) (ho : o = k * 4) (e : Ent) (he : l[k]? = some e) (c : Nat) (hs : isStk [e] = false) :
    Calls Try.prog 8 #[.slice (some ⟨w.heap.size, o, none⟩) 1 c] (w.alloc (.cells cs 38)) fun e w' => e = .returned (.tuple #[.slice none 0 0, .int .i64 1]) ∧ Below w.heap.size w w' := by
  subst ho
  have hr := (new_ent (w := w) h)
  have hk : k < l.length := (List.getElem?_eq_some_iff.1 he).1
  have hr' : REnt (w.alloc (.cells cs 38)) (w.alloc (.cells cs 38)).heap.size (some ⟨w.heap.size, k * 4, none⟩) 1 [e] := by
    obtain ⟨b, off, h1, h2, h3⟩ := hr.2 (by omega)
    simp only [Option.some.injEq, Addr.mk.injEq] at h1
    obtain ⟨rfl, rfl, _⟩ := h1
    refine ⟨rfl, fun _ => ⟨_, _, rfl, h2, fun i e' he' => ?_⟩⟩
    cases i with
    | succ i => simp at he'
    | zero =>
      simp at he'; subst he'
      have := h3 k e he
      simpa using this
  refine (putA_no hs (put_all _ 1 c [e] _ hr')).mono fun e w' ⟨h1, h2⟩ => ⟨h1, ?_⟩
  exact ((Below.refl _ w).alloc (Nat.le_refl _) _).trans (h2.mono (by simp))

theorem limits_out (n : Int) (o : Bool) (w : World) (h : n < 0 ∨ 3 < n) : Calls Try.prog 4 #[.int .i64 n, .bool o] w fun e w' => e = .returned (.bool true) ∧ Below w.heap.size w w' := by
  rcases h with h | h
  · have t : decide (n < 0) = true := by simpa using h
    go_enter Try.func4, Try.ntmps4
    go_wp2_with (go_at_call 7; (with_reducible refine (alive_any _).mono ?_); rintro e' w1 ⟨rfl, hb1⟩)
    go_ret
    exact ⟨rfl, hb1⟩
  · have t : decide (n < 0) = false := by simp; omega
    have t' : decide (3 < n) = true := by simpa using h
    go_enter Try.func4, Try.ntmps4
    go_wp2_with (go_at_call 7; (with_reducible refine (alive_any _).mono ?_); rintro e' w1 ⟨rfl, hb1⟩)
    go_ret
    exact ⟨rfl, hb1⟩
def l4 (n : Int) : List Ent := [⟨1048575 + n, 0, 0, true⟩, ⟨0, 7 + n, 0, true⟩, ⟨0, 0, 255 + n, true⟩, ⟨-n, 0, 0, true⟩]
theorem limits_0f (w : World) : Calls Try.prog 4 #[.int .i64 0, .bool false] w fun e w' => e = .returned (.bool true) ∧ Below w.heap.size w w' := by
  go_enter Try.func4, Try.ntmps4
  go_wp2_with (go_at_call 7; (with_reducible refine (alive_any _).mono ?_); rintro e' w1 ⟨rfl, hb1⟩)
  refine (put_at_yes _ (l4 0) _ rfl 0 0 rfl _ rfl _ (by decide)).mono ?_
  rintro e' w2 ⟨A, c, rfl, hb2⟩
  go_wp2_with (go_at_call 12; (with_reducible refine (num_any _ _).mono ?_); rintro e' w3 ⟨rfl, rfl⟩)
  go_ret
  exact ⟨rfl, hb1.trans (hb2.mono hb1.size)⟩
theorem limits_0t (w : World) : Calls Try.prog 4 #[.int .i64 0, .bool true] w fun e w' => e = .returned (.bool true) ∧ Below w.heap.size w w' := by
  go_enter Try.func4, Try.ntmps4
  go_wp2_with (go_at_call 7; (with_reducible refine (alive_any _).mono ?_); rintro e' w1 ⟨rfl, hb1⟩)
  refine (put_at_no _ (l4 1) _ rfl 0 0 rfl _ rfl _ (by decide)).mono ?_
  rintro e' w2 ⟨rfl, hb2⟩
  go_wp2_with (go_at_call 12; (with_reducible refine (num_any _ _).mono ?_); rintro e' w3 ⟨rfl, rfl⟩)
  go_ret
  exact ⟨rfl, hb1.trans (hb2.mono hb1.size)⟩
theorem limits_1f (w : World) : Calls Try.prog 4 #[.int .i64 1, .bool false] w fun e w' => e = .returned (.bool true) ∧ Below w.heap.size w w' := by
  go_enter Try.func4, Try.ntmps4
  go_wp2_with (go_at_call 7; (with_reducible refine (alive_any _).mono ?_); rintro e' w1 ⟨rfl, hb1⟩)
  refine (put_at_yes _ (l4 0) _ rfl 1 4 rfl _ rfl _ (by decide)).mono ?_
  rintro e' w2 ⟨A, c, rfl, hb2⟩
  go_wp2_with (go_at_call 12; (with_reducible refine (num_any _ _).mono ?_); rintro e' w3 ⟨rfl, rfl⟩)
  go_ret
  exact ⟨rfl, hb1.trans (hb2.mono hb1.size)⟩
theorem limits_1t (w : World) : Calls Try.prog 4 #[.int .i64 1, .bool true] w fun e w' => e = .returned (.bool true) ∧ Below w.heap.size w w' := by
  go_enter Try.func4, Try.ntmps4
  go_wp2_with (go_at_call 7; (with_reducible refine (alive_any _).mono ?_); rintro e' w1 ⟨rfl, hb1⟩)
  refine (put_at_no _ (l4 1) _ rfl 1 4 rfl _ rfl _ (by decide)).mono ?_
  rintro e' w2 ⟨rfl, hb2⟩
  go_wp2_with (go_at_call 12; (with_reducible refine (num_any _ _).mono ?_); rintro e' w3 ⟨rfl, rfl⟩)
  go_ret
  exact ⟨rfl, hb1.trans (hb2.mono hb1.size)⟩
theorem limits_2f (w : World) : Calls Try.prog 4 #[.int .i64 2, .bool false] w fun e w' => e = .returned (.bool true) ∧ Below w.heap.size w w' := by
  go_enter Try.func4, Try.ntmps4
  go_wp2_with (go_at_call 7; (with_reducible refine (alive_any _).mono ?_); rintro e' w1 ⟨rfl, hb1⟩)
  refine (put_at_yes _ (l4 0) _ rfl 2 8 rfl _ rfl _ (by decide)).mono ?_
  rintro e' w2 ⟨A, c, rfl, hb2⟩
  go_wp2_with (go_at_call 12; (with_reducible refine (num_any _ _).mono ?_); rintro e' w3 ⟨rfl, rfl⟩)
  go_ret
  exact ⟨rfl, hb1.trans (hb2.mono hb1.size)⟩
theorem limits_2t (w : World) : Calls Try.prog 4 #[.int .i64 2, .bool true] w fun e w' => e = .returned (.bool true) ∧ Below w.heap.size w w' := by
  go_enter Try.func4, Try.ntmps4
  go_wp2_with (go_at_call 7; (with_reducible refine (alive_any _).mono ?_); rintro e' w1 ⟨rfl, hb1⟩)
  refine (put_at_no _ (l4 1) _ rfl 2 8 rfl _ rfl _ (by decide)).mono ?_
  rintro e' w2 ⟨rfl, hb2⟩
  go_wp2_with (go_at_call 12; (with_reducible refine (num_any _ _).mono ?_); rintro e' w3 ⟨rfl, rfl⟩)
  go_ret
  exact ⟨rfl, hb1.trans (hb2.mono hb1.size)⟩
theorem limits_3f (w : World) : Calls Try.prog 4 #[.int .i64 3, .bool false] w fun e w' => e = .returned (.bool true) ∧ Below w.heap.size w w' := by
  go_enter Try.func4, Try.ntmps4
  go_wp2_with (go_at_call 7; (with_reducible refine (alive_any _).mono ?_); rintro e' w1 ⟨rfl, hb1⟩)
  refine (put_at_yes _ (l4 0) _ rfl 3 12 rfl _ rfl _ (by decide)).mono ?_
  rintro e' w2 ⟨A, c, rfl, hb2⟩
  go_wp2_with (go_at_call 12; (with_reducible refine (num_any _ _).mono ?_); rintro e' w3 ⟨rfl, rfl⟩)
  go_ret
  exact ⟨rfl, hb1.trans (hb2.mono hb1.size)⟩
theorem limits_3t (w : World) : Calls Try.prog 4 #[.int .i64 3, .bool true] w fun e w' => e = .returned (.bool true) ∧ Below w.heap.size w w' := by
  go_enter Try.func4, Try.ntmps4
  go_wp2_with (go_at_call 7; (with_reducible refine (alive_any _).mono ?_); rintro e' w1 ⟨rfl, hb1⟩)
  refine (put_at_no _ (l4 1) _ rfl 3 12 rfl _ rfl _ (by decide)).mono ?_
  rintro e' w2 ⟨rfl, hb2⟩
  go_wp2_with (go_at_call 12; (with_reducible refine (num_any _ _).mono ?_); rintro e' w3 ⟨rfl, rfl⟩)
  go_ret
  exact ⟨rfl, hb1.trans (hb2.mono hb1.size)⟩
theorem limits_any (n : Int) (o : Bool) (w : World) : Calls Try.prog 4 #[.int .i64 n, .bool o] w fun e w' => e = .returned (.bool true) ∧ Below w.heap.size w w' := by
  by_cases h : n < 0 ∨ 3 < n
  · exact limits_out n o w h
  · rcases (show n = 0 ∨ n = 1 ∨ n = 2 ∨ n = 3 by omega) with rfl | rfl | rfl | rfl <;> cases o
    · exact limits_0f w
    · exact limits_0t w
    · exact limits_1f w
    · exact limits_1t w
    · exact limits_2f w
    · exact limits_2t w
    · exact limits_3f w
    · exact limits_3t w
end Go.Proofs.Ytihbpggoieieoaa
