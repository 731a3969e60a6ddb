/- OptVia. -/
import Derived.Test.YtabgbhkpeeibaaaOvP
namespace Go.Proofs.Ytabgbhkpeeibaaa
open Go.RowKit
set_option maxHeartbeats 6400000
set_option maxRecDepth 100000
theorem optVia_out (hO : OptSpec 9 12 14 18 16) (nd : Int) (A : Option Addr) (n c : Nat) (l : List Lnk) (f t : Int) (w : World) (hr : RLnk w w.heap.size A n l) (h : ¬((checkS nd l).2 = 0 ∧ n ≤ 40 ∧ 0 ≤ f ∧ f < nd ∧ 0 ≤ t ∧ t < nd)) :
    Calls Try.prog 6 #[.agg #[.int .i64 nd, .slice A n c], .int .i64 f, .int .i64 t] w fun e w' => e = .returned (.bool true) ∧ Below w.heap.size w w' := by
  have hS := Held.start w nd A n c
  have HA := hid (fun (w' : World) (h : Held w nd A n c w') => h.calls (alive15 hO w'))
  have HK := hid (fun (w' : World) (h : Held w nd A n c w') => h.calls (refCheck_any nd A n c l w' (h.on hr)))
  obtain ⟨k1, hk1⟩ : ∃ k1, (checkS nd l).1 = k1 := ⟨_, rfl⟩
  obtain ⟨k2, hk2⟩ : ∃ k2, (checkS nd l).2 = k2 := ⟨_, rfl⟩
  rw [hk1, hk2] at HK
  rw [hk2] at h
  clear hk1 hk2 hr hO
  by_cases z0 : k2 ≠ 0
  · have t0 : (k2 != 0) = true := bne_iff_ne.2 z0
    clear h
    go_enter Try.func6, Try.ntmps6
    go_wp2_with (first
      | (go_at_call 7; (with_reducible refine (HA.out _ hS).mono ?_); rintro e' w1 ⟨rfl, h1⟩; obtain ⟨g0, g1⟩ := h1.cells)
      | (go_at_call 24; (with_reducible refine (HK.out _ h1).mono ?_); rintro e' w2 ⟨rfl, h2⟩; obtain ⟨q0, q1⟩ := h2.cells))
    go_ret
    exact ⟨rfl, h2.1⟩
  · have t0 : (k2 != 0) = false := by simp; omega
    by_cases z1 : 40 < n
    · have t1 : decide ((40 : Int) < (n : Int)) = true := decide_eq_true (by omega)
      clear h
      go_enter Try.func6, Try.ntmps6
      go_wp2_with (first
        | (go_at_call 7; (with_reducible refine (HA.out _ hS).mono ?_); rintro e' w1 ⟨rfl, h1⟩; obtain ⟨g0, g1⟩ := h1.cells)
        | (go_at_call 24; (with_reducible refine (HK.out _ h1).mono ?_); rintro e' w2 ⟨rfl, h2⟩; obtain ⟨q0, q1⟩ := h2.cells))
      go_ret
      exact ⟨rfl, h2.1⟩
    · have t1 : decide ((40 : Int) < (n : Int)) = false := decide_eq_false (by omega)
      by_cases z2 : f < 0
      · have t2 : decide (f < 0) = true := decide_eq_true (by omega)
        clear h
        go_enter Try.func6, Try.ntmps6
        go_wp2_with (first
          | (go_at_call 7; (with_reducible refine (HA.out _ hS).mono ?_); rintro e' w1 ⟨rfl, h1⟩; obtain ⟨g0, g1⟩ := h1.cells)
          | (go_at_call 24; (with_reducible refine (HK.out _ h1).mono ?_); rintro e' w2 ⟨rfl, h2⟩; obtain ⟨q0, q1⟩ := h2.cells))
        go_ret
        exact ⟨rfl, h2.1⟩
      · have t2 : decide (f < 0) = false := decide_eq_false (by omega)
        by_cases z3 : nd ≤ f
        · have t3 : decide (nd ≤ f) = true := decide_eq_true (by omega)
          clear h
          go_enter Try.func6, Try.ntmps6
          go_wp2_with (first
            | (go_at_call 7; (with_reducible refine (HA.out _ hS).mono ?_); rintro e' w1 ⟨rfl, h1⟩; obtain ⟨g0, g1⟩ := h1.cells)
            | (go_at_call 24; (with_reducible refine (HK.out _ h1).mono ?_); rintro e' w2 ⟨rfl, h2⟩; obtain ⟨q0, q1⟩ := h2.cells))
          go_ret
          exact ⟨rfl, h2.1⟩
        · have t3 : decide (nd ≤ f) = false := decide_eq_false (by omega)
          by_cases z4 : t < 0
          · have t4 : decide (t < 0) = true := decide_eq_true (by omega)
            clear h
            go_enter Try.func6, Try.ntmps6
            go_wp2_with (first
              | (go_at_call 7; (with_reducible refine (HA.out _ hS).mono ?_); rintro e' w1 ⟨rfl, h1⟩; obtain ⟨g0, g1⟩ := h1.cells)
              | (go_at_call 24; (with_reducible refine (HK.out _ h1).mono ?_); rintro e' w2 ⟨rfl, h2⟩; obtain ⟨q0, q1⟩ := h2.cells))
            go_ret
            exact ⟨rfl, h2.1⟩
          · have t4 : decide (t < 0) = false := decide_eq_false (by omega)
            have t5 : decide (nd ≤ t) = true := decide_eq_true (by omega)
            clear h
            go_enter Try.func6, Try.ntmps6
            go_wp2_with (first
              | (go_at_call 7; (with_reducible refine (HA.out _ hS).mono ?_); rintro e' w1 ⟨rfl, h1⟩; obtain ⟨g0, g1⟩ := h1.cells)
              | (go_at_call 24; (with_reducible refine (HK.out _ h1).mono ?_); rintro e' w2 ⟨rfl, h2⟩; obtain ⟨q0, q1⟩ := h2.cells))
            go_ret
            exact ⟨rfl, h2.1⟩
theorem larg_three (w : World) (a b c : Int) (ha : -9223372036854775808 ≤ a ∧ a ≤ 9223372036854775807) (hb : -9223372036854775808 ≤ b ∧ b ≤ 9223372036854775807) (hc : -9223372036854775808 ≤ c ∧ c ≤ 9223372036854775807) : LArg (w.alloc (.cells #[.int .i64 a, .int .i64 b, .int .i64 c] 3)) (some ⟨w.heap.size, 0, none⟩) 3 3 [a, b, c] := by
  have hz : (w.alloc (.cells #[.int .i64 a, .int .i64 b, .int .i64 c] 3)).heap.size = w.heap.size + 1 := by simp
  have hrow := heap_alloc_new w (.cells #[.int .i64 a, .int .i64 b, .int .i64 c] 3)
  refine ⟨⟨rfl, fun _ => ⟨w.heap.size, 0, rfl, by omega, fun i e he => ?_⟩⟩, by omega, fun h => (by cases h), by unfold maxLen; omega, by simp; omega⟩
  have hi : i < 3 := by
    have := (List.getElem?_eq_some_iff.1 he).1
    simpa using this
  rcases (show i = 0 ∨ i = 1 ∨ i = 2 by omega) with rfl | rfl | rfl <;> (simp at he; subst he; rw [cell_of_row _ _ _ _ _ _ hrow]; rfl)
def y3 (A : Option Addr) : WSl := ⟨A, 3, 3, none, 0, 0, none, 0, 0, none, 0, 0⟩
theorem optVia_in (hO : OptSpec 9 12 14 18 16) (nd : Int) (A : Option Addr) (n c : Nat) (l : List Lnk) (f t : Int) (w : World) (hg : GArg w nd A n c l) (hn : n ≤ 40) (hck : (checkS nd l).2 = 0) (hf : 0 ≤ f ∧ f < nd) (ht : 0 ≤ t ∧ t < nd) :
    Calls Try.prog 6 #[.agg #[.int .i64 nd, .slice A n c], .int .i64 f, .int .i64 t] w fun e w' => e = .returned (.bool true) ∧ Below w.heap.size w w' := by
  have hS := Held.start w nd A n c
  have hnd : nd ≤ 40 := by have := checkS_ok hck; omega
  have HA := hid (fun (w' : World) (h : Held w nd A n c w') => h.calls (alive15 hO w'))
  have HK := hid (fun (w' : World) (h : Held w nd A n c w') => h.calls (refCheck_any nd A n c l w' (h.on hg.row)))
  obtain ⟨k1, hk1⟩ : ∃ k1, (checkS nd l).1 = k1 := ⟨_, rfl⟩
  rw [hk1, hck] at HK
  obtain ⟨hfl, hfa, hfb, hfc⟩ := fromS_get hck hf ht
  obtain ⟨d, hd⟩ : ∃ d, dAt (fromS nd l [] f) t = d := ⟨_, rfl⟩
  rw [hd] at hfa hfb hfc
  have hr4 : -9223372036854775808 ≤ f ∧ f ≤ 9223372036854775807 := by omega
  have hr5 : -9223372036854775808 ≤ t ∧ t ≤ 9223372036854775807 := by omega
  have HF := hid (fun (w' : World) (h : Held w nd A n c w') => (ints_out (m := nd.toNat) hfl (refFrom_spec nd A n c l none 0 0 [] f w' (hg.on h.1) (DArg.nil w') hr4.1 hr4.2)).mono fun _ _ ⟨A', c', h1, h2, h3⟩ => (⟨A', c', h1, h2.1, h.next h3⟩ : ∃ A' c', _ = Ending.returned (.slice A' nd.toNat c') ∧ RInt _ _ A' nd.toNat (fromS nd l [] f) ∧ Held w nd A n c _))
  have HN := hid (fun W => onum_any (costS nd l (wV f t 0 []) []).2 W)
  have hi0 : decide ((0 : Int) ≤ t) = true := decide_eq_true ht.1
  obtain ⟨T, rfl⟩ := Int.eq_ofNat_of_zero_le ht.1
  obtain ⟨N, hN⟩ : ∃ N, nd.toNat = N := ⟨_, rfl⟩
  rw [hN] at HF
  have HC : Hid (∀ (b : Int) (hb : -9223372036854775808 ≤ b ∧ b ≤ 9223372036854775807) (w' : World) (h : Held w nd A n c w'), Calls Try.prog 9 #[.agg #[.int .i64 nd, .slice A n c], .agg #[.int .i64 f, .int .i64 T, .int .i64 b, .slice none 0 0, .slice none 0 0, .slice none 0 0, .slice none 0 0], .slice none 0 0] w' fun e w'' => e = .returned (.tuple #[.int .i64 (costS nd l (wV f T b []) []).1, .int .i64 (costS nd l (wV f T b []) []).2]) ∧ Held w nd A n c w'') := fun b hb w' h => h.calls (hO.cost nd A n c l (wV f T b []) yz none 0 0 [] w' (hg.on h.1) (wz_arg w' _ ⟨rfl, rfl, rfl, rfl⟩ hb) (DArg.nil w') (by decide) (by decide) (by decide) (by decide))
  have HC3 : Hid (∀ (w' : World) (h : Held w nd A n c w'), Calls Try.prog 9 #[.agg #[.int .i64 nd, .slice A n c], .agg #[.int .i64 f, .int .i64 T, .int .i64 0, .slice (some ⟨w'.heap.size, 0, none⟩) 3 3, .slice none 0 0, .slice none 0 0, .slice none 0 0], .slice none 0 0] (w'.alloc (.cells #[.int .i64 f, .int .i64 T, .int .i64 T] 3)) fun e w'' => e = .returned (.tuple #[.int .i64 (costS nd l (wV f T 0 [f, T, T]) []).1, .int .i64 (costS nd l (wV f T 0 [f, T, T]) []).2]) ∧ Held w nd A n c w'') := fun w' h => by
    have h2 : Held w nd A n c (w'.alloc (.cells #[.int .i64 f, .int .i64 T, .int .i64 T] 3)) := h.next ((Below.refl _ _).alloc (Nat.le_refl _) _)
    have l0 : LArg (w'.alloc (.cells #[.int .i64 f, .int .i64 T, .int .i64 T] 3)) none 0 0 [] := larg_nil _
    exact h2.calls (hO.cost nd A n c l (wV f T 0 [f, T, T]) (y3 (some ⟨w'.heap.size, 0, none⟩)) none 0 0 [] _ (hg.on h2.1) ⟨larg_three w' f T T hr4 hr5 hr5, l0, l0, l0, (show (-9223372036854775808 : Int) ≤ 0 ∧ (0 : Int) ≤ 9223372036854775807 from by decide)⟩ (DArg.nil _) (show 3 ≤ 100 from by decide) (show 0 ≤ 100 from by decide) (show 0 ≤ 100 from by decide) (show 0 ≤ 100 from by decide))
  have e0 : d < 0 → costS nd l (wV f T 0 []) [] = (0, 8) := fun h => via_none hck hf ht (Int.le_refl _) (by omega)
  have e1 : ∀ b, 0 ≤ b → 0 ≤ d → costS nd l (wV f T b []) [] = if 0 < b ∧ b < d then (0, 8) else (d, 0) := fun b hb h => by rw [← hd]; exact via_some hck hf ht hb (by omega)
  have e3 : 0 ≤ d → costS nd l (wV f T 0 [f, T, T]) [] = (d, 0) := fun h => by rw [← hd]; exact via_three hck hf ht (by omega)
  have HNum := hid onum_any
  have t0 : ((0 : Int) != 0) = false := by decide
  have t1 : decide ((40 : Int) < (n : Int)) = false := decide_eq_false (by omega)
  have t2 : decide (f < 0) = false := decide_eq_false (by omega)
  have t3 : decide (nd ≤ f) = false := decide_eq_false (by omega)
  have t4 : decide ((T : Int) < 0) = false := decide_eq_false (by omega)
  have t5 : decide (nd ≤ (T : Int)) = false := decide_eq_false (by omega)
  have i6 : (T : Int) < (N : Int) := by omega
  have i6n : T < N := by omega
  have i7 : (0 : Int) ≤ (T : Int) := by omega
  have i8 : IntKind.i64.wrap (T : Int) = (T : Int) := by rw [IntKind.wrap_i64]; omega
  have hN0 : 0 < N := by omega
  rw [Int.toNat_natCast] at hfa
  have HFA := hid hfa
  clear hg hn hck hf ht hk1 hfl hfa hd hnd hi0 hN hr4 hr5 hO
  go_enter Try.func6, Try.ntmps6
  rcases Classical.em (d < 0) with hd0 | hd0
  · have d1 : decide (d < 0) = true := decide_eq_true hd0
    have C0 := hid (fun w' h => HC.out 0 (by decide) w' h)
    rw [e0 hd0] at C0
    clear e0 e1 e3 HC HC3
    go_wp2_with (first
      | (go_at_call 7; (with_reducible refine (HA.out _ hS).mono ?_); rintro e' w1 ⟨rfl, h1⟩; obtain ⟨g0, g1⟩ := h1.cells)
      | (go_at_call 24; (with_reducible refine (HK.out _ h1).mono ?_); rintro e' w2 ⟨rfl, h2⟩; obtain ⟨q0, q1⟩ := h2.cells)
      | (go_at_call 25; (with_reducible refine (HF.out _ h2).mono ?_); rintro e' w3 ⟨A3, c3, rfl, r3, h3⟩; obtain ⟨b3, o3, rfl, hb3, hc3⟩ := r3.2 hN0; have hcT := hc3 T d HFA.out; obtain ⟨x0, x1⟩ := h3.cells; clear hc3 r3 hb3)
      | (go_at_call 9; (with_reducible refine (C0.out _ h3).mono ?_); rintro e' w4 ⟨rfl, h4⟩; obtain ⟨y4a, y4b⟩ := h4.cells)
      | (go_at_call 11; (with_reducible refine (HNum.out _ _).mono ?_); rintro _ _ ⟨rfl, rfl⟩))
    go_ret
    exact ⟨rfl, h4.1⟩
  · have d1 : decide (d < 0) = false := decide_eq_false hd0
    have C0 := hid (fun w' h => HC.out 0 (by decide) w' h)
    have C2 := hid (fun w' h => HC.out d (by omega) w' h)
    have s0 : (d != d) = false := by simp
    have s1 : (d == d) = true := by simp
    rw [e1 0 (Int.le_refl _) (by omega), if_neg (by omega)] at C0
    rw [e1 d (by omega) (by omega), if_neg (by omega)] at C2
    rw [e3 (by omega)] at HC3
    rcases Classical.em (1 < d) with hd1 | hd1
    · have d2 : decide (1 < d) = true := decide_eq_true hd1
      have C1 := hid (fun w' h => HC.out (d - 1) (by omega) w' h)
      rw [e1 (d - 1) (by omega) (by omega), if_pos (by omega)] at C1
      have ew : IntKind.i64.wrap (d - 1) = d - 1 := by rw [IntKind.wrap_i64]; omega
      clear e0 e1 e3 HC
      go_wp2_with (first
        | (go_at_call 7; (with_reducible refine (HA.out _ hS).mono ?_); rintro e' w1 ⟨rfl, h1⟩; obtain ⟨g0, g1⟩ := h1.cells)
        | (go_at_call 24; (with_reducible refine (HK.out _ h1).mono ?_); rintro e' w2 ⟨rfl, h2⟩; obtain ⟨q0, q1⟩ := h2.cells)
        | (go_at_call 25; (with_reducible refine (HF.out _ h2).mono ?_); rintro e' w3 ⟨A3, c3, rfl, r3, h3⟩; obtain ⟨b3, o3, rfl, hb3, hc3⟩ := r3.2 hN0; have hcT := hc3 T d HFA.out; obtain ⟨x0, x1⟩ := h3.cells; clear hc3 r3 hb3)
        | (go_at_call 9; (with_reducible refine (HC3.out _ h6).mono ?_); rintro e' w7 ⟨rfl, h7⟩; obtain ⟨y7a, y7b⟩ := h7.cells)
        | (go_at_call 9; (with_reducible refine (C2.out _ h5).mono ?_); rintro e' w6 ⟨rfl, h6⟩; obtain ⟨y6a, y6b⟩ := h6.cells)
        | (go_at_call 9; (with_reducible refine (C1.out _ h4).mono ?_); rintro e' w5 ⟨rfl, h5⟩; obtain ⟨y5a, y5b⟩ := h5.cells)
        | (go_at_call 9; (with_reducible refine (C0.out _ h3).mono ?_); rintro e' w4 ⟨rfl, h4⟩; obtain ⟨y4a, y4b⟩ := h4.cells)
        | (go_at_call 11; (with_reducible refine (HNum.out _ _).mono ?_); rintro _ _ ⟨rfl, rfl⟩))
      go_ret
      exact ⟨rfl, h7.1⟩
    · have d2 : decide (1 < d) = false := decide_eq_false hd1
      clear e0 e1 e3 HC
      go_wp2_with (first
        | (go_at_call 7; (with_reducible refine (HA.out _ hS).mono ?_); rintro e' w1 ⟨rfl, h1⟩; obtain ⟨g0, g1⟩ := h1.cells)
        | (go_at_call 24; (with_reducible refine (HK.out _ h1).mono ?_); rintro e' w2 ⟨rfl, h2⟩; obtain ⟨q0, q1⟩ := h2.cells)
        | (go_at_call 25; (with_reducible refine (HF.out _ h2).mono ?_); rintro e' w3 ⟨A3, c3, rfl, r3, h3⟩; obtain ⟨b3, o3, rfl, hb3, hc3⟩ := r3.2 hN0; have hcT := hc3 T d HFA.out; obtain ⟨x0, x1⟩ := h3.cells; clear hc3 r3 hb3)
        | (go_at_call 9; (with_reducible refine (HC3.out _ h6).mono ?_); rintro e' w7 ⟨rfl, h7⟩; obtain ⟨y7a, y7b⟩ := h7.cells)
        | (go_at_call 9; (with_reducible refine (C2.out _ h4).mono ?_); rintro e' w6 ⟨rfl, h6⟩; obtain ⟨y6a, y6b⟩ := h6.cells)
        | (go_at_call 9; (with_reducible refine (C0.out _ h3).mono ?_); rintro e' w4 ⟨rfl, h4⟩; obtain ⟨y4a, y4b⟩ := h4.cells)
        | (go_at_call 11; (with_reducible refine (HNum.out _ _).mono ?_); rintro _ _ ⟨rfl, rfl⟩))
      go_ret
      exact ⟨rfl, h7.1⟩
theorem optVia_any (hO : OptSpec 9 12 14 18 16) (nd : Int) (A : Option Addr) (n c : Nat) (l : List Lnk) (f t : Int) (w : World) (hr : RLnk w w.heap.size A n l) (hc : n ≤ c) (hA : A = none → n = 0 ∧ c = 0) (h1 : -9223372036854775808 ≤ nd ∧ nd ≤ 9223372036854775807) :
    Calls Try.prog 6 #[.agg #[.int .i64 nd, .slice A n c], .int .i64 f, .int .i64 t] w fun e w' => e = .returned (.bool true) ∧ Below w.heap.size w w' := by
  by_cases h : (checkS nd l).2 = 0 ∧ n ≤ 40 ∧ 0 ≤ f ∧ f < nd ∧ 0 ≤ t ∧ t < nd
  · exact optVia_in hO nd A n c l f t w ⟨hr, by omega, hc, hA, h1.1, h1.2⟩ h.2.1 h.1 ⟨h.2.2.1, h.2.2.2.1⟩ h.2.2.2.2
  · exact optVia_out hO nd A n c l f t w hr h
end Go.Proofs.Ytabgbhkpeeibaaa
