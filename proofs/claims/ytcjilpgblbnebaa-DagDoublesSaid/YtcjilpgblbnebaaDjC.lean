/- spf: hasNode, isDown, metric, end, isNext. -/
import Derived.Test.YtcjilpgblbnebaaSpB
import Derived.Test.YtcjilpgblbnebaaRgA
namespace Go.Proofs.Ytcjilpgblbnebaa
open Go.RowKit
set_option maxHeartbeats 3200000
set_option maxRecDepth 100000
theorem linkOf_any (k q : Nat) (hq : k / 2 = q) (hk : k ≤ 1000000) (w : World) : Calls Try.prog 60 #[.int .i64 (k : Int)] w fun e w' => e = .returned (.int .i64 (q : Int)) ∧ w = w' := by
  have d1 : Int.tdiv (k : Int) 2 = (q : Int) := by rw [← hq]; rfl
  have hq2 : q ≤ 1000000 := by omega
  clear hq hk
  go_enter Try.func60, Try.ntmps60
  go_wp2_with fail
  go_ret
  exact ⟨rfl, rfl⟩
theorem isDown2_any (A : Option Addr) (n c : Nat) (dn : List Bool) (k : Nat) (w : World) (hr : RBl w w.heap.size A n dn) (hk : k ≤ 1000000) : Calls Try.prog 41 #[.slice A n c, .int .i64 (k : Int)] w fun e w' => e = .returned (.bool (isDn dn (k / 2))) ∧ w = w' := by
  obtain ⟨i, hi⟩ : ∃ i, k / 2 = i := ⟨_, rfl⟩
  have HL := hid (linkOf_any k i hi (by omega))
  rw [hi]
  have hi2 : i ≤ 1000000 := by omega
  clear hi
  have hl := hr.1
  by_cases h : i < n
  · have t2 : decide (i < n) = true := by simpa using h
    have t2' : decide ((i : Int) < (n : Int)) = true := by simpa using h
    obtain ⟨x, hx⟩ : ∃ x, dn[i]? = some x := ⟨dn[i]'(by omega), List.getElem?_eq_getElem _⟩
    obtain ⟨b, off, rfl, hb, hc⟩ := hr.2 (by omega)
    have c0 := hc i x hx
    have Q : isDn dn i = x := by unfold isDn; rw [List.getD_eq_getElem?_getD, hx]; rfl
    rw [Q]
    clear hc hx hr Q
    go_enter Try.func41, Try.ntmps41
    go_wp2_with (go_at_call 60; (with_reducible refine (HL.out _).mono ?_); rintro _ _ ⟨rfl, rfl⟩)
    go_ret
    exact ⟨by simp, rfl⟩
  · have t2 : decide (i < n) = false := by simpa using h
    have t2' : decide ((i : Int) < (n : Int)) = false := by simp; omega
    have Q : isDn dn i = false := by unfold isDn; rw [List.getD_eq_getElem?_getD, List.getElem?_eq_none (by omega)]; rfl
    rw [Q]
    clear hr Q
    go_enter Try.func41, Try.ntmps41
    go_wp2_with (go_at_call 60; (with_reducible refine (HL.out _).mono ?_); rintro _ _ ⟨rfl, rfl⟩)
    go_ret
    exact ⟨by simp, rfl⟩
theorem metric_any (nd : Int) (A : Option Addr) (n c : Nat) (l : List Lnk) (k : Nat) (w : World) (hr : RLnk w w.heap.size A n l) (hk : k < 2 * n) (hn : n ≤ 1000) :
    Calls Try.prog 44 #[.agg #[.int .i64 nd, .slice A n c], .int .i64 (k : Int)] w fun e w' => e = .returned (.int .i64 (met l k)) ∧ Below w.heap.size w w' := by
  have b1 : Below w.heap.size w (w.alloc (.cells #[.int .i64 nd, .slice A n c] 24)) := Below.alloc (Below.refl _ _) (Nat.le_refl _) _
  obtain ⟨i, hi⟩ : ∃ i, k / 2 = i := ⟨_, rfl⟩
  have HL := hid (linkOf_any k i hi (by omega))
  have hin : i < n := by omega
  have hl := hr.1
  obtain ⟨x, hx⟩ : ∃ x, l[i]? = some x := ⟨l[i]'(by omega), List.getElem?_eq_getElem _⟩
  obtain ⟨b, off, rfl, hb, hc⟩ := hr.2 (by omega)
  have c0 := ((b1.cell (p := ⟨b, off + i * 4 + 2, none⟩) hb).trans (hc i x hx).2.2.1)
  have Q : met l k = x.m := by unfold met; rw [hi, List.getD_eq_getElem?_getD, hx]; rfl
  rw [Q]
  obtain ⟨m, hm⟩ : ∃ m, x.m = m := ⟨_, rfl⟩
  rw [hm] at c0 ⊢
  clear hc hx hr Q hi hk hm
  go_enter Try.func44, Try.ntmps44
  go_wp2_with fail
  go_big_quiet ((go_at_call 60; exact Calls.quiet_of_same ((HL.out _).mono fun e w' h => ⟨h.1, h.2.symm⟩)))
  go_wp2_with fail
  go_ret
  exact ⟨rfl, below_drewN b1⟩
theorem end_any (nd : Int) (A : Option Addr) (n c : Nat) (l : List Lnk) (k : Nat) (w : World) (hr : RLnk w w.heap.size A n l) (hk : k < 2 * n) (hn : n ≤ 1000) :
    Calls Try.prog 43 #[.agg #[.int .i64 nd, .slice A n c], .int .i64 (k : Int)] w fun e w' => e = .returned (.int .i64 (tov l k)) ∧ Below w.heap.size w w' := by
  have b1 : Below w.heap.size w (w.alloc (.cells #[.int .i64 nd, .slice A n c] 24)) := Below.alloc (Below.refl _ _) (Nat.le_refl _) _
  have HE := hid (ends_any nd A n c l (k : Int) _ (hr.on b1) hn (by omega))
  have Q : tov l k = (endsS l (k : Int)).2.1 := rfl
  rw [Q]
  obtain ⟨x, hx⟩ : ∃ x, (endsS l (k : Int)).1 = x := ⟨_, rfl⟩
  obtain ⟨y, hy⟩ : ∃ y, (endsS l (k : Int)).2.1 = y := ⟨_, rfl⟩
  obtain ⟨z, hz⟩ : ∃ z, (endsS l (k : Int)).2.2 = z := ⟨_, rfl⟩
  rw [hx, hy, hz] at HE
  rw [hy]
  clear hr hk Q hx hy hz
  go_enter Try.func43, Try.ntmps43
  go_wp2_with (go_at_call 30; (with_reducible refine HE.out.mono ?_); rintro _ w2 ⟨rfl, hb2⟩)
  go_ret
  exact ⟨rfl, b1.trans (hb2.mono (by simp))⟩
def isNextS (a b m : Int) : Bool := decide (0 < a ∧ 0 ≤ b ∧ a - b = m)
theorem isNext_any (a b m : Int) (w : World) (ha : -1099511627776 ≤ a ∧ a ≤ 1099511627776) (hb : -1099511627776 ≤ b ∧ b ≤ 1099511627776) : Calls Try.prog 42 #[.int .i64 a, .int .i64 b, .int .i64 m] w fun e w' => e = .returned (.bool (isNextS a b m)) ∧ w = w' := by
  obtain ⟨ha1, ha2⟩ := ha
  obtain ⟨hb1, hb2⟩ := hb
  have hw : IntKind.i64.wrap (a - b) = a - b := by rw [IntKind.wrap_i64]; omega
  by_cases h1 : 0 < a
  · have t1 : decide (0 < a) = true := by simpa using h1
    by_cases h2 : 0 ≤ b
    · have t2 : decide (0 ≤ b) = true := by simpa using h2
      have Q : isNextS a b m = (a - b == m) := by unfold isNextS; rw [Bool.eq_iff_iff]; simp [h1, h2]
      rw [Q]
      clear Q h1 h2
      go_enter Try.func42, Try.ntmps42
      go_wp2_with fail
      go_ret
      exact ⟨ret_bool (by simp), rfl⟩
    · have t2 : decide (0 ≤ b) = false := by simpa using h2
      have Q : isNextS a b m = false := by unfold isNextS; rw [decide_eq_false_iff_not]; omega
      rw [Q]
      clear Q h1 h2
      go_enter Try.func42, Try.ntmps42
      go_wp2_with fail
      go_ret
      exact ⟨rfl, rfl⟩
  · have t1 : decide (0 < a) = false := by simpa using h1
    have Q : isNextS a b m = false := by unfold isNextS; rw [decide_eq_false_iff_not]; omega
    rw [Q]
    clear Q h1
    go_enter Try.func42, Try.ntmps42
    go_wp2_with fail
    go_ret
    exact ⟨rfl, rfl⟩
def hasNodeS (nd : Int) (l : List Lnk) (v : Int) : Bool := decide ((checkS nd l).2 = 0 ∧ 0 ≤ v ∧ v < nd)
theorem hasNode_any (nd : Int) (A : Option Addr) (n c : Nat) (l : List Lnk) (v : Int) (w : World) (hr : RLnk w w.heap.size A n l) :
    Calls Try.prog 39 #[.agg #[.int .i64 nd, .slice A n c], .int .i64 v] w fun e w' => e = .returned (.bool (hasNodeS nd l v)) ∧ Below w.heap.size w w' := by
  have hS := Held.start w nd A n c
  have HK' := hid (fun (w' : World) (h : Held w nd A n c w') => h.calls (check_any nd A n c l w' (h.on hr)))
  obtain ⟨g0, g1⟩ := hS.cells
  obtain ⟨k1, hk1⟩ : ∃ k1, (checkS nd l).1 = k1 := ⟨_, rfl⟩
  obtain ⟨k2, hk2⟩ : ∃ k2, (checkS nd l).2 = k2 := ⟨_, rfl⟩
  have Q : hasNodeS nd l v = decide (k2 = 0 ∧ 0 ≤ v ∧ v < nd) := by unfold hasNodeS; rw [hk2]
  rw [hk1, hk2] at HK'
  rw [Q]
  clear hr hk1 hk2 Q
  by_cases h1 : k2 = 0
  · subst h1
    by_cases h2 : 0 ≤ v
    · have t2 : decide (0 ≤ v) = true := by simpa using h2
      have Q : decide ((0 : Int) = 0 ∧ 0 ≤ v ∧ v < nd) = decide (v < nd) := by simp [h2]
      rw [Q]
      clear Q h2
      go_enter Try.func39, Try.ntmps39
      go_wp2_with (go_at_call 59; (with_reducible refine (HK'.out _ hS).mono ?_); rintro _ w2 ⟨rfl, h2⟩; obtain ⟨g2, g3⟩ := h2.cells)
      go_ret
      exact ⟨by simp, h2.1⟩
    · have t2 : decide (0 ≤ v) = false := by simpa using h2
      have Q : decide ((0 : Int) = 0 ∧ 0 ≤ v ∧ v < nd) = false := by rw [decide_eq_false_iff_not]; omega
      rw [Q]
      clear Q h2
      go_enter Try.func39, Try.ntmps39
      go_wp2_with (go_at_call 59; (with_reducible refine (HK'.out _ hS).mono ?_); rintro _ w2 ⟨rfl, h2⟩; obtain ⟨g2, g3⟩ := h2.cells)
      go_ret
      exact ⟨by simp, h2.1⟩
  · have t1 : (k2 == 0) = false := by simpa using h1
    have Q : decide (k2 = 0 ∧ 0 ≤ v ∧ v < nd) = false := by rw [decide_eq_false_iff_not]; omega
    rw [Q]
    clear Q h1
    go_enter Try.func39, Try.ntmps39
    go_wp2_with (go_at_call 59; (with_reducible refine (HK'.out _ hS).mono ?_); rintro _ w2 ⟨rfl, h2⟩; obtain ⟨g2, g3⟩ := h2.cells)
    go_ret
    exact ⟨by simp, h2.1⟩
end Go.Proofs.Ytcjilpgblbnebaa
