/- The code of package fib: Label, isRight, hasEdge, segOf, Seg. -/
import Derived.Test.YtjblhajmnlcfaaaFiE
import Derived.Test.YtjblhajmnlcfaaaRgA
namespace Go.Proofs.Ytjblhajmnlcfaaa
open Go.RowKit
set_option maxHeartbeats 6400000
set_option maxRecDepth 100000
theorem label_any (s : Sg) (w : World) : Calls Try.prog 12 #[.agg #[.bool s.edge, .int .i64 s.too]] w fun e w' => e = .returned (.int .i64 (labelS s)) ∧ Below w.heap.size w w' := by
  have hb : Below w.heap.size w (w.alloc (.cells #[.bool s.edge, .int .i64 s.too] 26)) := (Below.refl _ _).alloc (Nat.le_refl _) _
  obtain ⟨se, st⟩ := s
  by_cases h1 : st < 0
  · have HV : Hid (labelS ⟨se, st⟩ = -1) := by show _ = _; unfold labelS; rw [if_pos (Or.inl h1)]
    have t1 : decide (st < 0) = true := decide_eq_true h1
    clear h1
    go_enter Try.func12, Try.ntmps12
    go_wp2_with fail
    go_ret
    exact ⟨by rw [HV.out]; rfl, hb⟩
  · have t1 : decide (st < 0) = false := decide_eq_false h1
    by_cases h2 : 240 < st
    · have HV : Hid (labelS ⟨se, st⟩ = -1) := by show _ = _; unfold labelS; rw [if_pos (Or.inr h2)]
      have t2 : decide (240 < st) = true := decide_eq_true h2
      clear h1 h2
      go_enter Try.func12, Try.ntmps12
      go_wp2_with fail
      go_ret
      exact ⟨by rw [HV.out]; rfl, hb⟩
    · have t2 : decide (240 < st) = false := decide_eq_false h2
      have e1 : IntKind.i64.wrap (24000 + st) = 24000 + st := by rw [IntKind.wrap_i64]; omega
      have e2 : IntKind.i64.wrap (16000 + st) = 16000 + st := by rw [IntKind.wrap_i64]; omega
      cases se with
      | true =>
        have HV : Hid (labelS ⟨true, st⟩ = 24000 + st) := by show _ = _; unfold labelS; rw [if_neg (by simp; omega), if_pos rfl]
        clear h1 h2
        go_enter Try.func12, Try.ntmps12
        go_wp2_with fail
        go_ret
        exact ⟨by rw [HV.out]; rfl, hb⟩
      | false =>
        have HV : Hid (labelS ⟨false, st⟩ = 16000 + st) := by show _ = _; unfold labelS; rw [if_neg (by simp; omega), if_neg (by simp)]
        clear h1 h2
        go_enter Try.func12, Try.ntmps12
        go_wp2_with fail
        go_ret
        exact ⟨by rw [HV.out]; rfl, hb⟩
theorem ends_has (l : List Lnk) (e : Int) : (endsS l e).2.2 = decide (0 ≤ e ∧ e < 2 * (l.length : Int)) := by
  unfold endsS
  by_cases h : e < 0
  · rw [if_pos h]; simp; omega
  · rw [if_neg h]
    cases hx : l[e.toNat / 2]? with
    | none =>
      have := List.getElem?_eq_none_iff.1 hx
      simp; omega
    | some x =>
      have := (List.getElem?_eq_some_iff.1 hx).1
      dsimp only
      split <;> (symm; exact decide_eq_true (by omega))
theorem isRight_any (nd : Int) (A : Option Addr) (n c : Nat) (l : List Lnk) (w : World) (hr : RLnk w w.heap.size A n l) : Calls Try.prog 15 #[.agg #[.int .i64 nd, .slice A n c]] w fun e w' => e = .returned (.bool ((checkS nd l).2 == 0)) ∧ Below w.heap.size w w' := by
  have b1 : Below w.heap.size w (w.alloc (.cells #[.int .i64 nd, .slice A n c] 24)) := (Below.refl _ _).alloc (Nat.le_refl _) _
  have HC := hid (check_any nd A n c l _ (hr.on b1))
  obtain ⟨g0, g1, _⟩ := box_cells (heap_alloc_new w (.cells #[.int .i64 nd, .slice A n c] 24))
  clear hr
  go_enter Try.func15, Try.ntmps15
  go_wp2_with (go_at_call 19; (with_reducible refine HC.out.mono ?_); rintro e' w1 ⟨rfl, hb1⟩)
  go_ret
  exact ⟨rfl, b1.trans (hb1.mono b1.size)⟩
theorem hasEdge_any (nd : Int) (A : Option Addr) (n c : Nat) (l : List Lnk) (e : Int) (w : World) (hr : RLnk w w.heap.size A n l) (hn : n ≤ 1000) (he : e ≤ 9223372036854775807) : Calls Try.prog 20 #[.agg #[.int .i64 nd, .slice A n c], .int .i64 e] w fun x w' => x = .returned (.bool (decide (0 ≤ e ∧ e < 2 * (n : Int)))) ∧ Below w.heap.size w w' := by
  have b1 : Below w.heap.size w (w.alloc (.cells #[.int .i64 nd, .slice A n c] 24)) := (Below.refl _ _).alloc (Nat.le_refl _) _
  have HC := hid (ends_any nd A n c l e _ (hr.on b1) hn he)
  have HV := hid (ends_has l e)
  rw [hr.1] at HV
  obtain ⟨g0, g1, _⟩ := box_cells (heap_alloc_new w (.cells #[.int .i64 nd, .slice A n c] 24))
  clear hr hn he
  go_enter Try.func20, Try.ntmps20
  go_wp2_with (go_at_call 23; (with_reducible refine HC.out.mono ?_); rintro e' w1 ⟨rfl, hb1⟩)
  go_ret
  exact ⟨congrArg (fun b => Ending.returned (Value.bool b)) HV.out, b1.trans (hb1.mono b1.size)⟩

theorem segOfC_any (nd : Int) (A : Option Addr) (n c : Nat) (l : List Lnk) (x : Int) (w : World) (hr : RLnk w w.heap.size A n l) (hnd : 1 ≤ nd ∧ nd ≤ 40) (hn : n ≤ 120) (hx : J64 x) :
    Calls Try.prog 16 #[.agg #[.int .i64 nd, .slice A n c], .int .i64 x] w fun e w' => e = .returned (segV (segOf 0 nd n x)) ∧ Below w.heap.size w w' := by
  unfold J64 at hx
  have h0 := (Held.start w nd A n c).next ((Below.refl _ _).alloc (Nat.le_refl _) (.cells #[.bool false, .int .i64 0] 26))
  have hx0 : ((w.alloc (.cells #[.int .i64 nd, .slice A n c] 24)).alloc (.cells #[.bool false, .int .i64 0] 26)).heap[w.heap.size + 1]? = some (.cells #[.bool false, .int .i64 0] 26 (0, 0)) := by
    have := heap_alloc_new (w.alloc (.cells #[.int .i64 nd, .slice A n c] 24)) (.cells #[.bool false, .int .i64 0] 26)
    rwa [show (w.alloc (.cells #[.int .i64 nd, .slice A n c] 24)).heap.size = w.heap.size + 1 by simp] at this
  have HX0 := hid hx0
  obtain ⟨y, hy⟩ : ∃ y, IntKind.i64.wrap (x - 24000) = y := ⟨_, rfl⟩
  obtain ⟨z, hz⟩ : ∃ z, IntKind.i64.wrap (x - 16000) = z := ⟨_, rfl⟩
  have hy1 : y ≤ 9223372036854775807 ∧ ((24000 ≤ x ∧ x < 24000 + 2 * (n : Int)) → y = x - 24000) ∧ (¬(24000 ≤ x ∧ x < 24000 + 2 * (n : Int)) → ¬(0 ≤ y ∧ y < 2 * (n : Int))) := by rw [← hy, IntKind.wrap_i64]; omega
  have hz1 : ((16000 ≤ x ∧ x < 16000 + nd) → z = x - 16000) ∧ (¬(16000 ≤ x ∧ x < 16000 + nd) → ¬(0 ≤ z ∧ z < nd)) := by rw [← hz, IntKind.wrap_i64]; omega
  obtain ⟨hye, hyy, hyn⟩ := hy1
  obtain ⟨hzy, hzn⟩ := hz1
  have HE := hid (fun (W : World) (h : Held w nd A n c W) => hasEdge_any nd A n c l y W (h.on hr) (by omega) hye)
  obtain ⟨g0, g1⟩ := h0.cells
  have Hy := hid hy
  have Hz := hid hz
  clear hx0 hr hye
  by_cases p1 : 24000 ≤ x ∧ x < 24000 + 2 * (n : Int)
  · have e1 := hyy p1
    have t1 : decide (0 ≤ y ∧ y < 2 * (n : Int)) = true := decide_eq_true (by omega)
    rw [t1] at HE
    have HV : Hid (segOf 0 nd n x = some ⟨true, y⟩) := by show _ = _; unfold segOf; rw [if_neg (by decide), if_neg (by omega), if_pos p1, e1]
    clear hyy hyn hzy hzn p1 e1 t1 hn hnd hx
    go_enter Try.func16, Try.ntmps16
    go_wp2_with (go_at_call 20; (with_reducible refine (HE.out _ h0).mono ?_); rintro e' w1 ⟨rfl, hb1⟩; have h1 := h0.next hb1; have hX := box_below HX0.out hb1 (by simp); obtain ⟨k0, k1, kf⟩ := box_cells hX; obtain ⟨q0, q1⟩ := h1.cells)
    have hg := box_set1 (u := .int .i64 y) (box_set0 (u := .bool true) hX)
    try simp only [Exit.inBlock, Exit.then]
    refine bodyPost_ret (results_cellrow_tmp (p := 4) (u := 5) (fn := Try.f16) rfl _ _ _ _ _ _ _ rfl hg Try.underlying26 rfl (by kernel_rfl)) rfl ?_
    rw [HV.out]
    exact ⟨rfl, (h1.1.setCell (p := ⟨w.heap.size + 1, 0, none⟩) (Nat.le_succ _) _).setCell (p := ⟨w.heap.size + 1, 1, none⟩) (Nat.le_succ _) _⟩
  · have t1 : decide (0 ≤ y ∧ y < 2 * (n : Int)) = false := decide_eq_false (hyn p1)
    rw [t1] at HE
    by_cases p2 : 16000 ≤ x ∧ x < 16000 + nd
    · have e2 := hzy p2
      have t2 : decide (0 ≤ z) = true := decide_eq_true (by omega)
      have t3 : decide (z < nd) = true := decide_eq_true (by omega)
      have HV : Hid (segOf 0 nd n x = some ⟨false, z⟩) := by show _ = _; unfold segOf; rw [if_neg (by decide), if_pos p2, e2]
      clear hyy hyn hzy hzn p1 p2 e2 t1 hn hnd hx
      go_enter Try.func16, Try.ntmps16
      go_wp2_with (go_at_call 20; (with_reducible refine (HE.out _ h0).mono ?_); rintro e' w1 ⟨rfl, hb1⟩; have h1 := h0.next hb1; have hX := box_below HX0.out hb1 (by simp); obtain ⟨k0, k1, kf⟩ := box_cells hX; obtain ⟨q0, q1⟩ := h1.cells)
      have hg := box_set1 (u := .int .i64 z) (box_set0 (u := .bool false) hX)
      try simp only [Exit.inBlock, Exit.then]
      refine bodyPost_ret (results_cellrow_tmp (p := 4) (u := 5) (fn := Try.f16) rfl _ _ _ _ _ _ _ rfl hg Try.underlying26 rfl (by kernel_rfl)) rfl ?_
      rw [HV.out]
      exact ⟨rfl, (h1.1.setCell (p := ⟨w.heap.size + 1, 0, none⟩) (Nat.le_succ _) _).setCell (p := ⟨w.heap.size + 1, 1, none⟩) (Nat.le_succ _) _⟩
    · have HV : Hid (segOf 0 nd n x = none) := by show _ = _; unfold segOf; rw [if_neg (by decide), if_neg p2, if_neg p1]
      have hzz := hzn p2
      by_cases p3 : 0 ≤ z
      · have t2 : decide (0 ≤ z) = true := decide_eq_true p3
        have t3 : decide (z < nd) = false := decide_eq_false (by omega)
        clear hyy hyn hzy hzn p1 p2 p3 hzz t1 hn hnd hx
        go_enter Try.func16, Try.ntmps16
        go_wp2_with (go_at_call 20; (with_reducible refine (HE.out _ h0).mono ?_); rintro e' w1 ⟨rfl, hb1⟩; have h1 := h0.next hb1; have hX := box_below HX0.out hb1 (by simp); obtain ⟨k0, k1, kf⟩ := box_cells hX; obtain ⟨q0, q1⟩ := h1.cells)
        have hg := box_set1 (u := .int .i64 0) (box_set0 (u := .bool false) hX)
        try simp only [Exit.inBlock, Exit.then]
        refine bodyPost_ret (results_cellrow_tmp (p := 4) (u := 5) (fn := Try.f16) rfl _ _ _ _ _ _ _ rfl hg Try.underlying26 rfl (by kernel_rfl)) rfl ?_
        rw [HV.out]
        exact ⟨rfl, (h1.1.setCell (p := ⟨w.heap.size + 1, 0, none⟩) (Nat.le_succ _) _).setCell (p := ⟨w.heap.size + 1, 1, none⟩) (Nat.le_succ _) _⟩
      · have t2 : decide (0 ≤ z) = false := decide_eq_false p3
        clear hyy hyn hzy hzn p1 p2 p3 hzz t1 hn hnd hx
        go_enter Try.func16, Try.ntmps16
        go_wp2_with (go_at_call 20; (with_reducible refine (HE.out _ h0).mono ?_); rintro e' w1 ⟨rfl, hb1⟩; have h1 := h0.next hb1; have hX := box_below HX0.out hb1 (by simp); obtain ⟨k0, k1, kf⟩ := box_cells hX; obtain ⟨q0, q1⟩ := h1.cells)
        have hg := box_set1 (u := .int .i64 0) (box_set0 (u := .bool false) hX)
        try simp only [Exit.inBlock, Exit.then]
        refine bodyPost_ret (results_cellrow_tmp (p := 4) (u := 5) (fn := Try.f16) rfl _ _ _ _ _ _ _ rfl hg Try.underlying26 rfl (by kernel_rfl)) rfl ?_
        rw [HV.out]
        exact ⟨rfl, (h1.1.setCell (p := ⟨w.heap.size + 1, 0, none⟩) (Nat.le_succ _) _).setCell (p := ⟨w.heap.size + 1, 1, none⟩) (Nat.le_succ _) _⟩
theorem segC_any (nd : Int) (A : Option Addr) (n c : Nat) (l : List Lnk) (x : Int) (w : World) (hg : GArg w nd A n c l) (hx : J64 x) :
    Calls Try.prog 6 #[.agg #[.int .i64 nd, .slice A n c], .int .i64 x] w fun e w' => e = .returned (segV (segOf (checkS nd l).2 nd n x)) ∧ Below w.heap.size w w' := by
  have hr := hg.row
  have h0 := (Held.start w nd A n c).next ((Below.refl _ _).alloc (Nat.le_refl _) (.cells #[.bool false, .int .i64 0] 26))
  have hx0 : ((w.alloc (.cells #[.int .i64 nd, .slice A n c] 24)).alloc (.cells #[.bool false, .int .i64 0] 26)).heap[w.heap.size + 1]? = some (.cells #[.bool false, .int .i64 0] 26 (0, 0)) := by
    have := heap_alloc_new (w.alloc (.cells #[.int .i64 nd, .slice A n c] 24)) (.cells #[.bool false, .int .i64 0] 26)
    rwa [show (w.alloc (.cells #[.int .i64 nd, .slice A n c] 24)).heap.size = w.heap.size + 1 by simp] at this
  have HX0 := hid hx0
  have HI := hid (fun (W : World) (h : Held w nd A n c W) => isRight_any nd A n c l W (h.on hr))
  obtain ⟨g0, g1⟩ := h0.cells
  by_cases hc : (checkS nd l).2 = 0
  · obtain ⟨h1, h2, h3, -⟩ := checkS_ok hc
    have hll := hr.1
    have HS := hid (fun (W : World) (h : Held w nd A n c W) => segOfC_any nd A n c l x W (h.on hr) (by omega) (by omega) hx)
    rw [hc] at HI ⊢
    clear hx0 hr hg hc h1 h2 h3 hll
    cases hs : segOf 0 nd n x with
    | none =>
      rw [hs] at HS
      have HS2 : Hid (∀ (W : World), Held w nd A n c W → Calls Try.prog 16 #[.agg #[.int .i64 nd, .slice A n c], .int .i64 x] W fun e w' => e = .returned (.tuple #[.agg #[.bool false, .int .i64 0], .bool false]) ∧ Below W.heap.size W w') := HS.out
      clear hs HS
      go_enter Try.func6, Try.ntmps6
      go_wp2_with (first
        | (go_at_call 15; (with_reducible refine (HI.out _ h0).mono ?_); rintro e' w1 ⟨rfl, hb1⟩; have h1 := h0.next hb1; have hX := box_below HX0.out hb1 (by simp); obtain ⟨k0, k1, kf⟩ := box_cells hX; obtain ⟨q0, q1⟩ := h1.cells)
        | (go_at_call 16; (with_reducible refine (HS2.out _ h1).mono ?_); rintro e' w2 ⟨rfl, hb2⟩; have h2 := h1.next hb2; have hX2 := box_below hX hb2 (by have := h1.lt; have := (Array.getElem?_eq_some_iff.1 hX).1; omega); obtain ⟨m0, m1, mf⟩ := box_cells hX2))
      have hg := box_set1 (u := .int .i64 0) (box_set0 (u := .bool false) hX2)
      try simp only [Exit.inBlock, Exit.then]
      refine bodyPost_ret (results_cellrow_tmp (p := 4) (u := 5) (fn := Try.f6) rfl _ _ _ _ _ _ _ rfl hg Try.underlying26 rfl (by kernel_rfl)) rfl ?_
      exact ⟨rfl, (h2.1.setCell (p := ⟨w.heap.size + 1, 0, none⟩) (Nat.le_succ _) _).setCell (p := ⟨w.heap.size + 1, 1, none⟩) (Nat.le_succ _) _⟩
    | some s =>
      obtain ⟨se, st⟩ := s
      rw [hs] at HS
      have HS2 : Hid (∀ (W : World), Held w nd A n c W → Calls Try.prog 16 #[.agg #[.int .i64 nd, .slice A n c], .int .i64 x] W fun e w' => e = .returned (.tuple #[.agg #[.bool se, .int .i64 st], .bool true]) ∧ Below W.heap.size W w') := HS.out
      clear hs HS
      go_enter Try.func6, Try.ntmps6
      go_wp2_with (first
        | (go_at_call 15; (with_reducible refine (HI.out _ h0).mono ?_); rintro e' w1 ⟨rfl, hb1⟩; have h1 := h0.next hb1; have hX := box_below HX0.out hb1 (by simp); obtain ⟨k0, k1, kf⟩ := box_cells hX; obtain ⟨q0, q1⟩ := h1.cells)
        | (go_at_call 16; (with_reducible refine (HS2.out _ h1).mono ?_); rintro e' w2 ⟨rfl, hb2⟩; have h2 := h1.next hb2; have hX2 := box_below hX hb2 (by have := h1.lt; have := (Array.getElem?_eq_some_iff.1 hX).1; omega); obtain ⟨m0, m1, mf⟩ := box_cells hX2))
      have hg := box_set1 (u := .int .i64 st) (box_set0 (u := .bool se) hX2)
      try simp only [Exit.inBlock, Exit.then]
      refine bodyPost_ret (results_cellrow_tmp (p := 4) (u := 5) (fn := Try.f6) rfl _ _ _ _ _ _ _ rfl hg Try.underlying26 rfl (by kernel_rfl)) rfl ?_
      exact ⟨rfl, (h2.1.setCell (p := ⟨w.heap.size + 1, 0, none⟩) (Nat.le_succ _) _).setCell (p := ⟨w.heap.size + 1, 1, none⟩) (Nat.le_succ _) _⟩
  · have t : ((checkS nd l).2 == 0) = false := beq_eq_false_iff_ne.2 hc
    rw [t] at HI
    have HV : Hid (segOf (checkS nd l).2 nd n x = none) := by show _ = _; unfold segOf; rw [if_pos hc]
    clear hx0 hr hg hc t hx
    go_enter Try.func6, Try.ntmps6
    go_wp2_with (go_at_call 15; (with_reducible refine (HI.out _ h0).mono ?_); rintro e' w1 ⟨rfl, hb1⟩; have h1 := h0.next hb1; have hX := box_below HX0.out hb1 (by simp); obtain ⟨k0, k1, kf⟩ := box_cells hX; obtain ⟨q0, q1⟩ := h1.cells)
    have hg := box_set1 (u := .int .i64 0) (box_set0 (u := .bool false) hX)
    try simp only [Exit.inBlock, Exit.then]
    refine bodyPost_ret (results_cellrow_tmp (p := 4) (u := 5) (fn := Try.f6) rfl _ _ _ _ _ _ _ rfl hg Try.underlying26 rfl (by kernel_rfl)) rfl ?_
    rw [HV.out]
    exact ⟨rfl, (h1.1.setCell (p := ⟨w.heap.size + 1, 0, none⟩) (Nat.le_succ _) _).setCell (p := ⟨w.heap.size + 1, 1, none⟩) (Nat.le_succ _) _⟩
end Go.Proofs.Ytjblhajmnlcfaaa
