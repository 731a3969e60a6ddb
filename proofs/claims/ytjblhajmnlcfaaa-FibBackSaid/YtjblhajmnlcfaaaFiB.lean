/- The reference's Label, SegOf, Stack, Segs. -/
import Derived.Test.YtjblhajmnlcfaaaFiA
import Derived.Test.YtjblhajmnlcfaaaRfA
import Derived.Test.YtjblhajmnlcfaaaWgD
namespace Go.Proofs.Ytjblhajmnlcfaaa
open Go.RowKit
set_option maxHeartbeats 6400000
set_option maxRecDepth 100000
theorem refLabel_any (s : Sg) (w : World) : Calls Try.prog 13 #[.agg #[.bool s.edge, .int .i64 s.too]] w fun e w' => e = .returned (.int .i64 (labelS s)) ∧ Below w.heap.size w w' := by
  have hb : Below w.heap.size w (w.alloc (.cells #[.bool s.edge, .int .i64 s.too] 26)) := (Below.refl _ _).alloc (Nat.le_refl _) _
  obtain ⟨se, st⟩ := s
  by_cases h1 : st < 0
  · have HV : Hid (labelS ⟨se, st⟩ = -1) := by show _ = _; unfold labelS; rw [if_pos (Or.inl h1)]
    have t1 : decide (st < 0) = true := decide_eq_true h1
    clear h1
    go_enter Try.func13, Try.ntmps13
    go_wp2_with fail
    go_ret
    exact ⟨by rw [HV.out]; rfl, hb⟩
  · have t1 : decide (st < 0) = false := decide_eq_false h1
    by_cases h2 : 240 < st
    · have HV : Hid (labelS ⟨se, st⟩ = -1) := by show _ = _; unfold labelS; rw [if_pos (Or.inr h2)]
      have t2 : decide (240 < st) = true := decide_eq_true h2
      clear h1 h2
      go_enter Try.func13, Try.ntmps13
      go_wp2_with fail
      go_ret
      exact ⟨by rw [HV.out]; rfl, hb⟩
    · have t2 : decide (240 < st) = false := decide_eq_false h2
      have e1 : IntKind.i64.wrap (24000 + st) = 24000 + st := by rw [IntKind.wrap_i64]; omega
      have e2 : IntKind.i64.wrap (16000 + st) = 16000 + st := by rw [IntKind.wrap_i64]; omega
      cases se with
      | true =>
        have HV : Hid (labelS ⟨true, st⟩ = 24000 + st) := by show _ = _; unfold labelS; rw [if_neg (by simp; omega), if_pos rfl]
        clear h1 h2
        go_enter Try.func13, Try.ntmps13
        go_wp2_with fail
        go_ret
        exact ⟨by rw [HV.out]; rfl, hb⟩
      | false =>
        have HV : Hid (labelS ⟨false, st⟩ = 16000 + st) := by show _ = _; unfold labelS; rw [if_neg (by simp; omega), if_neg (by simp)]
        clear h1 h2
        go_enter Try.func13, Try.ntmps13
        go_wp2_with fail
        go_ret
        exact ⟨by rw [HV.out]; rfl, hb⟩
theorem cutT_any (n : Int) (w : World) : Calls Try.prog 18 #[.int .i64 n, .int .i64 0, .int .i64 255] w fun e w' => e = .returned (.int .i64 (cutT n)) ∧ w = w' := by
  by_cases h1 : n < 0
  · have t1 : decide (n < 0) = true := decide_eq_true h1
    have HV : Hid (cutT n = 0) := by show _ = _; unfold cutT; rw [if_pos h1]
    clear h1
    go_enter Try.func18, Try.ntmps18
    go_wp2_with fail
    go_ret
    exact ⟨by rw [HV.out]; rfl, rfl⟩
  · have t1 : decide (n < 0) = false := decide_eq_false h1
    by_cases h2 : 255 < n
    · have t2 : decide ((255 : Int) < n) = true := decide_eq_true h2
      have HV : Hid (cutT n = 255) := by show _ = _; unfold cutT; rw [if_neg h1, if_pos h2]
      clear h1 h2
      go_enter Try.func18, Try.ntmps18
      go_wp2_with fail
      go_ret
      exact ⟨by rw [HV.out]; rfl, rfl⟩
    · have t2 : decide ((255 : Int) < n) = false := decide_eq_false h2
      have HV : Hid (cutT n = n) := by show _ = _; unfold cutT; rw [if_neg h1, if_neg h2]
      clear h1 h2
      go_enter Try.func18, Try.ntmps18
      go_wp2_with fail
      go_ret
      exact ⟨by rw [HV.out]; rfl, rfl⟩
/-- What Seg answers. -/
def segV : Option Sg → Value
  | none => .tuple #[.agg #[.bool false, .int .i64 0], .bool false]
  | some s => .tuple #[.agg #[.bool s.edge, .int .i64 s.too], .bool true]
theorem results_cellrow_tmp {P : Program} {fn : Func} {p u : Tmp} {ty : TypeId} (h : fn.results = #[.cell p ty, .tmp u]) (tmps : Array Value) (w : World) (g : Nat) (t : TypeId) (cs : Array Value) (fr : Nat × Nat) (d : TypeDesc)
    (hp : tmps.getD p undef = .pointer (some ⟨g, 0, none⟩)) (hg : w.heap[g]? = some (.cells cs t fr))
    (hu : P.underlying ty = some d) (hd : (match d with | .struct _ | .array _ _ => true | _ => false) = true) (hi : (P.info? ty).map (·.size) = some cs.size) :
    (results fn tmps).run P w = .ok (.tuple #[.agg cs, tmps.getD u undef]) w := by
  rw [results_cell_tmp h, hp]
  simp only [asAddr, Sem.run_pure, Result.andThen_ok, run_loadVar_row w g t ty cs fr d hg hu hd hi]
theorem refSegOf_any (nd : Int) (A : Option Addr) (n c : Nat) (l : List Lnk) (x : Int) (w : World) (hr : RLnk w w.heap.size A n l) (hn : n ≤ 1000000) :
    Calls Try.prog 7 #[.agg #[.int .i64 nd, .slice A n c], .int .i64 x] w fun e w' => e = .returned (segV (segOf (checkS nd l).2 nd n x)) ∧ Below w.heap.size w w' := by
  have h0 := (Held.start w nd A n c).next ((Below.refl _ _).alloc (Nat.le_refl _) (.cells #[.bool false, .int .i64 0] 26))
  have hx0 : ((w.alloc (.cells #[.int .i64 nd, .slice A n c] 24)).alloc (.cells #[.bool false, .int .i64 0] 26)).heap[w.heap.size + 1]? = some (.cells #[.bool false, .int .i64 0] 26 (0, 0)) := by
    have := heap_alloc_new (w.alloc (.cells #[.int .i64 nd, .slice A n c] 24)) (.cells #[.bool false, .int .i64 0] 26)
    rwa [show (w.alloc (.cells #[.int .i64 nd, .slice A n c] 24)).heap.size = w.heap.size + 1 by simp] at this
  have HX0 := hid hx0
  have HCk := hid (fun (W : World) (h : Held w nd A n c W) => refCheck_any nd A n c l W (h.on hr))
  have hln := hr.1
  obtain ⟨a, ha⟩ : ∃ a, (checkS nd l).1 = a := ⟨_, rfl⟩
  obtain ⟨e, he⟩ : ∃ e, (checkS nd l).2 = e := ⟨_, rfl⟩
  have hnd : e = 0 → 1 ≤ nd ∧ nd ≤ 40 ∧ n ≤ 120 := fun h => by
    obtain ⟨h1, h2, h3, -⟩ := checkS_ok (he.trans h)
    omega
  rw [ha, he] at HCk
  rw [he]
  obtain ⟨g0, g1⟩ := h0.cells
  clear hx0 ha he hln hr
  by_cases he : e = 0
  · subst he
    obtain ⟨n1, n2, n3⟩ := hnd rfl
    have z0 : ((0 : Int) != 0) = false := by decide
    have ew1 : IntKind.i64.wrap (16000 + nd) = 16000 + nd := by rw [IntKind.wrap_i64]; omega
    have ew2 : IntKind.i64.wrap (2 * (n : Int)) = 2 * n := by rw [IntKind.wrap_i64]; omega
    have ew3 : IntKind.i64.wrap (24000 + 2 * (n : Int)) = 24000 + 2 * n := by rw [IntKind.wrap_i64]; omega
    by_cases p1 : 16000 ≤ x
    · have t1 : decide (16000 ≤ x) = true := decide_eq_true p1
      by_cases p2 : x < 16000 + nd
      · have t2 : decide (x < 16000 + nd) = true := decide_eq_true p2
        have ew4 : IntKind.i64.wrap (x - 16000) = x - 16000 := by rw [IntKind.wrap_i64]; omega
        have HV : Hid (segOf 0 nd n x = some ⟨false, x - 16000⟩) := by show _ = _; unfold segOf; rw [if_neg (by decide), if_pos ⟨p1, p2⟩]
        clear hnd n1 n2 n3 p1 p2 hn
        go_enter Try.func7, Try.ntmps7
        go_wp2_with (go_at_call 17; (with_reducible refine (HCk.out _ h0).mono ?_); rintro e' w1 ⟨rfl, hb1⟩; have h1 := h0.next hb1; have hX := box_below HX0.out hb1 (by simp); obtain ⟨k0, k1, kf⟩ := box_cells hX; obtain ⟨q0, q1⟩ := h1.cells)
        have hg := box_set1 (u := .int .i64 (x - 16000)) (box_set0 (u := .bool false) hX)
        try simp only [Exit.inBlock, Exit.then]
        refine bodyPost_ret (results_cellrow_tmp (p := 4) (u := 5) (fn := Try.f7) rfl _ _ _ _ _ _ _ rfl hg Try.underlying26 rfl (by kernel_rfl)) rfl ?_
        rw [HV.out]
        exact ⟨rfl, (h1.1.setCell (p := ⟨w.heap.size + 1, 0, none⟩) (Nat.le_succ _) _).setCell (p := ⟨w.heap.size + 1, 1, none⟩) (Nat.le_succ _) _⟩
      · have t2 : decide (x < 16000 + nd) = false := decide_eq_false p2
        by_cases p3 : 24000 ≤ x
        · have t3 : decide (24000 ≤ x) = true := decide_eq_true p3
          by_cases p4 : x < 24000 + 2 * (n : Int)
          · have t4 : decide (x < 24000 + 2 * (n : Int)) = true := decide_eq_true p4
            have ew4 : IntKind.i64.wrap (x - 24000) = x - 24000 := by rw [IntKind.wrap_i64]; omega
            have HV : Hid (segOf 0 nd n x = some ⟨true, x - 24000⟩) := by show _ = _; unfold segOf; rw [if_neg (by decide), if_neg (fun h => p2 h.2), if_pos ⟨p3, p4⟩]
            clear hnd n1 n2 n3 p1 p2 p3 p4 hn
            go_enter Try.func7, Try.ntmps7
            go_wp2_with (go_at_call 17; (with_reducible refine (HCk.out _ h0).mono ?_); rintro e' w1 ⟨rfl, hb1⟩; have h1 := h0.next hb1; have hX := box_below HX0.out hb1 (by simp); obtain ⟨k0, k1, kf⟩ := box_cells hX; obtain ⟨q0, q1⟩ := h1.cells)
            have hg := box_set1 (u := .int .i64 (x - 24000)) (box_set0 (u := .bool true) hX)
            try simp only [Exit.inBlock, Exit.then]
            refine bodyPost_ret (results_cellrow_tmp (p := 4) (u := 5) (fn := Try.f7) rfl _ _ _ _ _ _ _ rfl hg Try.underlying26 rfl (by kernel_rfl)) rfl ?_
            rw [HV.out]
            exact ⟨rfl, (h1.1.setCell (p := ⟨w.heap.size + 1, 0, none⟩) (Nat.le_succ _) _).setCell (p := ⟨w.heap.size + 1, 1, none⟩) (Nat.le_succ _) _⟩
          · have t4 : decide (x < 24000 + 2 * (n : Int)) = false := decide_eq_false p4
            have HV : Hid (segOf 0 nd n x = none) := by show _ = _; unfold segOf; rw [if_neg (by decide), if_neg (fun h => p2 h.2), if_neg (fun h => p4 h.2)]
            clear hnd n1 n2 n3 p1 p2 p3 p4 hn
            go_enter Try.func7, Try.ntmps7
            go_wp2_with (go_at_call 17; (with_reducible refine (HCk.out _ h0).mono ?_); rintro e' w1 ⟨rfl, hb1⟩; have h1 := h0.next hb1; have hX := box_below HX0.out hb1 (by simp); obtain ⟨k0, k1, kf⟩ := box_cells hX; obtain ⟨q0, q1⟩ := h1.cells)
            have hg := box_set1 (u := .int .i64 0) (box_set0 (u := .bool false) hX)
            try simp only [Exit.inBlock, Exit.then]
            refine bodyPost_ret (results_cellrow_tmp (p := 4) (u := 5) (fn := Try.f7) rfl _ _ _ _ _ _ _ rfl hg Try.underlying26 rfl (by kernel_rfl)) rfl ?_
            rw [HV.out]
            exact ⟨rfl, (h1.1.setCell (p := ⟨w.heap.size + 1, 0, none⟩) (Nat.le_succ _) _).setCell (p := ⟨w.heap.size + 1, 1, none⟩) (Nat.le_succ _) _⟩
        · have t3 : decide (24000 ≤ x) = false := decide_eq_false p3
          have HV : Hid (segOf 0 nd n x = none) := by show _ = _; unfold segOf; rw [if_neg (by decide), if_neg (fun h => p2 h.2), if_neg (fun h => p3 h.1)]
          clear hnd n1 n2 n3 p1 p2 p3 hn
          go_enter Try.func7, Try.ntmps7
          go_wp2_with (go_at_call 17; (with_reducible refine (HCk.out _ h0).mono ?_); rintro e' w1 ⟨rfl, hb1⟩; have h1 := h0.next hb1; have hX := box_below HX0.out hb1 (by simp); obtain ⟨k0, k1, kf⟩ := box_cells hX; obtain ⟨q0, q1⟩ := h1.cells)
          have hg := box_set1 (u := .int .i64 0) (box_set0 (u := .bool false) hX)
          try simp only [Exit.inBlock, Exit.then]
          refine bodyPost_ret (results_cellrow_tmp (p := 4) (u := 5) (fn := Try.f7) rfl _ _ _ _ _ _ _ rfl hg Try.underlying26 rfl (by kernel_rfl)) rfl ?_
          rw [HV.out]
          exact ⟨rfl, (h1.1.setCell (p := ⟨w.heap.size + 1, 0, none⟩) (Nat.le_succ _) _).setCell (p := ⟨w.heap.size + 1, 1, none⟩) (Nat.le_succ _) _⟩
    · have t1 : decide (16000 ≤ x) = false := decide_eq_false p1
      have t3 : decide (24000 ≤ x) = false := decide_eq_false (by omega)
      have HV : Hid (segOf 0 nd n x = none) := by show _ = _; unfold segOf; rw [if_neg (by decide), if_neg (fun h => p1 h.1), if_neg (by omega)]
      clear hnd n1 n2 n3 p1 hn
      go_enter Try.func7, Try.ntmps7
      go_wp2_with (go_at_call 17; (with_reducible refine (HCk.out _ h0).mono ?_); rintro e' w1 ⟨rfl, hb1⟩; have h1 := h0.next hb1; have hX := box_below HX0.out hb1 (by simp); obtain ⟨k0, k1, kf⟩ := box_cells hX; obtain ⟨q0, q1⟩ := h1.cells)
      have hg := box_set1 (u := .int .i64 0) (box_set0 (u := .bool false) hX)
      try simp only [Exit.inBlock, Exit.then]
      refine bodyPost_ret (results_cellrow_tmp (p := 4) (u := 5) (fn := Try.f7) rfl _ _ _ _ _ _ _ rfl hg Try.underlying26 rfl (by kernel_rfl)) rfl ?_
      rw [HV.out]
      exact ⟨rfl, (h1.1.setCell (p := ⟨w.heap.size + 1, 0, none⟩) (Nat.le_succ _) _).setCell (p := ⟨w.heap.size + 1, 1, none⟩) (Nat.le_succ _) _⟩
  · have z0 : (e != 0) = true := bne_iff_ne.2 he
    have HV : Hid (segOf e nd n x = none) := by show _ = _; unfold segOf; rw [if_pos he]
    clear hnd he hn
    go_enter Try.func7, Try.ntmps7
    go_wp2_with (go_at_call 17; (with_reducible refine (HCk.out _ h0).mono ?_); rintro e' w1 ⟨rfl, hb1⟩; have h1 := h0.next hb1; have hX := box_below HX0.out hb1 (by simp); obtain ⟨k0, k1, kf⟩ := box_cells hX; obtain ⟨q0, q1⟩ := h1.cells)
    have hg := box_set1 (u := .int .i64 0) (box_set0 (u := .bool false) hX)
    try simp only [Exit.inBlock, Exit.then]
    refine bodyPost_ret (results_cellrow_tmp (p := 4) (u := 5) (fn := Try.f7) rfl _ _ _ _ _ _ _ rfl hg Try.underlying26 rfl (by kernel_rfl)) rfl ?_
    rw [HV.out]
    exact ⟨rfl, (h1.1.setCell (p := ⟨w.heap.size + 1, 0, none⟩) (Nat.le_succ _) _).setCell (p := ⟨w.heap.size + 1, 1, none⟩) (Nat.le_succ _) _⟩
end Go.Proofs.Ytjblhajmnlcfaaa
