/- DagGrid. -/
import Derived.Test.YtcjilpgblbnebaaDgM
import Derived.Test.YtcjilpgblbnebaaDgN
import Derived.StillTailTactics
namespace Go.Proofs.Ytcjilpgblbnebaa
open Go.RowKit
set_option maxHeartbeats 12800000
set_option maxRecDepth 100000
theorem grid_not (h : DagSpec 10 9 12) (n k : Int) (w : World) (hn : ¬(1 ≤ n ∧ n ≤ 6 ∧ 1 ≤ k ∧ k ≤ 6)) :
    Calls Try.prog 6 #[.int .i64 n, .int .i64 k] w fun e w' => e = .returned (.bool true) ∧ Below w.heap.size w w' := by
  have HA := hid (alive_any h w)
  clear h
  by_cases c0 : ¬n < 1
  · have t0 : decide (n < 1) = false := by simp; omega
    by_cases c1 : ¬6 < n
    · have t1 : decide (6 < n) = false := by simp; omega
      by_cases c2 : ¬k < 1
      · have t2 : decide (k < 1) = false := by simp; omega
        by_cases c3 : ¬6 < k
        · exact absurd ⟨by omega, by omega, by omega, by omega⟩ hn
        · have t3 : decide (6 < k) = true := by simp; omega
          clear hn c0 c1 c2 c3
          go_enter Try.func6, Try.ntmps6
          go_wp2_with (go_at_call 7; (with_reducible refine HA.out.mono ?_); rintro e' w1 ⟨rfl, hb1⟩)
          go_ret
          exact ⟨rfl, hb1⟩
      · have t2 : decide (k < 1) = true := by simp; omega
        clear hn c0 c1 c2
        go_enter Try.func6, Try.ntmps6
        go_wp2_with (go_at_call 7; (with_reducible refine HA.out.mono ?_); rintro e' w1 ⟨rfl, hb1⟩)
        go_ret
        exact ⟨rfl, hb1⟩
    · have t1 : decide (6 < n) = true := by simp; omega
      clear hn c0 c1
      go_enter Try.func6, Try.ntmps6
      go_wp2_with (go_at_call 7; (with_reducible refine HA.out.mono ?_); rintro e' w1 ⟨rfl, hb1⟩)
      go_ret
      exact ⟨rfl, hb1⟩
  · have t0 : decide (n < 1) = true := by simp; omega
    clear hn c0
    go_enter Try.func6, Try.ntmps6
    go_wp2_with (go_at_call 7; (with_reducible refine HA.out.mono ?_); rintro e' w1 ⟨rfl, hb1⟩)
    go_ret
    exact ⟨rfl, hb1⟩
theorem at_node {a x : Nat} (hx : x < a) (y : Nat) : (y * a + x) % a = x ∧ (y * a + x) / a = y := by
  refine ⟨?_, ?_⟩
  · rw [Nat.mul_comm, Nat.mul_add_mod, Nat.mod_eq_of_lt hx]
  · rw [Nat.mul_comm, Nat.mul_add_div (by omega), Nat.div_eq_of_lt hx, Nat.add_zero]
/-- What a node brings. -/
theorem grd_both {a b x y : Nat} (hx : x + 1 < a) (hy : y + 1 < b) : grd a b (y * a + x + 1) = (grd a b (y * a + x) ++ [⟨(y : Int) * (a : Int) + (x : Int), (y : Int) * (a : Int) + (x : Int) + 1, 2, 0⟩]) ++ [⟨(y : Int) * (a : Int) + (x : Int), (y : Int) * (a : Int) + (x : Int) + (a : Int), 2, 0⟩] := by
  obtain ⟨h1, h2⟩ := at_node (show x < a by omega) y
  rw [grd]; unfold gcell
  rw [h1, h2, if_pos hx, if_pos hy, List.append_assoc]
  simp
theorem grd_right {a b x y : Nat} (hx : x + 1 < a) (hy : ¬y + 1 < b) : grd a b (y * a + x + 1) = grd a b (y * a + x) ++ [⟨(y : Int) * (a : Int) + (x : Int), (y : Int) * (a : Int) + (x : Int) + 1, 2, 0⟩] := by
  obtain ⟨h1, h2⟩ := at_node (show x < a by omega) y
  rw [grd]; unfold gcell
  rw [h1, h2, if_pos hx, if_neg hy]
  simp
theorem grd_down {a b x y : Nat} (hx' : x < a) (hx : ¬x + 1 < a) (hy : y + 1 < b) : grd a b (y * a + x + 1) = grd a b (y * a + x) ++ [⟨(y : Int) * (a : Int) + (x : Int), (y : Int) * (a : Int) + (x : Int) + (a : Int), 2, 0⟩] := by
  obtain ⟨h1, h2⟩ := at_node hx' y
  rw [grd]; unfold gcell
  rw [h1, h2, if_neg hx, if_pos hy]
  simp
theorem grd_none {a b x y : Nat} (hx' : x < a) (hx : ¬x + 1 < a) (hy : ¬y + 1 < b) : grd a b (y * a + x + 1) = grd a b (y * a + x) := by
  obtain ⟨h1, h2⟩ := at_node hx' y
  rw [grd]; unfold gcell
  rw [h1, h2, if_neg hx, if_neg hy]
  simp
/-- The table of ways: a block of thirty-six numbers. -/
def GRow (w : World) (G a y x : Nat) : Prop := ∃ cs : Array Value, w.heap[G]? = some (.cells cs 46 (0, 0)) ∧ cs.size = 36 ∧ ∀ r c, c < a → r < 6 → (r < y ∨ (r = y ∧ c < x)) → cs[r * 6 + c]? = some (.int .i64 (pth c r : Int))
theorem GRow.cell {w : World} {G a y x r c : Nat} (h : GRow w G a y x) (hc : c < a) (hr : r < 6) (hd : r < y ∨ (r = y ∧ c < x)) : w.cell? ⟨G, r * 6 + c, none⟩ = some (.int .i64 (pth c r : Int)) := by
  obtain ⟨cs, h1, _, h3⟩ := h
  rw [cell_of_row _ _ _ _ _ _ h1]
  exact h3 r c hc hr hd
theorem GRow.frozen {w : World} {G a y x : Nat} (h : GRow w G a y x) (e : Nat) : w.frozen? ⟨G, e, none⟩ = false := by
  obtain ⟨cs, h1, _⟩ := h
  exact frozen_of_row _ _ _ _ _ h1
theorem GRow.some {w : World} {G a y x e : Nat} (h : GRow w G a y x) (he : e < 36) : ∃ v, w.cell? ⟨G, e, none⟩ = Option.some v := by
  obtain ⟨cs, h1, h2, _⟩ := h
  rw [cell_of_row _ _ _ _ _ _ h1]
  exact ⟨cs[e]'(by omega), Array.getElem?_eq_getElem _⟩
theorem GRow.set {w : World} {G a y x : Nat} (ha : a ≤ 6) (hy : y < 6) (hx : x < a) (h : GRow w G a y x) {v : Int} (hv : v = (pth x y : Int)) : GRow (w.setCell ⟨G, y * 6 + x, none⟩ (.int .i64 v)) G a y (x + 1) := by
  obtain ⟨cs, h1, h2, h3⟩ := h
  refine ⟨_, heap_setCell_same w G (y * 6 + x) cs _ _ h1, by simpa using h2, fun r c hc hr hd => ?_⟩
  rw [Array.getElem?_setIfInBounds]
  by_cases he : y * 6 + x = r * 6 + c
  · obtain rfl : r = y := by omega
    obtain rfl : c = x := by omega
    rw [if_pos rfl, if_pos (by omega), hv]
  · rw [if_neg he]
    refine h3 r c hc hr ?_
    rcases hd with hd | ⟨rfl, hd⟩
    · exact .inl hd
    · refine .inr ⟨rfl, ?_⟩
      have : c ≠ x := fun hcx => he (by rw [hcx])
      omega
theorem GRow.row {w : World} {G a y : Nat} (h : GRow w G a y a) : GRow w G a (y + 1) 0 := by
  obtain ⟨cs, h1, h2, h3⟩ := h
  refine ⟨cs, h1, h2, fun r c hc hr hd => h3 r c hc hr ?_⟩
  rcases Nat.lt_succ_iff_lt_or_eq.1 (show r < y + 1 by omega) with hd | hd
  · exact .inl hd
  · exact .inr ⟨hd, hc⟩
theorem grid_in (h : DagSpec 10 9 12) (a b : Nat) (w : World) (ha : 0 < a) (hb : 0 < b) (ha6 : a ≤ 6) (hb6 : b ≤ 6) :
    Calls Try.prog 6 #[.int .i64 (a : Int), .int .i64 (b : Int)] w fun e w' => e = .returned (.bool true) ∧ Below w.heap.size w w' := by
  have HA := hid (alive_any h w)
  have h36 := mul_le_36 ha6 hb6
  have t0 : decide ((a : Int) < 1) = false := decide_eq_false (by omega)
  have t1 : decide ((6 : Int) < (a : Int)) = false := decide_eq_false (by omega)
  have t2 : decide ((b : Int) < 1) = false := decide_eq_false (by omega)
  have t3 : decide ((6 : Int) < (b : Int)) = false := decide_eq_false (by omega)
  have habi : (a : Int) * (b : Int) = ((a * b : Nat) : Int) := by simp
  have w0 : IntKind.i64.wrap ((a : Int) * (b : Int)) = (a : Int) * (b : Int) := by rw [IntKind.wrap_i64]; omega
  have Hs := hid h
  obtain ⟨i5, hi, hz0, hz1, hz2⟩ := info_parts (show (Try.prog.info? 37).map (fun i => (i.zero, i.size, i.bytes)) = some (some (.agg #[.int .i64 0, .int .i64 0, .int .i64 0, .int .i64 0]), 4, 32) by kernel_rfl)
  have Ai := hid hi; have Az0 := hid hz0; have Az1 := hid hz1; have Az2 := hid hz2
  clear hi hz0 hz1 hz2 h habi
  go_enter Try.func6, Try.ntmps6
  go_wp2_with (go_at_call 7; (with_reducible refine HA.out.mono ?_); rintro e' w1 ⟨rfl, hb1⟩)
  obtain ⟨B, hB⟩ : ∃ B, w1.heap.size = B := ⟨_, rfl⟩
  have HX0 := hid (heap_alloc_new w1 (.cells #[.int .i64 ((a : Int) * (b : Int)), .slice none 0 0] 24))
  have HB0 : Hid (Below B w1 (w1.alloc (.cells #[.int .i64 ((a : Int) * (b : Int)), .slice none 0 0] 24))) := by
    rw [← hB]; exact (Below.refl _ _).alloc (Nat.le_refl _) _
  rw [hB] at HX0
  simp only [hB]
  have HhB := hid hB
  clear hB
  go_loopw [7, 8] (fun ii _ wr => ∃ (y : Nat) (v : Value), y ≤ b ∧ ii = .int .i64 y ∧ Hid (wr.heap[B]? = some (.cells #[.int .i64 ((a : Int) * (b : Int)), v] 24 (0, 0))) ∧ Hid (wr.ownsRow (B + 1) 37 4 v (grd a b (y * a)).length (lcells (grd a b (y * a)))) ∧ Hid (Below B w1 wr)) (fun ii _ _ => b - (intOf ii).toNat)
  case atStart => exact ⟨0, .slice none 0 0, Nat.zero_le _, rfl, HX0, by rw [Nat.zero_mul]; exact World.ownsRow_nil _ _ _ _, HB0⟩
  case round =>
    obtain ⟨y, v, hy, rfl, HX, HO, HB⟩ := hrel
    have ew1 : IntKind.i64.wrap ((y : Int) + 1) = (y : Int) + 1 := by rw [IntKind.wrap_i64]; omega
    by_cases hlt : y < b
    · have hya : y * a + a ≤ 36 := by
        have h1 : (y + 1) * a ≤ b * a := Nat.mul_le_mul (show y + 1 ≤ b by omega) (Nat.le_refl a)
        rw [Nat.succ_mul] at h1
        rw [Nat.mul_comm] at h36
        omega
      have hyai : (y : Int) * (a : Int) = ((y * a : Nat) : Int) := by simp
      go_wp2_with fail
      go_loopw [8] (fun jj wx => ∃ (x : Nat) (u : Value), x ≤ a ∧ jj = .int .i64 x ∧ Hid (wx.heap[B]? = some (.cells #[.int .i64 ((a : Int) * (b : Int)), u] 24 (0, 0))) ∧ Hid (wx.ownsRow (B + 1) 37 4 u (grd a b (y * a + x)).length (lcells (grd a b (y * a + x)))) ∧ Hid (Below B w1 wx)) (fun jj _ => a - (intOf jj).toNat)
      case atStart => exact ⟨0, v, Nat.zero_le _, rfl, HX, HO, HB⟩
      case round =>
        obtain ⟨x, u, hx, rfl, HXx, HOx, HBx⟩ := hrel
        obtain ⟨x0, x1, x2⟩ := box_cells HXx.out
        have ew2 : IntKind.i64.wrap ((x : Int) + 1) = (x : Int) + 1 := by rw [IntKind.wrap_i64]; omega
        have ew3 : IntKind.i64.wrap ((y : Int) * (a : Int)) = (y : Int) * (a : Int) := by rw [IntKind.wrap_i64]; omega
        have ew4 : IntKind.i64.wrap ((y : Int) * (a : Int) + (x : Int)) = (y : Int) * (a : Int) + (x : Int) := by rw [IntKind.wrap_i64]; omega
        have ew5 : IntKind.i64.wrap ((y : Int) * (a : Int) + (x : Int) + 1) = (y : Int) * (a : Int) + (x : Int) + 1 := by rw [IntKind.wrap_i64]; omega
        have ew6 : IntKind.i64.wrap ((y : Int) * (a : Int) + (x : Int) + (a : Int)) = (y : Int) * (a : Int) + (x : Int) + (a : Int) := by rw [IntKind.wrap_i64]; omega
        by_cases hlx : x < a
        · have f1 := x2 1
          have hBs : B < wr.heap.size := heap_lt2 HXx.out
          have hgl := grd_len a b (y * a + x)
          clear x2 hyai
          by_cases hrx : x + 1 < a
          · have d1 : decide ((x : Int) + 1 < (a : Int)) = true := decide_eq_true (by omega)
            by_cases hdy : y + 1 < b
            · have d2 : decide ((y : Int) + 1 < (b : Int)) = true := decide_eq_true (by omega)
              have HL := hid (grd_both hrx hdy)
              have HLn : Hid ((grd a b (y * a + x + 1)).length = (grd a b (y * a + x)).length + 1 + 1) := by show _ = _; rw [HL.out]; simp
              have HLc : Hid (lcells (grd a b (y * a + x + 1)) = (lcells (grd a b (y * a + x)) ++ lcells [⟨(y : Int) * (a : Int) + (x : Int), (y : Int) * (a : Int) + (x : Int) + 1, 2, 0⟩]) ++ lcells [⟨(y : Int) * (a : Int) + (x : Int), (y : Int) * (a : Int) + (x : Int) + (a : Int), 2, 0⟩]) := by show _ = _; rw [HL.out, lcells_app, lcells_app]
              go_wp2_with (first
                | (at_builtin; refine wpList_append_own _ rfl (.tmp 54) (.tmp 67) 22 rfl (B + 1) 37 i5 (.agg #[.int .i64 0, .int .i64 0, .int .i64 0, .int .i64 0]) 4 32 Try.underlying22 Ai.out Az0.out Az1.out Az2.out rfl (by decide) _ _ _ rfl (HOx.out.alloc _) ⟨wr.heap.size, 0, none⟩ 1 1 (lcells [⟨(y : Int) * (a : Int) + (x : Int), (y : Int) * (a : Int) + (x : Int) + 1, 2, 0⟩]) rfl rfl (new_row (lnk_row _ _ _ _)) (lcells_one _) (by unfold maxLen; omega) (by omega) (by first | omega | (simp; omega)) ?_; intro v8 w8 hown8 hg8 _; obtain ⟨A8, c8, rfl⟩ := own_form hown8; have hX8 := box_app HXx.out (by first | omega | (simp; omega)) HOx.out hg8; obtain ⟨q80, q81, q82⟩ := box_cells hX8; have f8 := q82 1; have HX8 := hid hX8; have HO8 := hid hown8; have HB8 := hid (Below.grown (HBx.out.alloc (by first | omega | (simp; omega)) _) hg8 (by first | omega | (simp; omega)) (fun q hq => Nat.le_trans (Nat.le_succ B) (HOx.out.lt q hq).1)); have hBs8 : B < w8.heap.size := heap_lt2 hX8; clear hown8 hX8 q82)
                | (at_builtin; have hO88 : (w8.setCell ⟨B, 1, none⟩ (.slice A8 ((grd a b (y * a + x)).length + 1) c8)).ownsRow (B + 1) 37 4 (.slice A8 ((grd a b (y * a + x)).length + 1) c8) ((grd a b (y * a + x)).length + 1) (lcells (grd a b (y * a + x)) ++ lcells [⟨(y : Int) * (a : Int) + (x : Int), (y : Int) * (a : Int) + (x : Int) + 1, 2, 0⟩]) := own_set HO8.out (by show B < B + 1; omega) _; have hX88 : (w8.setCell ⟨B, 1, none⟩ (.slice A8 ((grd a b (y * a + x)).length + 1) c8)).heap[B]? = some (.cells #[.int .i64 ((a : Int) * (b : Int)), (.slice A8 ((grd a b (y * a + x)).length + 1) c8)] 24 (0, 0)) := box_set1 HX8.out; refine wpList_append_own _ rfl (.tmp 75) (.tmp 89) 22 rfl (B + 1) 37 i5 (.agg #[.int .i64 0, .int .i64 0, .int .i64 0, .int .i64 0]) 4 32 Try.underlying22 Ai.out Az0.out Az1.out Az2.out rfl (by decide) _ _ _ rfl (hO88.alloc _) ⟨w8.heap.size, 0, none⟩ 1 1 (lcells [⟨(y : Int) * (a : Int) + (x : Int), (y : Int) * (a : Int) + (x : Int) + (a : Int), 2, 0⟩]) rfl rfl (by rw [← show (w8.setCell ⟨B, 1, none⟩ (.slice A8 ((grd a b (y * a + x)).length + 1) c8)).heap.size = w8.heap.size from by simp]; exact new_row (lnk_row _ _ _ _)) (lcells_one _) (by unfold maxLen; omega) (by omega) (by first | omega | (simp; omega)) ?_; intro v9 w9 hown9 hg9 _; obtain ⟨A9, c9, rfl⟩ := own_form hown9; have hX9 := box_app hX88 (by first | omega | (simp; omega)) hO88 hg9; obtain ⟨q90, q91, q92⟩ := box_cells hX9; have f9 := q92 1; have HX9 := hid hX9; have HO9 := hid hown9; have hbb : Below B w1 (w8.setCell ⟨B, 1, none⟩ (.slice A8 ((grd a b (y * a + x)).length + 1) c8)) := HB8.out.setCell (Nat.le_refl _) _; have hs8 : (w8.setCell ⟨B, 1, none⟩ (.slice A8 ((grd a b (y * a + x)).length + 1) c8)).heap.size = w8.heap.size := (by simp); have HB9 := hid (Below.grown (hbb.alloc (by first | omega | (simp; omega)) _) hg9 (by first | omega | (simp; omega)) (fun q hq => Nat.le_trans (Nat.le_succ B) (hO88.lt q hq).1)); have hBs9 : B < w9.heap.size := heap_lt2 hX9; clear hown9 hX9 q92))
              clear ew1 ew2 ew3 ew4 ew5 ew6
              go_roundw
              case rel => exact ⟨x + 1, _, by omega, by go_num, box_set1 HX9.out, by rw [show y * a + (x + 1) = y * a + x + 1 from rfl, HLn.out, HLc.out]; exact own_set HO9.out (by show B < B + 1; omega) _, HB9.out.setCell (Nat.le_refl _) _⟩
              case measure => simp [intOf]; omega
            · have d2 : decide ((y : Int) + 1 < (b : Int)) = false := decide_eq_false (by omega)
              have HL := hid (grd_right hrx hdy)
              have HLn : Hid ((grd a b (y * a + x + 1)).length = (grd a b (y * a + x)).length + 1) := by show _ = _; rw [HL.out]; simp
              have HLc : Hid (lcells (grd a b (y * a + x + 1)) = lcells (grd a b (y * a + x)) ++ lcells [⟨(y : Int) * (a : Int) + (x : Int), (y : Int) * (a : Int) + (x : Int) + 1, 2, 0⟩]) := by show _ = _; rw [HL.out, lcells_app]
              go_wp2_with (at_builtin; refine wpList_append_own _ rfl (.tmp 54) (.tmp 67) 22 rfl (B + 1) 37 i5 (.agg #[.int .i64 0, .int .i64 0, .int .i64 0, .int .i64 0]) 4 32 Try.underlying22 Ai.out Az0.out Az1.out Az2.out rfl (by decide) _ _ _ rfl (HOx.out.alloc _) ⟨wr.heap.size, 0, none⟩ 1 1 (lcells [⟨(y : Int) * (a : Int) + (x : Int), (y : Int) * (a : Int) + (x : Int) + 1, 2, 0⟩]) rfl rfl (new_row (lnk_row _ _ _ _)) (lcells_one _) (by unfold maxLen; omega) (by omega) (by first | omega | (simp; omega)) ?_; intro v8 w8 hown8 hg8 _; obtain ⟨A8, c8, rfl⟩ := own_form hown8; have hX8 := box_app HXx.out (by first | omega | (simp; omega)) HOx.out hg8; obtain ⟨q80, q81, q82⟩ := box_cells hX8; have f8 := q82 1; have HX8 := hid hX8; have HO8 := hid hown8; have HB8 := hid (Below.grown (HBx.out.alloc (by first | omega | (simp; omega)) _) hg8 (by first | omega | (simp; omega)) (fun q hq => Nat.le_trans (Nat.le_succ B) (HOx.out.lt q hq).1)); have hBs8 : B < w8.heap.size := heap_lt2 hX8; clear hown8 hX8 q82)
              clear ew1 ew2 ew3 ew4 ew5 ew6
              go_roundw
              case rel => exact ⟨x + 1, _, by omega, by go_num, box_set1 HX8.out, by rw [show y * a + (x + 1) = y * a + x + 1 from rfl, HLn.out, HLc.out]; exact own_set HO8.out (by show B < B + 1; omega) _, HB8.out.setCell (Nat.le_refl _) _⟩
              case measure => simp [intOf]; omega
          · have d1 : decide ((x : Int) + 1 < (a : Int)) = false := decide_eq_false (by omega)
            by_cases hdy : y + 1 < b
            · have d2 : decide ((y : Int) + 1 < (b : Int)) = true := decide_eq_true (by omega)
              have HL := hid (grd_down hlx hrx hdy)
              have HLn : Hid ((grd a b (y * a + x + 1)).length = (grd a b (y * a + x)).length + 1) := by show _ = _; rw [HL.out]; simp
              have HLc : Hid (lcells (grd a b (y * a + x + 1)) = lcells (grd a b (y * a + x)) ++ lcells [⟨(y : Int) * (a : Int) + (x : Int), (y : Int) * (a : Int) + (x : Int) + (a : Int), 2, 0⟩]) := by show _ = _; rw [HL.out, lcells_app]
              go_wp2_with (at_builtin; refine wpList_append_own _ rfl (.tmp 75) (.tmp 89) 22 rfl (B + 1) 37 i5 (.agg #[.int .i64 0, .int .i64 0, .int .i64 0, .int .i64 0]) 4 32 Try.underlying22 Ai.out Az0.out Az1.out Az2.out rfl (by decide) _ _ _ rfl (HOx.out.alloc _) ⟨wr.heap.size, 0, none⟩ 1 1 (lcells [⟨(y : Int) * (a : Int) + (x : Int), (y : Int) * (a : Int) + (x : Int) + (a : Int), 2, 0⟩]) rfl rfl (new_row (lnk_row _ _ _ _)) (lcells_one _) (by unfold maxLen; omega) (by omega) (by first | omega | (simp; omega)) ?_; intro v8 w8 hown8 hg8 _; obtain ⟨A8, c8, rfl⟩ := own_form hown8; have hX8 := box_app HXx.out (by first | omega | (simp; omega)) HOx.out hg8; obtain ⟨q80, q81, q82⟩ := box_cells hX8; have f8 := q82 1; have HX8 := hid hX8; have HO8 := hid hown8; have HB8 := hid (Below.grown (HBx.out.alloc (by first | omega | (simp; omega)) _) hg8 (by first | omega | (simp; omega)) (fun q hq => Nat.le_trans (Nat.le_succ B) (HOx.out.lt q hq).1)); have hBs8 : B < w8.heap.size := heap_lt2 hX8; clear hown8 hX8 q82)
              clear ew1 ew2 ew3 ew4 ew5 ew6
              go_roundw
              case rel => exact ⟨x + 1, _, by omega, by go_num, box_set1 HX8.out, by rw [show y * a + (x + 1) = y * a + x + 1 from rfl, HLn.out, HLc.out]; exact own_set HO8.out (by show B < B + 1; omega) _, HB8.out.setCell (Nat.le_refl _) _⟩
              case measure => simp [intOf]; omega
            · have d2 : decide ((y : Int) + 1 < (b : Int)) = false := decide_eq_false (by omega)
              have HL := hid (grd_none hlx hrx hdy)
              go_wp2_with fail
              clear ew1 ew2 ew3 ew4 ew5 ew6
              go_roundw
              case rel => exact ⟨x + 1, _, by omega, by go_num, HXx, by rw [show y * a + (x + 1) = y * a + x + 1 from rfl, HL.out]; exact HOx.out, HBx⟩
              case measure => simp [intOf]; omega
        · obtain rfl : x = a := by omega
          have HO2 : Hid (wr.ownsRow (B + 1) 37 4 u (grd x b ((y + 1) * x)).length (lcells (grd x b ((y + 1) * x)))) := by
            show _
            rw [Nat.succ_mul]; exact HOx.out
          clear x2 ew2 ew3 ew4 ew5 ew6 hyai
          go_wp2_with fail
          clear ew1
          go_roundw
          case rel => exact ⟨y + 1, u, by omega, by go_num, HXx, HO2, HBx⟩
          case measure => simp [intOf]; omega
    · obtain rfl : b = y := by omega
      obtain ⟨x0, x1, _⟩ := box_cells HX.out
      go_wp2_with fail
      obtain ⟨wz, hwz⟩ : ∃ wz, wz = wr := ⟨_, rfl⟩
      subst hwz
      obtain ⟨G, hG⟩ : ∃ G, wz.heap.size = G := ⟨_, rfl⟩
      have HbG : Hid (Below G wz (wz.alloc (.cells #[.int .i64 0, .int .i64 0, .int .i64 0, .int .i64 0, .int .i64 0, .int .i64 0, .int .i64 0, .int .i64 0, .int .i64 0, .int .i64 0, .int .i64 0, .int .i64 0, .int .i64 0, .int .i64 0, .int .i64 0, .int .i64 0, .int .i64 0, .int .i64 0, .int .i64 0, .int .i64 0, .int .i64 0, .int .i64 0, .int .i64 0, .int .i64 0, .int .i64 0, .int .i64 0, .int .i64 0, .int .i64 0, .int .i64 0, .int .i64 0, .int .i64 0, .int .i64 0, .int .i64 0, .int .i64 0, .int .i64 0, .int .i64 0] 46))) := by show _; rw [← hG]; exact (Below.refl _ _).alloc (Nat.le_refl _) _
      have HG0 : Hid (GRow (wz.alloc (.cells #[.int .i64 0, .int .i64 0, .int .i64 0, .int .i64 0, .int .i64 0, .int .i64 0, .int .i64 0, .int .i64 0, .int .i64 0, .int .i64 0, .int .i64 0, .int .i64 0, .int .i64 0, .int .i64 0, .int .i64 0, .int .i64 0, .int .i64 0, .int .i64 0, .int .i64 0, .int .i64 0, .int .i64 0, .int .i64 0, .int .i64 0, .int .i64 0, .int .i64 0, .int .i64 0, .int .i64 0, .int .i64 0, .int .i64 0, .int .i64 0, .int .i64 0, .int .i64 0, .int .i64 0, .int .i64 0, .int .i64 0, .int .i64 0] 46)) G a 0 0) := by
        show _
        rw [← hG]
        exact ⟨_, heap_alloc_new wz _, rfl, fun r c _ _ hd => by omega⟩
      have HhG := hid hG
      simp only [hG]
      clear hG x0 x1
      go_loopw [10, 11] (fun ii _ wx => ∃ (y : Nat), y ≤ b ∧ ii = .int .i64 y ∧ Hid (GRow wx G a y 0) ∧ Hid (Below G wz wx)) (fun ii _ _ => b - (intOf ii).toNat)
      case atStart => exact ⟨0, Nat.zero_le _, rfl, HG0, HbG⟩
      case round =>
        obtain ⟨y, hyb, rfl, HGr, HGb⟩ := hrel
        by_cases hlt : y < b
        · have ew1 : IntKind.i64.wrap ((y : Int) + 1) = (y : Int) + 1 := by rw [IntKind.wrap_i64]; omega
          go_wp2_with fail
          go_loopw [11] (fun jj wx => ∃ (x : Nat), x ≤ a ∧ jj = .int .i64 x ∧ Hid (GRow wx G a y x) ∧ Hid (Below G wz wx)) (fun jj _ => a - (intOf jj).toNat)
          case atStart => exact ⟨0, Nat.zero_le _, rfl, HGr, HGb⟩
          case round =>
            obtain ⟨x, hxa, rfl, HGx, HGc⟩ := hrel
            by_cases hlx : x < a
            · have ew2 : IntKind.i64.wrap ((x : Int) + 1) = (x : Int) + 1 := by rw [IntKind.wrap_i64]; omega
              obtain ⟨z0, hz0⟩ := HGx.out.some (e := y * 6 + x) (by omega)
              have fz := HGx.out.frozen (y * 6 + x)
              by_cases hx0 : x = 0
              · subst hx0
                have HS := hid (HGx.out.set ha6 (by omega) hlx (v := 1) (by rw [pth_zero]; rfl))
                rw [Nat.add_zero] at hz0 fz
                go_wp2_with fail
                refine ⟨⟨1, by omega, rfl, ?_, HGc.out.setCell (Nat.le_refl _) _⟩, by simp [intOf]; omega⟩
                have := HS.out
                rw [Nat.add_zero] at this
                exact this
              · have u1 : ((x : Int) == 0) = false := by simp; omega
                by_cases hy0 : y = 0
                · subst hy0
                  have HS := hid (HGx.out.set ha6 (by omega) hlx (v := 1) (by rw [pth_left]; rfl))
                  have e4 : (x : Int) < 6 := by omega
                  rw [Nat.zero_mul, Nat.zero_add] at hz0 fz HS
                  go_wp2_with fail
                  clear ew1 ew2
                  go_roundw
                  case rel => exact ⟨x + 1, by omega, by go_num, HS.out, HGc.out.setCell (Nat.le_refl _) _⟩
                  case measure => simp [intOf]; omega
                · have u2 : ((y : Int) == 0) = false := by simp; omega
                  obtain ⟨x', hx'⟩ : ∃ x', x = x' + 1 := ⟨x - 1, by omega⟩
                  obtain ⟨y', hy'⟩ : ∃ y', y = y' + 1 := ⟨y - 1, by omega⟩
                  have c1 := HGx.out.cell (r := y') (c := x) (by omega) (by omega) (.inl (by omega))
                  have c2 := HGx.out.cell (r := y) (c := x') (by omega) (by omega) (.inr ⟨rfl, by omega⟩)
                  have b1 := pth_le _ x y' rfl
                  have b2 := pth_le _ x' y rfl
                  have hsum : (pth x y' : Int) + (pth x' y : Int) = (pth x y : Int) := by rw [hx', hy', pth_step]; omega
                  obtain ⟨p1, hp1⟩ : ∃ p, pth x y' = p := ⟨_, rfl⟩
                  obtain ⟨p2, hp2⟩ : ∃ p, pth x' y = p := ⟨_, rfl⟩
                  have hpw : 2 ^ (x + y') ≤ 2 ^ 12 := Nat.pow_le_pow_right (by decide) (by omega)
                  have hpw2 : 2 ^ (x' + y) ≤ 2 ^ 12 := Nat.pow_le_pow_right (by decide) (by omega)
                  rw [hp1] at c1 b1 hsum
                  rw [hp2] at c2 b2 hsum
                  have ew3 : IntKind.i64.wrap ((p1 : Int) + (p2 : Int)) = (p1 : Int) + (p2 : Int) := by rw [IntKind.wrap_i64]; omega
                  have ew4 : IntKind.i64.wrap ((y : Int) - 1) = (y' : Int) := by rw [IntKind.wrap_i64]; omega
                  have ew5 : IntKind.i64.wrap ((x : Int) - 1) = (x' : Int) := by rw [IntKind.wrap_i64]; omega
                  have Hsum := hid hsum
                  have e1 : (y' : Int) < 6 := by omega
                  have e2 : (y : Int) < 6 := by omega
                  have e3 : (x' : Int) < 6 := by omega
                  have e4 : (x : Int) < 6 := by omega
                  clear b1 b2 hp1 hp2 hpw hpw2 hsum hx' hy'
                  go_wp2_with fail
                  go_still_tail 17, (by kernel_rfl)
                  change wpList _ _ _ _ _ wr.drew
                  have hz1 : wr.drew.cell? ⟨G, y * 6 + x, none⟩ = some z0 := hz0
                  have fz1 : wr.drew.frozen? ⟨G, y * 6 + x, none⟩ = false := fz
                  have HGd : Hid (GRow wr.drew G a y x) := HGx
                  have HS1 : Hid (GRow (wr.drew.setCell ⟨G, y * 6 + x, none⟩ (.int .i64 ((p1 : Int) + (p2 : Int)))) G a y (x + 1)) := HGd.out.set ha6 (by omega) hlx Hsum.out
                  have HBd : Hid (Below G wz wr.drew) := HGc.out.drew
                  obtain ⟨wd, hwd⟩ : ∃ wd, wr.drew = wd := ⟨_, rfl⟩
                  rw [hwd] at hz1 fz1 HS1 HBd ⊢
                  clear hwd hz0 fz c1 c2 HGd
                  go_wp2_with fail
                  clear ew1 ew2 ew3 ew4 ew5
                  go_roundw
                  case rel => exact ⟨x + 1, by omega, by go_num, HS1.out, HBd.out.setCell (Nat.le_refl _) _⟩
                  case measure => simp [intOf]; omega
            · obtain rfl : x = a := by omega
              go_wp2_with fail
              clear ew1
              go_roundw
              case rel => exact ⟨y + 1, by omega, by go_num, HGx.out.row, HGc⟩
              case measure => simp [intOf]; omega
        · obtain rfl : b = y := by omega
          have hbG : B < G := by rw [← HhG.out]; exact heap_lt2 HX.out
          have hbz : Below wz.heap.size wz wr := by rw [HhG.out]; exact HGb.out
          have HXx : Hid (wr.heap[B]? = some (.cells #[.int .i64 ((a : Int) * (b : Int)), v] 24 (0, 0))) := box_below HX.out hbz (by rw [HhG.out]; exact hbG)
          have hO9 := own_below HO.out hbz
          rw [Nat.mul_comm b a] at hO9
          have HOx := hid hO9
          have hGl : G < wr.heap.size := by
            obtain ⟨cs, h1, _⟩ := HGr.out
            exact heap_lt2 h1
          obtain ⟨a', ha'⟩ : ∃ a', a = a' + 1 := ⟨a - 1, by omega⟩
          obtain ⟨b', hb'⟩ : ∃ b', b = b' + 1 := ⟨b - 1, by omega⟩
          have hcell := HGr.out.cell (r := b') (c := a') (by omega) (by omega) (.inl (by omega))
          have hab : ((a * b : Nat) : Int) = (a : Int) * (b : Int) := by simp
          have hpos : 0 < a * b := Nat.mul_pos ha hb
          have hlast : ((a * b - 1 : Nat) : Int) = (a : Int) * (b : Int) - 1 := by omega
          have hsum : ((a + b - 2 : Nat) : Int) = (a : Int) + (b : Int) - 2 := by omega
          have hway := grd_ways ha hb ha6 hb6
          have huse := grd_uses ha hb ha6 hb6
          rw [hab, hlast] at hway huse
          obtain ⟨A8, c8, rfl⟩ := own_form HOx.out
          obtain ⟨mk, hmk⟩ : ∃ mk, (grd a b (a * b)).length = mk := ⟨_, rfl⟩
          have hmk2 : mk ≤ 72 := by rw [← hmk]; have := grd_len a b (a * b); omega
          rw [hmk] at huse
          obtain ⟨A9, c9, he9, hle9, hr9⟩ := own_lnks HOx.out rfl
          simp only [Value.slice.injEq, true_and] at he9
          obtain ⟨rfl, rfl⟩ := he9
          have hBs : B < wr.heap.size := heap_lt2 HXx.out
          have HGa := hid (fun (w' : World) (hh : Below wr.heap.size wr w') => (⟨hr9.on hh, by omega, hle9, fun hA => by
            subst hA
            rcases HOx.out.2 with ⟨h1, h2⟩ | ⟨g, cap, cur, h1, _⟩
            · simp only [Value.slice.injEq] at h1; exact ⟨h2, h1.2.2⟩
            · simp at h1, by omega, by omega⟩ : GArg w' ((a : Int) * (b : Int)) A8 (grd a b (a * b)).length c8 (grd a b (a * b))))
          have hpl : pth a' b' ≤ 4096 := Nat.le_trans (pth_le _ a' b' rfl) (Nat.le_trans (Nat.pow_le_pow_right (by decide) (show a' + b' ≤ 12 by omega)) (by decide))
          have HH := hid (fun (w' : World) (hh : Below wr.heap.size wr w') => (Hs.out.hops ((a : Int) * (b : Int)) A8 (grd a b (a * b)).length c8 (grd a b (a * b)) none 0 0 [] 0 ((a : Int) * (b : Int) - 1) w' (HGa.out w' hh) (DArg.nil w') ⟨by omega, by omega⟩ ⟨by omega, by omega⟩).mono (fun _ _ h2 => (⟨h2.1, hh.trans (h2.2.mono hh.size)⟩ : _ ∧ Below wr.heap.size wr _)))
          have HC := hid (fun (w' : World) (hh : Below wr.heap.size wr w') => (Hs.out.count ((a : Int) * (b : Int)) A8 (grd a b (a * b)).length c8 (grd a b (a * b)) none 0 0 [] 0 ((a : Int) * (b : Int) - 1) w' (HGa.out w' hh) (DArg.nil w') ⟨by omega, by omega⟩ ⟨by omega, by omega⟩).mono (fun _ _ h2 => (⟨h2.1, hh.trans (h2.2.mono hh.size)⟩ : _ ∧ Below wr.heap.size wr _)))
          have HU := hid (fun (w' : World) (hh : Below wr.heap.size wr w') => Hs.out.uses ((a : Int) * (b : Int)) A8 (grd a b (a * b)).length c8 (grd a b (a * b)) none 0 0 [] 0 ((a : Int) * (b : Int) - 1) w' (HGa.out w' hh) (DArg.nil w') ⟨by omega, by omega⟩ ⟨by omega, by omega⟩)
          rw [show a - 1 = a' by omega, show b - 1 = b' by omega] at hway
          simp only [hway, hsum, hmk] at HH HC
          have HU2 : Hid (∀ w', Below wr.heap.size wr w' → Calls Try.prog 12 #[.agg #[.int .i64 ((a : Int) * (b : Int)), .slice A8 mk c8], .slice none 0 0, .int .i64 0, .int .i64 ((a : Int) * (b : Int) - 1)] w' fun e w'' => ∃ A5 c5, e = .returned (.slice A5 mk c5) ∧ Below wr.heap.size wr w'') := by
            intro w' hh
            have h1 := HU.out w' hh
            unfold RowAns at h1
            rw [huse, hmk] at h1
            exact h1.mono fun _ _ ⟨A5, c5, e1, _, e3⟩ => ⟨A5, c5, e1, hh.trans (e3.mono hh.size)⟩
          have HSc : Hid (∀ w', Below wr.heap.size wr w' → (w'.cell? ⟨B, 0, none⟩ = some (.int .i64 ((a : Int) * (b : Int))) ∧ w'.cell? ⟨B, 1, none⟩ = some (.slice A8 mk c8) ∧ w'.cell? ⟨G, b' * 6 + a', none⟩ = some (.int .i64 (pth a' b' : Int)))) := fun w' hh => ⟨(box_cells (box_below HXx.out hh hBs)).1, by rw [← hmk]; exact (box_cells (box_below HXx.out hh hBs)).2.1, (hh.cell (p := ⟨G, b' * 6 + a', none⟩) hGl).trans hcell⟩
          obtain ⟨p, hp⟩ : ∃ p, pth a' b' = p := ⟨_, rfl⟩
          rw [hp] at HSc HC hpl
          have s1 : ((p : Int) == (p : Int)) = true := by simp
          have s2 : ((a : Int) + (b : Int) - 2 == (a : Int) + (b : Int) - 2) = true := by simp
          have s3 : ((mk : Int) == (mk : Int)) = true := by simp
          have ew3 : IntKind.i64.wrap ((a : Int) * (b : Int) - 1) = (a : Int) * (b : Int) - 1 := by rw [IntKind.wrap_i64]; omega
          have ew4 : IntKind.i64.wrap ((b : Int) - 1) = (b' : Int) := by rw [IntKind.wrap_i64]; omega
          have ew5 : IntKind.i64.wrap ((a : Int) - 1) = (a' : Int) := by rw [IntKind.wrap_i64]; omega
          have ew6 : IntKind.i64.wrap ((a : Int) + (b : Int)) = (a : Int) + (b : Int) := by rw [IntKind.wrap_i64]; omega
          have ew7 : IntKind.i64.wrap ((a : Int) + (b : Int) - 2) = (a : Int) + (b : Int) - 2 := by rw [IntKind.wrap_i64]; omega
          have e1 : (b' : Int) < 6 := by omega
          have e2 : (a' : Int) < 6 := by omega
          obtain ⟨d0a, d0b, d0c⟩ := HSc.out wr (Below.refl _ _)
          have Hbz := hid (HB.out.trans (HGb.out.mono (by omega)))
          clear HU hway huse HGa hp hr9 hle9 hsum hlast hab hpos hcell ha' hb' HX HXx HO HOx hO9 HGr hbz hmk HB
          go_wp2_with (go_at_call 9; (with_reducible refine (HH.out _ (Below.refl _ _)).mono ?_); rintro e' w2 ⟨rfl, h2⟩; obtain ⟨d1a, d1b, d1c⟩ := HSc.out _ h2)
          have h2d := h2.drew
          obtain ⟨d2a, d2b, d2c⟩ := HSc.out _ h2d
          go_region_held3 (fun w' => w'.cell? ⟨B, 0, none⟩ = some (.int .i64 ((a : Int) * (b : Int))) ∧ w'.cell? ⟨B, 1, none⟩ = some (.slice A8 mk c8) ∧ w'.cell? ⟨G, b' * 6 + a', none⟩ = some (.int .i64 (p : Int)))
            (first
              | go_keep
              | exact HSc.out _ h4
              | exact HSc.out _ h3)
            (first
              | (go_at_call 10; (with_reducible refine (HC.out _ h2d).mono ?_); rintro e' w3 ⟨rfl, h3⟩)
              | (go_at_call 12; (with_reducible refine (HU2.out _ h3).mono ?_); rintro e' w4 ⟨A5, c5, rfl, h4⟩))
          go_wp2_with fail
          go_ret
          have h9 := Hbz.out
          rw [← HhB.out] at h9
          exact ⟨rfl, hb1.trans ((h9.trans (h4.mono h9.size)).mono hb1.size)⟩
theorem grid_any (h : DagSpec 10 9 12) (n k : Int) (w : World) :
    Calls Try.prog 6 #[.int .i64 n, .int .i64 k] w fun e w' => e = .returned (.bool true) ∧ Below w.heap.size w w' := by
  by_cases hn : 1 ≤ n ∧ n ≤ 6 ∧ 1 ≤ k ∧ k ≤ 6
  · obtain ⟨a, rfl⟩ := Int.eq_ofNat_of_zero_le (show 0 ≤ n by omega)
    obtain ⟨b, rfl⟩ := Int.eq_ofNat_of_zero_le (show 0 ≤ k by omega)
    exact grid_in h a b w (by omega) (by omega) (by omega) (by omega)
  · exact grid_not h n k w hn
end Go.Proofs.Ytcjilpgblbnebaa
