/- DagDoubles. -/
import Derived.Test.YtcjilpgblbnebaaDgF
import Derived.Test.YtcjilpgblbnebaaDgL
import Derived.Deep.RegionHeld3
namespace Go.Proofs.Ytcjilpgblbnebaa
open Go.RowKit
set_option maxHeartbeats 12800000
set_option maxRecDepth 100000
theorem doubles_not (h : DagSpec 10 9 12) (n k : Int) (w : World) (hn : ¬(1 ≤ n ∧ n ≤ 40 ∧ 1 ≤ k ∧ k ≤ 3)) :
    Calls Try.prog 4 #[.int .i64 n, .int .i64 k] w fun e w' => e = .returned (.bool true) ∧ Below w.heap.size w w' := by
  have HA := hid (alive_any h w)
  clear h
  by_cases c0 : ¬n < 1
  · have t0 : decide (n < 1) = false := by simp; omega
    by_cases c1 : ¬40 < n
    · have t1 : decide (40 < n) = false := by simp; omega
      by_cases c2 : ¬k < 1
      · have t2 : decide (k < 1) = false := by simp; omega
        by_cases c3 : ¬3 < k
        · have t3 : decide (3 < k) = false := by simp; omega
          exact absurd ⟨by omega, by omega, by omega, by omega⟩ hn
        · have t3 : decide (3 < k) = true := by simp; omega
          clear hn c0 c1 c2 c3
          go_enter Try.func4, Try.ntmps4
          go_wp2_with (go_at_call 7; (with_reducible refine HA.out.mono ?_); rintro e' w1 ⟨rfl, hb1⟩)
          go_ret
          exact ⟨rfl, hb1⟩
      · have t2 : decide (k < 1) = true := by simp; omega
        clear hn c0 c1 c2
        go_enter Try.func4, Try.ntmps4
        go_wp2_with (go_at_call 7; (with_reducible refine HA.out.mono ?_); rintro e' w1 ⟨rfl, hb1⟩)
        go_ret
        exact ⟨rfl, hb1⟩
    · have t1 : decide (40 < n) = true := by simp; omega
      clear hn c0 c1
      go_enter Try.func4, Try.ntmps4
      go_wp2_with (go_at_call 7; (with_reducible refine HA.out.mono ?_); rintro e' w1 ⟨rfl, hb1⟩)
      go_ret
      exact ⟨rfl, hb1⟩
  · have t0 : decide (n < 1) = true := by simp; omega
    clear hn c0
    go_enter Try.func4, Try.ntmps4
    go_wp2_with (go_at_call 7; (with_reducible refine HA.out.mono ?_); rintro e' w1 ⟨rfl, hb1⟩)
    go_ret
    exact ⟨rfl, hb1⟩
theorem heap_lt2 {w : World} {b : Nat} {o : Obj} (h : w.heap[b]? = some o) : b < w.heap.size := (Array.getElem?_eq_some_iff.1 h).1
theorem lnk_row (a b m c : Int) : #[Value.int .i64 a, Value.int .i64 b, Value.int .i64 m, Value.int .i64 c] = (lcells [⟨a, b, m, c⟩]).toArray := rfl
theorem cap_mul (a k : Nat) (hk : 0 < k) : min (min a capB * k) capB = min (a * k) capB := by
  by_cases h : a ≤ capB
  · rw [Nat.min_eq_left h]
  · have h1 : capB ≤ capB * k := Nat.le_mul_of_pos_right _ hk
    have h2 : capB ≤ a * k := Nat.le_trans h1 (Nat.mul_le_mul (by omega) (Nat.le_refl k))
    rw [Nat.min_eq_right (show capB ≤ a by omega), Nat.min_eq_right h1, Nat.min_eq_right h2]
theorem doubles_in (h : DagSpec 10 9 12) (m k : Nat) (w : World) (hm : m < 40) (hk : 0 < k) (hk3 : k ≤ 3) :
    Calls Try.prog 4 #[.int .i64 ((m : Int) + 1), .int .i64 (k : Int)] w fun e w' => e = .returned (.bool true) ∧ Below w.heap.size w w' := by
  have HA := hid (alive_any h w)
  have hmk : m * k ≤ 120 := Nat.le_trans (Nat.mul_le_mul (show m ≤ 39 by omega) hk3) (by omega)
  have t0 : decide ((m : Int) + 1 < 1) = false := decide_eq_false (by omega)
  have t1 : decide ((40 : Int) < (m : Int) + 1) = false := decide_eq_false (by omega)
  have t2 : decide ((k : Int) < 1) = false := decide_eq_false (by omega)
  have t3 : decide ((3 : Int) < (k : Int)) = false := decide_eq_false (by omega)
  have w0 : IntKind.i64.wrap (m : Int) = (m : Int) := by rw [IntKind.wrap_i64]; omega
  have hmki : (m : Int) * (k : Int) = ((m * k : Nat) : Int) := by simp
  have w1' : IntKind.i64.wrap ((m : Int) * (k : Int)) = (m : Int) * (k : Int) := by rw [IntKind.wrap_i64]; omega
  have t4 : decide ((120 : Int) < (m : Int) * (k : Int)) = false := decide_eq_false (by omega)
  have Hs := hid h
  obtain ⟨i5, hi, hz0, hz1, hz2⟩ := info_parts (show (Try.prog.info? 37).map (fun i => (i.zero, i.size, i.bytes)) = some (some (.agg #[.int .i64 0, .int .i64 0, .int .i64 0, .int .i64 0]), 4, 32) by kernel_rfl)
  have Ai := hid hi; have Az0 := hid hz0; have Az1 := hid hz1; have Az2 := hid hz2
  clear hi hz0 hz1 hz2 h hmki
  go_enter Try.func4, Try.ntmps4
  go_wp2_with (go_at_call 7; (with_reducible refine HA.out.mono ?_); rintro e' w1 ⟨rfl, hb1⟩)
  obtain ⟨B, hB⟩ : ∃ B, w1.heap.size = B := ⟨_, rfl⟩
  have HX0 := hid (heap_alloc_new w1 (.cells #[.int .i64 ((m : Int) + 1), .slice none 0 0] 24))
  have HB0 : Hid (Below B w1 (w1.alloc (.cells #[.int .i64 ((m : Int) + 1), .slice none 0 0] 24))) := by
    rw [← hB]; exact (Below.refl _ _).alloc (Nat.le_refl _) _
  rw [hB] at HX0
  simp only [hB]
  have HhB := hid hB
  clear hB
  go_loopw [7, 8] (fun ii _ wr => ∃ (i : Nat) (v : Value), i ≤ m ∧ ii = .int .i64 i ∧ Hid (wr.heap[B]? = some (.cells #[.int .i64 ((m : Int) + 1), v] 24 (0, 0))) ∧ Hid (wr.ownsRow (B + 1) 37 4 v (i * k) (lcells (dbl k i))) ∧ Hid (Below B w1 wr)) (fun ii _ _ => m - (intOf ii).toNat)
  case atStart => exact ⟨0, .slice none 0 0, Nat.zero_le _, rfl, HX0, by rw [Nat.zero_mul]; exact World.ownsRow_nil _ _ _ _, HB0⟩
  case round =>
    obtain ⟨i, v, hi, rfl, HX, HO, HB⟩ := hrel
    have ew1 : IntKind.i64.wrap ((i : Int) + 1) = (i : Int) + 1 := by rw [IntKind.wrap_i64]; omega
    by_cases hlt : i < m
    · have d1 : decide ((i : Int) + 1 < (m : Int) + 1) = true := decide_eq_true (by omega)
      have HO0 : Hid (wr.ownsRow (B + 1) 37 4 v (i * k + 0) (lcells (dbl k i ++ List.replicate 0 ⟨(i : Int), (i : Int) + 1, 5, 0⟩))) := by
        show _
        rw [Nat.add_zero, List.replicate_zero, List.append_nil]; exact HO.out
      have him : i * k ≤ 120 := Nat.le_trans (Nat.mul_le_mul hi (Nat.le_refl k)) hmk
      go_wp2_with fail
      go_loopw [8] (fun jj wx => ∃ (j : Nat) (u : Value), j ≤ k ∧ jj = .int .i64 j ∧ Hid (wx.heap[B]? = some (.cells #[.int .i64 ((m : Int) + 1), u] 24 (0, 0))) ∧ Hid (wx.ownsRow (B + 1) 37 4 u (i * k + j) (lcells (dbl k i ++ List.replicate j ⟨(i : Int), (i : Int) + 1, 5, 0⟩))) ∧ Hid (Below B w1 wx)) (fun jj _ => k - (intOf jj).toNat)
      case atStart => exact ⟨0, v, Nat.zero_le _, rfl, HX, HO0, HB⟩
      case round =>
        obtain ⟨j, u, hj, rfl, HXx, HOx, HBx⟩ := hrel
        obtain ⟨x0, x1, x2⟩ := box_cells HXx.out
        by_cases hlj : j < k
        · have f1 := x2 1
          have hBs : B < wr.heap.size := heap_lt2 HXx.out
          clear x2
          go_wp2_with (at_builtin; refine wpList_append_own _ rfl (.tmp 55) (.tmp 60) 22 rfl (B + 1) 37 i5 (.agg #[.int .i64 0, .int .i64 0, .int .i64 0, .int .i64 0]) 4 32 Try.underlying22 Ai.out Az0.out Az1.out Az2.out rfl (by decide) _ _ _ rfl (HOx.out.alloc _) ⟨wr.heap.size, 0, none⟩ 1 1 (lcells [⟨(i : Int), (i : Int) + 1, 5, 0⟩]) rfl rfl (new_row (lnk_row _ _ _ _)) (lcells_one _) (by unfold maxLen; omega) (by omega) (by simp; omega) ?_; intro v8 w8 hown8 hg8 _; obtain ⟨A8, c8, rfl⟩ := own_form hown8; have hX8 := box_app HXx.out (by omega) HOx.out hg8; obtain ⟨q0, q1, q2⟩ := box_cells hX8; have f8 := q2 1; have HX8 := hid hX8; have HO8 := hid hown8; have HB8 := hid (Below.grown (HBx.out.alloc (by omega) _) hg8 (by simp; omega) (fun q hq => Nat.le_trans (Nat.le_succ B) (HOx.out.lt q hq).1)); clear hown8 hX8 q2)
          have HL : Hid (dbl k i ++ List.replicate (j + 1) ⟨(i : Int), (i : Int) + 1, 5, 0⟩ = (dbl k i ++ List.replicate j ⟨(i : Int), (i : Int) + 1, 5, 0⟩) ++ [⟨(i : Int), (i : Int) + 1, 5, 0⟩]) := by
            show _ = _
            rw [List.replicate_succ', List.append_assoc]
          clear ew1
          go_roundw
          case rel => exact ⟨j + 1, _, by omega, by go_num, box_set1 HX8.out, by rw [HL.out, lcells_app]; exact own_set HO8.out (by show B < B + 1; omega) _, HB8.out.setCell (Nat.le_refl _) _⟩
          case measure => simp [intOf]; omega
        · obtain rfl : j = k := by omega
          have HO2 : Hid (wr.ownsRow (B + 1) 37 4 u ((i + 1) * j) (lcells (dbl j (i + 1)))) := by
            show _
            rw [Nat.succ_mul]; exact HOx.out
          clear x2
          go_wp2_with fail
          clear ew1
          go_roundw
          case rel => exact ⟨i + 1, u, by omega, by go_num, HXx, HO2, HBx⟩
          case measure => simp [intOf]; omega
    · obtain rfl : m = i := by omega
      have d1 : decide ((m : Int) + 1 < (m : Int) + 1) = false := decide_eq_false (by omega)
      obtain ⟨x0, x1, _⟩ := box_cells HX.out
      go_wp2_with fail
      have Hpow : Hid (∀ j, min (min (k ^ j) capB * k) capB = min (k ^ (j + 1)) capB) := fun j => by rw [Nat.pow_succ]; exact cap_mul _ _ hk
      go_loopw [9, 10] (fun nn jj wx => ∃ j : Nat, j ≤ m ∧ jj = .int .i64 j ∧ nn = .int .i64 ((min (k ^ j) capB : Nat) : Int) ∧ Hid (wx.heap[B]? = some (.cells #[.int .i64 ((m : Int) + 1), v] 24 (0, 0))) ∧ Hid (wx.ownsRow (B + 1) 37 4 v (m * k) (lcells (dbl k m))) ∧ Hid (Below B w1 wx)) (fun _ jj _ => m - (intOf jj).toNat)
      case atStart => exact ⟨0, Nat.zero_le _, rfl, rfl, HX, HO, HB⟩
      case round =>
        obtain ⟨j, hj, rfl, rfl, HXx, HOx, HBx⟩ := hrel
        have ew2 : IntKind.i64.wrap ((j : Int) + 1) = (j : Int) + 1 := by rw [IntKind.wrap_i64]; omega
        have hpj := Hpow.out j
        obtain ⟨q, hq⟩ : ∃ q, min (k ^ j) capB = q := ⟨_, rfl⟩
        have hqb : q ≤ 1099511627776 := by rw [← hq]; exact Nat.min_le_right _ _
        rw [hq] at hpj
        have hqk : q * k ≤ 1099511627776 * 3 := Nat.mul_le_mul hqb hk3
        have hcut0 := (fun w' => cut_any (q * k) w' (by omega))
        rw [hpj] at hcut0
        simp only [Int.natCast_mul] at hcut0
        have HCut := hid hcut0
        have hqki : (q : Int) * (k : Int) = ((q * k : Nat) : Int) := by simp
        have ew3 : IntKind.i64.wrap ((q : Int) * (k : Int)) = (q : Int) * (k : Int) := by rw [IntKind.wrap_i64]; omega
        by_cases hlj : j < m
        · have d2 : decide ((j : Int) + 1 < (m : Int) + 1) = true := decide_eq_true (by omega)
          rw [hq]
          clear hcut0 hqki hpj hq
          go_wp2_with (go_at_call 14; (with_reducible refine (HCut.out _).mono ?_); rintro _ _ ⟨rfl, rfl⟩)
          clear ew2 ew3 ew1
          go_roundw
          case rel => exact ⟨j + 1, by omega, by go_num, rfl, HXx, HOx, HBx⟩
          case measure => simp [intOf]; omega
        · obtain rfl : m = j := by omega
          have d2 : decide ((m : Int) + 1 < (m : Int) + 1) = false := decide_eq_false (by omega)
          obtain ⟨A8, c8, rfl⟩ := own_form HOx.out
          obtain ⟨A9, c9, he9, hle9, hr9⟩ := own_lnks HOx.out (dbl_len k m)
          simp only [Value.slice.injEq, true_and] at he9
          obtain ⟨rfl, rfl⟩ := he9
          have hBs : B < wr.heap.size := heap_lt2 HXx.out
          have hcast : ((m + 1 : Nat) : Int) = (m : Int) + 1 := by simp
          have hway := dbl_ways hk hm hmk
          have huse := dbl_uses hk hm hmk
          rw [hcast] at hway huse
          have HGa := hid (fun (w' : World) (hh : Below wr.heap.size wr w') => (⟨hr9.on hh, by omega, hle9, fun hA => by
            subst hA
            rcases HOx.out.2 with ⟨h1, h2⟩ | ⟨g, cap, cur, h1, _⟩
            · simp only [Value.slice.injEq] at h1; exact ⟨h2, h1.2.2⟩
            · simp at h1, by omega, by omega⟩ : GArg w' ((m : Int) + 1) A8 (m * k) c8 (dbl k m)))
          have HH := hid (fun (w' : World) (hh : Below wr.heap.size wr w') => (Hs.out.hops ((m : Int) + 1) A8 (m * k) c8 (dbl k m) none 0 0 [] 0 (m : Int) w' (HGa.out w' hh) (DArg.nil w') ⟨by omega, by omega⟩ ⟨by omega, by omega⟩).mono (fun _ _ h2 => (⟨h2.1, hh.trans (h2.2.mono hh.size)⟩ : _ ∧ Below wr.heap.size wr _)))
          have HC := hid (fun (w' : World) (hh : Below wr.heap.size wr w') => (Hs.out.count ((m : Int) + 1) A8 (m * k) c8 (dbl k m) none 0 0 [] 0 (m : Int) w' (HGa.out w' hh) (DArg.nil w') ⟨by omega, by omega⟩ ⟨by omega, by omega⟩).mono (fun _ _ h2 => (⟨h2.1, hh.trans (h2.2.mono hh.size)⟩ : _ ∧ Below wr.heap.size wr _)))
          have HU := hid (fun (w' : World) (hh : Below wr.heap.size wr w') => Hs.out.uses ((m : Int) + 1) A8 (m * k) c8 (dbl k m) none 0 0 [] 0 (m : Int) w' (HGa.out w' hh) (DArg.nil w') ⟨by omega, by omega⟩ ⟨by omega, by omega⟩)
          simp only [hway] at HH HC
          have HU2 : Hid (∀ w', Below wr.heap.size wr w' → Calls Try.prog 12 #[.agg #[.int .i64 ((m : Int) + 1), .slice A8 (m * k) c8], .slice none 0 0, .int .i64 0, .int .i64 (m : Int)] w' fun e w'' => ∃ A5 c5, e = .returned (.slice A5 (m * k) c5) ∧ Below wr.heap.size wr w'') := by
            intro w' hh
            have h1 := HU.out w' hh
            unfold RowAns at h1
            rw [huse] at h1
            exact h1.mono fun _ _ ⟨A5, c5, e1, _, e3⟩ => ⟨A5, c5, e1, hh.trans (e3.mono hh.size)⟩
          have HSc : Hid (∀ w', Below wr.heap.size wr w' → (w'.cell? ⟨B, 0, none⟩ = some (.int .i64 ((m : Int) + 1)) ∧ w'.cell? ⟨B, 1, none⟩ = some (.slice A8 (m * k) c8))) := fun w' hh => ⟨(box_cells (box_below HXx.out hh hBs)).1, (box_cells (box_below HXx.out hh hBs)).2.1⟩
          obtain ⟨y, hy⟩ : ∃ y, min (k ^ m) capB = y := ⟨_, rfl⟩
          simp only [hy] at HC
          rw [hy]
          obtain ⟨mk, hmk9⟩ : ∃ mk, m * k = mk := ⟨_, rfl⟩
          have s1 : ((y : Int) == (y : Int)) = true := by simp
          have s2 : ((m : Int) == (m : Int)) = true := by simp
          have s3 : ((mk : Int) == (mk : Int)) = true := by simp
          rw [hmk9] at HH HC HU2 HSc
          have hBr := HBx.out
          have c1 := (HSc.out wr (Below.refl _ _))
          rw [← hmk9] at c1
          obtain ⟨c1a, c1b⟩ := c1
          rw [hmk9] at c1b
          clear HU hway huse HGa hq hpj hcut0 hqki hy ew3 HCut HX HXx HO HOx HBx hr9 hle9 x0 x1
          go_wp2_with (go_at_call 9; (with_reducible refine (HH.out _ (Below.refl _ _)).mono ?_); rintro e' w2 ⟨rfl, h2⟩; obtain ⟨d1a, d1b⟩ := HSc.out _ h2)
          have h2d := h2.drew
          obtain ⟨d2a, d2b⟩ := HSc.out _ h2d
          go_region_held3 (fun w' => w'.cell? ⟨B, 0, none⟩ = some (.int .i64 ((m : Int) + 1)) ∧ w'.cell? ⟨B, 1, none⟩ = some (.slice A8 mk c8))
            (first
              | go_keep
              | exact HSc.out _ h4
              | exact HSc.out _ h3)
            (first
              | (go_at_call 10; (with_reducible refine (HC.out _ h2d).mono ?_); rintro e' w3 ⟨rfl, h3⟩)
              | (go_at_call 12; (with_reducible refine (HU2.out _ h3).mono ?_); rintro e' w4 ⟨A5, c5, rfl, h4⟩))
          go_wp2_with fail
          go_ret
          have h9 := hBr
          rw [← HhB.out] at h9
          exact ⟨rfl, hb1.trans ((h9.trans (h4.mono h9.size)).mono hb1.size)⟩
theorem doubles_any (h : DagSpec 10 9 12) (n k : Int) (w : World) :
    Calls Try.prog 4 #[.int .i64 n, .int .i64 k] w fun e w' => e = .returned (.bool true) ∧ Below w.heap.size w w' := by
  by_cases hn : 1 ≤ n ∧ n ≤ 40 ∧ 1 ≤ k ∧ k ≤ 3
  · obtain ⟨K, rfl⟩ := Int.eq_ofNat_of_zero_le (show 0 ≤ k by omega)
    obtain ⟨m, hm⟩ := Int.eq_ofNat_of_zero_le (show 0 ≤ n - 1 by omega)
    obtain rfl : n = (m : Int) + 1 := by omega
    exact doubles_in h m K w (by omega) (by omega) (by omega)
  · exact doubles_not h n k w hn
end Go.Proofs.Ytcjilpgblbnebaa
