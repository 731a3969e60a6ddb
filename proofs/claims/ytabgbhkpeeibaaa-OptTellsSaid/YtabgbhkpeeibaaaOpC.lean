/- waymarkref15.come. -/
import Derived.Test.YtabgbhkpeeibaaaOpA
namespace Go.Proofs.Ytabgbhkpeeibaaa
open Go.RowKit
set_option maxHeartbeats 6400000
set_option maxRecDepth 100000
theorem come_any (A : Option Addr) (n c : Nat) (p : List Int) (v k : Int) (w : World) (hr : RInt w w.heap.size A n p) (hn : n ≤ 1000) (hk : k ≤ 1000) :
    Calls Try.prog 30 #[.slice A n c, .agg #[.int .i64 v, .int .i64 k]] w fun e w' => e = .returned (.agg #[.int .i64 (comeS p v k).1, .int .i64 (comeS p v k).2]) ∧ Below w.heap.size w w' := by
  have hl := hr.1
  have HR := hid (fun W (hb : Below w.heap.size w W) => hr.on hb)
  go_enter Try.func30, Try.ntmps30
  go_wp2_with fail
  have hx0 : ((w.alloc (.cells #[.int .i64 v, .int .i64 k] 29)).alloc (.cells #[.int .i64 0, .int .i64 0] 29)).heap[w.heap.size]? = some (.cells #[.int .i64 v, .int .i64 k] 29 (0, 0)) := (Below.heap_alloc _ _ _ (by simp)).trans (heap_alloc_new w _)
  have hy0 : ((w.alloc (.cells #[.int .i64 v, .int .i64 k] 29)).alloc (.cells #[.int .i64 0, .int .i64 0] 29)).heap[w.heap.size + 1]? = some (.cells #[.int .i64 0, .int .i64 0] 29 (0, 0)) := by
    have := heap_alloc_new (w.alloc (.cells #[.int .i64 v, .int .i64 k] 29)) (.cells #[.int .i64 0, .int .i64 0] 29)
    rw [show (w.alloc (.cells #[.int .i64 v, .int .i64 k] 29)).heap.size = w.heap.size + 1 by simp] at this
    exact this
  have hb0 : Below w.heap.size w ((w.alloc (.cells #[.int .i64 v, .int .i64 k] 29)).alloc (.cells #[.int .i64 0, .int .i64 0] 29)) := ((Below.refl _ w).alloc (Nat.le_refl _) _).alloc (by simp) _
  have H0 : Hid (_ ∧ _ ∧ _) := ⟨hx0, hy0, hb0⟩
  clear hx0 hy0 hb0
  go_loopw [] (fun wr => ∃ q : Int, (k < 0 → q = k) ∧ (0 ≤ k → ∃ j : Nat, j ≤ runN v (p.drop (k.toNat + 1)) ∧ q = k + j) ∧ Hid (wr.heap[w.heap.size]? = some (.cells #[.int .i64 v, .int .i64 q] 29 (0, 0)) ∧ wr.heap[w.heap.size + 1]? = some (.cells #[.int .i64 0, .int .i64 0] 29 (0, 0)) ∧ Below w.heap.size w wr)) (fun wr => n + 1 - (match wr.cell? ⟨w.heap.size, 1, none⟩ with | some u => (intOf u).toNat | none => 0))
  case atStart => exact ⟨k, fun _ => rfl, fun _ => ⟨0, Nat.zero_le _, by omega⟩, H0⟩
  case round =>
    obtain ⟨q, hq1, hq2, HW⟩ := hrel
    obtain ⟨z0, z1, z2⟩ := box_cells HW.out.1
    obtain ⟨y0, y1, y2⟩ := box_cells HW.out.2.1
    have hend : ∀ (m : Nat), Hid (comeS p v k = (v, q)) → Hid (((((wr.drewN m).setCell ⟨w.heap.size + 1, 0, none⟩ (.int .i64 v)).setCell ⟨w.heap.size + 1, 1, none⟩ (.int .i64 q)).heap[w.heap.size + 1]? = some (.cells #[.int .i64 v, .int .i64 q] 29 (0, 0))) ∧ Below w.heap.size w (((wr.drewN m).setCell ⟨w.heap.size + 1, 0, none⟩ (.int .i64 v)).setCell ⟨w.heap.size + 1, 1, none⟩ (.int .i64 q)) ∧ comeS p v k = (v, q)) := fun m hm => by
      have hy : (wr.drewN m).heap[w.heap.size + 1]? = some (.cells #[.int .i64 0, .int .i64 0] 29 (0, 0)) := HW.out.2.1
      exact ⟨box_set1 (box_set0 hy), ((below_drewN HW.out.2.2).setCell (by simp) _).setCell (by simp) _, hm.out⟩
    have hend := hid hend
    by_cases h0 : k < 0
    · obtain rfl := hq1 h0
      have d1 : decide (0 ≤ q) = false := decide_eq_false (by omega)
      have HV : Hid (comeS p v q = (v, q)) := by show _ = _; unfold comeS; rw [if_neg (by omega)]
      clear hq2 hq1
      go_wp2_with fail
      go_big_quiet (fail)
      go_wp2_with fail
      have HG := hend.out nq HV
      refine bodyPost_ret (results_cell_row (p := 4) (fn := Try.f30) rfl _ _ _ _ _ _ _ rfl HG.out.1 Try.underlying29 rfl (by kernel_rfl)) rfl ?_
      exact ⟨by rw [HG.out.2.2], HG.out.2.1⟩
    · obtain ⟨K, rfl⟩ := Int.eq_ofNat_of_zero_le (show 0 ≤ k by omega)
      obtain ⟨j, hj, rfl⟩ := hq2 (by omega)
      have HVg : Hid (comeS p v (K : Int) = (v, (K : Int) + (runN v (p.drop (K + 1)) : Nat))) := by show _ = _; unfold comeS; rw [if_pos (by omega), Int.toNat_natCast]
      rw [Int.toNat_natCast] at hj
      obtain ⟨Q, hQ⟩ : ∃ Q : Nat, K + j = Q := ⟨_, rfl⟩
      have eQ : (K : Int) + (j : Int) = (Q : Int) := by omega
      simp only [eQ] at z1 hend
      have HWq := HW.out
      rw [eQ] at HWq
      have HW2 := hid HWq
      have d1 : decide (0 ≤ (Q : Int)) = true := decide_eq_true (by omega)
      have hrl := runN_le v (p.drop (K + 1))
      rw [List.length_drop, hl] at hrl
      have e1 : IntKind.i64.wrap ((Q : Int) + 1) = (Q : Int) + 1 := by rw [IntKind.wrap_i64]; omega
      clear hq1 HWq HW eQ h0
      by_cases h1 : Q + 1 < n
      · have d2 : decide ((Q : Int) + 1 < (n : Int)) = true := decide_eq_true (by omega)
        have d3 : decide (Q + 1 < n) = true := decide_eq_true h1
        obtain ⟨b, off, rfl, hbl, hcell⟩ := (HR.out _ HW2.out.2.2).2 (by omega)
        have hlt : Q + 1 < p.length := by omega
        obtain ⟨u, hu⟩ : ∃ u, p[Q + 1]? = some u := ⟨_, List.getElem?_eq_getElem hlt⟩
        have hc := hcell (Q + 1) u hu
        clear hcell
        have hi1 : (0 : Int) ≤ (Q : Int) + 1 := by omega
        have hi2 : (Q : Int) + 1 < (n : Int) := by omega
        have hpd : (p.drop (K + 1))[j]? = some u := by rw [List.getElem?_drop, show K + 1 + j = Q + 1 by omega]; exact hu
        by_cases h2 : u = v
        · have hj2 : j + 1 ≤ runN v (p.drop (K + 1)) := by
            rcases Nat.lt_or_ge j (runN v (p.drop (K + 1))) with h3 | h3
            · exact h3
            · obtain rfl : j = runN v (p.drop (K + 1)) := by omega
              exact absurd h2 (runN_end hpd)
          clear HVg hpd hu
          obtain rfl : v = u := h2.symm
          go_wp2_with fail
          go_big_quiet (fail)
          go_wp2_with fail
          have hx : (wr.drewN nq).heap[w.heap.size]? = some (.cells #[.int .i64 v, .int .i64 (Q : Int)] 29 (0, 0)) := HW2.out.1
          have hy : (wr.drewN nq).heap[w.heap.size + 1]? = some (.cells #[.int .i64 0, .int .i64 0] 29 (0, 0)) := HW2.out.2.1
          have hx2 := box_set1 (u := .int .i64 ((Q : Int) + 1)) hx
          refine ⟨⟨(Q : Int) + 1, fun h => by omega, fun _ => ⟨j + 1, by rw [Int.toNat_natCast]; exact hj2, by omega⟩, hx2, ?_, (below_drewN HW2.out.2.2).setCell (Nat.le_refl _) _⟩, ?_⟩
          · rw [Below.heap_setCell _ _ _ _ (show w.heap.size + 1 ≠ w.heap.size by omega)]; exact hy
          · rw [(box_cells hx2).2.1, z1]
            simp [intOf]
            omega
        · have d4 : (u == v) = false := by rw [beq_eq_false_iff_ne]; exact h2
          have d5 : decide (u = v) = false := decide_eq_false h2
          have HV : Hid (comeS p v (K : Int) = (v, (Q : Int))) := by
            show _ = _
            rw [HVg.out]
            have : runN v (p.drop (K + 1)) = j := by
              rcases Nat.lt_or_ge j (runN v (p.drop (K + 1))) with h3 | h3
              · have h4 := runN_at h3
                rw [hpd] at h4
                exact absurd (Option.some.inj h4) h2
              · omega
            rw [this]
            congr 1
            omega
          clear hpd hu HVg
          go_wp2_with fail
          go_big_quiet (fail)
          go_wp2_with fail
          have HG := hend.out nq HV
          refine bodyPost_ret (results_cell_row (p := 4) (fn := Try.f30) rfl _ _ _ _ _ _ _ rfl HG.out.1 Try.underlying29 rfl (by kernel_rfl)) rfl ?_
          exact ⟨by rw [HG.out.2.2], HG.out.2.1⟩
      · have d2 : decide ((Q : Int) + 1 < (n : Int)) = false := decide_eq_false (by omega)
        have d3 : decide (Q + 1 < n) = false := decide_eq_false h1
        have HV : Hid (comeS p v (K : Int) = (v, (Q : Int))) := by
          show _ = _
          rw [HVg.out]
          have : runN v (p.drop (K + 1)) = j := by omega
          rw [this]
          congr 1
          omega
        clear HVg
        go_wp2_with fail
        go_big_quiet (fail)
        go_wp2_with fail
        have HG := hend.out nq HV
        refine bodyPost_ret (results_cell_row (p := 4) (fn := Try.f30) rfl _ _ _ _ _ _ _ rfl HG.out.1 Try.underlying29 rfl (by kernel_rfl)) rfl ?_
        exact ⟨by rw [HG.out.2.2], HG.out.2.1⟩
end Go.Proofs.Ytabgbhkpeeibaaa
