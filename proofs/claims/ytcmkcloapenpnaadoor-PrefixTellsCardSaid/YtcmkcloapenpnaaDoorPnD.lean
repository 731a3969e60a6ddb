/- Landed prefix: In. -/
import Derived.Test.YtcmkcloapenpnaaDoorPnC
namespace Go.Proofs.YtcmkcloapenpnaaDoor
open Go.RowKit
set_option maxHeartbeats 6400000
set_option maxRecDepth 100000
theorem mask_same (a b c : Nat) : (maskS b c == maskS a c) = (a / 2 ^ (32 - c) == b / 2 ^ (32 - c)) := by
  unfold maskS
  have hp : 0 < 2 ^ (32 - c) := Nat.two_pow_pos _
  rw [Bool.eq_iff_iff, beq_iff_eq, beq_iff_eq]
  exact ⟨fun h => (Nat.eq_of_mul_eq_mul_right hp h).symm, fun h => by rw [h]⟩
theorem in_land (a : Nat) (n : Int) (b : Nat) (w : World) (ha : a < 4294967296) (hb : b < 4294967296) :
    Calls Tryd.prog 14 #[.agg #[.int .u32 (a : Int), .int .i64 n], .int .u32 (b : Int)] w fun e w' => e = .returned (.bool (inS a n b)) ∧ Below w.heap.size w w' := by
  have H1 := hid (fun W => trim_any a n W ha)
  have hc := cut32_le n
  have hV : Hid (inS a n b = (maskS b (cut32 n) == maskS a (cut32 n))) := by show _ = _; unfold inS; rw [mask_same]
  obtain ⟨c, hcc⟩ : ∃ c, cut32 n = c := ⟨_, rfl⟩
  rw [hcc] at H1 hc hV
  have H2 := hid (fun W => trim_any b (c : Int) W hb)
  rw [cut32_of hc] at H2
  obtain ⟨M, hM⟩ : ∃ M, maskS a c = M := ⟨_, rfl⟩
  obtain ⟨K, hK⟩ : ∃ K, maskS b c = K := ⟨_, rfl⟩
  rw [hM] at H1 hV
  rw [hK] at H2 hV
  clear hc hcc hM hK ha hb
  go_enter Tryd.func14, Tryd.ntmps14
  go_wp2_with (go_at_call 25; (with_reducible refine (H1.out _).mono ?_); rintro e' w1 ⟨rfl, hb1⟩; have hx1 := box_below (heap_alloc_new w (.cells #[.int .u32 (a : Int), .int .i64 n] 24)) hb1 (by simp); obtain ⟨p0, p1, p2⟩ := box_cells hx1)
  obtain ⟨w3, hw3⟩ : ∃ w3, (w1.setCell ⟨w.heap.size, 0, none⟩ (.int .u32 (M : Int))).setCell ⟨w.heap.size, 1, none⟩ (.int .i64 (c : Int)) = w3 := ⟨_, rfl⟩
  rw [hw3]
  have hx3 : w3.heap[w.heap.size]? = some (.cells #[.int .u32 (M : Int), .int .i64 (c : Int)] 24 (0, 0)) := hw3 ▸ box_set1 (box_set0 hx1)
  have hb0 : Below w.heap.size w (w.alloc (.cells #[.int .u32 (a : Int), .int .i64 n] 24)) := (Below.refl _ w).alloc (Nat.le_refl _) _
  have hb3 : Hid (Below w.heap.size w w3) := hw3 ▸ ((hb0.trans (hb1.mono hb0.size)).setCell (Nat.le_refl _) _).setCell (Nat.le_refl _) _
  clear hw3 hx1 hb0 hb1 p0 p1 p2
  obtain ⟨z0, z1, z2⟩ := box_cells hx3
  have hlt : w.heap.size < w3.heap.size := (Array.getElem?_eq_some_iff.1 hx3).1
  have hx4 : w3.drew.heap[w.heap.size]? = some (.cells #[.int .u32 (M : Int), .int .i64 (c : Int)] 24 (0, 0)) := hx3
  have hb4 : Hid (Below w.heap.size w w3.drew) := hb3.out.drew
  obtain ⟨y0, y1, y2⟩ := box_cells hx4
  have hX := hid (hx4)
  clear hx3 hx4 hb3
  by_cases hKM : K = M
  · obtain rfl : M = K := hKM.symm
    rw [beq_self_eq_true] at hV
    go_region_held3 (fun w' => w'.cell? ⟨w.heap.size, 0, none⟩ = some (.int .u32 (M : Int)) ∧ w'.cell? ⟨w.heap.size, 1, none⟩ = some (.int .i64 (c : Int)))
      (first
        | go_keep
        | exact s5)
      (first
        | (go_at_call 25; (with_reducible refine (H2.out _).mono ?_); rintro e' w5 ⟨rfl, hb5⟩; have hx5 := box_below hX.out hb5 hlt; have hb6 := hid (hb4.out.trans (hb5.mono hb4.out.size)); have s5 := And.intro (box_cells hx5).1 (box_cells hx5).2.1))
    go_wp2_with fail
    go_ret
    exact ⟨by rw [hV.out]; rfl, hb6.out⟩
  · have d1 : decide ((K : Int) = (M : Int)) = false := decide_eq_false (by omega)
    have d2 : decide (K = M) = false := decide_eq_false hKM
    have d3 : ((K : Int) == (M : Int)) = false := by rw [beq_eq_false_iff_ne]; omega
    have d4 : (K == M) = false := by rw [beq_eq_false_iff_ne]; exact hKM
    rw [d4] at hV
    clear hKM
    go_region_held3 (fun w' => w'.cell? ⟨w.heap.size, 0, none⟩ = some (.int .u32 (M : Int)) ∧ w'.cell? ⟨w.heap.size, 1, none⟩ = some (.int .i64 (c : Int)))
      (first
        | go_keep
        | exact s5)
      (first
        | (go_at_call 25; (with_reducible refine (H2.out _).mono ?_); rintro e' w5 ⟨rfl, hb5⟩; have hx5 := box_below hX.out hb5 hlt; have hb6 := hid (hb4.out.trans (hb5.mono hb4.out.size)); have s5 := And.intro (box_cells hx5).1 (box_cells hx5).2.1))
    go_wp2_with fail
    go_ret
    exact ⟨by rw [hV.out]; rfl, hb6.out⟩
end Go.Proofs.YtcmkcloapenpnaaDoor
