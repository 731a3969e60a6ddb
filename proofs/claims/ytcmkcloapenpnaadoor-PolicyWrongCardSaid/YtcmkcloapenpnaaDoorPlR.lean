/- PolicyWrong. -/
import Derived.Test.YtcmkcloapenpnaaDoorPlP
import Derived.Deep.DeepCutAuto
namespace Go.Proofs.YtcmkcloapenpnaaDoor
open Go.RowKit
set_option maxHeartbeats 12800000
set_option maxRecDepth 100000
def tx13 : List (List UInt8) := [[114, 117, 108, 101, 32, 97, 32, 49, 32, 102, 114, 111, 109, 32, 48, 32, 116, 111, 32, 49, 59], [114, 117, 108, 101, 32, 97, 32, 49, 32, 116, 111, 32, 49, 32, 102, 114, 111, 109, 32, 48, 59], [114, 117, 108, 101, 32, 97, 32, 49, 32, 102, 114, 111, 109, 32, 48, 59], [114, 117, 108, 101, 32, 97, 32, 49, 32, 116, 111, 32, 48, 59], [114, 117, 108, 101, 32, 97, 32, 102, 114, 111, 109, 32, 48, 32, 116, 111, 32, 49, 59], [114, 117, 108, 101, 32, 49, 32, 49, 32, 102, 114, 111, 109, 32, 48, 32, 116, 111, 32, 49, 59], [97, 32, 49, 32, 102, 114, 111, 109, 32, 48, 32, 116, 111, 32, 49, 59], [114, 117, 108, 101, 32, 97, 32, 49, 32, 102, 114, 111, 109, 32, 48, 32, 116, 111, 32, 49], [114, 117, 108, 101, 32, 97, 32, 49, 32, 102, 114, 111, 109, 32, 48, 32, 116, 111, 32, 49, 32, 118, 105, 97, 59], [114, 117, 108, 101, 32, 97, 32, 49, 32, 102, 114, 111, 109, 32, 48, 32, 116, 111, 32, 49, 32, 118, 105, 97, 32, 50, 32, 51, 59], [114, 117, 108, 101, 32, 97, 32, 49, 32, 102, 114, 111, 109, 32, 48, 32, 116, 111, 32, 49, 32, 115, 116, 114, 105, 99, 116, 32, 115, 116, 114, 105, 99, 116, 59], [114, 117, 108, 101, 32, 97, 32, 49, 32, 102, 114, 111, 109, 32, 48, 32, 116, 111, 32, 49, 32, 102, 114, 111, 109, 32, 48, 59], [114, 117, 108, 101, 32, 97, 32, 49, 32, 102, 114, 111, 109, 32, 48, 32, 116, 111, 32, 49, 32, 99, 111, 115, 116, 32, 48, 49, 59], [114, 117, 108, 101, 32, 97, 32, 49, 32, 102, 114, 111, 109, 32, 48, 32, 116, 111, 32, 49, 32, 115, 114, 99, 32, 49, 46, 50, 46, 51, 46, 52, 59], [114, 117, 108, 101, 32, 97, 32, 49, 32, 102, 114, 111, 109, 32, 48, 32, 116, 111, 32, 49, 32, 115, 114, 99, 32, 49, 46, 50, 46, 51, 46, 52, 47, 56, 59], [114, 117, 108, 101, 32, 97, 32, 49, 32, 102, 114, 111, 109, 32, 48, 32, 116, 111, 32, 49, 32, 98, 108, 117, 101, 59], [114, 117, 108, 101, 32, 114, 117, 108, 101, 32, 49, 32, 102, 114, 111, 109, 32, 48, 32, 116, 111, 32, 49, 59], [114, 117, 108, 101, 32, 97, 32, 50, 49, 52, 55, 52, 56, 51, 54, 52, 56, 32, 102, 114, 111, 109, 32, 48, 32, 116, 111, 32, 49, 59], [59], [114, 117, 108, 101, 32, 97, 32, 49, 32, 102, 114, 111, 109, 32, 48, 32, 116, 111, 32, 49, 59, 59], [114, 117, 108, 101], [114, 117, 108, 101, 32, 97, 32, 49, 32, 102, 114, 111, 109, 32, 48, 32, 116, 111, 32, 49, 32, 115, 116, 114, 105, 99, 116, 32, 51, 59]]
def er13 : List Int := [0, 0, 3, 3, 3, 3, 3, 3, 3, 0, 3, 3, 3, 3, 0, 3, 0, 3, 3, 3, 3, 3]
def at13 : List Int := [-1, -1, 15, 13, 7, 5, 0, 20, 24, -1, 28, 21, 26, 25, -1, 21, -1, 7, 0, 21, 4, 28]
theorem tx13_all : ∀ i, i < 22 → (tx13.getD i []).length ≤ 100 ∧ (parseS (tx13.getD i [])).2 = (at13.getD i 0, er13.getD i 0) := by decide +kernel
theorem three_blocks (w : World) (c1 c2 c3 : Array Value) (t1 t2 t3 : TypeId) :
    (((w.alloc (.cells c1 t1)).alloc (.cells c2 t2)).alloc (.cells c3 t3)).heap[w.heap.size]? = some (.cells c1 t1 (0, 0)) ∧ (((w.alloc (.cells c1 t1)).alloc (.cells c2 t2)).alloc (.cells c3 t3)).heap[w.heap.size + 1]? = some (.cells c2 t2 (0, 0)) ∧ (((w.alloc (.cells c1 t1)).alloc (.cells c2 t2)).alloc (.cells c3 t3)).heap[w.heap.size + 2]? = some (.cells c3 t3 (0, 0)) := by
  have s1 : (w.alloc (.cells c1 t1)).heap.size = w.heap.size + 1 := by simp
  have s2 : ((w.alloc (.cells c1 t1)).alloc (.cells c2 t2)).heap.size = w.heap.size + 2 := by simp
  have h1 := heap_alloc_new w (.cells c1 t1)
  have h2 := heap_alloc_new (w.alloc (.cells c1 t1)) (.cells c2 t2)
  have h3 := heap_alloc_new ((w.alloc (.cells c1 t1)).alloc (.cells c2 t2)) (.cells c3 t3)
  rw [s1] at h2
  rw [s2] at h3
  have b1 : Below (w.alloc (.cells c1 t1)).heap.size (w.alloc (.cells c1 t1)) ((w.alloc (.cells c1 t1)).alloc (.cells c2 t2)) := Below.alloc (Below.refl _ _) (Nat.le_refl _) _
  have b2 : Below ((w.alloc (.cells c1 t1)).alloc (.cells c2 t2)).heap.size ((w.alloc (.cells c1 t1)).alloc (.cells c2 t2)) (((w.alloc (.cells c1 t1)).alloc (.cells c2 t2)).alloc (.cells c3 t3)) := Below.alloc (Below.refl _ _) (Nat.le_refl _) _
  exact ⟨(b2.block _ (by omega)).trans ((b1.block _ (by omega)).trans h1), (b2.block _ (by omega)).trans h2, h3⟩
theorem three_below (w : World) (o1 o2 o3 : Obj) : Below w.heap.size w (((w.alloc o1).alloc o2).alloc o3) :=
  (((Below.refl w.heap.size w).alloc (Nat.le_refl _) o1).alloc (by simp) o2).alloc (by simp; omega) o3
theorem wrong13_in {L : World → Prop} (h : PolicySpec L 19 22) (i : Nat) (hi : i < 22) (w : World) (hL : L w) : Calls Tryd.prog 6 #[.int .i64 (i : Int)] w fun e w' => e = .returned (.bool true) ∧ Below w.heap.size w w' := by
  have HA := hid (alive13 h w hL)
  obtain ⟨hl, hp⟩ := tx13_all i hi
  obtain ⟨s, hs⟩ : ∃ s, tx13.getD i [] = s := ⟨_, rfl⟩
  obtain ⟨a, ha⟩ : ∃ a, at13.getD i 0 = a := ⟨_, rfl⟩
  obtain ⟨e, he⟩ : ∃ e, er13.getD i 0 = e := ⟨_, rfl⟩
  rw [hs, ha, he] at hp
  rw [hs] at hl
  have HP := hid (fun W (hb : Below w.heap.size w W) => parse_out (show parseS s = ((parseS s).1, a, e) from Prod.ext rfl hp) rfl (h.parse s W (h.on w W hL hb) (by omega)))
  have HN := hid (fun x W => num13_any x W)
  have t1 : decide ((i : Int) < 0) = false := by simp
  have t2 : decide ((22 : Int) ≤ (i : Int)) = false := by simp; omega
  have c1 : tx13[i]? = some s := by rw [← hs, List.getD_eq_getElem?_getD, List.getElem?_eq_getElem (show i < tx13.length from hi)]; rfl
  have c2 : er13[i]? = some e := by rw [← he, List.getD_eq_getElem?_getD, List.getElem?_eq_getElem (show i < er13.length from hi)]; rfl
  have c3 : at13[i]? = some a := by rw [← ha, List.getD_eq_getElem?_getD, List.getElem?_eq_getElem (show i < at13.length from hi)]; rfl
  have C1 := hid c1; have C2 := hid c2; have C3 := hid c3
  clear h hs ha he hp hl c1 c2 c3
  go_enter Tryd.func6, Tryd.ntmps6
  go_upto_region 7 with (first
    | (go_at_call 18; (with_reducible refine HA.out.mono ?_); rintro e' w1 ⟨rfl, hb1⟩))
  obtain ⟨k1, k2, k3⟩ := three_blocks w1 (tx13.map fun t => .string (txt t)).toArray (er13.map fun x => .int .i64 x).toArray (at13.map fun x => .int .i64 x).toArray 9 3 3
  have hz := three_below w1 (.cells (tx13.map fun t => .string (txt t)).toArray 9) (.cells (er13.map fun x => .int .i64 x).toArray 3) (.cells (at13.map fun x => .int .i64 x).toArray 3)
  obtain ⟨wz, hwz⟩ : ∃ wz, ((w1.alloc (.cells (tx13.map fun t => .string (txt t)).toArray 9)).alloc (.cells (er13.map fun x => .int .i64 x).toArray 3)).alloc (.cells (at13.map fun x => .int .i64 x).toArray 3) = wz := ⟨_, rfl⟩
  rw [hwz] at k1 k2 k3 hz
  have hwz' : ((w1.alloc (.cells #[.string ⟨#[114, 117, 108, 101, 32, 97, 32, 49, 32, 102, 114, 111, 109, 32, 48, 32, 116, 111, 32, 49, 59]⟩, .string ⟨#[114, 117, 108, 101, 32, 97, 32, 49, 32, 116, 111, 32, 49, 32, 102, 114, 111, 109, 32, 48, 59]⟩, .string ⟨#[114, 117, 108, 101, 32, 97, 32, 49, 32, 102, 114, 111, 109, 32, 48, 59]⟩, .string ⟨#[114, 117, 108, 101, 32, 97, 32, 49, 32, 116, 111, 32, 48, 59]⟩, .string ⟨#[114, 117, 108, 101, 32, 97, 32, 102, 114, 111, 109, 32, 48, 32, 116, 111, 32, 49, 59]⟩, .string ⟨#[114, 117, 108, 101, 32, 49, 32, 49, 32, 102, 114, 111, 109, 32, 48, 32, 116, 111, 32, 49, 59]⟩, .string ⟨#[97, 32, 49, 32, 102, 114, 111, 109, 32, 48, 32, 116, 111, 32, 49, 59]⟩, .string ⟨#[114, 117, 108, 101, 32, 97, 32, 49, 32, 102, 114, 111, 109, 32, 48, 32, 116, 111, 32, 49]⟩, .string ⟨#[114, 117, 108, 101, 32, 97, 32, 49, 32, 102, 114, 111, 109, 32, 48, 32, 116, 111, 32, 49, 32, 118, 105, 97, 59]⟩, .string ⟨#[114, 117, 108, 101, 32, 97, 32, 49, 32, 102, 114, 111, 109, 32, 48, 32, 116, 111, 32, 49, 32, 118, 105, 97, 32, 50, 32, 51, 59]⟩, .string ⟨#[114, 117, 108, 101, 32, 97, 32, 49, 32, 102, 114, 111, 109, 32, 48, 32, 116, 111, 32, 49, 32, 115, 116, 114, 105, 99, 116, 32, 115, 116, 114, 105, 99, 116, 59]⟩, .string ⟨#[114, 117, 108, 101, 32, 97, 32, 49, 32, 102, 114, 111, 109, 32, 48, 32, 116, 111, 32, 49, 32, 102, 114, 111, 109, 32, 48, 59]⟩, .string ⟨#[114, 117, 108, 101, 32, 97, 32, 49, 32, 102, 114, 111, 109, 32, 48, 32, 116, 111, 32, 49, 32, 99, 111, 115, 116, 32, 48, 49, 59]⟩, .string ⟨#[114, 117, 108, 101, 32, 97, 32, 49, 32, 102, 114, 111, 109, 32, 48, 32, 116, 111, 32, 49, 32, 115, 114, 99, 32, 49, 46, 50, 46, 51, 46, 52, 59]⟩, .string ⟨#[114, 117, 108, 101, 32, 97, 32, 49, 32, 102, 114, 111, 109, 32, 48, 32, 116, 111, 32, 49, 32, 115, 114, 99, 32, 49, 46, 50, 46, 51, 46, 52, 47, 56, 59]⟩, .string ⟨#[114, 117, 108, 101, 32, 97, 32, 49, 32, 102, 114, 111, 109, 32, 48, 32, 116, 111, 32, 49, 32, 98, 108, 117, 101, 59]⟩, .string ⟨#[114, 117, 108, 101, 32, 114, 117, 108, 101, 32, 49, 32, 102, 114, 111, 109, 32, 48, 32, 116, 111, 32, 49, 59]⟩, .string ⟨#[114, 117, 108, 101, 32, 97, 32, 50, 49, 52, 55, 52, 56, 51, 54, 52, 56, 32, 102, 114, 111, 109, 32, 48, 32, 116, 111, 32, 49, 59]⟩, .string ⟨#[59]⟩, .string ⟨#[114, 117, 108, 101, 32, 97, 32, 49, 32, 102, 114, 111, 109, 32, 48, 32, 116, 111, 32, 49, 59, 59]⟩, .string ⟨#[114, 117, 108, 101]⟩, .string ⟨#[114, 117, 108, 101, 32, 97, 32, 49, 32, 102, 114, 111, 109, 32, 48, 32, 116, 111, 32, 49, 32, 115, 116, 114, 105, 99, 116, 32, 51, 59]⟩] 9)).alloc (.cells #[.int .i64 0, .int .i64 0, .int .i64 3, .int .i64 3, .int .i64 3, .int .i64 3, .int .i64 3, .int .i64 3, .int .i64 3, .int .i64 0, .int .i64 3, .int .i64 3, .int .i64 3, .int .i64 3, .int .i64 0, .int .i64 3, .int .i64 0, .int .i64 3, .int .i64 3, .int .i64 3, .int .i64 3, .int .i64 3] 3)).alloc (.cells #[.int .i64 (-1), .int .i64 (-1), .int .i64 15, .int .i64 13, .int .i64 7, .int .i64 5, .int .i64 0, .int .i64 20, .int .i64 24, .int .i64 (-1), .int .i64 28, .int .i64 21, .int .i64 26, .int .i64 25, .int .i64 (-1), .int .i64 21, .int .i64 (-1), .int .i64 7, .int .i64 0, .int .i64 21, .int .i64 4, .int .i64 28] 3) = wz := hwz
  rw [hwz']
  have d1 : wz.cell? ⟨w1.heap.size, i, none⟩ = some (.string (txt s)) := by rw [cell_of_row _ _ _ _ _ _ k1]; simp [C1.out]
  have d2 : wz.cell? ⟨w1.heap.size + 1, i, none⟩ = some (.int .i64 e) := by rw [cell_of_row _ _ _ _ _ _ k2]; simp [C2.out]
  have d3 : wz.cell? ⟨w1.heap.size + 2, i, none⟩ = some (.int .i64 a) := by rw [cell_of_row _ _ _ _ _ _ k3]; simp [C3.out]
  have l2 := pst_lt k2
  have l3 := pst_lt k3
  have e1 : (i : Int) < 22 := by omega
  have hbz := hb1.trans (hz.mono hb1.size)
  clear hwz hwz' k1 k2 k3 hz t1 t2 hb1
  go_wp2_with (first
    | (go_at_call 19; (with_reducible refine (HP.out _ hbz).mono ?_); rintro e' w2 ⟨A1, c1, qs1, rfl, _, _, hb2⟩; have f2 := (hb2.cell (p := ⟨w1.heap.size + 1, i, none⟩) l2).trans d2; have f3 := (hb2.cell (p := ⟨w1.heap.size + 2, i, none⟩) l3).trans d3))
  go_big_quiet ((go_at_call 20; with_reducible exact Calls.quiet_of_same ((HN.out _ _).mono fun e w' h => ⟨h.1, h.2.symm⟩)))
  go_wp2_with fail
  go_ret
  exact ⟨rfl, below_drewN (hbz.trans (hb2.mono hbz.size))⟩
theorem pwrong_any {L : World → Prop} (h : PolicySpec L 19 22) (x : Int) (w : World) (hL : L w) : Calls Tryd.prog 6 #[.int .i64 x] w fun e w' => e = .returned (.bool true) ∧ Below w.heap.size w w' := by
  by_cases hx : 0 ≤ x ∧ x < 22
  · obtain ⟨i, rfl⟩ := Int.eq_ofNat_of_zero_le hx.1
    exact wrong13_in h i (by omega) w hL
  · have HA := hid (alive13 h w hL)
    rcases (show decide (x < 0) = true ∨ (decide (x < 0) = false ∧ decide ((22 : Int) ≤ x) = true) by simp only [decide_eq_true_eq, decide_eq_false_iff_not]; omega) with t1 | ⟨t1, t2⟩ <;>
    · clear h hx
      go_enter Tryd.func6, Tryd.ntmps6
      go_wp2_with (first
        | (go_at_call 18; (with_reducible refine HA.out.mono ?_); rintro e' w1 ⟨rfl, hb1⟩))
      go_ret
      exact ⟨rfl, hb1.trans ((three_below w1 _ _ _).mono hb1.size)⟩
end Go.Proofs.YtcmkcloapenpnaaDoor
