/- waymarkref15.Start, Goal. -/
import Derived.Test.YtabgbhkpeeibaaaOpB
import Derived.Test.YtabgbhkpeeibaaaOpC
namespace Go.Proofs.Ytabgbhkpeeibaaa
open Go.RowKit
set_option maxHeartbeats 6400000
set_option maxRecDepth 100000
theorem box7_cells {w : World} {B : Nat} {a b c d e f g : Value} {T : TypeId} (h : w.heap[B]? = some (.cells #[a, b, c, d, e, f, g] T (0, 0))) :
    w.cell? ⟨B, 0, none⟩ = some a ∧ w.cell? ⟨B, 1, none⟩ = some b ∧ w.cell? ⟨B, 2, none⟩ = some c ∧ w.cell? ⟨B, 3, none⟩ = some d ∧ w.cell? ⟨B, 4, none⟩ = some e ∧ w.cell? ⟨B, 5, none⟩ = some f ∧ w.cell? ⟨B, 6, none⟩ = some g := by
  refine ⟨?_, ?_, ?_, ?_, ?_, ?_, ?_⟩ <;> (rw [cell_of_row _ _ _ _ _ _ h]; rfl)
theorem goal_any (x : Wnt) (y : WSl) (w : World) (hw : WArg w x y) (hv : y.nv ≤ 1000) :
    Calls Try.prog 15 #[.agg #[.int .i64 x.frm, .int .i64 x.too, .int .i64 x.bnd, .slice y.av y.nv y.cv, .slice y.an y.nn y.cn, .slice y.al y.nl y.cl, .slice y.ac y.nc y.cc]] w fun e w' => e = .returned (.agg #[.int .i64 (goalS x).1, .int .i64 (goalS x).2]) ∧ Below w.heap.size w w' := by
  have hl : Hid (goalS x = (x.too, (y.nv : Int) + 1)) := by show _ = _; unfold goalS; rw [hw.via.row.1]
  have e1 : IntKind.i64.wrap ((y.nv : Int) + 1) = (y.nv : Int) + 1 := by rw [IntKind.wrap_i64]; omega
  clear hw
  go_enter Try.func15, Try.ntmps15
  go_wp2_with fail
  have hy0 : ((w.alloc (.cells #[.int .i64 x.frm, .int .i64 x.too, .int .i64 x.bnd, .slice y.av y.nv y.cv, .slice y.an y.nn y.cn, .slice y.al y.nl y.cl, .slice y.ac y.nc y.cc] 27)).alloc (.cells #[.int .i64 x.too, .int .i64 ((y.nv : Int) + 1)] 29)).heap[w.heap.size + 1]? = some (.cells #[.int .i64 x.too, .int .i64 ((y.nv : Int) + 1)] 29 (0, 0)) := by
    have := heap_alloc_new (w.alloc (.cells #[.int .i64 x.frm, .int .i64 x.too, .int .i64 x.bnd, .slice y.av y.nv y.cv, .slice y.an y.nn y.cn, .slice y.al y.nl y.cl, .slice y.ac y.nc y.cc] 27)) (.cells #[.int .i64 x.too, .int .i64 ((y.nv : Int) + 1)] 29)
    rw [show (w.alloc (.cells #[.int .i64 x.frm, .int .i64 x.too, .int .i64 x.bnd, .slice y.av y.nv y.cv, .slice y.an y.nn y.cn, .slice y.al y.nl y.cl, .slice y.ac y.nc y.cc] 27)).heap.size = w.heap.size + 1 by simp] at this
    exact this
  have hb0 : Below w.heap.size w ((w.alloc (.cells #[.int .i64 x.frm, .int .i64 x.too, .int .i64 x.bnd, .slice y.av y.nv y.cv, .slice y.an y.nn y.cn, .slice y.al y.nl y.cl, .slice y.ac y.nc y.cc] 27)).alloc (.cells #[.int .i64 x.too, .int .i64 ((y.nv : Int) + 1)] 29)) := ((Below.refl _ w).alloc (Nat.le_refl _) _).alloc (by simp) _
  refine bodyPost_ret (results_cell_row (p := 2) (fn := Try.f15) rfl _ _ _ _ _ _ _ rfl hy0 Try.underlying29 rfl (by kernel_rfl)) rfl ?_
  exact ⟨by rw [hl.out], hb0⟩
theorem start_any (x : Wnt) (y : WSl) (w : World) (hw : WArg w x y) (hv : y.nv ≤ 900) :
    Calls Try.prog 13 #[.agg #[.int .i64 x.frm, .int .i64 x.too, .int .i64 x.bnd, .slice y.av y.nv y.cv, .slice y.an y.nn y.cn, .slice y.al y.nl y.cl, .slice y.ac y.nc y.cc]] w fun e w' => e = .returned (.agg #[.int .i64 (startS x).1, .int .i64 (startS x).2]) ∧ Below w.heap.size w w' := by
  have hl := hw.via.row.1
  have HP := hid (fun W hb => ints_out (m := y.nv + 2) (by rw [ptsS_len, hl]) (points_any x y W (hw.on hb) (by omega)))
  have HC := hid (fun A c W (hr : RInt W W.heap.size A (y.nv + 2) (ptsS x)) => come_any A (y.nv + 2) c (ptsS x) x.frm 0 W hr (by omega) (by omega))
  have hV : Hid (startS x = comeS (ptsS x) x.frm 0) := rfl
  obtain ⟨p1, p2, hp⟩ : ∃ p1 p2, comeS (ptsS x) x.frm 0 = (p1, p2) := ⟨_, _, rfl⟩
  rw [hp] at HC hV
  clear hp hw hl
  go_enter Try.func13, Try.ntmps13
  go_wp2_with fail
  obtain ⟨w0, hw0⟩ : ∃ w0, (w.alloc (.cells #[.int .i64 x.frm, .int .i64 x.too, .int .i64 x.bnd, .slice y.av y.nv y.cv, .slice y.an y.nn y.cn, .slice y.al y.nl y.cl, .slice y.ac y.nc y.cc] 27)).alloc (.cells #[.int .i64 0, .int .i64 0] 29) = w0 := ⟨_, rfl⟩
  have hb0 : Below w.heap.size w w0 := hw0 ▸ ((Below.refl _ w).alloc (Nat.le_refl _) _).alloc (by simp) _
  have hx0 : w0.heap[w.heap.size]? = some (.cells #[.int .i64 x.frm, .int .i64 x.too, .int .i64 x.bnd, .slice y.av y.nv y.cv, .slice y.an y.nn y.cn, .slice y.al y.nl y.cl, .slice y.ac y.nc y.cc] 27 (0, 0)) := hw0 ▸ (Below.heap_alloc _ _ _ (by simp)).trans (heap_alloc_new w _)
  have hy0 : w0.heap[w.heap.size + 1]? = some (.cells #[.int .i64 0, .int .i64 0] 29 (0, 0)) := by
    have := heap_alloc_new (w.alloc (.cells #[.int .i64 x.frm, .int .i64 x.too, .int .i64 x.bnd, .slice y.av y.nv y.cv, .slice y.an y.nn y.cn, .slice y.al y.nl y.cl, .slice y.ac y.nc y.cc] 27)) (.cells #[.int .i64 0, .int .i64 0] 29)
    rw [show (w.alloc (.cells #[.int .i64 x.frm, .int .i64 x.too, .int .i64 x.bnd, .slice y.av y.nv y.cv, .slice y.an y.nn y.cn, .slice y.al y.nl y.cl, .slice y.ac y.nc y.cc] 27)).heap.size = w.heap.size + 1 by simp, hw0] at this
    exact this
  rw [hw0]
  have hxd : w0.drew.heap[w.heap.size]? = some (.cells #[.int .i64 x.frm, .int .i64 x.too, .int .i64 x.bnd, .slice y.av y.nv y.cv, .slice y.an y.nn y.cn, .slice y.al y.nl y.cl, .slice y.ac y.nc y.cc] 27 (0, 0)) := hx0
  have hyd : w0.drew.heap[w.heap.size + 1]? = some (.cells #[.int .i64 0, .int .i64 0] 29 (0, 0)) := hy0
  obtain ⟨z0, z1, z2, z3, z4, z5, z6⟩ := box7_cells hxd
  obtain ⟨y0, y1, y2⟩ := box_cells hyd
  have Hd := hid (And.intro hxd (And.intro hyd hb0.drew))
  clear hw0 hx0 hy0 hb0 hxd hyd
  go_region_law (first
    | (go_simp; go_at_call 27; (with_reducible refine (HP.out _ Hd.out.2.2).mono ?_); rintro e' w3 ⟨A3, c3, rfl, ⟨hr3, hc3, hn3⟩, hb3⟩; have HR3 := hid hr3; have hx3 := box_below Hd.out.1 hb3 (blk_lt Hd.out.1); have hy3 := box_below Hd.out.2.1 hb3 (blk_lt Hd.out.2.1); have HB3 := hid (Hd.out.2.2.trans (hb3.mono Hd.out.2.2.size)); have HY3 := hid hy3; have q0 := (box7_cells hx3).1; clear hb3 hx3 hy3 hr3)
    | (go_simp; go_at_call 30; (with_reducible refine (HC.out _ _ _ HR3.out).mono ?_); rintro e' w4 ⟨rfl, hb4⟩; have hy4 := box_below HY3.out hb4 (blk_lt HY3.out); have HB4 := hid (HB3.out.trans (hb4.mono HB3.out.size)); have HY4 := hid hy4; obtain ⟨u0, u1, u2⟩ := box_cells hy4; have u20 := u2 0; have u21 := u2 1; clear hb4 hy4 u2))
  all_goals
    go_wp2_with fail
    have hg := box_set1 (u := .int .i64 p2) (box_set0 (u := .int .i64 p1) HY4.out)
    refine bodyPost_ret (results_cell_row (p := 2) (fn := Try.f13) rfl _ _ _ _ _ _ _ rfl hg Try.underlying29 rfl (by kernel_rfl)) rfl ?_
    exact ⟨by rw [hV.out], (HB4.out.setCell (by simp) _).setCell (by simp) _⟩
end Go.Proofs.Ytabgbhkpeeibaaa
