/- Merged: CtE CtF CtG. -/
import Derived.Test.YtkemcgbedapkcaaG22
/- expand: endOf, over, toNode. -/
namespace Go.Proofs.Ytkemcgbedapkcaa
open Go.RowKit
set_option maxHeartbeats 12800000
set_option maxRecDepth 100000
section
variable {N : Nat} {l : List Lnk} {x : Wnt} {gn : List Bool} {tp : Addr} {A : Option Addr} {n c : Nat} {Ap : Option Addr} {cp : Nat} {Ag : Option Addr} {cg : Nat} {Df : Option Addr} {cf kk : Nat}
/-- A guide's box, another one, and the result's. -/
structure EnB (M : Nat) (N : Nat) (l : List Lnk) (x : Wnt) (gn : List Bool) (tp : Addr) (A : Option Addr) (n c : Nat) (Ap : Option Addr) (cp : Nat) (Ag : Option Addr) (cg : Nat) (Df : Option Addr) (cf kk : Nat) (s : Int) (o1 : Obj) (w w' : World) : Prop where
  x0 : w'.heap[w.heap.size]? = some (.cells #[.pointer (some tp), .int .i64 (N : Int), .slice A n c, .slice Ap (kk + 2) cp, .slice Ag n cg, .slice Df (kk + 1) cf, .int .i64 s, .map (some M)] 82 (0, 0))
  x1 : w'.heap[w.heap.size + 1]? = some o1
  x2 : w'.heap[w.heap.size + 1 + 1]? = some (.cells #[.int .i64 0, .int .i64 0, .bool false] 135 (0, 0))
  gw : GW M N l x gn tp A n c Ap cp Ag cg Df cf kk w'
  but : But M w w'
  lt : M < w.heap.size
theorem EnB.start {M : Nat} {s : Int} {o1 : Obj} {w : World} (h : GW M N l x gn tp A n c Ap cp Ag cg Df cf kk w) : EnB M N l x gn tp A n c Ap cp Ag cg Df cf kk s o1 w (((w.alloc (.cells #[.pointer (some tp), .int .i64 (N : Int), .slice A n c, .slice Ap (kk + 2) cp, .slice Ag n cg, .slice Df (kk + 1) cf, .int .i64 s, .map (some M)] 82)).alloc o1).alloc (.cells #[.int .i64 0, .int .i64 0, .bool false] 135)) := by
  have hb := (((Below.refl w.heap.size w).alloc (Nat.le_refl _) (.cells #[.pointer (some tp), .int .i64 (N : Int), .slice A n c, .slice Ap (kk + 2) cp, .slice Ag n cg, .slice Df (kk + 1) cf, .int .i64 s, .map (some M)] 82)).alloc (by simp) o1).alloc (by simp; omega) (.cells #[.int .i64 0, .int .i64 0, .bool false] 135)
  exact ⟨alloc_at (alloc_at (alloc_new rfl)), alloc_at (alloc_new (alloc_sz rfl)), alloc_new (alloc_sz (alloc_sz rfl)), h.next hb, But.of hb, h.lt⟩
theorem EnB.size0 {o1 : Obj} {w : World} {M : Nat} {s : Int} : (((w.alloc (.cells #[.pointer (some tp), .int .i64 (N : Int), .slice A n c, .slice Ap (kk + 2) cp, .slice Ag n cg, .slice Df (kk + 1) cf, .int .i64 s, .map (some M)] 82)).alloc o1).alloc (.cells #[.int .i64 0, .int .i64 0, .bool false] 135)).heap.size = w.heap.size + 1 + 1 + 1 := alloc_sz (alloc_sz (alloc_sz rfl))
theorem EnB.put {M : Nat} {s : Int} {o1 : Obj} {w w' w'' : World} (h : EnB M N l x gn tp A n c Ap cp Ag cg Df cf kk s o1 w w') (hb : But M w' w'') (hg : GW M N l x gn tp A n c Ap cp Ag cg Df cf kk w'') : EnB M N l x gn tp A n c Ap cp Ag cg Df cf kk s o1 w w'' :=
  ⟨box_but h.x0 hb (by have := h.lt; omega), box_but h.x1 hb (by have := h.lt; omega), box_but h.x2 hb (by have := h.lt; omega), hg, h.but.trans hb, h.lt⟩
theorem EnB.next {M : Nat} {s : Int} {o1 : Obj} {w w' w'' : World} (h : EnB M N l x gn tp A n c Ap cp Ag cg Df cf kk s o1 w w') (hb : Below w'.heap.size w' w'') : EnB M N l x gn tp A n c Ap cp Ag cg Df cf kk s o1 w w'' := h.put (But.of hb) (h.gw.next hb)
theorem EnB.above {M : Nat} {s : Int} {o1 : Obj} {w w' w'' : World} {B : Nat} (h : EnB M N l x gn tp A n c Ap cp Ag cg Df cf kk s o1 w w') (hb : Below B w' w'') (hB : w.heap.size + 1 + 1 < B) : EnB M N l x gn tp A n c Ap cp Ag cg Df cf kk s o1 w w'' := by
  have := h.lt
  exact ⟨box_below h.x0 hb (by omega), box_below h.x1 hb (by omega), box_below h.x2 hb (by omega), h.gw.above hb (by omega), h.but.mix hb (by omega), h.lt⟩
theorem EnB.set2 {M : Nat} {s : Int} {o1 : Obj} {w w' : World} {B : Nat} {u0 u1 : Value} (h : EnB M N l x gn tp A n c Ap cp Ag cg Df cf kk s o1 w w') (hB : w.heap.size + 1 + 1 < B) : EnB M N l x gn tp A n c Ap cp Ag cg Df cf kk s o1 w ((w'.setCell ⟨B, 0, none⟩ u0).setCell ⟨B, 1, none⟩ u1) :=
  h.above (B := B) (((Below.refl B w').setCell (p := ⟨B, 0, none⟩) (Nat.le_refl B) u0).setCell (p := ⟨B, 1, none⟩) (Nat.le_refl B) u1) hB
theorem EnB.fin {M : Nat} {s : Int} {o1 : Obj} {w w' : World} {u0 u1 u2 : Value} (h : EnB M N l x gn tp A n c Ap cp Ag cg Df cf kk s o1 w w') : GW M N l x gn tp A n c Ap cp Ag cg Df cf kk (((w'.setCell ⟨w.heap.size + 1 + 1, 0, none⟩ u0).setCell ⟨w.heap.size + 1 + 1, 1, none⟩ u1).setCell ⟨w.heap.size + 1 + 1, 2, none⟩ u2) ∧ But M w (((w'.setCell ⟨w.heap.size + 1 + 1, 0, none⟩ u0).setCell ⟨w.heap.size + 1 + 1, 1, none⟩ u1).setCell ⟨w.heap.size + 1 + 1, 2, none⟩ u2) := by
  obtain ⟨B, hB⟩ : ∃ B, w.heap.size + 1 + 1 = B := ⟨_, rfl⟩
  rw [hB]
  have hb := below_put3 (y0 := u0) (y1 := u1) (y2 := u2) (Below.refl B w') (Nat.le_refl B)
  have := h.lt
  exact ⟨h.gw.above hb (by omega), h.but.mix hb (by omega)⟩
end
theorem stepV_end {o : Option (Int × Int)} {q1 q2 : Int} {ok : Bool} (h : endT o = (q1, q2, ok)) : stepV o = .tuple #[.agg #[.int .i64 q1, .int .i64 q2], .bool ok] := by
  cases o with
  | none => simp only [endT, Prod.mk.injEq] at h; obtain ⟨rfl, rfl, rfl⟩ := h; rfl
  | some q => simp only [endT, Prod.mk.injEq] at h; obtain ⟨rfl, rfl, rfl⟩ := h; rfl
section
variable {N : Nat} {l : List Lnk} {x : Wnt} {gn : List Bool} {tp : Addr} {A : Option Addr} {n c : Nat} {Ap : Option Addr} {cp : Nat} {Ag : Option Addr} {cg : Nat} {Df : Option Addr} {cf kk : Nat}
theorem endOf_edge (hr : rightS (N : Int) l x = 0) {M : Nat} {s : Int} (p1 p2 t q1 q2 : Int) (ok : Bool) (h1 : In64 p1) (h2 : In64 p2) (h3 : In64 t) (hq : endT (stepO (N : Int) l x gn p1 p2 t) = (q1, q2, ok)) (w : World) (h : GW M N l x gn tp A n c Ap cp Ag cg Df cf kk w) :
    Calls Try.prog 70 #[.agg #[.pointer (some tp), .int .i64 (N : Int), .slice A n c, .slice Ap (kk + 2) cp, .slice Ag n cg, .slice Df (kk + 1) cf, .int .i64 s, .map (some M)], .agg #[.int .i64 p1, .int .i64 p2, .bool true, .int .i64 t]] w fun e' w' => e' = .returned (.agg #[.int .i64 q1, .int .i64 q2, .bool ok]) ∧ GW M N l x gn tp A n c Ap cp Ag cg Df cf kk w' ∧ But M w w' := by
  have hS := EnB.start (s := s) (o1 := .cells #[.int .i64 p1, .int .i64 p2, .bool true, .int .i64 t] 133) h
  obtain ⟨g0, g1, g2, g3, g4, g5, g6, g7⟩ := box8_cells hS.x0
  obtain ⟨t0, t1, t2, t3, -⟩ := box4_cells hS.x1
  have HSt := hid (fun (W : World) (hW : GW M N l x gn tp A n c Ap cp Ag cg Df cf kk W) => (by
    have ha := hW.at
    obtain ⟨vs, hb⟩ := ha.bst
    have := bStep_spec (N : Int) A n c l x gn Ap cp Ag cg Df cf vs s p1 p2 t W (by rw [ha.via]; exact hb) ha.grf hr h1 h2 h3
    rw [ha.via, stepV_end hq] at this
    exact this : Calls Try.prog 81 #[.agg #[.int .i64 (N : Int), .slice A n c, .slice Ap (kk + 2) cp, .slice Ag n cg, .slice Df (kk + 1) cf, .int .i64 s], .agg #[.int .i64 p1, .int .i64 p2], .int .i64 t] W fun e' w' => e' = .returned (.tuple #[.agg #[.int .i64 q1, .int .i64 q2], .bool ok]) ∧ Below W.heap.size W w'))
  have HS := hid hS
  clear hS h
  go_enter Try.func70, Try.ntmps70
  go_wp2_with (first
    | (go_at_call 81; (with_reducible refine (HSt.out _ HS.out.gw).mono ?_); rintro e' w5 ⟨rfl, hb5⟩; have HS5 := hid (HS.out.next hb5); clear hb5; have HS6 := hid (HS5.out.next ((Below.refl _ _).alloc (Nat.le_refl _) (.cells #[.int .i64 q1, .int .i64 q2] 92))); obtain ⟨r0, r1, r2, rf⟩ := box3_cells HS6.out.x2; have f0 := rf 0; have f1 := rf 1; have f2 := rf 2; clear rf))
  have hS6 := HS6.out
  have hg := box3_put (y0 := .int .i64 q1) (y1 := .int .i64 q2) (y2 := .bool ok) hS6.x2
  try simp only [Exit.inBlock, Exit.then]
  refine bodyPost_ret (results_cell_row (p := 4) (fn := Try.f70) rfl _ _ _ _ _ _ _ rfl hg Try.underlying135 rfl (by kernel_rfl)) rfl ?_
  exact ⟨rfl, hS6.fin⟩
theorem endOf_node {M : Nat} {s : Int} (p1 p2 t q1 q2 : Int) (ok : Bool)
    (HT : (∀ w, GW M N l x gn tp A n c Ap cp Ag cg Df cf kk w → Calls Try.prog 82 #[.agg #[.pointer (some tp), .int .i64 (N : Int), .slice A n c, .slice Ap (kk + 2) cp, .slice Ag n cg, .slice Df (kk + 1) cf, .int .i64 s, .map (some M)], .agg #[.int .i64 p1, .int .i64 p2], .int .i64 t] w fun e' w' => e' = .returned (.agg #[.int .i64 q1, .int .i64 q2, .bool ok]) ∧ GW M N l x gn tp A n c Ap cp Ag cg Df cf kk w' ∧ But M w w')) (w : World) (h : GW M N l x gn tp A n c Ap cp Ag cg Df cf kk w) :
    Calls Try.prog 70 #[.agg #[.pointer (some tp), .int .i64 (N : Int), .slice A n c, .slice Ap (kk + 2) cp, .slice Ag n cg, .slice Df (kk + 1) cf, .int .i64 s, .map (some M)], .agg #[.int .i64 p1, .int .i64 p2, .bool false, .int .i64 t]] w fun e' w' => e' = .returned (.agg #[.int .i64 q1, .int .i64 q2, .bool ok]) ∧ GW M N l x gn tp A n c Ap cp Ag cg Df cf kk w' ∧ But M w w' := by
  have hS := EnB.start (s := s) (o1 := .cells #[.int .i64 p1, .int .i64 p2, .bool false, .int .i64 t] 133) h
  obtain ⟨g0, g1, g2, g3, g4, g5, g6, g7⟩ := box8_cells hS.x0
  obtain ⟨t0, t1, t2, t3, -⟩ := box4_cells hS.x1
  have HT' := hid HT
  have HS := hid hS
  clear hS h HT
  go_enter Try.func70, Try.ntmps70
  go_wp2_with (first
    | (go_at_call 82; (with_reducible refine (HT'.out _ HS.out.gw).mono ?_); rintro e' w5 ⟨rfl, hg5, hb5⟩; have HS5 := hid (HS.out.put hb5 hg5); clear hb5 hg5; obtain ⟨r0, r1, r2, rf⟩ := box3_cells HS5.out.x2; have f0 := rf 0; have f1 := rf 1; have f2 := rf 2; clear rf))
  have hg := box3_put (y0 := .int .i64 q1) (y1 := .int .i64 q2) (y2 := .bool ok) HS5.out.x2
  try simp only [Exit.inBlock, Exit.then]
  refine bodyPost_ret (results_cell_row (p := 4) (fn := Try.f70) rfl _ _ _ _ _ _ _ rfl hg Try.underlying135 rfl (by kernel_rfl)) rfl ?_
  exact ⟨rfl, HS5.out.fin⟩
theorem over_none {M : Nat} {s : Int} (p1 p2 t e : Int) (HE : (∀ w, GW M N l x gn tp A n c Ap cp Ag cg Df cf kk w → Calls Try.prog 50 #[.agg #[.pointer (some tp), .int .i64 (N : Int), .slice A n c, .slice Ap (kk + 2) cp, .slice Ag n cg, .slice Df (kk + 1) cf, .int .i64 s, .map (some M)], .agg #[.int .i64 p1, .int .i64 p2], .agg #[.bool true, .int .i64 e]] w fun e' w' => e' = .returned (.tuple #[.agg #[.int .i64 0, .int .i64 0], .bool false]) ∧ GW M N l x gn tp A n c Ap cp Ag cg Df cf kk w' ∧ But M w w')) (w : World) (h : GW M N l x gn tp A n c Ap cp Ag cg Df cf kk w) :
    Calls Try.prog 90 #[.agg #[.pointer (some tp), .int .i64 (N : Int), .slice A n c, .slice Ap (kk + 2) cp, .slice Ag n cg, .slice Df (kk + 1) cf, .int .i64 s, .map (some M)], .agg #[.int .i64 p1, .int .i64 p2], .int .i64 e, .int .i64 t] w fun e' w' => e' = .returned (.agg #[.int .i64 0, .int .i64 0, .bool false]) ∧ GW M N l x gn tp A n c Ap cp Ag cg Df cf kk w' ∧ But M w w' := by
  have hS := EnB.start (s := s) (o1 := .cells #[.int .i64 p1, .int .i64 p2] 92) h
  obtain ⟨g0, g1, g2, g3, g4, g5, g6, g7⟩ := box8_cells hS.x0
  obtain ⟨t0, t1, -⟩ := box_cells hS.x1
  have HE' := hid HE
  have HS := hid hS
  clear hS h HE
  go_enter Try.func90, Try.ntmps90
  go_wp2_with (first
    | (go_at_call 50; (with_reducible refine (HE'.out _ HS.out.gw).mono ?_); rintro e' w5 ⟨rfl, hg5, hb5⟩; have HS5 := hid (HS.out.put hb5 hg5); clear hb5 hg5; have HS6 := hid (HS5.out.next ((Below.refl _ _).alloc (Nat.le_refl _) (.cells #[.int .i64 0, .int .i64 0] 92))); have HZ6 := hid (heap_alloc_new w5 (.cells #[.int .i64 0, .int .i64 0] 92)); obtain ⟨r0, r1, r2, rf⟩ := box3_cells HS6.out.x2; have f0 := rf 0; have f1 := rf 1; have f2 := rf 2; clear rf; obtain ⟨g0, g1, g2, g3, g4, g5, g6, g7⟩ := box8_cells HS6.out.x0; obtain ⟨z0, z1, zf⟩ := box_cells HZ6.out; have zf0 := zf 0; have zf1 := zf 1; clear zf))
  have hS6 := HS6.out
  have hg := box3_put (y0 := .int .i64 0) (y1 := .int .i64 0) (y2 := .bool false) hS6.x2
  try simp only [Exit.inBlock, Exit.then]
  refine bodyPost_ret (results_cell_row (p := 8) (fn := Try.f90) rfl _ _ _ _ _ _ _ rfl hg Try.underlying135 rfl (by kernel_rfl)) rfl ?_
  exact ⟨rfl, hS6.fin⟩
theorem over_at {M : Nat} {s : Int} (p1 p2 t e u2 : Int) (HE : (∀ w, GW M N l x gn tp A n c Ap cp Ag cg Df cf kk w → Calls Try.prog 50 #[.agg #[.pointer (some tp), .int .i64 (N : Int), .slice A n c, .slice Ap (kk + 2) cp, .slice Ag n cg, .slice Df (kk + 1) cf, .int .i64 s, .map (some M)], .agg #[.int .i64 p1, .int .i64 p2], .agg #[.bool true, .int .i64 e]] w fun e' w' => e' = .returned (.tuple #[.agg #[.int .i64 t, .int .i64 u2], .bool true]) ∧ GW M N l x gn tp A n c Ap cp Ag cg Df cf kk w' ∧ But M w w')) (w : World) (h : GW M N l x gn tp A n c Ap cp Ag cg Df cf kk w) :
    Calls Try.prog 90 #[.agg #[.pointer (some tp), .int .i64 (N : Int), .slice A n c, .slice Ap (kk + 2) cp, .slice Ag n cg, .slice Df (kk + 1) cf, .int .i64 s, .map (some M)], .agg #[.int .i64 p1, .int .i64 p2], .int .i64 e, .int .i64 t] w fun e' w' => e' = .returned (.agg #[.int .i64 t, .int .i64 u2, .bool true]) ∧ GW M N l x gn tp A n c Ap cp Ag cg Df cf kk w' ∧ But M w w' := by
  have hS := EnB.start (s := s) (o1 := .cells #[.int .i64 p1, .int .i64 p2] 92) h
  obtain ⟨g0, g1, g2, g3, g4, g5, g6, g7⟩ := box8_cells hS.x0
  obtain ⟨t0, t1, -⟩ := box_cells hS.x1
  have HE' := hid HE
  have HS := hid hS
  clear hS h HE
  go_enter Try.func90, Try.ntmps90
  go_wp2_with (first
    | (go_at_call 50; (with_reducible refine (HE'.out _ HS.out.gw).mono ?_); rintro e' w5 ⟨rfl, hg5, hb5⟩; have HS5 := hid (HS.out.put hb5 hg5); clear hb5 hg5; have HS6 := hid (HS5.out.next ((Below.refl _ _).alloc (Nat.le_refl _) (.cells #[.int .i64 t, .int .i64 u2] 92))); have HZ6 := hid (heap_alloc_new w5 (.cells #[.int .i64 t, .int .i64 u2] 92)); obtain ⟨r0, r1, r2, rf⟩ := box3_cells HS6.out.x2; have f0 := rf 0; have f1 := rf 1; have f2 := rf 2; clear rf; obtain ⟨g0, g1, g2, g3, g4, g5, g6, g7⟩ := box8_cells HS6.out.x0; obtain ⟨z0, z1, zf⟩ := box_cells HZ6.out; have zf0 := zf 0; have zf1 := zf 1; clear zf))
  have hS6 := HS6.out
  have hg := box3_put (y0 := .int .i64 t) (y1 := .int .i64 u2) (y2 := .bool true) hS6.x2
  try simp only [Exit.inBlock, Exit.then]
  refine bodyPost_ret (results_cell_row (p := 8) (fn := Try.f90) rfl _ _ _ _ _ _ _ rfl hg Try.underlying135 rfl (by kernel_rfl)) rfl ?_
  exact ⟨rfl, hS6.fin⟩
theorem over_on {M : Nat} {s : Int} (p1 p2 t e u1 u2 v1 v2 : Int) (ok2 : Bool) (HE : (∀ w, GW M N l x gn tp A n c Ap cp Ag cg Df cf kk w → Calls Try.prog 50 #[.agg #[.pointer (some tp), .int .i64 (N : Int), .slice A n c, .slice Ap (kk + 2) cp, .slice Ag n cg, .slice Df (kk + 1) cf, .int .i64 s, .map (some M)], .agg #[.int .i64 p1, .int .i64 p2], .agg #[.bool true, .int .i64 e]] w fun e' w' => e' = .returned (.tuple #[.agg #[.int .i64 u1, .int .i64 u2], .bool true]) ∧ GW M N l x gn tp A n c Ap cp Ag cg Df cf kk w' ∧ But M w w')) (hne : u1 ≠ t) (HN : (∀ w, GW M N l x gn tp A n c Ap cp Ag cg Df cf kk w → Calls Try.prog 50 #[.agg #[.pointer (some tp), .int .i64 (N : Int), .slice A n c, .slice Ap (kk + 2) cp, .slice Ag n cg, .slice Df (kk + 1) cf, .int .i64 s, .map (some M)], .agg #[.int .i64 u1, .int .i64 u2], .agg #[.bool false, .int .i64 t]] w fun e' w' => e' = .returned (.tuple #[.agg #[.int .i64 v1, .int .i64 v2], .bool ok2]) ∧ GW M N l x gn tp A n c Ap cp Ag cg Df cf kk w' ∧ But M w w')) (w : World) (h : GW M N l x gn tp A n c Ap cp Ag cg Df cf kk w) :
    Calls Try.prog 90 #[.agg #[.pointer (some tp), .int .i64 (N : Int), .slice A n c, .slice Ap (kk + 2) cp, .slice Ag n cg, .slice Df (kk + 1) cf, .int .i64 s, .map (some M)], .agg #[.int .i64 p1, .int .i64 p2], .int .i64 e, .int .i64 t] w fun e' w' => e' = .returned (.agg #[.int .i64 v1, .int .i64 v2, .bool ok2]) ∧ GW M N l x gn tp A n c Ap cp Ag cg Df cf kk w' ∧ But M w w' := by
  have hS := EnB.start (s := s) (o1 := .cells #[.int .i64 p1, .int .i64 p2] 92) h
  obtain ⟨g0, g1, g2, g3, g4, g5, g6, g7⟩ := box8_cells hS.x0
  obtain ⟨t0, t1, -⟩ := box_cells hS.x1
  have HE' := hid HE
  have HN' := hid HN
  have tn : (u1 == t) = false := beq_eq_false_iff_ne.2 hne
  clear HN hne
  have HS := hid hS
  clear hS h HE
  go_enter Try.func90, Try.ntmps90
  go_wp2_with (first
    | (go_at_call 50; (with_reducible refine (HE'.out _ HS.out.gw).mono ?_); rintro e' w5 ⟨rfl, hg5, hb5⟩; have HS5 := hid (HS.out.put hb5 hg5); clear hb5 hg5; have HS6 := hid (HS5.out.next ((Below.refl _ _).alloc (Nat.le_refl _) (.cells #[.int .i64 u1, .int .i64 u2] 92))); have HZ6 := hid (heap_alloc_new w5 (.cells #[.int .i64 u1, .int .i64 u2] 92)); obtain ⟨r0, r1, r2, rf⟩ := box3_cells HS6.out.x2; have f0 := rf 0; have f1 := rf 1; have f2 := rf 2; clear rf; obtain ⟨g0, g1, g2, g3, g4, g5, g6, g7⟩ := box8_cells HS6.out.x0; obtain ⟨z0, z1, zf⟩ := box_cells HZ6.out; have zf0 := zf 0; have zf1 := zf 1; clear zf)
    | (go_at_call 50; (with_reducible refine (HN'.out _ HS6.out.gw).mono ?_); rintro e' w7 ⟨rfl, hg7, hb7⟩; have HS7 := hid (HS6.out.put hb7 hg7); have HZ7 := hid (box_but HZ6.out hb7 (by have := HS5.out.gw.lt; omega)); have hlt5 := blk_lt HS5.out.x2; clear hb7 hg7 HS6 HZ6; obtain ⟨z0, z1, zf⟩ := box_cells HZ7.out; have zf0 := zf 0; have zf1 := zf 1; clear zf; have HS8 := hid (HS7.out.set2 (u0 := .int .i64 v1) (u1 := .int .i64 v2) hlt5); obtain ⟨r0, r1, r2, rf⟩ := box3_cells HS8.out.x2; have f0 := rf 0; have f1 := rf 1; have f2 := rf 2; clear rf hlt5))
  have hS6 := HS8.out
  have hg := box3_put (y0 := .int .i64 v1) (y1 := .int .i64 v2) (y2 := .bool ok2) hS6.x2
  try simp only [Exit.inBlock, Exit.then]
  refine bodyPost_ret (results_cell_row (p := 8) (fn := Try.f90) rfl _ _ _ _ _ _ _ rfl hg Try.underlying135 rfl (by kernel_rfl)) rfl ?_
  exact ⟨rfl, hS6.fin⟩
end
end Go.Proofs.Ytkemcgbedapkcaa

/- expand: toNode. -/
namespace Go.Proofs.Ytkemcgbedapkcaa
open Go.RowKit
set_option maxHeartbeats 12800000
set_option maxRecDepth 100000
theorem next3_any (BT : Nat) (A' : Option Addr) (n c' : Nat) (A7 : Option Addr) (c7 : Nat) (ps : List (Value × Value)) (N : Nat) (l : List Lnk) (a b : Int) (w : World) (h : TAt BT A' n c' A7 c7 ps N l w) (hok : GOk N l) :
    Calls Try.prog 89 #[.pointer (some ⟨BT, 0, none⟩), .int .i64 a, .int .i64 b] w (IntAns (nextT N l a b) w) := by
  obtain ⟨c0, c1, c2, _⟩ := box3_cells h.box
  have HNa := hid (hasNode2_any BT N _ _ A7 c7 a w h.box)
  have HNb := hid (hasNode2_any BT N _ _ A7 c7 b w h.box)
  by_cases ha : 0 ≤ a ∧ a < N
  · rw [decide_eq_true ha] at HNa
    by_cases hb : 0 ≤ b ∧ b < N
    · rw [decide_eq_true hb] at HNb
      obtain ⟨A0, rfl⟩ := Int.eq_ofNat_of_zero_le ha.1
      obtain ⟨B0, rfl⟩ := Int.eq_ofNat_of_zero_le hb.1
      have hA0 : A0 < N := by omega
      have hB0 : B0 < N := by omega
      have Q : nextT N l (A0 : Int) (B0 : Int) = nextS (N : Int) l [] (distS N l [] B0) (A0 : Int) := by unfold nextT; rw [if_pos hb, Int.toNat_natCast]
      have hL := nextT_len N l (A0 : Int) (B0 : Int)
      rw [Q] at hL ⊢
      obtain ⟨g, v1, v2, rfl, hg, cg1, cg2, vs, _, ho2, hr2⟩ := h.at hB0
      obtain ⟨va, hva⟩ : ∃ va, vs[A0]? = some va := ⟨vs[A0]'(by have := ho2.1; omega), List.getElem?_eq_getElem _⟩
      obtain ⟨g2, cap2, rfl, hg2, cg3⟩ := own_row_at ho2 hva
      have hrow := hr2 A0 va hva
      obtain ⟨L, hLe⟩ : ∃ L, nextS (N : Int) l [] (distS N l [] B0) (A0 : Int) = L := ⟨_, rfl⟩
      rw [hLe] at hrow hL ⊢
      obtain ⟨Aa, ca, rfl, _, hr⟩ := own_ints hrow rfl
      have hn5 := hok.1
      have HC := hid (cloneInts_any Aa L.length ca L w hr (by omega) (fun hA => by
        subst hA
        rcases hrow.2 with ⟨h1, h2⟩ | ⟨g, cap, cur, h1, _⟩
        · simp only [Value.slice.injEq] at h1; exact ⟨h2, h1.2.2⟩
        · simp at h1))
      clear h ha hb ho2 hr2 hva hrow hr hLe Q hL hn5
      go_enter Try.func89, Try.ntmps89
      go_wp2_with (first
        | (go_at_call 95; (with_reducible refine HNa.out.mono ?_); rintro _ _ ⟨rfl, rfl⟩)
        | (go_at_call 95; (with_reducible refine HNb.out.mono ?_); rintro _ _ ⟨rfl, rfl⟩)
        | (go_at_call 96; (with_reducible refine HC.out.mono ?_); rintro e' w3 ⟨v3, rfl, hown3, hb3⟩; have HO3 := hid hown3; have HB3 := hid hb3; clear hown3 hb3))
      go_ret
      exact ⟨_, rfl, HO3.out, HB3.out⟩
    · rw [decide_eq_false hb] at HNb
      have Q : nextT N l a b = [] := by unfold nextT; rw [if_neg (by omega)]
      rw [Q]
      clear h ha hb Q
      go_enter Try.func89, Try.ntmps89
      go_wp2_with (first
        | (go_at_call 95; (with_reducible refine HNa.out.mono ?_); rintro _ _ ⟨rfl, rfl⟩)
        | (go_at_call 95; (with_reducible refine HNb.out.mono ?_); rintro _ _ ⟨rfl, rfl⟩))
      go_ret
      exact ⟨_, rfl, World.ownsRow_nil _ _ _ _, Below.refl _ _⟩
  · rw [decide_eq_false ha] at HNa
    have Q : nextT N l a b = [] := by
      unfold nextT nextS
      split
      · rw [if_neg (fun hh => ha ⟨hh.2.2.1, hh.2.2.2.1⟩)]
      · rfl
    rw [Q]
    clear h ha Q
    go_enter Try.func89, Try.ntmps89
    go_wp2_with (go_at_call 95; (with_reducible refine HNa.out.mono ?_); rintro _ _ ⟨rfl, rfl⟩)
    go_ret
    exact ⟨_, rfl, World.ownsRow_nil _ _ _ _, Below.refl _ _⟩
theorem tnext3_any {w : World} {p : Addr} {N : Nat} {l : List Lnk} (a b : Int) (h : TabAt w p N l) (hok : GOk N l) : Calls Try.prog 89 #[.pointer (some p), .int .i64 a, .int .i64 b] w (IntAns (nextT N l a b) w) := by
  obtain ⟨BT, A', n, c', A7, c7, ps, rfl, h⟩ := h
  exact next3_any BT A' n c' A7 c7 ps N l a b w h hok
/-- A row stays where a map turns. -/
theorem own_butM {M : Nat} {w w' : World} {base e size n : Nat} {v : Value} {xs : List Value} (hown : w.ownsRow base e size v n xs) (hb : But M w w') (hm : ∃ es ck, w.heap[M]? = some (.map es ck)) : w'.ownsRow base e size v n xs := by
  have hgb : w.grownBy w' (some M) := ⟨hb.os, hb.tape, hb.output, hb.size, fun k hk hne => hb.block k hk (fun e => hne (by rw [e]))⟩
  refine hown.kept hgb ?_
  rcases hown.2 with ⟨rfl, _⟩ | ⟨g, cap, cur, rfl, _, hg, _⟩
  · exact .inl rfl
  · refine .inr ?_
    simp only [Value.ownBlock, ne_eq, Option.some.injEq]
    rintro rfl
    obtain ⟨es, ck, hm⟩ := hm
    rw [hm] at hg
    cases hg
theorem end_stood : Try.prog.stoodInHeld 135 = false := by kernel_rfl
theorem arr_part (d : Nat) (a b a' b' : Int) (W : World) : (Op.equalIn (d + 2) 92 (.agg #[.int .i64 a, .int .i64 b]) (.agg #[.int .i64 a', .int .i64 b'])).run Try.prog W = .ok ((a == a') && (b == b')) W := by
  obtain ⟨i, hi, _⟩ := info_parts (show (Try.prog.info? 3).map (fun i => (i.zero, i.size, i.bytes)) = some (some (.int .i64 0), 1, 8) by kernel_rfl)
  rw [show d + 2 = (d + 1) + 1 from rfl, run_equalIn_array W (d + 1) (e := 3) (n := 2) (i := i) _ _ (by kernel_rfl) hi, show Try.prog.cellsOf 3 = 1 by kernel_rfl]
  have hp : ∀ (cs : Array Value) (off : Nat) (v : Value), cs[off]? = some v → (part 3 cs off).run Try.prog W = .ok v W := by
    intro cs off v h
    simp [part, isAgg, run_underlying Try.underlying3, h]
  have he : ∀ x y : Int, (Op.equalIn (d + 1) 3 (.int .i64 x) (.int .i64 y)).run Try.prog W = .ok (x == y) W := fun x y => run_equalIn_int W d 3 .i64 .i64 x y Try.underlying3
  rw [show List.range 2 = [0, 1] from rfl]
  simp only [Op.eqItems, Sem.run_bind]
  rw [hp _ _ (.int .i64 a) rfl, Result.andThen_ok, hp _ _ (.int .i64 a') rfl, Result.andThen_ok, he, Result.andThen_ok]
  cases h1 : (a == a') with
  | false => simp
  | true =>
    simp only [Bool.not_true, Bool.false_eq_true, if_false, Sem.run_bind, Bool.true_and]
    rw [hp _ _ (.int .i64 b) rfl, Result.andThen_ok, hp _ _ (.int .i64 b') rfl, Result.andThen_ok, he, Result.andThen_ok]
    cases h2 : (b == b') <;> simp
theorem end_ne (a b a' b' : Int) (c c' : Bool) (W : World) : (binOp .neq 135 (.agg #[.int .i64 a, .int .i64 b, .bool c]) (.agg #[.int .i64 a', .int .i64 b', .bool c'])).run Try.prog W = .ok (.bool (!((a == a') && (b == b') && (c == c')))) W := by
  rw [run_neq_struct, run_equalIn_agg W 9999 135 _ _ (by simp [Program.fieldsOf, Try.underlying135]) end_stood]
  have h := arr_part 9997 a b a' b' W
  cases h1 : (a == a') <;> cases h2 : (b == b') <;> cases h3 : (c == c') <;> simp [Program.fieldsOf, Try.underlying135, Op.eqFields, part, go_sem, h1, h2, h3, h]
/-- What the walk over the first edges has. -/
def MtI (R : List (Option (Int × Int))) (k : Nat) (a : Int × Int × Bool) : Prop := (k = 0 ∧ a = (0, 0, false)) ∨ (0 < k ∧ meetO (R.take k) = some (a.1, a.2.1) ∧ a.2.2 = true)
theorem MtI.fin {R : List (Option (Int × Int))} {a : Int × Int × Bool} (h : MtI R R.length a) : endT (meetO R) = a := by
  rcases h with ⟨h, rfl⟩ | ⟨_, h, h2⟩
  · rw [List.length_eq_zero_iff.1 h]; rfl
  · rw [List.take_length] at h
    rw [h]
    obtain ⟨a1, a2, a3⟩ := a
    simp only at h2
    subst h2
    rfl
theorem take_one_more {α : Type} {R : List α} {k : Nat} {o : α} (h : R[k]? = some o) : R.take (k + 1) = R.take k ++ [o] := by rw [List.take_add_one, h]; rfl
theorem MtI.bad {R : List (Option (Int × Int))} {k : Nat} {a : Int × Int × Bool} {o : Option (Int × Int)} (h : MtI R k a) (hk : R[k]? = some o) (hb : o = none ∨ (0 < k ∧ o ≠ some (a.1, a.2.1))) : meetO R = none := by
  have hlt := (List.getElem?_eq_some_iff.1 hk).1
  refine meetO_bad (i := k + 1) ?_ (Nat.succ_ne_zero _) hlt
  rw [take_one_more hk]
  rcases h with ⟨rfl, _⟩ | ⟨h0, h, _⟩
  · rcases hb with rfl | ⟨hb, _⟩
    · rfl
    · omega
  · rw [meetO_snoc_some h, if_neg]
    rcases hb with rfl | ⟨_, hb⟩
    · intro e; cases e
    · exact hb
theorem MtI.go {R : List (Option (Int × Int))} {k : Nat} {a : Int × Int × Bool} {q1 q2 : Int} (h : MtI R k a) (hk : R[k]? = some (some (q1, q2))) (hb : 0 < k → q1 = a.1 ∧ q2 = a.2.1) : MtI R (k + 1) (q1, q2, true) := by
  refine .inr ⟨Nat.succ_pos _, ?_, rfl⟩
  rw [take_one_more hk]
  rcases h with ⟨rfl, _⟩ | ⟨h0, h, _⟩
  · rfl
  · rw [meetO_snoc_some h]
    obtain ⟨e1, e2⟩ := hb h0
    rw [if_pos (by rw [e1, e2]), ← e1, ← e2]
section
variable {N : Nat} {l : List Lnk} {x : Wnt} {gn : List Bool} {tp : Addr} {A : Option Addr} {n c : Nat} {Ap : Option Addr} {cp : Nat} {Ag : Option Addr} {cg : Nat} {Df : Option Addr} {cf kk : Nat}
structure TnB (M : Nat) (N : Nat) (l : List Lnk) (x : Wnt) (gn : List Bool) (tp : Addr) (A : Option Addr) (n c : Nat) (Ap : Option Addr) (cp : Nat) (Ag : Option Addr) (cg : Nat) (Df : Option Addr) (cf kk : Nat) (Q : Nat) (s p1 p2 : Int) (L : List Int) (m : Nat) (Ar : Option Addr) (cr : Nat) (a1 a2 : Int) (ab : Bool) (w w' : World) : Prop where
  en : EnB M N l x gn tp A n c Ap cp Ag cg Df cf kk s (.cells #[.int .i64 p1, .int .i64 p2] 92) w w'
  al : w'.heap[Q]? = some (.cells #[.int .i64 a1, .int .i64 a2, .bool ab] 135 (0, 0))
  row : w'.ownsRow 0 3 1 (.slice Ar m cr) m (icells L)
  gt : w.heap.size + 1 + 1 < Q
theorem TnB.put {M : Nat} {Q : Nat} {s p1 p2 : Int} {L : List Int} {m : Nat} {Ar : Option Addr} {cr : Nat} {a1 a2 : Int} {ab : Bool} {w w' w'' : World} (h : TnB M N l x gn tp A n c Ap cp Ag cg Df cf kk Q s p1 p2 L m Ar cr a1 a2 ab w w') (hb : But M w' w'') (hg : GW M N l x gn tp A n c Ap cp Ag cg Df cf kk w'') : TnB M N l x gn tp A n c Ap cp Ag cg Df cf kk Q s p1 p2 L m Ar cr a1 a2 ab w w'' :=
  ⟨h.en.put hb hg, box_but h.al hb (by have := h.en.lt; have := h.gt; omega), own_butM h.row hb h.en.gw.map.isMap, h.gt⟩
theorem TnB.next {M : Nat} {Q : Nat} {s p1 p2 : Int} {L : List Int} {m : Nat} {Ar : Option Addr} {cr : Nat} {a1 a2 : Int} {ab : Bool} {w w' w'' : World} (h : TnB M N l x gn tp A n c Ap cp Ag cg Df cf kk Q s p1 p2 L m Ar cr a1 a2 ab w w') (hb : Below w'.heap.size w' w'') : TnB M N l x gn tp A n c Ap cp Ag cg Df cf kk Q s p1 p2 L m Ar cr a1 a2 ab w w'' :=
  ⟨h.en.next hb, box_below h.al hb (blk_lt h.al), own_below h.row hb, h.gt⟩
theorem TnB.set {M : Nat} {Q : Nat} {s p1 p2 : Int} {L : List Int} {m : Nat} {Ar : Option Addr} {cr : Nat} {a1 a2 : Int} {ab : Bool} {w w' : World} {b1 b2 : Int} {bb : Bool} (h : TnB M N l x gn tp A n c Ap cp Ag cg Df cf kk Q s p1 p2 L m Ar cr a1 a2 ab w w') : TnB M N l x gn tp A n c Ap cp Ag cg Df cf kk Q s p1 p2 L m Ar cr b1 b2 bb w (((w'.setCell ⟨Q, 0, none⟩ (.int .i64 b1)).setCell ⟨Q, 1, none⟩ (.int .i64 b2)).setCell ⟨Q, 2, none⟩ (.bool bb)) :=
  ⟨h.en.above (B := Q) (below_put3 (Below.refl _ _) (Nat.le_refl _)) h.gt, box3_put h.al, own_but h.row but_put3 h.al (by decide), h.gt⟩
theorem toNode_any (hg0 : GOk N l) {M : Nat} {s : Int} (p1 p2 t : Int) (L : List Int) (hL : nextT N l p1 t = L) (hLn : L.length ≤ 10000) (R : List (Option (Int × Int))) (hRl : R.length = L.length) (q1 q2 : Int) (ok : Bool) (hq : endT (meetO R) = (q1, q2, ok))
    (HO : ∀ (i : Nat) (e : Int) (o1 o2 : Int) (ok1 : Bool) (o : Option (Int × Int)), L[i]? = some e → R[i]? = some o → endT o = (o1, o2, ok1) → (∀ w, GW M N l x gn tp A n c Ap cp Ag cg Df cf kk w → Calls Try.prog 90 #[.agg #[.pointer (some tp), .int .i64 (N : Int), .slice A n c, .slice Ap (kk + 2) cp, .slice Ag n cg, .slice Df (kk + 1) cf, .int .i64 s, .map (some M)], .agg #[.int .i64 p1, .int .i64 p2], .int .i64 e, .int .i64 t] w fun e' w' => e' = .returned (.agg #[.int .i64 o1, .int .i64 o2, .bool ok1]) ∧ GW M N l x gn tp A n c Ap cp Ag cg Df cf kk w' ∧ But M w w')) (w : World) (h : GW M N l x gn tp A n c Ap cp Ag cg Df cf kk w) :
    Calls Try.prog 82 #[.agg #[.pointer (some tp), .int .i64 (N : Int), .slice A n c, .slice Ap (kk + 2) cp, .slice Ag n cg, .slice Df (kk + 1) cf, .int .i64 s, .map (some M)], .agg #[.int .i64 p1, .int .i64 p2], .int .i64 t] w fun e' w' => e' = .returned (.agg #[.int .i64 q1, .int .i64 q2, .bool ok]) ∧ GW M N l x gn tp A n c Ap cp Ag cg Df cf kk w' ∧ But M w w' := by
  have hS := EnB.start (s := s) (o1 := .cells #[.int .i64 p1, .int .i64 p2] 92) h
  have hZ := EnB.size0 (N := N) (tp := tp) (A := A) (n := n) (c := c) (Ap := Ap) (cp := cp) (Ag := Ag) (cg := cg) (Df := Df) (cf := cf) (kk := kk) (M := M) (s := s) (o1 := .cells #[.int .i64 p1, .int .i64 p2] 92) (w := w)
  have hx3 := alloc_new (o := .cells #[.int .i64 0, .int .i64 0, .bool false] 135) hZ
  have hS4 := hS.next ((Below.refl _ _).alloc (Nat.le_refl _) (.cells #[.int .i64 0, .int .i64 0, .bool false] 135))
  obtain ⟨g0, g1, g2, g3, g4, g5, g6, g7⟩ := box8_cells hS4.x0
  obtain ⟨t0, t1, -⟩ := box_cells hS4.x1
  have HNx := hid (fun (W : World) (hW : GW M N l x gn tp A n c Ap cp Ag cg Df cf kk W) => hL ▸ tnext3_any p1 t hW.at.tab hg0)
  have HO' := hid HO
  obtain ⟨m, hm⟩ : ∃ m, L.length = m := ⟨_, rfl⟩
  rw [hm] at hRl hLn
  have HQ := hid hq
  have HS4 := hid hS4
  have HX3 := hid hx3
  clear hS h hS4 hx3 hZ HO hL hq
  go_enter Try.func82, Try.ntmps82
  go_wp2_with (first
    | (go_at_call 89; (with_reducible refine (HNx.out _ HS4.out.gw).mono ?_); rintro e' w5 ⟨v5, rfl, hown5, hb5⟩; rw [hm] at hown5; obtain ⟨A5, c5, rfl⟩ := own_form hown5; have HT5 := hid (TnB.mk (HS4.out.next hb5) (box_below HX3.out hb5 (blk_lt HX3.out)) (own_mono hown5 (Nat.zero_le _)) (Nat.lt_succ_self _)); clear hown5 hb5))
  obtain ⟨Q, hQ⟩ : ∃ Q, w.heap.size + 1 + 1 + 1 = Q := ⟨_, rfl⟩
  rw [hQ] at HT5
  simp only [hQ]
  clear hQ HS4 HX3 HNx g0 g1 g2 g3 g4 g5 g6 g7 t0 t1
  go_loopw [18] (fun iv wr => ∃ (k : Nat) (a1 a2 : Int) (ab : Bool), k ≤ m ∧ iv = .int .i64 k ∧ Hid (TnB M N l x gn tp A n c Ap cp Ag cg Df cf kk Q s p1 p2 L m A5 c5 a1 a2 ab w wr) ∧ Hid (MtI R k (a1, a2, ab))) (fun iv _ => m - (intOf iv).toNat)
  case atStart => exact ⟨0, 0, 0, false, Nat.zero_le _, rfl, HT5, .inl ⟨rfl, rfl⟩⟩
  case round =>
    obtain ⟨k, a1, a2, ab, hk, rfl, HW, HI⟩ := hrel
    obtain ⟨x0, x1, x2, xf⟩ := box3_cells HW.out.al
    obtain ⟨r0, r1, r2, rf⟩ := box3_cells HW.out.en.x2
    have rf0 := rf 0
    have rf1 := rf 1
    have rf2 := rf 2
    clear xf rf HT5
    by_cases hlt : k < m
    · have t1 : decide ((k : Int) < (m : Int)) = true := decide_eq_true (by omega)
      have t2 : decide (k < m) = true := decide_eq_true hlt
      have ewk : IntKind.i64.wrap ((k : Int) + 1) = (k : Int) + 1 := by rw [IntKind.wrap_i64]; omega
      obtain ⟨e, he⟩ : ∃ e, L[k]? = some e := ⟨_, List.getElem?_eq_getElem (by omega)⟩
      obtain ⟨o, ho⟩ : ∃ o, R[k]? = some o := ⟨_, List.getElem?_eq_getElem (by omega)⟩
      obtain ⟨A6, c6, hA6, _, hr6⟩ := own_ints HW.out.row hm
      cases hA6
      obtain ⟨b6, o6, rfl, -, hc6⟩ := hr6.2 (by omega)
      have hce := hc6 k e he
      clear hc6 hr6
      obtain ⟨o1, o2, ok1, hoe⟩ : ∃ o1 o2 ok1, endT o = (o1, o2, ok1) := ⟨_, _, _, rfl⟩
      have HOk := hid (HO'.out k e o1 o2 ok1 o he ho hoe)
      clear he
      obtain ⟨g0, g1, g2, g3, g4, g5, g6, g7⟩ := box8_cells HW.out.en.x0
      obtain ⟨t3, t4, -⟩ := box_cells HW.out.en.x1
      cases o with
      | none =>
        simp only [endT, Prod.mk.injEq] at hoe
        obtain ⟨rfl, rfl, rfl⟩ := hoe
        have HN : Hid ((q1, q2, ok) = ((0 : Int), (0 : Int), false)) := by
          show _ = _
          rw [← HQ.out, HI.out.bad ho (.inl rfl)]; rfl
        clear ho HI HQ ewk
        go_wp2_with (go_at_call 90; (with_reducible refine (HOk.out _ HW.out.en.gw).mono ?_); rintro e' w7 ⟨rfl, hg7, hb7⟩; have HW7 := hid ((HW.out.put hb7 hg7).next ((Below.refl _ _).alloc (Nat.le_refl _) (.cells #[.int .i64 0, .int .i64 0, .bool false] 135))); have HZ7 := hid (heap_alloc_new w7 (.cells #[.int .i64 0, .int .i64 0, .bool false] 135)); clear hb7 hg7; obtain ⟨x0, x1, x2, xf⟩ := box3_cells HW7.out.al; have xf0 := xf 0; have xf1 := xf 1; have xf2 := xf 2; obtain ⟨r0, r1, r2, rf⟩ := box3_cells HW7.out.en.x2; have rf0 := rf 0; have rf1 := rf 1; have rf2 := rf 2; obtain ⟨z0, z1, z2, zf⟩ := box3_cells HZ7.out; clear xf rf zf)
        have hg := box3_put (y0 := .int .i64 0) (y1 := .int .i64 0) (y2 := .bool false) HW7.out.en.x2
        have hn := HN.out
        simp only [Prod.mk.injEq] at hn
        obtain ⟨rfl, rfl, rfl⟩ := hn
        try simp only [Exit.inBlock, Exit.then]
        refine bodyPost_ret (results_cell_row (p := 6) (fn := Try.f82) rfl _ _ _ _ _ _ _ rfl hg Try.underlying135 rfl (by kernel_rfl)) rfl ?_
        exact ⟨rfl, HW7.out.en.fin⟩
      | some q =>
        obtain ⟨u1, u2⟩ := q
        simp only [endT, Prod.mk.injEq] at hoe
        obtain ⟨rfl, rfl, rfl⟩ := hoe
        have qne := end_ne u1 u2 a1 a2 true ab
        by_cases hk0 : k = 0
        · have HI2 : Hid (MtI R (k + 1) (u1, u2, true)) := HI.out.go ho (fun h => absurd h (by omega))
          have d1 : decide ((0 : Int) < (k : Int)) = false := decide_eq_false (by omega)
          have d2 : decide (0 < k) = false := decide_eq_false (by omega)
          clear ho HI hk0
          go_wp2_with (go_at_call 90; (with_reducible refine (HOk.out _ HW.out.en.gw).mono ?_); rintro e' w7 ⟨rfl, hg7, hb7⟩; have HW7 := hid ((HW.out.put hb7 hg7).next ((Below.refl _ _).alloc (Nat.le_refl _) (.cells #[.int .i64 u1, .int .i64 u2, .bool true] 135))); have HZ7 := hid (heap_alloc_new w7 (.cells #[.int .i64 u1, .int .i64 u2, .bool true] 135)); clear hb7 hg7; obtain ⟨x0, x1, x2, xf⟩ := box3_cells HW7.out.al; have xf0 := xf 0; have xf1 := xf 1; have xf2 := xf 2; obtain ⟨r0, r1, r2, rf⟩ := box3_cells HW7.out.en.x2; have rf0 := rf 0; have rf1 := rf 1; have rf2 := rf 2; obtain ⟨z0, z1, z2, zf⟩ := box3_cells HZ7.out; clear xf rf zf)
          have HW8 := hid (HW7.out.set (b1 := u1) (b2 := u2) (bb := true))
          clear ewk
          go_roundw
          case rel => exact ⟨k + 1, u1, u2, true, by omega, by go_num, HW8, HI2⟩
          case measure => simp [intOf]; omega
        · by_cases hua : u1 = a1 ∧ u2 = a2
          · obtain ⟨rfl, rfl⟩ := hua
            have HI2 : Hid (MtI R (k + 1) (u1, u2, true)) := HI.out.go ho (fun _ => ⟨rfl, rfl⟩)
            have hab : ab = true := by
              rcases HI.out with ⟨h, _⟩ | ⟨_, _, h⟩
              · omega
              · exact h
            subst hab
            have d1 : decide ((0 : Int) < (k : Int)) = true := decide_eq_true (by omega)
            have d2 : decide (0 < k) = true := decide_eq_true (by omega)
            simp only [beq_self_eq_true, Bool.and_self, Bool.not_true] at qne
            clear ho HI hk0
            go_wp2_with (go_at_call 90; (with_reducible refine (HOk.out _ HW.out.en.gw).mono ?_); rintro e' w7 ⟨rfl, hg7, hb7⟩; have HW7 := hid ((HW.out.put hb7 hg7).next ((Below.refl _ _).alloc (Nat.le_refl _) (.cells #[.int .i64 u1, .int .i64 u2, .bool true] 135))); have HZ7 := hid (heap_alloc_new w7 (.cells #[.int .i64 u1, .int .i64 u2, .bool true] 135)); clear hb7 hg7; obtain ⟨x0, x1, x2, xf⟩ := box3_cells HW7.out.al; have xf0 := xf 0; have xf1 := xf 1; have xf2 := xf 2; obtain ⟨r0, r1, r2, rf⟩ := box3_cells HW7.out.en.x2; have rf0 := rf 0; have rf1 := rf 1; have rf2 := rf 2; obtain ⟨z0, z1, z2, zf⟩ := box3_cells HZ7.out; clear xf rf zf)
            have HW8 := hid (HW7.out.set (b1 := u1) (b2 := u2) (bb := true))
            clear ewk
            go_roundw
            case rel => exact ⟨k + 1, u1, u2, true, by omega, by go_num, HW8, HI2⟩
            case measure => simp [intOf]; omega
          · have HN : Hid ((q1, q2, ok) = ((0 : Int), (0 : Int), false)) := by
              show _ = _
              rw [← HQ.out, HI.out.bad ho (.inr ⟨by omega, fun e => hua (by injection e with e; injection e with e1 e2; exact ⟨e1, e2⟩)⟩)]; rfl
            have qne' : ∀ W, (binOp .neq 135 (.agg #[.int .i64 u1, .int .i64 u2, .bool true]) (.agg #[.int .i64 a1, .int .i64 a2, .bool ab])).run Try.prog W = .ok (.bool true) W := fun W => by
              rw [qne W]
              have : ((u1 == a1) && (u2 == a2) && (true == ab)) = false := by
                cases h1 : (u1 == a1) <;> cases h2 : (u2 == a2) <;> simp
                exact (hua ⟨by simpa using h1, by simpa using h2⟩).elim
              rw [this]; rfl
            have d1 : decide ((0 : Int) < (k : Int)) = true := decide_eq_true (by omega)
            have d2 : decide (0 < k) = true := decide_eq_true (by omega)
            clear qne ho HI HQ ewk hk0 hua
            go_wp2_with (go_at_call 90; (with_reducible refine (HOk.out _ HW.out.en.gw).mono ?_); rintro e' w7 ⟨rfl, hg7, hb7⟩; have HW7 := hid ((HW.out.put hb7 hg7).next ((Below.refl _ _).alloc (Nat.le_refl _) (.cells #[.int .i64 u1, .int .i64 u2, .bool true] 135))); have HZ7 := hid (heap_alloc_new w7 (.cells #[.int .i64 u1, .int .i64 u2, .bool true] 135)); clear hb7 hg7; obtain ⟨x0, x1, x2, xf⟩ := box3_cells HW7.out.al; have xf0 := xf 0; have xf1 := xf 1; have xf2 := xf 2; obtain ⟨r0, r1, r2, rf⟩ := box3_cells HW7.out.en.x2; have rf0 := rf 0; have rf1 := rf 1; have rf2 := rf 2; obtain ⟨z0, z1, z2, zf⟩ := box3_cells HZ7.out; clear xf rf zf)
            have hg := box3_put (y0 := .int .i64 0) (y1 := .int .i64 0) (y2 := .bool false) HW7.out.en.x2
            have hn := HN.out
            simp only [Prod.mk.injEq] at hn
            obtain ⟨rfl, rfl, rfl⟩ := hn
            try simp only [Exit.inBlock, Exit.then]
            refine bodyPost_ret (results_cell_row (p := 6) (fn := Try.f82) rfl _ _ _ _ _ _ _ rfl hg Try.underlying135 rfl (by kernel_rfl)) rfl ?_
            exact ⟨rfl, HW7.out.en.fin⟩
    · obtain rfl : k = m := by omega
      have t1 : decide ((k : Int) < (k : Int)) = false := by simp
      have t2 : decide (k < k) = false := by simp
      have HN : Hid ((q1, q2, ok) = (a1, a2, ab)) := by
        show _ = _
        have := HI.out
        rw [← hRl] at this
        rw [← HQ.out, this.fin]
      go_wp2_with fail
      have hg := box3_put (y0 := .int .i64 a1) (y1 := .int .i64 a2) (y2 := .bool ab) HW.out.en.x2
      have hn := HN.out
      simp only [Prod.mk.injEq] at hn
      obtain ⟨rfl, rfl, rfl⟩ := hn
      try simp only [Exit.inBlock, Exit.then]
      refine bodyPost_ret (results_cell_row (p := 6) (fn := Try.f82) rfl _ _ _ _ _ _ _ rfl hg Try.underlying135 rfl (by kernel_rfl)) rfl ?_
      exact ⟨rfl, HW.out.en.fin⟩
end
end Go.Proofs.Ytkemcgbedapkcaa

/- expand: what Seg tells, whatever the segment. -/
namespace Go.Proofs.Ytkemcgbedapkcaa
open Go.RowKit
set_option maxHeartbeats 12800000
set_option maxRecDepth 100000
theorem distT_self {N : Nat} {l : List Lnk} (hg : GOk N l) {a : Nat} (ha : a < N) : distT N l (a : Int) (a : Int) = 0 := by
  rw [distT_in ha ha]
  exact (dist_ok hg ha).src
theorem nextT_self {N : Nat} {l : List Lnk} (hg : GOk N l) {a : Int} (h0 : 0 ≤ a) (ha : a < N) : nextT N l a a = [] := by
  obtain ⟨k, rfl⟩ := Int.eq_ofNat_of_zero_le h0
  have h1 := distT_self hg (a := k) (by omega)
  refine List.length_eq_zero_iff.1 ?_
  rcases Nat.eq_zero_or_pos (nextT N l (k : Int) (k : Int)).length with h | h
  · exact h
  · have := (nextT_some hg (k : Int) (k : Int)).1 h
    omega
/-- Where a segment to a node leads, edge by edge. -/
theorem segO_node {N : Nat} {l : List Lnk} {x : Wnt} {gn : List Bool} (hg : GOk N l) {p : Int × Int} {t : Int} (hp : InS N x p) (ht : 0 ≤ t ∧ t < N) : segO N l x gn p false t = meetO ((nextT N l p.1 t).map fun e => (stepO N l x gn p.1 p.2 e).bind (reachO N l x gn t)) := by
  obtain ⟨h1, h2, h3, h4⟩ := hp
  unfold segO
  rw [if_neg (by decide)]
  by_cases hpt : p.1 = t
  · rw [if_neg (fun h => h.2.2.2.2.1 hpt), hpt, nextT_self hg ht.1 ht.2]
    rfl
  · rw [if_pos ⟨ht.1, ht.2, h1, h2, hpt, h3, h4⟩, reachO_eq hg, if_neg hpt]
theorem segO_reach {N : Nat} {l : List Lnk} {x : Wnt} {gn : List Bool} {p : Int × Int} {t : Int} (hp : InS N x p) (ht : 0 ≤ t ∧ t < N) (hne : p.1 ≠ t) : segO N l x gn p false t = reachO N l x gn t p := by
  obtain ⟨h1, h2, h3, h4⟩ := hp
  unfold segO
  rw [if_neg (by decide), if_pos ⟨ht.1, ht.2, h1, h2, hne, h3, h4⟩]
theorem node_seg {N : Nat} {l : List Lnk} {t : Int} (ht : 0 ≤ t ∧ t < N) : (⟨false, t⟩ : Sg) ∈ segsS N l := by
  unfold segsS
  refine List.mem_append_left _ (List.mem_map.2 ⟨t.toNat, List.mem_range.2 (by omega), ?_⟩)
  rw [show ((t.toNat : Nat) : Int) = t by omega]
theorem edge_seg {N : Nat} {l : List Lnk} {t : Int} (ht : 0 ≤ t ∧ t < 2 * (l.length : Int)) : (⟨true, t⟩ : Sg) ∈ segsS N l := by
  unfold segsS
  refine List.mem_append_right _ (List.mem_map.2 ⟨t.toNat, List.mem_range.2 (by omega), ?_⟩)
  rw [show ((t.toNat : Nat) : Int) = t by omega]
theorem seg_nodeG {N : Nat} {l : List Lnk} {t : Int} (h : (⟨false, t⟩ : Sg) ∈ segsS N l) : 0 ≤ t ∧ t < N := by
  unfold segsS at h
  rcases List.mem_append.1 h with h | h <;> obtain ⟨i, hi, he⟩ := List.mem_map.1 h
  · have := List.mem_range.1 hi
    simp at he
    omega
  · simp at he
section
variable {N : Nat} {l : List Lnk} {x : Wnt} {gn : List Bool} {tp : Addr} {A : Option Addr} {n c : Nat} {Ap : Option Addr} {cp : Nat} {Ag : Option Addr} {cg : Nat} {Df : Option Addr} {cf kk : Nat}
theorem seg_edgeG (hr : rightS (N : Int) l x = 0) (hN : N ≤ 10) (hl : l.length ≤ 16) (hv : x.via.length ≤ 4) {M : Nat} {s : Int} (p1 p2 e q1 q2 : Int) (ok : Bool) (ha : InK N l x ((p1, p2), ⟨true, e⟩)) (hq : endT (stepO (N : Int) l x gn p1 p2 e) = (q1, q2, ok)) : (∀ w, GW M N l x gn tp A n c Ap cp Ag cg Df cf kk w → Calls Try.prog 50 #[.agg #[.pointer (some tp), .int .i64 (N : Int), .slice A n c, .slice Ap (kk + 2) cp, .slice Ag n cg, .slice Df (kk + 1) cf, .int .i64 s, .map (some M)], .agg #[.int .i64 p1, .int .i64 p2], .agg #[.bool true, .int .i64 e]] w fun e' w' => e' = .returned (.tuple #[.agg #[.int .i64 q1, .int .i64 q2], .bool ok]) ∧ GW M N l x gn tp A n c Ap cp Ag cg Df cf kk w' ∧ But M w w') := by
  obtain ⟨k1, k2, k3⟩ := ha.ok hN hl hv
  refine seg_any hN hl hv p1 p2 true e q1 q2 ok ha ?_ (fun w h => endOf_edge hr p1 p2 e q1 q2 ok k1 k2 k3 hq w h)
  unfold segO
  rw [if_pos rfl]
  exact hq
theorem seg_to (hg : GOk N l) (hr : rightS (N : Int) l x = 0) (hN : N ≤ 10) (hl : l.length ≤ 16) (hv : x.via.length ≤ 4) {M : Nat} {s : Int} : ∀ (d : Nat) (p1 p2 t q1 q2 : Int) (ok : Bool), (distT N l p1 t).toNat ≤ d → InK N l x ((p1, p2), ⟨false, t⟩) → endT (segO N l x gn (p1, p2) false t) = (q1, q2, ok) → (∀ w, GW M N l x gn tp A n c Ap cp Ag cg Df cf kk w → Calls Try.prog 50 #[.agg #[.pointer (some tp), .int .i64 (N : Int), .slice A n c, .slice Ap (kk + 2) cp, .slice Ag n cg, .slice Df (kk + 1) cf, .int .i64 s, .map (some M)], .agg #[.int .i64 p1, .int .i64 p2], .agg #[.bool false, .int .i64 t]] w fun e' w' => e' = .returned (.tuple #[.agg #[.int .i64 q1, .int .i64 q2], .bool ok]) ∧ GW M N l x gn tp A n c Ap cp Ag cg Df cf kk w' ∧ But M w w') := by
  intro d
  induction d with
  | zero =>
    intro p1 p2 t q1 q2 ok hd ha hq
    have ht := seg_nodeG ha.2
    rw [segO_node hg ha.1 ht] at hq
    have hnil : nextT N l p1 t = [] := by
      refine List.length_eq_zero_iff.1 ?_
      rcases Nat.eq_zero_or_pos (nextT N l p1 t).length with h | h
      · exact h
      · have := (nextT_some hg p1 t).1 h
        omega
    refine seg_any hN hl hv p1 p2 false t q1 q2 ok ha (by rw [segO_node hg ha.1 ht]; exact hq) (fun w h => endOf_node p1 p2 t q1 q2 ok (fun w h => ?_) w h)
    refine toNode_any hg p1 p2 t [] hnil (by simp) [] rfl q1 q2 ok ?_ (fun i e o1 o2 ok1 o he => by simp at he) w h
    simp only [hnil, List.map_nil] at hq
    exact hq
  | succ d ih =>
    intro p1 p2 t q1 q2 ok hd ha hq
    have ht := seg_nodeG ha.2
    have hn5 := hg.1
    refine seg_any hN hl hv p1 p2 false t q1 q2 ok ha hq (fun w h => endOf_node p1 p2 t q1 q2 ok (fun w h => ?_) w h)
    rw [segO_node hg ha.1 ht] at hq
    refine toNode_any hg p1 p2 t _ rfl (Nat.le_trans (nextT_len N l p1 t) (by omega)) _ (List.length_map ..) q1 q2 ok hq (fun i e o1 o2 ok1 o he ho hoe => ?_) w h
    have hem : e ∈ nextT N l p1 t := List.mem_of_getElem? he
    rw [List.getElem?_map, he] at ho
    simp only [Option.map_some, Option.some.injEq] at ho
    obtain ⟨k, A0, y, z, hke, _, hk, _⟩ := nextT_mem hg hem
    have hie : InK N l x ((p1, p2), ⟨true, e⟩) := ⟨ha.1, edge_seg (by omega)⟩
    have hnear := fun q => next_near (x := x) (gn := gn) hg (b := t) (p := (p1, p2)) (q := q) hem
    have hin := fun q => stepO_in (gn := gn) (q := q) (v := p1) (k := p2) (e := e) hr
    have hse := fun u1 u2 ok0 => seg_edgeG (tp := tp) (A := A) (n := n) (c := c) (Ap := Ap) (cp := cp) (Ag := Ag) (cg := cg) (Df := Df) (cf := cf) (kk := kk) (gn := gn) (M := M) (s := s) hr hN hl hv p1 p2 e u1 u2 ok0 hie
    intro w h
    cases hst : stepO (N : Int) l x gn p1 p2 e with
    | none =>
      rw [hst] at ho
      subst ho
      simp only [Option.bind_none, endT, Prod.mk.injEq] at hoe
      obtain ⟨rfl, rfl, rfl⟩ := hoe
      exact over_none p1 p2 t e (hse 0 0 false (by rw [hst]; rfl)) w h
    | some u =>
      obtain ⟨u1, u2⟩ := u
      have h1 := hse u1 u2 true (by rw [hst]; rfl)
      rw [hst] at ho
      simp only [Option.bind_some] at ho
      have hiu := hin _ hst
      have hnu := hnear _ hst
      by_cases hut : u1 = t
      · subst hut
        rw [reachO_eq hg, if_pos rfl] at ho
        subst ho
        simp only [endT, Prod.mk.injEq] at hoe
        obtain ⟨rfl, rfl, rfl⟩ := hoe
        exact over_at p1 p2 _ e _ h1 w h
      · subst ho
        rw [← segO_reach hiu ht hut] at hoe
        exact over_on p1 p2 t e u1 u2 o1 o2 ok1 h1 hut (ih u1 u2 t o1 o2 ok1 (by simp only at hnu; omega) ⟨hiu, ha.2⟩ hoe) w h
theorem seg_all (hg : GOk N l) (hr : rightS (N : Int) l x = 0) (hN : N ≤ 10) (hl : l.length ≤ 16) (hv : x.via.length ≤ 4) {M : Nat} {s : Int} (p1 p2 : Int) (e : Bool) (t q1 q2 : Int) (ok : Bool) (ha : InK N l x ((p1, p2), ⟨e, t⟩)) (hq : endT (segO N l x gn (p1, p2) e t) = (q1, q2, ok)) : (∀ w, GW M N l x gn tp A n c Ap cp Ag cg Df cf kk w → Calls Try.prog 50 #[.agg #[.pointer (some tp), .int .i64 (N : Int), .slice A n c, .slice Ap (kk + 2) cp, .slice Ag n cg, .slice Df (kk + 1) cf, .int .i64 s, .map (some M)], .agg #[.int .i64 p1, .int .i64 p2], .agg #[.bool e, .int .i64 t]] w fun e' w' => e' = .returned (.tuple #[.agg #[.int .i64 q1, .int .i64 q2], .bool ok]) ∧ GW M N l x gn tp A n c Ap cp Ag cg Df cf kk w' ∧ But M w w') := by
  cases e with
  | true =>
    refine seg_edgeG hr hN hl hv p1 p2 t q1 q2 ok ha ?_
    unfold segO at hq
    rw [if_pos rfl] at hq
    exact hq
  | false => exact seg_to hg hr hN hl hv _ p1 p2 t q1 q2 ok (Nat.le_refl _) ha hq
end
end Go.Proofs.Ytkemcgbedapkcaa
