/- The reference's SameWant, SameRule, SameRules: of rules that are the same. -/
import Derived.Test.YthoblabimkfjpaaRuB
import Derived.Test.YthoblabimkfjpaaRfB
import Derived.Deep.RegionHeld3
import Derived.Deep.Slices
import Derived.ChangeSame
import Derived.Deep.RegionLaw
namespace Go.Proofs.Ythoblabimkfjpaa
open Go.RowKit Go.ChangeShapes Go.WideShapes Go.Deep
set_option maxHeartbeats 6400000
set_option maxRecDepth 100000
/-- Lists not too long. -/
def Short (x : Wnt) : Prop := x.via.length ≤ 1000000 ∧ x.nds.length ≤ 1000000 ∧ x.lks.length ≤ 1000000 ∧ x.cls.length ≤ 1000000
def WBox (B : Nat) (x : Wnt) (y : WSl) (w : World) : Prop := w.heap[B]? = some (.cells #[.int .i64 x.frm, .int .i64 x.too, .int .i64 x.bnd, .slice y.av y.nv y.cv, .slice y.an y.nn y.cn, .slice y.al y.nl y.cl, .slice y.ac y.nc y.cc] 51 (0, 0))
theorem wbox_cells {w : World} {B : Nat} {x : Wnt} {y : WSl} (h : WBox B x y w) : w.cell? ⟨B, 0, none⟩ = some (.int .i64 x.frm) ∧ w.cell? ⟨B, 1, none⟩ = some (.int .i64 x.too) ∧ w.cell? ⟨B, 2, none⟩ = some (.int .i64 x.bnd) ∧ w.cell? ⟨B, 3, none⟩ = some (.slice y.av y.nv y.cv) ∧ w.cell? ⟨B, 4, none⟩ = some (.slice y.an y.nn y.cn) ∧ w.cell? ⟨B, 5, none⟩ = some (.slice y.al y.nl y.cl) ∧ w.cell? ⟨B, 6, none⟩ = some (.slice y.ac y.nc y.cc) := by
  refine ⟨?_, ?_, ?_, ?_, ?_, ?_, ?_⟩ <;> (rw [cell_of_row _ _ _ _ _ _ h]; rfl)
theorem sameWant_any (x : Wnt) (y y' : WSl) (w : World) (h : WArg w x y) (h' : WArg w x y') (hs : Short x) :
    Calls Try.prog 46 #[.agg #[.int .i64 x.frm, .int .i64 x.too, .int .i64 x.bnd, .slice y.av y.nv y.cv, .slice y.an y.nn y.cn, .slice y.al y.nl y.cl, .slice y.ac y.nc y.cc], .agg #[.int .i64 x.frm, .int .i64 x.too, .int .i64 x.bnd, .slice y'.av y'.nv y'.cv, .slice y'.an y'.nn y'.cn, .slice y'.al y'.nl y'.cl, .slice y'.ac y'.nc y'.cc]] w fun e w' => e = .returned (.bool true) ∧ Below w.heap.size w w' := by
  obtain ⟨W, hW⟩ : ∃ W, (w.alloc (.cells #[.int .i64 x.frm, .int .i64 x.too, .int .i64 x.bnd, .slice y.av y.nv y.cv, .slice y.an y.nn y.cn, .slice y.al y.nl y.cl, .slice y.ac y.nc y.cc] 51)).alloc (.cells #[.int .i64 x.frm, .int .i64 x.too, .int .i64 x.bnd, .slice y'.av y'.nv y'.cv, .slice y'.an y'.nn y'.cn, .slice y'.al y'.nl y'.cl, .slice y'.ac y'.nc y'.cc] 51) = W := ⟨_, rfl⟩
  have hb1 : Below w.heap.size w (w.alloc (.cells #[.int .i64 x.frm, .int .i64 x.too, .int .i64 x.bnd, .slice y.av y.nv y.cv, .slice y.an y.nn y.cn, .slice y.al y.nl y.cl, .slice y.ac y.nc y.cc] 51)) := (Below.refl _ _).alloc (Nat.le_refl _) _
  have hbW : Below w.heap.size w W := by rw [← hW]; exact hb1.alloc (by simp) _
  have hX1 : WBox w.heap.size x y W := by rw [← hW]; exact box_below (heap_alloc_new w _) ((Below.refl _ _).alloc (Nat.le_refl _) _) (by simp)
  have hX2 : WBox (w.heap.size + 1) x y' W := by
    have := heap_alloc_new (w.alloc (.cells #[.int .i64 x.frm, .int .i64 x.too, .int .i64 x.bnd, .slice y.av y.nv y.cv, .slice y.an y.nn y.cn, .slice y.al y.nl y.cl, .slice y.ac y.nc y.cc] 51)) (.cells #[.int .i64 x.frm, .int .i64 x.too, .int .i64 x.bnd, .slice y'.av y'.nv y'.cv, .slice y'.an y'.nn y'.cn, .slice y'.al y'.nl y'.cl, .slice y'.ac y'.nc y'.cc] 51)
    rw [show (w.alloc (.cells #[.int .i64 x.frm, .int .i64 x.too, .int .i64 x.bnd, .slice y.av y.nv y.cv, .slice y.an y.nn y.cn, .slice y.al y.nl y.cl, .slice y.ac y.nc y.cc] 51)).heap.size = w.heap.size + 1 by simp, hW] at this
    exact this
  have HC := hid (fun (w' : World) (hb : Below W.heap.size W w') => And.intro (wbox_cells (box_below hX1 hb (pst_lt hX1))) (wbox_cells (box_below hX2 hb (pst_lt hX2))))
  have HA := hid (fun (w' : World) (hb : Below W.heap.size W w') => And.intro (h.on (hbW.trans (hb.mono hbW.size))) (h'.on (hbW.trans (hb.mono hbW.size))))
  have e1 : y.nv = y'.nv := h.via.row.1.symm.trans h'.via.row.1
  have e2 : y.nn = y'.nn := h.nds.row.1.symm.trans h'.nds.row.1
  have e3 : y.nl = y'.nl := h.lks.row.1.symm.trans h'.lks.row.1
  have e4 : y.nc = y'.nc := h.cls.row.1.symm.trans h'.cls.row.1
  have l1 := h.via.row.1; have l2 := h.nds.row.1; have l3 := h.lks.row.1; have l4 := h.cls.row.1
  have HV := hid (fun (w' : World) (hb : Below W.heap.size W w') => show Calls Try.prog 57 #[.slice y.av y.nv y.cv, .slice y'.av y'.nv y'.cv] w' fun e w'' => e = .returned (.bool true) ∧ Below w'.heap.size w' w'' from e1 ▸ same_any y.av y'.av y.nv y.cv y'.cv x.via w' (HA.out w' hb).1.via.row (e1 ▸ (HA.out w' hb).2.via.row) (by rw [← l1]; exact hs.1))
  have HN := hid (fun (w' : World) (hb : Below W.heap.size W w') => show Calls Try.prog 57 #[.slice y.an y.nn y.cn, .slice y'.an y'.nn y'.cn] w' fun e w'' => e = .returned (.bool true) ∧ Below w'.heap.size w' w'' from e2 ▸ same_any y.an y'.an y.nn y.cn y'.cn x.nds w' (HA.out w' hb).1.nds.row (e2 ▸ (HA.out w' hb).2.nds.row) (by rw [← l2]; exact hs.2.1))
  have HL := hid (fun (w' : World) (hb : Below W.heap.size W w') => show Calls Try.prog 57 #[.slice y.al y.nl y.cl, .slice y'.al y'.nl y'.cl] w' fun e w'' => e = .returned (.bool true) ∧ Below w'.heap.size w' w'' from e3 ▸ same_any y.al y'.al y.nl y.cl y'.cl x.lks w' (HA.out w' hb).1.lks.row (e3 ▸ (HA.out w' hb).2.lks.row) (by rw [← l3]; exact hs.2.2.1))
  have HK := hid (fun (w' : World) (hb : Below W.heap.size W w') => show Calls Try.prog 57 #[.slice y.ac y.nc y.cc, .slice y'.ac y'.nc y'.cc] w' fun e w'' => e = .returned (.bool true) ∧ Below w'.heap.size w' w'' from e4 ▸ same_any y.ac y'.ac y.nc y.cc y'.cc x.cls w' (HA.out w' hb).1.cls.row (e4 ▸ (HA.out w' hb).2.cls.row) (by rw [← l4]; exact hs.2.2.2))
  have HB := hid hbW
  obtain ⟨⟨c0, c1, c2, c3, c4, c5, c6⟩, d0, d1, d2, d3, d4, d5, d6⟩ := HC.out W (Below.refl _ _)
  clear e1 e2 e3 e4 l1 l2 l3 l4 hs h h' HA hX1 hX2 hb1 hbW
  go_enter Try.func46, Try.ntmps46
  go_upto_region 1 with fail
  clear hW
  go_wp2_with (first
    | (go_at_call 57; (with_reducible refine (HV.out _ (Below.refl _ _)).mono ?_); rintro e' w1 ⟨rfl, hb1⟩; obtain ⟨⟨_, _, _, _, r4, _, _⟩, _, _, _, _, s4, _, _⟩ := HC.out _ hb1)
    | (go_at_call 57; (with_reducible refine (HN.out _ hb1).mono ?_); rintro e' w2 ⟨rfl, hb2'⟩; have hb2 := hb1.trans (hb2'.mono hb1.size); clear hb2'; obtain ⟨⟨_, _, _, _, _, r5, _⟩, _, _, _, _, _, s5, _⟩ := HC.out _ hb2)
    | (go_at_call 57; (with_reducible refine (HL.out _ hb2).mono ?_); rintro e' w3 ⟨rfl, hb3'⟩; have hb3 := hb2.trans (hb3'.mono hb2.size); clear hb3'; obtain ⟨⟨_, _, _, _, _, _, r6⟩, _, _, _, _, _, _, s6⟩ := HC.out _ hb3)
    | (go_at_call 57; (with_reducible refine (HK.out _ hb3).mono ?_); rintro e' w4 ⟨rfl, hb4'⟩; have hb4 := hb3.trans (hb4'.mono hb3.size); clear hb4'))
  go_ret
  exact ⟨rfl, HB.out.trans (hb4.mono HB.out.size)⟩
theorem sm : Try.prog.stoodInHeld 56 = false := by kernel_rfl
theorem eq_mat (m : Mat) (W : World) : (binOp .eql 56 (.agg #[.int .u32 (m.sa : Int), .int .i64 m.sl, .int .u32 (m.da : Int), .int .i64 m.dl, .int .i64 m.pr, .int .i64 m.sp, .int .i64 m.dp]) (.agg #[.int .u32 (m.sa : Int), .int .i64 m.sl, .int .u32 (m.da : Int), .int .i64 m.dl, .int .i64 m.pr, .int .i64 m.sp, .int .i64 m.dp])).run Try.prog W = .ok (.bool true) W := by
  rw [run_eql_struct, run_equalIn_agg W 9999 56 _ _ (by simp [Program.fieldsOf, Try.underlying56]) sm]
  simp [Program.fieldsOf, Try.underlying56, Try.underlying54, Op.eqFields, part, go_sem, run_equalIn_agg]
theorem sameRule_any (r : Rul) (y y' : WSl) (w : World) (h : WArg w r.x y) (h' : WArg w r.x y') (hs : Short r.x) :
    Calls Try.prog 32 #[.agg #[.string (txt r.name), .int .i64 r.pri, .int .u32 (r.m.sa : Int), .int .i64 r.m.sl, .int .u32 (r.m.da : Int), .int .i64 r.m.dl, .int .i64 r.m.pr, .int .i64 r.m.sp, .int .i64 r.m.dp, .int .i64 r.x.frm, .int .i64 r.x.too, .int .i64 r.x.bnd, .slice y.av y.nv y.cv, .slice y.an y.nn y.cn, .slice y.al y.nl y.cl, .slice y.ac y.nc y.cc, .bool r.strict], .agg #[.string (txt r.name), .int .i64 r.pri, .int .u32 (r.m.sa : Int), .int .i64 r.m.sl, .int .u32 (r.m.da : Int), .int .i64 r.m.dl, .int .i64 r.m.pr, .int .i64 r.m.sp, .int .i64 r.m.dp, .int .i64 r.x.frm, .int .i64 r.x.too, .int .i64 r.x.bnd, .slice y'.av y'.nv y'.cv, .slice y'.an y'.nn y'.cn, .slice y'.al y'.nl y'.cl, .slice y'.ac y'.nc y'.cc, .bool r.strict]] w fun e w' => e = .returned (.bool true) ∧ Below w.heap.size w w' := by
  obtain ⟨W, hW⟩ : ∃ W, (w.alloc (.cells #[.string (txt r.name), .int .i64 r.pri, .int .u32 (r.m.sa : Int), .int .i64 r.m.sl, .int .u32 (r.m.da : Int), .int .i64 r.m.dl, .int .i64 r.m.pr, .int .i64 r.m.sp, .int .i64 r.m.dp, .int .i64 r.x.frm, .int .i64 r.x.too, .int .i64 r.x.bnd, .slice y.av y.nv y.cv, .slice y.an y.nn y.cn, .slice y.al y.nl y.cl, .slice y.ac y.nc y.cc, .bool r.strict] 58)).alloc (.cells #[.string (txt r.name), .int .i64 r.pri, .int .u32 (r.m.sa : Int), .int .i64 r.m.sl, .int .u32 (r.m.da : Int), .int .i64 r.m.dl, .int .i64 r.m.pr, .int .i64 r.m.sp, .int .i64 r.m.dp, .int .i64 r.x.frm, .int .i64 r.x.too, .int .i64 r.x.bnd, .slice y'.av y'.nv y'.cv, .slice y'.an y'.nn y'.cn, .slice y'.al y'.nl y'.cl, .slice y'.ac y'.nc y'.cc, .bool r.strict] 58) = W := ⟨_, rfl⟩
  have hb1 : Below w.heap.size w (w.alloc (.cells #[.string (txt r.name), .int .i64 r.pri, .int .u32 (r.m.sa : Int), .int .i64 r.m.sl, .int .u32 (r.m.da : Int), .int .i64 r.m.dl, .int .i64 r.m.pr, .int .i64 r.m.sp, .int .i64 r.m.dp, .int .i64 r.x.frm, .int .i64 r.x.too, .int .i64 r.x.bnd, .slice y.av y.nv y.cv, .slice y.an y.nn y.cn, .slice y.al y.nl y.cl, .slice y.ac y.nc y.cc, .bool r.strict] 58)) := (Below.refl _ _).alloc (Nat.le_refl _) _
  have hbW : Below w.heap.size w W := by rw [← hW]; exact hb1.alloc (by simp) _
  have hX1 : RBox w.heap.size r y W := by rw [← hW]; exact box_below (heap_alloc_new w _) ((Below.refl _ _).alloc (Nat.le_refl _) _) (by simp)
  have hX2 : RBox (w.heap.size + 1) r y' W := by
    have := heap_alloc_new (w.alloc (.cells #[.string (txt r.name), .int .i64 r.pri, .int .u32 (r.m.sa : Int), .int .i64 r.m.sl, .int .u32 (r.m.da : Int), .int .i64 r.m.dl, .int .i64 r.m.pr, .int .i64 r.m.sp, .int .i64 r.m.dp, .int .i64 r.x.frm, .int .i64 r.x.too, .int .i64 r.x.bnd, .slice y.av y.nv y.cv, .slice y.an y.nn y.cn, .slice y.al y.nl y.cl, .slice y.ac y.nc y.cc, .bool r.strict] 58)) (.cells #[.string (txt r.name), .int .i64 r.pri, .int .u32 (r.m.sa : Int), .int .i64 r.m.sl, .int .u32 (r.m.da : Int), .int .i64 r.m.dl, .int .i64 r.m.pr, .int .i64 r.m.sp, .int .i64 r.m.dp, .int .i64 r.x.frm, .int .i64 r.x.too, .int .i64 r.x.bnd, .slice y'.av y'.nv y'.cv, .slice y'.an y'.nn y'.cn, .slice y'.al y'.nl y'.cl, .slice y'.ac y'.nc y'.cc, .bool r.strict] 58)
    rw [show (w.alloc (.cells #[.string (txt r.name), .int .i64 r.pri, .int .u32 (r.m.sa : Int), .int .i64 r.m.sl, .int .u32 (r.m.da : Int), .int .i64 r.m.dl, .int .i64 r.m.pr, .int .i64 r.m.sp, .int .i64 r.m.dp, .int .i64 r.x.frm, .int .i64 r.x.too, .int .i64 r.x.bnd, .slice y.av y.nv y.cv, .slice y.an y.nn y.cn, .slice y.al y.nl y.cl, .slice y.ac y.nc y.cc, .bool r.strict] 58)).heap.size = w.heap.size + 1 by simp, hW] at this
    exact this
  have c0 := rbox_cell (v := (.string (txt r.name))) hX1 0 rfl
  have d0 := rbox_cell (v := (.string (txt r.name))) hX2 0 rfl
  have c1 := rbox_cell (v := (.int .i64 r.pri)) hX1 1 rfl
  have d1 := rbox_cell (v := (.int .i64 r.pri)) hX2 1 rfl
  have c2 := rbox_cell (v := (.int .u32 (r.m.sa : Int))) hX1 2 rfl
  have d2 := rbox_cell (v := (.int .u32 (r.m.sa : Int))) hX2 2 rfl
  have c3 := rbox_cell (v := (.int .i64 r.m.sl)) hX1 3 rfl
  have d3 := rbox_cell (v := (.int .i64 r.m.sl)) hX2 3 rfl
  have c4 := rbox_cell (v := (.int .u32 (r.m.da : Int))) hX1 4 rfl
  have d4 := rbox_cell (v := (.int .u32 (r.m.da : Int))) hX2 4 rfl
  have c5 := rbox_cell (v := (.int .i64 r.m.dl)) hX1 5 rfl
  have d5 := rbox_cell (v := (.int .i64 r.m.dl)) hX2 5 rfl
  have c6 := rbox_cell (v := (.int .i64 r.m.pr)) hX1 6 rfl
  have d6 := rbox_cell (v := (.int .i64 r.m.pr)) hX2 6 rfl
  have c7 := rbox_cell (v := (.int .i64 r.m.sp)) hX1 7 rfl
  have d7 := rbox_cell (v := (.int .i64 r.m.sp)) hX2 7 rfl
  have c8 := rbox_cell (v := (.int .i64 r.m.dp)) hX1 8 rfl
  have d8 := rbox_cell (v := (.int .i64 r.m.dp)) hX2 8 rfl
  have c9 := rbox_cell (v := (.int .i64 r.x.frm)) hX1 9 rfl
  have d9 := rbox_cell (v := (.int .i64 r.x.frm)) hX2 9 rfl
  have c10 := rbox_cell (v := (.int .i64 r.x.too)) hX1 10 rfl
  have d10 := rbox_cell (v := (.int .i64 r.x.too)) hX2 10 rfl
  have c11 := rbox_cell (v := (.int .i64 r.x.bnd)) hX1 11 rfl
  have d11 := rbox_cell (v := (.int .i64 r.x.bnd)) hX2 11 rfl
  have c12 := rbox_cell (v := (.slice y.av y.nv y.cv)) hX1 12 rfl
  have d12 := rbox_cell (v := (.slice y'.av y'.nv y'.cv)) hX2 12 rfl
  have c13 := rbox_cell (v := (.slice y.an y.nn y.cn)) hX1 13 rfl
  have d13 := rbox_cell (v := (.slice y'.an y'.nn y'.cn)) hX2 13 rfl
  have c14 := rbox_cell (v := (.slice y.al y.nl y.cl)) hX1 14 rfl
  have d14 := rbox_cell (v := (.slice y'.al y'.nl y'.cl)) hX2 14 rfl
  have c15 := rbox_cell (v := (.slice y.ac y.nc y.cc)) hX1 15 rfl
  have d15 := rbox_cell (v := (.slice y'.ac y'.nc y'.cc)) hX2 15 rfl
  have HC := hid (fun (w' : World) (hb : Below W.heap.size W w') => And.intro (rbox_cell (v := .bool r.strict) (box_below hX1 hb (pst_lt hX1)) 16 rfl) (rbox_cell (v := .bool r.strict) (box_below hX2 hb (pst_lt hX2)) 16 rfl))
  have HS := hid (sameWant_any r.x y y' W (h.on hbW) (h'.on hbW) hs)
  have HB := hid hbW
  have t1 : ((txt r.name).toList == (txt r.name).toList) = true := by simp
  have t2 := eq_mat r.m
  clear hX1 hX2 hb1 hbW h h' hs
  go_enter Try.func32, Try.ntmps32
  go_upto_region 1 with fail
  clear hW
  go_wp2_with (go_at_call 46; (with_reducible refine HS.out.mono ?_); rintro e' w1 ⟨rfl, hb1⟩; obtain ⟨u1, u2⟩ := HC.out _ hb1)
  go_ret
  exact ⟨by simp, HB.out.trans (hb1.mono HB.out.size)⟩
theorem sameRules_any (A A' : Option Addr) (n c c' : Nat) (qs qs' : List (Rul × WSl)) (w : World) (h : RRul w A n c qs) (h' : RRul w A' n c' qs') (he : qs.map (·.1) = qs'.map (·.1)) (hs : ∀ q ∈ qs, Short q.1.x) (hn : n ≤ 1000000) :
    Calls Try.prog 19 #[.slice A n c, .slice A' n c'] w fun e w' => e = .returned (.bool true) ∧ Below w.heap.size w w' := by
  have HH := hid h
  have HH' := hid h'
  have HE := hid he
  have HS := hid hs
  have t0 : ((n : Int) != (n : Int)) = false := by simp
  clear h h' he hs
  go_enter Try.func19, Try.ntmps19
  go_wp2_with fail
  go_loopw [5] (fun iv wr => ∃ k : Nat, k ≤ n ∧ iv = .int .i64 k ∧ Hid (Below w.heap.size w wr)) (fun iv _ => n - (intOf iv).toNat)
  case atStart => exact ⟨0, Nat.zero_le _, rfl, hid (Below.refl _ _)⟩
  case round =>
    obtain ⟨k, hk, rfl, HBr⟩ := hrel
    by_cases hlt : k < n
    · obtain ⟨⟨r, y⟩, hq⟩ : ∃ q, qs[k]? = some q := ⟨qs[k]'(by rw [HH.out.len]; exact hlt), List.getElem?_eq_getElem _⟩
      obtain ⟨⟨r2, y'⟩, hq2⟩ : ∃ q, qs'[k]? = some q := ⟨qs'[k]'(by rw [HH'.out.len]; exact hlt), List.getElem?_eq_getElem _⟩
      obtain rfl : r = r2 := by
        have h1 := congrArg (fun l => l[k]?) HE.out
        simp only [List.getElem?_map, hq, hq2, Option.map_some, Option.some.injEq] at h1
        exact h1
      have hbd : Below w.heap.size w wr.drew := HBr.out.drew
      have hR := HH.out.on hbd
      have hR' := HH'.out.on hbd
      have HSR := hid (sameRule_any r y y' wr.drew (hR.wants _ (List.mem_of_getElem? hq)) (hR'.wants _ (List.mem_of_getElem? hq2)) (HS.out _ (List.mem_of_getElem? hq)))
      obtain ⟨b, off, rfl, _, hc⟩ := hR.row (by omega)
      obtain ⟨b', off', rfl, _, hc'⟩ := hR'.row (by omega)
      have c0 : wr.drew.cell? ⟨b, off + k * 17, none⟩ = some (.string (txt r.name)) := hc k _ 0 _ hq rfl
      have c1 : wr.drew.cell? ⟨b, off + k * 17 + 1, none⟩ = some (.int .i64 r.pri) := hc k _ 1 _ hq rfl
      have c2 : wr.drew.cell? ⟨b, off + k * 17 + 2, none⟩ = some (.int .u32 (r.m.sa : Int)) := hc k _ 2 _ hq rfl
      have c3 : wr.drew.cell? ⟨b, off + k * 17 + 3, none⟩ = some (.int .i64 r.m.sl) := hc k _ 3 _ hq rfl
      have c4 : wr.drew.cell? ⟨b, off + k * 17 + 4, none⟩ = some (.int .u32 (r.m.da : Int)) := hc k _ 4 _ hq rfl
      have c5 : wr.drew.cell? ⟨b, off + k * 17 + 5, none⟩ = some (.int .i64 r.m.dl) := hc k _ 5 _ hq rfl
      have c6 : wr.drew.cell? ⟨b, off + k * 17 + 6, none⟩ = some (.int .i64 r.m.pr) := hc k _ 6 _ hq rfl
      have c7 : wr.drew.cell? ⟨b, off + k * 17 + 7, none⟩ = some (.int .i64 r.m.sp) := hc k _ 7 _ hq rfl
      have c8 : wr.drew.cell? ⟨b, off + k * 17 + 8, none⟩ = some (.int .i64 r.m.dp) := hc k _ 8 _ hq rfl
      have c9 : wr.drew.cell? ⟨b, off + k * 17 + 9, none⟩ = some (.int .i64 r.x.frm) := hc k _ 9 _ hq rfl
      have c10 : wr.drew.cell? ⟨b, off + k * 17 + 10, none⟩ = some (.int .i64 r.x.too) := hc k _ 10 _ hq rfl
      have c11 : wr.drew.cell? ⟨b, off + k * 17 + 11, none⟩ = some (.int .i64 r.x.bnd) := hc k _ 11 _ hq rfl
      have c12 : wr.drew.cell? ⟨b, off + k * 17 + 12, none⟩ = some (.slice y.av y.nv y.cv) := hc k _ 12 _ hq rfl
      have c13 : wr.drew.cell? ⟨b, off + k * 17 + 13, none⟩ = some (.slice y.an y.nn y.cn) := hc k _ 13 _ hq rfl
      have c14 : wr.drew.cell? ⟨b, off + k * 17 + 14, none⟩ = some (.slice y.al y.nl y.cl) := hc k _ 14 _ hq rfl
      have c15 : wr.drew.cell? ⟨b, off + k * 17 + 15, none⟩ = some (.slice y.ac y.nc y.cc) := hc k _ 15 _ hq rfl
      have c16 : wr.drew.cell? ⟨b, off + k * 17 + 16, none⟩ = some (.bool r.strict) := hc k _ 16 _ hq rfl
      have d0 : wr.drew.cell? ⟨b', off' + k * 17, none⟩ = some (.string (txt r.name)) := hc' k _ 0 _ hq2 rfl
      have d1 : wr.drew.cell? ⟨b', off' + k * 17 + 1, none⟩ = some (.int .i64 r.pri) := hc' k _ 1 _ hq2 rfl
      have d2 : wr.drew.cell? ⟨b', off' + k * 17 + 2, none⟩ = some (.int .u32 (r.m.sa : Int)) := hc' k _ 2 _ hq2 rfl
      have d3 : wr.drew.cell? ⟨b', off' + k * 17 + 3, none⟩ = some (.int .i64 r.m.sl) := hc' k _ 3 _ hq2 rfl
      have d4 : wr.drew.cell? ⟨b', off' + k * 17 + 4, none⟩ = some (.int .u32 (r.m.da : Int)) := hc' k _ 4 _ hq2 rfl
      have d5 : wr.drew.cell? ⟨b', off' + k * 17 + 5, none⟩ = some (.int .i64 r.m.dl) := hc' k _ 5 _ hq2 rfl
      have d6 : wr.drew.cell? ⟨b', off' + k * 17 + 6, none⟩ = some (.int .i64 r.m.pr) := hc' k _ 6 _ hq2 rfl
      have d7 : wr.drew.cell? ⟨b', off' + k * 17 + 7, none⟩ = some (.int .i64 r.m.sp) := hc' k _ 7 _ hq2 rfl
      have d8 : wr.drew.cell? ⟨b', off' + k * 17 + 8, none⟩ = some (.int .i64 r.m.dp) := hc' k _ 8 _ hq2 rfl
      have d9 : wr.drew.cell? ⟨b', off' + k * 17 + 9, none⟩ = some (.int .i64 r.x.frm) := hc' k _ 9 _ hq2 rfl
      have d10 : wr.drew.cell? ⟨b', off' + k * 17 + 10, none⟩ = some (.int .i64 r.x.too) := hc' k _ 10 _ hq2 rfl
      have d11 : wr.drew.cell? ⟨b', off' + k * 17 + 11, none⟩ = some (.int .i64 r.x.bnd) := hc' k _ 11 _ hq2 rfl
      have d12 : wr.drew.cell? ⟨b', off' + k * 17 + 12, none⟩ = some (.slice y'.av y'.nv y'.cv) := hc' k _ 12 _ hq2 rfl
      have d13 : wr.drew.cell? ⟨b', off' + k * 17 + 13, none⟩ = some (.slice y'.an y'.nn y'.cn) := hc' k _ 13 _ hq2 rfl
      have d14 : wr.drew.cell? ⟨b', off' + k * 17 + 14, none⟩ = some (.slice y'.al y'.nl y'.cl) := hc' k _ 14 _ hq2 rfl
      have d15 : wr.drew.cell? ⟨b', off' + k * 17 + 15, none⟩ = some (.slice y'.ac y'.nc y'.cc) := hc' k _ 15 _ hq2 rfl
      have d16 : wr.drew.cell? ⟨b', off' + k * 17 + 16, none⟩ = some (.bool r.strict) := hc' k _ 16 _ hq2 rfl
      have kl : (k : Int) < (n : Int) := by omega
      have e0 : IntKind.i64.wrap ((k : Int) + 1) = (k : Int) + 1 := by rw [IntKind.wrap_i64]; omega
      have HBd := hid hbd
      clear hc hc' hR hR' hq hq2 hbd
      go_upto_region 6 with fail
      go_region_law (go_simp; go_at_call 32; (with_reducible refine HSR.out.mono ?_); rintro e' w5 ⟨rfl, hb5⟩; have HB5 := hid (HBd.out.trans (hb5.mono HBd.out.size)); clear hb5)
      all_goals
        go_wp2_with fail
        go_roundw
        case rel => exact ⟨k + 1, by omega, by go_num, HB5⟩
        case measure => simp [intOf]; omega
    · obtain rfl : n = k := by omega
      go_wp2_with fail
      go_ret
      exact ⟨rfl, HBr.out⟩
end Go.Proofs.Ythoblabimkfjpaa
