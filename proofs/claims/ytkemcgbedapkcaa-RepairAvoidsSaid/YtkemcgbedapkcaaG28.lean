/- Merged: CtJ. -/
import Derived.Test.YtkemcgbedapkcaaG23
/- expand.Find. -/
namespace Go.Proofs.Ytkemcgbedapkcaa
open Go.RowKit
set_option maxHeartbeats 12800000
set_option maxRecDepth 100000
theorem graph3_any (BT : Nat) (A' : Option Addr) (n c' : Nat) (A7 : Option Addr) (c7 : Nat) (ps : List (Value × Value)) (N : Nat) (l : List Lnk) (w : World) (h : TAt BT A' n c' A7 c7 ps N l w) (hok : GOk N l) :
    Calls Try.prog 19 #[.pointer (some ⟨BT, 0, none⟩)] w fun e w' => ∃ A c, e = .returned (.agg #[.int .i64 (N : Int), .slice A l.length c]) ∧ w'.ownsRow 0 49 4 (.slice A l.length c) l.length (lcells l) ∧ Below w.heap.size w w' := by
  have hb0 : Below w.heap.size w (w.alloc (.cells #[.int .i64 0, .slice none 0 0] 24)) := (Below.refl _ _).alloc (Nat.le_refl _) _
  have h1 := h.on hb0
  have hga := own_garg h1.lnk h1.len hok
  have hn := hok.1
  have hl := h.len
  have HC := hid (clone_any (N : Int) A' n c' l _ hga.row (by omega) hga.non)
  obtain ⟨c0, c1, c2, _⟩ := box3_cells h1.box
  have HX0 := hid (heap_alloc_new w (.cells #[.int .i64 0, .slice none 0 0] 24))
  have HB0 := hid hb0
  rw [hl]
  have Hl := hid hl
  clear h h1 hga hok hb0 hn hl
  go_enter Try.func19, Try.ntmps19
  go_wp2_with (go_at_call 27; (with_reducible refine HC.out.mono ?_); rintro e' w2 ⟨A2, c3, rfl, hown2, hb2⟩; have HO2 := hid hown2; have HX2 := hid (box_below HX0.out hb2 (heap_lt HX0.out)); have HB2 := hid (HB0.out.trans (hb2.mono HB0.out.size)); obtain ⟨q0, q1, qf⟩ := box_cells HX2.out; have f0 := qf 0; have f1 := qf 1; clear hown2 hb2 qf)
  have hg := box_set1 (u := .slice A2 n c3) (box_set0 (u := .int .i64 (N : Int)) HX2.out)
  try simp only [Exit.inBlock, Exit.then]
  refine bodyPost_ret (results_cell_row (p := 2) (fn := Try.f19) rfl _ _ _ _ _ _ _ rfl hg Try.underlying24 rfl (by kernel_rfl)) rfl ?_
  have ho : ((w2.setCell ⟨w.heap.size, 0, none⟩ (.int .i64 (N : Int))).setCell ⟨w.heap.size, 1, none⟩ (.slice A2 n c3)).ownsRow 0 49 4 (.slice A2 n c3) n (lcells l) := own_box (own_box (own_mono HO2.out (Nat.zero_le _)) HX2.out (by decide)) (box_set0 (u := .int .i64 (N : Int)) HX2.out) (by decide)
  exact ⟨A2, c3, rfl, ho, (HB2.out.setCell (Nat.le_refl _) _).setCell (Nat.le_refl _) _⟩
theorem tgraph3_any {w : World} {p : Addr} {N : Nat} {l : List Lnk} (h : TabAt w p N l) (hok : GOk N l) : Calls Try.prog 19 #[.pointer (some p)] w fun e w' => ∃ A c, e = .returned (.agg #[.int .i64 (N : Int), .slice A l.length c]) ∧ w'.ownsRow 0 49 4 (.slice A l.length c) l.length (lcells l) ∧ Below w.heap.size w w' := by
  obtain ⟨BT, A', n, c', A7, c7, ps, rfl, h⟩ := h
  exact graph3_any BT A' n c' A7 c7 ps N l w h hok
/-- Find's boxes: the want's and the result's. -/
structure FnB (x : Wnt) (y : WSl) (w w' : World) : Prop where
  x0 : w'.heap[w.heap.size]? = some (.cells #[.int .i64 x.frm, .int .i64 x.too, .int .i64 x.bnd, .slice y.av y.nv y.cv, .slice y.an y.nn y.cn, .slice y.al y.nl y.cl, .slice y.ac y.nc y.cc] 58 (0, 0))
  x1 : w'.heap[w.heap.size + 1]? = some (.cells #[.pointer none, .int .i64 0, .slice none 0 0, .slice none 0 0, .slice none 0 0, .slice none 0 0, .int .i64 0, .map none] 82 (0, 0))
  bel : Below w.heap.size w w'
theorem FnB.next {x : Wnt} {y : WSl} {w w' w'' : World} (h : FnB x y w w') (hb : Below w'.heap.size w' w'') : FnB x y w w'' :=
  ⟨box_below h.x0 hb (blk_lt h.x0), box_below h.x1 hb (blk_lt h.x1), h.bel.trans (hb.mono h.bel.size)⟩
theorem FnB.al {x : Wnt} {y : WSl} {w w' : World} {o : Obj} (h : FnB x y w w') : FnB x y w (w'.alloc o) := h.next ((Below.refl _ _).alloc (Nat.le_refl _) o)
theorem FnB.dr {x : Wnt} {y : WSl} {w w' : World} (h : FnB x y w w') : FnB x y w w'.drew := h.next ((Below.refl _ _).drew)
theorem FnB.put6 {x : Wnt} {y : WSl} {w w' : World} {B : Nat} {y0 y1 y2 y3 y4 y5 : Value} (h : FnB x y w w') (hB : w.heap.size + 1 < B) : FnB x y w ((((((w'.setCell ⟨B, 0, none⟩ y0).setCell ⟨B, 1, none⟩ y1).setCell ⟨B, 2, none⟩ y2).setCell ⟨B, 3, none⟩ y3).setCell ⟨B, 4, none⟩ y4).setCell ⟨B, 5, none⟩ y5) := by
  have hb := below_put6 (y0 := y0) (y1 := y1) (y2 := y2) (y3 := y3) (y4 := y4) (y5 := y5) (Below.refl B w') (Nat.le_refl B)
  exact ⟨box_below h.x0 hb (by omega), box_below h.x1 hb (by omega), h.bel.trans (hb.mono (by omega))⟩
theorem FnB.start {x : Wnt} {y : WSl} {w : World} : FnB x y w ((w.alloc (.cells #[.int .i64 x.frm, .int .i64 x.too, .int .i64 x.bnd, .slice y.av y.nv y.cv, .slice y.an y.nn y.cn, .slice y.al y.nl y.cl, .slice y.ac y.nc y.cc] 58)).alloc (.cells #[.pointer none, .int .i64 0, .slice none 0 0, .slice none 0 0, .slice none 0 0, .slice none 0 0, .int .i64 0, .map none] 82)) :=
  ⟨alloc_at (alloc_new rfl), alloc_new (alloc_sz rfl), ((Below.refl w.heap.size w).alloc (Nat.le_refl _) _).alloc (by simp) _⟩
theorem garg_of {w : World} {nd : Int} {A : Option Addr} {n c : Nat} {l : List Lnk} (h : w.ownsRow 0 49 4 (.slice A n c) n (lcells l)) (hl : l.length = n) (hn : n ≤ 130) (h1 : -9223372036854775808 ≤ nd) (h2 : nd ≤ 9223372036854775807) : GArg w nd A n c l := by
  obtain ⟨A', c', he, hc, hr⟩ := own_lnks h hl
  simp only [Value.slice.injEq] at he
  obtain ⟨rfl, _, rfl⟩ := he
  refine ⟨hr, hn, hc, fun hA => ?_, h1, h2⟩
  rcases h.2 with ⟨h3, h4⟩ | ⟨g, cap, cur, h3, _⟩
  · simp only [Value.slice.injEq] at h3; exact ⟨h4, h3.2.2⟩
  · rw [hA] at h3; simp at h3
theorem box8_put {w : World} {B : Nat} {x0 x1 x2 x3 x4 x5 x6 x7 y0 y1 y2 y3 y4 y5 y6 y7 : Value} {T : TypeId} (h : w.heap[B]? = some (.cells #[x0, x1, x2, x3, x4, x5, x6, x7] T (0, 0))) : ((((((((w.setCell ⟨B, 0, none⟩ y0).setCell ⟨B, 1, none⟩ y1).setCell ⟨B, 2, none⟩ y2).setCell ⟨B, 3, none⟩ y3).setCell ⟨B, 4, none⟩ y4).setCell ⟨B, 5, none⟩ y5).setCell ⟨B, 6, none⟩ y6).setCell ⟨B, 7, none⟩ y7).heap[B]? = some (.cells #[y0, y1, y2, y3, y4, y5, y6, y7] T (0, 0)) := by
  have s0 := heap_setCell_same w B 0 _ T y0 h
  have s1 := heap_setCell_same _ B 1 _ T y1 s0
  have s2 := heap_setCell_same _ B 2 _ T y2 s1
  have s3 := heap_setCell_same _ B 3 _ T y3 s2
  have s4 := heap_setCell_same _ B 4 _ T y4 s3
  have s5 := heap_setCell_same _ B 5 _ T y5 s4
  have s6 := heap_setCell_same _ B 6 _ T y6 s5
  have s7 := heap_setCell_same _ B 7 _ T y7 s6
  simpa using s7
theorem below_put8 {S B : Nat} {w0 w : World} {y0 y1 y2 y3 y4 y5 y6 y7 : Value} (h : Below S w0 w) (hB : S ≤ B) : Below S w0 ((((((((w.setCell ⟨B, 0, none⟩ y0).setCell ⟨B, 1, none⟩ y1).setCell ⟨B, 2, none⟩ y2).setCell ⟨B, 3, none⟩ y3).setCell ⟨B, 4, none⟩ y4).setCell ⟨B, 5, none⟩ y5).setCell ⟨B, 6, none⟩ y6).setCell ⟨B, 7, none⟩ y7) :=
  (((((((h.setCell hB _).setCell hB _).setCell hB _).setCell hB _).setCell hB _).setCell hB _).setCell hB _).setCell hB _
theorem but_put8 {w : World} {B : Nat} {y0 y1 y2 y3 y4 y5 y6 y7 : Value} : But B w ((((((((w.setCell ⟨B, 0, none⟩ y0).setCell ⟨B, 1, none⟩ y1).setCell ⟨B, 2, none⟩ y2).setCell ⟨B, 3, none⟩ y3).setCell ⟨B, 4, none⟩ y4).setCell ⟨B, 5, none⟩ y5).setCell ⟨B, 6, none⟩ y6).setCell ⟨B, 7, none⟩ y7) :=
  (((((((But.set.trans But.set).trans But.set).trans But.set).trans But.set).trans But.set).trans But.set).trans But.set)
theorem DArg.but8 {w w' : World} {A : Option Addr} {n c : Nat} {l : List Bool} {B : Nat} (h : DArg w A n c l) (hb : But B w w') (hx : w.heap[B]? = some (.cells #[.pointer none, .int .i64 0, .slice none 0 0, .slice none 0 0, .slice none 0 0, .slice none 0 0, .int .i64 0, .map none] 82 (0, 0))) : DArg w' A n c l := by
  refine ⟨⟨h.row.1, fun hn => ?_⟩, h.len, h.cap, h.non⟩
  obtain ⟨b, off, hA, hlt, hc⟩ := h.row.2 hn
  have hne : b ≠ B := by
    rintro rfl
    obtain ⟨x, hx0⟩ : ∃ x, l[0]? = some x := ⟨_, List.getElem?_eq_getElem (by have := h.row.1; omega)⟩
    have h0 := hc 0 x hx0
    rw [cell_of_row _ _ _ _ _ _ hx] at h0
    rcases off with _ | _ | _ | _ | _ | _ | _ | _ | off <;> simp at h0
  exact ⟨b, off, hA, Nat.lt_of_lt_of_le hlt hb.size, fun i x hi => (World.cell?_of_block (hb.block b hlt hne)).trans (hc i x hi)⟩
theorem BestAt.but8 {w w' : World} {nd : Int} {n : Nat} {l : List Lnk} {x : Wnt} {gn : List Bool} {Ap : Option Addr} {cp : Nat} {Ag : Option Addr} {cg : Nat} {vF : Value} {vs : List Value} {B : Nat} (h : BestAt w nd n l x gn Ap cp Ag cg vF vs) (hb : But B w w')
    (hx : w.heap[B]? = some (.cells #[.pointer none, .int .i64 0, .slice none 0 0, .slice none 0 0, .slice none 0 0, .slice none 0 0, .int .i64 0, .map none] 82 (0, 0))) : BestAt w' nd n l x gn Ap cp Ag cg vF vs :=
  ⟨own_but h.pts hb hx (by decide), h.dwn.but8 hb hx, own_but h.own hb hx (by decide), fun i v hv => own_but (h.far i v hv) hb hx (by decide)⟩
theorem sz_set {w : World} {a : Addr} {v : Value} : (w.setCell a v).heap.size = w.heap.size := by simp [World.setCell]
theorem MapOk.blk {N : Nat} {l : List Lnk} {x : Wnt} {gn : List Bool} {M : Nat} {w w' : World} (h : MapOk N l x gn M w) (hb : w'.heap[M]? = w.heap[M]?) : MapOk N l x gn M w' := by
  obtain ⟨D, acc, ⟨es, ck, h1, r⟩, h2⟩ := h
  exact ⟨D, acc, ⟨es, ck, hb.trans h1, r⟩, h2⟩
theorem made8 {w9 : World} {R : Nat} {o : Obj} {x0 x1 x2 x3 x4 x5 x6 x7 y0 y1 y2 y3 y4 y5 y6 y7 : Value} {T : TypeId} (hx : w9.heap[R]? = some (.cells #[x0, x1, x2, x3, x4, x5, x6, x7] T (0, 0))) : Below w9.heap.size ((((((((w9.setCell ⟨R, 0, none⟩ y0).setCell ⟨R, 1, none⟩ y1).setCell ⟨R, 2, none⟩ y2).setCell ⟨R, 3, none⟩ y3).setCell ⟨R, 4, none⟩ y4).setCell ⟨R, 5, none⟩ y5).setCell ⟨R, 6, none⟩ y6).setCell ⟨R, 7, none⟩ y7) (((((((((w9.alloc o).setCell ⟨R, 0, none⟩ y0).setCell ⟨R, 1, none⟩ y1).setCell ⟨R, 2, none⟩ y2).setCell ⟨R, 3, none⟩ y3).setCell ⟨R, 4, none⟩ y4).setCell ⟨R, 5, none⟩ y5).setCell ⟨R, 6, none⟩ y6).setCell ⟨R, 7, none⟩ y7) := by
  have h1 := box8_put (y0 := y0) (y1 := y1) (y2 := y2) (y3 := y3) (y4 := y4) (y5 := y5) (y6 := y6) (y7 := y7) hx
  have h2 := box8_put (y0 := y0) (y1 := y1) (y2 := y2) (y3 := y3) (y4 := y4) (y5 := y5) (y6 := y6) (y7 := y7) (alloc_at (o := o) hx)
  have b1 := but_put8 (w := w9) (B := R) (y0 := y0) (y1 := y1) (y2 := y2) (y3 := y3) (y4 := y4) (y5 := y5) (y6 := y6) (y7 := y7)
  have b2 := but_put8 (w := w9.alloc o) (B := R) (y0 := y0) (y1 := y1) (y2 := y2) (y3 := y3) (y4 := y4) (y5 := y5) (y6 := y6) (y7 := y7)
  have hb := (Below.refl w9.heap.size w9).alloc (Nat.le_refl _) o
  refine ⟨(b2.os.trans hb.os).trans b1.os.symm, (b2.tape.trans hb.tape).trans b1.tape.symm, (b2.output.trans hb.output).trans b1.output.symm, ?_, fun g hg => ?_⟩
  · simp only [sz_set]
    exact hb.size
  by_cases hgR : g = R
  · subst hgR; rw [h1, h2]
  · rw [b2.block g (Nat.lt_of_lt_of_le hg hb.size) hgR, b1.block g hg hgR]
    exact hb.block g hg
def TArgs (w : World) (tp : Addr) (N : Nat) (l : List Lnk) (x : Wnt) (y : WSl) (Ad : Option Addr) (n' c' : Nat) (dn : List Bool) : Prop := TabAt w tp N l ∧ WArg w x y ∧ DArg w Ad n' c' dn
theorem TArgs.on {w w' : World} {tp : Addr} {N : Nat} {l : List Lnk} {x : Wnt} {y : WSl} {Ad : Option Addr} {n' c' : Nat} {dn : List Bool} (h : TArgs w tp N l x y Ad n' c' dn) (hb : Below w.heap.size w w') : TArgs w' tp N l x y Ad n' c' dn := ⟨tabAt_keep w w' tp N l h.1 hb, h.2.1.on hb, h.2.2.on hb⟩
theorem eFind_err (tp : Addr) (N : Nat) (l : List Lnk) (x : Wnt) (y : WSl) (Ad : Option Addr) (n' c' : Nat) (dn : List Bool) (w : World) (ht : TArgs w tp N l x y Ad n' c' dn) (hg : GOk N l) (hl16 : l.length ≤ 16) (h1 : y.nv ≤ 100) (h2 : y.nn ≤ 100) (h3 : y.nl ≤ 100) (h4 : y.nc ≤ 100) (k2 : Int) (hk2 : (costS (N : Int) l x dn).2 = k2) (hc : k2 ≠ 0) :
    Calls Try.prog 30 #[.pointer (some tp), .agg #[.int .i64 x.frm, .int .i64 x.too, .int .i64 x.bnd, .slice y.av y.nv y.cv, .slice y.an y.nn y.cn, .slice y.al y.nl y.cl, .slice y.ac y.nc y.cc], .slice Ad n' c'] w fun e w' => e = .returned (.tuple #[.agg #[.pointer none, .int .i64 0, .slice none 0 0, .slice none 0 0, .slice none 0 0, .slice none 0 0, .int .i64 0, .map none], .int .i64 k2]) ∧ Below w.heap.size w w' := by
  have HG := hid (fun W (hb : FnB x y w W) => show Calls Try.prog 19 #[.pointer (some tp)] W fun e w' => ∃ A c, e = .returned (.agg #[.int .i64 (N : Int), .slice A l.length c]) ∧ w'.ownsRow 0 49 4 (.slice A l.length c) l.length (lcells l) ∧ FnB x y w w' ∧ Below W.heap.size W w' from (tgraph3_any (ht.on (hb.bel.trans (Below.refl _ _))).1 hg).mono (fun _ _ ⟨A, c, e1, e2, e3⟩ => ⟨A, c, e1, e2, hb.next e3, e3⟩))
  have hN1 : -9223372036854775808 ≤ (N : Int) ∧ (N : Int) ≤ 9223372036854775807 := by have := hg.2.2.1; omega
  have HF := hid (fun (A : Option Addr) (c : Nat) W (hb : FnB x y w W) (hown : W.ownsRow 0 49 4 (.slice A l.length c) l.length (lcells l)) => show Calls Try.prog 45 #[.agg #[.int .i64 (N : Int), .slice A l.length c], .agg #[.int .i64 x.frm, .int .i64 x.too, .int .i64 x.bnd, .slice y.av y.nv y.cv, .slice y.an y.nn y.cn, .slice y.al y.nl y.cl, .slice y.ac y.nc y.cc], .slice Ad n' c'] W fun e w' => e = .returned (.tuple #[.agg #[.int .i64 0, .slice none 0 0, .slice none 0 0, .slice none 0 0, .slice none 0 0, .int .i64 0], .int .i64 k2]) ∧ FnB x y w w' ∧ Below W.heap.size W w' from (find_spec (N : Int) A l.length c l x y Ad n' c' dn W (garg_of hown rfl (by omega) hN1.1 hN1.2) (ht.on hb.bel).2.1 (ht.on hb.bel).2.2 h1 h2 h3 h4).mono (by
    rintro e w' ⟨hb5, h5⟩
    rcases h5 with ⟨_, h7⟩ | ⟨h7, _⟩
    · exact ⟨by rw [h7, hk2], hb.next hb5, hb5⟩
    · exact absurd (hk2 ▸ h7) hc))
  have HB2 := hid (FnB.start (x := x) (y := y) (w := w))
  obtain ⟨z0, z1, z2, z3, z4, z5, z6⟩ := box7_cells HB2.out.x0
  have d1 : (k2 != 0) = true := bne_iff_ne.2 hc
  clear ht hk2 hc hN1
  go_enter Try.func30, Try.ntmps30
  go_upto_region 1 with fail
  go_cut [8, 9] (fun q e wx => ∃ B : Nat, q = .pointer (some ⟨B, 0, none⟩) ∧ e = .int .i64 k2 ∧ FnB x y w wx)
  case first =>
    go_wp2_with fail
    have HS4 : Hid (∀ W, FnB x y w W → W.cell? ⟨w.heap.size, 0, none⟩ = some (.int .i64 x.frm) ∧ W.cell? ⟨w.heap.size, 1, none⟩ = some (.int .i64 x.too) ∧ W.cell? ⟨w.heap.size, 2, none⟩ = some (.int .i64 x.bnd) ∧ W.cell? ⟨w.heap.size, 3, none⟩ = some (.slice y.av y.nv y.cv) ∧ W.cell? ⟨w.heap.size, 4, none⟩ = some (.slice y.an y.nn y.cn) ∧ W.cell? ⟨w.heap.size, 5, none⟩ = some (.slice y.al y.nl y.cl) ∧ W.cell? ⟨w.heap.size, 6, none⟩ = some (.slice y.ac y.nc y.cc)) := fun W hh => by obtain ⟨z0, z1, z2, z3, z4, z5, z6⟩ := box7_cells hh.x0; exact ⟨z0, z1, z2, z3, z4, z5, z6⟩
    clear z0 z1 z2 z3 z4 z5 z6
    have HF2 := hid HB2.out.dr
    clear HB2
    obtain ⟨wq, hwq⟩ : ∃ wq, ((w.alloc (.cells #[.int .i64 x.frm, .int .i64 x.too, .int .i64 x.bnd, .slice y.av y.nv y.cv, .slice y.an y.nn y.cn, .slice y.al y.nl y.cl, .slice y.ac y.nc y.cc] 58)).alloc (.cells #[.pointer none, .int .i64 0, .slice none 0 0, .slice none 0 0, .slice none 0 0, .slice none 0 0, .int .i64 0, .map none] 82)).drew = wq := ⟨_, rfl⟩
    refine region_ord 10 (fun W => W.cell? ⟨w.heap.size, 0, none⟩ = some (.int .i64 x.frm) ∧ W.cell? ⟨w.heap.size, 1, none⟩ = some (.int .i64 x.too) ∧ W.cell? ⟨w.heap.size, 2, none⟩ = some (.int .i64 x.bnd) ∧ W.cell? ⟨w.heap.size, 3, none⟩ = some (.slice y.av y.nv y.cv) ∧ W.cell? ⟨w.heap.size, 4, none⟩ = some (.slice y.an y.nn y.cn) ∧ W.cell? ⟨w.heap.size, 5, none⟩ = some (.slice y.al y.nl y.cl) ∧ W.cell? ⟨w.heap.size, 6, none⟩ = some (.slice y.ac y.nc y.cc)) (by kernel_rfl) (HS4.out _ HF2.out) (fun hHeld => ?_)
    rw [hwq] at HF2 hHeld ⊢
    clear hwq
    refine OrdF.take (i := 0) (v := ?_) rfl (by kernel_rfl) (fun _ _ _ h => h) (by rfl) ?_ (by assumption) ?_
    (rotate_left; focus (intro w' hSw; (try dsimp only at hSw); go_simp; (try with_reducible rfl)))
    try simp only [List.getElem_toArray, List.getElem_cons_zero, Act.put, List.setIfInBounds_toArray, List.set_cons_zero, List.set_cons_succ]
    refine OrdF.take (i := 2) (v := ?_) rfl (by kernel_rfl) (fun _ _ _ h => h) (by rfl) ?_ (by assumption) ?_
    (rotate_left; focus (intro w' hSw; (try dsimp only at hSw); go_simp; (try with_reducible rfl)))
    try simp only [List.getElem_toArray, List.getElem_cons_succ, List.getElem_cons_zero, Act.put, List.setIfInBounds_toArray, List.set_cons_zero, List.set_cons_succ]
    refine OrdF.take (i := 3) (v := ?_) rfl (by kernel_rfl) (fun _ _ _ h => h) (by rfl) ?_ (by assumption) ?_
    (rotate_left; focus (intro w' hSw; (try dsimp only at hSw); go_simp; (try with_reducible rfl)))
    try simp only [List.getElem_toArray, List.getElem_cons_succ, List.getElem_cons_zero, Act.put, List.setIfInBounds_toArray, List.set_cons_zero, List.set_cons_succ]
    refine OrdF.two (i := 1) (j := 8) rfl rfl (by kernel_rfl) (fun K hK => ?_) (fun K hK => ?_)
    · try simp only [List.getElem_toArray, List.getElem_cons_succ, List.getElem_cons_zero, Act.put, List.setIfInBounds_toArray, List.set_cons_zero, List.set_cons_succ]
      go_simp
      (go_at_call 19; (with_reducible refine (HG.out _ HF2.out).mono ?_); rintro e' w3 ⟨A3, c3, rfl, hown3, hf3, hb3⟩; have HF3 := hid hf3; have HO3 := hid hown3; have HB3 := hid hb3; clear hown3 hf3 hb3)
      try go_wp2_with fail
      refine hK.out _ _ (HS4.out _ HF3.out) (fun hHeld => ?_)
      clear hK K
      try simp only [List.getElem_toArray, List.getElem_cons_succ, List.getElem_cons_zero, Act.put, List.setIfInBounds_toArray, List.set_cons_zero, List.set_cons_succ]
      refine OrdF.two (i := 4) (j := 8) rfl rfl (by kernel_rfl) (fun K hK => ?_) (fun K hK => ?_)
      · try simp only [List.getElem_toArray, List.getElem_cons_succ, List.getElem_cons_zero, Act.put, List.setIfInBounds_toArray, List.set_cons_zero, List.set_cons_succ]
        go_simp
        (go_at_call 45; (with_reducible refine (HF.out _ _ _ HF3.out HO3.out).mono ?_); rintro e' w4 ⟨rfl, hf4, hb4⟩; have HF4 := hid hf4; have HB4 := hid hb4; have HO4 := hid (own_below HO3.out hb4); clear hf4 hb4)
        try go_wp2_with fail
        refine hK.out _ _ (HS4.out _ HF4.out) (fun hHeld => ?_)
        clear hK K
        try simp only [List.getElem_toArray, List.getElem_cons_succ, List.getElem_cons_zero, Act.put, List.setIfInBounds_toArray, List.set_cons_zero, List.set_cons_succ]
        refine OrdF.take (i := 5) (v := ?_) rfl (by kernel_rfl) (fun _ _ _ h => h) (by rfl) ?_ (by assumption) ?_
        (rotate_left; focus (intro w' hSw; (try dsimp only at hSw); go_simp; (try with_reducible rfl)))
        try simp only [List.getElem_toArray, List.getElem_cons_succ, List.getElem_cons_zero, Act.put, List.setIfInBounds_toArray, List.set_cons_zero, List.set_cons_succ]
        refine OrdF.take (i := 6) (v := ?_) rfl (by kernel_rfl) (fun _ _ _ h => h) (by rfl) ?_ (by assumption) ?_
        (rotate_left; focus (intro w' hSw; (try dsimp only at hSw); go_simp; (try with_reducible rfl)))
        try simp only [List.getElem_toArray, List.getElem_cons_succ, List.getElem_cons_zero, Act.put, List.setIfInBounds_toArray, List.set_cons_zero, List.set_cons_succ]
        refine OrdF.take (i := 7) (v := ?_) rfl (by kernel_rfl) (fun _ _ _ h => h) (by rfl) ?_ (by assumption) ?_
        (rotate_left; focus (intro w' hSw; (try dsimp only at hSw); go_simp; (try with_reducible rfl)))
        try simp only [List.getElem_toArray, List.getElem_cons_succ, List.getElem_cons_zero, Act.put, List.setIfInBounds_toArray, List.set_cons_zero, List.set_cons_succ]
        have HL : Hid (w.heap.size + 1 < w4.heap.size) := blk_lt HF4.out.x1
        refine OrdF.one (i := 8) rfl (by kernel_rfl) (fun K hK => ?_)
        try simp only [List.getElem_toArray, List.getElem_cons_succ, List.getElem_cons_zero, Act.put, List.setIfInBounds_toArray, List.set_cons_zero, List.set_cons_succ]
        go_simp
        have hbZ : Below w4.heap.size w4 (w4.alloc (.cells #[.int .i64 0, .slice none 0 0, .slice none 0 0, .slice none 0 0, .slice none 0 0, .int .i64 0] 79)) := (Below.refl _ _).alloc (Nat.le_refl _) _
        have HX5 := hid (heap_alloc_new w4 (.cells #[.int .i64 0, .slice none 0 0, .slice none 0 0, .slice none 0 0, .slice none 0 0, .int .i64 0] 79))
        have HF5 := hid (HF4.out.next hbZ)
        refine hK.out _ _ (HS4.out _ HF5.out) (fun hHeld => ?_)
        clear hK K
        try simp only [List.getElem_toArray, List.getElem_cons_succ, List.getElem_cons_zero, Act.put, List.setIfInBounds_toArray, List.set_cons_zero, List.set_cons_succ]
        obtain ⟨b0, b1, b2, b3, b4, b5, bf⟩ := box6_cells HX5.out
        have bf0 := bf 0
        have bf1 := bf 1
        have bf2 := bf 2
        have bf3 := bf 3
        have bf4 := bf 4
        have bf5 := bf 5
        clear bf
        refine OrdF.one (i := 9) rfl (by kernel_rfl) (fun K hK => ?_)
        try simp only [List.getElem_toArray, List.getElem_cons_succ, List.getElem_cons_zero]
        go_simp
        have HXe := hid (heap_alloc_new w4 (.cells #[.int .i64 0, .slice none 0 0, .slice none 0 0, .slice none 0 0, .slice none 0 0, .int .i64 0] 79))
        have HFe := hid (HF4.out.next ((Below.refl _ _).alloc (Nat.le_refl _) (.cells #[.int .i64 0, .slice none 0 0, .slice none 0 0, .slice none 0 0, .slice none 0 0, .int .i64 0] 79)))
        refine hK.out _ _ (HS4.out _ HFe.out) (fun hHeld => ?_)
        clear hK K
        try simp only [List.getElem_toArray, List.getElem_cons_succ, List.getElem_cons_zero, Act.put, List.setIfInBounds_toArray, List.set_cons_zero, List.set_cons_succ]
        refine OrdF.last (n := 10) rfl (by kernel_rfl) (fun K hK => ?_)
        try simp only [List.getElem_toArray, List.getElem_cons_succ, List.getElem_cons_zero, Act.put]
        go_simp
        refine hK.out _ _ ?_
        clear hK K
        try simp only [List.getElem_toArray, List.getElem_cons_succ, List.getElem_cons_zero, Act.put, List.setIfInBounds_toArray, List.set_cons_zero, List.set_cons_succ]
        go_wp2_with fail
        go_meet
        exact ⟨_, rfl, rfl, HFe.out⟩
      · try simp only [List.getElem_toArray, List.getElem_cons_succ, List.getElem_cons_zero, Act.put, List.setIfInBounds_toArray, List.set_cons_zero, List.set_cons_succ]
        have HL : Hid (w.heap.size + 1 < w3.heap.size) := blk_lt HF3.out.x1
        go_simp
        have hbZ : Below w3.heap.size w3 (w3.alloc (.cells #[.int .i64 0, .slice none 0 0, .slice none 0 0, .slice none 0 0, .slice none 0 0, .int .i64 0] 79)) := (Below.refl _ _).alloc (Nat.le_refl _) _
        have HX6 := hid (heap_alloc_new w3 (.cells #[.int .i64 0, .slice none 0 0, .slice none 0 0, .slice none 0 0, .slice none 0 0, .int .i64 0] 79))
        have HF6 := hid (HF3.out.next hbZ)
        have HO6 := hid (own_below HO3.out hbZ)
        refine hK.out _ _ (HS4.out _ HF6.out) (fun hHeld => ?_)
        clear hK K
        try simp only [List.getElem_toArray, List.getElem_cons_succ, List.getElem_cons_zero, Act.put, List.setIfInBounds_toArray, List.set_cons_zero, List.set_cons_succ]
        refine OrdF.one (i := 4) rfl (by kernel_rfl) (fun K hK => ?_)
        try simp only [List.getElem_toArray, List.getElem_cons_succ, List.getElem_cons_zero, Act.put, List.setIfInBounds_toArray, List.set_cons_zero, List.set_cons_succ]
        go_simp
        (go_at_call 45; (with_reducible refine (HF.out _ _ _ HF6.out HO6.out).mono ?_); rintro e' w4 ⟨rfl, hf4, hb4⟩; have HF4 := hid hf4; have HB4 := hid hb4; have HO4 := hid (own_below HO6.out hb4); clear hf4 hb4)
        try go_wp2_with fail
        have HX4 := hid (box_below HX6.out HB4.out (blk_lt HX6.out))
        refine hK.out _ _ (HS4.out _ HF4.out) (fun hHeld => ?_)
        clear hK K
        try simp only [List.getElem_toArray, List.getElem_cons_succ, List.getElem_cons_zero, Act.put, List.setIfInBounds_toArray, List.set_cons_zero, List.set_cons_succ]
        refine OrdF.take (i := 5) (v := ?_) rfl (by kernel_rfl) (fun _ _ _ h => h) (by rfl) ?_ (by assumption) ?_
        (rotate_left; focus (intro w' hSw; (try dsimp only at hSw); go_simp; (try with_reducible rfl)))
        try simp only [List.getElem_toArray, List.getElem_cons_succ, List.getElem_cons_zero, Act.put, List.setIfInBounds_toArray, List.set_cons_zero, List.set_cons_succ]
        refine OrdF.take (i := 6) (v := ?_) rfl (by kernel_rfl) (fun _ _ _ h => h) (by rfl) ?_ (by assumption) ?_
        (rotate_left; focus (intro w' hSw; (try dsimp only at hSw); go_simp; (try with_reducible rfl)))
        try simp only [List.getElem_toArray, List.getElem_cons_succ, List.getElem_cons_zero, Act.put, List.setIfInBounds_toArray, List.set_cons_zero, List.set_cons_succ]
        refine OrdF.take (i := 7) (v := ?_) rfl (by kernel_rfl) (fun _ _ _ h => h) (by rfl) ?_ (by assumption) ?_
        (rotate_left; focus (intro w' hSw; (try dsimp only at hSw); go_simp; (try with_reducible rfl)))
        try simp only [List.getElem_toArray, List.getElem_cons_succ, List.getElem_cons_zero, Act.put, List.setIfInBounds_toArray, List.set_cons_zero, List.set_cons_succ]
        obtain ⟨b0, b1, b2, b3, b4, b5, bf⟩ := box6_cells HX4.out
        have bf0 := bf 0
        have bf1 := bf 1
        have bf2 := bf 2
        have bf3 := bf 3
        have bf4 := bf 4
        have bf5 := bf 5
        clear bf
        refine OrdF.one (i := 9) rfl (by kernel_rfl) (fun K hK => ?_)
        try simp only [List.getElem_toArray, List.getElem_cons_succ, List.getElem_cons_zero]
        go_simp
        have HXe := hid (box6_put (y0 := (.int .i64 0)) (y1 := (.slice none 0 0)) (y2 := (.slice none 0 0)) (y3 := (.slice none 0 0)) (y4 := (.slice none 0 0)) (y5 := (.int .i64 0)) HX4.out)
        have HFe := hid (FnB.put6 (y0 := (.int .i64 0)) (y1 := (.slice none 0 0)) (y2 := (.slice none 0 0)) (y3 := (.slice none 0 0)) (y4 := (.slice none 0 0)) (y5 := (.int .i64 0)) (B := w3.heap.size) HF4.out HL.out)
        refine hK.out _ _ (HS4.out _ HFe.out) (fun hHeld => ?_)
        clear hK K
        try simp only [List.getElem_toArray, List.getElem_cons_succ, List.getElem_cons_zero, Act.put, List.setIfInBounds_toArray, List.set_cons_zero, List.set_cons_succ]
        refine OrdF.last (n := 10) rfl (by kernel_rfl) (fun K hK => ?_)
        try simp only [List.getElem_toArray, List.getElem_cons_succ, List.getElem_cons_zero, Act.put]
        go_simp
        refine hK.out _ _ ?_
        clear hK K
        try simp only [List.getElem_toArray, List.getElem_cons_succ, List.getElem_cons_zero, Act.put, List.setIfInBounds_toArray, List.set_cons_zero, List.set_cons_succ]
        go_wp2_with fail
        go_meet
        exact ⟨_, rfl, rfl, HFe.out⟩
    · try simp only [List.getElem_toArray, List.getElem_cons_succ, List.getElem_cons_zero, Act.put, List.setIfInBounds_toArray, List.set_cons_zero, List.set_cons_succ]
      have HL : Hid (w.heap.size + 1 < wq.heap.size) := blk_lt HF2.out.x1
      go_simp
      have hbZ : Below wq.heap.size wq (wq.alloc (.cells #[.int .i64 0, .slice none 0 0, .slice none 0 0, .slice none 0 0, .slice none 0 0, .int .i64 0] 79)) := (Below.refl _ _).alloc (Nat.le_refl _) _
      have HX7 := hid (heap_alloc_new wq (.cells #[.int .i64 0, .slice none 0 0, .slice none 0 0, .slice none 0 0, .slice none 0 0, .int .i64 0] 79))
      have HF7 := hid (HF2.out.next hbZ)
      refine hK.out _ _ (HS4.out _ HF7.out) (fun hHeld => ?_)
      clear hK K
      try simp only [List.getElem_toArray, List.getElem_cons_succ, List.getElem_cons_zero, Act.put, List.setIfInBounds_toArray, List.set_cons_zero, List.set_cons_succ]
      refine OrdF.one (i := 1) rfl (by kernel_rfl) (fun K hK => ?_)
      try simp only [List.getElem_toArray, List.getElem_cons_succ, List.getElem_cons_zero, Act.put, List.setIfInBounds_toArray, List.set_cons_zero, List.set_cons_succ]
      go_simp
      (go_at_call 19; (with_reducible refine (HG.out _ HF7.out).mono ?_); rintro e' w3 ⟨A3, c3, rfl, hown3, hf3, hb3⟩; have HF3 := hid hf3; have HO3 := hid hown3; have HB3 := hid hb3; clear hown3 hf3 hb3)
      try go_wp2_with fail
      have HX3 := hid (box_below HX7.out HB3.out (blk_lt HX7.out))
      refine hK.out _ _ (HS4.out _ HF3.out) (fun hHeld => ?_)
      clear hK K
      try simp only [List.getElem_toArray, List.getElem_cons_succ, List.getElem_cons_zero, Act.put, List.setIfInBounds_toArray, List.set_cons_zero, List.set_cons_succ]
      refine OrdF.one (i := 4) rfl (by kernel_rfl) (fun K hK => ?_)
      try simp only [List.getElem_toArray, List.getElem_cons_succ, List.getElem_cons_zero, Act.put, List.setIfInBounds_toArray, List.set_cons_zero, List.set_cons_succ]
      go_simp
      (go_at_call 45; (with_reducible refine (HF.out _ _ _ HF3.out HO3.out).mono ?_); rintro e' w4 ⟨rfl, hf4, hb4⟩; have HF4 := hid hf4; have HB4 := hid hb4; have HO4 := hid (own_below HO3.out hb4); clear hf4 hb4)
      try go_wp2_with fail
      have HX4 := hid (box_below HX3.out HB4.out (blk_lt HX3.out))
      refine hK.out _ _ (HS4.out _ HF4.out) (fun hHeld => ?_)
      clear hK K
      try simp only [List.getElem_toArray, List.getElem_cons_succ, List.getElem_cons_zero, Act.put, List.setIfInBounds_toArray, List.set_cons_zero, List.set_cons_succ]
      refine OrdF.take (i := 5) (v := ?_) rfl (by kernel_rfl) (fun _ _ _ h => h) (by rfl) ?_ (by assumption) ?_
      (rotate_left; focus (intro w' hSw; (try dsimp only at hSw); go_simp; (try with_reducible rfl)))
      try simp only [List.getElem_toArray, List.getElem_cons_succ, List.getElem_cons_zero, Act.put, List.setIfInBounds_toArray, List.set_cons_zero, List.set_cons_succ]
      refine OrdF.take (i := 6) (v := ?_) rfl (by kernel_rfl) (fun _ _ _ h => h) (by rfl) ?_ (by assumption) ?_
      (rotate_left; focus (intro w' hSw; (try dsimp only at hSw); go_simp; (try with_reducible rfl)))
      try simp only [List.getElem_toArray, List.getElem_cons_succ, List.getElem_cons_zero, Act.put, List.setIfInBounds_toArray, List.set_cons_zero, List.set_cons_succ]
      refine OrdF.take (i := 7) (v := ?_) rfl (by kernel_rfl) (fun _ _ _ h => h) (by rfl) ?_ (by assumption) ?_
      (rotate_left; focus (intro w' hSw; (try dsimp only at hSw); go_simp; (try with_reducible rfl)))
      try simp only [List.getElem_toArray, List.getElem_cons_succ, List.getElem_cons_zero, Act.put, List.setIfInBounds_toArray, List.set_cons_zero, List.set_cons_succ]
      obtain ⟨b0, b1, b2, b3, b4, b5, bf⟩ := box6_cells HX4.out
      have bf0 := bf 0
      have bf1 := bf 1
      have bf2 := bf 2
      have bf3 := bf 3
      have bf4 := bf 4
      have bf5 := bf 5
      clear bf
      refine OrdF.one (i := 9) rfl (by kernel_rfl) (fun K hK => ?_)
      try simp only [List.getElem_toArray, List.getElem_cons_succ, List.getElem_cons_zero]
      go_simp
      have HXe := hid (box6_put (y0 := (.int .i64 0)) (y1 := (.slice none 0 0)) (y2 := (.slice none 0 0)) (y3 := (.slice none 0 0)) (y4 := (.slice none 0 0)) (y5 := (.int .i64 0)) HX4.out)
      have HFe := hid (FnB.put6 (y0 := (.int .i64 0)) (y1 := (.slice none 0 0)) (y2 := (.slice none 0 0)) (y3 := (.slice none 0 0)) (y4 := (.slice none 0 0)) (y5 := (.int .i64 0)) (B := wq.heap.size) HF4.out HL.out)
      refine hK.out _ _ (HS4.out _ HFe.out) (fun hHeld => ?_)
      clear hK K
      try simp only [List.getElem_toArray, List.getElem_cons_succ, List.getElem_cons_zero, Act.put, List.setIfInBounds_toArray, List.set_cons_zero, List.set_cons_succ]
      refine OrdF.last (n := 10) rfl (by kernel_rfl) (fun K hK => ?_)
      try simp only [List.getElem_toArray, List.getElem_cons_succ, List.getElem_cons_zero, Act.put]
      go_simp
      refine hK.out _ _ ?_
      clear hK K
      try simp only [List.getElem_toArray, List.getElem_cons_succ, List.getElem_cons_zero, Act.put, List.setIfInBounds_toArray, List.set_cons_zero, List.set_cons_succ]
      go_wp2_with fail
      go_meet
      exact ⟨_, rfl, rfl, HFe.out⟩
  case rest =>
    obtain ⟨B, rfl, rfl, hf⟩ := hcut
    rename World => w9
    obtain ⟨r0, r1, r2, r3, r4, r5, r6, r7⟩ := box8_cells hf.x1
    have rfz := fun j => frozen_of_row (j := j) _ _ _ _ hf.x1
    have f0 := rfz 0
    have f1 := rfz 1
    have f2 := rfz 2
    have f3 := rfz 3
    have f4 := rfz 4
    have f5 := rfz 5
    have f6 := rfz 6
    have f7 := rfz 7
    clear rfz
    have HF := hid hf
    clear hf
    go_wp2_with fail
    have hg := box8_put (y0 := .pointer none) (y1 := .int .i64 0) (y2 := .slice none 0 0) (y3 := .slice none 0 0) (y4 := .slice none 0 0) (y5 := .slice none 0 0) (y6 := .int .i64 0) (y7 := .map none) HF.out.x1
    try simp only [Exit.inBlock, Exit.then]
    refine bodyPost_ret (results_cellrow_tmp (p := 6) (u := 7) (fn := Try.f30) rfl _ _ _ _ _ _ _ rfl hg Try.underlying82 rfl (by kernel_rfl)) rfl ?_
    exact ⟨rfl, below_put8 HF.out.bel (Nat.le_succ _)⟩
theorem eFind_ok (tp : Addr) (N : Nat) (l : List Lnk) (x : Wnt) (y : WSl) (Ad : Option Addr) (n' c' : Nat) (dn : List Bool) (w : World) (ht : TArgs w tp N l x y Ad n' c' dn) (hg : GOk N l) (hl16 : l.length ≤ 16) (h1 : y.nv ≤ 100) (h2 : y.nn ≤ 100) (h3 : y.nl ≤ 100) (h4 : y.nc ≤ 100) (hc : (costS (N : Int) l x dn).2 = 0) (gn : List Bool) (hgn : prunedS (N : Int) l x dn = gn) (kk : Nat) (hkk : x.via.length = kk) :
    Calls Try.prog 30 #[.pointer (some tp), .agg #[.int .i64 x.frm, .int .i64 x.too, .int .i64 x.bnd, .slice y.av y.nv y.cv, .slice y.an y.nn y.cn, .slice y.al y.nl y.cl, .slice y.ac y.nc y.cc], .slice Ad n' c'] w fun e w' => ∃ (A : Option Addr) (c : Nat) (Ap : Option Addr) (cp : Nat) (Ag : Option Addr) (cg : Nat) (Df : Option Addr) (cf : Nat) (s : Int) (M : Nat), e = .returned (.tuple #[.agg #[.pointer (some tp), .int .i64 (N : Int), .slice A l.length c, .slice Ap (kk + 2) cp, .slice Ag l.length cg, .slice Df (kk + 1) cf, .int .i64 s, .map (some M)], .int .i64 0]) ∧ GW M N l x gn tp A l.length c Ap cp Ag cg Df cf kk w' ∧ Below w.heap.size w w' ∧ w.heap.size ≤ M := by
  have HG := hid (fun W (hb : FnB x y w W) => show Calls Try.prog 19 #[.pointer (some tp)] W fun e w' => ∃ A c, e = .returned (.agg #[.int .i64 (N : Int), .slice A l.length c]) ∧ w'.ownsRow 0 49 4 (.slice A l.length c) l.length (lcells l) ∧ FnB x y w w' ∧ Below W.heap.size W w' from (tgraph3_any (ht.on (hb.bel.trans (Below.refl _ _))).1 hg).mono (fun _ _ ⟨A, c, e1, e2, e3⟩ => ⟨A, c, e1, e2, hb.next e3, e3⟩))
  have hN1 : -9223372036854775808 ≤ (N : Int) ∧ (N : Int) ≤ 9223372036854775807 := by have := hg.2.2.1; omega
  have HF := hid (fun (A : Option Addr) (c : Nat) W (hb : FnB x y w W) (hown : W.ownsRow 0 49 4 (.slice A l.length c) l.length (lcells l)) => show Calls Try.prog 45 #[.agg #[.int .i64 (N : Int), .slice A l.length c], .agg #[.int .i64 x.frm, .int .i64 x.too, .int .i64 x.bnd, .slice y.av y.nv y.cv, .slice y.an y.nn y.cn, .slice y.al y.nl y.cl, .slice y.ac y.nc y.cc], .slice Ad n' c'] W fun e w' => ∃ (Ap : Option Addr) (cp : Nat) (Ag : Option Addr) (cg : Nat) (Df : Option Addr) (cf : Nat) (vs : List Value), e = .returned (.tuple #[.agg #[.int .i64 (N : Int), .slice A l.length c, .slice Ap (kk + 2) cp, .slice Ag l.length cg, .slice Df (kk + 1) cf, .int .i64 (costS (N : Int) l x dn).1], .int .i64 0]) ∧ BestAt w' (N : Int) l.length l x gn Ap cp Ag cg (.slice Df (kk + 1) cf) vs ∧ FnB x y w w' ∧ Below W.heap.size W w' from (find_spec (N : Int) A l.length c l x y Ad n' c' dn W (garg_of hown rfl (by omega) hN1.1 hN1.2) (ht.on hb.bel).2.1 (ht.on hb.bel).2.2 h1 h2 h3 h4).mono (by
    rintro e w' ⟨hb5, h5⟩
    rcases h5 with ⟨h7, _⟩ | ⟨_, Ap, cp, Ag, cg, Df, cf, vs, h8, h9⟩
    · exact absurd hc h7
    · rw [hkk] at h8 h9; rw [hgn] at h9; exact ⟨Ap, cp, Ag, cg, Df, cf, vs, h8, h9, hb.next hb5, hb5⟩))
  have HB2 := hid (FnB.start (x := x) (y := y) (w := w))
  obtain ⟨z0, z1, z2, z3, z4, z5, z6⟩ := box7_cells HB2.out.x0
  have hmm := @run_makeMap Try.prog
  have HT := hid ht
  clear ht hc hgn
  go_enter Try.func30, Try.ntmps30
  go_upto_region 1 with fail
  go_cut [8, 9] (fun q e wx => ∃ (B : Nat) (A3 : Option Addr) (c3 : Nat) (Ap : Option Addr) (cp : Nat) (Ag : Option Addr) (cg : Nat) (Df : Option Addr) (cf : Nat), q = .pointer (some ⟨B, 0, none⟩) ∧ e = .int .i64 0 ∧ wx.heap[B]? = some (.cells #[.int .i64 (N : Int), .slice A3 l.length c3, .slice Ap (kk + 2) cp, .slice Ag l.length cg, .slice Df (kk + 1) cf, .int .i64 (costS (N : Int) l x dn).1] 79 (0, 0)) ∧ FnB x y w wx ∧ wx.ownsRow 0 49 4 (.slice A3 l.length c3) l.length (lcells l) ∧ ∃ vs, BestAt wx (N : Int) l.length l x gn Ap cp Ag cg (.slice Df (kk + 1) cf) vs)
  case first =>
    go_wp2_with fail
    have HS4 : Hid (∀ W, FnB x y w W → W.cell? ⟨w.heap.size, 0, none⟩ = some (.int .i64 x.frm) ∧ W.cell? ⟨w.heap.size, 1, none⟩ = some (.int .i64 x.too) ∧ W.cell? ⟨w.heap.size, 2, none⟩ = some (.int .i64 x.bnd) ∧ W.cell? ⟨w.heap.size, 3, none⟩ = some (.slice y.av y.nv y.cv) ∧ W.cell? ⟨w.heap.size, 4, none⟩ = some (.slice y.an y.nn y.cn) ∧ W.cell? ⟨w.heap.size, 5, none⟩ = some (.slice y.al y.nl y.cl) ∧ W.cell? ⟨w.heap.size, 6, none⟩ = some (.slice y.ac y.nc y.cc)) := fun W hh => by obtain ⟨z0, z1, z2, z3, z4, z5, z6⟩ := box7_cells hh.x0; exact ⟨z0, z1, z2, z3, z4, z5, z6⟩
    clear z0 z1 z2 z3 z4 z5 z6
    have HF2 := hid HB2.out.dr
    clear HB2
    obtain ⟨wq, hwq⟩ : ∃ wq, ((w.alloc (.cells #[.int .i64 x.frm, .int .i64 x.too, .int .i64 x.bnd, .slice y.av y.nv y.cv, .slice y.an y.nn y.cn, .slice y.al y.nl y.cl, .slice y.ac y.nc y.cc] 58)).alloc (.cells #[.pointer none, .int .i64 0, .slice none 0 0, .slice none 0 0, .slice none 0 0, .slice none 0 0, .int .i64 0, .map none] 82)).drew = wq := ⟨_, rfl⟩
    refine region_ord 10 (fun W => W.cell? ⟨w.heap.size, 0, none⟩ = some (.int .i64 x.frm) ∧ W.cell? ⟨w.heap.size, 1, none⟩ = some (.int .i64 x.too) ∧ W.cell? ⟨w.heap.size, 2, none⟩ = some (.int .i64 x.bnd) ∧ W.cell? ⟨w.heap.size, 3, none⟩ = some (.slice y.av y.nv y.cv) ∧ W.cell? ⟨w.heap.size, 4, none⟩ = some (.slice y.an y.nn y.cn) ∧ W.cell? ⟨w.heap.size, 5, none⟩ = some (.slice y.al y.nl y.cl) ∧ W.cell? ⟨w.heap.size, 6, none⟩ = some (.slice y.ac y.nc y.cc)) (by kernel_rfl) (HS4.out _ HF2.out) (fun hHeld => ?_)
    rw [hwq] at HF2 hHeld ⊢
    clear hwq
    refine OrdF.take (i := 0) (v := ?_) rfl (by kernel_rfl) (fun _ _ _ h => h) (by rfl) ?_ (by assumption) ?_
    (rotate_left; focus (intro w' hSw; (try dsimp only at hSw); go_simp; (try with_reducible rfl)))
    try simp only [List.getElem_toArray, List.getElem_cons_zero, Act.put, List.setIfInBounds_toArray, List.set_cons_zero, List.set_cons_succ]
    refine OrdF.take (i := 2) (v := ?_) rfl (by kernel_rfl) (fun _ _ _ h => h) (by rfl) ?_ (by assumption) ?_
    (rotate_left; focus (intro w' hSw; (try dsimp only at hSw); go_simp; (try with_reducible rfl)))
    try simp only [List.getElem_toArray, List.getElem_cons_succ, List.getElem_cons_zero, Act.put, List.setIfInBounds_toArray, List.set_cons_zero, List.set_cons_succ]
    refine OrdF.take (i := 3) (v := ?_) rfl (by kernel_rfl) (fun _ _ _ h => h) (by rfl) ?_ (by assumption) ?_
    (rotate_left; focus (intro w' hSw; (try dsimp only at hSw); go_simp; (try with_reducible rfl)))
    try simp only [List.getElem_toArray, List.getElem_cons_succ, List.getElem_cons_zero, Act.put, List.setIfInBounds_toArray, List.set_cons_zero, List.set_cons_succ]
    refine OrdF.two (i := 1) (j := 8) rfl rfl (by kernel_rfl) (fun K hK => ?_) (fun K hK => ?_)
    · try simp only [List.getElem_toArray, List.getElem_cons_succ, List.getElem_cons_zero, Act.put, List.setIfInBounds_toArray, List.set_cons_zero, List.set_cons_succ]
      go_simp
      (go_at_call 19; (with_reducible refine (HG.out _ HF2.out).mono ?_); rintro e' w3 ⟨A3, c3, rfl, hown3, hf3, hb3⟩; have HF3 := hid hf3; have HO3 := hid hown3; have HB3 := hid hb3; clear hown3 hf3 hb3)
      try go_wp2_with fail
      refine hK.out _ _ (HS4.out _ HF3.out) (fun hHeld => ?_)
      clear hK K
      try simp only [List.getElem_toArray, List.getElem_cons_succ, List.getElem_cons_zero, Act.put, List.setIfInBounds_toArray, List.set_cons_zero, List.set_cons_succ]
      refine OrdF.two (i := 4) (j := 8) rfl rfl (by kernel_rfl) (fun K hK => ?_) (fun K hK => ?_)
      · try simp only [List.getElem_toArray, List.getElem_cons_succ, List.getElem_cons_zero, Act.put, List.setIfInBounds_toArray, List.set_cons_zero, List.set_cons_succ]
        go_simp
        (go_at_call 45; (with_reducible refine (HF.out _ _ _ HF3.out HO3.out).mono ?_); rintro e' w4 ⟨Ap4, cp4, Ag4, cg4, Df4, cf4, vs4, rfl, hbest4, hf4, hb4⟩; have HBe4 := hid hbest4; have HF4 := hid hf4; have HB4 := hid hb4; have HO4 := hid (own_below HO3.out hb4); clear hf4 hb4)
        try go_wp2_with fail
        refine hK.out _ _ (HS4.out _ HF4.out) (fun hHeld => ?_)
        clear hK K
        try simp only [List.getElem_toArray, List.getElem_cons_succ, List.getElem_cons_zero, Act.put, List.setIfInBounds_toArray, List.set_cons_zero, List.set_cons_succ]
        refine OrdF.take (i := 5) (v := ?_) rfl (by kernel_rfl) (fun _ _ _ h => h) (by rfl) ?_ (by assumption) ?_
        (rotate_left; focus (intro w' hSw; (try dsimp only at hSw); go_simp; (try with_reducible rfl)))
        try simp only [List.getElem_toArray, List.getElem_cons_succ, List.getElem_cons_zero, Act.put, List.setIfInBounds_toArray, List.set_cons_zero, List.set_cons_succ]
        refine OrdF.take (i := 6) (v := ?_) rfl (by kernel_rfl) (fun _ _ _ h => h) (by rfl) ?_ (by assumption) ?_
        (rotate_left; focus (intro w' hSw; (try dsimp only at hSw); go_simp; (try with_reducible rfl)))
        try simp only [List.getElem_toArray, List.getElem_cons_succ, List.getElem_cons_zero, Act.put, List.setIfInBounds_toArray, List.set_cons_zero, List.set_cons_succ]
        refine OrdF.take (i := 7) (v := ?_) rfl (by kernel_rfl) (fun _ _ _ h => h) (by rfl) ?_ (by assumption) ?_
        (rotate_left; focus (intro w' hSw; (try dsimp only at hSw); go_simp; (try with_reducible rfl)))
        try simp only [List.getElem_toArray, List.getElem_cons_succ, List.getElem_cons_zero, Act.put, List.setIfInBounds_toArray, List.set_cons_zero, List.set_cons_succ]
        have HL : Hid (w.heap.size + 1 < w4.heap.size) := blk_lt HF4.out.x1
        refine OrdF.one (i := 8) rfl (by kernel_rfl) (fun K hK => ?_)
        try simp only [List.getElem_toArray, List.getElem_cons_succ, List.getElem_cons_zero, Act.put, List.setIfInBounds_toArray, List.set_cons_zero, List.set_cons_succ]
        go_simp
        have hbZ : Below w4.heap.size w4 (w4.alloc (.cells #[.int .i64 0, .slice none 0 0, .slice none 0 0, .slice none 0 0, .slice none 0 0, .int .i64 0] 79)) := (Below.refl _ _).alloc (Nat.le_refl _) _
        have HX5 := hid (heap_alloc_new w4 (.cells #[.int .i64 0, .slice none 0 0, .slice none 0 0, .slice none 0 0, .slice none 0 0, .int .i64 0] 79))
        have HF5 := hid (HF4.out.next hbZ)
        refine hK.out _ _ (HS4.out _ HF5.out) (fun hHeld => ?_)
        clear hK K
        try simp only [List.getElem_toArray, List.getElem_cons_succ, List.getElem_cons_zero, Act.put, List.setIfInBounds_toArray, List.set_cons_zero, List.set_cons_succ]
        obtain ⟨b0, b1, b2, b3, b4, b5, bf⟩ := box6_cells HX5.out
        have bf0 := bf 0
        have bf1 := bf 1
        have bf2 := bf 2
        have bf3 := bf 3
        have bf4 := bf 4
        have bf5 := bf 5
        clear bf
        refine OrdF.one (i := 9) rfl (by kernel_rfl) (fun K hK => ?_)
        try simp only [List.getElem_toArray, List.getElem_cons_succ, List.getElem_cons_zero]
        go_simp
        have HXe := hid (heap_alloc_new w4 (.cells #[.int .i64 (N : Int), .slice A3 l.length c3, .slice Ap4 (kk + 2) cp4, .slice Ag4 l.length cg4, .slice Df4 (kk + 1) cf4, .int .i64 (costS (N : Int) l x dn).1] 79))
        have HFe := hid (HF4.out.next ((Below.refl _ _).alloc (Nat.le_refl _) (.cells #[.int .i64 (N : Int), .slice A3 l.length c3, .slice Ap4 (kk + 2) cp4, .slice Ag4 l.length cg4, .slice Df4 (kk + 1) cf4, .int .i64 (costS (N : Int) l x dn).1] 79)))
        have HOe := hid (own_below HO4.out ((Below.refl _ _).alloc (Nat.le_refl _) (.cells #[.int .i64 (N : Int), .slice A3 l.length c3, .slice Ap4 (kk + 2) cp4, .slice Ag4 l.length cg4, .slice Df4 (kk + 1) cf4, .int .i64 (costS (N : Int) l x dn).1] 79)))
        have HBf := hid (HBe4.out.on ((Below.refl _ _).alloc (Nat.le_refl _) (.cells #[.int .i64 (N : Int), .slice A3 l.length c3, .slice Ap4 (kk + 2) cp4, .slice Ag4 l.length cg4, .slice Df4 (kk + 1) cf4, .int .i64 (costS (N : Int) l x dn).1] 79)))
        refine hK.out _ _ (HS4.out _ HFe.out) (fun hHeld => ?_)
        clear hK K
        try simp only [List.getElem_toArray, List.getElem_cons_succ, List.getElem_cons_zero, Act.put, List.setIfInBounds_toArray, List.set_cons_zero, List.set_cons_succ]
        refine OrdF.last (n := 10) rfl (by kernel_rfl) (fun K hK => ?_)
        try simp only [List.getElem_toArray, List.getElem_cons_succ, List.getElem_cons_zero, Act.put]
        go_simp
        refine hK.out _ _ ?_
        clear hK K
        try simp only [List.getElem_toArray, List.getElem_cons_succ, List.getElem_cons_zero, Act.put, List.setIfInBounds_toArray, List.set_cons_zero, List.set_cons_succ]
        go_wp2_with fail
        go_meet
        exact ⟨_, _, _, _, _, _, _, _, _, rfl, rfl, HXe.out, HFe.out, HOe.out, _, HBf.out⟩
      · try simp only [List.getElem_toArray, List.getElem_cons_succ, List.getElem_cons_zero, Act.put, List.setIfInBounds_toArray, List.set_cons_zero, List.set_cons_succ]
        have HL : Hid (w.heap.size + 1 < w3.heap.size) := blk_lt HF3.out.x1
        go_simp
        have hbZ : Below w3.heap.size w3 (w3.alloc (.cells #[.int .i64 0, .slice none 0 0, .slice none 0 0, .slice none 0 0, .slice none 0 0, .int .i64 0] 79)) := (Below.refl _ _).alloc (Nat.le_refl _) _
        have HX6 := hid (heap_alloc_new w3 (.cells #[.int .i64 0, .slice none 0 0, .slice none 0 0, .slice none 0 0, .slice none 0 0, .int .i64 0] 79))
        have HF6 := hid (HF3.out.next hbZ)
        have HO6 := hid (own_below HO3.out hbZ)
        refine hK.out _ _ (HS4.out _ HF6.out) (fun hHeld => ?_)
        clear hK K
        try simp only [List.getElem_toArray, List.getElem_cons_succ, List.getElem_cons_zero, Act.put, List.setIfInBounds_toArray, List.set_cons_zero, List.set_cons_succ]
        refine OrdF.one (i := 4) rfl (by kernel_rfl) (fun K hK => ?_)
        try simp only [List.getElem_toArray, List.getElem_cons_succ, List.getElem_cons_zero, Act.put, List.setIfInBounds_toArray, List.set_cons_zero, List.set_cons_succ]
        go_simp
        (go_at_call 45; (with_reducible refine (HF.out _ _ _ HF6.out HO6.out).mono ?_); rintro e' w4 ⟨Ap4, cp4, Ag4, cg4, Df4, cf4, vs4, rfl, hbest4, hf4, hb4⟩; have HBe4 := hid hbest4; have HF4 := hid hf4; have HB4 := hid hb4; have HO4 := hid (own_below HO6.out hb4); clear hf4 hb4)
        try go_wp2_with fail
        have HX4 := hid (box_below HX6.out HB4.out (blk_lt HX6.out))
        refine hK.out _ _ (HS4.out _ HF4.out) (fun hHeld => ?_)
        clear hK K
        try simp only [List.getElem_toArray, List.getElem_cons_succ, List.getElem_cons_zero, Act.put, List.setIfInBounds_toArray, List.set_cons_zero, List.set_cons_succ]
        refine OrdF.take (i := 5) (v := ?_) rfl (by kernel_rfl) (fun _ _ _ h => h) (by rfl) ?_ (by assumption) ?_
        (rotate_left; focus (intro w' hSw; (try dsimp only at hSw); go_simp; (try with_reducible rfl)))
        try simp only [List.getElem_toArray, List.getElem_cons_succ, List.getElem_cons_zero, Act.put, List.setIfInBounds_toArray, List.set_cons_zero, List.set_cons_succ]
        refine OrdF.take (i := 6) (v := ?_) rfl (by kernel_rfl) (fun _ _ _ h => h) (by rfl) ?_ (by assumption) ?_
        (rotate_left; focus (intro w' hSw; (try dsimp only at hSw); go_simp; (try with_reducible rfl)))
        try simp only [List.getElem_toArray, List.getElem_cons_succ, List.getElem_cons_zero, Act.put, List.setIfInBounds_toArray, List.set_cons_zero, List.set_cons_succ]
        refine OrdF.take (i := 7) (v := ?_) rfl (by kernel_rfl) (fun _ _ _ h => h) (by rfl) ?_ (by assumption) ?_
        (rotate_left; focus (intro w' hSw; (try dsimp only at hSw); go_simp; (try with_reducible rfl)))
        try simp only [List.getElem_toArray, List.getElem_cons_succ, List.getElem_cons_zero, Act.put, List.setIfInBounds_toArray, List.set_cons_zero, List.set_cons_succ]
        obtain ⟨b0, b1, b2, b3, b4, b5, bf⟩ := box6_cells HX4.out
        have bf0 := bf 0
        have bf1 := bf 1
        have bf2 := bf 2
        have bf3 := bf 3
        have bf4 := bf 4
        have bf5 := bf 5
        clear bf
        refine OrdF.one (i := 9) rfl (by kernel_rfl) (fun K hK => ?_)
        try simp only [List.getElem_toArray, List.getElem_cons_succ, List.getElem_cons_zero]
        go_simp
        have HXe := hid (box6_put (y0 := (.int .i64 (N : Int))) (y1 := (.slice A3 l.length c3)) (y2 := (.slice Ap4 (kk + 2) cp4)) (y3 := (.slice Ag4 l.length cg4)) (y4 := (.slice Df4 (kk + 1) cf4)) (y5 := (.int .i64 (costS (N : Int) l x dn).1)) HX4.out)
        have HFe := hid (FnB.put6 (y0 := (.int .i64 (N : Int))) (y1 := (.slice A3 l.length c3)) (y2 := (.slice Ap4 (kk + 2) cp4)) (y3 := (.slice Ag4 l.length cg4)) (y4 := (.slice Df4 (kk + 1) cf4)) (y5 := (.int .i64 (costS (N : Int) l x dn).1)) (B := w3.heap.size) HF4.out HL.out)
        have HOe := hid (own_but HO4.out (but_put6 (y0 := (.int .i64 (N : Int))) (y1 := (.slice A3 l.length c3)) (y2 := (.slice Ap4 (kk + 2) cp4)) (y3 := (.slice Ag4 l.length cg4)) (y4 := (.slice Df4 (kk + 1) cf4)) (y5 := (.int .i64 (costS (N : Int) l x dn).1))) HX4.out (by decide))
        have HBf := hid (HBe4.out.but (but_put6 (y0 := (.int .i64 (N : Int))) (y1 := (.slice A3 l.length c3)) (y2 := (.slice Ap4 (kk + 2) cp4)) (y3 := (.slice Ag4 l.length cg4)) (y4 := (.slice Df4 (kk + 1) cf4)) (y5 := (.int .i64 (costS (N : Int) l x dn).1))) HX4.out)
        refine hK.out _ _ (HS4.out _ HFe.out) (fun hHeld => ?_)
        clear hK K
        try simp only [List.getElem_toArray, List.getElem_cons_succ, List.getElem_cons_zero, Act.put, List.setIfInBounds_toArray, List.set_cons_zero, List.set_cons_succ]
        refine OrdF.last (n := 10) rfl (by kernel_rfl) (fun K hK => ?_)
        try simp only [List.getElem_toArray, List.getElem_cons_succ, List.getElem_cons_zero, Act.put]
        go_simp
        refine hK.out _ _ ?_
        clear hK K
        try simp only [List.getElem_toArray, List.getElem_cons_succ, List.getElem_cons_zero, Act.put, List.setIfInBounds_toArray, List.set_cons_zero, List.set_cons_succ]
        go_wp2_with fail
        go_meet
        exact ⟨_, _, _, _, _, _, _, _, _, rfl, rfl, HXe.out, HFe.out, HOe.out, _, HBf.out⟩
    · try simp only [List.getElem_toArray, List.getElem_cons_succ, List.getElem_cons_zero, Act.put, List.setIfInBounds_toArray, List.set_cons_zero, List.set_cons_succ]
      have HL : Hid (w.heap.size + 1 < wq.heap.size) := blk_lt HF2.out.x1
      go_simp
      have hbZ : Below wq.heap.size wq (wq.alloc (.cells #[.int .i64 0, .slice none 0 0, .slice none 0 0, .slice none 0 0, .slice none 0 0, .int .i64 0] 79)) := (Below.refl _ _).alloc (Nat.le_refl _) _
      have HX7 := hid (heap_alloc_new wq (.cells #[.int .i64 0, .slice none 0 0, .slice none 0 0, .slice none 0 0, .slice none 0 0, .int .i64 0] 79))
      have HF7 := hid (HF2.out.next hbZ)
      refine hK.out _ _ (HS4.out _ HF7.out) (fun hHeld => ?_)
      clear hK K
      try simp only [List.getElem_toArray, List.getElem_cons_succ, List.getElem_cons_zero, Act.put, List.setIfInBounds_toArray, List.set_cons_zero, List.set_cons_succ]
      refine OrdF.one (i := 1) rfl (by kernel_rfl) (fun K hK => ?_)
      try simp only [List.getElem_toArray, List.getElem_cons_succ, List.getElem_cons_zero, Act.put, List.setIfInBounds_toArray, List.set_cons_zero, List.set_cons_succ]
      go_simp
      (go_at_call 19; (with_reducible refine (HG.out _ HF7.out).mono ?_); rintro e' w3 ⟨A3, c3, rfl, hown3, hf3, hb3⟩; have HF3 := hid hf3; have HO3 := hid hown3; have HB3 := hid hb3; clear hown3 hf3 hb3)
      try go_wp2_with fail
      have HX3 := hid (box_below HX7.out HB3.out (blk_lt HX7.out))
      refine hK.out _ _ (HS4.out _ HF3.out) (fun hHeld => ?_)
      clear hK K
      try simp only [List.getElem_toArray, List.getElem_cons_succ, List.getElem_cons_zero, Act.put, List.setIfInBounds_toArray, List.set_cons_zero, List.set_cons_succ]
      refine OrdF.one (i := 4) rfl (by kernel_rfl) (fun K hK => ?_)
      try simp only [List.getElem_toArray, List.getElem_cons_succ, List.getElem_cons_zero, Act.put, List.setIfInBounds_toArray, List.set_cons_zero, List.set_cons_succ]
      go_simp
      (go_at_call 45; (with_reducible refine (HF.out _ _ _ HF3.out HO3.out).mono ?_); rintro e' w4 ⟨Ap4, cp4, Ag4, cg4, Df4, cf4, vs4, rfl, hbest4, hf4, hb4⟩; have HBe4 := hid hbest4; have HF4 := hid hf4; have HB4 := hid hb4; have HO4 := hid (own_below HO3.out hb4); clear hf4 hb4)
      try go_wp2_with fail
      have HX4 := hid (box_below HX3.out HB4.out (blk_lt HX3.out))
      refine hK.out _ _ (HS4.out _ HF4.out) (fun hHeld => ?_)
      clear hK K
      try simp only [List.getElem_toArray, List.getElem_cons_succ, List.getElem_cons_zero, Act.put, List.setIfInBounds_toArray, List.set_cons_zero, List.set_cons_succ]
      refine OrdF.take (i := 5) (v := ?_) rfl (by kernel_rfl) (fun _ _ _ h => h) (by rfl) ?_ (by assumption) ?_
      (rotate_left; focus (intro w' hSw; (try dsimp only at hSw); go_simp; (try with_reducible rfl)))
      try simp only [List.getElem_toArray, List.getElem_cons_succ, List.getElem_cons_zero, Act.put, List.setIfInBounds_toArray, List.set_cons_zero, List.set_cons_succ]
      refine OrdF.take (i := 6) (v := ?_) rfl (by kernel_rfl) (fun _ _ _ h => h) (by rfl) ?_ (by assumption) ?_
      (rotate_left; focus (intro w' hSw; (try dsimp only at hSw); go_simp; (try with_reducible rfl)))
      try simp only [List.getElem_toArray, List.getElem_cons_succ, List.getElem_cons_zero, Act.put, List.setIfInBounds_toArray, List.set_cons_zero, List.set_cons_succ]
      refine OrdF.take (i := 7) (v := ?_) rfl (by kernel_rfl) (fun _ _ _ h => h) (by rfl) ?_ (by assumption) ?_
      (rotate_left; focus (intro w' hSw; (try dsimp only at hSw); go_simp; (try with_reducible rfl)))
      try simp only [List.getElem_toArray, List.getElem_cons_succ, List.getElem_cons_zero, Act.put, List.setIfInBounds_toArray, List.set_cons_zero, List.set_cons_succ]
      obtain ⟨b0, b1, b2, b3, b4, b5, bf⟩ := box6_cells HX4.out
      have bf0 := bf 0
      have bf1 := bf 1
      have bf2 := bf 2
      have bf3 := bf 3
      have bf4 := bf 4
      have bf5 := bf 5
      clear bf
      refine OrdF.one (i := 9) rfl (by kernel_rfl) (fun K hK => ?_)
      try simp only [List.getElem_toArray, List.getElem_cons_succ, List.getElem_cons_zero]
      go_simp
      have HXe := hid (box6_put (y0 := (.int .i64 (N : Int))) (y1 := (.slice A3 l.length c3)) (y2 := (.slice Ap4 (kk + 2) cp4)) (y3 := (.slice Ag4 l.length cg4)) (y4 := (.slice Df4 (kk + 1) cf4)) (y5 := (.int .i64 (costS (N : Int) l x dn).1)) HX4.out)
      have HFe := hid (FnB.put6 (y0 := (.int .i64 (N : Int))) (y1 := (.slice A3 l.length c3)) (y2 := (.slice Ap4 (kk + 2) cp4)) (y3 := (.slice Ag4 l.length cg4)) (y4 := (.slice Df4 (kk + 1) cf4)) (y5 := (.int .i64 (costS (N : Int) l x dn).1)) (B := wq.heap.size) HF4.out HL.out)
      have HOe := hid (own_but HO4.out (but_put6 (y0 := (.int .i64 (N : Int))) (y1 := (.slice A3 l.length c3)) (y2 := (.slice Ap4 (kk + 2) cp4)) (y3 := (.slice Ag4 l.length cg4)) (y4 := (.slice Df4 (kk + 1) cf4)) (y5 := (.int .i64 (costS (N : Int) l x dn).1))) HX4.out (by decide))
      have HBf := hid (HBe4.out.but (but_put6 (y0 := (.int .i64 (N : Int))) (y1 := (.slice A3 l.length c3)) (y2 := (.slice Ap4 (kk + 2) cp4)) (y3 := (.slice Ag4 l.length cg4)) (y4 := (.slice Df4 (kk + 1) cf4)) (y5 := (.int .i64 (costS (N : Int) l x dn).1))) HX4.out)
      refine hK.out _ _ (HS4.out _ HFe.out) (fun hHeld => ?_)
      clear hK K
      try simp only [List.getElem_toArray, List.getElem_cons_succ, List.getElem_cons_zero, Act.put, List.setIfInBounds_toArray, List.set_cons_zero, List.set_cons_succ]
      refine OrdF.last (n := 10) rfl (by kernel_rfl) (fun K hK => ?_)
      try simp only [List.getElem_toArray, List.getElem_cons_succ, List.getElem_cons_zero, Act.put]
      go_simp
      refine hK.out _ _ ?_
      clear hK K
      try simp only [List.getElem_toArray, List.getElem_cons_succ, List.getElem_cons_zero, Act.put, List.setIfInBounds_toArray, List.set_cons_zero, List.set_cons_succ]
      go_wp2_with fail
      go_meet
      exact ⟨_, _, _, _, _, _, _, _, _, rfl, rfl, HXe.out, HFe.out, HOe.out, _, HBf.out⟩
  case rest =>
    obtain ⟨B, A3, c3, Ap, cp, Ag, cg, Df, cf, rfl, rfl, hx, hf, ho, vs, hbest⟩ := hcut
    rename World => w9
    obtain ⟨b0, b1, b2, b3, b4, b5, -⟩ := box6_cells hx
    have hfa := hf.al (o := .map #[] 0)
    obtain ⟨r0, r1, r2, r3, r4, r5, r6, r7⟩ := box8_cells hfa.x1
    have rfz := fun j => frozen_of_row (j := j) _ _ _ _ hfa.x1
    have f0 := rfz 0
    have f1 := rfz 1
    have f2 := rfz 2
    have f3 := rfz 3
    have f4 := rfz 4
    have f5 := rfz 5
    have f6 := rfz 6
    have f7 := rfz 7
    clear rfz
    have HF := hid hf
    have HO := hid ho
    have HBe := hid hbest
    clear hf ho hbest hx hfa
    go_wp2_with fail
    have hg' := box8_put (y0 := .pointer (some tp)) (y1 := .int .i64 (N : Int)) (y2 := .slice A3 l.length c3) (y3 := .slice Ap (kk + 2) cp) (y4 := .slice Ag l.length cg) (y5 := .slice Df (kk + 1) cf) (y6 := .int .i64 (costS (N : Int) l x dn).1) (y7 := .map (some w9.heap.size)) (alloc_at (o := .map #[] 0) HF.out.x1)
    have hR := blk_lt HF.out.x1
    obtain ⟨R, hRe⟩ : ∃ R, w.heap.size + 1 = R := ⟨_, rfl⟩
    have hx1 := HF.out.x1
    rw [hRe] at hg' hR hx1 ⊢
    have hmd := made8 (o := .map #[] 0) (y0 := .pointer (some tp)) (y1 := .int .i64 (N : Int)) (y2 := .slice A3 l.length c3) (y3 := .slice Ap (kk + 2) cp) (y4 := .slice Ag l.length cg) (y5 := .slice Df (kk + 1) cf) (y6 := .int .i64 (costS (N : Int) l x dn).1) (y7 := .map (some w9.heap.size)) hx1
    have hb0 := below_put8 (y0 := .pointer (some tp)) (y1 := .int .i64 (N : Int)) (y2 := .slice A3 l.length c3) (y3 := .slice Ap (kk + 2) cp) (y4 := .slice Ag l.length cg) (y5 := .slice Df (kk + 1) cf) (y6 := .int .i64 (costS (N : Int) l x dn).1) (y7 := .map (some w9.heap.size)) HF.out.bel (show w.heap.size ≤ R by omega)
    have hb1 := below_put8 (y0 := .pointer (some tp)) (y1 := .int .i64 (N : Int)) (y2 := .slice A3 l.length c3) (y3 := .slice Ap (kk + 2) cp) (y4 := .slice Ag l.length cg) (y5 := .slice Df (kk + 1) cf) (y6 := .int .i64 (costS (N : Int) l x dn).1) (y7 := .map (some w9.heap.size)) (HF.out.bel.alloc HF.out.bel.size (.map #[] 0)) (show w.heap.size ≤ R by omega)
    have bp := but_put8 (w := w9) (B := R) (y0 := .pointer (some tp)) (y1 := .int .i64 (N : Int)) (y2 := .slice A3 l.length c3) (y3 := .slice Ap (kk + 2) cp) (y4 := .slice Ag l.length cg) (y5 := .slice Df (kk + 1) cf) (y6 := .int .i64 (costS (N : Int) l x dn).1) (y7 := .map (some w9.heap.size))
    have bp2 := but_put8 (w := w9.alloc (.map #[] 0)) (B := R) (y0 := .pointer (some tp)) (y1 := .int .i64 (N : Int)) (y2 := .slice A3 l.length c3) (y3 := .slice Ap (kk + 2) cp) (y4 := .slice Ag l.length cg) (y5 := .slice Df (kk + 1) cf) (y6 := .int .i64 (costS (N : Int) l x dn).1) (y7 := .map (some w9.heap.size))
    have hM := (MapOk.made (N := N) (l := l) (x := x) (gn := gn) w9).blk (bp2.block w9.heap.size (by simp) (by omega))
    try simp only [Exit.inBlock, Exit.then]
    refine bodyPost_ret (results_cellrow_tmp (p := 6) (u := 7) (fn := Try.f30) rfl _ _ _ _ _ _ _ rfl hg' Try.underlying82 rfl (by kernel_rfl)) rfl ?_
    exact ⟨A3, c3, Ap, cp, Ag, cg, Df, cf, _, w9.heap.size, rfl, ⟨_, by simp only [sz_set], ⟨(HT.out.on hb0).1, garg_of (own_but HO.out bp hx1 (by decide)) rfl (by omega) hN1.1 hN1.2, ⟨vs, HBe.out.but8 bp hx1⟩, hkk⟩, hmd, hM⟩, hb1, HF.out.bel.size⟩
end Go.Proofs.Ytkemcgbedapkcaa
