/- waymarkref15.points. -/
import Derived.Test.YtabgbhkpeeibaaaOpA
import Derived.Deep.RegionLaw
namespace Go.Proofs.Ytabgbhkpeeibaaa
open Go.RowKit
set_option maxHeartbeats 6400000
set_option maxRecDepth 100000
theorem step_append_opt {P : Program} {w : World} {ops : Array Oper} {o : Oper} {a : Act} {K : Act → World → Prop} {Q : Exit → Act → World → Prop} {E : Prop} (hgd : o.guard = none) (s x : Operand) (t : TypeId)
    (ho : o.op = .call { callee := .builtin .append, args := #[s, x], argTypes := #[t, t] })
    (base : Nat) (e : TypeId) (i : TypeInfo) (z : Value) (size bytes : Nat) (ht : P.underlying t = some (.slice e)) (hi : P.info? e = some i) (hz : i.zero = some z)
    (hsize : i.size = size) (hby : i.bytes = bytes) (hzs : z.cells.size = size) (hsz : 0 < size)
    (B : Option Addr) (cb : Nat) (n : Nat) (xs : List Value) (hs : a.eval s = .slice B n cb) (hown : w.ownsRow base e size (.slice B n cb) n xs)
    (A : Option Addr) (m c : Nat) (news : List Value) (hx : a.eval x = .slice A m c) (hA : A = none → m = 0 ∧ c = 0) (hl : news.length = m * size) (hnews : ∀ ad, A = some ad → ∀ j u, news[j]? = some u → w.cell? (ad.add j) = some u) (h1 : ∀ u ∈ news, u.oneCell' = true)
    (h63 : n + m ≤ maxLen) (hbytes : (n + m) * bytes ≤ 140737488355328) (hbase : base ≤ w.heap.size)
    (h : ∀ D c1 w', w'.ownsRow base e size (.slice D (n + m) c1) (n + m) (xs ++ news) → w.grownBy w' (Value.slice B n cb).ownBlock → K (a.put o.dst (.slice D (n + m) c1)) w') :
    if Region.wanted o (yielded ops a.tmps) = true then Oper.wp P o a w K Q else E := by
  cases A with
  | none =>
    obtain ⟨rfl, rfl⟩ := hA rfl
    have hn0 : news = [] := List.length_eq_zero_iff.1 (by omega)
    subst hn0
    have hw : Region.wanted o (yielded ops a.tmps) = true := by simp [Region.wanted, hgd]
    rw [if_pos hw]
    have hrun := run_append_owned_none (P := P) (w := w) base t o.type e i size ht hi (.slice B n cb) n xs hown
    unfold Oper.wp
    simp [execOp, ho, resolve, invoke, builtin, hs, hx, hrun, Result.andThen]
    exact h B cb w (by simpa using hown) (World.grownBy.refl _ _)
  | some ad =>
    exact step_append_some hgd s x t ho base e i z size bytes ht hi hz hsize hby hzs hsz _ n xs hs hown ad m c news hx hl (hnews ad rfl) h1 h63 hbytes hbase h
theorem ints_src {w : World} {B n : Nat} {A : Option Addr} {l : List Int} (h : RInt w B A n l) : ∀ ad, A = some ad → ∀ (j : Nat) (u : Value), (icells l)[j]? = some u → w.cell? (ad.add j) = some u := by
  intro ad hA j u hu
  have hj : j < (icells l).length := (List.getElem?_eq_some_iff.1 hu).1
  rw [icells_len, h.1] at hj
  obtain ⟨b, off, h1, _, hc⟩ := h.2 (by omega)
  rw [h1] at hA
  simp only [Option.some.injEq] at hA
  subst hA
  rw [Go.WideShapes.add_plain]
  simp only [icells, List.getElem?_map, Option.map_eq_some_iff] at hu
  obtain ⟨x, hx, rfl⟩ := hu
  exact hc j x hx
theorem own_new1 (W : World) (x : Int) (base : Nat) (hb : base ≤ W.heap.size) : (W.alloc (.cells #[.int .i64 x] 3)).ownsRow base 3 1 (.slice (some ⟨W.heap.size, 0, none⟩) 1 1) 1 (icells [x]) :=
  ⟨rfl, .inr ⟨W.heap.size, 1, #[.int .i64 x], rfl, hb, heap_alloc_new W _, Nat.le_refl _, by decide, rfl, rfl⟩⟩
theorem int_info : (Try.prog.info? 3).map (fun i => (i.zero, i.size, i.bytes)) = some (some (.int .i64 0), 1, 8) := by kernel_rfl
theorem one_src {w4 : World} {b : Nat} {x : Int} (h : w4.heap[b]? = some (.cells #[.int .i64 x] 3 (0, 0))) : ∀ ad, some (⟨b, 0, none⟩ : Addr) = some ad → ∀ (j : Nat) (u : Value), (icells [x])[j]? = some u → w4.cell? (ad.add j) = some u := by
  intro ad had j u hj
  cases had
  rw [Go.WideShapes.add_plain, cell_of_row _ _ _ _ _ _ h]
  simpa [icells] using hj
theorem pts_end {x : Wnt} {n c5 : Nat} {w w5 : World} {D5 : Option Addr} (hl : x.via.length = n) (ho : w5.ownsRow (w.heap.size + 1) 3 1 (.slice D5 (1 + n + 1) c5) (1 + n + 1) (icells [x.frm] ++ icells x.via ++ icells [x.too])) (hb : Below w.heap.size w w5) :
    IntAns (ptsS x) w (.returned (.slice D5 (1 + n + 1) c5)) w5 := by
  have e1 : icells [x.frm] ++ icells x.via ++ icells [x.too] = icells (ptsS x) := by unfold ptsS; simp [icells]
  have e2 : (ptsS x).length = 1 + n + 1 := by rw [ptsS_len]; omega
  rw [e1] at ho
  refine ⟨_, rfl, ?_, hb⟩
  rw [e2]
  exact own_mono ho (by omega)
theorem points_any (x : Wnt) (y : WSl) (w : World) (hw : WArg w x y) (hv : y.nv ≤ 1000) :
    Calls Try.prog 27 #[.agg #[.int .i64 x.frm, .int .i64 x.too, .int .i64 x.bnd, .slice y.av y.nv y.cv, .slice y.an y.nn y.cn, .slice y.al y.nl y.cl, .slice y.ac y.nc y.cc]] w (IntAns (ptsS x) w) := by
  obtain ⟨i5, Ai0, Az00, Az10, Az20⟩ := info_parts int_info
  have Ai := hid Ai0
  have Az0 := hid Az00
  have Az1 := hid Az10
  have Az2 := hid Az20
  clear Ai0 Az00 Az10 Az20
  have hb0 : Below w.heap.size w (w.alloc (.cells #[.int .i64 x.frm, .int .i64 x.too, .int .i64 x.bnd, .slice y.av y.nv y.cv, .slice y.an y.nn y.cn, .slice y.al y.nl y.cl, .slice y.ac y.nc y.cc] 27)) := (Below.refl _ w).alloc (Nat.le_refl _) _
  have hnon := hw.via.non
  have hlen := hid hw.via.row.1
  have eD : (w.alloc (.cells #[.int .i64 x.frm, .int .i64 x.too, .int .i64 x.bnd, .slice y.av y.nv y.cv, .slice y.an y.nn y.cn, .slice y.al y.nl y.cl, .slice y.ac y.nc y.cc] 27)).drew.heap.size = w.heap.size + 1 := by simp
  have eF : ((w.alloc (.cells #[.int .i64 x.frm, .int .i64 x.too, .int .i64 x.bnd, .slice y.av y.nv y.cv, .slice y.an y.nn y.cn, .slice y.al y.nl y.cl, .slice y.ac y.nc y.cc] 27)).drew.alloc (.cells #[.int .i64 x.frm] 3)).heap.size = w.heap.size + 2 := by simp
  have eT : ((w.alloc (.cells #[.int .i64 x.frm, .int .i64 x.too, .int .i64 x.bnd, .slice y.av y.nv y.cv, .slice y.an y.nn y.cn, .slice y.al y.nl y.cl, .slice y.ac y.nc y.cc] 27)).drew.alloc (.cells #[.int .i64 x.too] 3)).heap.size = w.heap.size + 2 := by simp
  have X0 : (w.alloc (.cells #[.int .i64 x.frm, .int .i64 x.too, .int .i64 x.bnd, .slice y.av y.nv y.cv, .slice y.an y.nn y.cn, .slice y.al y.nl y.cl, .slice y.ac y.nc y.cc] 27)).drew.heap[w.heap.size]? = some (.cells #[.int .i64 x.frm, .int .i64 x.too, .int .i64 x.bnd, .slice y.av y.nv y.cv, .slice y.an y.nn y.cn, .slice y.al y.nl y.cl, .slice y.ac y.nc y.cc] 27 (0, 0)) := heap_alloc_new w _
  have X1 := hid ((Below.heap_alloc (w.alloc (.cells #[.int .i64 x.frm, .int .i64 x.too, .int .i64 x.bnd, .slice y.av y.nv y.cv, .slice y.an y.nn y.cn, .slice y.al y.nl y.cl, .slice y.ac y.nc y.cc] 27)).drew (.cells #[.int .i64 x.frm] 3) w.heap.size (by simp)).trans X0)
  have X2 := hid ((Below.heap_alloc ((w.alloc (.cells #[.int .i64 x.frm, .int .i64 x.too, .int .i64 x.bnd, .slice y.av y.nv y.cv, .slice y.an y.nn y.cn, .slice y.al y.nl y.cl, .slice y.ac y.nc y.cc] 27)).drew.alloc (.cells #[.int .i64 x.frm] 3)) (.cells #[.int .i64 x.too] 3) w.heap.size (by simp; omega)).trans X1.out)
  have X3 := hid ((Below.heap_alloc ((w.alloc (.cells #[.int .i64 x.frm, .int .i64 x.too, .int .i64 x.bnd, .slice y.av y.nv y.cv, .slice y.an y.nn y.cn, .slice y.al y.nl y.cl, .slice y.ac y.nc y.cc] 27)).drew.alloc (.cells #[.int .i64 x.too] 3)) (.cells #[.int .i64 x.frm] 3) w.heap.size (by simp; omega)).trans ((Below.heap_alloc (w.alloc (.cells #[.int .i64 x.frm, .int .i64 x.too, .int .i64 x.bnd, .slice y.av y.nv y.cv, .slice y.an y.nn y.cn, .slice y.al y.nl y.cl, .slice y.ac y.nc y.cc] 27)).drew (.cells #[.int .i64 x.too] 3) w.heap.size (by simp)).trans X0))
  have O1 : Hid (((w.alloc (.cells #[.int .i64 x.frm, .int .i64 x.too, .int .i64 x.bnd, .slice y.av y.nv y.cv, .slice y.an y.nn y.cn, .slice y.al y.nl y.cl, .slice y.ac y.nc y.cc] 27)).drew.alloc (.cells #[.int .i64 x.frm] 3)).ownsRow (w.heap.size + 1) 3 1 (.slice (some ⟨w.heap.size + 1, 0, none⟩) 1 1) 1 (icells [x.frm])) := by
    have := own_new1 (w.alloc (.cells #[.int .i64 x.frm, .int .i64 x.too, .int .i64 x.bnd, .slice y.av y.nv y.cv, .slice y.an y.nn y.cn, .slice y.al y.nl y.cl, .slice y.ac y.nc y.cc] 27)).drew x.frm (w.heap.size + 1) (by simp)
    rw [eD] at this
    exact this
  have O2 := hid (O1.out.alloc (.cells #[.int .i64 x.too] 3))
  have O3 : Hid ((((w.alloc (.cells #[.int .i64 x.frm, .int .i64 x.too, .int .i64 x.bnd, .slice y.av y.nv y.cv, .slice y.an y.nn y.cn, .slice y.al y.nl y.cl, .slice y.ac y.nc y.cc] 27)).drew.alloc (.cells #[.int .i64 x.too] 3)).alloc (.cells #[.int .i64 x.frm] 3)).ownsRow (w.heap.size + 1) 3 1 (.slice (some ⟨w.heap.size + 2, 0, none⟩) 1 1) 1 (icells [x.frm])) := by
    have := own_new1 ((w.alloc (.cells #[.int .i64 x.frm, .int .i64 x.too, .int .i64 x.bnd, .slice y.av y.nv y.cv, .slice y.an y.nn y.cn, .slice y.al y.nl y.cl, .slice y.ac y.nc y.cc] 27)).drew.alloc (.cells #[.int .i64 x.too] 3)) x.frm (w.heap.size + 1) (by simp)
    rw [eT] at this
    exact this
  have HB1 : Hid (Below w.heap.size w ((w.alloc (.cells #[.int .i64 x.frm, .int .i64 x.too, .int .i64 x.bnd, .slice y.av y.nv y.cv, .slice y.an y.nn y.cn, .slice y.al y.nl y.cl, .slice y.ac y.nc y.cc] 27)).drew.alloc (.cells #[.int .i64 x.frm] 3))) := hb0.drew.alloc (by simp) _
  have HB2 : Hid (Below w.heap.size w (((w.alloc (.cells #[.int .i64 x.frm, .int .i64 x.too, .int .i64 x.bnd, .slice y.av y.nv y.cv, .slice y.an y.nn y.cn, .slice y.al y.nl y.cl, .slice y.ac y.nc y.cc] 27)).drew.alloc (.cells #[.int .i64 x.frm] 3)).alloc (.cells #[.int .i64 x.too] 3))) := HB1.out.alloc (by simp; omega) _
  have HB3 : Hid (Below w.heap.size w (((w.alloc (.cells #[.int .i64 x.frm, .int .i64 x.too, .int .i64 x.bnd, .slice y.av y.nv y.cv, .slice y.an y.nn y.cn, .slice y.al y.nl y.cl, .slice y.ac y.nc y.cc] 27)).drew.alloc (.cells #[.int .i64 x.too] 3)).alloc (.cells #[.int .i64 x.frm] 3))) := (hb0.drew.alloc (by simp) _).alloc (by simp; omega) _
  have R1 := hid (hw.via.on HB1.out).row
  have R2 := hid (hw.via.on HB2.out).row
  have R3 := hid (hw.via.on HB3.out).row
  have T2 : Hid ((((w.alloc (.cells #[.int .i64 x.frm, .int .i64 x.too, .int .i64 x.bnd, .slice y.av y.nv y.cv, .slice y.an y.nn y.cn, .slice y.al y.nl y.cl, .slice y.ac y.nc y.cc] 27)).drew.alloc (.cells #[.int .i64 x.frm] 3)).alloc (.cells #[.int .i64 x.too] 3)).heap[w.heap.size + 2]? = some (.cells #[.int .i64 x.too] 3 (0, 0))) := by
    have := heap_alloc_new ((w.alloc (.cells #[.int .i64 x.frm, .int .i64 x.too, .int .i64 x.bnd, .slice y.av y.nv y.cv, .slice y.an y.nn y.cn, .slice y.al y.nl y.cl, .slice y.ac y.nc y.cc] 27)).drew.alloc (.cells #[.int .i64 x.frm] 3)) (.cells #[.int .i64 x.too] 3)
    rw [eF] at this
    exact this
  have T3 : Hid ((((w.alloc (.cells #[.int .i64 x.frm, .int .i64 x.too, .int .i64 x.bnd, .slice y.av y.nv y.cv, .slice y.an y.nn y.cn, .slice y.al y.nl y.cl, .slice y.ac y.nc y.cc] 27)).drew.alloc (.cells #[.int .i64 x.too] 3)).alloc (.cells #[.int .i64 x.frm] 3)).heap[w.heap.size + 1]? = some (.cells #[.int .i64 x.too] 3 (0, 0))) := by
    have h1 := heap_alloc_new (w.alloc (.cells #[.int .i64 x.frm, .int .i64 x.too, .int .i64 x.bnd, .slice y.av y.nv y.cv, .slice y.an y.nn y.cn, .slice y.al y.nl y.cl, .slice y.ac y.nc y.cc] 27)).drew (.cells #[.int .i64 x.too] 3)
    have h2 := Below.heap_alloc ((w.alloc (.cells #[.int .i64 x.frm, .int .i64 x.too, .int .i64 x.bnd, .slice y.av y.nv y.cv, .slice y.an y.nn y.cn, .slice y.al y.nl y.cl, .slice y.ac y.nc y.cc] 27)).drew.alloc (.cells #[.int .i64 x.too] 3)) (.cells #[.int .i64 x.frm] 3) (w.heap.size + 1) (by simp)
    rw [eD] at h1
    exact h2.trans h1
  clear hw hb0 eD eF eT X0
  go_enter Try.func27, Try.ntmps27
  go_wp2_with fail
  go_region_law (first
    | (refine step_append_opt (by rfl) (.tmp 5) (.tmp 7) 25 (by rfl) (w.heap.size + 1) 3 i5 (.int .i64 0) 1 8 Try.underlying25 Ai.out Az0.out Az1.out Az2.out rfl (by decide) _ _ 1 (icells [x.frm]) (by rfl) O1.out y.av y.nv y.cv (icells x.via) (by rfl) hnon (by rw [icells_len, hlen.out]; omega) (ints_src R1.out) (icells_one _) (by unfold maxLen; omega) (by omega) (by simp; try omega) ?_; intro D4 c4 w4 hown4 hg4; have hx4 := (hg4.block w.heap.size (by simp; try omega) (by simp [Value.ownBlock])).trans X1.out; have HB4 := hid (HB1.out.grown hg4 (by have := HB1.out.size; simp at this ⊢; try omega) (fun q hq => Nat.le_trans (Nat.le_succ _) (O1.out.lt q hq).1)); have s4 : w4.cell? ⟨w.heap.size, 1, none⟩ = some (.int .i64 x.too) := (cell_of_row _ _ _ _ _ _ hx4); have HO4 := hid hown4; have HG4 := hid hg4; clear hown4 hg4)
    | (refine step_append_opt (by rfl) (.tmp 5) (.tmp 7) 25 (by rfl) (w.heap.size + 1) 3 i5 (.int .i64 0) 1 8 Try.underlying25 Ai.out Az0.out Az1.out Az2.out rfl (by decide) _ _ 1 (icells [x.frm]) (by rfl) O2.out y.av y.nv y.cv (icells x.via) (by rfl) hnon (by rw [icells_len, hlen.out]; omega) (ints_src R2.out) (icells_one _) (by unfold maxLen; omega) (by omega) (by simp; try omega) ?_; intro D4 c4 w4 hown4 hg4; have hx4 := (hg4.block w.heap.size (by simp; try omega) (by simp [Value.ownBlock])).trans X2.out; have HB4 := hid (HB2.out.grown hg4 (by have := HB2.out.size; simp at this ⊢; try omega) (fun q hq => Nat.le_trans (Nat.le_succ _) (O2.out.lt q hq).1)); have s4 : w4.cell? ⟨w.heap.size, 1, none⟩ = some (.int .i64 x.too) := (cell_of_row _ _ _ _ _ _ hx4); have HO4 := hid hown4; have HG4 := hid hg4; clear hown4 hg4)
    | (refine step_append_opt (by rfl) (.tmp 5) (.tmp 7) 25 (by rfl) (w.heap.size + 1) 3 i5 (.int .i64 0) 1 8 Try.underlying25 Ai.out Az0.out Az1.out Az2.out rfl (by decide) _ _ 1 (icells [x.frm]) (by rfl) O3.out y.av y.nv y.cv (icells x.via) (by rfl) hnon (by rw [icells_len, hlen.out]; omega) (ints_src R3.out) (icells_one _) (by unfold maxLen; omega) (by omega) (by simp; try omega) ?_; intro D4 c4 w4 hown4 hg4; have hx4 := (hg4.block w.heap.size (by simp; try omega) (by simp [Value.ownBlock])).trans X3.out; have HB4 := hid (HB3.out.grown hg4 (by have := HB3.out.size; simp at this ⊢; try omega) (fun q hq => Nat.le_trans (Nat.le_succ _) (O3.out.lt q hq).1)); have s4 : w4.cell? ⟨w.heap.size, 1, none⟩ = some (.int .i64 x.too) := (cell_of_row _ _ _ _ _ _ hx4); have HO4 := hid hown4; have HG4 := hid hg4; clear hown4 hg4)
    | (refine step_append_opt (by rfl) (.tmp 8) (.tmp 11) 25 (by rfl) (w.heap.size + 1) 3 i5 (.int .i64 0) 1 8 Try.underlying25 Ai.out Az0.out Az1.out Az2.out rfl (by decide) _ _ _ _ (by rfl) (HO4.out.alloc _) (some ⟨w4.heap.size, 0, none⟩) 1 1 (icells [x.too]) (by rfl) (fun h => by cases h) (by rfl) (one_src (heap_alloc_new w4 _)) (icells_one _) (by unfold maxLen; omega) (by omega) (by have := HG4.out.size; simp at this ⊢; omega) ?_; intro D5 c5 w5 hown5 hg5; have HO5 := hid hown5; have HB5 := hid ((HB4.out.alloc HB4.out.size _).grown hg5 (by have := HB4.out.size; simp at this ⊢; omega) (fun q hq => Nat.le_trans (Nat.le_succ _) (HO4.out.lt q hq).1)); clear hown5 hg5)
    | (refine step_append_opt (by rfl) (.tmp 8) (.tmp 11) 25 (by rfl) (w.heap.size + 1) 3 i5 (.int .i64 0) 1 8 Try.underlying25 Ai.out Az0.out Az1.out Az2.out rfl (by decide) _ _ _ _ (by rfl) HO4.out (some ⟨w.heap.size + 2, 0, none⟩) 1 1 (icells [x.too]) (by rfl) (fun h => by cases h) (by rfl) (one_src ((HG4.out.block (w.heap.size + 2) (by simp) (by simp [Value.ownBlock])).trans T2.out)) (icells_one _) (by unfold maxLen; omega) (by omega) (by have := HG4.out.size; simp at this ⊢; omega) ?_; intro D5 c5 w5 hown5 hg5; have HO5 := hid hown5; have HB5 := hid (HB4.out.grown hg5 HB4.out.size (fun q hq => Nat.le_trans (Nat.le_succ _) (HO4.out.lt q hq).1)); clear hown5 hg5)
    | (refine step_append_opt (by rfl) (.tmp 8) (.tmp 11) 25 (by rfl) (w.heap.size + 1) 3 i5 (.int .i64 0) 1 8 Try.underlying25 Ai.out Az0.out Az1.out Az2.out rfl (by decide) _ _ _ _ (by rfl) HO4.out (some ⟨w.heap.size + 1, 0, none⟩) 1 1 (icells [x.too]) (by rfl) (fun h => by cases h) (by rfl) (one_src ((HG4.out.block (w.heap.size + 1) (by simp) (by simp [Value.ownBlock])).trans T3.out)) (icells_one _) (by unfold maxLen; omega) (by omega) (by have := HG4.out.size; simp at this ⊢; omega) ?_; intro D5 c5 w5 hown5 hg5; have HO5 := hid hown5; have HB5 := hid (HB4.out.grown hg5 HB4.out.size (fun q hq => Nat.le_trans (Nat.le_succ _) (HO4.out.lt q hq).1)); clear hown5 hg5))
  all_goals
    go_wp2_with fail
    go_ret
    exact pts_end hlen.out HO5.out HB5.out
end Go.Proofs.Ytabgbhkpeeibaaa
