/- PruneMore: a want with one more of each. -/
import Derived.Test.YtljgoffolbplfaaPrF
import Derived.Test.YtljgoffolbplfaaWdC
namespace Go.Proofs.Ytljgoffolbplfaa
open Go.RowKit
set_option maxHeartbeats 6400000
set_option maxRecDepth 100000
theorem ints_src {w : World} {B n : Nat} {A : Option Addr} {l : List Int} (h : RInt w B A n l) : ∀ ad, A = some ad → ∀ (j : Nat) (u : Value), (icells l)[j]? = some u → w.cell? (ad.add j) = some u := by
  intro ad hA j u hu
  have hj : j < (icells l).length := (List.getElem?_eq_some_iff.1 hu).1
  rw [icells_len, h.1] at hj
  obtain ⟨b, off, h1, _, hc⟩ := h.2 (by omega)
  rw [h1] at hA
  simp only [Option.some.injEq] at hA
  subst hA
  rw [Go.WideShapes.add_plain]
  simp only [icells, List.getElem?_map, Option.map_eq_some_iff] at hu
  obtain ⟨x, hx, rfl⟩ := hu
  exact hc j x hx
theorem own_larg {w : World} {base m c : Nat} {A : Option Addr} {l : List Int} (h : w.ownsRow base 3 1 (.slice A m c) m (icells l)) (hl : l.length = m) (hm : m ≤ 1000) (hs : ∀ x ∈ l, -9223372036854775808 ≤ x ∧ x ≤ 9223372036854775807) : LArg w A m c l := by
  refine ⟨own_ri h hl, ?_, ?_, by unfold maxLen; omega, hs⟩
  · rcases h.2 with ⟨h1, h2⟩ | ⟨g, cap, cur, h1, _, _, h2, _⟩
    · omega
    · simp only [Value.slice.injEq] at h1; omega
  · intro hA
    subst hA
    rcases h.2 with ⟨h1, h2⟩ | ⟨g, cap, cur, h1, _⟩
    · simp only [Value.slice.injEq] at h1; exact ⟨h2, h1.2.2⟩
    · simp at h1
/-- The want with one more of each. -/
abbrev moreW (x : Wnt) (node link col : Int) : Wnt := ⟨x.frm, x.too, x.bnd, x.via, x.nds ++ [node], x.lks ++ [link], x.cls ++ [col]⟩
theorem cut_more (l : List Lnk) (x : Wnt) (dn : List Bool) (node link col : Int) (i : Nat) :
    cutB l (moreW x node link col) dn i = (cutB l x dn i || decide ((i : Int) = link) || decide ((l.getD i default).c = col) || decide ((l.getD i default).a = node) || decide ((l.getD i default).b = node)) := by
  unfold cutB moreW
  generalize l.getD i default = g
  rw [Bool.eq_iff_iff]
  simp only [ Bool.or_eq_true, decide_eq_true_eq, List.mem_append, List.mem_singleton]
  constructor
  · rintro (((( h | h | h) | h | h) | h | h) | h | h) <;> simp [h]
  · rintro ((((((((h | h) | h) | h) | h) | h) | h) | h) | h) <;> simp [h]
theorem push_facts {w u u4 u5 : World} {nd : Int} {A : Option Addr} {n c Bm base k : Nat} {x : Wnt} {y : WSl} {X o : Obj} {v : Value} {xs : List Value} (hu : Held2 w nd A n c x y u) (hX : u.heap[Bm]? = some X) (hb : base = u.heap.size)
    (hb4 : Below u.heap.size u u4) (hown : u4.ownsRow base 3 1 v k xs) (hg : (u4.alloc o).grownBy u5 v.ownBlock) : Held2 w nd A n c x y u5 ∧ u5.heap[Bm]? = some X ∧ Below u.heap.size u u5 := by
  have b5 := below_app (w1 := u) hb4 (by omega) hown hg
  exact ⟨hu.next b5, box_below hX b5 (blk_lt hX), b5⟩
theorem own_keep {u u4 u5 : World} {b e sz nn base k : Nat} {o : Obj} {v v4 : Value} {xs ys : List Value} (h : u.ownsRow b e sz v nn xs) (hb4 : Below u.heap.size u u4) (hbase : base = u.heap.size) (hown : u4.ownsRow base 3 1 v4 k ys) (hg : (u4.alloc o).grownBy u5 v4.ownBlock) : u5.ownsRow b e sz v nn xs := by
  refine ((own_below h hb4).alloc o).kept hg ?_
  cases hv : v.ownBlock with
  | none => exact .inl rfl
  | some k1 =>
    right
    intro he
    have l1 := (h.lt k1 hv).2
    have l2 := (hown.lt k1 he.symm).1
    omega
theorem mcells {w : World} {B : Nat} {a b c d e f g : Value} {T : TypeId} (h : w.heap[B]? = some (.cells #[a, b, c, d, e, f, g] T (0, 0))) :
    w.cell? ⟨B, 0, none⟩ = some a ∧ w.cell? ⟨B, 1, none⟩ = some b ∧ w.cell? ⟨B, 2, none⟩ = some c ∧ w.cell? ⟨B, 3, none⟩ = some d ∧ w.cell? ⟨B, 4, none⟩ = some e ∧ w.cell? ⟨B, 5, none⟩ = some f ∧ w.cell? ⟨B, 6, none⟩ = some g := by
  refine ⟨?_, ?_, ?_, ?_, ?_, ?_, ?_⟩ <;> (rw [cell_of_row _ _ _ _ _ _ h]; rfl)
theorem more_test (nd : Int) (A : Option Addr) (n c : Nat) (l : List Lnk) (x : Wnt) (y : WSl) (Ad : Option Addr) (n' c' : Nat) (dn : List Bool) (node link col : Int) (w : World) (hR : RightSpec 35) (hD : DownSpec 38) (hg : GArg w nd A n c l) (hw : WArg w x y) (hd : DArg w Ad n' c' dn) (hf : fewB y = true) (hr0 : rightS nd l x = 0) (hv1 : -9223372036854775808 ≤ node ∧ node ≤ 9223372036854775807) (hv2 : -9223372036854775808 ≤ link ∧ link ≤ 9223372036854775807) (hv3 : -9223372036854775808 ≤ col ∧ col ≤ 9223372036854775807) :
    Calls Try.prog 13 #[.agg #[.int .i64 nd, .slice A n c], .agg #[.int .i64 x.frm, .int .i64 x.too, .int .i64 x.bnd, .slice y.av y.nv y.cv, .slice y.an y.nn y.cn, .slice y.al y.nl y.cl, .slice y.ac y.nc y.cc], .slice Ad n' c', .int .i64 node, .int .i64 link, .int .i64 col] w fun e w' => e = .returned (.bool true) ∧ Below w.heap.size w w' := by
  have hS := Held2.start w nd A n c x y
  have t1 : decide ((130 : Int) < (n : Int)) = false := by have := hg.len; simp; omega
  have t2 : decide ((200 : Int) < (n' : Int)) = false := by have := hd.len; simp; omega
  have t0 : ((0 : Int) != 0) = false := by decide
  have hl4 : y.nv ≤ 20 ∧ y.nn ≤ 60 ∧ y.nl ≤ 60 ∧ y.nc ≤ 60 := by
    unfold fewB at hf
    simp only [Bool.and_eq_true, decide_eq_true_eq] at hf
    omega
  obtain ⟨z1, z2, z3, z4⟩ := hl4
  have HA := hid (fun (w' : World) (h : Held2 w nd A n c x y w') => h.calls (alive_any hR hD w'))
  have HFw := hid (fun (w' : World) (h : Held2 w nd A n c x y w') => h.calls (few_any x y w'))
  rw [hf] at HFw
  have HRw := hid (fun (w' : World) (h : Held2 w nd A n c x y w') => h.calls (hr0 ▸ refRight_spec nd A n c l x y w' (hg.on h.1) (hw.on h.1) (by omega) (by omega) (by omega) (by omega)))
  obtain ⟨i5, hi, hz0, hz1, hz2⟩ := info_parts (show (Try.prog.info? 3).map (fun i => (i.zero, i.size, i.bytes)) = some (some (.int .i64 0), 1, 8) by kernel_rfl)
  have Ai := hid hi; have Az0 := hid hz0; have Az1 := hid hz1; have Az2 := hid hz2
  clear hi hz0 hz1 hz2
  have HWn := hid (fun (w' : World) (h : Held2 w nd A n c x y w') => (hw.on h.1).nds)
  have HWl := hid (fun (w' : World) (h : Held2 w nd A n c x y w') => (hw.on h.1).lks)
  have HWc := hid (fun (w' : World) (h : Held2 w nd A n c x y w') => (hw.on h.1).cls)
  have HL1 := hid hw.nds.row.1
  have HL2 := hid hw.lks.row.1
  have HL3 := hid hw.cls.row.1
  have HR0 := hid hr0
  clear hf hr0
  go_enter Try.func13, Try.ntmps13
  go_wp2_with (first
    | (go_at_call 32; (with_reducible refine (HA.out _ hS).mono ?_); rintro e' w1 ⟨rfl, h1⟩; obtain ⟨g0, g1⟩ := h1.g; obtain ⟨g2, g3, g4, g5, g6, g7, g8⟩ := h1.v)
    | (go_at_call 33; (with_reducible refine (HFw.out _ h1).mono ?_); rintro e' w2 ⟨rfl, h2⟩; obtain ⟨q0, q1⟩ := h2.g; obtain ⟨q2, q3, q4, q5, q6, q7, q8⟩ := h2.v)
    | (go_at_call 36; (with_reducible refine (HRw.out _ h2).mono ?_); rintro e' w3 ⟨rfl, h3⟩; obtain ⟨r0, r1⟩ := h3.g; obtain ⟨r2, r3, r4, r5, r6, r7, r8⟩ := h3.v; have hlt3 := h3.lt; have hm := h3.next (Below.alloc (Below.refl _ _) (Nat.le_refl _) (.cells #[.int .i64 x.frm, .int .i64 x.too, .int .i64 x.bnd, .slice y.av y.nv y.cv, .slice y.an y.nn y.cn, .slice y.al y.nl y.cl, .slice y.ac y.nc y.cc] 53)); have Xm := hid (heap_alloc_new w3 (.cells #[.int .i64 x.frm, .int .i64 x.too, .int .i64 x.bnd, .slice y.av y.nv y.cv, .slice y.an y.nn y.cn, .slice y.al y.nl y.cl, .slice y.ac y.nc y.cc] 53)); obtain ⟨m0, m1⟩ := hm.g; obtain ⟨m2, m3, m4, m5, m6, m7, m8⟩ := hm.v; have HR1 := hid (HWn.out _ hm))
    | (at_builtin; refine wpList_copy rfl (.const (.slice none 0 0)) (.tmp 47) 35 rfl (w3.heap.size + 1) 3 i5 (.int .i64 0) 1 8 Try.underlying35 Ai.out Az0.out Az1.out Az2.out rfl (by decide) rfl y.an y.nn y.cn (icells x.nds) rfl HR1.out.non (by rw [icells_len, HL1.out]; omega) (ints_src HR1.out.row) (icells_one _) (by unfold maxLen; omega) (by omega) (by simp) ?_; intro vA1 wA1 hownA1 hbA1; have HOA1 := hid hownA1; have HBA1 := hid hbA1; clear hownA1 hbA1)
    | (at_builtin; refine wpList_append_own _ rfl (.tmp 48) (.tmp 50) 35 rfl (w3.heap.size + 1) 3 i5 (.int .i64 0) 1 8 Try.underlying35 Ai.out Az0.out Az1.out Az2.out rfl (by decide) _ _ _ rfl (HOA1.out.alloc _) ⟨wA1.heap.size, 0, none⟩ 1 1 (icells [node]) rfl rfl (new_row (int_row _)) (icells_one _) (by unfold maxLen; omega) (by omega) (by have := HBA1.out.size; simp at this ⊢; omega) ?_; intro vB1 wB1 hownB1 hgB1 _; obtain ⟨AB1, cB1, rfl⟩ := own_shape hownB1; obtain ⟨hH1, hX1, hbB1⟩ := push_facts hm Xm.out (by simp) HBA1.out HOA1.out hgB1; have ce1 : wB1.cell? ⟨w3.heap.size, 4, none⟩ = some (.slice y.an y.nn y.cn) := (by rw [cell_of_row _ _ _ _ _ _ hX1]; rfl); have cf1 := frozen_of_row _ _ 4 _ _ hX1; have hS1 := hH1.set (j := 4) (u := .slice AB1 (y.nn + 1) cB1) hlt3; have XS1 : Hid ((wB1.setCell ⟨w3.heap.size, 4, none⟩ (.slice AB1 (y.nn + 1) cB1)).heap[w3.heap.size]? = some (.cells #[.int .i64 x.frm, .int .i64 x.too, .int .i64 x.bnd, .slice y.av y.nv y.cv, .slice AB1 (y.nn + 1) cB1, .slice y.al y.nl y.cl, .slice y.ac y.nc y.cc] 53 (0, 0))) := heap_setCell_same _ _ 4 _ _ _ hX1; have hz1 : w3.heap.size + 1 ≤ wB1.heap.size := (by have := hbB1.size; simp at this; omega); have OS11 := hid (own_set hownB1 (by show w3.heap.size < _; omega) (a := ⟨w3.heap.size, 4, none⟩) (.slice AB1 (y.nn + 1) cB1)); obtain ⟨v1a, v1b, v1c, v1d, v1e, v1f, v1g⟩ := hS1.v; obtain ⟨v1h, v1i⟩ := hS1.g; have HR2 := hid (HWl.out _ hS1); clear hownB1)
    | (at_builtin; refine wpList_copy rfl (.const (.slice none 0 0)) (.tmp 54) 35 rfl wB1.heap.size 3 i5 (.int .i64 0) 1 8 Try.underlying35 Ai.out Az0.out Az1.out Az2.out rfl (by decide) rfl y.al y.nl y.cl (icells x.lks) rfl HR2.out.non (by rw [icells_len, HL2.out]; omega) (ints_src HR2.out.row) (icells_one _) (by unfold maxLen; omega) (by omega) (by simp) ?_; intro vA2 wA2 hownA2 hbA2; have HOA2 := hid hownA2; have HBA2 := hid hbA2; clear hownA2 hbA2)
    | (at_builtin; refine wpList_append_own _ rfl (.tmp 55) (.tmp 57) 35 rfl wB1.heap.size 3 i5 (.int .i64 0) 1 8 Try.underlying35 Ai.out Az0.out Az1.out Az2.out rfl (by decide) _ _ _ rfl (HOA2.out.alloc _) ⟨wA2.heap.size, 0, none⟩ 1 1 (icells [link]) rfl rfl (new_row (int_row _)) (icells_one _) (by unfold maxLen; omega) (by omega) (by have := HBA2.out.size; simp at this ⊢; omega) ?_; intro vB2 wB2 hownB2 hgB2 _; obtain ⟨AB2, cB2, rfl⟩ := own_shape hownB2; obtain ⟨hH2, hX2, hbB2⟩ := push_facts hS1 XS1.out (by simp) HBA2.out HOA2.out hgB2; have ce2 : wB2.cell? ⟨w3.heap.size, 5, none⟩ = some (.slice y.al y.nl y.cl) := (by rw [cell_of_row _ _ _ _ _ _ hX2]; rfl); have cf2 := frozen_of_row _ _ 5 _ _ hX2; have hS2 := hH2.set (j := 5) (u := .slice AB2 (y.nl + 1) cB2) hlt3; have XS2 : Hid ((wB2.setCell ⟨w3.heap.size, 5, none⟩ (.slice AB2 (y.nl + 1) cB2)).heap[w3.heap.size]? = some (.cells #[.int .i64 x.frm, .int .i64 x.too, .int .i64 x.bnd, .slice y.av y.nv y.cv, .slice AB1 (y.nn + 1) cB1, .slice AB2 (y.nl + 1) cB2, .slice y.ac y.nc y.cc] 53 (0, 0))) := heap_setCell_same _ _ 5 _ _ _ hX2; have hz2 : w3.heap.size + 1 ≤ wB2.heap.size := (by have := hbB2.size; simp at this; omega); have OS12 := hid (own_set (own_keep OS11.out HBA2.out (by simp) HOA2.out hgB2) (by show w3.heap.size < _; omega) (a := ⟨w3.heap.size, 5, none⟩) (.slice AB2 (y.nl + 1) cB2)); have OS22 := hid (own_set hownB2 (by show w3.heap.size < _; omega) (a := ⟨w3.heap.size, 5, none⟩) (.slice AB2 (y.nl + 1) cB2)); obtain ⟨v2a, v2b, v2c, v2d, v2e, v2f, v2g⟩ := hS2.v; obtain ⟨v2h, v2i⟩ := hS2.g; have HR3 := hid (HWc.out _ hS2); clear hownB2)
    | (at_builtin; refine wpList_copy rfl (.const (.slice none 0 0)) (.tmp 61) 35 rfl wB2.heap.size 3 i5 (.int .i64 0) 1 8 Try.underlying35 Ai.out Az0.out Az1.out Az2.out rfl (by decide) rfl y.ac y.nc y.cc (icells x.cls) rfl HR3.out.non (by rw [icells_len, HL3.out]; omega) (ints_src HR3.out.row) (icells_one _) (by unfold maxLen; omega) (by omega) (by simp) ?_; intro vA3 wA3 hownA3 hbA3; have HOA3 := hid hownA3; have HBA3 := hid hbA3; clear hownA3 hbA3)
    | (at_builtin; refine wpList_append_own _ rfl (.tmp 62) (.tmp 64) 35 rfl wB2.heap.size 3 i5 (.int .i64 0) 1 8 Try.underlying35 Ai.out Az0.out Az1.out Az2.out rfl (by decide) _ _ _ rfl (HOA3.out.alloc _) ⟨wA3.heap.size, 0, none⟩ 1 1 (icells [col]) rfl rfl (new_row (int_row _)) (icells_one _) (by unfold maxLen; omega) (by omega) (by have := HBA3.out.size; simp at this ⊢; omega) ?_; intro vB3 wB3 hownB3 hgB3 _; obtain ⟨AB3, cB3, rfl⟩ := own_shape hownB3; obtain ⟨hH3, hX3, hbB3⟩ := push_facts hS2 XS2.out (by simp) HBA3.out HOA3.out hgB3; have ce3 : wB3.cell? ⟨w3.heap.size, 6, none⟩ = some (.slice y.ac y.nc y.cc) := (by rw [cell_of_row _ _ _ _ _ _ hX3]; rfl); have cf3 := frozen_of_row _ _ 6 _ _ hX3; have hS3 := hH3.set (j := 6) (u := .slice AB3 (y.nc + 1) cB3) hlt3; have XS3 : Hid ((wB3.setCell ⟨w3.heap.size, 6, none⟩ (.slice AB3 (y.nc + 1) cB3)).heap[w3.heap.size]? = some (.cells #[.int .i64 x.frm, .int .i64 x.too, .int .i64 x.bnd, .slice y.av y.nv y.cv, .slice AB1 (y.nn + 1) cB1, .slice AB2 (y.nl + 1) cB2, .slice AB3 (y.nc + 1) cB3] 53 (0, 0))) := heap_setCell_same _ _ 6 _ _ _ hX3; have hz3 : w3.heap.size + 1 ≤ wB3.heap.size := (by have := hbB3.size; simp at this; omega); have OS13 := hid (own_set (own_keep OS12.out HBA3.out (by simp) HOA3.out hgB3) (by show w3.heap.size < _; omega) (a := ⟨w3.heap.size, 6, none⟩) (.slice AB3 (y.nc + 1) cB3)); have OS23 := hid (own_set (own_keep OS22.out HBA3.out (by simp) HOA3.out hgB3) (by show w3.heap.size < _; omega) (a := ⟨w3.heap.size, 6, none⟩) (.slice AB3 (y.nc + 1) cB3)); have OS33 := hid (own_set hownB3 (by show w3.heap.size < _; omega) (a := ⟨w3.heap.size, 6, none⟩) (.slice AB3 (y.nc + 1) cB3)); obtain ⟨v3a, v3b, v3c, v3d, v3e, v3f, v3g⟩ := hS3.v; obtain ⟨v3h, v3i⟩ := hS3.g; obtain ⟨c3a, c3b, c3c, c3d, c3e, c3f, c3g⟩ := mcells XS3.out; clear hownB3))
  have HXS := hid XS3.out
  have O1 := OS13.out
  have O2 := OS23.out
  have O3 := OS33.out
  rw [← icells_app] at O1 O2 O3
  obtain ⟨ws, hws⟩ : ∃ ws, (wB3.setCell ⟨w3.heap.size, 6, none⟩ (.slice AB3 (y.nc + 1) cB3)) = ws := ⟨_, rfl⟩
  rw [hws] at O1 O2 O3 HXS hS3
  rw [hws]
  have HS3 := hid hS3
  have lenN : (x.nds ++ [node]).length = y.nn + 1 := by rw [List.length_append, HL1.out]; rfl
  have lenL : (x.lks ++ [link]).length = y.nl + 1 := by rw [List.length_append, HL2.out]; rfl
  have lenC : (x.cls ++ [col]).length = y.nc + 1 := by rw [List.length_append, HL3.out]; rfl
  have rgs : ∀ (L : List Int) (v : Int), (∀ x ∈ L, -9223372036854775808 ≤ x ∧ x ≤ 9223372036854775807) → (-9223372036854775808 ≤ v ∧ v ≤ 9223372036854775807) → ∀ x ∈ L ++ [v], -9223372036854775808 ≤ x ∧ x ≤ 9223372036854775807 := fun L v h1 h2 x hx => by
    rcases List.mem_append.1 hx with h | h
    · exact h1 x h
    · rw [List.mem_singleton.1 h]; exact h2
  have HWM : Hid (WArg ws (moreW x node link col) ⟨y.av, y.nv, y.cv, AB1, y.nn + 1, cB1, AB2, y.nl + 1, cB2, AB3, y.nc + 1, cB3⟩) :=
    ⟨(hw.on hS3.1).via, own_larg (m := y.nn + 1) O1 lenN (by omega) (rgs _ _ hw.nds.rng hv1), own_larg (m := y.nl + 1) O2 lenL (by omega) (rgs _ _ hw.lks.rng hv2), own_larg (m := y.nc + 1) O3 lenC (by omega) (rgs _ _ hw.cls.rng hv3), hw.rng⟩
  have HGs := hid (fun (w' : World) (b : Below ws.heap.size ws w') => (hg.on hS3.1).on b)
  have HWs := hid (fun (w' : World) (b : Below ws.heap.size ws w') => (hw.on hS3.1).on b)
  have HDs := hid (fun (w' : World) (b : Below ws.heap.size ws w') => (hd.on hS3.1).on b)
  have HMs := hid (fun (w' : World) (b : Below ws.heap.size ws w') => HWM.out.on b)
  have HXs := hid (fun (w' : World) (b : Below ws.heap.size ws w') => mcells (box_below HXS.out b (blk_lt HXS.out)))
  have HHs := hid (fun (w' : World) (b : Below ws.heap.size ws w') => hS3.next b)
  obtain ⟨r, hr⟩ : ∃ r, rightS nd l (moreW x node link col) = r := ⟨_, rfl⟩
  have HRi := hid (fun (w' : World) (b : Below ws.heap.size ws w') => hr ▸ hR nd A n c l (moreW x node link col) ⟨y.av, y.nv, y.cv, AB1, y.nn + 1, cB1, AB2, y.nl + 1, cB2, AB3, y.nc + 1, cB3⟩ w' (HGs.out w' b) (HMs.out w' b) (by show y.nv ≤ 100; omega) (by show y.nn + 1 ≤ 100; omega) (by show y.nl + 1 ≤ 100; omega) (by show y.nc + 1 ≤ 100; omega))
  have HRR := hid (hr ▸ refRight_spec nd A n c l (moreW x node link col) ⟨y.av, y.nv, y.cv, AB1, y.nn + 1, cB1, AB2, y.nl + 1, cB2, AB3, y.nc + 1, cB3⟩ ws (HGs.out ws (Below.refl _ _)) HWM.out (by show y.nv ≤ 100; omega) (by show y.nn + 1 ≤ 100; omega) (by show y.nl + 1 ≤ 100; omega) (by show y.nc + 1 ≤ 100; omega))
  have Hb03 := hid hS3.1
  refine HRR.out.mono ?_
  rintro e' w7 ⟨rfl, b7⟩
  obtain ⟨d0, d1⟩ := (HHs.out _ b7).g
  obtain ⟨d2, d3, d4, d5, d6, d7, d8⟩ := (HHs.out _ b7).v
  obtain ⟨f0, f1, f2, f3, f4, f5, f6⟩ := HXs.out _ b7
  by_cases hr1 : r = 0
  · subst hr1
    have hl := hg.row.1
    have L1 : prunedS nd l x dn = (List.range n).map (cutB l x dn) := by unfold prunedS; rw [if_pos HR0.out, hl]
    have L2 : prunedS nd l (moreW x node link col) dn = (List.range n).map (cutB l (moreW x node link col) dn) := by unfold prunedS; rw [if_pos hr, hl]
    have N1 : ((List.range n).map (cutB l x dn)).length = n := by simp
    have N2 : ((List.range n).map (cutB l (moreW x node link col) dn)).length = n := by simp
    have HD1 := hid (fun (w' : World) (b : Below ws.heap.size ws w') => bls_out N1 (L1 ▸ hD nd A n c l x y Ad n' c' dn w' (HGs.out w' b) (HWs.out w' b) (HDs.out w' b) (by omega) (by omega) (by omega) (by omega)))
    have HD2 := hid (fun (w' : World) (b : Below ws.heap.size ws w') => bls_out N2 (L2 ▸ hD nd A n c l (moreW x node link col) ⟨y.av, y.nv, y.cv, AB1, y.nn + 1, cB1, AB2, y.nl + 1, cB2, AB3, y.nc + 1, cB3⟩ Ad n' c' dn w' (HGs.out w' b) (HMs.out w' b) (HDs.out w' b) (by show y.nv ≤ 100; omega) (by show y.nn + 1 ≤ 100; omega) (by show y.nl + 1 ≤ 100; omega) (by show y.nc + 1 ≤ 100; omega)))
    have HD1s := hid (HD1.out _ b7)
    have HRL := hid hg.row
    have Hb0s := hid (Hb03.out)
    have hn130 := hg.len
    clear L1 L2 N1 N2
    go_wp2_with (first
      | (go_at_call 38; (with_reducible refine HD1s.out.mono ?_); rintro e' w8 ⟨A8, c8, rfl, r8, b8⟩; have R8 := hid r8.1; clear r8; have b08 := b7.trans (b8.mono b7.size); obtain ⟨k0, k1⟩ := (HHs.out _ b08).g; obtain ⟨j0, j1, j2, j3, j4, j5, j6⟩ := HXs.out _ b08; have HD2s := hid (HD2.out _ b08))
      | (go_at_call 38; (with_reducible refine HD2s.out.mono ?_); rintro e' w9 ⟨A9, c9, rfl, r9, b9⟩; have R9 := hid r9.1; have R89 := hid (R8.out.on b9); clear r9; have b09 := b08.trans (b9.mono b08.size); obtain ⟨k2, k3⟩ := (HHs.out _ b09).g))
    have H9 := hid (HHs.out _ b09)
    clear d0 d1 d2 d3 d4 d5 d6 d7 d8 f0 f1 f2 f3 f4 f5 f6 k0 k1 j0 j1 j2 j3 j4 j5 j6
    go_loopw [17] (fun i wr => ∃ k : Nat, k ≤ n ∧ i = .int .i64 k ∧ Hid (Below w9.heap.size w9 wr)) (fun i _ => n - (intOf i).toNat)
    case atStart => exact ⟨0, Nat.zero_le _, rfl, Below.refl _ _⟩
    case round =>
      clear k2 k3
      obtain ⟨k, hk, rfl, HBw⟩ := hrel
      have h10 := H9.out.next HBw.out
      obtain ⟨p0, p1⟩ := h10.g
      have hlo := h10.lt
      by_cases hkn : k < n
      · obtain ⟨z, hz⟩ : ∃ z, l[k]? = some z := ⟨l[k]'(by omega), List.getElem?_eq_getElem _⟩
        obtain ⟨bL, oL, rfl, hbL, hcL⟩ := HRL.out.2 (by omega)
        obtain ⟨l0, l1, l2, l3⟩ := hcL k z hz
        have c0 := (h10.1.cell (p := ⟨bL, oL + k * 4, none⟩) hbL).trans l0
        have c1 := (h10.1.cell (p := ⟨bL, oL + k * 4 + 1, none⟩) hbL).trans l1
        have c2 := (h10.1.cell (p := ⟨bL, oL + k * 4 + 2, none⟩) hbL).trans l2
        have c3 := (h10.1.cell (p := ⟨bL, oL + k * 4 + 3, none⟩) hbL).trans l3
        obtain ⟨b8', o8, rfl, hb8', hc8⟩ := (R89.out.below HBw.out).2 (by omega)
        obtain ⟨b9', o9, rfl, hb9', hc9⟩ := (R9.out.below HBw.out).2 (by omega)
        have ca := hc8 k (cutB l x dn k) (by rw [List.getElem?_map, List.getElem?_range hkn]; rfl)
        have cb := hc9 k (cutB l (moreW x node link col) dn k) (by rw [List.getElem?_map, List.getElem?_range hkn]; rfl)
        rw [cut_more, List.getD_eq_getElem?_getD, hz] at cb
        simp only [Option.getD_some] at cb
        have hbr8 : b8' < wr.heap.size := by have := HBw.out.size; omega
        have hbr9 : b9' < wr.heap.size := by have := HBw.out.size; omega
        have HNx := hid (fun nq => below_drewN (n := nq) (HBw.out.alloc HBw.out.size (.cells #[.int .i64 z.a, .int .i64 z.b, .int .i64 z.m, .int .i64 z.c] 41)))
        obtain ⟨e0, he0⟩ : ∃ e0, cutB l x dn k = e0 := ⟨_, rfl⟩
        rw [he0] at ca cb
        clear l0 l1 l2 l3 hcL hz hc8 hc9 he0
        by_cases q1 : (k : Int) = link <;> by_cases q2 : z.c = col <;> by_cases q3 : z.a = node <;> by_cases q4 : z.b = node
        · rw [decide_eq_true q1, decide_eq_true q2, decide_eq_true q3, decide_eq_true q4] at cb
          have t1 : ((k : Int) == link) = true := by simpa using q1
          have t2 : (z.c == col) = true := by simpa using q2
          have t3 : (z.a == node) = true := by simpa using q3
          have t4 : (z.b == node) = true := by simpa using q4
          clear q1 q2 q3 q4
          cases e0 with
          | true =>
            replace cb : wr.cell? ⟨b9', o9 + k, none⟩ = some (.bool true) := cb
            go_wp2_with (go_big_quiet (fail))
            go_roundw
            case rel => exact ⟨k + 1, by omega, by go_num, HNx.out nq⟩
            case measure => simp [intOf]; omega
          | false =>
            replace cb : wr.cell? ⟨b9', o9 + k, none⟩ = some (.bool true) := cb
            go_wp2_with (go_big_quiet (fail))
            go_roundw
            case rel => exact ⟨k + 1, by omega, by go_num, HNx.out nq⟩
            case measure => simp [intOf]; omega
        · rw [decide_eq_true q1, decide_eq_true q2, decide_eq_true q3, decide_eq_false q4] at cb
          have t1 : ((k : Int) == link) = true := by simpa using q1
          have t2 : (z.c == col) = true := by simpa using q2
          have t3 : (z.a == node) = true := by simpa using q3
          have t4 : (z.b == node) = false := by simpa using q4
          clear q1 q2 q3 q4
          cases e0 with
          | true =>
            replace cb : wr.cell? ⟨b9', o9 + k, none⟩ = some (.bool true) := cb
            go_wp2_with (go_big_quiet (fail))
            go_roundw
            case rel => exact ⟨k + 1, by omega, by go_num, HNx.out nq⟩
            case measure => simp [intOf]; omega
          | false =>
            replace cb : wr.cell? ⟨b9', o9 + k, none⟩ = some (.bool true) := cb
            go_wp2_with (go_big_quiet (fail))
            go_roundw
            case rel => exact ⟨k + 1, by omega, by go_num, HNx.out nq⟩
            case measure => simp [intOf]; omega
        · rw [decide_eq_true q1, decide_eq_true q2, decide_eq_false q3, decide_eq_true q4] at cb
          have t1 : ((k : Int) == link) = true := by simpa using q1
          have t2 : (z.c == col) = true := by simpa using q2
          have t3 : (z.a == node) = false := by simpa using q3
          have t4 : (z.b == node) = true := by simpa using q4
          clear q1 q2 q3 q4
          cases e0 with
          | true =>
            replace cb : wr.cell? ⟨b9', o9 + k, none⟩ = some (.bool true) := cb
            go_wp2_with (go_big_quiet (fail))
            go_roundw
            case rel => exact ⟨k + 1, by omega, by go_num, HNx.out nq⟩
            case measure => simp [intOf]; omega
          | false =>
            replace cb : wr.cell? ⟨b9', o9 + k, none⟩ = some (.bool true) := cb
            go_wp2_with (go_big_quiet (fail))
            go_roundw
            case rel => exact ⟨k + 1, by omega, by go_num, HNx.out nq⟩
            case measure => simp [intOf]; omega
        · rw [decide_eq_true q1, decide_eq_true q2, decide_eq_false q3, decide_eq_false q4] at cb
          have t1 : ((k : Int) == link) = true := by simpa using q1
          have t2 : (z.c == col) = true := by simpa using q2
          have t3 : (z.a == node) = false := by simpa using q3
          have t4 : (z.b == node) = false := by simpa using q4
          clear q1 q2 q3 q4
          cases e0 with
          | true =>
            replace cb : wr.cell? ⟨b9', o9 + k, none⟩ = some (.bool true) := cb
            go_wp2_with (go_big_quiet (fail))
            go_roundw
            case rel => exact ⟨k + 1, by omega, by go_num, HNx.out nq⟩
            case measure => simp [intOf]; omega
          | false =>
            replace cb : wr.cell? ⟨b9', o9 + k, none⟩ = some (.bool true) := cb
            go_wp2_with (go_big_quiet (fail))
            go_roundw
            case rel => exact ⟨k + 1, by omega, by go_num, HNx.out nq⟩
            case measure => simp [intOf]; omega
        · rw [decide_eq_true q1, decide_eq_false q2, decide_eq_true q3, decide_eq_true q4] at cb
          have t1 : ((k : Int) == link) = true := by simpa using q1
          have t2 : (z.c == col) = false := by simpa using q2
          have t3 : (z.a == node) = true := by simpa using q3
          have t4 : (z.b == node) = true := by simpa using q4
          clear q1 q2 q3 q4
          cases e0 with
          | true =>
            replace cb : wr.cell? ⟨b9', o9 + k, none⟩ = some (.bool true) := cb
            go_wp2_with (go_big_quiet (fail))
            go_roundw
            case rel => exact ⟨k + 1, by omega, by go_num, HNx.out nq⟩
            case measure => simp [intOf]; omega
          | false =>
            replace cb : wr.cell? ⟨b9', o9 + k, none⟩ = some (.bool true) := cb
            go_wp2_with (go_big_quiet (fail))
            go_roundw
            case rel => exact ⟨k + 1, by omega, by go_num, HNx.out nq⟩
            case measure => simp [intOf]; omega
        · rw [decide_eq_true q1, decide_eq_false q2, decide_eq_true q3, decide_eq_false q4] at cb
          have t1 : ((k : Int) == link) = true := by simpa using q1
          have t2 : (z.c == col) = false := by simpa using q2
          have t3 : (z.a == node) = true := by simpa using q3
          have t4 : (z.b == node) = false := by simpa using q4
          clear q1 q2 q3 q4
          cases e0 with
          | true =>
            replace cb : wr.cell? ⟨b9', o9 + k, none⟩ = some (.bool true) := cb
            go_wp2_with (go_big_quiet (fail))
            go_roundw
            case rel => exact ⟨k + 1, by omega, by go_num, HNx.out nq⟩
            case measure => simp [intOf]; omega
          | false =>
            replace cb : wr.cell? ⟨b9', o9 + k, none⟩ = some (.bool true) := cb
            go_wp2_with (go_big_quiet (fail))
            go_roundw
            case rel => exact ⟨k + 1, by omega, by go_num, HNx.out nq⟩
            case measure => simp [intOf]; omega
        · rw [decide_eq_true q1, decide_eq_false q2, decide_eq_false q3, decide_eq_true q4] at cb
          have t1 : ((k : Int) == link) = true := by simpa using q1
          have t2 : (z.c == col) = false := by simpa using q2
          have t3 : (z.a == node) = false := by simpa using q3
          have t4 : (z.b == node) = true := by simpa using q4
          clear q1 q2 q3 q4
          cases e0 with
          | true =>
            replace cb : wr.cell? ⟨b9', o9 + k, none⟩ = some (.bool true) := cb
            go_wp2_with (go_big_quiet (fail))
            go_roundw
            case rel => exact ⟨k + 1, by omega, by go_num, HNx.out nq⟩
            case measure => simp [intOf]; omega
          | false =>
            replace cb : wr.cell? ⟨b9', o9 + k, none⟩ = some (.bool true) := cb
            go_wp2_with (go_big_quiet (fail))
            go_roundw
            case rel => exact ⟨k + 1, by omega, by go_num, HNx.out nq⟩
            case measure => simp [intOf]; omega
        · rw [decide_eq_true q1, decide_eq_false q2, decide_eq_false q3, decide_eq_false q4] at cb
          have t1 : ((k : Int) == link) = true := by simpa using q1
          have t2 : (z.c == col) = false := by simpa using q2
          have t3 : (z.a == node) = false := by simpa using q3
          have t4 : (z.b == node) = false := by simpa using q4
          clear q1 q2 q3 q4
          cases e0 with
          | true =>
            replace cb : wr.cell? ⟨b9', o9 + k, none⟩ = some (.bool true) := cb
            go_wp2_with (go_big_quiet (fail))
            go_roundw
            case rel => exact ⟨k + 1, by omega, by go_num, HNx.out nq⟩
            case measure => simp [intOf]; omega
          | false =>
            replace cb : wr.cell? ⟨b9', o9 + k, none⟩ = some (.bool true) := cb
            go_wp2_with (go_big_quiet (fail))
            go_roundw
            case rel => exact ⟨k + 1, by omega, by go_num, HNx.out nq⟩
            case measure => simp [intOf]; omega
        · rw [decide_eq_false q1, decide_eq_true q2, decide_eq_true q3, decide_eq_true q4] at cb
          have t1 : ((k : Int) == link) = false := by simpa using q1
          have t2 : (z.c == col) = true := by simpa using q2
          have t3 : (z.a == node) = true := by simpa using q3
          have t4 : (z.b == node) = true := by simpa using q4
          clear q1 q2 q3 q4
          cases e0 with
          | true =>
            replace cb : wr.cell? ⟨b9', o9 + k, none⟩ = some (.bool true) := cb
            go_wp2_with (go_big_quiet (fail))
            go_roundw
            case rel => exact ⟨k + 1, by omega, by go_num, HNx.out nq⟩
            case measure => simp [intOf]; omega
          | false =>
            replace cb : wr.cell? ⟨b9', o9 + k, none⟩ = some (.bool true) := cb
            go_wp2_with (go_big_quiet (fail))
            go_roundw
            case rel => exact ⟨k + 1, by omega, by go_num, HNx.out nq⟩
            case measure => simp [intOf]; omega
        · rw [decide_eq_false q1, decide_eq_true q2, decide_eq_true q3, decide_eq_false q4] at cb
          have t1 : ((k : Int) == link) = false := by simpa using q1
          have t2 : (z.c == col) = true := by simpa using q2
          have t3 : (z.a == node) = true := by simpa using q3
          have t4 : (z.b == node) = false := by simpa using q4
          clear q1 q2 q3 q4
          cases e0 with
          | true =>
            replace cb : wr.cell? ⟨b9', o9 + k, none⟩ = some (.bool true) := cb
            go_wp2_with (go_big_quiet (fail))
            go_roundw
            case rel => exact ⟨k + 1, by omega, by go_num, HNx.out nq⟩
            case measure => simp [intOf]; omega
          | false =>
            replace cb : wr.cell? ⟨b9', o9 + k, none⟩ = some (.bool true) := cb
            go_wp2_with (go_big_quiet (fail))
            go_roundw
            case rel => exact ⟨k + 1, by omega, by go_num, HNx.out nq⟩
            case measure => simp [intOf]; omega
        · rw [decide_eq_false q1, decide_eq_true q2, decide_eq_false q3, decide_eq_true q4] at cb
          have t1 : ((k : Int) == link) = false := by simpa using q1
          have t2 : (z.c == col) = true := by simpa using q2
          have t3 : (z.a == node) = false := by simpa using q3
          have t4 : (z.b == node) = true := by simpa using q4
          clear q1 q2 q3 q4
          cases e0 with
          | true =>
            replace cb : wr.cell? ⟨b9', o9 + k, none⟩ = some (.bool true) := cb
            go_wp2_with (go_big_quiet (fail))
            go_roundw
            case rel => exact ⟨k + 1, by omega, by go_num, HNx.out nq⟩
            case measure => simp [intOf]; omega
          | false =>
            replace cb : wr.cell? ⟨b9', o9 + k, none⟩ = some (.bool true) := cb
            go_wp2_with (go_big_quiet (fail))
            go_roundw
            case rel => exact ⟨k + 1, by omega, by go_num, HNx.out nq⟩
            case measure => simp [intOf]; omega
        · rw [decide_eq_false q1, decide_eq_true q2, decide_eq_false q3, decide_eq_false q4] at cb
          have t1 : ((k : Int) == link) = false := by simpa using q1
          have t2 : (z.c == col) = true := by simpa using q2
          have t3 : (z.a == node) = false := by simpa using q3
          have t4 : (z.b == node) = false := by simpa using q4
          clear q1 q2 q3 q4
          cases e0 with
          | true =>
            replace cb : wr.cell? ⟨b9', o9 + k, none⟩ = some (.bool true) := cb
            go_wp2_with (go_big_quiet (fail))
            go_roundw
            case rel => exact ⟨k + 1, by omega, by go_num, HNx.out nq⟩
            case measure => simp [intOf]; omega
          | false =>
            replace cb : wr.cell? ⟨b9', o9 + k, none⟩ = some (.bool true) := cb
            go_wp2_with (go_big_quiet (fail))
            go_roundw
            case rel => exact ⟨k + 1, by omega, by go_num, HNx.out nq⟩
            case measure => simp [intOf]; omega
        · rw [decide_eq_false q1, decide_eq_false q2, decide_eq_true q3, decide_eq_true q4] at cb
          have t1 : ((k : Int) == link) = false := by simpa using q1
          have t2 : (z.c == col) = false := by simpa using q2
          have t3 : (z.a == node) = true := by simpa using q3
          have t4 : (z.b == node) = true := by simpa using q4
          clear q1 q2 q3 q4
          cases e0 with
          | true =>
            replace cb : wr.cell? ⟨b9', o9 + k, none⟩ = some (.bool true) := cb
            go_wp2_with (go_big_quiet (fail))
            go_roundw
            case rel => exact ⟨k + 1, by omega, by go_num, HNx.out nq⟩
            case measure => simp [intOf]; omega
          | false =>
            replace cb : wr.cell? ⟨b9', o9 + k, none⟩ = some (.bool true) := cb
            go_wp2_with (go_big_quiet (fail))
            go_roundw
            case rel => exact ⟨k + 1, by omega, by go_num, HNx.out nq⟩
            case measure => simp [intOf]; omega
        · rw [decide_eq_false q1, decide_eq_false q2, decide_eq_true q3, decide_eq_false q4] at cb
          have t1 : ((k : Int) == link) = false := by simpa using q1
          have t2 : (z.c == col) = false := by simpa using q2
          have t3 : (z.a == node) = true := by simpa using q3
          have t4 : (z.b == node) = false := by simpa using q4
          clear q1 q2 q3 q4
          cases e0 with
          | true =>
            replace cb : wr.cell? ⟨b9', o9 + k, none⟩ = some (.bool true) := cb
            go_wp2_with (go_big_quiet (fail))
            go_roundw
            case rel => exact ⟨k + 1, by omega, by go_num, HNx.out nq⟩
            case measure => simp [intOf]; omega
          | false =>
            replace cb : wr.cell? ⟨b9', o9 + k, none⟩ = some (.bool true) := cb
            go_wp2_with (go_big_quiet (fail))
            go_roundw
            case rel => exact ⟨k + 1, by omega, by go_num, HNx.out nq⟩
            case measure => simp [intOf]; omega
        · rw [decide_eq_false q1, decide_eq_false q2, decide_eq_false q3, decide_eq_true q4] at cb
          have t1 : ((k : Int) == link) = false := by simpa using q1
          have t2 : (z.c == col) = false := by simpa using q2
          have t3 : (z.a == node) = false := by simpa using q3
          have t4 : (z.b == node) = true := by simpa using q4
          clear q1 q2 q3 q4
          cases e0 with
          | true =>
            replace cb : wr.cell? ⟨b9', o9 + k, none⟩ = some (.bool true) := cb
            go_wp2_with (go_big_quiet (fail))
            go_roundw
            case rel => exact ⟨k + 1, by omega, by go_num, HNx.out nq⟩
            case measure => simp [intOf]; omega
          | false =>
            replace cb : wr.cell? ⟨b9', o9 + k, none⟩ = some (.bool true) := cb
            go_wp2_with (go_big_quiet (fail))
            go_roundw
            case rel => exact ⟨k + 1, by omega, by go_num, HNx.out nq⟩
            case measure => simp [intOf]; omega
        · rw [decide_eq_false q1, decide_eq_false q2, decide_eq_false q3, decide_eq_false q4] at cb
          have t1 : ((k : Int) == link) = false := by simpa using q1
          have t2 : (z.c == col) = false := by simpa using q2
          have t3 : (z.a == node) = false := by simpa using q3
          have t4 : (z.b == node) = false := by simpa using q4
          clear q1 q2 q3 q4
          cases e0 with
          | true =>
            replace cb : wr.cell? ⟨b9', o9 + k, none⟩ = some (.bool true) := cb
            go_wp2_with (go_big_quiet (fail))
            go_roundw
            case rel => exact ⟨k + 1, by omega, by go_num, HNx.out nq⟩
            case measure => simp [intOf]; omega
          | false =>
            replace cb : wr.cell? ⟨b9', o9 + k, none⟩ = some (.bool false) := cb
            go_wp2_with (go_big_quiet (fail))
            go_roundw
            case rel => exact ⟨k + 1, by omega, by go_num, HNx.out nq⟩
            case measure => simp [intOf]; omega
      · obtain rfl : n = k := by omega
        go_wp2_with fail
        go_ret
        exact ⟨rfl, h10.1⟩
  · have u1 : (r != 0) = true := by simpa using hr1
    have HN := hid (fun w => num_any r w)
    have HR7 := hid (HRi.out _ b7)
    clear hr1

    go_wp2_with (first
      | (go_at_call 35; (with_reducible refine HR7.out.mono ?_); rintro e' w8 ⟨rfl, b8⟩; have b08 := b7.trans (b8.mono b7.size))
      | (go_at_call 34; (with_reducible refine (HN.out _).mono ?_); rintro _ _ ⟨rfl, rfl⟩))
    go_ret
    exact ⟨rfl, Hb03.out.trans (b08.mono Hb03.out.size)⟩
end Go.Proofs.Ytljgoffolbplfaa
