/- Merged: CtM. -/
import Derived.Test.YtkemcgbedapkcaaG33
/- compile.search: where it begins. -/
namespace Go.Proofs.Ytkemcgbedapkcaa
open Go.RowKit
set_option maxHeartbeats 25600000
set_option maxRecDepth 100000
section
variable {P : Program} {md : Region.Mode} {ops : Array Oper} {Q : Exit → Act → World → Prop} {S : World → Prop} {n : Nat}
theorem OrdF.three {i j k : Nat} {o q r : Oper} {f : Nat} {done : Array Bool} {a : Act} {w : World} (hi : ops[i]? = some o) (hj : ops[j]? = some q) (hk : ops[k]? = some r) (hb : (decide (Region.ready md ops done = [i, j, k]) && decide (i < n) && decide (j < n) && decide (k < n)) = true)
    (h1 : ∀ K' : Act → World → Prop, Shut (∀ a w, S w → (S w → OrdF P md ops Q S n f (done.setIfInBounds i true) a w) → K' a w) → if Region.wanted o (yielded ops a.tmps) = true then Oper.wp P o a w K' Q else K' (a.put o.dst undef) w)
    (h2 : ∀ K' : Act → World → Prop, Shut (∀ a w, S w → (S w → OrdF P md ops Q S n f (done.setIfInBounds j true) a w) → K' a w) → if Region.wanted q (yielded ops a.tmps) = true then Oper.wp P q a w K' Q else K' (a.put q.dst undef) w)
    (h3 : ∀ K' : Act → World → Prop, Shut (∀ a w, S w → (S w → OrdF P md ops Q S n f (done.setIfInBounds k true) a w) → K' a w) → if Region.wanted r (yielded ops a.tmps) = true then Oper.wp P r a w K' Q else K' (a.put r.dst undef) w) : OrdF P md ops Q S n (f + 1) done a w := by
  simp only [Bool.and_eq_true, decide_eq_true_eq] at hb
  intro inv
  have hr : i ∈ Region.ready md ops done := by rw [hb.1.1.1]; simp
  have hs : j ∈ Region.ready md ops done := by rw [hb.1.1.1]; simp
  have ht : k ∈ Region.ready md ops done := by rw [hb.1.1.1]; simp
  refine ⟨fun h0 => (by rw [hb.1.1.1] at h0; cases h0), fun m hm => ?_⟩
  rw [hb.1.1.1] at hm
  rcases (by simpa using hm : m = i ∨ m = j ∨ m = k) with rfl | rfl | rfl
  · exact wpOp_step hi (fun K' hK => h1 K' (fun a w hS hW => hK a w ⟨fun _ => hS, hW hS (inv.set hr hb.1.1.2)⟩))
  · exact wpOp_step hj (fun K' hK => h2 K' (fun a w hS hW => hK a w ⟨fun _ => hS, hW hS (inv.set hs hb.1.2)⟩))
  · exact wpOp_step hk (fun K' hK => h3 K' (fun a w hS hW => hK a w ⟨fun _ => hS, hW hS (inv.set ht hb.2)⟩))
end
section
variable {N : Nat} {l : List Lnk} {x : Wnt} {gn : List Bool} {tp : Addr} {A : Option Addr} {n c : Nat} {Ap : Option Addr} {cp : Nat} {Ag : Option Addr} {cg : Nat} {Df : Option Addr} {cf kk : Nat}
structure SrA (M : Nat) (N : Nat) (l : List Lnk) (x : Wnt) (gn : List Bool) (tp : Addr) (A : Option Addr) (n c : Nat) (Ap : Option Addr) (cp : Nat) (Ag : Option Addr) (cg : Nat) (Df : Option Addr) (cf kk : Nat) (s : Int) (A2 : Option Addr) (c2 : Nat) (y : WSl) (w w' : World) : Prop where
  sb : SrB M N l x gn tp A n c Ap cp Ag cg Df cf kk s A2 c2 y w w'
  mt : MetB w' (w.heap.size + 1 + 1 + 1) []
  wn : WArg w x y
  bel : Below w.heap.size w w'
end
section
variable {N : Nat} {l : List Lnk} {x : Wnt} {gn : List Bool} {tp : Addr} {A : Option Addr} {n c : Nat} {Ap : Option Addr} {cp : Nat} {Ag : Option Addr} {cg : Nat} {Df : Option Addr} {cf kk : Nat} {s : Int} {A2 : Option Addr} {c2 : Nat} {y : WSl}
theorem SrA.next {M : Nat} {w w' w'' : World} (h : SrA M N l x gn tp A n c Ap cp Ag cg Df cf kk s A2 c2 y w w') (hb : Below w'.heap.size w' w'') : SrA M N l x gn tp A n c Ap cp Ag cg Df cf kk s A2 c2 y w w'' :=
  ⟨h.sb.next hb, h.mt.below hb h.mt.lt, h.wn, h.bel.trans (hb.mono h.bel.size)⟩
theorem SrA.set2 {M : Nat} {w w' : World} {B : Nat} {u0 u1 : Value} (h : SrA M N l x gn tp A n c Ap cp Ag cg Df cf kk s A2 c2 y w w') (hB : w.heap.size + 1 + 1 + 1 < B) : SrA M N l x gn tp A n c Ap cp Ag cg Df cf kk s A2 c2 y w ((w'.setCell ⟨B, 0, none⟩ u0).setCell ⟨B, 1, none⟩ u1) := by
  have hb : Below B w' ((w'.setCell ⟨B, 0, none⟩ u0).setCell ⟨B, 1, none⟩ u1) := ((Below.refl B w').setCell (p := ⟨B, 0, none⟩) (Nat.le_refl B) u0).setCell (p := ⟨B, 1, none⟩) (Nat.le_refl B) u1
  exact ⟨h.sb.above hb (by omega), h.mt.below hb hB, h.wn, h.bel.trans (hb.mono (by omega))⟩
end
theorem met_zero (i : Nat) (hi : i < 240) : Try.zeroCells105[i]? = some (.bool false) := by
  have h : (List.range 240).all (fun i => match Try.zeroCells105[i]? with | some (.bool false) => true | _ => false) = true := by kernel_rfl
  have := List.all_eq_true.1 h i (List.mem_range.2 hi)
  revert this
  cases Try.zeroCells105[i]? with
  | none => intro h; cases h
  | some v =>
    cases v <;> intro h <;> try (cases h; done)
    rename_i b
    cases b
    · rfl
    · cases h
theorem met_start {w : World} {B : Nat} (h : w.heap[B]? = some (.cells Try.zeroCells105 105 (0, 0))) : MetB w B [] := by
  refine ⟨_, h, by kernel_rfl, fun a b ha hb => ?_⟩
  rw [met_zero _ (by omega)]
  simp
section
variable {N : Nat} {l : List Lnk} {x : Wnt} {gn : List Bool} {tp : Addr} {A : Option Addr} {n c : Nat} {Ap : Option Addr} {cp : Nat} {Ag : Option Addr} {cg : Nat} {Df : Option Addr} {cf kk : Nat} {s : Int} {A2 : Option Addr} {c2 : Nat} {y : WSl}
theorem SrA.start {M : Nat} {w : World} (h : GW M N l x gn tp A n c Ap cp Ag cg Df cf kk w) (hr : RLnk w w.heap.size A2 n l) (hw : WArg w x y) : SrA M N l x gn tp A n c Ap cp Ag cg Df cf kk s A2 c2 y w ((((w.alloc (.cells #[.pointer (some tp), .int .i64 (N : Int), .slice A n c, .slice Ap (kk + 2) cp, .slice Ag n cg, .slice Df (kk + 1) cf, .int .i64 s, .map (some M)] 82)).alloc (.cells #[.int .i64 (N : Int), .slice A2 n c2] 24)).alloc (.cells #[.int .i64 x.frm, .int .i64 x.too, .int .i64 x.bnd, .slice y.av y.nv y.cv, .slice y.an y.nn y.cn, .slice y.al y.nl y.cl, .slice y.ac y.nc y.cc] 58)).alloc (.cells Try.zeroCells105 105)) := by
  have hb := ((((Below.refl w.heap.size w).alloc (Nat.le_refl _) (.cells #[.pointer (some tp), .int .i64 (N : Int), .slice A n c, .slice Ap (kk + 2) cp, .slice Ag n cg, .slice Df (kk + 1) cf, .int .i64 s, .map (some M)] 82)).alloc (by simp) (.cells #[.int .i64 (N : Int), .slice A2 n c2] 24)).alloc (by simp; omega) (.cells #[.int .i64 x.frm, .int .i64 x.too, .int .i64 x.bnd, .slice y.av y.nv y.cv, .slice y.an y.nn y.cn, .slice y.al y.nl y.cl, .slice y.ac y.nc y.cc] 58)).alloc (by simp; omega) (.cells Try.zeroCells105 105)
  exact ⟨⟨alloc_at (alloc_at (alloc_at (alloc_new rfl))), alloc_at (alloc_at (alloc_new (alloc_sz rfl))), alloc_at (alloc_new (alloc_sz (alloc_sz rfl))), h.next hb, But.of hb, h.lt, hr.below hb⟩, met_start (alloc_new (alloc_sz (alloc_sz (alloc_sz rfl)))), hw, hb⟩
end
theorem own_lit {w : World} {base size k : Nat} {cs : Array Value} {e : TypeId} (hb : base ≤ w.heap.size) (hs : cs.size = k * size) (hk : k ≤ maxLen) : (w.alloc (.cells cs e)).ownsRow base e size (.slice (some ⟨w.heap.size, 0, none⟩) k k) k cs.toList := by
  refine ⟨by rw [Array.length_toList]; exact hs, .inr ⟨w.heap.size, k, cs, rfl, hb, heap_alloc_new w _, Nat.le_refl _, hk, hs, ?_⟩⟩
  rw [← hs, ← Array.length_toList, List.take_length]
theorem lead_at {w : World} {base n cap i : Nat} {Ad : Option Addr} {D : List ((Int × Int) × List Sg)} {vs : List Value} {p : Int × Int} {L : List Sg} {v : Value} (h : w.ownsRow base 108 3 (.slice Ad n cap) n (ldc D vs)) (hD : D[i]? = some (p, L)) (hv : vs[i]? = some v) :
    ∃ b off, Ad = some ⟨b, off, none⟩ ∧ w.cell? ⟨b, off + i * 3, none⟩ = some (.int .i64 p.1) ∧ w.cell? ⟨b, off + i * 3 + 1, none⟩ = some (.int .i64 p.2) ∧ w.cell? ⟨b, off + i * 3 + 2, none⟩ = some v := by
  obtain ⟨h0, h1, h2⟩ := ldc_at hD hv
  rcases h.2 with ⟨h3, h4⟩ | ⟨g, cp, cur, h3, _⟩
  · have := h.1
    rw [h4, Nat.zero_mul] at this
    rw [List.length_eq_zero_iff.1 this] at h0
    simp at h0
  · simp only [Value.slice.injEq] at h3
    obtain ⟨rfl, _, rfl⟩ := h3
    have k0 := h.cells (g := g) rfl _ _ h0
    have k1 := h.cells (g := g) rfl _ _ h1
    have k2 := h.cells (g := g) rfl _ _ h2
    rw [Go.WideShapes.add_plain] at k0 k1 k2
    exact ⟨g, 0, rfl, k0, k1, k2⟩
theorem new_cells {w : World} {B : Nat} {cs : Array Value} {T : TypeId} {fz : Nat × Nat} {xs : List Value} (h : w.heap[B]? = some (.cells cs T fz)) (hx : cs = xs.toArray) : ∀ j u, xs[j]? = some u → w.cell? ((⟨B, 0, none⟩ : Addr).add j) = some u := by
  intro j u hu
  rw [Go.WideShapes.add_plain, cell_of_row _ _ _ _ _ _ h, hx]
  simpa using hu
theorem below_grow {w W w' : World} {b e s n : Nat} {v : Value} {xs : List Value} (h : Below w.heap.size w W) (hown : W.ownsRow b e s v n xs) (hg : W.grownBy w' v.ownBlock) (hb : w.heap.size ≤ b) : Below w.heap.size w w' :=
  Below.grown h hg h.size (fun k hk => by have := (hown.lt k hk).1; omega)
/-- What the search answers. -/
noncomputable def resS (N : Nat) (l : List Lnk) (x : Wnt) (gn : List Bool) (d : Nat) : List Sg × Int := match leastS N l x gn d (startS x) with
  | none => ([], 9)
  | some m => (pathS N l x gn m (startS x), 0)
section
variable {N : Nat} {l : List Lnk} {x : Wnt} {gn : List Bool} {tp : Addr} {A : Option Addr} {n c : Nat} {Ap : Option Addr} {cp : Nat} {Ag : Option Addr} {cg : Nat} {Df : Option Addr} {cf kk : Nat} {s : Int} {A2 : Option Addr} {c2 : Nat} {y : WSl}
theorem search_any (hg : GOk N l) (hr : rightS (N : Int) l x = 0) (hN : N ≤ 10) (hl : l.length ≤ 16) (hv : x.via.length ≤ 4) (hyv : y.nv ≤ 900) {M : Nat} (d : Nat) (hd : d ≤ 10) (w : World) (h : GW M N l x gn tp A n c Ap cp Ag cg Df cf kk w) (hrl : RLnk w w.heap.size A2 n l) (hw : WArg w x y) :
    Calls Try.prog 31 #[.agg #[.pointer (some tp), .int .i64 (N : Int), .slice A n c, .slice Ap (kk + 2) cp, .slice Ag n cg, .slice Df (kk + 1) cf, .int .i64 s, .map (some M)], .agg #[.int .i64 (N : Int), .slice A2 n c2], .agg #[.int .i64 x.frm, .int .i64 x.too, .int .i64 x.bnd, .slice y.av y.nv y.cv, .slice y.an y.nn y.cn, .slice y.al y.nl y.cl, .slice y.ac y.nc y.cc], .int .i64 (d : Int)] w fun e' w' => ∃ v, e' = .returned (.tuple #[v, .int .i64 (resS N l x gn d).2]) ∧ w'.ownsRow 0 46 2 v (resS N l x gn d).1.length (scells2 (resS N l x gn d).1) ∧ But M w w' := by
  have hn16 : n ≤ 16 := by rw [← hrl.1]; exact hl
  have hA := SrA.start (s := s) (c2 := c2) h hrl hw
  obtain ⟨s1, hs1⟩ : ∃ s1, (startS x).1 = s1 := ⟨_, rfl⟩
  obtain ⟨s2, hs2⟩ : ∃ s2, (startS x).2 = s2 := ⟨_, rfl⟩
  obtain ⟨g1, hg1⟩ : ∃ g1, (goalS x).1 = g1 := ⟨_, rfl⟩
  obtain ⟨g2, hg2⟩ : ∃ g2, (goalS x).2 = g2 := ⟨_, rfl⟩
  have HSt := hid (fun W (hA : SrA M N l x gn tp A n c Ap cp Ag cg Df cf kk s A2 c2 y w W) => oStart_any x y W (hA.wn.on hA.bel) hyv)
  have HGo := hid (fun W (hA : SrA M N l x gn tp A n c Ap cp Ag cg Df cf kk s A2 c2 y w W) => oGoal_any x y W (hA.wn.on hA.bel) (by omega))
  simp only [hs1, hs2, hg1, hg2] at HSt HGo
  have HST : Hid (startS x = (s1, s2)) := by show _ = _; rw [← hs1, ← hs2]
  have HGT : Hid (goalS x = (g1, g2)) := by show _ = _; rw [← hg1, ← hg2]
  have hst := startS_in hr
  rw [HST.out] at hst
  have HA0 := hid hA
  clear h hrl hw hA hs1 hs2 hg1 hg2
  go_enter Try.func31, Try.ntmps31
  go_upto_region 2 with fail
  go_cut [11, 12] (fun q r wx => ∃ B11 B12 : Nat, q = .pointer (some ⟨B11, 0, none⟩) ∧ r = .pointer (some ⟨B12, 0, none⟩) ∧ wx.heap[B11]? = some (.cells #[.int .i64 s1, .int .i64 s2] 92 (0, 0)) ∧ wx.heap[B12]? = some (.cells #[.int .i64 g1, .int .i64 g2] 92 (0, 0)) ∧ SrA M N l x gn tp A n c Ap cp Ag cg Df cf kk s A2 c2 y w wx ∧ w.heap.size + 1 + 1 + 1 < B11 ∧ w.heap.size + 1 + 1 + 1 < B12)
  case first =>
    go_wp2_with fail
    have HS4 : Hid (∀ W, SrB M N l x gn tp A n c Ap cp Ag cg Df cf kk s A2 c2 y w W → W.cell? ⟨w.heap.size + 1 + 1, 0, none⟩ = some (.int .i64 x.frm) ∧ W.cell? ⟨w.heap.size + 1 + 1, 1, none⟩ = some (.int .i64 x.too) ∧ W.cell? ⟨w.heap.size + 1 + 1, 2, none⟩ = some (.int .i64 x.bnd) ∧ W.cell? ⟨w.heap.size + 1 + 1, 3, none⟩ = some (.slice y.av y.nv y.cv) ∧ W.cell? ⟨w.heap.size + 1 + 1, 4, none⟩ = some (.slice y.an y.nn y.cn) ∧ W.cell? ⟨w.heap.size + 1 + 1, 5, none⟩ = some (.slice y.al y.nl y.cl) ∧ W.cell? ⟨w.heap.size + 1 + 1, 6, none⟩ = some (.slice y.ac y.nc y.cc)) := fun W hh => by obtain ⟨z0, z1, z2, z3, z4, z5, z6⟩ := box7_cells hh.x2; exact ⟨z0, z1, z2, z3, z4, z5, z6⟩
    have HAwq := hid (HA0.out.next ((Below.refl _ _).drew))
    clear HA0
    obtain ⟨wq, hwq⟩ : ∃ wq, (((((w.alloc (.cells #[.pointer (some tp), .int .i64 (N : Int), .slice A n c, .slice Ap (kk + 2) cp, .slice Ag n cg, .slice Df (kk + 1) cf, .int .i64 s, .map (some M)] 82)).alloc (.cells #[.int .i64 (N : Int), .slice A2 n c2] 24)).alloc (.cells #[.int .i64 x.frm, .int .i64 x.too, .int .i64 x.bnd, .slice y.av y.nv y.cv, .slice y.an y.nn y.cn, .slice y.al y.nl y.cl, .slice y.ac y.nc y.cc] 58)).alloc (.cells Try.zeroCells105 105))).drew = wq := ⟨_, rfl⟩
    refine region_ord 7 (fun W => W.cell? ⟨w.heap.size + 1 + 1, 0, none⟩ = some (.int .i64 x.frm) ∧ W.cell? ⟨w.heap.size + 1 + 1, 1, none⟩ = some (.int .i64 x.too) ∧ W.cell? ⟨w.heap.size + 1 + 1, 2, none⟩ = some (.int .i64 x.bnd) ∧ W.cell? ⟨w.heap.size + 1 + 1, 3, none⟩ = some (.slice y.av y.nv y.cv) ∧ W.cell? ⟨w.heap.size + 1 + 1, 4, none⟩ = some (.slice y.an y.nn y.cn) ∧ W.cell? ⟨w.heap.size + 1 + 1, 5, none⟩ = some (.slice y.al y.nl y.cl) ∧ W.cell? ⟨w.heap.size + 1 + 1, 6, none⟩ = some (.slice y.ac y.nc y.cc)) (by kernel_rfl) (HS4.out _ HAwq.out.sb) (fun hHeld => ?_)
    rw [hwq] at HAwq hHeld ⊢
    clear hwq
    refine OrdF.take (i := 0) (v := ?_) rfl (by kernel_rfl) (fun _ _ _ h => h) (by rfl) ?_ (by assumption) ?_
    (rotate_left; focus (intro w' hSw; (try dsimp only at hSw); go_simp; (try with_reducible rfl)))
    try simp only [List.getElem_toArray, List.getElem_cons_zero, Act.put, List.setIfInBounds_toArray, List.set_cons_zero, List.set_cons_succ]
    refine OrdF.take (i := 2) (v := ?_) rfl (by kernel_rfl) (fun _ _ _ h => h) (by rfl) ?_ (by assumption) ?_
    (rotate_left; focus (intro w' hSw; (try dsimp only at hSw); go_simp; (try with_reducible rfl)))
    try simp only [List.getElem_toArray, List.getElem_cons_succ, List.getElem_cons_zero, Act.put, List.setIfInBounds_toArray, List.set_cons_zero, List.set_cons_succ]
    refine OrdF.three (i := 1) (j := 4) (k := 5) rfl rfl rfl (by kernel_rfl) (fun K hK => ?_) (fun K hK => ?_) (fun K hK => ?_)
    · try simp only [List.getElem_toArray, List.getElem_cons_succ, List.getElem_cons_zero, Act.put, List.setIfInBounds_toArray, List.set_cons_zero, List.set_cons_succ]
      go_simp
      (go_at_call 46; (with_reducible refine (HSt.out _ HAwq.out).mono ?_); rintro e' v1 ⟨rfl, hbv1⟩; have HAv1 := hid (HAwq.out.next hbv1))
      clear hbv1
      try go_wp2_with fail
      refine hK.out _ _ (HS4.out _ (HAv1.out).sb) (fun hHeld => ?_)
      clear hK K
      try simp only [List.getElem_toArray, List.getElem_cons_succ, List.getElem_cons_zero, Act.put, List.setIfInBounds_toArray, List.set_cons_zero, List.set_cons_succ]
      refine OrdF.three (i := 3) (j := 4) (k := 5) rfl rfl rfl (by kernel_rfl) (fun K hK => ?_) (fun K hK => ?_) (fun K hK => ?_)
      · try simp only [List.getElem_toArray, List.getElem_cons_succ, List.getElem_cons_zero, Act.put, List.setIfInBounds_toArray, List.set_cons_zero, List.set_cons_succ]
        go_simp
        (go_at_call 47; (with_reducible refine (HGo.out _ HAv1.out).mono ?_); rintro e' v2 ⟨rfl, hbv2⟩; have HAv2 := hid (HAv1.out.next hbv2))
        clear hbv2
        try go_wp2_with fail
        refine hK.out _ _ (HS4.out _ (HAv2.out).sb) (fun hHeld => ?_)
        clear hK K
        try simp only [List.getElem_toArray, List.getElem_cons_succ, List.getElem_cons_zero, Act.put, List.setIfInBounds_toArray, List.set_cons_zero, List.set_cons_succ]
        refine OrdF.two (i := 4) (j := 5) rfl rfl (by kernel_rfl) (fun K hK => ?_) (fun K hK => ?_)
        · try simp only [List.getElem_toArray, List.getElem_cons_succ, List.getElem_cons_zero, Act.put, List.setIfInBounds_toArray, List.set_cons_zero, List.set_cons_succ]
          go_simp
          obtain ⟨v3, hwv3⟩ : ∃ v3, v2.alloc (.cells #[.int .i64 0, .int .i64 0] 92) = v3 := ⟨_, rfl⟩
          have hbv3 : Below v2.heap.size v2 v3 := hwv3 ▸ (Below.refl _ _).alloc (Nat.le_refl _) _
          have HX11v3 : Hid (v3.heap[v2.heap.size]? = some (.cells #[.int .i64 0, .int .i64 0] 92 (0, 0))) := by show _ = _; rw [← hwv3]; exact heap_alloc_new _ _
          have HAv3 := hid (HAv2.out.next hbv3)
          have HG11 : Hid (w.heap.size + 1 + 1 + 1 < v2.heap.size) := HAv2.out.mt.lt
          rw [hwv3]
          clear hwv3 hbv3
          refine hK.out _ _ (HS4.out _ (HAv3.out).sb) (fun hHeld => ?_)
          clear hK K
          try simp only [List.getElem_toArray, List.getElem_cons_succ, List.getElem_cons_zero, Act.put, List.setIfInBounds_toArray, List.set_cons_zero, List.set_cons_succ]
          refine OrdF.one (i := 5) rfl (by kernel_rfl) (fun K hK => ?_)
          try simp only [List.getElem_toArray, List.getElem_cons_succ, List.getElem_cons_zero, Act.put, List.setIfInBounds_toArray, List.set_cons_zero, List.set_cons_succ]
          go_simp
          obtain ⟨v4, hwv4⟩ : ∃ v4, v3.alloc (.cells #[.int .i64 0, .int .i64 0] 92) = v4 := ⟨_, rfl⟩
          have hbv4 : Below v3.heap.size v3 v4 := hwv4 ▸ (Below.refl _ _).alloc (Nat.le_refl _) _
          have HX12v4 : Hid (v4.heap[v3.heap.size]? = some (.cells #[.int .i64 0, .int .i64 0] 92 (0, 0))) := by show _ = _; rw [← hwv4]; exact heap_alloc_new _ _
          have HAv4 := hid (HAv3.out.next hbv4)
          have HG12 : Hid (w.heap.size + 1 + 1 + 1 < v3.heap.size) := HAv3.out.mt.lt
          have HX11v4 := hid (box_below HX11v3.out hbv4 (blk_lt HX11v3.out))
          have HNE : Hid (v2.heap.size ≠ v3.heap.size) := by have := blk_lt HX11v3.out; show _ ≠ _; omega
          rw [hwv4]
          clear hwv4 hbv4
          refine hK.out _ _ (HS4.out _ (HAv4.out).sb) (fun hHeld => ?_)
          clear hK K
          try simp only [List.getElem_toArray, List.getElem_cons_succ, List.getElem_cons_zero, Act.put, List.setIfInBounds_toArray, List.set_cons_zero, List.set_cons_succ]
          obtain ⟨b0, b1, bf⟩ := box_cells HX11v4.out
          have bf0 := bf 0
          have bf1 := bf 1
          clear bf
          refine OrdF.one (i := 6) rfl (by kernel_rfl) (fun K hK => ?_)
          try simp only [List.getElem_toArray, List.getElem_cons_succ, List.getElem_cons_zero, Act.put]
          go_simp
          have HX11e := hid (box_set1 (u := .int .i64 s2) (box_set0 (u := .int .i64 s1) HX11v4.out))
          have HX12e := hid (box_but HX12v4.out (But.set.trans But.set : But (v2.heap.size) v4 ((v4.setCell ⟨v2.heap.size, 0, none⟩ (.int .i64 s1)).setCell ⟨v2.heap.size, 1, none⟩ (.int .i64 s2))) (fun e => by have := HNE.out; omega))
          have HAe := hid (HAv4.out.set2 (u0 := .int .i64 s1) (u1 := .int .i64 s2) HG11.out)
          refine hK.out _ _ (HS4.out _ (HAe.out).sb) (fun hHeld => ?_)
          clear hK K
          try simp only [List.getElem_toArray, List.getElem_cons_succ, List.getElem_cons_zero, Act.put, List.setIfInBounds_toArray, List.set_cons_zero, List.set_cons_succ]
          obtain ⟨c0, c1, cf⟩ := box_cells HX12e.out
          have cf0 := cf 0
          have cf1 := cf 1
          clear cf b0 b1 bf0 bf1
          refine OrdF.last (n := 7) rfl (by kernel_rfl) (fun K hK => ?_)
          try simp only [List.getElem_toArray, List.getElem_cons_succ, List.getElem_cons_zero, Act.put]
          go_simp
          have HX12f := hid (box_set1 (u := .int .i64 g2) (box_set0 (u := .int .i64 g1) HX12e.out))
          have HX11f := hid (box_but HX11e.out (But.set.trans But.set : But (v3.heap.size) _ ((World.setCell _ ⟨v3.heap.size, 0, none⟩ (.int .i64 g1)).setCell ⟨v3.heap.size, 1, none⟩ (.int .i64 g2))) (fun e => by have := HNE.out; omega))
          have HAf := hid (HAe.out.set2 (u0 := .int .i64 g1) (u1 := .int .i64 g2) HG12.out)
          refine hK.out _ _ ?_
          clear hK K
          try simp only [List.getElem_toArray, List.getElem_cons_succ, List.getElem_cons_zero, Act.put, List.setIfInBounds_toArray, List.set_cons_zero, List.set_cons_succ]
          go_wp2_with fail
          go_meet
          exact ⟨_, _, rfl, rfl, HX11f.out, HX12f.out, HAf.out, HG11.out, HG12.out⟩
        · try simp only [List.getElem_toArray, List.getElem_cons_succ, List.getElem_cons_zero, Act.put, List.setIfInBounds_toArray, List.set_cons_zero, List.set_cons_succ]
          go_simp
          obtain ⟨v5, hwv5⟩ : ∃ v5, v2.alloc (.cells #[.int .i64 0, .int .i64 0] 92) = v5 := ⟨_, rfl⟩
          have hbv5 : Below v2.heap.size v2 v5 := hwv5 ▸ (Below.refl _ _).alloc (Nat.le_refl _) _
          have HX12v5 : Hid (v5.heap[v2.heap.size]? = some (.cells #[.int .i64 0, .int .i64 0] 92 (0, 0))) := by show _ = _; rw [← hwv5]; exact heap_alloc_new _ _
          have HAv5 := hid (HAv2.out.next hbv5)
          have HG12 : Hid (w.heap.size + 1 + 1 + 1 < v2.heap.size) := HAv2.out.mt.lt
          rw [hwv5]
          clear hwv5 hbv5
          refine hK.out _ _ (HS4.out _ (HAv5.out).sb) (fun hHeld => ?_)
          clear hK K
          try simp only [List.getElem_toArray, List.getElem_cons_succ, List.getElem_cons_zero, Act.put, List.setIfInBounds_toArray, List.set_cons_zero, List.set_cons_succ]
          refine OrdF.one (i := 4) rfl (by kernel_rfl) (fun K hK => ?_)
          try simp only [List.getElem_toArray, List.getElem_cons_succ, List.getElem_cons_zero, Act.put, List.setIfInBounds_toArray, List.set_cons_zero, List.set_cons_succ]
          go_simp
          obtain ⟨v6, hwv6⟩ : ∃ v6, v5.alloc (.cells #[.int .i64 0, .int .i64 0] 92) = v6 := ⟨_, rfl⟩
          have hbv6 : Below v5.heap.size v5 v6 := hwv6 ▸ (Below.refl _ _).alloc (Nat.le_refl _) _
          have HX11v6 : Hid (v6.heap[v5.heap.size]? = some (.cells #[.int .i64 0, .int .i64 0] 92 (0, 0))) := by show _ = _; rw [← hwv6]; exact heap_alloc_new _ _
          have HAv6 := hid (HAv5.out.next hbv6)
          have HG11 : Hid (w.heap.size + 1 + 1 + 1 < v5.heap.size) := HAv5.out.mt.lt
          have HX12v6 := hid (box_below HX12v5.out hbv6 (blk_lt HX12v5.out))
          have HNE : Hid (v2.heap.size ≠ v5.heap.size) := by have := blk_lt HX12v5.out; show _ ≠ _; omega
          rw [hwv6]
          clear hwv6 hbv6
          refine hK.out _ _ (HS4.out _ (HAv6.out).sb) (fun hHeld => ?_)
          clear hK K
          try simp only [List.getElem_toArray, List.getElem_cons_succ, List.getElem_cons_zero, Act.put, List.setIfInBounds_toArray, List.set_cons_zero, List.set_cons_succ]
          obtain ⟨b0, b1, bf⟩ := box_cells HX11v6.out
          have bf0 := bf 0
          have bf1 := bf 1
          clear bf
          refine OrdF.one (i := 6) rfl (by kernel_rfl) (fun K hK => ?_)
          try simp only [List.getElem_toArray, List.getElem_cons_succ, List.getElem_cons_zero, Act.put]
          go_simp
          have HX11e := hid (box_set1 (u := .int .i64 s2) (box_set0 (u := .int .i64 s1) HX11v6.out))
          have HX12e := hid (box_but HX12v6.out (But.set.trans But.set : But (v5.heap.size) v6 ((v6.setCell ⟨v5.heap.size, 0, none⟩ (.int .i64 s1)).setCell ⟨v5.heap.size, 1, none⟩ (.int .i64 s2))) (fun e => by have := HNE.out; omega))
          have HAe := hid (HAv6.out.set2 (u0 := .int .i64 s1) (u1 := .int .i64 s2) HG11.out)
          refine hK.out _ _ (HS4.out _ (HAe.out).sb) (fun hHeld => ?_)
          clear hK K
          try simp only [List.getElem_toArray, List.getElem_cons_succ, List.getElem_cons_zero, Act.put, List.setIfInBounds_toArray, List.set_cons_zero, List.set_cons_succ]
          obtain ⟨c0, c1, cf⟩ := box_cells HX12e.out
          have cf0 := cf 0
          have cf1 := cf 1
          clear cf b0 b1 bf0 bf1
          refine OrdF.last (n := 7) rfl (by kernel_rfl) (fun K hK => ?_)
          try simp only [List.getElem_toArray, List.getElem_cons_succ, List.getElem_cons_zero, Act.put]
          go_simp
          have HX12f := hid (box_set1 (u := .int .i64 g2) (box_set0 (u := .int .i64 g1) HX12e.out))
          have HX11f := hid (box_but HX11e.out (But.set.trans But.set : But (v2.heap.size) _ ((World.setCell _ ⟨v2.heap.size, 0, none⟩ (.int .i64 g1)).setCell ⟨v2.heap.size, 1, none⟩ (.int .i64 g2))) (fun e => by have := HNE.out; omega))
          have HAf := hid (HAe.out.set2 (u0 := .int .i64 g1) (u1 := .int .i64 g2) HG12.out)
          refine hK.out _ _ ?_
          clear hK K
          try simp only [List.getElem_toArray, List.getElem_cons_succ, List.getElem_cons_zero, Act.put, List.setIfInBounds_toArray, List.set_cons_zero, List.set_cons_succ]
          go_wp2_with fail
          go_meet
          exact ⟨_, _, rfl, rfl, HX11f.out, HX12f.out, HAf.out, HG11.out, HG12.out⟩
      · try simp only [List.getElem_toArray, List.getElem_cons_succ, List.getElem_cons_zero, Act.put, List.setIfInBounds_toArray, List.set_cons_zero, List.set_cons_succ]
        go_simp
        obtain ⟨v7, hwv7⟩ : ∃ v7, v1.alloc (.cells #[.int .i64 0, .int .i64 0] 92) = v7 := ⟨_, rfl⟩
        have hbv7 : Below v1.heap.size v1 v7 := hwv7 ▸ (Below.refl _ _).alloc (Nat.le_refl _) _
        have HX11v7 : Hid (v7.heap[v1.heap.size]? = some (.cells #[.int .i64 0, .int .i64 0] 92 (0, 0))) := by show _ = _; rw [← hwv7]; exact heap_alloc_new _ _
        have HAv7 := hid (HAv1.out.next hbv7)
        have HG11 : Hid (w.heap.size + 1 + 1 + 1 < v1.heap.size) := HAv1.out.mt.lt
        rw [hwv7]
        clear hwv7 hbv7
        refine hK.out _ _ (HS4.out _ (HAv7.out).sb) (fun hHeld => ?_)
        clear hK K
        try simp only [List.getElem_toArray, List.getElem_cons_succ, List.getElem_cons_zero, Act.put, List.setIfInBounds_toArray, List.set_cons_zero, List.set_cons_succ]
        refine OrdF.two (i := 3) (j := 5) rfl rfl (by kernel_rfl) (fun K hK => ?_) (fun K hK => ?_)
        · try simp only [List.getElem_toArray, List.getElem_cons_succ, List.getElem_cons_zero, Act.put, List.setIfInBounds_toArray, List.set_cons_zero, List.set_cons_succ]
          go_simp
          (go_at_call 47; (with_reducible refine (HGo.out _ HAv7.out).mono ?_); rintro e' v8 ⟨rfl, hbv8⟩; have HAv8 := hid (HAv7.out.next hbv8))
          have HX11v8 := hid (box_below HX11v7.out hbv8 (blk_lt HX11v7.out))
          clear hbv8
          try go_wp2_with fail
          refine hK.out _ _ (HS4.out _ (HAv8.out).sb) (fun hHeld => ?_)
          clear hK K
          try simp only [List.getElem_toArray, List.getElem_cons_succ, List.getElem_cons_zero, Act.put, List.setIfInBounds_toArray, List.set_cons_zero, List.set_cons_succ]
          refine OrdF.one (i := 5) rfl (by kernel_rfl) (fun K hK => ?_)
          try simp only [List.getElem_toArray, List.getElem_cons_succ, List.getElem_cons_zero, Act.put, List.setIfInBounds_toArray, List.set_cons_zero, List.set_cons_succ]
          go_simp
          obtain ⟨v9, hwv9⟩ : ∃ v9, v8.alloc (.cells #[.int .i64 0, .int .i64 0] 92) = v9 := ⟨_, rfl⟩
          have hbv9 : Below v8.heap.size v8 v9 := hwv9 ▸ (Below.refl _ _).alloc (Nat.le_refl _) _
          have HX12v9 : Hid (v9.heap[v8.heap.size]? = some (.cells #[.int .i64 0, .int .i64 0] 92 (0, 0))) := by show _ = _; rw [← hwv9]; exact heap_alloc_new _ _
          have HAv9 := hid (HAv8.out.next hbv9)
          have HG12 : Hid (w.heap.size + 1 + 1 + 1 < v8.heap.size) := HAv8.out.mt.lt
          have HX11v9 := hid (box_below HX11v8.out hbv9 (blk_lt HX11v8.out))
          have HNE : Hid (v1.heap.size ≠ v8.heap.size) := by have := blk_lt HX11v8.out; show _ ≠ _; omega
          rw [hwv9]
          clear hwv9 hbv9
          refine hK.out _ _ (HS4.out _ (HAv9.out).sb) (fun hHeld => ?_)
          clear hK K
          try simp only [List.getElem_toArray, List.getElem_cons_succ, List.getElem_cons_zero, Act.put, List.setIfInBounds_toArray, List.set_cons_zero, List.set_cons_succ]
          obtain ⟨b0, b1, bf⟩ := box_cells HX11v9.out
          have bf0 := bf 0
          have bf1 := bf 1
          clear bf
          refine OrdF.one (i := 6) rfl (by kernel_rfl) (fun K hK => ?_)
          try simp only [List.getElem_toArray, List.getElem_cons_succ, List.getElem_cons_zero, Act.put]
          go_simp
          have HX11e := hid (box_set1 (u := .int .i64 s2) (box_set0 (u := .int .i64 s1) HX11v9.out))
          have HX12e := hid (box_but HX12v9.out (But.set.trans But.set : But (v1.heap.size) v9 ((v9.setCell ⟨v1.heap.size, 0, none⟩ (.int .i64 s1)).setCell ⟨v1.heap.size, 1, none⟩ (.int .i64 s2))) (fun e => by have := HNE.out; omega))
          have HAe := hid (HAv9.out.set2 (u0 := .int .i64 s1) (u1 := .int .i64 s2) HG11.out)
          refine hK.out _ _ (HS4.out _ (HAe.out).sb) (fun hHeld => ?_)
          clear hK K
          try simp only [List.getElem_toArray, List.getElem_cons_succ, List.getElem_cons_zero, Act.put, List.setIfInBounds_toArray, List.set_cons_zero, List.set_cons_succ]
          obtain ⟨c0, c1, cf⟩ := box_cells HX12e.out
          have cf0 := cf 0
          have cf1 := cf 1
          clear cf b0 b1 bf0 bf1
          refine OrdF.last (n := 7) rfl (by kernel_rfl) (fun K hK => ?_)
          try simp only [List.getElem_toArray, List.getElem_cons_succ, List.getElem_cons_zero, Act.put]
          go_simp
          have HX12f := hid (box_set1 (u := .int .i64 g2) (box_set0 (u := .int .i64 g1) HX12e.out))
          have HX11f := hid (box_but HX11e.out (But.set.trans But.set : But (v8.heap.size) _ ((World.setCell _ ⟨v8.heap.size, 0, none⟩ (.int .i64 g1)).setCell ⟨v8.heap.size, 1, none⟩ (.int .i64 g2))) (fun e => by have := HNE.out; omega))
          have HAf := hid (HAe.out.set2 (u0 := .int .i64 g1) (u1 := .int .i64 g2) HG12.out)
          refine hK.out _ _ ?_
          clear hK K
          try simp only [List.getElem_toArray, List.getElem_cons_succ, List.getElem_cons_zero, Act.put, List.setIfInBounds_toArray, List.set_cons_zero, List.set_cons_succ]
          go_wp2_with fail
          go_meet
          exact ⟨_, _, rfl, rfl, HX11f.out, HX12f.out, HAf.out, HG11.out, HG12.out⟩
        · try simp only [List.getElem_toArray, List.getElem_cons_succ, List.getElem_cons_zero, Act.put, List.setIfInBounds_toArray, List.set_cons_zero, List.set_cons_succ]
          go_simp
          obtain ⟨v10, hwv10⟩ : ∃ v10, v7.alloc (.cells #[.int .i64 0, .int .i64 0] 92) = v10 := ⟨_, rfl⟩
          have hbv10 : Below v7.heap.size v7 v10 := hwv10 ▸ (Below.refl _ _).alloc (Nat.le_refl _) _
          have HX12v10 : Hid (v10.heap[v7.heap.size]? = some (.cells #[.int .i64 0, .int .i64 0] 92 (0, 0))) := by show _ = _; rw [← hwv10]; exact heap_alloc_new _ _
          have HAv10 := hid (HAv7.out.next hbv10)
          have HG12 : Hid (w.heap.size + 1 + 1 + 1 < v7.heap.size) := HAv7.out.mt.lt
          have HX11v10 := hid (box_below HX11v7.out hbv10 (blk_lt HX11v7.out))
          have HNE : Hid (v1.heap.size ≠ v7.heap.size) := by have := blk_lt HX11v7.out; show _ ≠ _; omega
          rw [hwv10]
          clear hwv10 hbv10
          refine hK.out _ _ (HS4.out _ (HAv10.out).sb) (fun hHeld => ?_)
          clear hK K
          try simp only [List.getElem_toArray, List.getElem_cons_succ, List.getElem_cons_zero, Act.put, List.setIfInBounds_toArray, List.set_cons_zero, List.set_cons_succ]
          refine OrdF.one (i := 3) rfl (by kernel_rfl) (fun K hK => ?_)
          try simp only [List.getElem_toArray, List.getElem_cons_succ, List.getElem_cons_zero, Act.put, List.setIfInBounds_toArray, List.set_cons_zero, List.set_cons_succ]
          go_simp
          (go_at_call 47; (with_reducible refine (HGo.out _ HAv10.out).mono ?_); rintro e' v11 ⟨rfl, hbv11⟩; have HAv11 := hid (HAv10.out.next hbv11))
          have HX11v11 := hid (box_below HX11v10.out hbv11 (blk_lt HX11v10.out))
          have HX12v11 := hid (box_below HX12v10.out hbv11 (blk_lt HX12v10.out))
          clear hbv11
          try go_wp2_with fail
          refine hK.out _ _ (HS4.out _ (HAv11.out).sb) (fun hHeld => ?_)
          clear hK K
          try simp only [List.getElem_toArray, List.getElem_cons_succ, List.getElem_cons_zero, Act.put, List.setIfInBounds_toArray, List.set_cons_zero, List.set_cons_succ]
          obtain ⟨b0, b1, bf⟩ := box_cells HX11v11.out
          have bf0 := bf 0
          have bf1 := bf 1
          clear bf
          refine OrdF.one (i := 6) rfl (by kernel_rfl) (fun K hK => ?_)
          try simp only [List.getElem_toArray, List.getElem_cons_succ, List.getElem_cons_zero, Act.put]
          go_simp
          have HX11e := hid (box_set1 (u := .int .i64 s2) (box_set0 (u := .int .i64 s1) HX11v11.out))
          have HX12e := hid (box_but HX12v11.out (But.set.trans But.set : But (v1.heap.size) v11 ((v11.setCell ⟨v1.heap.size, 0, none⟩ (.int .i64 s1)).setCell ⟨v1.heap.size, 1, none⟩ (.int .i64 s2))) (fun e => by have := HNE.out; omega))
          have HAe := hid (HAv11.out.set2 (u0 := .int .i64 s1) (u1 := .int .i64 s2) HG11.out)
          refine hK.out _ _ (HS4.out _ (HAe.out).sb) (fun hHeld => ?_)
          clear hK K
          try simp only [List.getElem_toArray, List.getElem_cons_succ, List.getElem_cons_zero, Act.put, List.setIfInBounds_toArray, List.set_cons_zero, List.set_cons_succ]
          obtain ⟨c0, c1, cf⟩ := box_cells HX12e.out
          have cf0 := cf 0
          have cf1 := cf 1
          clear cf b0 b1 bf0 bf1
          refine OrdF.last (n := 7) rfl (by kernel_rfl) (fun K hK => ?_)
          try simp only [List.getElem_toArray, List.getElem_cons_succ, List.getElem_cons_zero, Act.put]
          go_simp
          have HX12f := hid (box_set1 (u := .int .i64 g2) (box_set0 (u := .int .i64 g1) HX12e.out))
          have HX11f := hid (box_but HX11e.out (But.set.trans But.set : But (v7.heap.size) _ ((World.setCell _ ⟨v7.heap.size, 0, none⟩ (.int .i64 g1)).setCell ⟨v7.heap.size, 1, none⟩ (.int .i64 g2))) (fun e => by have := HNE.out; omega))
          have HAf := hid (HAe.out.set2 (u0 := .int .i64 g1) (u1 := .int .i64 g2) HG12.out)
          refine hK.out _ _ ?_
          clear hK K
          try simp only [List.getElem_toArray, List.getElem_cons_succ, List.getElem_cons_zero, Act.put, List.setIfInBounds_toArray, List.set_cons_zero, List.set_cons_succ]
          go_wp2_with fail
          go_meet
          exact ⟨_, _, rfl, rfl, HX11f.out, HX12f.out, HAf.out, HG11.out, HG12.out⟩
      · try simp only [List.getElem_toArray, List.getElem_cons_succ, List.getElem_cons_zero, Act.put, List.setIfInBounds_toArray, List.set_cons_zero, List.set_cons_succ]
        go_simp
        obtain ⟨v12, hwv12⟩ : ∃ v12, v1.alloc (.cells #[.int .i64 0, .int .i64 0] 92) = v12 := ⟨_, rfl⟩
        have hbv12 : Below v1.heap.size v1 v12 := hwv12 ▸ (Below.refl _ _).alloc (Nat.le_refl _) _
        have HX12v12 : Hid (v12.heap[v1.heap.size]? = some (.cells #[.int .i64 0, .int .i64 0] 92 (0, 0))) := by show _ = _; rw [← hwv12]; exact heap_alloc_new _ _
        have HAv12 := hid (HAv1.out.next hbv12)
        have HG12 : Hid (w.heap.size + 1 + 1 + 1 < v1.heap.size) := HAv1.out.mt.lt
        rw [hwv12]
        clear hwv12 hbv12
        refine hK.out _ _ (HS4.out _ (HAv12.out).sb) (fun hHeld => ?_)
        clear hK K
        try simp only [List.getElem_toArray, List.getElem_cons_succ, List.getElem_cons_zero, Act.put, List.setIfInBounds_toArray, List.set_cons_zero, List.set_cons_succ]
        refine OrdF.two (i := 3) (j := 4) rfl rfl (by kernel_rfl) (fun K hK => ?_) (fun K hK => ?_)
        · try simp only [List.getElem_toArray, List.getElem_cons_succ, List.getElem_cons_zero, Act.put, List.setIfInBounds_toArray, List.set_cons_zero, List.set_cons_succ]
          go_simp
          (go_at_call 47; (with_reducible refine (HGo.out _ HAv12.out).mono ?_); rintro e' v13 ⟨rfl, hbv13⟩; have HAv13 := hid (HAv12.out.next hbv13))
          have HX12v13 := hid (box_below HX12v12.out hbv13 (blk_lt HX12v12.out))
          clear hbv13
          try go_wp2_with fail
          refine hK.out _ _ (HS4.out _ (HAv13.out).sb) (fun hHeld => ?_)
          clear hK K
          try simp only [List.getElem_toArray, List.getElem_cons_succ, List.getElem_cons_zero, Act.put, List.setIfInBounds_toArray, List.set_cons_zero, List.set_cons_succ]
          refine OrdF.one (i := 4) rfl (by kernel_rfl) (fun K hK => ?_)
          try simp only [List.getElem_toArray, List.getElem_cons_succ, List.getElem_cons_zero, Act.put, List.setIfInBounds_toArray, List.set_cons_zero, List.set_cons_succ]
          go_simp
          obtain ⟨v14, hwv14⟩ : ∃ v14, v13.alloc (.cells #[.int .i64 0, .int .i64 0] 92) = v14 := ⟨_, rfl⟩
          have hbv14 : Below v13.heap.size v13 v14 := hwv14 ▸ (Below.refl _ _).alloc (Nat.le_refl _) _
          have HX11v14 : Hid (v14.heap[v13.heap.size]? = some (.cells #[.int .i64 0, .int .i64 0] 92 (0, 0))) := by show _ = _; rw [← hwv14]; exact heap_alloc_new _ _
          have HAv14 := hid (HAv13.out.next hbv14)
          have HG11 : Hid (w.heap.size + 1 + 1 + 1 < v13.heap.size) := HAv13.out.mt.lt
          have HX12v14 := hid (box_below HX12v13.out hbv14 (blk_lt HX12v13.out))
          have HNE : Hid (v1.heap.size ≠ v13.heap.size) := by have := blk_lt HX12v13.out; show _ ≠ _; omega
          rw [hwv14]
          clear hwv14 hbv14
          refine hK.out _ _ (HS4.out _ (HAv14.out).sb) (fun hHeld => ?_)
          clear hK K
          try simp only [List.getElem_toArray, List.getElem_cons_succ, List.getElem_cons_zero, Act.put, List.setIfInBounds_toArray, List.set_cons_zero, List.set_cons_succ]
          obtain ⟨b0, b1, bf⟩ := box_cells HX11v14.out
          have bf0 := bf 0
          have bf1 := bf 1
          clear bf
          refine OrdF.one (i := 6) rfl (by kernel_rfl) (fun K hK => ?_)
          try simp only [List.getElem_toArray, List.getElem_cons_succ, List.getElem_cons_zero, Act.put]
          go_simp
          have HX11e := hid (box_set1 (u := .int .i64 s2) (box_set0 (u := .int .i64 s1) HX11v14.out))
          have HX12e := hid (box_but HX12v14.out (But.set.trans But.set : But (v13.heap.size) v14 ((v14.setCell ⟨v13.heap.size, 0, none⟩ (.int .i64 s1)).setCell ⟨v13.heap.size, 1, none⟩ (.int .i64 s2))) (fun e => by have := HNE.out; omega))
          have HAe := hid (HAv14.out.set2 (u0 := .int .i64 s1) (u1 := .int .i64 s2) HG11.out)
          refine hK.out _ _ (HS4.out _ (HAe.out).sb) (fun hHeld => ?_)
          clear hK K
          try simp only [List.getElem_toArray, List.getElem_cons_succ, List.getElem_cons_zero, Act.put, List.setIfInBounds_toArray, List.set_cons_zero, List.set_cons_succ]
          obtain ⟨c0, c1, cf⟩ := box_cells HX12e.out
          have cf0 := cf 0
          have cf1 := cf 1
          clear cf b0 b1 bf0 bf1
          refine OrdF.last (n := 7) rfl (by kernel_rfl) (fun K hK => ?_)
          try simp only [List.getElem_toArray, List.getElem_cons_succ, List.getElem_cons_zero, Act.put]
          go_simp
          have HX12f := hid (box_set1 (u := .int .i64 g2) (box_set0 (u := .int .i64 g1) HX12e.out))
          have HX11f := hid (box_but HX11e.out (But.set.trans But.set : But (v1.heap.size) _ ((World.setCell _ ⟨v1.heap.size, 0, none⟩ (.int .i64 g1)).setCell ⟨v1.heap.size, 1, none⟩ (.int .i64 g2))) (fun e => by have := HNE.out; omega))
          have HAf := hid (HAe.out.set2 (u0 := .int .i64 g1) (u1 := .int .i64 g2) HG12.out)
          refine hK.out _ _ ?_
          clear hK K
          try simp only [List.getElem_toArray, List.getElem_cons_succ, List.getElem_cons_zero, Act.put, List.setIfInBounds_toArray, List.set_cons_zero, List.set_cons_succ]
          go_wp2_with fail
          go_meet
          exact ⟨_, _, rfl, rfl, HX11f.out, HX12f.out, HAf.out, HG11.out, HG12.out⟩
        · try simp only [List.getElem_toArray, List.getElem_cons_succ, List.getElem_cons_zero, Act.put, List.setIfInBounds_toArray, List.set_cons_zero, List.set_cons_succ]
          go_simp
          obtain ⟨v15, hwv15⟩ : ∃ v15, v12.alloc (.cells #[.int .i64 0, .int .i64 0] 92) = v15 := ⟨_, rfl⟩
          have hbv15 : Below v12.heap.size v12 v15 := hwv15 ▸ (Below.refl _ _).alloc (Nat.le_refl _) _
          have HX11v15 : Hid (v15.heap[v12.heap.size]? = some (.cells #[.int .i64 0, .int .i64 0] 92 (0, 0))) := by show _ = _; rw [← hwv15]; exact heap_alloc_new _ _
          have HAv15 := hid (HAv12.out.next hbv15)
          have HG11 : Hid (w.heap.size + 1 + 1 + 1 < v12.heap.size) := HAv12.out.mt.lt
          have HX12v15 := hid (box_below HX12v12.out hbv15 (blk_lt HX12v12.out))
          have HNE : Hid (v1.heap.size ≠ v12.heap.size) := by have := blk_lt HX12v12.out; show _ ≠ _; omega
          rw [hwv15]
          clear hwv15 hbv15
          refine hK.out _ _ (HS4.out _ (HAv15.out).sb) (fun hHeld => ?_)
          clear hK K
          try simp only [List.getElem_toArray, List.getElem_cons_succ, List.getElem_cons_zero, Act.put, List.setIfInBounds_toArray, List.set_cons_zero, List.set_cons_succ]
          refine OrdF.one (i := 3) rfl (by kernel_rfl) (fun K hK => ?_)
          try simp only [List.getElem_toArray, List.getElem_cons_succ, List.getElem_cons_zero, Act.put, List.setIfInBounds_toArray, List.set_cons_zero, List.set_cons_succ]
          go_simp
          (go_at_call 47; (with_reducible refine (HGo.out _ HAv15.out).mono ?_); rintro e' v16 ⟨rfl, hbv16⟩; have HAv16 := hid (HAv15.out.next hbv16))
          have HX12v16 := hid (box_below HX12v15.out hbv16 (blk_lt HX12v15.out))
          have HX11v16 := hid (box_below HX11v15.out hbv16 (blk_lt HX11v15.out))
          clear hbv16
          try go_wp2_with fail
          refine hK.out _ _ (HS4.out _ (HAv16.out).sb) (fun hHeld => ?_)
          clear hK K
          try simp only [List.getElem_toArray, List.getElem_cons_succ, List.getElem_cons_zero, Act.put, List.setIfInBounds_toArray, List.set_cons_zero, List.set_cons_succ]
          obtain ⟨b0, b1, bf⟩ := box_cells HX11v16.out
          have bf0 := bf 0
          have bf1 := bf 1
          clear bf
          refine OrdF.one (i := 6) rfl (by kernel_rfl) (fun K hK => ?_)
          try simp only [List.getElem_toArray, List.getElem_cons_succ, List.getElem_cons_zero, Act.put]
          go_simp
          have HX11e := hid (box_set1 (u := .int .i64 s2) (box_set0 (u := .int .i64 s1) HX11v16.out))
          have HX12e := hid (box_but HX12v16.out (But.set.trans But.set : But (v12.heap.size) v16 ((v16.setCell ⟨v12.heap.size, 0, none⟩ (.int .i64 s1)).setCell ⟨v12.heap.size, 1, none⟩ (.int .i64 s2))) (fun e => by have := HNE.out; omega))
          have HAe := hid (HAv16.out.set2 (u0 := .int .i64 s1) (u1 := .int .i64 s2) HG11.out)
          refine hK.out _ _ (HS4.out _ (HAe.out).sb) (fun hHeld => ?_)
          clear hK K
          try simp only [List.getElem_toArray, List.getElem_cons_succ, List.getElem_cons_zero, Act.put, List.setIfInBounds_toArray, List.set_cons_zero, List.set_cons_succ]
          obtain ⟨c0, c1, cf⟩ := box_cells HX12e.out
          have cf0 := cf 0
          have cf1 := cf 1
          clear cf b0 b1 bf0 bf1
          refine OrdF.last (n := 7) rfl (by kernel_rfl) (fun K hK => ?_)
          try simp only [List.getElem_toArray, List.getElem_cons_succ, List.getElem_cons_zero, Act.put]
          go_simp
          have HX12f := hid (box_set1 (u := .int .i64 g2) (box_set0 (u := .int .i64 g1) HX12e.out))
          have HX11f := hid (box_but HX11e.out (But.set.trans But.set : But (v1.heap.size) _ ((World.setCell _ ⟨v1.heap.size, 0, none⟩ (.int .i64 g1)).setCell ⟨v1.heap.size, 1, none⟩ (.int .i64 g2))) (fun e => by have := HNE.out; omega))
          have HAf := hid (HAe.out.set2 (u0 := .int .i64 g1) (u1 := .int .i64 g2) HG12.out)
          refine hK.out _ _ ?_
          clear hK K
          try simp only [List.getElem_toArray, List.getElem_cons_succ, List.getElem_cons_zero, Act.put, List.setIfInBounds_toArray, List.set_cons_zero, List.set_cons_succ]
          go_wp2_with fail
          go_meet
          exact ⟨_, _, rfl, rfl, HX11f.out, HX12f.out, HAf.out, HG11.out, HG12.out⟩
    · try simp only [List.getElem_toArray, List.getElem_cons_succ, List.getElem_cons_zero, Act.put, List.setIfInBounds_toArray, List.set_cons_zero, List.set_cons_succ]
      go_simp
      obtain ⟨v17, hwv17⟩ : ∃ v17, wq.alloc (.cells #[.int .i64 0, .int .i64 0] 92) = v17 := ⟨_, rfl⟩
      have hbv17 : Below wq.heap.size wq v17 := hwv17 ▸ (Below.refl _ _).alloc (Nat.le_refl _) _
      have HX11v17 : Hid (v17.heap[wq.heap.size]? = some (.cells #[.int .i64 0, .int .i64 0] 92 (0, 0))) := by show _ = _; rw [← hwv17]; exact heap_alloc_new _ _
      have HAv17 := hid (HAwq.out.next hbv17)
      have HG11 : Hid (w.heap.size + 1 + 1 + 1 < wq.heap.size) := HAwq.out.mt.lt
      rw [hwv17]
      clear hwv17 hbv17
      refine hK.out _ _ (HS4.out _ (HAv17.out).sb) (fun hHeld => ?_)
      clear hK K
      try simp only [List.getElem_toArray, List.getElem_cons_succ, List.getElem_cons_zero, Act.put, List.setIfInBounds_toArray, List.set_cons_zero, List.set_cons_succ]
      refine OrdF.two (i := 1) (j := 5) rfl rfl (by kernel_rfl) (fun K hK => ?_) (fun K hK => ?_)
      · try simp only [List.getElem_toArray, List.getElem_cons_succ, List.getElem_cons_zero, Act.put, List.setIfInBounds_toArray, List.set_cons_zero, List.set_cons_succ]
        go_simp
        (go_at_call 46; (with_reducible refine (HSt.out _ HAv17.out).mono ?_); rintro e' v18 ⟨rfl, hbv18⟩; have HAv18 := hid (HAv17.out.next hbv18))
        have HX11v18 := hid (box_below HX11v17.out hbv18 (blk_lt HX11v17.out))
        clear hbv18
        try go_wp2_with fail
        refine hK.out _ _ (HS4.out _ (HAv18.out).sb) (fun hHeld => ?_)
        clear hK K
        try simp only [List.getElem_toArray, List.getElem_cons_succ, List.getElem_cons_zero, Act.put, List.setIfInBounds_toArray, List.set_cons_zero, List.set_cons_succ]
        refine OrdF.two (i := 3) (j := 5) rfl rfl (by kernel_rfl) (fun K hK => ?_) (fun K hK => ?_)
        · try simp only [List.getElem_toArray, List.getElem_cons_succ, List.getElem_cons_zero, Act.put, List.setIfInBounds_toArray, List.set_cons_zero, List.set_cons_succ]
          go_simp
          (go_at_call 47; (with_reducible refine (HGo.out _ HAv18.out).mono ?_); rintro e' v19 ⟨rfl, hbv19⟩; have HAv19 := hid (HAv18.out.next hbv19))
          have HX11v19 := hid (box_below HX11v18.out hbv19 (blk_lt HX11v18.out))
          clear hbv19
          try go_wp2_with fail
          refine hK.out _ _ (HS4.out _ (HAv19.out).sb) (fun hHeld => ?_)
          clear hK K
          try simp only [List.getElem_toArray, List.getElem_cons_succ, List.getElem_cons_zero, Act.put, List.setIfInBounds_toArray, List.set_cons_zero, List.set_cons_succ]
          refine OrdF.one (i := 5) rfl (by kernel_rfl) (fun K hK => ?_)
          try simp only [List.getElem_toArray, List.getElem_cons_succ, List.getElem_cons_zero, Act.put, List.setIfInBounds_toArray, List.set_cons_zero, List.set_cons_succ]
          go_simp
          obtain ⟨v20, hwv20⟩ : ∃ v20, v19.alloc (.cells #[.int .i64 0, .int .i64 0] 92) = v20 := ⟨_, rfl⟩
          have hbv20 : Below v19.heap.size v19 v20 := hwv20 ▸ (Below.refl _ _).alloc (Nat.le_refl _) _
          have HX12v20 : Hid (v20.heap[v19.heap.size]? = some (.cells #[.int .i64 0, .int .i64 0] 92 (0, 0))) := by show _ = _; rw [← hwv20]; exact heap_alloc_new _ _
          have HAv20 := hid (HAv19.out.next hbv20)
          have HG12 : Hid (w.heap.size + 1 + 1 + 1 < v19.heap.size) := HAv19.out.mt.lt
          have HX11v20 := hid (box_below HX11v19.out hbv20 (blk_lt HX11v19.out))
          have HNE : Hid (wq.heap.size ≠ v19.heap.size) := by have := blk_lt HX11v19.out; show _ ≠ _; omega
          rw [hwv20]
          clear hwv20 hbv20
          refine hK.out _ _ (HS4.out _ (HAv20.out).sb) (fun hHeld => ?_)
          clear hK K
          try simp only [List.getElem_toArray, List.getElem_cons_succ, List.getElem_cons_zero, Act.put, List.setIfInBounds_toArray, List.set_cons_zero, List.set_cons_succ]
          obtain ⟨b0, b1, bf⟩ := box_cells HX11v20.out
          have bf0 := bf 0
          have bf1 := bf 1
          clear bf
          refine OrdF.one (i := 6) rfl (by kernel_rfl) (fun K hK => ?_)
          try simp only [List.getElem_toArray, List.getElem_cons_succ, List.getElem_cons_zero, Act.put]
          go_simp
          have HX11e := hid (box_set1 (u := .int .i64 s2) (box_set0 (u := .int .i64 s1) HX11v20.out))
          have HX12e := hid (box_but HX12v20.out (But.set.trans But.set : But (wq.heap.size) v20 ((v20.setCell ⟨wq.heap.size, 0, none⟩ (.int .i64 s1)).setCell ⟨wq.heap.size, 1, none⟩ (.int .i64 s2))) (fun e => by have := HNE.out; omega))
          have HAe := hid (HAv20.out.set2 (u0 := .int .i64 s1) (u1 := .int .i64 s2) HG11.out)
          refine hK.out _ _ (HS4.out _ (HAe.out).sb) (fun hHeld => ?_)
          clear hK K
          try simp only [List.getElem_toArray, List.getElem_cons_succ, List.getElem_cons_zero, Act.put, List.setIfInBounds_toArray, List.set_cons_zero, List.set_cons_succ]
          obtain ⟨c0, c1, cf⟩ := box_cells HX12e.out
          have cf0 := cf 0
          have cf1 := cf 1
          clear cf b0 b1 bf0 bf1
          refine OrdF.last (n := 7) rfl (by kernel_rfl) (fun K hK => ?_)
          try simp only [List.getElem_toArray, List.getElem_cons_succ, List.getElem_cons_zero, Act.put]
          go_simp
          have HX12f := hid (box_set1 (u := .int .i64 g2) (box_set0 (u := .int .i64 g1) HX12e.out))
          have HX11f := hid (box_but HX11e.out (But.set.trans But.set : But (v19.heap.size) _ ((World.setCell _ ⟨v19.heap.size, 0, none⟩ (.int .i64 g1)).setCell ⟨v19.heap.size, 1, none⟩ (.int .i64 g2))) (fun e => by have := HNE.out; omega))
          have HAf := hid (HAe.out.set2 (u0 := .int .i64 g1) (u1 := .int .i64 g2) HG12.out)
          refine hK.out _ _ ?_
          clear hK K
          try simp only [List.getElem_toArray, List.getElem_cons_succ, List.getElem_cons_zero, Act.put, List.setIfInBounds_toArray, List.set_cons_zero, List.set_cons_succ]
          go_wp2_with fail
          go_meet
          exact ⟨_, _, rfl, rfl, HX11f.out, HX12f.out, HAf.out, HG11.out, HG12.out⟩
        · try simp only [List.getElem_toArray, List.getElem_cons_succ, List.getElem_cons_zero, Act.put, List.setIfInBounds_toArray, List.set_cons_zero, List.set_cons_succ]
          go_simp
          obtain ⟨v21, hwv21⟩ : ∃ v21, v18.alloc (.cells #[.int .i64 0, .int .i64 0] 92) = v21 := ⟨_, rfl⟩
          have hbv21 : Below v18.heap.size v18 v21 := hwv21 ▸ (Below.refl _ _).alloc (Nat.le_refl _) _
          have HX12v21 : Hid (v21.heap[v18.heap.size]? = some (.cells #[.int .i64 0, .int .i64 0] 92 (0, 0))) := by show _ = _; rw [← hwv21]; exact heap_alloc_new _ _
          have HAv21 := hid (HAv18.out.next hbv21)
          have HG12 : Hid (w.heap.size + 1 + 1 + 1 < v18.heap.size) := HAv18.out.mt.lt
          have HX11v21 := hid (box_below HX11v18.out hbv21 (blk_lt HX11v18.out))
          have HNE : Hid (wq.heap.size ≠ v18.heap.size) := by have := blk_lt HX11v18.out; show _ ≠ _; omega
          rw [hwv21]
          clear hwv21 hbv21
          refine hK.out _ _ (HS4.out _ (HAv21.out).sb) (fun hHeld => ?_)
          clear hK K
          try simp only [List.getElem_toArray, List.getElem_cons_succ, List.getElem_cons_zero, Act.put, List.setIfInBounds_toArray, List.set_cons_zero, List.set_cons_succ]
          refine OrdF.one (i := 3) rfl (by kernel_rfl) (fun K hK => ?_)
          try simp only [List.getElem_toArray, List.getElem_cons_succ, List.getElem_cons_zero, Act.put, List.setIfInBounds_toArray, List.set_cons_zero, List.set_cons_succ]
          go_simp
          (go_at_call 47; (with_reducible refine (HGo.out _ HAv21.out).mono ?_); rintro e' v22 ⟨rfl, hbv22⟩; have HAv22 := hid (HAv21.out.next hbv22))
          have HX11v22 := hid (box_below HX11v21.out hbv22 (blk_lt HX11v21.out))
          have HX12v22 := hid (box_below HX12v21.out hbv22 (blk_lt HX12v21.out))
          clear hbv22
          try go_wp2_with fail
          refine hK.out _ _ (HS4.out _ (HAv22.out).sb) (fun hHeld => ?_)
          clear hK K
          try simp only [List.getElem_toArray, List.getElem_cons_succ, List.getElem_cons_zero, Act.put, List.setIfInBounds_toArray, List.set_cons_zero, List.set_cons_succ]
          obtain ⟨b0, b1, bf⟩ := box_cells HX11v22.out
          have bf0 := bf 0
          have bf1 := bf 1
          clear bf
          refine OrdF.one (i := 6) rfl (by kernel_rfl) (fun K hK => ?_)
          try simp only [List.getElem_toArray, List.getElem_cons_succ, List.getElem_cons_zero, Act.put]
          go_simp
          have HX11e := hid (box_set1 (u := .int .i64 s2) (box_set0 (u := .int .i64 s1) HX11v22.out))
          have HX12e := hid (box_but HX12v22.out (But.set.trans But.set : But (wq.heap.size) v22 ((v22.setCell ⟨wq.heap.size, 0, none⟩ (.int .i64 s1)).setCell ⟨wq.heap.size, 1, none⟩ (.int .i64 s2))) (fun e => by have := HNE.out; omega))
          have HAe := hid (HAv22.out.set2 (u0 := .int .i64 s1) (u1 := .int .i64 s2) HG11.out)
          refine hK.out _ _ (HS4.out _ (HAe.out).sb) (fun hHeld => ?_)
          clear hK K
          try simp only [List.getElem_toArray, List.getElem_cons_succ, List.getElem_cons_zero, Act.put, List.setIfInBounds_toArray, List.set_cons_zero, List.set_cons_succ]
          obtain ⟨c0, c1, cf⟩ := box_cells HX12e.out
          have cf0 := cf 0
          have cf1 := cf 1
          clear cf b0 b1 bf0 bf1
          refine OrdF.last (n := 7) rfl (by kernel_rfl) (fun K hK => ?_)
          try simp only [List.getElem_toArray, List.getElem_cons_succ, List.getElem_cons_zero, Act.put]
          go_simp
          have HX12f := hid (box_set1 (u := .int .i64 g2) (box_set0 (u := .int .i64 g1) HX12e.out))
          have HX11f := hid (box_but HX11e.out (But.set.trans But.set : But (v18.heap.size) _ ((World.setCell _ ⟨v18.heap.size, 0, none⟩ (.int .i64 g1)).setCell ⟨v18.heap.size, 1, none⟩ (.int .i64 g2))) (fun e => by have := HNE.out; omega))
          have HAf := hid (HAe.out.set2 (u0 := .int .i64 g1) (u1 := .int .i64 g2) HG12.out)
          refine hK.out _ _ ?_
          clear hK K
          try simp only [List.getElem_toArray, List.getElem_cons_succ, List.getElem_cons_zero, Act.put, List.setIfInBounds_toArray, List.set_cons_zero, List.set_cons_succ]
          go_wp2_with fail
          go_meet
          exact ⟨_, _, rfl, rfl, HX11f.out, HX12f.out, HAf.out, HG11.out, HG12.out⟩
      · try simp only [List.getElem_toArray, List.getElem_cons_succ, List.getElem_cons_zero, Act.put, List.setIfInBounds_toArray, List.set_cons_zero, List.set_cons_succ]
        go_simp
        obtain ⟨v23, hwv23⟩ : ∃ v23, v17.alloc (.cells #[.int .i64 0, .int .i64 0] 92) = v23 := ⟨_, rfl⟩
        have hbv23 : Below v17.heap.size v17 v23 := hwv23 ▸ (Below.refl _ _).alloc (Nat.le_refl _) _
        have HX12v23 : Hid (v23.heap[v17.heap.size]? = some (.cells #[.int .i64 0, .int .i64 0] 92 (0, 0))) := by show _ = _; rw [← hwv23]; exact heap_alloc_new _ _
        have HAv23 := hid (HAv17.out.next hbv23)
        have HG12 : Hid (w.heap.size + 1 + 1 + 1 < v17.heap.size) := HAv17.out.mt.lt
        have HX11v23 := hid (box_below HX11v17.out hbv23 (blk_lt HX11v17.out))
        have HNE : Hid (wq.heap.size ≠ v17.heap.size) := by have := blk_lt HX11v17.out; show _ ≠ _; omega
        rw [hwv23]
        clear hwv23 hbv23
        refine hK.out _ _ (HS4.out _ (HAv23.out).sb) (fun hHeld => ?_)
        clear hK K
        try simp only [List.getElem_toArray, List.getElem_cons_succ, List.getElem_cons_zero, Act.put, List.setIfInBounds_toArray, List.set_cons_zero, List.set_cons_succ]
        refine OrdF.one (i := 1) rfl (by kernel_rfl) (fun K hK => ?_)
        try simp only [List.getElem_toArray, List.getElem_cons_succ, List.getElem_cons_zero, Act.put, List.setIfInBounds_toArray, List.set_cons_zero, List.set_cons_succ]
        go_simp
        (go_at_call 46; (with_reducible refine (HSt.out _ HAv23.out).mono ?_); rintro e' v24 ⟨rfl, hbv24⟩; have HAv24 := hid (HAv23.out.next hbv24))
        have HX11v24 := hid (box_below HX11v23.out hbv24 (blk_lt HX11v23.out))
        have HX12v24 := hid (box_below HX12v23.out hbv24 (blk_lt HX12v23.out))
        clear hbv24
        try go_wp2_with fail
        refine hK.out _ _ (HS4.out _ (HAv24.out).sb) (fun hHeld => ?_)
        clear hK K
        try simp only [List.getElem_toArray, List.getElem_cons_succ, List.getElem_cons_zero, Act.put, List.setIfInBounds_toArray, List.set_cons_zero, List.set_cons_succ]
        refine OrdF.one (i := 3) rfl (by kernel_rfl) (fun K hK => ?_)
        try simp only [List.getElem_toArray, List.getElem_cons_succ, List.getElem_cons_zero, Act.put, List.setIfInBounds_toArray, List.set_cons_zero, List.set_cons_succ]
        go_simp
        (go_at_call 47; (with_reducible refine (HGo.out _ HAv24.out).mono ?_); rintro e' v25 ⟨rfl, hbv25⟩; have HAv25 := hid (HAv24.out.next hbv25))
        have HX11v25 := hid (box_below HX11v24.out hbv25 (blk_lt HX11v24.out))
        have HX12v25 := hid (box_below HX12v24.out hbv25 (blk_lt HX12v24.out))
        clear hbv25
        try go_wp2_with fail
        refine hK.out _ _ (HS4.out _ (HAv25.out).sb) (fun hHeld => ?_)
        clear hK K
        try simp only [List.getElem_toArray, List.getElem_cons_succ, List.getElem_cons_zero, Act.put, List.setIfInBounds_toArray, List.set_cons_zero, List.set_cons_succ]
        obtain ⟨b0, b1, bf⟩ := box_cells HX11v25.out
        have bf0 := bf 0
        have bf1 := bf 1
        clear bf
        refine OrdF.one (i := 6) rfl (by kernel_rfl) (fun K hK => ?_)
        try simp only [List.getElem_toArray, List.getElem_cons_succ, List.getElem_cons_zero, Act.put]
        go_simp
        have HX11e := hid (box_set1 (u := .int .i64 s2) (box_set0 (u := .int .i64 s1) HX11v25.out))
        have HX12e := hid (box_but HX12v25.out (But.set.trans But.set : But (wq.heap.size) v25 ((v25.setCell ⟨wq.heap.size, 0, none⟩ (.int .i64 s1)).setCell ⟨wq.heap.size, 1, none⟩ (.int .i64 s2))) (fun e => by have := HNE.out; omega))
        have HAe := hid (HAv25.out.set2 (u0 := .int .i64 s1) (u1 := .int .i64 s2) HG11.out)
        refine hK.out _ _ (HS4.out _ (HAe.out).sb) (fun hHeld => ?_)
        clear hK K
        try simp only [List.getElem_toArray, List.getElem_cons_succ, List.getElem_cons_zero, Act.put, List.setIfInBounds_toArray, List.set_cons_zero, List.set_cons_succ]
        obtain ⟨c0, c1, cf⟩ := box_cells HX12e.out
        have cf0 := cf 0
        have cf1 := cf 1
        clear cf b0 b1 bf0 bf1
        refine OrdF.last (n := 7) rfl (by kernel_rfl) (fun K hK => ?_)
        try simp only [List.getElem_toArray, List.getElem_cons_succ, List.getElem_cons_zero, Act.put]
        go_simp
        have HX12f := hid (box_set1 (u := .int .i64 g2) (box_set0 (u := .int .i64 g1) HX12e.out))
        have HX11f := hid (box_but HX11e.out (But.set.trans But.set : But (v17.heap.size) _ ((World.setCell _ ⟨v17.heap.size, 0, none⟩ (.int .i64 g1)).setCell ⟨v17.heap.size, 1, none⟩ (.int .i64 g2))) (fun e => by have := HNE.out; omega))
        have HAf := hid (HAe.out.set2 (u0 := .int .i64 g1) (u1 := .int .i64 g2) HG12.out)
        refine hK.out _ _ ?_
        clear hK K
        try simp only [List.getElem_toArray, List.getElem_cons_succ, List.getElem_cons_zero, Act.put, List.setIfInBounds_toArray, List.set_cons_zero, List.set_cons_succ]
        go_wp2_with fail
        go_meet
        exact ⟨_, _, rfl, rfl, HX11f.out, HX12f.out, HAf.out, HG11.out, HG12.out⟩
    · try simp only [List.getElem_toArray, List.getElem_cons_succ, List.getElem_cons_zero, Act.put, List.setIfInBounds_toArray, List.set_cons_zero, List.set_cons_succ]
      go_simp
      obtain ⟨v26, hwv26⟩ : ∃ v26, wq.alloc (.cells #[.int .i64 0, .int .i64 0] 92) = v26 := ⟨_, rfl⟩
      have hbv26 : Below wq.heap.size wq v26 := hwv26 ▸ (Below.refl _ _).alloc (Nat.le_refl _) _
      have HX12v26 : Hid (v26.heap[wq.heap.size]? = some (.cells #[.int .i64 0, .int .i64 0] 92 (0, 0))) := by show _ = _; rw [← hwv26]; exact heap_alloc_new _ _
      have HAv26 := hid (HAwq.out.next hbv26)
      have HG12 : Hid (w.heap.size + 1 + 1 + 1 < wq.heap.size) := HAwq.out.mt.lt
      rw [hwv26]
      clear hwv26 hbv26
      refine hK.out _ _ (HS4.out _ (HAv26.out).sb) (fun hHeld => ?_)
      clear hK K
      try simp only [List.getElem_toArray, List.getElem_cons_succ, List.getElem_cons_zero, Act.put, List.setIfInBounds_toArray, List.set_cons_zero, List.set_cons_succ]
      refine OrdF.two (i := 1) (j := 4) rfl rfl (by kernel_rfl) (fun K hK => ?_) (fun K hK => ?_)
      · try simp only [List.getElem_toArray, List.getElem_cons_succ, List.getElem_cons_zero, Act.put, List.setIfInBounds_toArray, List.set_cons_zero, List.set_cons_succ]
        go_simp
        (go_at_call 46; (with_reducible refine (HSt.out _ HAv26.out).mono ?_); rintro e' v27 ⟨rfl, hbv27⟩; have HAv27 := hid (HAv26.out.next hbv27))
        have HX12v27 := hid (box_below HX12v26.out hbv27 (blk_lt HX12v26.out))
        clear hbv27
        try go_wp2_with fail
        refine hK.out _ _ (HS4.out _ (HAv27.out).sb) (fun hHeld => ?_)
        clear hK K
        try simp only [List.getElem_toArray, List.getElem_cons_succ, List.getElem_cons_zero, Act.put, List.setIfInBounds_toArray, List.set_cons_zero, List.set_cons_succ]
        refine OrdF.two (i := 3) (j := 4) rfl rfl (by kernel_rfl) (fun K hK => ?_) (fun K hK => ?_)
        · try simp only [List.getElem_toArray, List.getElem_cons_succ, List.getElem_cons_zero, Act.put, List.setIfInBounds_toArray, List.set_cons_zero, List.set_cons_succ]
          go_simp
          (go_at_call 47; (with_reducible refine (HGo.out _ HAv27.out).mono ?_); rintro e' v28 ⟨rfl, hbv28⟩; have HAv28 := hid (HAv27.out.next hbv28))
          have HX12v28 := hid (box_below HX12v27.out hbv28 (blk_lt HX12v27.out))
          clear hbv28
          try go_wp2_with fail
          refine hK.out _ _ (HS4.out _ (HAv28.out).sb) (fun hHeld => ?_)
          clear hK K
          try simp only [List.getElem_toArray, List.getElem_cons_succ, List.getElem_cons_zero, Act.put, List.setIfInBounds_toArray, List.set_cons_zero, List.set_cons_succ]
          refine OrdF.one (i := 4) rfl (by kernel_rfl) (fun K hK => ?_)
          try simp only [List.getElem_toArray, List.getElem_cons_succ, List.getElem_cons_zero, Act.put, List.setIfInBounds_toArray, List.set_cons_zero, List.set_cons_succ]
          go_simp
          obtain ⟨v29, hwv29⟩ : ∃ v29, v28.alloc (.cells #[.int .i64 0, .int .i64 0] 92) = v29 := ⟨_, rfl⟩
          have hbv29 : Below v28.heap.size v28 v29 := hwv29 ▸ (Below.refl _ _).alloc (Nat.le_refl _) _
          have HX11v29 : Hid (v29.heap[v28.heap.size]? = some (.cells #[.int .i64 0, .int .i64 0] 92 (0, 0))) := by show _ = _; rw [← hwv29]; exact heap_alloc_new _ _
          have HAv29 := hid (HAv28.out.next hbv29)
          have HG11 : Hid (w.heap.size + 1 + 1 + 1 < v28.heap.size) := HAv28.out.mt.lt
          have HX12v29 := hid (box_below HX12v28.out hbv29 (blk_lt HX12v28.out))
          have HNE : Hid (wq.heap.size ≠ v28.heap.size) := by have := blk_lt HX12v28.out; show _ ≠ _; omega
          rw [hwv29]
          clear hwv29 hbv29
          refine hK.out _ _ (HS4.out _ (HAv29.out).sb) (fun hHeld => ?_)
          clear hK K
          try simp only [List.getElem_toArray, List.getElem_cons_succ, List.getElem_cons_zero, Act.put, List.setIfInBounds_toArray, List.set_cons_zero, List.set_cons_succ]
          obtain ⟨b0, b1, bf⟩ := box_cells HX11v29.out
          have bf0 := bf 0
          have bf1 := bf 1
          clear bf
          refine OrdF.one (i := 6) rfl (by kernel_rfl) (fun K hK => ?_)
          try simp only [List.getElem_toArray, List.getElem_cons_succ, List.getElem_cons_zero, Act.put]
          go_simp
          have HX11e := hid (box_set1 (u := .int .i64 s2) (box_set0 (u := .int .i64 s1) HX11v29.out))
          have HX12e := hid (box_but HX12v29.out (But.set.trans But.set : But (v28.heap.size) v29 ((v29.setCell ⟨v28.heap.size, 0, none⟩ (.int .i64 s1)).setCell ⟨v28.heap.size, 1, none⟩ (.int .i64 s2))) (fun e => by have := HNE.out; omega))
          have HAe := hid (HAv29.out.set2 (u0 := .int .i64 s1) (u1 := .int .i64 s2) HG11.out)
          refine hK.out _ _ (HS4.out _ (HAe.out).sb) (fun hHeld => ?_)
          clear hK K
          try simp only [List.getElem_toArray, List.getElem_cons_succ, List.getElem_cons_zero, Act.put, List.setIfInBounds_toArray, List.set_cons_zero, List.set_cons_succ]
          obtain ⟨c0, c1, cf⟩ := box_cells HX12e.out
          have cf0 := cf 0
          have cf1 := cf 1
          clear cf b0 b1 bf0 bf1
          refine OrdF.last (n := 7) rfl (by kernel_rfl) (fun K hK => ?_)
          try simp only [List.getElem_toArray, List.getElem_cons_succ, List.getElem_cons_zero, Act.put]
          go_simp
          have HX12f := hid (box_set1 (u := .int .i64 g2) (box_set0 (u := .int .i64 g1) HX12e.out))
          have HX11f := hid (box_but HX11e.out (But.set.trans But.set : But (wq.heap.size) _ ((World.setCell _ ⟨wq.heap.size, 0, none⟩ (.int .i64 g1)).setCell ⟨wq.heap.size, 1, none⟩ (.int .i64 g2))) (fun e => by have := HNE.out; omega))
          have HAf := hid (HAe.out.set2 (u0 := .int .i64 g1) (u1 := .int .i64 g2) HG12.out)
          refine hK.out _ _ ?_
          clear hK K
          try simp only [List.getElem_toArray, List.getElem_cons_succ, List.getElem_cons_zero, Act.put, List.setIfInBounds_toArray, List.set_cons_zero, List.set_cons_succ]
          go_wp2_with fail
          go_meet
          exact ⟨_, _, rfl, rfl, HX11f.out, HX12f.out, HAf.out, HG11.out, HG12.out⟩
        · try simp only [List.getElem_toArray, List.getElem_cons_succ, List.getElem_cons_zero, Act.put, List.setIfInBounds_toArray, List.set_cons_zero, List.set_cons_succ]
          go_simp
          obtain ⟨v30, hwv30⟩ : ∃ v30, v27.alloc (.cells #[.int .i64 0, .int .i64 0] 92) = v30 := ⟨_, rfl⟩
          have hbv30 : Below v27.heap.size v27 v30 := hwv30 ▸ (Below.refl _ _).alloc (Nat.le_refl _) _
          have HX11v30 : Hid (v30.heap[v27.heap.size]? = some (.cells #[.int .i64 0, .int .i64 0] 92 (0, 0))) := by show _ = _; rw [← hwv30]; exact heap_alloc_new _ _
          have HAv30 := hid (HAv27.out.next hbv30)
          have HG11 : Hid (w.heap.size + 1 + 1 + 1 < v27.heap.size) := HAv27.out.mt.lt
          have HX12v30 := hid (box_below HX12v27.out hbv30 (blk_lt HX12v27.out))
          have HNE : Hid (wq.heap.size ≠ v27.heap.size) := by have := blk_lt HX12v27.out; show _ ≠ _; omega
          rw [hwv30]
          clear hwv30 hbv30
          refine hK.out _ _ (HS4.out _ (HAv30.out).sb) (fun hHeld => ?_)
          clear hK K
          try simp only [List.getElem_toArray, List.getElem_cons_succ, List.getElem_cons_zero, Act.put, List.setIfInBounds_toArray, List.set_cons_zero, List.set_cons_succ]
          refine OrdF.one (i := 3) rfl (by kernel_rfl) (fun K hK => ?_)
          try simp only [List.getElem_toArray, List.getElem_cons_succ, List.getElem_cons_zero, Act.put, List.setIfInBounds_toArray, List.set_cons_zero, List.set_cons_succ]
          go_simp
          (go_at_call 47; (with_reducible refine (HGo.out _ HAv30.out).mono ?_); rintro e' v31 ⟨rfl, hbv31⟩; have HAv31 := hid (HAv30.out.next hbv31))
          have HX12v31 := hid (box_below HX12v30.out hbv31 (blk_lt HX12v30.out))
          have HX11v31 := hid (box_below HX11v30.out hbv31 (blk_lt HX11v30.out))
          clear hbv31
          try go_wp2_with fail
          refine hK.out _ _ (HS4.out _ (HAv31.out).sb) (fun hHeld => ?_)
          clear hK K
          try simp only [List.getElem_toArray, List.getElem_cons_succ, List.getElem_cons_zero, Act.put, List.setIfInBounds_toArray, List.set_cons_zero, List.set_cons_succ]
          obtain ⟨b0, b1, bf⟩ := box_cells HX11v31.out
          have bf0 := bf 0
          have bf1 := bf 1
          clear bf
          refine OrdF.one (i := 6) rfl (by kernel_rfl) (fun K hK => ?_)
          try simp only [List.getElem_toArray, List.getElem_cons_succ, List.getElem_cons_zero, Act.put]
          go_simp
          have HX11e := hid (box_set1 (u := .int .i64 s2) (box_set0 (u := .int .i64 s1) HX11v31.out))
          have HX12e := hid (box_but HX12v31.out (But.set.trans But.set : But (v27.heap.size) v31 ((v31.setCell ⟨v27.heap.size, 0, none⟩ (.int .i64 s1)).setCell ⟨v27.heap.size, 1, none⟩ (.int .i64 s2))) (fun e => by have := HNE.out; omega))
          have HAe := hid (HAv31.out.set2 (u0 := .int .i64 s1) (u1 := .int .i64 s2) HG11.out)
          refine hK.out _ _ (HS4.out _ (HAe.out).sb) (fun hHeld => ?_)
          clear hK K
          try simp only [List.getElem_toArray, List.getElem_cons_succ, List.getElem_cons_zero, Act.put, List.setIfInBounds_toArray, List.set_cons_zero, List.set_cons_succ]
          obtain ⟨c0, c1, cf⟩ := box_cells HX12e.out
          have cf0 := cf 0
          have cf1 := cf 1
          clear cf b0 b1 bf0 bf1
          refine OrdF.last (n := 7) rfl (by kernel_rfl) (fun K hK => ?_)
          try simp only [List.getElem_toArray, List.getElem_cons_succ, List.getElem_cons_zero, Act.put]
          go_simp
          have HX12f := hid (box_set1 (u := .int .i64 g2) (box_set0 (u := .int .i64 g1) HX12e.out))
          have HX11f := hid (box_but HX11e.out (But.set.trans But.set : But (wq.heap.size) _ ((World.setCell _ ⟨wq.heap.size, 0, none⟩ (.int .i64 g1)).setCell ⟨wq.heap.size, 1, none⟩ (.int .i64 g2))) (fun e => by have := HNE.out; omega))
          have HAf := hid (HAe.out.set2 (u0 := .int .i64 g1) (u1 := .int .i64 g2) HG12.out)
          refine hK.out _ _ ?_
          clear hK K
          try simp only [List.getElem_toArray, List.getElem_cons_succ, List.getElem_cons_zero, Act.put, List.setIfInBounds_toArray, List.set_cons_zero, List.set_cons_succ]
          go_wp2_with fail
          go_meet
          exact ⟨_, _, rfl, rfl, HX11f.out, HX12f.out, HAf.out, HG11.out, HG12.out⟩
      · try simp only [List.getElem_toArray, List.getElem_cons_succ, List.getElem_cons_zero, Act.put, List.setIfInBounds_toArray, List.set_cons_zero, List.set_cons_succ]
        go_simp
        obtain ⟨v32, hwv32⟩ : ∃ v32, v26.alloc (.cells #[.int .i64 0, .int .i64 0] 92) = v32 := ⟨_, rfl⟩
        have hbv32 : Below v26.heap.size v26 v32 := hwv32 ▸ (Below.refl _ _).alloc (Nat.le_refl _) _
        have HX11v32 : Hid (v32.heap[v26.heap.size]? = some (.cells #[.int .i64 0, .int .i64 0] 92 (0, 0))) := by show _ = _; rw [← hwv32]; exact heap_alloc_new _ _
        have HAv32 := hid (HAv26.out.next hbv32)
        have HG11 : Hid (w.heap.size + 1 + 1 + 1 < v26.heap.size) := HAv26.out.mt.lt
        have HX12v32 := hid (box_below HX12v26.out hbv32 (blk_lt HX12v26.out))
        have HNE : Hid (wq.heap.size ≠ v26.heap.size) := by have := blk_lt HX12v26.out; show _ ≠ _; omega
        rw [hwv32]
        clear hwv32 hbv32
        refine hK.out _ _ (HS4.out _ (HAv32.out).sb) (fun hHeld => ?_)
        clear hK K
        try simp only [List.getElem_toArray, List.getElem_cons_succ, List.getElem_cons_zero, Act.put, List.setIfInBounds_toArray, List.set_cons_zero, List.set_cons_succ]
        refine OrdF.one (i := 1) rfl (by kernel_rfl) (fun K hK => ?_)
        try simp only [List.getElem_toArray, List.getElem_cons_succ, List.getElem_cons_zero, Act.put, List.setIfInBounds_toArray, List.set_cons_zero, List.set_cons_succ]
        go_simp
        (go_at_call 46; (with_reducible refine (HSt.out _ HAv32.out).mono ?_); rintro e' v33 ⟨rfl, hbv33⟩; have HAv33 := hid (HAv32.out.next hbv33))
        have HX12v33 := hid (box_below HX12v32.out hbv33 (blk_lt HX12v32.out))
        have HX11v33 := hid (box_below HX11v32.out hbv33 (blk_lt HX11v32.out))
        clear hbv33
        try go_wp2_with fail
        refine hK.out _ _ (HS4.out _ (HAv33.out).sb) (fun hHeld => ?_)
        clear hK K
        try simp only [List.getElem_toArray, List.getElem_cons_succ, List.getElem_cons_zero, Act.put, List.setIfInBounds_toArray, List.set_cons_zero, List.set_cons_succ]
        refine OrdF.one (i := 3) rfl (by kernel_rfl) (fun K hK => ?_)
        try simp only [List.getElem_toArray, List.getElem_cons_succ, List.getElem_cons_zero, Act.put, List.setIfInBounds_toArray, List.set_cons_zero, List.set_cons_succ]
        go_simp
        (go_at_call 47; (with_reducible refine (HGo.out _ HAv33.out).mono ?_); rintro e' v34 ⟨rfl, hbv34⟩; have HAv34 := hid (HAv33.out.next hbv34))
        have HX12v34 := hid (box_below HX12v33.out hbv34 (blk_lt HX12v33.out))
        have HX11v34 := hid (box_below HX11v33.out hbv34 (blk_lt HX11v33.out))
        clear hbv34
        try go_wp2_with fail
        refine hK.out _ _ (HS4.out _ (HAv34.out).sb) (fun hHeld => ?_)
        clear hK K
        try simp only [List.getElem_toArray, List.getElem_cons_succ, List.getElem_cons_zero, Act.put, List.setIfInBounds_toArray, List.set_cons_zero, List.set_cons_succ]
        obtain ⟨b0, b1, bf⟩ := box_cells HX11v34.out
        have bf0 := bf 0
        have bf1 := bf 1
        clear bf
        refine OrdF.one (i := 6) rfl (by kernel_rfl) (fun K hK => ?_)
        try simp only [List.getElem_toArray, List.getElem_cons_succ, List.getElem_cons_zero, Act.put]
        go_simp
        have HX11e := hid (box_set1 (u := .int .i64 s2) (box_set0 (u := .int .i64 s1) HX11v34.out))
        have HX12e := hid (box_but HX12v34.out (But.set.trans But.set : But (v26.heap.size) v34 ((v34.setCell ⟨v26.heap.size, 0, none⟩ (.int .i64 s1)).setCell ⟨v26.heap.size, 1, none⟩ (.int .i64 s2))) (fun e => by have := HNE.out; omega))
        have HAe := hid (HAv34.out.set2 (u0 := .int .i64 s1) (u1 := .int .i64 s2) HG11.out)
        refine hK.out _ _ (HS4.out _ (HAe.out).sb) (fun hHeld => ?_)
        clear hK K
        try simp only [List.getElem_toArray, List.getElem_cons_succ, List.getElem_cons_zero, Act.put, List.setIfInBounds_toArray, List.set_cons_zero, List.set_cons_succ]
        obtain ⟨c0, c1, cf⟩ := box_cells HX12e.out
        have cf0 := cf 0
        have cf1 := cf 1
        clear cf b0 b1 bf0 bf1
        refine OrdF.last (n := 7) rfl (by kernel_rfl) (fun K hK => ?_)
        try simp only [List.getElem_toArray, List.getElem_cons_succ, List.getElem_cons_zero, Act.put]
        go_simp
        have HX12f := hid (box_set1 (u := .int .i64 g2) (box_set0 (u := .int .i64 g1) HX12e.out))
        have HX11f := hid (box_but HX11e.out (But.set.trans But.set : But (wq.heap.size) _ ((World.setCell _ ⟨wq.heap.size, 0, none⟩ (.int .i64 g1)).setCell ⟨wq.heap.size, 1, none⟩ (.int .i64 g2))) (fun e => by have := HNE.out; omega))
        have HAf := hid (HAe.out.set2 (u0 := .int .i64 g1) (u1 := .int .i64 g2) HG12.out)
        refine hK.out _ _ ?_
        clear hK K
        try simp only [List.getElem_toArray, List.getElem_cons_succ, List.getElem_cons_zero, Act.put, List.setIfInBounds_toArray, List.set_cons_zero, List.set_cons_succ]
        go_wp2_with fail
        go_meet
        exact ⟨_, _, rfl, rfl, HX11f.out, HX12f.out, HAf.out, HG11.out, HG12.out⟩
  case rest =>
    obtain ⟨B11, B12, rfl, rfl, hx11, hx12, hA, hl11, hl12⟩ := hcut
    rename World => w9
    have hpl := ptsS_len x
    have hs0 : 0 ≤ s1 := hst.1
    have hs1 : s1 < N := hst.2.1
    have hs2 : 0 ≤ s2 := hst.2.2.1
    have hs3 : s2 < (ptsS x).length := hst.2.2.2
    obtain ⟨sa, rfl⟩ := Int.eq_ofNat_of_zero_le hs0
    obtain ⟨sb, rfl⟩ := Int.eq_ofNat_of_zero_le hs2
    have HMt := hid (fun (a b : Nat) (ha : a < 40) (hb : b < 6) (v : Bool) (S : List (Int × Int)) (W : World) (h : MetB W (w.heap.size + 1 + 1 + 1) S) (hv : decide (((a : Int), (b : Int)) ∈ S) = v) => meet_any (w.heap.size + 1 + 1 + 1) a b S W h ha hb v hv)
    obtain ⟨b0, b1, -⟩ := box_cells hx11
    have HM0 := hid (HMt.out sa sb (by omega) (by omega) false [] w9 hA.mt (by simp))
    have HX11 := hid hx11
    have HX12 := hid hx12
    have HA := hid hA
    clear hx11 hx12 hA hst
    obtain ⟨i5, hi, hz0, hz1, hz2⟩ := info_parts (show (Try.prog.info? 46).map (fun i => (i.zero, i.size, i.bytes)) = some (some (.agg #[.bool false, .int .i64 0]), 2, 16) by kernel_rfl)
    have Ai := hid hi; have Az0 := hid hz0; have Az1 := hid hz1; have Az2 := hid hz2
    clear hi hz0 hz1 hz2
    obtain ⟨j5, hi, hz0, hz1, hz2⟩ := info_parts (show (Try.prog.info? 108).map (fun i => (i.zero, i.size, i.bytes)) = some (some (.agg #[.int .i64 0, .int .i64 0, .slice none 0 0]), 3, 40) by kernel_rfl)
    have Bi := hid hi; have Bz0 := hid hz0; have Bz1 := hid hz1; have Bz2 := hid hz2
    clear hi hz0 hz1 hz2
    go_wp2_with (first
      | (go_at_call 48; (with_reducible refine HM0.out.mono ?_); rintro e' w10 ⟨rfl, hm10, hb10⟩; have HM10 := hid hm10; have HB10 := hid hb10; obtain ⟨b0, b1, -⟩ := box_cells (box_but HX11.out hb10 (by omega)); clear hm10 hb10))
    have hb0 : Below (w.heap.size + 1 + 1 + 1) w9 w10 := HB10.out.below (Nat.le_refl _) (Nat.le_of_lt HA.out.mt.lt)
    have hba : Below w10.heap.size w10 (w10.alloc (.cells #[.int .i64 (sa : Int), .int .i64 (sb : Int), .slice none 0 0] 108)) := (Below.refl _ _).alloc (Nat.le_refl _) _
    have HS1 := hid ((HA.out.sb.above hb0 (Nat.lt_succ_self _)).next hba)
    have HX1 := hid (box_below (box_but HX12.out HB10.out (by omega)) hba (blk_lt (box_but HX12.out HB10.out (by omega))))
    have HM1 := hid (HM10.out.below hba HM10.out.lt)
    have HO1 := hid (own_lit (base := w.heap.size) (size := 3) (k := 1) (cs := #[.int .i64 (sa : Int), .int .i64 (sb : Int), .slice none 0 0]) (e := 108) (w := w10) (Nat.le_trans HA.out.sb.sz HB10.out.size) rfl (by unfold maxLen; omega))
    clear hb0 hba b0 b1 HX11 HX12 HA HM10 HB10 HM0 HSt HGo
    go_loopw [13, 14] (fun lv iv wr => ∃ (D : List ((Int × Int) × List Sg)) (vs : List Value) (i : Nat), iv = .int .i64 i ∧ i ≤ D.length ∧ Hid (BInv N l x gn d D i 0) ∧ Hid (SrB M N l x gn tp A n c Ap cp Ag cg Df cf kk s A2 c2 y w wr) ∧ Hid (LdS w wr lv vs D B12 g1 g2) ∧ Hid (MetB wr (w.heap.size + 1 + 1 + 1) (D.map (·.1))) ∧ Hid (∀ (j : Nat) (p : Int × Int) (L : List Sg), j < i → D[j]? = some (p, L) → p ≠ goalS x)) (fun _ iv _ => 61 - (intOf iv).toNat)
    case atStart =>
      refine ⟨[(startS x, [])], [.slice none 0 0], 0, rfl, Nat.zero_le _, BInv.start hr d, HS1, ⟨HX1.out, hl12, ?_, ?_, rfl⟩, ?_, fun j p L hj => absurd hj (Nat.not_lt_zero _)⟩
      · rw [HST.out]; exact HO1.out
      · intro j v hj
        cases j with
        | zero => simp at hj; subst hj; exact ⟨startS x, [], rfl, World.ownsRow_nil _ _ _ _⟩
        | succ j => simp at hj
      · rw [HST.out]; exact HM1.out
    case round =>
      obtain ⟨D, vs, i, rfl, hi, HB, HS, HL, HM, HN⟩ := hrel
      have hDl := HB.out.le hN hv
      obtain ⟨Ad, cd, hva⟩ := own_form HL.out.ld
      subst hva
      clear HS1 HX1 HM1 HO1
      by_cases hlt : i < D.length
      · obtain ⟨⟨p, L⟩, hD⟩ : ∃ z, D[i]? = some z := ⟨_, List.getElem?_eq_getElem hlt⟩
        obtain ⟨v, hvv⟩ : ∃ v, vs[i]? = some v := ⟨_, List.getElem?_eq_getElem (by have := HL.out.vl; omega)⟩
        obtain ⟨p', L', hD', hrow⟩ := HL.out.ls i v hvv
        rw [hD] at hD'
        injection hD' with hD'
        injection hD' with e1 e2
        subst e1 e2
        obtain ⟨Av, cv, rfl⟩ := own_form hrow
        have hmem := List.mem_of_getElem? hD
        obtain ⟨hp0, hp1, hp2, hp3⟩ := HB.out.ins p L hmem
        have hLd := HB.out.few p L hmem
        obtain ⟨p1, p2⟩ := p
        simp only at hp0 hp1 hp2 hp3
        obtain ⟨a, rfl⟩ := Int.eq_ofNat_of_zero_le hp0
        obtain ⟨b, rfl⟩ := Int.eq_ofNat_of_zero_le hp2
        obtain ⟨gb, gof, rfl, k0, k1, k2⟩ := lead_at HL.out.ld hD hvv
        have t1 : decide ((i : Int) < (D.length : Int)) = true := decide_eq_true (by omega)
        have t2 : decide (i < D.length) = true := decide_eq_true hlt
        have ewi : IntKind.i64.wrap ((i : Int) + 1) = (i : Int) + 1 := by rw [IntKind.wrap_i64]; omega
        have hbh : Below wr.heap.size wr (wr.alloc (.cells #[.int .i64 (a : Int), .int .i64 (b : Int), .slice Av L.length cv] 108)) := (Below.refl _ _).alloc (Nat.le_refl _) _
        have hxh := heap_alloc_new wr (.cells #[.int .i64 (a : Int), .int .i64 (b : Int), .slice Av L.length cv] 108)
        have HSa := hid (HS.out.next hbh)
        have HLa := hid (HL.out.next hbh)
        have HMa := hid (HM.out.below hbh HM.out.lt)
        have HRo := hid (own_below hrow hbh)
        have HHh := hid hxh
        obtain ⟨h0, h1, h2, -⟩ := box3_cells hxh
        obtain ⟨q0, q1, -⟩ := box_cells HLa.out.go
        have HDi := hid hD
        have HVi := hid hvv
        by_cases hgl : ((a : Int), (b : Int)) = goalS x
        · have heq : ∀ W, (binOp .eql 92 (.agg #[.int .i64 (a : Int), .int .i64 (b : Int)]) (.agg #[.int .i64 g1, .int .i64 g2])).run Try.prog W = .ok (.bool true) W := fun W => by
            rw [eql2_run]
            rw [HGT.out] at hgl
            injection hgl with e1 e2
            rw [e1, e2]; simp
          have hfd := HB.out.found hr (by rw [← hgl]; exact hD)
          have HRes : Hid (resS N l x gn d = (L, 0)) := by show _ = _; unfold resS; rw [hfd.1]; simp only; rw [hfd.2]
          clear hD hvv hrow hmem hbh hxh hgl hfd HB ewi
          go_wp2_with fail
          refine bodyPost_ret (results_tmp2 rfl _ _ _) rfl ?_
          refine ⟨_, by rw [HRes.out]; rfl, ?_, HSa.out.but⟩
          rw [HRes.out]; exact HRo.out
        · have heq : ∀ W, (binOp .eql 92 (.agg #[.int .i64 (a : Int), .int .i64 (b : Int)]) (.agg #[.int .i64 g1, .int .i64 g2])).run Try.prog W = .ok (.bool false) W := fun W => by
            rw [eql2_run]
            have : ((((a : Int) == g1) && ((b : Int) == g2))) = false := by
              cases c1 : ((a : Int) == g1) <;> cases c2 : ((b : Int) == g2) <;> try rfl
              exact (hgl (by rw [HGT.out, beq_iff_eq.1 c1, beq_iff_eq.1 c2])).elim
            rw [this]
          have HN2 : Hid (∀ (j : Nat) (p : Int × Int) (L : List Sg), j < i + 1 → D[j]? = some (p, L) → p ≠ goalS x) := by
            intro j p L hj hDj
            rcases Nat.lt_or_ge j i with h1 | h1
            · exact HN.out j p L h1 hDj
            · obtain rfl : j = i := by omega
              rw [hD] at hDj
              injection hDj with hDj
              injection hDj with e1 e2
              rw [← e1]; exact hgl
          by_cases hdl : L.length = d
          · have d1 : decide ((L.length : Int) = (d : Int)) = true := decide_eq_true (by omega)
            have d2 : ((L.length : Int) == (d : Int)) = true := by rw [hdl]; simp
            have d3 : (L.length == d) = true := by rw [hdl]; simp
            have HBn := hid (HB.out.next hr hD (fun h => by omega))
            clear hD hvv hrow hmem hbh hxh hgl HB hdl
            go_wp2_with fail
            go_roundw
            case rel => exact ⟨D, vs, i + 1, by go_num, by omega, HBn, HSa, HLa, HMa, HN2⟩
            case measure => simp [intOf]; omega
          · have d1 : ((L.length : Int) == (d : Int)) = false := beq_eq_false_iff_ne.2 (by omega)
            have d3 : (L.length == d) = false := beq_eq_false_iff_ne.2 hdl
            have HQ0 := hid (QInv.start hr HB.out hD (by omega))
            have HSg := hid (segsAt_any N A2 n c2 l (a : Int) (wr.alloc (.cells #[.int .i64 (a : Int), .int .i64 (b : Int), .slice Av L.length cv] 108)) (HSa.out.gr.more HSa.out.sz) (by omega) (by omega))
            obtain ⟨Bh, hBh⟩ : ∃ Bh, wr.heap.size = Bh := ⟨_, rfl⟩
            obtain ⟨Q, hQ⟩ : ∃ Q, segsA N l (a : Int) = Q := ⟨_, rfl⟩
            obtain ⟨m, hm⟩ : ∃ m, Q.length = m := ⟨_, rfl⟩
            have hm60 : m ≤ 60 := by rw [← hm, ← hQ]; have := segsA_len N l (a : Int); omega
            rw [hQ, hm] at HSg
            have hap : (Value.slice (some ⟨gb, gof, none⟩) D.length cd).ownBlock ≠ some Bh := by
              intro e1
              have := (HL.out.ld.lt Bh e1).2
              omega
            have hl3 : w.heap.size + 1 + 1 + 1 < Bh := by rw [← hBh]; exact HM.out.lt
            obtain ⟨x0, x1, -⟩ := box_cells HSa.out.x1
            have HQe := hid hQ
            have Hm := hid hm
            have HAp := hid hap
            clear hD hvv hrow hmem hbh hgl HB hm hQ hap
            go_wp2_with (first
              | (go_at_call 49; (with_reducible refine HSg.out.mono ?_); rintro e' w12 ⟨⟨vq, rfl, hq12⟩, hb12⟩; obtain ⟨Aq, cq, rfl⟩ := own_form hq12; have HI0 := hid (Inn.mk (HSa.out.next hb12) (HLa.out.next hb12) (box_below HHh.out hb12 (blk_lt HHh.out)) HM.out.lt (by rw [Hm.out]; exact hq12) (by rw [hBh]; exact HAp.out) : Inn M N l x gn tp A n c Ap cp Ag cg Df cf kk s A2 c2 y _ vs D B12 g1 g2 wr.heap.size (a : Int) (b : Int) (.slice Av L.length cv) (.slice Aq m cq) Q w w12); have HM0 := hid (HMa.out.below hb12 HMa.out.lt); clear hq12 hb12))
            rw [hBh] at HI0
            try simp only [hBh]
            clear hBh HSa HLa HMa HRo HHh hxh h0 h1 h2 q0 q1 k0 k1 k2 x0 x1 HSg HL HM HS HAp heq
            go_loopw [13, 56] (fun lv qv wr => ∃ (D : List ((Int × Int) × List Sg)) (vs : List Value) (q : Nat), qv = .int .i64 q ∧ q ≤ m ∧ Hid (QInv N l x gn d D i q ((a : Int), (b : Int)) L) ∧ Hid (Inn M N l x gn tp A n c Ap cp Ag cg Df cf kk s A2 c2 y lv vs D B12 g1 g2 Bh (a : Int) (b : Int) (.slice Av L.length cv) (.slice Aq m cq) Q w wr) ∧ Hid (MetB wr (w.heap.size + 1 + 1 + 1) (D.map (·.1))) ∧ Hid (vs[i]? = some (.slice Av L.length cv)) ∧ Hid (∀ (j : Nat) (p : Int × Int) (L : List Sg), j < i + 1 → D[j]? = some (p, L) → p ≠ goalS x)) (fun _ qv _ => m - (intOf qv).toNat)
            case atStart => exact ⟨D, vs, 0, rfl, Nat.zero_le _, HQ0, HI0, HM0, HVi, HN2⟩
            case round =>
              clear HI0 HM0 HQ0 HVi HN2 HDi HN hDl hi hlt t1 t2
              obtain ⟨D, vs, q, rfl, hq, HQ, HI, HM, HV, HN2⟩ := hrel
              obtain ⟨tq, hbi, hDi, hLlt⟩ := HQ.out.binv
              have hDl := hbi.le hN hv
              have hDi1 := (List.getElem?_eq_some_iff.1 hDi).1
              obtain ⟨Ae, ce, hva⟩ := own_form HI.out.ld.ld
              subst hva
              by_cases hlq : q < m
              · obtain ⟨⟨e, t⟩, hs⟩ : ∃ z, Q[q]? = some z := ⟨_, List.getElem?_eq_getElem (by have := Hm.out; omega)⟩
                have u1 : decide ((q : Int) < (m : Int)) = true := decide_eq_true (by omega)
                have u2 : decide (q < m) = true := decide_eq_true hlq
                have ewq : IntKind.i64.wrap ((q : Int) + 1) = (q : Int) + 1 := by rw [IntKind.wrap_i64]; omega
                have hsQ : (segsA N l ((a : Int), (b : Int)).1)[q]? = some ⟨e, t⟩ := by show (segsA N l (a : Int))[q]? = _; rw [HQe.out]; exact hs
                have hsS := segsA_mem (List.mem_of_getElem? hsQ)
                have hInK : InK N l x (((a : Int), (b : Int)), ⟨e, t⟩) := ⟨hbi.ins _ _ (List.mem_of_getElem? hDi), hsS⟩
                have hsg := HI.out.sg
                rw [Hm.out] at hsg
                obtain ⟨A6, c6, hA6, _, hr6⟩ := own_segs hsg Hm.out
                clear hsg
                cases hA6
                obtain ⟨b6, o6, rfl, -, hc6⟩ := hr6.2 (by omega)
                obtain ⟨y0, y1⟩ := hc6 q ⟨e, t⟩ hs
                clear hc6 hr6
                have hby : Below wr.heap.size wr (wr.alloc (.cells #[.bool e, .int .i64 t] 46)) := (Below.refl _ _).alloc (Nat.le_refl _) _
                have HIa := hid (HI.out.next hby)
                have HMa := hid (HM.out.below hby HM.out.lt)
                have HSba := hid (heap_alloc_new wr (.cells #[.bool e, .int .i64 t] 46))
                obtain ⟨g0, g1', g2', g3, g4, g5, g6, g7⟩ := box8_cells HIa.out.sb.x0
                obtain ⟨h0, h1, h2, -⟩ := box3_cells HIa.out.hr
                obtain ⟨s0, s1, -⟩ := box_cells HSba.out
                obtain ⟨r1, r2, ok, hoe⟩ : ∃ r1 r2 ok, endT (segO N l x gn ((a : Int), (b : Int)) e t) = (r1, r2, ok) := ⟨_, _, _, rfl⟩
                have HSeg := hid (seg_all (tp := tp) (A := A) (n := n) (c := c) (Ap := Ap) (cp := cp) (Ag := Ag) (cg := cg) (Df := Df) (cf := cf) (kk := kk) (M := M) (s := s) hg hr hN hl hv (a : Int) (b : Int) e t r1 r2 ok hInK hoe)
                cases ho : segO N l x gn ((a : Int), (b : Int)) e t with
                | none =>
                  rw [ho] at hoe
                  simp only [endT, Prod.mk.injEq] at hoe
                  obtain ⟨rfl, rfl, rfl⟩ := hoe
                  have HQ2 := hid (HQ.out.seen hr hsQ (fun r hr' => by simp only [ho] at hr'; cases hr'))
                  clear hs hsQ hsS hInK hbi hby ho HQ
                  have HGa := hid HIa.out.sb.gw
                  go_wp2_with (first
                    | (go_at_call 50; (with_reducible refine (HSeg.out _ HGa.out).mono ?_); rintro e' w14 ⟨rfl, hg14, hb14⟩; have hbz : Below w14.heap.size w14 (w14.alloc (.cells #[.int .i64 0, .int .i64 0] 92)) := (Below.refl _ _).alloc (Nat.le_refl _) _; have HI14 := hid ((HIa.out.put hb14 hg14).next hbz); have HM14 := hid ((HMa.out.but hb14 (by have := HIa.out.sb.lt; omega)).below hbz (HMa.out.but hb14 (by have := HIa.out.sb.lt; omega)).lt); have HT14 := hid (heap_alloc_new w14 (.cells #[.int .i64 0, .int .i64 0] 92)); have HSb14 := hid (box_below (box_but HSba.out hb14 (by have := HIa.out.sb.lt; have := HI.out.sb.sz; omega)) hbz (blk_lt (box_but HSba.out hb14 (by have := HIa.out.sb.lt; have := HI.out.sb.sz; omega)))); obtain ⟨z0, z1, -⟩ := box_cells HT14.out; have HZ14 : Hid (w.heap.size + 1 + 1 + 1 < w14.heap.size) := (HMa.out.but hb14 (by have := HIa.out.sb.lt; omega)).lt; clear hb14 hg14 hbz))
                  go_roundw
                  case rel => exact ⟨D, vs, q + 1, by go_num, by omega, HQ2, HI14, HM14, HV, HN2⟩
                  case measure => simp [intOf]; omega
                | some r =>
                  obtain ⟨r1', r2'⟩ := r
                  rw [ho] at hoe
                  simp only [endT, Prod.mk.injEq] at hoe
                  obtain ⟨rfl, rfl, rfl⟩ := hoe
                  obtain ⟨hp0, hp1, hp2, hp3⟩ := segO_in hg hr hInK.1 ho
                  simp only at hp0 hp1 hp2 hp3
                  obtain ⟨ra, rfl⟩ := Int.eq_ofNat_of_zero_le hp0
                  obtain ⟨rb, rfl⟩ := Int.eq_ofNat_of_zero_le hp2
                  by_cases hmm : ((ra : Int), (rb : Int)) ∈ D.map (·.1)
                  · have hdm : decide (((ra : Int), (rb : Int)) ∈ D.map (·.1)) = true := decide_eq_true hmm
                    have HQ2 := hid (HQ.out.seen hr hsQ (fun r hr' => by simp only [ho] at hr'; injection hr' with hr'; rw [← hr']; exact hmm))
                    have HMe := hid (fun W h => HMt.out ra rb (by omega) (by omega) true (D.map (·.1)) W h hdm)
                    have HSm : Hid (∀ z, z ∈ ((ra : Int), (rb : Int)) :: D.map (·.1) ↔ z ∈ D.map (·.1)) := fun z => ⟨fun h => by rcases List.mem_cons.1 h with rfl | h; exact hmm; exact h, fun h => List.mem_cons_of_mem _ h⟩
                    clear hs hsQ hsS hInK hbi hby ho HQ hdm hmm
                    have HGa := hid HIa.out.sb.gw
                    go_wp2_with (first
                      | (go_at_call 50; (with_reducible refine (HSeg.out _ HGa.out).mono ?_); rintro e' w14 ⟨rfl, hg14, hb14⟩; have hbz : Below w14.heap.size w14 (w14.alloc (.cells #[.int .i64 (ra : Int), .int .i64 (rb : Int)] 92)) := (Below.refl _ _).alloc (Nat.le_refl _) _; have HI14 := hid ((HIa.out.put hb14 hg14).next hbz); have HM14 := hid ((HMa.out.but hb14 (by have := HIa.out.sb.lt; omega)).below hbz (HMa.out.but hb14 (by have := HIa.out.sb.lt; omega)).lt); have HT14 := hid (heap_alloc_new w14 (.cells #[.int .i64 (ra : Int), .int .i64 (rb : Int)] 92)); have HSb14 := hid (box_below (box_but HSba.out hb14 (by have := HIa.out.sb.lt; have := HI.out.sb.sz; omega)) hbz (blk_lt (box_but HSba.out hb14 (by have := HIa.out.sb.lt; have := HI.out.sb.sz; omega)))); obtain ⟨z0, z1, -⟩ := box_cells HT14.out; have HZ14 : Hid (w.heap.size + 1 + 1 + 1 < w14.heap.size) := (HMa.out.but hb14 (by have := HIa.out.sb.lt; omega)).lt; clear hb14 hg14 hbz)
                      | (go_at_call 48; (with_reducible refine (HMe.out _ HM14.out).mono ?_); rintro e' w15 ⟨rfl, hm15, hb15⟩; have HI15 := hid (HI14.out.met hb15 HM14.out); have HM15 := hid hm15; have HB15 := hid hb15; clear hm15 hb15))
                    have HM16 := hid (HM15.out.same HSm.out)
                    go_roundw
                    case rel => exact ⟨D, vs, q + 1, by go_num, by omega, HQ2, HI15, HM16, HV, HN2⟩
                    case measure => simp [intOf]; omega
                  · have hdm : decide (((ra : Int), (rb : Int)) ∈ D.map (·.1)) = false := decide_eq_false hmm
                    have HQ2 := hid (HQ.out.more hg hr hsQ ho hmm)
                    have HMe := hid (fun W h => HMt.out ra rb (by omega) (by omega) false (D.map (·.1)) W h hdm)
                    have HD1 : Hid (1 ≤ D.length) := by show _ ≤ _; omega
                    clear hs hsQ hsS hInK hbi hby ho HQ hdm hmm
                    have HGa := hid HIa.out.sb.gw
                    go_wp2_with (first
                      | (go_at_call 50; (with_reducible refine (HSeg.out _ HGa.out).mono ?_); rintro e' w14 ⟨rfl, hg14, hb14⟩; have hbz : Below w14.heap.size w14 (w14.alloc (.cells #[.int .i64 (ra : Int), .int .i64 (rb : Int)] 92)) := (Below.refl _ _).alloc (Nat.le_refl _) _; have HI14 := hid ((HIa.out.put hb14 hg14).next hbz); have HM14 := hid ((HMa.out.but hb14 (by have := HIa.out.sb.lt; omega)).below hbz (HMa.out.but hb14 (by have := HIa.out.sb.lt; omega)).lt); have HT14 := hid (heap_alloc_new w14 (.cells #[.int .i64 (ra : Int), .int .i64 (rb : Int)] 92)); have HSb14 := hid (box_below (box_but HSba.out hb14 (by have := HIa.out.sb.lt; have := HI.out.sb.sz; omega)) hbz (blk_lt (box_but HSba.out hb14 (by have := HIa.out.sb.lt; have := HI.out.sb.sz; omega)))); obtain ⟨z0, z1, -⟩ := box_cells HT14.out; have HZ14 : Hid (w.heap.size + 1 + 1 + 1 < w14.heap.size) := (HMa.out.but hb14 (by have := HIa.out.sb.lt; omega)).lt; clear hb14 hg14 hbz)
                      | (go_at_call 48; (with_reducible refine (HMe.out _ HM14.out).mono ?_); rintro e' w15 ⟨rfl, hm15, hb15⟩; have HI15 := hid (HI14.out.met hb15 HM14.out); have HM15 := hid hm15; have HB15 := hid hb15; clear hm15 hb15))
                    have HTw15 := hid (box_but HT14.out HB15.out (by have := HZ14.out; omega))
                    have HSbw15 := hid (box_but HSb14.out HB15.out (by have := HM.out.lt; omega))
                    have hbd : Below w15.heap.size w15 w15.drew := (Below.refl _ _).drew
                    obtain ⟨Bt, hBt⟩ : ∃ Bt, w14.heap.size = Bt := ⟨_, rfl⟩
                    obtain ⟨Bs, hBs⟩ : ∃ Bs, wr.heap.size = Bs := ⟨_, rfl⟩
                    rw [hBt] at HTw15
                    rw [hBs] at HSbw15
                    have HIwd := hid (HI15.out.next hbd)
                    have HMwd := hid (HM15.out.below hbd HM15.out.lt)
                    have HTwd := hid (box_below HTw15.out hbd (blk_lt HTw15.out))
                    have HSbwd := hid (box_below HSbw15.out hbd (blk_lt HSbw15.out))
                    simp only [hBt, hBs]
                    have HN3 : Hid (∀ (j : Nat) (p : Int × Int) (L' : List Sg), j < i + 1 → (D ++ [(((ra : Int), (rb : Int)), L ++ [⟨e, t⟩])])[j]? = some (p, L') → p ≠ goalS x) := by
                      intro j p L' hj hDj
                      rw [List.getElem?_append_left (by omega)] at hDj
                      exact HN2.out j p L' hj hDj
                    have HCl := hid (fun W (hI : Inn M N l x gn tp A n c Ap cp Ag cg Df cf kk s A2 c2 y (.slice Ae D.length ce) vs D B12 g1 g2 Bh (a : Int) (b : Int) (.slice Av L.length cv) (.slice (some ⟨b6, o6, none⟩) m cq) Q w W) => show Calls Try.prog 51 #[.slice Av L.length cv] W fun e' w' => ∃ A' c', e' = .returned (.slice A' L.length c') ∧ w'.ownsRow W.heap.size 46 2 (.slice A' L.length c') L.length (scells2 L) ∧ Below W.heap.size W w' by
                      obtain ⟨p', L', h1, h2⟩ := hI.ld.ls i _ HV.out
                      rw [hDi] at h1
                      injection h1 with h1
                      injection h1 with e1 e2
                      subst e2
                      obtain ⟨A', c', he, _, hr'⟩ := own_segs h2 rfl
                      simp only [Value.slice.injEq] at he
                      obtain ⟨rfl, _, rfl⟩ := he
                      exact cloneSegs_any Av L.length cv L W hr' (by omega) (fun hA => by
                        rcases h2.2 with ⟨h3, h4⟩ | ⟨g, cap, cur, h3, _⟩
                        · simp only [Value.slice.injEq] at h3; exact ⟨h4, h3.2.2⟩
                        · rw [hA] at h3; simp at h3))
                    have HR1 := hid (fun (D1 : Option Addr) (c1 : Nat) (W : World) (h : W.ownsRow 0 46 2 (.slice D1 (L.length + 1) c1) (L.length + 1) (scells2 L ++ scells2 [⟨e, t⟩])) => (by rw [← scells2_app] at h; rw [List.length_append, List.length_singleton]; exact h : W.ownsRow 0 46 2 (.slice D1 (L.length + 1) c1) (L ++ [(⟨e, t⟩ : Sg)]).length (scells2 (L ++ [(⟨e, t⟩ : Sg)]))))
                    have HS5 : Hid (∀ W : World, W.heap[Bt]? = some (.cells #[.int .i64 (ra : Int), .int .i64 (rb : Int)] 92 (0, 0)) → W.heap[Bh]? = some (.cells #[.int .i64 (a : Int), .int .i64 (b : Int), .slice Av L.length cv] 108 (0, 0)) → W.heap[Bs]? = some (.cells #[.bool e, .int .i64 t] 46 (0, 0)) → W.cell? ⟨Bt, 0, none⟩ = some (.int .i64 (ra : Int)) ∧ W.cell? ⟨Bt, 1, none⟩ = some (.int .i64 (rb : Int)) ∧ W.cell? ⟨Bh, 2, none⟩ = some (.slice Av L.length cv) ∧ W.cell? ⟨Bs, 0, none⟩ = some (.bool e) ∧ W.cell? ⟨Bs, 1, none⟩ = some (.int .i64 t)) := fun W k0 k1 k2 => by
                      obtain ⟨a0, a1, -⟩ := box_cells k0
                      obtain ⟨-, -, a2, -⟩ := box3_cells k1
                      obtain ⟨a3, a4, -⟩ := box_cells k2
                      exact ⟨a0, a1, a2, a3, a4⟩
                    clear hBt hBs g0 g1' g2' g3 g4 g5 g6 g7 h0 h1 h2 s0 s1 z0 z1 y0 y1
                    refine region_ord 11 (fun W => W.cell? ⟨Bt, 0, none⟩ = some (.int .i64 (ra : Int)) ∧ W.cell? ⟨Bt, 1, none⟩ = some (.int .i64 (rb : Int)) ∧ W.cell? ⟨Bh, 2, none⟩ = some (.slice Av L.length cv) ∧ W.cell? ⟨Bs, 0, none⟩ = some (.bool e) ∧ W.cell? ⟨Bs, 1, none⟩ = some (.int .i64 t)) (by kernel_rfl) (HS5.out _ HTwd.out HIwd.out.hr HSbwd.out) (fun hHeld => ?_)
                    obtain ⟨wd, hwd⟩ : ∃ wd, w15.drew = wd := ⟨_, rfl⟩
                    rw [hwd] at HIwd HMwd HTwd HSbwd hHeld ⊢
                    clear hwd hbd HTw15 HSbw15 HI15 HM15
                    refine OrdF.take (i := 0) (v := ?_) rfl (by kernel_rfl) (fun _ _ _ h => h) (by rfl) ?_ (by assumption) ?_
                    (rotate_left; focus (intro w' hSw; (try dsimp only at hSw); go_simp; (try with_reducible rfl)))
                    try simp only [List.getElem_toArray, List.getElem_cons_zero, Act.put, List.setIfInBounds_toArray, List.set_cons_zero, List.set_cons_succ]
                    refine OrdF.take (i := 1) (v := ?_) rfl (by kernel_rfl) (fun _ _ _ h => h) (by rfl) ?_ (by assumption) ?_
                    (rotate_left; focus (intro w' hSw; (try dsimp only at hSw); go_simp; (try with_reducible rfl)))
                    try simp only [List.getElem_toArray, List.getElem_cons_succ, List.getElem_cons_zero, Act.put, List.setIfInBounds_toArray, List.set_cons_zero, List.set_cons_succ]
                    refine OrdF.take (i := 2) (v := ?_) rfl (by kernel_rfl) (fun _ _ _ h => h) (by rfl) ?_ (by assumption) ?_
                    (rotate_left; focus (intro w' hSw; (try dsimp only at hSw); go_simp; (try with_reducible rfl)))
                    try simp only [List.getElem_toArray, List.getElem_cons_succ, List.getElem_cons_zero, Act.put, List.setIfInBounds_toArray, List.set_cons_zero, List.set_cons_succ]
                    refine OrdF.take (i := 3) (v := ?_) rfl (by kernel_rfl) (fun _ _ _ h => h) (by rfl) ?_ (by assumption) ?_
                    (rotate_left; focus (intro w' hSw; (try dsimp only at hSw); go_simp; (try with_reducible rfl)))
                    try simp only [List.getElem_toArray, List.getElem_cons_succ, List.getElem_cons_zero, Act.put, List.setIfInBounds_toArray, List.set_cons_zero, List.set_cons_succ]
                    refine OrdF.take (i := 5) (v := ?_) rfl (by kernel_rfl) (fun _ _ _ h => h) (by rfl) ?_ (by assumption) ?_
                    (rotate_left; focus (intro w' hSw; (try dsimp only at hSw); go_simp; (try with_reducible rfl)))
                    try simp only [List.getElem_toArray, List.getElem_cons_succ, List.getElem_cons_zero, Act.put, List.setIfInBounds_toArray, List.set_cons_zero, List.set_cons_succ]
                    refine OrdF.two (i := 4) (j := 6) rfl rfl (by kernel_rfl) (fun K hK => ?_) (fun K hK => ?_)
                    · try simp only [List.getElem_toArray, List.getElem_cons_succ, List.getElem_cons_zero, Act.put, List.setIfInBounds_toArray, List.set_cons_zero, List.set_cons_succ]
                      go_simp
                      (go_at_call 51; (with_reducible refine (HCl.out _ HIwd.out).mono ?_); rintro e' w16 ⟨Ac, cc, rfl, hownc, hbw16⟩; have HC := hid hownc)
                      have HIw16 := hid (HIwd.out.next hbw16)
                      have HMw16 := hid (HMwd.out.below hbw16 HMwd.out.lt)
                      have HTw16 := hid (box_below HTwd.out hbw16 (blk_lt HTwd.out))
                      have HSbw16 := hid (box_below HSbwd.out hbw16 (blk_lt HSbwd.out))
                      clear hownc
                      try go_wp2_with fail
                      have HBC := hid hbw16
                      clear hbw16
                      have HLB : Hid (wd.heap.size ≤ wd.heap.size) := Nat.le_refl _
                      refine hK.out _ _ (HS5.out _ HTw16.out HIw16.out.hr HSbw16.out) (fun hHeld => ?_)
                      clear hK K
                      try simp only [List.getElem_toArray, List.getElem_cons_succ, List.getElem_cons_zero, Act.put, List.setIfInBounds_toArray, List.set_cons_zero, List.set_cons_succ]
                      refine OrdF.one (i := 6) rfl (by kernel_rfl) (fun K hK => ?_)
                      try simp only [List.getElem_toArray, List.getElem_cons_succ, List.getElem_cons_zero, Act.put, List.setIfInBounds_toArray, List.set_cons_zero, List.set_cons_succ]
                      go_simp
                      obtain ⟨w17, hww17⟩ : ∃ w17, w16.alloc (.cells #[.bool e, .int .i64 t] 46) = w17 := ⟨_, rfl⟩
                      have hbw17 : Below w16.heap.size w16 w17 := hww17 ▸ (Below.refl _ _).alloc (Nat.le_refl _) _
                      have HZ : Hid (w17.heap[w16.heap.size]? = some (.cells #[.bool e, .int .i64 t] 46 (0, 0))) := by show _ = _; rw [← hww17]; exact heap_alloc_new _ _
                      have HIw17 := hid (HIw16.out.next hbw17)
                      have HMw17 := hid (HMw16.out.below hbw17 HMw16.out.lt)
                      have HTw17 := hid (box_below HTw16.out hbw17 (blk_lt HTw16.out))
                      have HSbw17 := hid (box_below HSbw16.out hbw17 (blk_lt HSbw16.out))
                      rw [hww17]
                      clear hww17
                      have HC := hid (own_below HC.out hbw17)
                      have HLE : Hid (wd.heap.size ≤ w17.heap.size) := Nat.le_trans HBC.out.size hbw17.size
                      have HBD := hid (HBC.out.trans (hbw17.mono HBC.out.size))
                      clear hbw17
                      refine hK.out _ _ (HS5.out _ HTw17.out HIw17.out.hr HSbw17.out) (fun hHeld => ?_)
                      clear hK K
                      try simp only [List.getElem_toArray, List.getElem_cons_succ, List.getElem_cons_zero, Act.put, List.setIfInBounds_toArray, List.set_cons_zero, List.set_cons_succ]
                      refine OrdF.one (i := 7) rfl (by kernel_rfl) (fun K hK => ?_)
                      (refine step_append_some (by rfl) (.tmp 77) (.tmp 79) 31 (by rfl) wd.heap.size 46 i5 (.agg #[.bool false, .int .i64 0]) 2 16 Try.underlying31 Ai.out Az0.out Az1.out Az2.out rfl (by decide) (.slice Ac L.length cc) L.length (scells2 L) (by go_simp) HC.out ⟨w16.heap.size, 0, none⟩ 1 1 (scells2 [⟨e, t⟩]) (by go_simp) (by rfl) (new_cells HZ.out (by rfl)) (scells2_one _) (by unfold maxLen; omega) (by omega) HLE.out ?_; intro D1 c1 w18 hown1 hgr1)
                      have hbw18 : Below wd.heap.size wd w18 := below_grow HBD.out HC.out hgr1 HLB.out
                      have HIw18 := hid (HIwd.out.next hbw18)
                      have HMw18 := hid (HMwd.out.below hbw18 HMwd.out.lt)
                      have HTw18 := hid (box_below HTwd.out hbw18 (blk_lt HTwd.out))
                      have HSbw18 := hid (box_below HSbwd.out hbw18 (blk_lt HSbwd.out))
                      have HR := hid (HR1.out _ _ _ (own_mono hown1 (Nat.zero_le _)))
                      clear hown1 hgr1 hbw18
                      refine hK.out _ _ (HS5.out _ HTw18.out HIw18.out.hr HSbw18.out) (fun hHeld => ?_)
                      clear hK K
                      try simp only [List.getElem_toArray, List.getElem_cons_succ, List.getElem_cons_zero, Act.put, List.setIfInBounds_toArray, List.set_cons_zero, List.set_cons_succ]
                      refine OrdF.take (i := 8) (v := ?_) rfl (by kernel_rfl) (fun _ _ _ h => h) (by rfl) ?_ (by assumption) ?_
                      (rotate_left; focus (intro w' hSw; (try dsimp only at hSw); go_simp; (try with_reducible rfl)))
                      try simp only [List.getElem_toArray, List.getElem_cons_succ, List.getElem_cons_zero, Act.put, List.setIfInBounds_toArray, List.set_cons_zero, List.set_cons_succ]
                      refine OrdF.one (i := 9) rfl (by kernel_rfl) (fun K hK => ?_)
                      try simp only [List.getElem_toArray, List.getElem_cons_succ, List.getElem_cons_zero]
                      go_simp
                      have hb19 : Below w18.heap.size w18 (w18.alloc (.cells #[.int .i64 (ra : Int), .int .i64 (rb : Int), .slice D1 (L.length + 1) c1] 108)) := (Below.refl _ _).alloc (Nat.le_refl _) _
                      have HZ9 := hid (heap_alloc_new w18 (.cells #[.int .i64 (ra : Int), .int .i64 (rb : Int), .slice D1 (L.length + 1) c1] 108))
                      have HI19 := hid (HIw18.out.next hb19)
                      have HT19 := hid (box_below HTw18.out hb19 (blk_lt HTw18.out))
                      have HSb19 := hid (box_below HSbw18.out hb19 (blk_lt HSbw18.out))
                      clear hb19
                      refine hK.out _ _ (HS5.out _ HT19.out HI19.out.hr HSb19.out) (fun hHeld => ?_)
                      clear hK K
                      try simp only [List.getElem_toArray, List.getElem_cons_succ, List.getElem_cons_zero, Act.put, List.setIfInBounds_toArray, List.set_cons_zero, List.set_cons_succ]
                      refine OrdF.one (i := 10) rfl (by kernel_rfl) (fun K hK => ?_)
                      (refine step_append_some (by rfl) (.tmp 73) (.tmp 82) 109 (by rfl) w.heap.size 108 j5 (.agg #[.int .i64 0, .int .i64 0, .slice none 0 0]) 3 40 Try.underlying109 Bi.out Bz0.out Bz1.out Bz2.out rfl (by decide) (.slice Ae D.length ce) D.length (ldc D vs) (by go_simp) HI19.out.ld.ld ⟨w18.heap.size, 0, none⟩ 1 1 [.int .i64 (ra : Int), .int .i64 (rb : Int), .slice D1 (L.length + 1) c1] (by go_simp) (by rfl) (new_cells HZ9.out (by rfl)) (by simp [Value.oneCell']) (by unfold maxLen; omega) (by omega) HI19.out.sb.sz ?_; intro D2 c2' w20 hown2 hgr2)
                      have HI20 := hid (HIw18.out.app (L := L ++ [⟨e, t⟩]) HR.out hgr2 hown2 HD1.out)
                      have HM20 := hid (HMw18.out.app HIw18.out.ld.ld hgr2)
                      have HT20 := hid (box_apart HTw18.out HIw18.out.ld.ld (by decide) hgr2)
                      have HSb20 := hid (box_apart HSbw18.out HIw18.out.ld.ld (by decide) hgr2)
                      clear hown2 hgr2
                      refine hK.out _ _ (HS5.out _ HT20.out HI20.out.hr HSb20.out) (fun hHeld => ?_)
                      clear hK K
                      try simp only [List.getElem_toArray, List.getElem_cons_succ, List.getElem_cons_zero, Act.put, List.setIfInBounds_toArray, List.set_cons_zero, List.set_cons_succ]
                      refine OrdF.last (n := 11) rfl (by kernel_rfl) (fun K hK => ?_)
                      try simp only [List.getElem_toArray, List.getElem_cons_succ, List.getElem_cons_zero, Act.put]
                      go_simp
                      refine hK.out _ _ ?_
                      clear hK K
                      try simp only [List.getElem_toArray, List.getElem_cons_succ, List.getElem_cons_zero, Act.put, List.setIfInBounds_toArray, List.set_cons_zero, List.set_cons_succ]
                      go_wp2_with fail
                      have HM21 : Hid (MetB w20 (w.heap.size + 1 + 1 + 1) (List.map (fun z : (Int × Int) × List Sg => z.1) (D ++ [(((ra : Int), (rb : Int)), L ++ [⟨e, t⟩])]))) := HM20.out.same (fun z => by simp only [List.map_append, List.map_cons, List.map_nil, List.mem_cons, List.mem_append, List.not_mem_nil, or_false]; exact Or.comm)
                      have HV2 : Hid ((vs ++ [.slice D1 (L.length + 1) c1])[i]? = some (.slice Av L.length cv)) := by show _ = _; rw [List.getElem?_append_left (List.getElem?_eq_some_iff.1 HV.out).1]; exact HV.out
                      go_roundw
                      case rel => exact ⟨_, _, q + 1, by go_num, by omega, HQ2, HI20, HM21, HV2, HN3⟩
                      case measure => simp [intOf]; omega
                    · try simp only [List.getElem_toArray, List.getElem_cons_succ, List.getElem_cons_zero, Act.put, List.setIfInBounds_toArray, List.set_cons_zero, List.set_cons_succ]
                      go_simp
                      obtain ⟨w16, hww16⟩ : ∃ w16, wd.alloc (.cells #[.bool e, .int .i64 t] 46) = w16 := ⟨_, rfl⟩
                      have hbw16 : Below wd.heap.size wd w16 := hww16 ▸ (Below.refl _ _).alloc (Nat.le_refl _) _
                      have HZ : Hid (w16.heap[wd.heap.size]? = some (.cells #[.bool e, .int .i64 t] 46 (0, 0))) := by show _ = _; rw [← hww16]; exact heap_alloc_new _ _
                      have HIw16 := hid (HIwd.out.next hbw16)
                      have HMw16 := hid (HMwd.out.below hbw16 HMwd.out.lt)
                      have HTw16 := hid (box_below HTwd.out hbw16 (blk_lt HTwd.out))
                      have HSbw16 := hid (box_below HSbwd.out hbw16 (blk_lt HSbwd.out))
                      rw [hww16]
                      clear hww16
                      have HBC := hid hbw16
                      clear hbw16
                      refine hK.out _ _ (HS5.out _ HTw16.out HIw16.out.hr HSbw16.out) (fun hHeld => ?_)
                      clear hK K
                      try simp only [List.getElem_toArray, List.getElem_cons_succ, List.getElem_cons_zero, Act.put, List.setIfInBounds_toArray, List.set_cons_zero, List.set_cons_succ]
                      refine OrdF.one (i := 4) rfl (by kernel_rfl) (fun K hK => ?_)
                      try simp only [List.getElem_toArray, List.getElem_cons_succ, List.getElem_cons_zero, Act.put, List.setIfInBounds_toArray, List.set_cons_zero, List.set_cons_succ]
                      go_simp
                      (go_at_call 51; (with_reducible refine (HCl.out _ HIw16.out).mono ?_); rintro e' w17 ⟨Ac, cc, rfl, hownc, hbw17⟩; have HC := hid hownc)
                      have HIw17 := hid (HIw16.out.next hbw17)
                      have HMw17 := hid (HMw16.out.below hbw17 HMw16.out.lt)
                      have HTw17 := hid (box_below HTw16.out hbw17 (blk_lt HTw16.out))
                      have HSbw17 := hid (box_below HSbw16.out hbw17 (blk_lt HSbw16.out))
                      clear hownc
                      try go_wp2_with fail
                      have HZ := hid (box_below HZ.out hbw17 (blk_lt HZ.out))
                      have HLB : Hid (wd.heap.size ≤ w16.heap.size) := HBC.out.size
                      have HLE : Hid (w16.heap.size ≤ w17.heap.size) := hbw17.size
                      have HBD := hid (HBC.out.trans (hbw17.mono HBC.out.size))
                      clear hbw17
                      refine hK.out _ _ (HS5.out _ HTw17.out HIw17.out.hr HSbw17.out) (fun hHeld => ?_)
                      clear hK K
                      try simp only [List.getElem_toArray, List.getElem_cons_succ, List.getElem_cons_zero, Act.put, List.setIfInBounds_toArray, List.set_cons_zero, List.set_cons_succ]
                      refine OrdF.one (i := 7) rfl (by kernel_rfl) (fun K hK => ?_)
                      (refine step_append_some (by rfl) (.tmp 77) (.tmp 79) 31 (by rfl) w16.heap.size 46 i5 (.agg #[.bool false, .int .i64 0]) 2 16 Try.underlying31 Ai.out Az0.out Az1.out Az2.out rfl (by decide) (.slice Ac L.length cc) L.length (scells2 L) (by go_simp) HC.out ⟨wd.heap.size, 0, none⟩ 1 1 (scells2 [⟨e, t⟩]) (by go_simp) (by rfl) (new_cells HZ.out (by rfl)) (scells2_one _) (by unfold maxLen; omega) (by omega) HLE.out ?_; intro D1 c1 w18 hown1 hgr1)
                      have hbw18 : Below wd.heap.size wd w18 := below_grow HBD.out HC.out hgr1 HLB.out
                      have HIw18 := hid (HIwd.out.next hbw18)
                      have HMw18 := hid (HMwd.out.below hbw18 HMwd.out.lt)
                      have HTw18 := hid (box_below HTwd.out hbw18 (blk_lt HTwd.out))
                      have HSbw18 := hid (box_below HSbwd.out hbw18 (blk_lt HSbwd.out))
                      have HR := hid (HR1.out _ _ _ (own_mono hown1 (Nat.zero_le _)))
                      clear hown1 hgr1 hbw18
                      refine hK.out _ _ (HS5.out _ HTw18.out HIw18.out.hr HSbw18.out) (fun hHeld => ?_)
                      clear hK K
                      try simp only [List.getElem_toArray, List.getElem_cons_succ, List.getElem_cons_zero, Act.put, List.setIfInBounds_toArray, List.set_cons_zero, List.set_cons_succ]
                      refine OrdF.take (i := 8) (v := ?_) rfl (by kernel_rfl) (fun _ _ _ h => h) (by rfl) ?_ (by assumption) ?_
                      (rotate_left; focus (intro w' hSw; (try dsimp only at hSw); go_simp; (try with_reducible rfl)))
                      try simp only [List.getElem_toArray, List.getElem_cons_succ, List.getElem_cons_zero, Act.put, List.setIfInBounds_toArray, List.set_cons_zero, List.set_cons_succ]
                      refine OrdF.one (i := 9) rfl (by kernel_rfl) (fun K hK => ?_)
                      try simp only [List.getElem_toArray, List.getElem_cons_succ, List.getElem_cons_zero]
                      go_simp
                      have hb19 : Below w18.heap.size w18 (w18.alloc (.cells #[.int .i64 (ra : Int), .int .i64 (rb : Int), .slice D1 (L.length + 1) c1] 108)) := (Below.refl _ _).alloc (Nat.le_refl _) _
                      have HZ9 := hid (heap_alloc_new w18 (.cells #[.int .i64 (ra : Int), .int .i64 (rb : Int), .slice D1 (L.length + 1) c1] 108))
                      have HI19 := hid (HIw18.out.next hb19)
                      have HT19 := hid (box_below HTw18.out hb19 (blk_lt HTw18.out))
                      have HSb19 := hid (box_below HSbw18.out hb19 (blk_lt HSbw18.out))
                      clear hb19
                      refine hK.out _ _ (HS5.out _ HT19.out HI19.out.hr HSb19.out) (fun hHeld => ?_)
                      clear hK K
                      try simp only [List.getElem_toArray, List.getElem_cons_succ, List.getElem_cons_zero, Act.put, List.setIfInBounds_toArray, List.set_cons_zero, List.set_cons_succ]
                      refine OrdF.one (i := 10) rfl (by kernel_rfl) (fun K hK => ?_)
                      (refine step_append_some (by rfl) (.tmp 73) (.tmp 82) 109 (by rfl) w.heap.size 108 j5 (.agg #[.int .i64 0, .int .i64 0, .slice none 0 0]) 3 40 Try.underlying109 Bi.out Bz0.out Bz1.out Bz2.out rfl (by decide) (.slice Ae D.length ce) D.length (ldc D vs) (by go_simp) HI19.out.ld.ld ⟨w18.heap.size, 0, none⟩ 1 1 [.int .i64 (ra : Int), .int .i64 (rb : Int), .slice D1 (L.length + 1) c1] (by go_simp) (by rfl) (new_cells HZ9.out (by rfl)) (by simp [Value.oneCell']) (by unfold maxLen; omega) (by omega) HI19.out.sb.sz ?_; intro D2 c2' w20 hown2 hgr2)
                      have HI20 := hid (HIw18.out.app (L := L ++ [⟨e, t⟩]) HR.out hgr2 hown2 HD1.out)
                      have HM20 := hid (HMw18.out.app HIw18.out.ld.ld hgr2)
                      have HT20 := hid (box_apart HTw18.out HIw18.out.ld.ld (by decide) hgr2)
                      have HSb20 := hid (box_apart HSbw18.out HIw18.out.ld.ld (by decide) hgr2)
                      clear hown2 hgr2
                      refine hK.out _ _ (HS5.out _ HT20.out HI20.out.hr HSb20.out) (fun hHeld => ?_)
                      clear hK K
                      try simp only [List.getElem_toArray, List.getElem_cons_succ, List.getElem_cons_zero, Act.put, List.setIfInBounds_toArray, List.set_cons_zero, List.set_cons_succ]
                      refine OrdF.last (n := 11) rfl (by kernel_rfl) (fun K hK => ?_)
                      try simp only [List.getElem_toArray, List.getElem_cons_succ, List.getElem_cons_zero, Act.put]
                      go_simp
                      refine hK.out _ _ ?_
                      clear hK K
                      try simp only [List.getElem_toArray, List.getElem_cons_succ, List.getElem_cons_zero, Act.put, List.setIfInBounds_toArray, List.set_cons_zero, List.set_cons_succ]
                      go_wp2_with fail
                      have HM21 : Hid (MetB w20 (w.heap.size + 1 + 1 + 1) (List.map (fun z : (Int × Int) × List Sg => z.1) (D ++ [(((ra : Int), (rb : Int)), L ++ [⟨e, t⟩])]))) := HM20.out.same (fun z => by simp only [List.map_append, List.map_cons, List.map_nil, List.mem_cons, List.mem_append, List.not_mem_nil, or_false]; exact Or.comm)
                      have HV2 : Hid ((vs ++ [.slice D1 (L.length + 1) c1])[i]? = some (.slice Av L.length cv)) := by show _ = _; rw [List.getElem?_append_left (List.getElem?_eq_some_iff.1 HV.out).1]; exact HV.out
                      go_roundw
                      case rel => exact ⟨_, _, q + 1, by go_num, by omega, HQ2, HI20, HM21, HV2, HN3⟩
                      case measure => simp [intOf]; omega

              · obtain rfl : q = m := by omega
                have u1 : decide ((q : Int) < (q : Int)) = false := decide_eq_false (by omega)
                have u2 : decide (q < q) = false := decide_eq_false (by omega)
                have HBn := hid (HQ.out.fin hr (by show (segsA N l (a : Int)).length ≤ q; rw [HQe.out, Hm.out]; exact Nat.le_refl _))
                have ewi : IntKind.i64.wrap ((i : Int) + 1) = (i : Int) + 1 := by rw [IntKind.wrap_i64]; omega
                clear hbi HQ
                go_wp2_with fail
                go_roundw
                case rel => exact ⟨D, vs, i + 1, by go_num, by omega, HBn, hid HI.out.sb, hid HI.out.ld, HM, HN2⟩
                case measure => simp [intOf]; omega

      · obtain rfl : i = D.length := by omega
        have t1 : decide ((D.length : Int) < (D.length : Int)) = false := decide_eq_false (by omega)
        have t2 : decide (D.length < D.length) = false := decide_eq_false (by omega)
        have hno := HB.out.none (Nat.le_refl _) (fun p L hm => by
          obtain ⟨j, hj⟩ := List.mem_iff_getElem?.1 hm
          exact HN.out j p L (List.getElem?_eq_some_iff.1 hj).1 hj)
        have HRes : Hid (resS N l x gn d = ([], 9)) := by show _ = _; unfold resS; rw [hno]
        clear hno HB HN
        go_wp2_with fail
        refine bodyPost_ret (results_tmp2 rfl _ _ _) rfl ?_
        refine ⟨_, by rw [HRes.out]; rfl, ?_, HS.out.but⟩
        rw [HRes.out]; exact World.ownsRow_nil _ _ _ _
end
end Go.Proofs.Ytkemcgbedapkcaa
