/- OptLeast, in its bounds. -/
import Derived.Test.YtabgbhkpeeibaaaOpM
import Derived.Deep.DeepCutAuto
import Derived.Deep.CutBlock
namespace Go.Proofs.Ytabgbhkpeeibaaa
open Go.RowKit
set_option maxHeartbeats 64000000
set_option maxRecDepth 100000
theorem optLeast_in (hO : OptSpec 9 12 14 18 16) (nd : Int) (A : Option Addr) (n c : Nat) (x : Wnt) (y : WSl) (l : List Lnk) (Ad : Option Addr) (n' c' : Nat) (dn : List Bool) (Ae : Option Addr) (ne ce : Nat) (es : List Int) (w : World) (hg : GArg w nd A n c l) (hs : smallB nd n = true) (hw : WArg w x y) (hd : DArg w Ad n' c' dn) (he : EArg w Ae ne ce es) (hf : fewB y = true) (hr0 : rightS nd l x = 0) :
    Calls Try.prog 5 #[.agg #[.int .i64 nd, .slice A n c], .agg #[.int .i64 x.frm, .int .i64 x.too, .int .i64 x.bnd, .slice y.av y.nv y.cv, .slice y.an y.nn y.cn, .slice y.al y.nl y.cl, .slice y.ac y.nc y.cc], .slice Ad n' c', .slice Ae ne ce] w fun e w' => e = .returned (.bool true) ∧ Below w.heap.size w w' := by
  have hS := Held2.start w nd A n c x y
  have hn16 : nd ≤ 10 ∧ n ≤ 16 := by unfold smallB at hs; simp only [Bool.and_eq_true, decide_eq_true_eq] at hs; exact hs
  have hl4 : y.nv ≤ 20 ∧ y.nn ≤ 60 ∧ y.nl ≤ 60 ∧ y.nc ≤ 60 := by
    unfold fewB at hf
    simp only [Bool.and_eq_true, decide_eq_true_eq] at hf
    omega
  obtain ⟨l1, l2, l3, l4⟩ := hl4
  obtain ⟨n1, n2⟩ := hn16
  have t2 : decide ((200 : Int) < (n' : Int)) = false := by have := hd.len; simp; omega
  have t3 : decide ((60 : Int) < (ne : Int)) = false := by have := he.len; simp; omega
  have t4 : ((0 : Int) != 0) = false := by decide
  have HA := hid (fun (w' : World) (h : Held2 w nd A n c x y w') => h.calls (alive15 hO w'))
  have HSm := hid (fun (w' : World) (h : Held2 w nd A n c x y w') => h.calls (small_any nd A n c w'))
  have HFw := hid (fun (w' : World) (h : Held2 w nd A n c x y w') => h.calls (few_any x y w'))
  have HRw := hid (fun (w' : World) (h : Held2 w nd A n c x y w') => h.calls (refRight_spec nd A n c l x y w' (hg.on h.1) (hw.on h.1) (by omega) (by omega) (by omega) (by omega)))
  rw [hs] at HSm
  rw [hf] at HFw
  rw [hr0] at HRw
  have HC := hid (fun (w' : World) (h : Held2 w nd A n c x y w') => h.calls (hO.cost nd A n c l x y Ad n' c' dn w' (hg.on h.1) (hw.on h.1) (hd.on h.1) (by omega) (by omega) (by omega) (by omega)))
  have HHs := hid (fun (w' : World) (h : Held2 w nd A n c x y w') => h.calls (hO.has nd A n c l x y Ad n' c' dn Ae ne ce es w' (hg.on h.1) (hw.on h.1) (hd.on h.1) (by omega) (by omega) (by omega) (by omega) (he.on h.1)))
  have hll := hg.row.1
  have HPr := hid (fun (w' : World) (h : Held2 w nd A n c x y w') => (bl_out (m := n) (by rw [prunedS_n hr0, hll]) (by omega) (refDown_spec nd A n c l x y Ad n' c' dn w' (hg.on h.1) (hw.on h.1) (hd.on h.1) (by omega) (by omega) (by omega) (by omega))).mono fun _ _ ⟨A', c', h1, h2, h3⟩ => (⟨A', c', h1, h2, h.next h3⟩ : ∃ A' c', _ = Ending.returned (.slice A' n c') ∧ DArg _ A' n c' (prunedS nd l x dn) ∧ Held2 w nd A n c x y _))
  have HLaw := hid (least_law (dn := dn) (es := es) hr0)
  obtain ⟨hck, hpt, -⟩ := right_ok hr0
  obtain ⟨c1, hc1⟩ : ∃ c1, (costS nd l x dn).1 = c1 := ⟨_, rfl⟩
  obtain ⟨c2, hc2⟩ : ∃ c2, (costS nd l x dn).2 = c2 := ⟨_, rfl⟩
  obtain ⟨hb, hhb⟩ : ∃ hb, hasS nd l x dn es = hb := ⟨_, rfl⟩
  obtain ⟨gn, hgn⟩ : ∃ gn, prunedS nd l x dn = gn := ⟨_, rfl⟩
  obtain ⟨m, hm⟩ : ∃ m, (x.via ++ [x.too]).length = m := ⟨_, rfl⟩
  rw [hc1, hc2] at HC
  rw [hhb] at HHs
  rw [hgn] at HPr
  rw [hc1, hc2, hhb, hgn, hm] at HLaw
  have hlen := hid hw.via.row.1
  have hmn : 0 + y.nv + 1 = m := by have := hlen.out; simp at hm; omega
  have hmn2 : y.nv + 1 = m := by omega
  have hnon := hw.via.non
  have HV := hid (fun (w' : World) (h : Held2 w nd A n c x y w') => (hw.via.on h.1).row)
  have HE := hid (fun (w' : World) (h : Held2 w nd A n c x y w') => he.on h.1)
  have HGr := hid (fun (w' : World) (h : Held2 w nd A n c x y w') => (hg.on h.1).row)
  have HEnds := hid (fun (e : Int) (he : e ≤ 9223372036854775807) (w' : World) (h : Held2 w nd A n c x y w') => (refEnds_any nd A n c l e w' (hg.on h.1).row (by omega) he).mono fun _ _ h2 => (⟨h2.1, h.next h2.2, h2.2⟩ : _ ∧ Held2 w nd A n c x y _ ∧ Below w'.heap.size w' _))
  have hne := he.len
  have herng := hid he.rng
  have HEs := hid he.row
  have HLk := hid hg.row
  have hes := he.row.1
  obtain ⟨i5, Ai0, Az00, Az10, Az20⟩ := info_parts int_info
  have Ai := hid Ai0
  have Az0 := hid Az00
  have Az1 := hid Az10
  have Az2 := hid Az20
  have HCk := hid hck

  have HPt := hid hpt
  clear Ai0 Az00 Az10 Az20 hg hs hw hd he hf hr0 hc1 hc2 hhb hgn hck hpt hO
  go_enter Try.func5, Try.ntmps5
  go_upto_region 6 with (first
    | (go_at_call 7; (with_reducible refine (HA.out _ hS).mono ?_); rintro e' w1 ⟨rfl, h1⟩; obtain ⟨g0, g1⟩ := h1.g; obtain ⟨g2, g3, g4, g5, g6, g7, g8⟩ := h1.v)
    | (go_at_call 20; (with_reducible refine (HSm.out _ h1).mono ?_); rintro e' w2 ⟨rfl, h2⟩; obtain ⟨q0, q1⟩ := h2.g; obtain ⟨q2, q3, q4, q5, q6, q7, q8⟩ := h2.v)
    | (go_at_call 8; (with_reducible refine (HFw.out _ h2).mono ?_); rintro e' w3 ⟨rfl, h3⟩; obtain ⟨r0, r1⟩ := h3.g; obtain ⟨r2, r3, r4, r5, r6, r7, r8⟩ := h3.v)
    | (go_at_call 23; (with_reducible refine (HRw.out _ h3).mono ?_); rintro e' w4 ⟨rfl, h4⟩; obtain ⟨s0, s1⟩ := h4.g; obtain ⟨s2, s3, s4, s5, s6, s7, s8⟩ := h4.v)
    | (go_at_call 9; (with_reducible refine (HC.out _ h4).mono ?_); rintro e' w5 ⟨rfl, h5⟩; obtain ⟨u0, u1⟩ := h5.g; obtain ⟨u2, u3, u4, u5, u6, u7, u8⟩ := h5.v)
    | (go_at_call 21; (with_reducible refine (HPr.out _ h5).mono ?_); rintro e' w6 ⟨A6, c6, rfl, hd6, h6⟩; have HD6 := hid hd6; clear hd6 g0 g1 g2 g3 g4 g5 g6 g7 g8 q0 q1 q2 q3 q4 q5 q6 q7 q8 r0 r1 r2 r3 r4 r5 r6 r7 r8 s0 s1 s2 s3 s4 s5 s6 s7 s8 u0 u1 u2 u3 u4 u5 u6 u7 u8))
  go_cut [13] (fun q wx => ∃ (Ap : Option Addr) (cp : Nat), q = .slice Ap m cp ∧ Hid (Below w6.heap.size w6 wx ∧ RInt wx wx.heap.size Ap m (x.via ++ [x.too])))
  case first =>
    go_wp2_with fail
    have hlt6 := h6.lt
    have HS6 : Hid (∀ W, Below w6.heap.size w6 W → W.cell? ⟨w.heap.size, 0, none⟩ = some (.int .i64 nd) ∧ W.cell? ⟨w.heap.size, 1, none⟩ = some (.slice A n c) ∧ W.cell? ⟨w.heap.size + 1, 0, none⟩ = some (.int .i64 x.frm) ∧ W.cell? ⟨w.heap.size + 1, 1, none⟩ = some (.int .i64 x.too) ∧ W.cell? ⟨w.heap.size + 1, 2, none⟩ = some (.int .i64 x.bnd) ∧ W.cell? ⟨w.heap.size + 1, 3, none⟩ = some (.slice y.av y.nv y.cv) ∧ W.cell? ⟨w.heap.size + 1, 4, none⟩ = some (.slice y.an y.nn y.cn) ∧ W.cell? ⟨w.heap.size + 1, 5, none⟩ = some (.slice y.al y.nl y.cl) ∧ W.cell? ⟨w.heap.size + 1, 6, none⟩ = some (.slice y.ac y.nc y.cc)) := fun W hb => (h6.next hb).s
    have R6 := hid (HV.out _ h6.drew)
    have bd : Below w6.heap.size w6 w6.drew := (Below.refl _ _).drew
    have BD := hid bd
    have BA := hid (bd.alloc (Nat.le_refl _) (.cells #[.int .i64 x.too] 3))
    have R7 := hid (HV.out _ (h6.next BA.out))
    clear bd
    refine region_ord 7 (fun W => W.cell? ⟨w.heap.size, 0, none⟩ = some (.int .i64 nd) ∧ W.cell? ⟨w.heap.size, 1, none⟩ = some (.slice A n c) ∧ W.cell? ⟨w.heap.size + 1, 0, none⟩ = some (.int .i64 x.frm) ∧ W.cell? ⟨w.heap.size + 1, 1, none⟩ = some (.int .i64 x.too) ∧ W.cell? ⟨w.heap.size + 1, 2, none⟩ = some (.int .i64 x.bnd) ∧ W.cell? ⟨w.heap.size + 1, 3, none⟩ = some (.slice y.av y.nv y.cv) ∧ W.cell? ⟨w.heap.size + 1, 4, none⟩ = some (.slice y.an y.nn y.cn) ∧ W.cell? ⟨w.heap.size + 1, 5, none⟩ = some (.slice y.al y.nl y.cl) ∧ W.cell? ⟨w.heap.size + 1, 6, none⟩ = some (.slice y.ac y.nc y.cc)) (by kernel_rfl) (HS6.out _ BD.out) (fun hHeld => ?_)
    refine OrdF.take (i := 0) (v := ?_) rfl (by kernel_rfl) (fun _ _ _ h => h) (by rfl) ?_ (by assumption) ?_
    (rotate_left; focus (intro w' hSw; (try dsimp only at hSw); go_simp; (try with_reducible rfl)))
    try simp only [List.getElem_toArray, List.getElem_cons_zero, Act.put, List.setIfInBounds_toArray, List.set_cons_zero, List.set_cons_succ]
    refine OrdF.take (i := 1) (v := ?_) rfl (by kernel_rfl) (fun _ _ _ h => h) (by rfl) ?_ (by assumption) ?_
    (rotate_left; focus (intro w' hSw; (try dsimp only at hSw); go_simp; (try with_reducible rfl)))
    try simp only [List.getElem_toArray, List.getElem_cons_succ, List.getElem_cons_zero, Act.put, List.setIfInBounds_toArray, List.set_cons_zero, List.set_cons_succ]
    refine OrdF.take (i := 3) (v := ?_) rfl (by kernel_rfl) (fun _ _ _ h => h) (by rfl) ?_ (by assumption) ?_
    (rotate_left; focus (intro w' hSw; (try dsimp only at hSw); go_simp; (try with_reducible rfl)))
    try simp only [List.getElem_toArray, List.getElem_cons_succ, List.getElem_cons_zero, Act.put, List.setIfInBounds_toArray, List.set_cons_zero, List.set_cons_succ]
    refine OrdF.take (i := 4) (v := ?_) rfl (by kernel_rfl) (fun _ _ _ h => h) (by rfl) ?_ (by assumption) ?_
    (rotate_left; focus (intro w' hSw; (try dsimp only at hSw); go_simp; (try with_reducible rfl)))
    try simp only [List.getElem_toArray, List.getElem_cons_succ, List.getElem_cons_zero, Act.put, List.setIfInBounds_toArray, List.set_cons_zero, List.set_cons_succ]
    refine OrdF.two (i := 2) (j := 5) rfl rfl (by kernel_rfl) (fun K hK => ?_) (fun K hK => ?_)
    · (refine step_append_opt (by rfl) (.const (.slice none 0 0)) (.tmp 63) 25 (by rfl) w6.heap.size 3 i5 (.int .i64 0) 1 8 Try.underlying25 Ai.out Az0.out Az1.out Az2.out rfl (by decide) none 0 0 [] (by rfl) (World.ownsRow_nil _ _ _ _) y.av y.nv y.cv (icells x.via) (by rfl) hnon (by rw [icells_len, hlen.out]; omega) (ints_src R6.out) (icells_one _) (by unfold maxLen; omega) (by omega) (by simp; try omega) ?_; intro D7 c7 w7 hown7 hg7; have HG7 := hid hg7; have HO7 := hid hown7; clear hown7 hg7)
      have HB7 := hid (BD.out.grown HG7.out (by simp) (fun q hq => by simp [Value.ownBlock] at hq))
      try go_wp2_with fail
      refine hK.out _ _ (HS6.out _ HB7.out) (fun hHeld => ?_)
      clear hK K
      try simp only [List.getElem_toArray, List.getElem_cons_succ, List.getElem_cons_zero, Act.put, List.setIfInBounds_toArray, List.set_cons_zero, List.set_cons_succ]
      refine OrdF.one (i := 5) rfl (by kernel_rfl) (fun K hK => ?_)
      try simp only [List.getElem_toArray, List.getElem_cons_succ, List.getElem_cons_zero, Act.put, List.setIfInBounds_toArray, List.set_cons_zero, List.set_cons_succ]
      go_simp
      try go_wp2_with fail
      refine hK.out _ _ (HS6.out _ (HB7.out.alloc HB7.out.size _)) (fun hHeld => ?_)
      clear hK K
      try simp only [List.getElem_toArray, List.getElem_cons_succ, List.getElem_cons_zero, Act.put, List.setIfInBounds_toArray, List.set_cons_zero, List.set_cons_succ]
      refine OrdF.one (i := 6) rfl (by kernel_rfl) (fun K hK => ?_)
      (refine step_append_opt (by rfl) (.tmp 64) (.tmp 67) 25 (by rfl) w6.heap.size 3 i5 (.int .i64 0) 1 8 Try.underlying25 Ai.out Az0.out Az1.out Az2.out rfl (by decide) _ _ _ _ (by first | rfl | (rw [Nat.zero_add]; rfl)) (HO7.out.alloc _) (some ⟨w7.heap.size, 0, none⟩) 1 1 (icells [x.too]) (by rfl) (fun h => by cases h) (by rfl) (one_src (heap_alloc_new w7 _)) (icells_one _) (by unfold maxLen; omega) (by omega) (by have := HB7.out.size; simp at this ⊢; omega) ?_; intro D8 c8 w8 hown8 hg8; have HO8 := hid hown8; have HG8 := hid hg8; clear hown8 hg8)
      have HB8 := hid ((HB7.out.alloc HB7.out.size _).grown HG8.out (by have := HB7.out.size; simp at this ⊢; omega) (fun q hq => (HO7.out.lt q hq).1))
      try go_wp2_with fail
      refine hK.out _ _ (HS6.out _ HB8.out) (fun hHeld => ?_)
      clear hK K
      try simp only [List.getElem_toArray, List.getElem_cons_succ, List.getElem_cons_zero, Act.put, List.setIfInBounds_toArray, List.set_cons_zero, List.set_cons_succ]
      refine OrdF.last (n := 7) rfl (by kernel_rfl) (fun K hK => ?_)
      try simp only [List.getElem_toArray, List.getElem_cons_succ, List.getElem_cons_zero, Act.put, List.setIfInBounds_toArray, List.set_cons_zero, List.set_cons_succ]
      go_simp
      refine hK.out _ _ ?_
      clear hK K
      try simp only [List.getElem_toArray, List.getElem_cons_succ, List.getElem_cons_zero, Act.put, List.setIfInBounds_toArray, List.set_cons_zero, List.set_cons_succ]
      go_wp2_with fail
      go_meet
      exact ⟨_, _, by first | rfl | rw [hmn2], HB8.out, path_end HO8.out hlen.out hmn⟩
    · try simp only [List.getElem_toArray, List.getElem_cons_succ, List.getElem_cons_zero, Act.put, List.setIfInBounds_toArray, List.set_cons_zero, List.set_cons_succ]
      go_simp
      try go_wp2_with fail
      refine hK.out _ _ (HS6.out _ BA.out) (fun hHeld => ?_)
      clear hK K
      try simp only [List.getElem_toArray, List.getElem_cons_succ, List.getElem_cons_zero, Act.put, List.setIfInBounds_toArray, List.set_cons_zero, List.set_cons_succ]
      refine OrdF.one (i := 2) rfl (by kernel_rfl) (fun K hK => ?_)
      (refine step_append_opt (by rfl) (.const (.slice none 0 0)) (.tmp 63) 25 (by rfl) w6.heap.size 3 i5 (.int .i64 0) 1 8 Try.underlying25 Ai.out Az0.out Az1.out Az2.out rfl (by decide) none 0 0 [] (by rfl) (World.ownsRow_nil _ _ _ _) y.av y.nv y.cv (icells x.via) (by rfl) hnon (by rw [icells_len, hlen.out]; omega) (ints_src R7.out) (icells_one _) (by unfold maxLen; omega) (by omega) (by simp; try omega) ?_; intro D7 c7 w7 hown7 hg7; have HG7 := hid hg7; have HO7 := hid hown7; clear hown7 hg7)
      have HB7 := hid (BA.out.grown HG7.out (by simp) (fun q hq => by simp [Value.ownBlock] at hq))
      try go_wp2_with fail
      refine hK.out _ _ (HS6.out _ HB7.out) (fun hHeld => ?_)
      clear hK K
      try simp only [List.getElem_toArray, List.getElem_cons_succ, List.getElem_cons_zero, Act.put, List.setIfInBounds_toArray, List.set_cons_zero, List.set_cons_succ]
      refine OrdF.one (i := 6) rfl (by kernel_rfl) (fun K hK => ?_)
      (refine step_append_opt (by rfl) (.tmp 64) (.tmp 67) 25 (by rfl) w6.heap.size 3 i5 (.int .i64 0) 1 8 Try.underlying25 Ai.out Az0.out Az1.out Az2.out rfl (by decide) _ _ _ _ (by first | rfl | (rw [Nat.zero_add]; rfl)) (HO7.out) (some ⟨w6.heap.size, 0, none⟩) 1 1 (icells [x.too]) (by rfl) (fun h => by cases h) (by rfl) (one_src ((HG7.out.block w6.heap.size (by simp) (by simp [Value.ownBlock])).trans (heap_alloc_new w6.drew _))) (icells_one _) (by unfold maxLen; omega) (by omega) (by have := HB7.out.size; simp at this ⊢; omega) ?_; intro D8 c8 w8 hown8 hg8; have HO8 := hid hown8; have HG8 := hid hg8; clear hown8 hg8)
      have HB8 := hid (HB7.out.grown HG8.out HB7.out.size (fun q hq => (HO7.out.lt q hq).1))
      try go_wp2_with fail
      refine hK.out _ _ (HS6.out _ HB8.out) (fun hHeld => ?_)
      clear hK K
      try simp only [List.getElem_toArray, List.getElem_cons_succ, List.getElem_cons_zero, Act.put, List.setIfInBounds_toArray, List.set_cons_zero, List.set_cons_succ]
      refine OrdF.last (n := 7) rfl (by kernel_rfl) (fun K hK => ?_)
      try simp only [List.getElem_toArray, List.getElem_cons_succ, List.getElem_cons_zero, Act.put, List.setIfInBounds_toArray, List.set_cons_zero, List.set_cons_succ]
      go_simp
      refine hK.out _ _ ?_
      clear hK K
      try simp only [List.getElem_toArray, List.getElem_cons_succ, List.getElem_cons_zero, Act.put, List.setIfInBounds_toArray, List.set_cons_zero, List.set_cons_succ]
      go_wp2_with fail
      go_meet
      exact ⟨_, _, by first | rfl | rw [hmn2], HB8.out, path_end HO8.out hlen.out hmn⟩
  case rest =>
    obtain ⟨Ap, cp, rfl, HX⟩ := hcut
    rename World => w7
    obtain ⟨P, hPP⟩ : ∃ P, x.via ++ [x.too] = P := ⟨_, rfl⟩
    rw [hPP] at HX HLaw hm
    have HBX := hid HX.out.1
    obtain ⟨bp, op, rfl, hbp, hcp⟩ := HX.out.2.2 (by omega)
    have HK : Hid (∀ W, Below w7.heap.size w7 W → Held2 w nd A n c x y W) := fun W hb => h6.next (HBX.out.trans (hb.mono HBX.out.size))
    have HPc : Hid (∀ W, Below w7.heap.size w7 W → ∀ j u, P[j]? = some u → W.cell? ⟨bp, op + j, none⟩ = some (.int .i64 u)) := fun W hb j u hu => (hb.cell (p := ⟨bp, op + j, none⟩) hbp).trans (hcp j u hu)
    have HGn : Hid (∀ W, Below w7.heap.size w7 W → DArg W A6 n c6 gn) := fun W hb => (HD6.out.on HBX.out).on hb
    have HPm := hid hm
    obtain ⟨g0, g1⟩ := (HK.out _ (Below.refl _ _)).g
    obtain ⟨g2, g3, g4, g5, g6, g7, g8⟩ := (HK.out _ (Below.refl _ _)).v
    clear hcp HX
    go_upto_block 0 with fail
    go_cut [15] (fun q wr => q = .int .i64 (runN x.frm P : Nat) ∧ Hid (Below w7.heap.size w7 wr))
    case first =>
      go_wp2_with fail
      go_loopw [15] (fun i wr => ∃ j : Nat, j ≤ runN x.frm P ∧ i = .int .i64 j ∧ Hid (Below w7.heap.size w7 wr)) (fun i _ => m - (intOf i).toNat)
      case atStart => exact ⟨0, Nat.zero_le _, rfl, Below.refl _ _⟩
      case round =>
        obtain ⟨j, hj, rfl, HB⟩ := hrel
        by_cases hlt : j < m
        · have d1 : decide ((j : Int) < (m : Int)) = true := decide_eq_true (by omega)
          have d2 : decide (j < m) = true := decide_eq_true hlt
          obtain ⟨u, hu⟩ : ∃ u, P[j]? = some u := ⟨_, List.getElem?_eq_getElem (by have := HPm.out; omega)⟩
          have hc := HPc.out _ HB.out j u hu
          obtain ⟨r1, r2⟩ := run_more hj hu
          have hi1 : (0 : Int) ≤ (j : Int) := by omega
          have hi2 : (j : Int) < (m : Int) := by omega
          have ewk : IntKind.i64.wrap ((j : Int) + 1) = (j : Int) + 1 := by rw [IntKind.wrap_i64]; omega
          by_cases h2 : u = x.frm
          · have hj2 := r1 h2
            subst h2
            clear r1 r2 hu hj
            go_wp2_with fail
            go_roundw
            case rel => exact ⟨j + 1, hj2, by go_num, HB⟩
            case measure => simp [intOf]; omega
          · have d4 : (u == x.frm) = false := by rw [beq_eq_false_iff_ne]; exact h2
            have d5 : decide (u = x.frm) = false := decide_eq_false h2
            have hj2 := hid (r2 h2)
            clear r1 r2 hu hj
            go_wp2_with fail
            go_meet
            exact ⟨by rw [hj2.out], HB⟩
        · have hj2 := hid (run_all hj (by have := HPm.out; omega))
          have d1 : decide ((j : Int) < (m : Int)) = false := decide_eq_false (by omega)
          have d2 : decide (j < m) = false := decide_eq_false hlt
          clear hj
          go_wp2_with fail
          go_meet
          exact ⟨by rw [hj2.out], HB⟩
    case rest =>
      obtain ⟨rfl, HB0⟩ := hcut
      clear g0 g1 g2 g3 g4 g5 g6 g7 g8
      go_wp2_with fail
      go_loopw [14, 15, 16, 17] (fun a b s i wr => ∃ (i' k : Nat) (v sm : Int), i' ≤ ne ∧ a = .int .i64 v ∧ b = .int .i64 k ∧ s = .int .i64 sm ∧ i = .int .i64 i' ∧ k ≤ m ∧ 0 ≤ sm ∧ sm ≤ i' * 16777216 ∧ Hid (goW l gn P es x.frm (runN x.frm P) = (goW l gn P (es.drop i') v k).map (fun q => (q.1, q.2.1, sm + q.2.2))) ∧ Hid (Below w7.heap.size w7 wr)) (fun _ _ _ i _ => ne - (intOf i).toNat)
      case atStart => exact ⟨0, _, _, 0, Nat.zero_le _, rfl, rfl, rfl, rfl, by have := runN_le x.frm P; have := HPm.out; omega, Int.le_refl _, by simp, goW_start, HB0⟩
      case round =>
        obtain ⟨i, k, v, s, hi, rfl, rfl, rfl, rfl, hk, hs0, hs1, HG, HB⟩ := hrel
        by_cases hlt : i < ne
        · have d1 : decide ((i : Int) < (ne : Int)) = true := decide_eq_true (by omega)
          have d2 : decide (i < ne) = true := decide_eq_true hlt
          obtain ⟨e, he⟩ : ∃ e, es[i]? = some e := ⟨_, List.getElem?_eq_getElem (by omega)⟩
          obtain ⟨be, oe, rfl, hbe, hce0⟩ := HEs.out.2 (by omega)
          have hce := hce0 i e he
          have HSx : Hid (∀ W, Held2 w nd A n c x y W → W.cell? ⟨w.heap.size, 0, none⟩ = some (.int .i64 nd) ∧ W.cell? ⟨w.heap.size, 1, none⟩ = some (.slice A n c) ∧ W.cell? ⟨be, oe + i, none⟩ = some (.int .i64 e)) := fun W h => ⟨h.g.1, h.g.2, (h.1.cell (p := ⟨be, oe + i, none⟩) hbe).trans hce⟩
          obtain ⟨e1, e2⟩ := herng.out e (List.mem_of_getElem? he)
          have i6 : (i : Int) < (ne : Int) := by omega
          have i7 : (0 : Int) ≤ (i : Int) := by omega
          have hdr : es.drop i = e :: es.drop (i + 1) := by
            rw [List.drop_eq_getElem_cons (by omega)]
            congr 1
            exact (List.getElem?_eq_some_iff.1 he).2
          have hGe := HG.out
          rw [hdr, goW] at hGe
          have HEN := hid (HEnds.out e e2)
          have hdw := HK.out _ HB.out.drew
          have sD := HSx.out _ hdw
          have hno : ∀ X : Option (Int × Nat × Int), X = none → goW l gn P es x.frm (runN x.frm P) = X.map (fun q => (q.1, q.2.1, s + q.2.2)) → hb = false := fun X hX h => HLaw.out.2 (fun s' h' => by rw [h, hX] at h'; cases h')
          obtain ⟨a, ha⟩ : ∃ a, (endsS l e).1 = a := ⟨_, rfl⟩
          obtain ⟨b, hbb⟩ : ∃ b, (endsS l e).2.1 = b := ⟨_, rfl⟩
          obtain ⟨ok, hok⟩ : ∃ ok, (endsS l e).2.2 = ok := ⟨_, rfl⟩
          rw [ha, hbb, hok] at hGe HEN
          cases ok with
          | false =>
            rw [if_neg (by simp)] at hGe
            have hbad := hno none rfl hGe
            clear hGe hno hce hce0 hdr
            obtain rfl : hb = false := hbad
            go_wp2_with fail
            go_region_held3 (fun W => W.cell? ⟨w.heap.size, 0, none⟩ = some (.int .i64 nd) ∧ W.cell? ⟨w.heap.size, 1, none⟩ = some (.slice A n c) ∧ W.cell? ⟨be, oe + i, none⟩ = some (.int .i64 e))
              (first | go_keep | exact s8 | exact sD)
              (first | (go_at_call 22; (with_reducible refine (HEN.out _ hdw).mono ?_); rintro e' w8 ⟨rfl, h8, b8⟩; have s8 := HSx.out _ h8))
            obtain ⟨s8a, s8b, s8c⟩ := s8
            obtain ⟨y0, y1⟩ := h8.g; obtain ⟨y2, y3, y4, y5, y6, y7, y8⟩ := h8.v
            go_wp2_with (go_at_call 16; (with_reducible refine (HHs.out _ h8).mono ?_); rintro e' w9 ⟨rfl, h9⟩)
            go_ret
            exact ⟨rfl, h9.1⟩
          | true =>
            by_cases hav : a = v
            · subst hav
              obtain ⟨K, a', b', rfl, hK, hE, haN, hbN⟩ := ends_facts HCk.out hok
              rw [hE] at ha hbb
              dsimp only at ha hbb
              subst ha hbb
              obtain ⟨q, hq⟩ : ∃ q, K / 2 = q := ⟨_, rfl⟩
              obtain ⟨xl, hxl⟩ : ∃ xl, l[q]? = some xl := ⟨_, List.getElem?_eq_getElem (by omega)⟩
              have hmet : met l K = xl.m := by unfold met; rw [hq, List.getD_eq_getElem?_getD, hxl]; rfl
              have hm1 := met_pos HCk.out hK
              have hm2 := met_top HCk.out hK
              rw [hmet] at hm1 hm2
              obtain ⟨bL, oL, rfl, hbL, hcL⟩ := HLk.out.2 (by omega)
              have hcL2 := hid (hcL q xl hxl).2.2.1
              have hg7 := (HGn.out w7 (Below.refl _ _)).row
              obtain ⟨b6, o6, rfl, hb6, hc6⟩ := hg7.2 (by omega)
              obtain ⟨gb, hgb⟩ : ∃ gb, gn[q]? = some gb := ⟨_, List.getElem?_eq_getElem (by have := hg7.1; omega)⟩
              have hc7 := hid (hc6 q gb hgb)
              have HGc : Hid (∀ W, Below w7.heap.size w7 W → W.cell? ⟨b6, o6 + q, none⟩ = some (.bool gb)) := fun W hb2 => (hb2.cell (p := ⟨b6, o6 + q, none⟩) hb6).trans hc7.out
              have HLc : Hid (∀ W, Held2 w nd (some ⟨bL, oL, none⟩) n c x y W → W.cell? ⟨bL, oL + q * 4 + 2, none⟩ = some (.int .i64 xl.m)) := fun W hh => (hh.1.cell (p := ⟨bL, oL + q * 4 + 2, none⟩) hbL).trans hcL2.out
              have hdn : isDn gn q = gb := by unfold isDn; rw [List.getD_eq_getElem?_getD, hgb]; rfl
              have dq : Int.tdiv (K : Int) 2 = (q : Int) := by rw [← hq]; rfl
              have iq1 : (q : Int) < (n : Int) := by omega
              have iq0 : (0 : Int) ≤ (q : Int) := by omega
              have iqw : IntKind.i64.wrap (q : Int) = (q : Int) := by rw [IntKind.wrap_i64]; omega
              rw [Int.toNat_natCast, hq, hdn, hmet] at hGe
              clear hcL hg7 hc6 hgb hxl hdn hE
              cases gb with
              | true =>
                rw [if_neg (fun h => by simp at h)] at hGe
                have hbad := hno none rfl hGe
                clear hGe hno hce hce0 hdr hmet hok
                obtain rfl : hb = false := hbad
                go_wp2_with fail
                go_region_held3 (fun W => W.cell? ⟨w.heap.size, 0, none⟩ = some (.int .i64 nd) ∧ W.cell? ⟨w.heap.size, 1, none⟩ = some (.slice (some ⟨bL, oL, none⟩) n c) ∧ W.cell? ⟨be, oe + i, none⟩ = some (.int .i64 (K : Int)))
                  (first | go_keep | exact s8 | exact sD)
                  (first | (go_at_call 22; (with_reducible refine (HEN.out _ hdw).mono ?_); rintro e' w8 ⟨rfl, h8, b8⟩; have s8 := HSx.out _ h8))
                obtain ⟨s8a, s8b, s8c⟩ := s8
                obtain ⟨y0, y1⟩ := h8.g; obtain ⟨y2, y3, y4, y5, y6, y7, y8⟩ := h8.v
                have HB8 := hid (HB.out.drew.trans (b8.mono HB.out.drew.size))
                have gc := HGc.out _ HB8.out
                clear b8
                go_wp2_with (go_at_call 16; (with_reducible refine (HHs.out _ h8).mono ?_); rintro e' w9 ⟨rfl, h9⟩)
                go_ret
                exact ⟨rfl, h9.1⟩
              | false =>
                rw [if_pos ⟨rfl, rfl, rfl⟩, Option.map_map] at hGe
                have HG2 : Hid (goW l gn P es x.frm (runN x.frm P) = (goW l gn P (es.drop (i + 1)) (b' : Int) (k + runN (b' : Int) (P.drop k))).map (fun q => (q.1, q.2.1, (s + xl.m) + q.2.2))) := by
                  show _ = _
                  rw [hGe]
                  congr 1
                  funext q'
                  simp [Function.comp, Int.add_assoc]
                have ews : IntKind.i64.wrap (s + xl.m) = s + xl.m := by rw [IntKind.wrap_i64]; omega
                have hkr : k + runN (b' : Int) (P.drop k) ≤ m := by have := run_le_drop (b' : Int) P (n := k) (by have := HPm.out; omega); have := HPm.out; omega
                have HE2 := hid ews
                clear hGe hno hce hce0 hdr hmet hok ews
                go_wp2_with fail
                go_region_held3 (fun W => W.cell? ⟨w.heap.size, 0, none⟩ = some (.int .i64 nd) ∧ W.cell? ⟨w.heap.size, 1, none⟩ = some (.slice (some ⟨bL, oL, none⟩) n c) ∧ W.cell? ⟨be, oe + i, none⟩ = some (.int .i64 (K : Int)))
                  (first | go_keep | exact s8 | exact sD)
                  (first | (go_at_call 22; (with_reducible refine (HEN.out _ hdw).mono ?_); rintro e' w8 ⟨rfl, h8, b8⟩; have s8 := HSx.out _ h8))
                obtain ⟨s8a, s8b, s8c⟩ := s8
                obtain ⟨y0, y1⟩ := h8.g; obtain ⟨y2, y3, y4, y5, y6, y7, y8⟩ := h8.v
                have HB8 := hid (HB.out.drew.trans (b8.mono HB.out.drew.size))
                have gc := HGc.out _ HB8.out
                clear b8
                have h8d := h8.drew
                have sE := (⟨(HSx.out _ h8d).2.1, (HSx.out _ h8d).2.2, HLc.out _ h8d⟩ : _ ∧ _ ∧ _)
                have ews := HE2.out
                go_wp2_with fail
                go_region_held3 (fun W => W.cell? ⟨w.heap.size, 1, none⟩ = some (.slice (some ⟨bL, oL, none⟩) n c) ∧ W.cell? ⟨be, oe + i, none⟩ = some (.int .i64 (K : Int)) ∧ W.cell? ⟨bL, oL + q * 4 + 2, none⟩ = some (.int .i64 xl.m))
                  (first | go_keep | exact sE)
                  (fail)
                clear y0 y1 y2 y3 y4 y5 y6 y7 y8 s8a s8b s8c gc sE sD dq ews iqw iq1 iq0
                have HBd := hid HB8.out.drew
                have ewo : IntKind.i64.wrap ((i : Int) + 1) = (i : Int) + 1 := by rw [IntKind.wrap_i64]; omega
                go_wp2_with fail
                go_loopw [15] (fun i wr => ∃ j : Nat, j ≤ runN (b' : Int) (P.drop k) ∧ i = .int .i64 (k + j : Nat) ∧ Hid (Below w7.heap.size w7 wr)) (fun i _ => m - (intOf i).toNat)
                case atStart => exact ⟨0, Nat.zero_le _, rfl, HBd⟩
                case round =>
                  obtain ⟨j, hj, rfl, HB⟩ := hrel
                  obtain ⟨J, hJ⟩ : ∃ J, k + j = J := ⟨_, rfl⟩
                  have hJm : J ≤ m := by omega
                  rw [hJ]
                  by_cases hlt : J < m
                  · have d1 : decide ((J : Int) < (m : Int)) = true := decide_eq_true (by omega)
                    have d2 : decide (J < m) = true := decide_eq_true hlt
                    obtain ⟨u, hu⟩ : ∃ u, P[J]? = some u := ⟨_, List.getElem?_eq_getElem (by have := HPm.out; omega)⟩
                    have hc := HPc.out _ HB.out J u hu
                    obtain ⟨r1, r2⟩ := run_more hj (u := u) (by rw [List.getElem?_drop, hJ]; exact hu)
                    have hi1 : (0 : Int) ≤ (J : Int) := by omega
                    have hi2 : (J : Int) < (m : Int) := by omega
                    have ewk : IntKind.i64.wrap ((J : Int) + 1) = (J : Int) + 1 := by rw [IntKind.wrap_i64]; omega
                    by_cases h2 : u = (b' : Int)
                    · have hj2 := r1 h2
                      subst h2
                      clear r1 r2 hu hj
                      have HJ := hid hJ
                      clear hJ
                      go_wp2_with fail
                      go_roundw
                      case rel => exact ⟨j + 1, hj2, by rw [← Nat.add_assoc, HJ.out]; go_num, HB⟩
                      case measure => simp [intOf]; omega
                    · have d4 : (u == (b' : Int)) = false := by rw [beq_eq_false_iff_ne]; exact h2
                      have d5 : decide (u = (b' : Int)) = false := decide_eq_false h2
                      have hj2 := hid (r2 h2)
                      have HJ := hid hJ
                      clear r1 r2 hu hj hJ
                      have HG3 := HG2.out
                      rw [hj2.out, HJ.out] at HG3
                      have HG4 := hid HG3
                      clear HG3
                      go_wp2_with fail
                      go_roundw
                      case rel => exact ⟨i + 1, J, _, _, by omega, rfl, rfl, rfl, by go_num, hJm, by omega, by push_cast; omega, HG4, HB⟩
                      case measure => simp [intOf]; omega
                  · have hj2 := hid (run_all hj (by rw [List.length_drop]; have := HPm.out; omega))
                    have d1 : decide ((J : Int) < (m : Int)) = false := decide_eq_false (by omega)
                    have d2 : decide (J < m) = false := decide_eq_false hlt
                    have HJ := hid hJ
                    clear hj hJ
                    have HG3 := HG2.out
                    rw [hj2.out, HJ.out] at HG3
                    have HG4 := hid HG3
                    clear HG3
                    go_wp2_with fail
                    go_roundw
                    case rel => exact ⟨i + 1, J, _, _, by omega, rfl, rfl, rfl, by go_num, hJm, by omega, by push_cast; omega, HG4, HB⟩
                    case measure => simp [intOf]; omega
            · rw [if_neg (fun h => hav h.2.1)] at hGe
              have hbad := hno none rfl hGe
              have q1 : (a != v) = true := bne_iff_ne.2 hav
              have q2 : decide (a = v) = false := decide_eq_false hav
              clear hGe hno hce hce0 hdr
              obtain rfl : hb = false := hbad
              go_wp2_with fail
              go_region_held3 (fun W => W.cell? ⟨w.heap.size, 0, none⟩ = some (.int .i64 nd) ∧ W.cell? ⟨w.heap.size, 1, none⟩ = some (.slice A n c) ∧ W.cell? ⟨be, oe + i, none⟩ = some (.int .i64 e))
                (first | go_keep | exact s8 | exact sD)
                (first | (go_at_call 22; (with_reducible refine (HEN.out _ hdw).mono ?_); rintro e' w8 ⟨rfl, h8, b8⟩; have s8 := HSx.out _ h8))
              obtain ⟨s8a, s8b, s8c⟩ := s8
              obtain ⟨y0, y1⟩ := h8.g; obtain ⟨y2, y3, y4, y5, y6, y7, y8⟩ := h8.v
              go_wp2_with (go_at_call 16; (with_reducible refine (HHs.out _ h8).mono ?_); rintro e' w9 ⟨rfl, h9⟩)
              go_ret
              exact ⟨rfl, h9.1⟩
        · obtain rfl : ne = i := by omega
          have d1 : decide ((ne : Int) < (ne : Int)) = false := by simp
          have d2 : decide (ne < ne) = false := by simp
          have hGe := HG.out
          rw [List.drop_eq_nil_of_le (by omega), goW, Option.map_some] at hGe
          dsimp only at hGe
          rw [Int.add_zero] at hGe
          have hh := HK.out _ HB.out
          obtain ⟨y0, y1⟩ := hh.g; obtain ⟨y2, y3, y4, y5, y6, y7, y8⟩ := hh.v
          have HNum := hid onum_any
          by_cases hkm : k < m
          · have d3 : decide ((k : Int) < (m : Int)) = true := decide_eq_true (by omega)
            have d4 : decide (k < m) = true := decide_eq_true hkm
            have hbad : hb = false := HLaw.out.2 (fun s' h' => by rw [hGe] at h'; simp at h'; omega)
            obtain rfl : hb = false := hbad
            clear hGe
            go_wp2_with (first
              | (go_at_call 11; (with_reducible refine (HNum.out _ _).mono ?_); rintro _ _ ⟨rfl, rfl⟩)
              | (go_at_call 16; (with_reducible refine (HHs.out _ hh).mono ?_); rintro e' w9 ⟨rfl, h9⟩))
            go_ret
            exact ⟨rfl, h9.1⟩
          · obtain rfl : m = k := by omega
            have d3 : decide ((m : Int) < (m : Int)) = false := by simp
            have d4 : decide (m < m) = false := by simp
            by_cases hvt : v = x.too
            · subst hvt
              obtain ⟨L1, L2⟩ := HLaw.out.1 s hGe
              by_cases hc : c2 = 0
              · obtain ⟨M1, M2⟩ := L1 hc
                subst hc
                by_cases hcs : c1 = s
                · obtain rfl : hb = true := M2.1 hcs
                  obtain rfl : c1 = s := hcs
                  have z1 : decide (c1 ≤ c1) = true := by simp
                  have z2 : decide (c1 < c1) = false := by simp
                  have z3 : (c1 == c1) = true := by simp
                  clear hGe L1 L2 M1 M2
                  go_wp2_with (first
                    | (go_at_call 11; (with_reducible refine (HNum.out _ _).mono ?_); rintro _ _ ⟨rfl, rfl⟩)
                    | (go_at_call 16; (with_reducible refine (HHs.out _ hh).mono ?_); rintro e' w9 ⟨rfl, h9⟩))
                  go_ret
                  exact ⟨rfl, h9.1⟩
                · obtain rfl : hb = false := by
                    cases hb with
                    | false => rfl
                    | true => exact absurd (M2.2 rfl) hcs
                  have z1 : decide (c1 ≤ s) = true := decide_eq_true M1
                  have z2 : decide (c1 < s) = true := decide_eq_true (by omega)
                  clear hGe L1 L2 M1 M2 hcs
                  go_wp2_with (first
                    | (go_at_call 11; (with_reducible refine (HNum.out _ _).mono ?_); rintro _ _ ⟨rfl, rfl⟩)
                    | (go_at_call 16; (with_reducible refine (HHs.out _ hh).mono ?_); rintro e' w9 ⟨rfl, h9⟩))
                  go_ret
                  exact ⟨rfl, h9.1⟩
              · obtain ⟨M1, M2, M3⟩ := L2 hc
                subst M1
                have z1 : ((8 : Int) != 0) = true := by decide
                have z2 : ((8 : Int) == 8) = true := by decide
                have z3 : decide (0 < x.bnd) = true := decide_eq_true M2
                have z4 : decide (x.bnd < s) = true := decide_eq_true M3
                clear hGe L1 L2 M2 M3 hc
                go_wp2_with (first
                  | (go_at_call 11; (with_reducible refine (HNum.out _ _).mono ?_); rintro _ _ ⟨rfl, rfl⟩)
                  | (go_at_call 16; (with_reducible refine (HHs.out _ hh).mono ?_); rintro e' w9 ⟨rfl, h9⟩))
                go_ret
                exact ⟨rfl, hh.1⟩
            · have hbad : hb = false := HLaw.out.2 (fun s' h' => by rw [hGe] at h'; simp at h'; exact hvt h'.1)
              obtain rfl : hb = false := hbad
              have z1 : (v != x.too) = true := bne_iff_ne.2 hvt
              have z2 : decide (v = x.too) = false := decide_eq_false hvt
              clear hGe
              go_wp2_with (first
                | (go_at_call 11; (with_reducible refine (HNum.out _ _).mono ?_); rintro _ _ ⟨rfl, rfl⟩)
                | (go_at_call 16; (with_reducible refine (HHs.out _ hh).mono ?_); rintro e' w9 ⟨rfl, h9⟩))
              go_ret
              exact ⟨rfl, h9.1⟩
theorem optLeast_any (hO : OptSpec 9 12 14 18 16) (nd : Int) (A : Option Addr) (n c : Nat) (x : Wnt) (y : WSl) (l : List Lnk) (Ad : Option Addr) (n' c' : Nat) (dn : List Bool) (Ae : Option Addr) (ne ce : Nat) (es : List Int) (w : World) (hr : RLnk w w.heap.size A n l) (hc : n ≤ c) (hA : A = none → n = 0 ∧ c = 0) (hw : WArg w x y) (hd : RBl w w.heap.size Ad n' dn) (hc' : n' ≤ c') (hA' : Ad = none → n' = 0 ∧ c' = 0) (he : RInt w w.heap.size Ae ne es) (her : ∀ e ∈ es, -9223372036854775808 ≤ e ∧ e ≤ 9223372036854775807) (h0 : -9223372036854775808 ≤ nd ∧ nd ≤ 9223372036854775807) :
    Calls Try.prog 5 #[.agg #[.int .i64 nd, .slice A n c], .agg #[.int .i64 x.frm, .int .i64 x.too, .int .i64 x.bnd, .slice y.av y.nv y.cv, .slice y.an y.nn y.cn, .slice y.al y.nl y.cl, .slice y.ac y.nc y.cc], .slice Ad n' c', .slice Ae ne ce] w fun e w' => e = .returned (.bool true) ∧ Below w.heap.size w w' := by
  by_cases h : smallB nd n = false ∨ fewB y = false ∨ 200 < n' ∨ 60 < ne ∨ rightS nd l x ≠ 0
  · exact optLeast_out hO nd A n c x y l Ad n' c' Ae ne ce w hr hc hA hw h0 h
  · have hs : smallB nd n = true := by
      cases hs : smallB nd n with
      | true => rfl
      | false => exact absurd (.inl hs) h
    have hf : fewB y = true := by
      cases hf : fewB y with
      | true => rfl
      | false => exact absurd (.inr (.inl hf)) h
    have hr0 : rightS nd l x = 0 := by
      rcases Classical.em (rightS nd l x = 0) with h5 | h5
      · exact h5
      · exact absurd (.inr (.inr (.inr (.inr h5)))) h
    have hn16 : n ≤ 16 := by unfold smallB at hs; simp only [Bool.and_eq_true, decide_eq_true_eq] at hs; omega
    exact optLeast_in hO nd A n c x y l Ad n' c' dn Ae ne ce es w ⟨hr, by omega, hc, hA, h0.1, h0.2⟩ hs hw ⟨hd, by omega, hc', hA'⟩ ⟨he, by omega, her⟩ hf hr0
end Go.Proofs.Ytabgbhkpeeibaaa
