/- Merged: OpN OpI OpJ. -/
import Derived.Test.YtkemcgbedapkcaaG06
import Derived.Test.YtkemcgbedapkcaaG05
import Derived.Deep.DeepCutAuto
import Derived.Laws.StructEq
/- waymarkref15.NewOpt. -/
namespace Go.Proofs.Ytkemcgbedapkcaa
open Go.RowKit
set_option maxHeartbeats 64000000
set_option maxRecDepth 100000
theorem newOpt_not (nd : Int) (A : Option Addr) (n c : Nat) (l : List Lnk) (x : Wnt) (y : WSl) (Ad : Option Addr) (n' c' : Nat) (dn : List Bool) (w : World) (hg : GArg w nd A n c l) (hw : WArg w x y) (hd : DArg w Ad n' c' dn) (h1 : y.nv ≤ 100) (h2 : y.nn ≤ 100) (h3 : y.nl ≤ 100) (h4 : y.nc ≤ 100) (h : (costS nd l x dn).2 ≠ 0) :
    Calls Try.prog 34 #[.agg #[.int .i64 nd, .slice A n c], .agg #[.int .i64 x.frm, .int .i64 x.too, .int .i64 x.bnd, .slice y.av y.nv y.cv, .slice y.an y.nn y.cn, .slice y.al y.nl y.cl, .slice y.ac y.nc y.cc], .slice Ad n' c'] w fun e w' => e = .returned (.tuple #[.pointer none, .bool false]) ∧ Below w.heap.size w w' := by
  have hS := Held2.start w nd A n c x y
  have HC := hid (fun W (hh : Held2 w nd A n c x y W) => hh.calls (refCost_spec nd A n c l x y Ad n' c' dn W (hg.on hh.1) (hw.on hh.1) (hd.on hh.1) h1 h2 h3 h4))
  obtain ⟨k1, hk1⟩ : ∃ k1, (costS nd l x dn).1 = k1 := ⟨_, rfl⟩
  obtain ⟨k2, hk2⟩ : ∃ k2, (costS nd l x dn).2 = k2 := ⟨_, rfl⟩
  rw [hk1, hk2] at HC
  rw [hk2] at h
  have t1 : (k2 != 0) = true := bne_iff_ne.2 h
  clear hk1 hk2 hg hw hd h
  go_enter Try.func34, Try.ntmps34
  go_wp2_with (go_at_call 33; (with_reducible refine (HC.out _ hS).mono ?_); rintro e' w1 ⟨rfl, hh1⟩)
  go_ret2
  exact ⟨rfl, hh1.1⟩
theorem newOpt_in (nd : Int) (A : Option Addr) (n c : Nat) (l : List Lnk) (x : Wnt) (y : WSl) (Ad : Option Addr) (n' c' : Nat) (dn : List Bool) (w : World) (hg : GArg w nd A n c l) (hw : WArg w x y) (hd : DArg w Ad n' c' dn) (h1 : y.nv ≤ 100) (h2 : y.nn ≤ 100) (h3 : y.nl ≤ 100) (h4 : y.nc ≤ 100) (h : (costS nd l x dn).2 = 0) :
    Calls Try.prog 34 #[.agg #[.int .i64 nd, .slice A n c], .agg #[.int .i64 x.frm, .int .i64 x.too, .int .i64 x.bnd, .slice y.av y.nv y.cv, .slice y.an y.nn y.cn, .slice y.al y.nl y.cl, .slice y.ac y.nc y.cc], .slice Ad n' c'] w fun e w' => ∃ B, e = .returned (.tuple #[.pointer (some ⟨B, 0, none⟩), .bool true]) ∧ OptAt nd A n c l x (prunedS nd l x dn) B w' ∧ Below w.heap.size w w' := by
  have hr0 : rightS nd l x = 0 := by
    rcases Classical.em (rightS nd l x = 0) with h5 | h5
    · exact h5
    · unfold costS at h; rw [if_pos h5] at h; exact absurd h h5
  obtain ⟨hck, hpv, -⟩ := right_ok hr0
  have hvl := hw.via.row.1
  have hll := hg.row.1
  have hgl := hg.len
  have hS := Held2.start w nd A n c x y
  have HC := hid (fun W (hh : Held2 w nd A n c x y W) => hh.calls (refCost_spec nd A n c l x y Ad n' c' dn W (hg.on hh.1) (hw.on hh.1) (hd.on hh.1) h1 h2 h3 h4))
  rw [h] at HC
  obtain ⟨k1, hk1⟩ : ∃ k1, (costS nd l x dn).1 = k1 := ⟨_, rfl⟩
  rw [hk1] at HC
  obtain ⟨m, hm⟩ : ∃ m, (ptsS x).length = m := ⟨_, rfl⟩
  have HP := hid (fun W (hh : Held2 w nd A n c x y W) => ints_out (m := m) hm (points_any x y W (hw.on hh.1) (by omega)))
  have HPr := hid (fun W (hh : Held2 w nd A n c x y W) => bl_out (m := n) (by rw [prunedS_n hr0, hll]) (by omega) (refDown_spec nd A n c l x y Ad n' c' dn W (hg.on hh.1) (hw.on hh.1) (hd.on hh.1) h1 h2 h3 h4))
  have hm2 := ptsS_len x
  have HPA := hid (fun k (hk : k < m) => pts_at (x := x) (k := k) (by omega))
  have HPV := hid (fun k (hk : k < m) => hpv _ (List.mem_of_getElem? (pts_at (x := x) (k := k) (by omega))))
  have hm1 : 2 ≤ m ∧ m ≤ 102 := by omega
  obtain ⟨gn, hgn⟩ : ∃ gn, prunedS nd l x dn = gn := ⟨_, rfl⟩
  rw [hgn] at HPr ⊢
  obtain ⟨N, hN⟩ : ∃ N, nd.toNat = N := ⟨_, rfl⟩
  have HEnd : Hid (∀ (wC : World) Ap cp Ag cg vF vs W, wC.heap.size ≤ wC.heap.size → RInt wC wC.heap.size Ap m (ptsS x) → DArg wC Ag n cg gn → NOs wC nd A n c l gn (ptsS x) N m Ap cp Ag cg vF m vs W → OptAt nd A n c l x gn wC.heap.size W) := by
    intro wC Ap cp Ag cg vF vs W _ hp hdg hs
    subst hm hN
    exact ⟨Ap, cp, Ag, cg, vF, vs, hs.box, hp.on hs.bel, hdg.on hs.bel, own_mono hs.own (Nat.zero_le _), hs.far⟩
  obtain ⟨P, hP⟩ : ∃ P, ptsS x = P := ⟨_, rfl⟩
  simp only [hP] at HP HPA HPV HEnd
  have HFr := hid (fun (a : Int) (ha : 0 ≤ a ∧ a < nd) (Ag : Option Addr) (cg : Nat) W (hh : Held2 w nd A n c x y W) (hdg : DArg W Ag n cg gn) => show Calls Try.prog 14 #[.agg #[.int .i64 nd, .slice A n c], .slice Ag n cg, .int .i64 a] W fun e w'' => ∃ A5 c5, e = .returned (.slice A5 N c5) ∧ w''.ownsRow 0 3 1 (.slice A5 N c5) N (icells (fromS nd l gn a)) ∧ Below W.heap.size W w'' by
    have hf := refFrom_spec nd A n c l Ag n cg gn a W (hg.on hh.1) hdg (by have := hg.lo; omega) (by have := hg.hi; omega)
    refine hf.mono ?_
    rintro e' w'' ⟨v, rfl, hown, hb⟩
    rw [(fromS_row hck ha).1, hN] at hown
    obtain ⟨A5, c5, rfl⟩ := own_form hown
    exact ⟨A5, c5, rfl, own_mono hown (Nat.zero_le _), hb⟩)
  obtain ⟨i5, hi, hz0, hz1, hz2⟩ := info_parts (show (Try.prog.info? 40).map (fun i => (i.zero, i.size, i.bytes)) = some (some (.slice none 0 0), 1, 24) by kernel_rfl)
  have Ai := hid hi; have Az0 := hid hz0; have Az1 := hid hz1; have Az2 := hid hz2
  have tE : ((0 : Int) != 0) = false := by decide
  clear hi hz0 hz1 hz2 hgn hN hP hg hw hd hck hpv hvl hll h hr0 hm hm2 hk1 h1 h2 h3 h4
  go_enter Try.func34, Try.ntmps34
  go_upto_region 4 with (go_at_call 33; (with_reducible refine (HC.out _ hS).mono ?_); rintro e' w3 ⟨rfl, hh3⟩; have hhd := hh3.drew; have HHd := hid hhd; obtain ⟨p0, p1⟩ := hhd.g; obtain ⟨p2, p3, p4, p5, p6, p7, p8⟩ := hhd.v; clear hhd)
  go_cut [10] (fun q wx => ∃ (wC : World) (Ap : Option Addr) (cp : Nat) (Ag : Option Addr) (cg : Nat), q = .pointer (some ⟨wC.heap.size, 0, none⟩) ∧ Hid (Held2 w nd A n c x y wC ∧ RInt wC wC.heap.size Ap m P ∧ m ≤ cp ∧ DArg wC Ag n cg gn ∧ NOs wC nd A n c l gn P N m Ap cp Ag cg (.slice none 0 0) 0 [] wx))
  case first =>
    go_wp2_with fail
    have HS4 : Hid (∀ W, Held2 w nd A n c x y W → W.cell? ⟨w.heap.size, 0, none⟩ = some (.int .i64 nd) ∧ W.cell? ⟨w.heap.size, 1, none⟩ = some (.slice A n c) ∧ W.cell? ⟨w.heap.size + 1, 0, none⟩ = some (.int .i64 x.frm) ∧ W.cell? ⟨w.heap.size + 1, 1, none⟩ = some (.int .i64 x.too) ∧ W.cell? ⟨w.heap.size + 1, 2, none⟩ = some (.int .i64 x.bnd) ∧ W.cell? ⟨w.heap.size + 1, 3, none⟩ = some (.slice y.av y.nv y.cv) ∧ W.cell? ⟨w.heap.size + 1, 4, none⟩ = some (.slice y.an y.nn y.cn) ∧ W.cell? ⟨w.heap.size + 1, 5, none⟩ = some (.slice y.al y.nl y.cl) ∧ W.cell? ⟨w.heap.size + 1, 6, none⟩ = some (.slice y.ac y.nc y.cc)) := fun W hh => by obtain ⟨g0, g1⟩ := hh.g; obtain ⟨g2, g3, g4, g5, g6, g7, g8⟩ := hh.v; exact ⟨g0, g1, g2, g3, g4, g5, g6, g7, g8⟩
    clear p0 p1 p2 p3 p4 p5 p6 p7 p8
    refine region_ord 9 (fun W => W.cell? ⟨w.heap.size, 0, none⟩ = some (.int .i64 nd) ∧ W.cell? ⟨w.heap.size, 1, none⟩ = some (.slice A n c) ∧ W.cell? ⟨w.heap.size + 1, 0, none⟩ = some (.int .i64 x.frm) ∧ W.cell? ⟨w.heap.size + 1, 1, none⟩ = some (.int .i64 x.too) ∧ W.cell? ⟨w.heap.size + 1, 2, none⟩ = some (.int .i64 x.bnd) ∧ W.cell? ⟨w.heap.size + 1, 3, none⟩ = some (.slice y.av y.nv y.cv) ∧ W.cell? ⟨w.heap.size + 1, 4, none⟩ = some (.slice y.an y.nn y.cn) ∧ W.cell? ⟨w.heap.size + 1, 5, none⟩ = some (.slice y.al y.nl y.cl) ∧ W.cell? ⟨w.heap.size + 1, 6, none⟩ = some (.slice y.ac y.nc y.cc)) (by kernel_rfl) (HS4.out _ HHd.out) (fun hHeld => ?_)
    refine OrdF.take (i := 0) (v := ?_) rfl (by kernel_rfl) (fun _ _ _ h => h) (by rfl) ?_ (by assumption) ?_
    (rotate_left; focus (intro w' hSw; (try dsimp only at hSw); go_simp; (try with_reducible rfl)))
    try simp only [List.getElem_toArray, List.getElem_cons_zero, Act.put, List.setIfInBounds_toArray, List.set_cons_zero, List.set_cons_succ]
    refine OrdF.take (i := 1) (v := ?_) rfl (by kernel_rfl) (fun _ _ _ h => h) (by rfl) ?_ (by assumption) ?_
    (rotate_left; focus (intro w' hSw; (try dsimp only at hSw); go_simp; (try with_reducible rfl)))
    try simp only [List.getElem_toArray, List.getElem_cons_succ, List.getElem_cons_zero, Act.put, List.setIfInBounds_toArray, List.set_cons_zero, List.set_cons_succ]
    refine OrdF.take (i := 3) (v := ?_) rfl (by kernel_rfl) (fun _ _ _ h => h) (by rfl) ?_ (by assumption) ?_
    (rotate_left; focus (intro w' hSw; (try dsimp only at hSw); go_simp; (try with_reducible rfl)))
    try simp only [List.getElem_toArray, List.getElem_cons_succ, List.getElem_cons_zero, Act.put, List.setIfInBounds_toArray, List.set_cons_zero, List.set_cons_succ]
    refine OrdF.take (i := 4) (v := ?_) rfl (by kernel_rfl) (fun _ _ _ h => h) (by rfl) ?_ (by assumption) ?_
    (rotate_left; focus (intro w' hSw; (try dsimp only at hSw); go_simp; (try with_reducible rfl)))
    try simp only [List.getElem_toArray, List.getElem_cons_succ, List.getElem_cons_zero, Act.put, List.setIfInBounds_toArray, List.set_cons_zero, List.set_cons_succ]
    refine OrdF.take (i := 5) (v := ?_) rfl (by kernel_rfl) (fun _ _ _ h => h) (by rfl) ?_ (by assumption) ?_
    (rotate_left; focus (intro w' hSw; (try dsimp only at hSw); go_simp; (try with_reducible rfl)))
    try simp only [List.getElem_toArray, List.getElem_cons_succ, List.getElem_cons_zero, Act.put, List.setIfInBounds_toArray, List.set_cons_zero, List.set_cons_succ]
    refine OrdF.one (i := 2) rfl (by kernel_rfl) (fun K hK => ?_)
    try simp only [List.getElem_toArray, List.getElem_cons_succ, List.getElem_cons_zero, Act.put, List.setIfInBounds_toArray, List.set_cons_zero, List.set_cons_succ]
    go_simp
    (go_at_call 53; (with_reducible refine (HP.out _ HHd.out).mono ?_); rintro e' w4 ⟨A4, c4, rfl, ⟨hr4, hc4, hn4⟩, hb4⟩; have hh4 := HHd.out.next hb4; have HH4 := hid hh4; have HR4 := hid hr4; have HQ4 := HS4.out _ hh4; clear hh4 hr4 hn4)
    try go_wp2_with fail
    refine hK.out _ _ HQ4 (fun hHeld => ?_)
    clear hK K
    try simp only [List.getElem_toArray, List.getElem_cons_succ, List.getElem_cons_zero, Act.put, List.setIfInBounds_toArray, List.set_cons_zero, List.set_cons_succ]
    refine OrdF.one (i := 6) rfl (by kernel_rfl) (fun K hK => ?_)
    try simp only [List.getElem_toArray, List.getElem_cons_succ, List.getElem_cons_zero, Act.put, List.setIfInBounds_toArray, List.set_cons_zero, List.set_cons_succ]
    go_simp
    (go_at_call 54; (with_reducible refine (HPr.out _ HH4.out).mono ?_); rintro e' w5 ⟨A5, c5, rfl, hd5, hb5⟩; have hh5 := HH4.out.next hb5; have HH5 := hid hh5; have HD5 := hid hd5; have HQ5 := HS4.out _ hh5; clear hh5 hd5)
    try go_wp2_with fail
    refine hK.out _ _ HQ5 (fun hHeld => ?_)
    clear hK K
    try simp only [List.getElem_toArray, List.getElem_cons_succ, List.getElem_cons_zero, Act.put, List.setIfInBounds_toArray, List.set_cons_zero, List.set_cons_succ]
    have HR4 := hid (HR4.out.on hb5)
    refine OrdF.one (i := 7) rfl (by kernel_rfl) (fun K hK => ?_)
    try simp only [List.getElem_toArray, List.getElem_cons_succ, List.getElem_cons_zero, Act.put, List.setIfInBounds_toArray, List.set_cons_zero, List.set_cons_succ]
    go_simp
    refine hK.out _ _ (HS4.out _ HH5.out) (fun hHeld => ?_)
    clear hK K
    try simp only [List.getElem_toArray, List.getElem_cons_succ, List.getElem_cons_zero, Act.put, List.setIfInBounds_toArray, List.set_cons_zero, List.set_cons_succ]
    refine OrdF.one (i := 8) rfl (by kernel_rfl) (fun K hK => ?_)
    try simp only [List.getElem_toArray, List.getElem_cons_succ, List.getElem_cons_zero, Act.put, List.setIfInBounds_toArray, List.set_cons_zero, List.set_cons_succ]
    go_simp
    refine hK.out _ _ (HS4.out _ (HH5.out.next ((Below.refl _ _).alloc (Nat.le_refl _) _))) (fun hHeld => ?_)
    clear hK K
    try simp only [List.getElem_toArray, List.getElem_cons_succ, List.getElem_cons_zero, Act.put, List.setIfInBounds_toArray, List.set_cons_zero, List.set_cons_succ]
    refine OrdF.last (n := 9) rfl (by kernel_rfl) (fun K hK => ?_)
    try simp only [List.getElem_toArray, List.getElem_cons_succ, List.getElem_cons_zero, Act.put, List.setIfInBounds_toArray, List.set_cons_zero, List.set_cons_succ]
    go_simp
    refine hK.out _ _ ?_
    clear hK K
    try simp only [List.getElem_toArray, List.getElem_cons_succ, List.getElem_cons_zero, Act.put, List.setIfInBounds_toArray, List.set_cons_zero, List.set_cons_succ]
    go_wp2_with fail
    go_meet
    exact ⟨_, _, _, _, _, rfl, nos_start HH5.out HR4.out hc4 HD5.out⟩
  case rest =>
    obtain ⟨wC, Ap, cp, Ag, cg, rfl, HM⟩ := hcut
    have HhC := hid (fun W (hb : Below wC.heap.size wC W) => HM.out.1.next hb)
    have HrC := hid (fun W (hb : Below wC.heap.size wC W) => HM.out.2.1.on hb)
    have HdC := hid (fun W (hb : Below wC.heap.size wC W) => HM.out.2.2.2.1.on hb)
    have HS0 := hid HM.out.2.2.2.2
    have hlC := HM.out.1.1.size
    have hbC := hid HM.out.1.1
    have hrc := HM.out.2.1
    have hpc := HM.out.2.2.1
    obtain ⟨bp, op, rfl, hbp, -⟩ := hrc.2 (by omega)
    have HEnd2 := hid (HEnd.out wC (some ⟨bp, op, none⟩) cp Ag cg)
    clear hrc HC HP HPr HHd HEnd hS p0 p1 p2 p3 p4 p5 p6 p7 p8
    have HrC2 := hid (HM.out.2.1)
    have HdC2 := hid (HM.out.2.2.2.1)
    clear HM
    go_wp2_with fail
    go_loopw [11] (fun i wr => ∃ (k : Nat) (vF : Value) (vs : List Value), k ≤ m ∧ i = .int .i64 k ∧ Hid (NOs wC nd A n c l gn P N m (some ⟨bp, op, none⟩) cp Ag cg vF k vs wr)) (fun i _ => m - (intOf i).toNat)
    case atStart => exact ⟨0, _, [], Nat.zero_le _, rfl, HS0⟩
    case round =>
      obtain ⟨k, vF, vs, hk, rfl, HSt⟩ := hrel
      have hbx := HSt.out.box
      obtain ⟨z0, z1, z2, z3, z4, z5⟩ := box5_cells hbx
      by_cases hlt : k < m
      · have hki : (k : Int) < (m : Int) := by omega
        have d1 : decide ((k : Int) < (m : Int)) = true := decide_eq_true hki
        have d2 : decide (k < m) = true := decide_eq_true hlt
        have hv := HPV.out k hlt
        have hpa := HPA.out k hlt
        have HPA2 := hid hpa
        have hrw := HrC.out _ HSt.out.bel
        obtain ⟨b', o', hbo, hbl, hcell⟩ := hrw.2 (by omega)
        cases hbo
        have x1 := hcell k _ hpa
        have x1d : wr.drew.cell? ⟨bp, op + k, none⟩ = some (.int .i64 (P.getD k 0)) := x1
        clear hcell
        have stD := HSt.out.next ((Below.refl _ _).drew)
        have HSD := hid stD
        have hbxd := stD.box
        obtain ⟨y0, y1, y2, y3, y4, y5⟩ := box5_cells hbxd
        have hhD := HhC.out _ stD.bel
        obtain ⟨g0, g1⟩ := hhD.g
        have HFk := hid (HFr.out _ hv Ag cg _ hhD (HdC.out _ stD.bel))
        have Hvs : Hid (vs.length = k) := by show _ = _; have := HSt.out.own.1; omega
        have ewk : IntKind.i64.wrap ((k : Int) + 1) = (k : Int) + 1 := by rw [IntKind.wrap_i64]; omega
        obtain ⟨a, ha⟩ : ∃ a, P.getD k 0 = a := ⟨_, rfl⟩
        rw [ha] at HFk x1 x1d
        have hA := hid ha
        clear hv hpa hbx hbxd hrw stD hhD hbl ha
        go_wp2_with fail
        have HSS : Hid (∀ W, Below wC.heap.size wC W → W.heap[wC.heap.size]? = some (.cells #[.int .i64 nd, .slice A n c, .slice (some ⟨bp, op, none⟩) m cp, .slice Ag n cg, vF] 117 (0, 0)) → W.cell? ⟨w.heap.size, 0, none⟩ = some (.int .i64 nd) ∧ W.cell? ⟨w.heap.size, 1, none⟩ = some (.slice A n c) ∧ W.cell? ⟨wC.heap.size, 2, none⟩ = some (.slice (some ⟨bp, op, none⟩) m cp) ∧ W.cell? ⟨wC.heap.size, 3, none⟩ = some (.slice Ag n cg) ∧ W.cell? ⟨wC.heap.size, 4, none⟩ = some vF ∧ W.cell? ⟨bp, op + k, none⟩ = some (.int .i64 a)) := by
          intro W hbW hbox
          obtain ⟨u0, u1⟩ := (HhC.out W hbW).g
          obtain ⟨v0, v1, v2, v3, v4, -⟩ := box5_cells hbox
          obtain ⟨b2, o2, hbo2, -, hcell2⟩ := (HrC.out W hbW).2 (by omega)
          cases hbo2
          exact ⟨u0, u1, v2, v3, v4, by have := hcell2 k _ HPA2.out; rw [hA.out] at this; exact this⟩
        have HQ0 := HSS.out _ HSD.out.bel HSD.out.box
        refine region_ord 22 (fun W => W.cell? ⟨w.heap.size, 0, none⟩ = some (.int .i64 nd) ∧ W.cell? ⟨w.heap.size, 1, none⟩ = some (.slice A n c) ∧ W.cell? ⟨wC.heap.size, 2, none⟩ = some (.slice (some ⟨bp, op, none⟩) m cp) ∧ W.cell? ⟨wC.heap.size, 3, none⟩ = some (.slice Ag n cg) ∧ W.cell? ⟨wC.heap.size, 4, none⟩ = some vF ∧ W.cell? ⟨bp, op + k, none⟩ = some (.int .i64 a)) (by kernel_rfl) HQ0 (fun hHeld => ?_)
        refine OrdF.take (i := 0) (v := ?_) rfl (by kernel_rfl) (fun _ _ _ h => h) (by rfl) ?_ (by assumption) ?_
        (rotate_left; focus (intro w' hSw; (try dsimp only at hSw); go_simp; (try with_reducible rfl)))
        try simp only [List.getElem_toArray, List.getElem_cons_zero, Act.put, List.setIfInBounds_toArray, List.set_cons_zero, List.set_cons_succ]
        refine OrdF.take (i := 1) (v := ?_) rfl (by kernel_rfl) (fun _ _ _ h => h) (by rfl) ?_ (by assumption) ?_
        (rotate_left; focus (intro w' hSw; (try dsimp only at hSw); go_simp; (try with_reducible rfl)))
        try simp only [List.getElem_toArray, List.getElem_cons_succ, List.getElem_cons_zero, Act.put, List.setIfInBounds_toArray, List.set_cons_zero, List.set_cons_succ]
        refine OrdF.take (i := 2) (v := ?_) rfl (by kernel_rfl) (fun _ _ _ h => h) (by rfl) ?_ (by assumption) ?_
        (rotate_left; focus (intro w' hSw; (try dsimp only at hSw); go_simp; (try with_reducible rfl)))
        try simp only [List.getElem_toArray, List.getElem_cons_succ, List.getElem_cons_zero, Act.put, List.setIfInBounds_toArray, List.set_cons_zero, List.set_cons_succ]
        refine OrdF.take (i := 3) (v := ?_) rfl (by kernel_rfl) (fun _ _ _ h => h) (by rfl) ?_ (by assumption) ?_
        (rotate_left; focus (intro w' hSw; (try dsimp only at hSw); go_simp; (try with_reducible rfl)))
        try simp only [List.getElem_toArray, List.getElem_cons_succ, List.getElem_cons_zero, Act.put, List.setIfInBounds_toArray, List.set_cons_zero, List.set_cons_succ]
        refine OrdF.take (i := 4) (v := ?_) rfl (by kernel_rfl) (fun _ _ _ h => h) (by rfl) ?_ (by assumption) ?_
        (rotate_left; focus (intro w' hSw; (try dsimp only at hSw); go_simp; (try with_reducible rfl)))
        try simp only [List.getElem_toArray, List.getElem_cons_succ, List.getElem_cons_zero, Act.put, List.setIfInBounds_toArray, List.set_cons_zero, List.set_cons_succ]
        refine OrdF.take (i := 5) (v := ?_) rfl (by kernel_rfl) (fun _ _ _ h => h) (by rfl) ?_ (by assumption) ?_
        (rotate_left; focus (intro w' hSw; (try dsimp only at hSw); go_simp; (try with_reducible rfl)))
        try simp only [List.getElem_toArray, List.getElem_cons_succ, List.getElem_cons_zero, Act.put, List.setIfInBounds_toArray, List.set_cons_zero, List.set_cons_succ]
        refine OrdF.take (i := 6) (v := ?_) rfl (by kernel_rfl) (fun _ _ _ h => h) (by rfl) ?_ (by assumption) ?_
        (rotate_left; focus (intro w' hSw; (try dsimp only at hSw); go_simp; (try with_reducible rfl)))
        try simp only [List.getElem_toArray, List.getElem_cons_succ, List.getElem_cons_zero, Act.put, List.setIfInBounds_toArray, List.set_cons_zero, List.set_cons_succ]
        refine OrdF.take (i := 7) (v := ?_) rfl (by kernel_rfl) (fun _ _ _ h => h) (by rfl) ?_ (by assumption) ?_
        (rotate_left; focus (intro w' hSw; (try dsimp only at hSw); go_simp; (try with_reducible rfl)))
        try simp only [List.getElem_toArray, List.getElem_cons_succ, List.getElem_cons_zero, Act.put, List.setIfInBounds_toArray, List.set_cons_zero, List.set_cons_succ]
        refine OrdF.take (i := 8) (v := ?_) rfl (by kernel_rfl) (fun _ _ _ h => h) (by rfl) ?_ (by assumption) ?_
        (rotate_left; focus (intro w' hSw; (try dsimp only at hSw); go_simp; (try with_reducible rfl)))
        try simp only [List.getElem_toArray, List.getElem_cons_succ, List.getElem_cons_zero, Act.put, List.setIfInBounds_toArray, List.set_cons_zero, List.set_cons_succ]
        refine OrdF.take (i := 9) (v := ?_) rfl (by kernel_rfl) (fun _ _ _ h => h) (by rfl) ?_ (by assumption) ?_
        (rotate_left; focus (intro w' hSw; (try dsimp only at hSw); go_simp; (try with_reducible rfl)))
        try simp only [List.getElem_toArray, List.getElem_cons_succ, List.getElem_cons_zero, Act.put, List.setIfInBounds_toArray, List.set_cons_zero, List.set_cons_succ]
        refine OrdF.take (i := 10) (v := ?_) rfl (by kernel_rfl) (fun _ _ _ h => h) (by rfl) ?_ (by assumption) ?_
        (rotate_left; focus (intro w' hSw; (try dsimp only at hSw); go_simp; (try with_reducible rfl)))
        try simp only [List.getElem_toArray, List.getElem_cons_succ, List.getElem_cons_zero, Act.put, List.setIfInBounds_toArray, List.set_cons_zero, List.set_cons_succ]
        refine OrdF.take (i := 11) (v := ?_) rfl (by kernel_rfl) (fun _ _ _ h => h) (by rfl) ?_ (by assumption) ?_
        (rotate_left; focus (intro w' hSw; (try dsimp only at hSw); go_simp; (try with_reducible rfl)))
        try simp only [List.getElem_toArray, List.getElem_cons_succ, List.getElem_cons_zero, Act.put, List.setIfInBounds_toArray, List.set_cons_zero, List.set_cons_succ]
        refine OrdF.take (i := 12) (v := ?_) rfl (by kernel_rfl) (fun _ _ _ h => h) (by rfl) ?_ (by assumption) ?_
        (rotate_left; focus (intro w' hSw; (try dsimp only at hSw); go_simp; (try with_reducible rfl)))
        try simp only [List.getElem_toArray, List.getElem_cons_succ, List.getElem_cons_zero, Act.put, List.setIfInBounds_toArray, List.set_cons_zero, List.set_cons_succ]
        refine OrdF.take (i := 13) (v := ?_) rfl (by kernel_rfl) (fun _ _ _ h => h) (by rfl) ?_ (by assumption) ?_
        (rotate_left; focus (intro w' hSw; (try dsimp only at hSw); go_simp; (try with_reducible rfl)))
        try simp only [List.getElem_toArray, List.getElem_cons_succ, List.getElem_cons_zero, Act.put, List.setIfInBounds_toArray, List.set_cons_zero, List.set_cons_succ]
        refine OrdF.take (i := 14) (v := ?_) rfl (by kernel_rfl) (fun _ _ _ h => h) (by rfl) ?_ (by assumption) ?_
        (rotate_left; focus (intro w' hSw; (try dsimp only at hSw); go_simp; (try with_reducible rfl)))
        try simp only [List.getElem_toArray, List.getElem_cons_succ, List.getElem_cons_zero, Act.put, List.setIfInBounds_toArray, List.set_cons_zero, List.set_cons_succ]
        refine OrdF.take (i := 15) (v := ?_) rfl (by kernel_rfl) (fun _ _ _ h => h) (by rfl) ?_ (by assumption) ?_
        (rotate_left; focus (intro w' hSw; (try dsimp only at hSw); go_simp; (try with_reducible rfl)))
        try simp only [List.getElem_toArray, List.getElem_cons_succ, List.getElem_cons_zero, Act.put, List.setIfInBounds_toArray, List.set_cons_zero, List.set_cons_succ]
        refine OrdF.take (i := 16) (v := ?_) rfl (by kernel_rfl) (fun _ _ _ h => h) (by rfl) ?_ (by assumption) ?_
        (rotate_left; focus (intro w' hSw; (try dsimp only at hSw); go_simp; (try with_reducible rfl)))
        try simp only [List.getElem_toArray, List.getElem_cons_succ, List.getElem_cons_zero, Act.put, List.setIfInBounds_toArray, List.set_cons_zero, List.set_cons_succ]
        refine OrdF.one (i := 17) rfl (by kernel_rfl) (fun K hK => ?_)
        try simp only [List.getElem_toArray, List.getElem_cons_succ, List.getElem_cons_zero, Act.put, List.setIfInBounds_toArray, List.set_cons_zero, List.set_cons_succ]
        go_simp
        (go_at_call 14; (with_reducible refine HFk.out.mono ?_); rintro e' w5 ⟨A5, c5, rfl, hown5, hb5⟩; have st5 := HSD.out.next hb5; have HS5 := hid st5; have HO5 := hid st5.own; have HV5 := hid hown5; obtain ⟨q0, q1, q2, q3, q4, q5⟩ := box5_cells st5.box; have hl5 := st5.lt; have HQ5 := HSS.out _ st5.bel st5.box; clear hown5 st5 hb5)
        try go_wp2_with fail
        refine hK.out _ _ HQ5 (fun hHeld => ?_)
        clear hK K
        try simp only [List.getElem_toArray, List.getElem_cons_succ, List.getElem_cons_zero, Act.put, List.setIfInBounds_toArray, List.set_cons_zero, List.set_cons_succ]
        refine OrdF.one (i := 18) rfl (by kernel_rfl) (fun K hK => ?_)
        try simp only [List.getElem_toArray, List.getElem_cons_succ, List.getElem_cons_zero, Act.put, List.setIfInBounds_toArray, List.set_cons_zero, List.set_cons_succ]
        go_simp
        have st6 := HS5.out.next ((Below.refl _ _).alloc (Nat.le_refl _) (Obj.cells #[.slice A5 N c5] 40))
        have HQ6 := HSS.out _ st6.bel st6.box
        clear st6
        refine hK.out _ _ HQ6 (fun hHeld => ?_)
        clear hK K
        try simp only [List.getElem_toArray, List.getElem_cons_succ, List.getElem_cons_zero, Act.put, List.setIfInBounds_toArray, List.set_cons_zero, List.set_cons_succ]
        refine OrdF.one (i := 19) rfl (by kernel_rfl) (fun K hK => ?_)
        (refine step_append_some (by rfl) (.tmp 43) (.tmp 57) 60 (by rfl) (wC.heap.size + 1) 40 i5 (.slice none 0 0) 1 24 Try.underlying60 Ai.out Az0.out Az1.out Az2.out rfl (by decide) vF k vs (by go_simp) (HO5.out.alloc _) ⟨w5.heap.size, 0, none⟩ 1 1 [.slice A5 N c5] (by go_simp) (by rfl) (new_row (by rfl)) (by simp [Value.oneCell']) (by unfold maxLen; omega) (by omega) (by simp; omega) ?_; intro A6 c6 w6 hown6 hg6; have HO6 := hid hown6; have HG6 := hid hg6; have hX6 := box_app HS5.out.box (by omega) HO5.out hg6; have HQ7 := HSS.out _ (below_app HS5.out.bel (by omega) HO5.out hg6) hX6; obtain ⟨p0, p1, p2, p3, p4, pf⟩ := box5_cells hX6; have f6 := pf 4; have HX6 := hid hX6; clear hown6 hX6 pf hg6)
        try go_wp2_with fail
        refine hK.out _ _ HQ7 (fun hHeld => ?_)
        clear hK K
        try simp only [List.getElem_toArray, List.getElem_cons_succ, List.getElem_cons_zero, Act.put, List.setIfInBounds_toArray, List.set_cons_zero, List.set_cons_succ]
        refine OrdF.take (i := 20) (v := ?_) rfl (by kernel_rfl) (fun _ _ _ h => h) (by rfl) ?_ (by assumption) ?_
        (rotate_left; focus (intro w' hSw; (try dsimp only at hSw); go_simp; (try with_reducible rfl)))
        try simp only [List.getElem_toArray, List.getElem_cons_succ, List.getElem_cons_zero, Act.put, List.setIfInBounds_toArray, List.set_cons_zero, List.set_cons_succ]
        refine OrdF.take (i := 21) (v := ?_) rfl (by kernel_rfl) (fun _ _ _ h => h) (by rfl) ?_ (by assumption) ?_
        (rotate_left; focus (intro w' hSw; (try dsimp only at hSw); go_simp; (try with_reducible rfl)))
        try simp only [List.getElem_toArray, List.getElem_cons_succ, List.getElem_cons_zero, Act.put, List.setIfInBounds_toArray, List.set_cons_zero, List.set_cons_succ]
        refine OrdF.last (n := 22) rfl (by kernel_rfl) (fun K hK => ?_)
        try simp only [List.getElem_toArray, List.getElem_cons_succ, List.getElem_cons_zero, Act.put]
        go_simp
        try go_wp2_with fail
        refine hK.out _ _ ?_
        clear hK K
        try simp only [List.getElem_toArray, List.getElem_cons_succ, List.getElem_cons_zero, Act.put, List.setIfInBounds_toArray, List.set_cons_zero, List.set_cons_succ]
        have HNx := hid (NOs.put HS5.out Hvs.out (by rw [hA.out]; exact HV5.out) HO6.out HG6.out)
        go_wp2_with fail
        clear ewk
        go_roundw
        case rel => exact ⟨k + 1, _, _, by omega, by go_num, HNx⟩
        case measure => simp [intOf]; omega
      · obtain rfl : m = k := by omega
        have d1 : decide ((m : Int) < (m : Int)) = false := by simp
        have d2 : decide (m < m) = false := by simp
        have HE := hid (HEnd2.out vF vs wr (Nat.le_refl _) HrC2.out HdC2.out HSt.out)
        have HBE := hid (hbC.out.trans (HSt.out.bel.mono (by omega)))
        go_wp2_with fail
        go_ret2
        exact ⟨wC.heap.size, rfl, HE.out, HBE.out⟩
theorem newOpt_spec : NewOptSpec 34 := fun nd A n c l x y Ad n' c' dn w hg hw hd h1 h2 h3 h4 => by
  by_cases h : (costS nd l x dn).2 = 0
  · refine (newOpt_in nd A n c l x y Ad n' c' dn w hg hw hd h1 h2 h3 h4 h).mono ?_
    rintro e w' ⟨B, he, ho, hb⟩
    exact ⟨hb, .inr ⟨h, B, he, ho⟩⟩
  · refine (newOpt_not nd A n c l x y Ad n' c' dn w hg hw hd h1 h2 h3 h4 h).mono ?_
    rintro e w' ⟨he, hb⟩
    exact ⟨hb, .inl ⟨h, he⟩⟩
end Go.Proofs.Ytkemcgbedapkcaa

/- Cut out of OpI. -/
namespace Go.Proofs.Ytkemcgbedapkcaa
open Go.RowKit
set_option maxHeartbeats 12800000
set_option maxRecDepth 100000
theorem eq2_run (w : World) (a b c d : Int) : (Op.equalIn 10000 92 (.agg #[.int .i64 a, .int .i64 b]) (.agg #[.int .i64 c, .int .i64 d])).run Try.prog w = .ok ((a == c) && (b == d)) w := by
  obtain ⟨i, hi, _⟩ := info_parts (show (Try.prog.info? 3).map (fun i => (i.zero, i.size, i.bytes)) = some (some (.int .i64 0), 1, 8) by kernel_rfl)
  rw [show (10000 : Nat) = 9999 + 1 from rfl, run_equalIn_array w 9999 (e := 3) (n := 2) (i := i) _ _ (by kernel_rfl) hi, show Try.prog.cellsOf 3 = 1 by kernel_rfl]
  have hp : ∀ (cs : Array Value) (off : Nat) (v : Value), cs[off]? = some v → (part 3 cs off).run Try.prog w = .ok v w := by
    intro cs off v h
    simp [part, isAgg, run_underlying Try.underlying3, h]
  have he : ∀ x y : Int, (Op.equalIn 9999 3 (.int .i64 x) (.int .i64 y)).run Try.prog w = .ok (x == y) w := fun x y => run_equalIn_int w 9998 3 .i64 .i64 x y Try.underlying3
  rw [show List.range 2 = [0, 1] from rfl]
  simp only [Op.eqItems, Sem.run_bind]
  rw [hp _ _ (.int .i64 a) rfl, Result.andThen_ok, hp _ _ (.int .i64 c) rfl, Result.andThen_ok, he, Result.andThen_ok]
  cases h1 : (a == c) with
  | false => simp
  | true =>
    simp only [Bool.not_true, Bool.false_eq_true, if_false, Sem.run_bind, Bool.true_and]
    rw [hp _ _ (.int .i64 b) rfl, Result.andThen_ok, hp _ _ (.int .i64 d) rfl, Result.andThen_ok, he, Result.andThen_ok]
    cases h2 : (b == d) <;> simp
theorem neq2_run (w : World) (a b c d : Int) : (binOp .neq 92 (.agg #[.int .i64 a, .int .i64 b]) (.agg #[.int .i64 c, .int .i64 d])).run Try.prog w = .ok (.bool (!((a == c) && (b == d)))) w := by
  rw [run_neq_struct, eq2_run]; rfl
theorem eql2_run (w : World) (a b c d : Int) : (binOp .eql 92 (.agg #[.int .i64 a, .int .i64 b]) (.agg #[.int .i64 c, .int .i64 d])).run Try.prog w = .ok (.bool ((a == c) && (b == d))) w := by
  rw [run_eql_struct, eq2_run]; rfl
/-- A row of edges, as a call gets it. -/
structure EArg (w : World) (A : Option Addr) (n c : Nat) (es : List Int) : Prop where
  row : RInt w w.heap.size A n es
  len : n ≤ 60
  rng : ∀ e ∈ es, -9223372036854775808 ≤ e ∧ e ≤ 9223372036854775807
theorem EArg.on {w w' : World} {A : Option Addr} {n c : Nat} {es : List Int} (h : EArg w A n c es) (hb : Below w.heap.size w w') : EArg w' A n c es := ⟨h.row.on hb, h.len, h.rng⟩
/-- What Has answers. -/
def HasSpec (f : Nat) : Prop := ∀ (nd : Int) (A : Option Addr) (n c : Nat) (l : List Lnk) (x : Wnt) (y : WSl) (Ad : Option Addr) (n' c' : Nat) (dn : List Bool) (Ae : Option Addr) (ne ce : Nat) (es : List Int) (w : World), GArg w nd A n c l → WArg w x y → DArg w Ad n' c' dn → y.nv ≤ 100 → y.nn ≤ 100 → y.nl ≤ 100 → y.nc ≤ 100 → EArg w Ae ne ce es →
  Calls Try.prog f #[.agg #[.int .i64 nd, .slice A n c], .agg #[.int .i64 x.frm, .int .i64 x.too, .int .i64 x.bnd, .slice y.av y.nv y.cv, .slice y.an y.nn y.cn, .slice y.al y.nl y.cl, .slice y.ac y.nc y.cc], .slice Ad n' c', .slice Ae ne ce] w fun x' w' => x' = .returned (.bool (hasS nd l x dn es)) ∧ Below w.heap.size w w'
theorem ends_facts {nd : Int} {l : List Lnk} {e : Int} (hck : (checkS nd l).2 = 0) (h : (endsS l e).2.2 = true) : ∃ K a b : Nat, e = (K : Int) ∧ K < 2 * l.length ∧ endsS l e = ((a : Int), (b : Int), true) ∧ (a : Int) < nd ∧ (b : Int) < nd := by
  obtain ⟨hl, h1, h2, hc⟩ := checkS_ok hck
  obtain ⟨N, rfl⟩ := Int.eq_ofNat_of_zero_le (show 0 ≤ nd by omega)
  have hg := gok_of hck
  rcases Int.lt_or_le e 0 with h0 | h0
  · unfold endsS at h; rw [if_pos h0] at h; cases h
  · obtain ⟨K, rfl⟩ := Int.eq_ofNat_of_zero_le h0
    rcases Nat.lt_or_ge K (2 * l.length) with hlt | hge
    · obtain ⟨a, b, xx, hxx, hE, -, -, -, ha, hb, -⟩ := edge_facts hg hlt
      exact ⟨K, a, b, rfl, hlt, hE, by omega, by omega⟩
    · rw [endsS_none (e := K) (by omega)] at h; cases h
theorem stepO_form {nd : Int} {l : List Lnk} {x : Wnt} {gn : List Bool} {v k e : Int} {p : Int × Int} (hr : rightS nd l x = 0) (h : stepO nd l x gn v k e = some p) : ∃ K a b q : Nat, k = (K : Int) ∧ K + 1 < (ptsS x).length ∧ e < 2 * l.length ∧ 0 ≤ e ∧ endsS l e = ((a : Int), (b : Int), true) ∧ v = (a : Int) ∧ (a : Int) < nd ∧ (b : Int) < nd ∧ p = ((b : Int), (q : Int)) ∧ q = K + runN (b : Int) ((ptsS x).drop (K + 1)) ∧ q < (ptsS x).length ∧ e ∈ nextS nd l gn (fromS nd l gn ((ptsS x).getD (K + 1) 0)) v := by
  obtain ⟨hck, -, -⟩ := right_ok hr
  unfold stepO at h
  split at h
  · rename_i hh
    obtain ⟨a1, a2, a3, a4, a5⟩ := hh
    obtain ⟨E, a, b, rfl, hE, hE2, ha, hb⟩ := ends_facts hck a1
    obtain ⟨K, rfl⟩ := Int.eq_ofNat_of_zero_le a3
    have hrn := runN_le (b : Int) ((ptsS x).drop (K + 1))
    rw [List.length_drop] at hrn
    rw [hE2] at a2 h
    rw [show ((K : Int) + 1).toNat = K + 1 by omega] at a5
    cases h
    refine ⟨K, a, b, _, rfl, by omega, by omega, by omega, hE2, a2.symm, ha, hb, ?_, rfl, by omega, a5⟩
    show ((b : Int), if 0 ≤ (K : Int) then (K : Int) + (runN (b : Int) ((ptsS x).drop ((K : Int).toNat + 1)) : Nat) else (K : Int)) = _
    rw [if_pos a3, Int.toNat_natCast]
    push_cast; rfl
  · cases h
theorem stepO_rng {nd : Int} {l : List Lnk} {x : Wnt} {gn : List Bool} {v k e : Int} {p : Int × Int} (hr : rightS nd l x = 0) (h : stepO nd l x gn v k e = some p) : (-9223372036854775808 ≤ p.1 ∧ p.1 ≤ 9223372036854775807) ∧ (-9223372036854775808 ≤ p.2 ∧ p.2 ≤ 9223372036854775807) := by
  obtain ⟨hck, -, hv⟩ := right_ok hr
  have := checkS_ok hck
  obtain ⟨K, a, b, q, -, -, -, -, -, -, -, hb, rfl, -, hq, -⟩ := stepO_form hr h
  rw [ptsS_len] at hq
  exact ⟨⟨by omega, by omega⟩, by omega, by omega⟩
theorem startS_rng {nd : Int} {l : List Lnk} {x : Wnt} (hr : rightS nd l x = 0) : (-9223372036854775808 ≤ (startS x).1 ∧ (startS x).1 ≤ 9223372036854775807) ∧ (-9223372036854775808 ≤ (startS x).2 ∧ (startS x).2 ≤ 9223372036854775807) := by
  obtain ⟨hck, hpv, hv⟩ := right_ok hr
  have := checkS_ok hck
  have hf := hpv x.frm (by unfold ptsS; simp)
  have hrn := runN_le x.frm ((ptsS x).drop 1)
  rw [List.length_drop, ptsS_len] at hrn
  refine ⟨⟨?_, ?_⟩, ?_⟩
  · show _ ≤ x.frm; omega
  · show x.frm ≤ _; omega
  · show _ ≤ (if (0 : Int) ≤ 0 then (0 : Int) + (runN x.frm ((ptsS x).drop 1) : Nat) else 0) ∧ (if (0 : Int) ≤ 0 then (0 : Int) + (runN x.frm ((ptsS x).drop 1) : Nat) else 0) ≤ _
    rw [if_pos (Int.le_refl 0)]
    omega
theorem walk_succ {nd : Int} {l : List Lnk} {x : Wnt} {gn : List Bool} {s : Option (Int × Int)} {es : List Int} {i : Nat} {e : Int} (h : es[i]? = some e) : walkO nd l x gn s (es.take (i + 1)) = (walkO nd l x gn s (es.take i)).bind fun p => stepO nd l x gn p.1 p.2 e := by
  unfold walkO
  rw [List.take_add_one, h, List.foldl_append]; rfl
theorem walk_nil {nd : Int} {l : List Lnk} {x : Wnt} {gn : List Bool} (es : List Int) : walkO nd l x gn none es = none := by
  unfold walkO
  induction es with
  | nil => rfl
  | cons e es ih => exact ih
theorem walk_none {nd : Int} {l : List Lnk} {x : Wnt} {gn : List Bool} {s : Option (Int × Int)} {es : List Int} {i : Nat} (h : walkO nd l x gn s (es.take i) = none) : walkO nd l x gn s es = none := by
  have e : walkO nd l x gn s es = walkO nd l x gn (walkO nd l x gn s (es.take i)) (es.drop i) := by
    conv => lhs; rw [← List.take_append_drop i es]
    unfold walkO
    rw [List.foldl_append]
  rw [e, h, walk_nil]
theorem has_off {nd : Int} {l : List Lnk} {x : Wnt} {dn : List Bool} {es : List Int} (h : (costS nd l x dn).2 ≠ 0) : hasS nd l x dn es = false := by
  unfold hasS
  rw [beq_false_of_ne h]; rfl
/-- Two boxes of Has, and its state's. -/
def HeldW (w : World) (nd : Int) (A : Option Addr) (n c : Nat) (x : Wnt) (y : WSl) (T : Nat) (v k : Int) (w' : World) : Prop :=
  Held2 w nd A n c x y w' ∧ w'.heap[T]? = some (.cells #[.int .i64 v, .int .i64 k] 92 (0, 0)) ∧ w.heap.size + 1 < T
theorem HeldW.next {w w' w'' : World} {nd : Int} {A : Option Addr} {n c T : Nat} {x : Wnt} {y : WSl} {v k : Int} (h : HeldW w nd A n c x y T v k w') (hb : Below w'.heap.size w' w'') : HeldW w nd A n c x y T v k w'' :=
  ⟨h.1.next hb, box_below h.2.1 hb (blk_lt h.2.1), h.2.2⟩
theorem HeldW.put {w w' : World} {nd : Int} {A : Option Addr} {n c T : Nat} {x : Wnt} {y : WSl} {v k a b : Int} (h : HeldW w nd A n c x y T v k w') : HeldW w nd A n c x y T a b ((w'.setCell ⟨T, 0, none⟩ (.int .i64 a)).setCell ⟨T, 1, none⟩ (.int .i64 b)) :=
  ⟨(h.1.set h.2.2).set h.2.2, box_set1 (box_set0 h.2.1), h.2.2⟩
end Go.Proofs.Ytkemcgbedapkcaa

/- Cut out of OpJ. -/
namespace Go.Proofs.Ytkemcgbedapkcaa
open Go.RowKit
set_option maxHeartbeats 12800000
set_option maxRecDepth 100000
def StGoSpec (f : Nat) (F : Wnt → Int × Int) : Prop := ∀ (x : Wnt) (y : WSl) (w : World), WArg w x y → y.nv ≤ 100 →
  Calls Try.prog f #[.agg #[.int .i64 x.frm, .int .i64 x.too, .int .i64 x.bnd, .slice y.av y.nv y.cv, .slice y.an y.nn y.cn, .slice y.al y.nl y.cl, .slice y.ac y.nc y.cc]] w fun e w' => e = .returned (.agg #[.int .i64 (F x).1, .int .i64 (F x).2]) ∧ Below w.heap.size w w'
theorem refStart_spec : StGoSpec 36 startS := fun x y w hw hv => start_any x y w hw (by omega)
theorem refGoal_spec : StGoSpec 38 goalS := fun x y w hw hv => goal_any x y w hw (by omega)
def wz : Wnt := ⟨0, 0, 0, [], [], [], []⟩
def w01 : Wnt := ⟨0, 1, 0, [], [], [], []⟩
def yz : WSl := ⟨none, 0, 0, none, 0, 0, none, 0, 0, none, 0, 0⟩
def lk7 : List Lnk := [⟨0, 1, 7, 0⟩]
theorem cost_one : costS 1 [] wz [] = (0, 0) := by
  have h1 : rightS 1 [] wz = 0 := by decide
  have h2 : prunedS 1 [] wz [] = [] := by decide
  rw [costS_L h1, h2]
  show costL 0 (legsS 1 [] [] 0 [0]) = _
  rw [legsS_some (by rw [from_one]; decide), from_one]
  rfl
theorem lk7_ok : GOk 2 lk7 := ⟨by decide, by decide, by decide, by decide⟩
theorem lk7_0 : fromS 2 lk7 [false] 0 = [0, 7] := by
  have hd : DistOk 2 lk7 [false] 0 [0, 7] := by
    refine ⟨rfl, rfl, fun v hv => ?_, fun k hk => ?_, fun v hv h0 _ => ?_⟩
    · rcases (show v = 0 ∨ v = 1 by omega) with rfl | rfl <;> decide
    · simp [lk7] at hk
      rcases (show k = 0 ∨ k = 1 by omega) with rfl | rfl <;> decide
    · obtain rfl : v = 1 := by omega
      exact ⟨0, by decide, by decide, by decide, by decide, by decide⟩
  unfold fromS
  rw [if_pos (by decide)]
  exact distS_eq lk7_ok hd
theorem lk7_1 : fromS 2 lk7 [false] 1 = [7, 0] := by
  have hd : DistOk 2 lk7 [false] 1 [7, 0] := by
    refine ⟨rfl, rfl, fun v hv => ?_, fun k hk => ?_, fun v hv h0 _ => ?_⟩
    · rcases (show v = 0 ∨ v = 1 by omega) with rfl | rfl <;> decide
    · simp [lk7] at hk
      rcases (show k = 0 ∨ k = 1 by omega) with rfl | rfl <;> decide
    · obtain rfl : v = 0 := by omega
      exact ⟨1, by decide, by decide, by decide, by decide, by decide⟩
  unfold fromS
  rw [if_pos (by decide)]
  exact distS_eq lk7_ok hd
theorem has_two : hasS 2 lk7 w01 [] [0] = true := by
  have h1 : rightS 2 lk7 w01 = 0 := by decide
  have h2 : prunedS 2 lk7 w01 [] = [false] := by decide
  have hc : costS 2 lk7 w01 [] = (7, 0) := by
    rw [costS_L h1, h2]
    show costL 0 (legsS 2 lk7 [false] 0 [1]) = _
    rw [legsS_some (by rw [lk7_0]; decide), lk7_0]
    rfl
  have hs : stepO 2 lk7 w01 [false] 0 0 0 = some (1, 1) := by
    unfold stepO
    rw [show (ptsS w01).getD ((0 : Int) + 1).toNat 0 = 1 from rfl, lk7_1, if_pos (by decide)]
    rfl
  unfold hasS
  rw [hc, h2, show startS w01 = (0, 0) from rfl]
  unfold walkO
  simp only [List.foldl_cons, List.foldl_nil, Option.bind_some, hs]
  rfl
theorem goal_two : goalS w01 = (1, 1) := rfl
theorem wz_arg (w : World) (x : Wnt) (hx : x.via = [] ∧ x.nds = [] ∧ x.lks = [] ∧ x.cls = []) (hb : -9223372036854775808 ≤ x.bnd ∧ x.bnd ≤ 9223372036854775807) : WArg w x yz := by
  have h0 : LArg w none 0 0 [] := ⟨⟨rfl, fun h => by omega⟩, Nat.le_refl _, fun _ => ⟨rfl, rfl⟩, Nat.zero_le _, fun x hx => by cases hx⟩
  obtain ⟨h1, h2, h3, h4⟩ := hx
  exact ⟨h1 ▸ h0, h2 ▸ h0, h3 ▸ h0, h4 ▸ h0, hb⟩
theorem rint_new (w : World) (x : Int) : RInt (w.alloc (.cells #[.int .i64 x] 3)) (w.heap.size + 1) (some ⟨w.heap.size, 0, none⟩) 1 [x] := by
  refine ⟨rfl, fun _ => ⟨w.heap.size, 0, rfl, by omega, fun i e he => ?_⟩⟩
  have hi : i = 0 := by
    have := (List.getElem?_eq_some_iff.1 he).1
    simp at this; omega
  subst hi
  simp at he
  subst he
  rw [cell_of_row _ _ _ _ _ _ (heap_alloc_new w _)]; rfl
end Go.Proofs.Ytkemcgbedapkcaa
