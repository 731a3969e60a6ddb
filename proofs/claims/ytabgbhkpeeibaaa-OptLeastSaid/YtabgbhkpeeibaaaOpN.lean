/- waymarkref15.NewOpt. -/
import Derived.Test.YtabgbhkpeeibaaaOpF
import Derived.Test.YtabgbhkpeeibaaaOrE
import Derived.Deep.DeepCutAuto
namespace Go.Proofs.Ytabgbhkpeeibaaa
open Go.RowKit
set_option maxHeartbeats 64000000
set_option maxRecDepth 100000
theorem newOpt_not (nd : Int) (A : Option Addr) (n c : Nat) (l : List Lnk) (x : Wnt) (y : WSl) (Ad : Option Addr) (n' c' : Nat) (dn : List Bool) (w : World) (hg : GArg w nd A n c l) (hw : WArg w x y) (hd : DArg w Ad n' c' dn) (h1 : y.nv ≤ 100) (h2 : y.nn ≤ 100) (h3 : y.nl ≤ 100) (h4 : y.nc ≤ 100) (h : (costS nd l x dn).2 ≠ 0) :
    Calls Try.prog 32 #[.agg #[.int .i64 nd, .slice A n c], .agg #[.int .i64 x.frm, .int .i64 x.too, .int .i64 x.bnd, .slice y.av y.nv y.cv, .slice y.an y.nn y.cn, .slice y.al y.nl y.cl, .slice y.ac y.nc y.cc], .slice Ad n' c'] w fun e w' => e = .returned (.tuple #[.pointer none, .bool false]) ∧ Below w.heap.size w w' := by
  have hS := Held2.start w nd A n c x y
  have HC := hid (fun W (hh : Held2 w nd A n c x y W) => hh.calls (refCost_spec nd A n c l x y Ad n' c' dn W (hg.on hh.1) (hw.on hh.1) (hd.on hh.1) h1 h2 h3 h4))
  obtain ⟨k1, hk1⟩ : ∃ k1, (costS nd l x dn).1 = k1 := ⟨_, rfl⟩
  obtain ⟨k2, hk2⟩ : ∃ k2, (costS nd l x dn).2 = k2 := ⟨_, rfl⟩
  rw [hk1, hk2] at HC
  rw [hk2] at h
  have t1 : (k2 != 0) = true := bne_iff_ne.2 h
  clear hk1 hk2 hg hw hd h
  go_enter Try.func32, Try.ntmps32
  go_wp2_with (go_at_call 10; (with_reducible refine (HC.out _ hS).mono ?_); rintro e' w1 ⟨rfl, hh1⟩)
  go_ret2
  exact ⟨rfl, hh1.1⟩
theorem newOpt_in (nd : Int) (A : Option Addr) (n c : Nat) (l : List Lnk) (x : Wnt) (y : WSl) (Ad : Option Addr) (n' c' : Nat) (dn : List Bool) (w : World) (hg : GArg w nd A n c l) (hw : WArg w x y) (hd : DArg w Ad n' c' dn) (h1 : y.nv ≤ 100) (h2 : y.nn ≤ 100) (h3 : y.nl ≤ 100) (h4 : y.nc ≤ 100) (h : (costS nd l x dn).2 = 0) :
    Calls Try.prog 32 #[.agg #[.int .i64 nd, .slice A n c], .agg #[.int .i64 x.frm, .int .i64 x.too, .int .i64 x.bnd, .slice y.av y.nv y.cv, .slice y.an y.nn y.cn, .slice y.al y.nl y.cl, .slice y.ac y.nc y.cc], .slice Ad n' c'] w fun e w' => ∃ B, e = .returned (.tuple #[.pointer (some ⟨B, 0, none⟩), .bool true]) ∧ OptAt nd A n c l x (prunedS nd l x dn) B w' ∧ Below w.heap.size w w' := by
  have hr0 : rightS nd l x = 0 := by
    rcases Classical.em (rightS nd l x = 0) with h5 | h5
    · exact h5
    · unfold costS at h; rw [if_pos h5] at h; exact absurd h h5
  obtain ⟨hck, hpv, -⟩ := right_ok hr0
  have hvl := hw.via.row.1
  have hll := hg.row.1
  have hgl := hg.len
  have hS := Held2.start w nd A n c x y
  have HC := hid (fun W (hh : Held2 w nd A n c x y W) => hh.calls (refCost_spec nd A n c l x y Ad n' c' dn W (hg.on hh.1) (hw.on hh.1) (hd.on hh.1) h1 h2 h3 h4))
  rw [h] at HC
  obtain ⟨k1, hk1⟩ : ∃ k1, (costS nd l x dn).1 = k1 := ⟨_, rfl⟩
  rw [hk1] at HC
  obtain ⟨m, hm⟩ : ∃ m, (ptsS x).length = m := ⟨_, rfl⟩
  have HP := hid (fun W (hh : Held2 w nd A n c x y W) => ints_out (m := m) hm (points_any x y W (hw.on hh.1) (by omega)))
  have HPr := hid (fun W (hh : Held2 w nd A n c x y W) => bl_out (m := n) (by rw [prunedS_n hr0, hll]) (by omega) (refDown_spec nd A n c l x y Ad n' c' dn W (hg.on hh.1) (hw.on hh.1) (hd.on hh.1) h1 h2 h3 h4))
  have hm2 := ptsS_len x
  have HPA := hid (fun k (hk : k < m) => pts_at (x := x) (k := k) (by omega))
  have HPV := hid (fun k (hk : k < m) => hpv _ (List.mem_of_getElem? (pts_at (x := x) (k := k) (by omega))))
  have hm1 : 2 ≤ m ∧ m ≤ 102 := by omega
  obtain ⟨gn, hgn⟩ : ∃ gn, prunedS nd l x dn = gn := ⟨_, rfl⟩
  rw [hgn] at HPr ⊢
  obtain ⟨N, hN⟩ : ∃ N, nd.toNat = N := ⟨_, rfl⟩
  have HEnd : Hid (∀ (wC : World) Ap cp Ag cg vF vs W, wC.heap.size ≤ wC.heap.size → RInt wC wC.heap.size Ap m (ptsS x) → DArg wC Ag n cg gn → NOs wC nd A n c l gn (ptsS x) N m Ap cp Ag cg vF m vs W → OptAt nd A n c l x gn wC.heap.size W) := by
    intro wC Ap cp Ag cg vF vs W _ hp hdg hs
    subst hm hN
    exact ⟨Ap, cp, Ag, cg, vF, vs, hs.box, hp.on hs.bel, hdg.on hs.bel, own_mono hs.own (Nat.zero_le _), hs.far⟩
  obtain ⟨P, hP⟩ : ∃ P, ptsS x = P := ⟨_, rfl⟩
  simp only [hP] at HP HPA HPV HEnd
  have HFr := hid (fun (a : Int) (ha : 0 ≤ a ∧ a < nd) (Ag : Option Addr) (cg : Nat) W (hh : Held2 w nd A n c x y W) (hdg : DArg W Ag n cg gn) => show Calls Try.prog 25 #[.agg #[.int .i64 nd, .slice A n c], .slice Ag n cg, .int .i64 a] W fun e w'' => ∃ A5 c5, e = .returned (.slice A5 N c5) ∧ w''.ownsRow 0 3 1 (.slice A5 N c5) N (icells (fromS nd l gn a)) ∧ Below W.heap.size W w'' by
    have hf := refFrom_spec nd A n c l Ag n cg gn a W (hg.on hh.1) hdg (by have := hg.lo; omega) (by have := hg.hi; omega)
    refine hf.mono ?_
    rintro e' w'' ⟨v, rfl, hown, hb⟩
    rw [(fromS_row hck ha).1, hN] at hown
    obtain ⟨A5, c5, rfl⟩ := own_form hown
    exact ⟨A5, c5, rfl, own_mono hown (Nat.zero_le _), hb⟩)
  obtain ⟨i5, hi, hz0, hz1, hz2⟩ := info_parts (show (Try.prog.info? 25).map (fun i => (i.zero, i.size, i.bytes)) = some (some (.slice none 0 0), 1, 24) by kernel_rfl)
  have Ai := hid hi; have Az0 := hid hz0; have Az1 := hid hz1; have Az2 := hid hz2
  have tE : ((0 : Int) != 0) = false := by decide
  clear hi hz0 hz1 hz2 hgn hN hP hg hw hd hck hpv hvl hll h hr0 hm hm2 hk1 h1 h2 h3 h4
  go_enter Try.func32, Try.ntmps32
  go_upto_region 4 with (go_at_call 10; (with_reducible refine (HC.out _ hS).mono ?_); rintro e' w3 ⟨rfl, hh3⟩; have hhd := hh3.drew; have HHd := hid hhd; obtain ⟨p0, p1⟩ := hhd.g; obtain ⟨p2, p3, p4, p5, p6, p7, p8⟩ := hhd.v; clear hhd)
  go_cut [10] (fun q wx => ∃ (wC : World) (Ap : Option Addr) (cp : Nat) (Ag : Option Addr) (cg : Nat), q = .pointer (some ⟨wC.heap.size, 0, none⟩) ∧ Hid (Held2 w nd A n c x y wC ∧ RInt wC wC.heap.size Ap m P ∧ m ≤ cp ∧ DArg wC Ag n cg gn ∧ NOs wC nd A n c l gn P N m Ap cp Ag cg (.slice none 0 0) 0 [] wx))
  case first =>
    go_wp2_with fail
    have HS4 : Hid (∀ W, Held2 w nd A n c x y W → W.cell? ⟨w.heap.size, 0, none⟩ = some (.int .i64 nd) ∧ W.cell? ⟨w.heap.size, 1, none⟩ = some (.slice A n c) ∧ W.cell? ⟨w.heap.size + 1, 0, none⟩ = some (.int .i64 x.frm) ∧ W.cell? ⟨w.heap.size + 1, 1, none⟩ = some (.int .i64 x.too) ∧ W.cell? ⟨w.heap.size + 1, 2, none⟩ = some (.int .i64 x.bnd) ∧ W.cell? ⟨w.heap.size + 1, 3, none⟩ = some (.slice y.av y.nv y.cv) ∧ W.cell? ⟨w.heap.size + 1, 4, none⟩ = some (.slice y.an y.nn y.cn) ∧ W.cell? ⟨w.heap.size + 1, 5, none⟩ = some (.slice y.al y.nl y.cl) ∧ W.cell? ⟨w.heap.size + 1, 6, none⟩ = some (.slice y.ac y.nc y.cc)) := fun W hh => by obtain ⟨g0, g1⟩ := hh.g; obtain ⟨g2, g3, g4, g5, g6, g7, g8⟩ := hh.v; exact ⟨g0, g1, g2, g3, g4, g5, g6, g7, g8⟩
    clear p0 p1 p2 p3 p4 p5 p6 p7 p8
    refine region_ord 9 (fun W => W.cell? ⟨w.heap.size, 0, none⟩ = some (.int .i64 nd) ∧ W.cell? ⟨w.heap.size, 1, none⟩ = some (.slice A n c) ∧ W.cell? ⟨w.heap.size + 1, 0, none⟩ = some (.int .i64 x.frm) ∧ W.cell? ⟨w.heap.size + 1, 1, none⟩ = some (.int .i64 x.too) ∧ W.cell? ⟨w.heap.size + 1, 2, none⟩ = some (.int .i64 x.bnd) ∧ W.cell? ⟨w.heap.size + 1, 3, none⟩ = some (.slice y.av y.nv y.cv) ∧ W.cell? ⟨w.heap.size + 1, 4, none⟩ = some (.slice y.an y.nn y.cn) ∧ W.cell? ⟨w.heap.size + 1, 5, none⟩ = some (.slice y.al y.nl y.cl) ∧ W.cell? ⟨w.heap.size + 1, 6, none⟩ = some (.slice y.ac y.nc y.cc)) (by kernel_rfl) (HS4.out _ HHd.out) (fun hHeld => ?_)
    refine OrdF.take (i := 0) (v := ?_) rfl (by kernel_rfl) (fun _ _ _ h => h) (by rfl) ?_ (by assumption) ?_
    (rotate_left; focus (intro w' hSw; (try dsimp only at hSw); go_simp; (try with_reducible rfl)))
    try simp only [List.getElem_toArray, List.getElem_cons_zero, Act.put, List.setIfInBounds_toArray, List.set_cons_zero, List.set_cons_succ]
    refine OrdF.take (i := 1) (v := ?_) rfl (by kernel_rfl) (fun _ _ _ h => h) (by rfl) ?_ (by assumption) ?_
    (rotate_left; focus (intro w' hSw; (try dsimp only at hSw); go_simp; (try with_reducible rfl)))
    try simp only [List.getElem_toArray, List.getElem_cons_succ, List.getElem_cons_zero, Act.put, List.setIfInBounds_toArray, List.set_cons_zero, List.set_cons_succ]
    refine OrdF.take (i := 3) (v := ?_) rfl (by kernel_rfl) (fun _ _ _ h => h) (by rfl) ?_ (by assumption) ?_
    (rotate_left; focus (intro w' hSw; (try dsimp only at hSw); go_simp; (try with_reducible rfl)))
    try simp only [List.getElem_toArray, List.getElem_cons_succ, List.getElem_cons_zero, Act.put, List.setIfInBounds_toArray, List.set_cons_zero, List.set_cons_succ]
    refine OrdF.take (i := 4) (v := ?_) rfl (by kernel_rfl) (fun _ _ _ h => h) (by rfl) ?_ (by assumption) ?_
    (rotate_left; focus (intro w' hSw; (try dsimp only at hSw); go_simp; (try with_reducible rfl)))
    try simp only [List.getElem_toArray, List.getElem_cons_succ, List.getElem_cons_zero, Act.put, List.setIfInBounds_toArray, List.set_cons_zero, List.set_cons_succ]
    refine OrdF.take (i := 5) (v := ?_) rfl (by kernel_rfl) (fun _ _ _ h => h) (by rfl) ?_ (by assumption) ?_
    (rotate_left; focus (intro w' hSw; (try dsimp only at hSw); go_simp; (try with_reducible rfl)))
    try simp only [List.getElem_toArray, List.getElem_cons_succ, List.getElem_cons_zero, Act.put, List.setIfInBounds_toArray, List.set_cons_zero, List.set_cons_succ]
    refine OrdF.one (i := 2) rfl (by kernel_rfl) (fun K hK => ?_)
    try simp only [List.getElem_toArray, List.getElem_cons_succ, List.getElem_cons_zero, Act.put, List.setIfInBounds_toArray, List.set_cons_zero, List.set_cons_succ]
    go_simp
    (go_at_call 27; (with_reducible refine (HP.out _ HHd.out).mono ?_); rintro e' w4 ⟨A4, c4, rfl, ⟨hr4, hc4, hn4⟩, hb4⟩; have hh4 := HHd.out.next hb4; have HH4 := hid hh4; have HR4 := hid hr4; have HQ4 := HS4.out _ hh4; clear hh4 hr4 hn4)
    try go_wp2_with fail
    refine hK.out _ _ HQ4 (fun hHeld => ?_)
    clear hK K
    try simp only [List.getElem_toArray, List.getElem_cons_succ, List.getElem_cons_zero, Act.put, List.setIfInBounds_toArray, List.set_cons_zero, List.set_cons_succ]
    refine OrdF.one (i := 6) rfl (by kernel_rfl) (fun K hK => ?_)
    try simp only [List.getElem_toArray, List.getElem_cons_succ, List.getElem_cons_zero, Act.put, List.setIfInBounds_toArray, List.set_cons_zero, List.set_cons_succ]
    go_simp
    (go_at_call 21; (with_reducible refine (HPr.out _ HH4.out).mono ?_); rintro e' w5 ⟨A5, c5, rfl, hd5, hb5⟩; have hh5 := HH4.out.next hb5; have HH5 := hid hh5; have HD5 := hid hd5; have HQ5 := HS4.out _ hh5; clear hh5 hd5)
    try go_wp2_with fail
    refine hK.out _ _ HQ5 (fun hHeld => ?_)
    clear hK K
    try simp only [List.getElem_toArray, List.getElem_cons_succ, List.getElem_cons_zero, Act.put, List.setIfInBounds_toArray, List.set_cons_zero, List.set_cons_succ]
    have HR4 := hid (HR4.out.on hb5)
    refine OrdF.one (i := 7) rfl (by kernel_rfl) (fun K hK => ?_)
    try simp only [List.getElem_toArray, List.getElem_cons_succ, List.getElem_cons_zero, Act.put, List.setIfInBounds_toArray, List.set_cons_zero, List.set_cons_succ]
    go_simp
    refine hK.out _ _ (HS4.out _ HH5.out) (fun hHeld => ?_)
    clear hK K
    try simp only [List.getElem_toArray, List.getElem_cons_succ, List.getElem_cons_zero, Act.put, List.setIfInBounds_toArray, List.set_cons_zero, List.set_cons_succ]
    refine OrdF.one (i := 8) rfl (by kernel_rfl) (fun K hK => ?_)
    try simp only [List.getElem_toArray, List.getElem_cons_succ, List.getElem_cons_zero, Act.put, List.setIfInBounds_toArray, List.set_cons_zero, List.set_cons_succ]
    go_simp
    refine hK.out _ _ (HS4.out _ (HH5.out.next ((Below.refl _ _).alloc (Nat.le_refl _) _))) (fun hHeld => ?_)
    clear hK K
    try simp only [List.getElem_toArray, List.getElem_cons_succ, List.getElem_cons_zero, Act.put, List.setIfInBounds_toArray, List.set_cons_zero, List.set_cons_succ]
    refine OrdF.last (n := 9) rfl (by kernel_rfl) (fun K hK => ?_)
    try simp only [List.getElem_toArray, List.getElem_cons_succ, List.getElem_cons_zero, Act.put, List.setIfInBounds_toArray, List.set_cons_zero, List.set_cons_succ]
    go_simp
    refine hK.out _ _ ?_
    clear hK K
    try simp only [List.getElem_toArray, List.getElem_cons_succ, List.getElem_cons_zero, Act.put, List.setIfInBounds_toArray, List.set_cons_zero, List.set_cons_succ]
    go_wp2_with fail
    go_meet
    exact ⟨_, _, _, _, _, rfl, nos_start HH5.out HR4.out hc4 HD5.out⟩
  case rest =>
    obtain ⟨wC, Ap, cp, Ag, cg, rfl, HM⟩ := hcut
    have HhC := hid (fun W (hb : Below wC.heap.size wC W) => HM.out.1.next hb)
    have HrC := hid (fun W (hb : Below wC.heap.size wC W) => HM.out.2.1.on hb)
    have HdC := hid (fun W (hb : Below wC.heap.size wC W) => HM.out.2.2.2.1.on hb)
    have HS0 := hid HM.out.2.2.2.2
    have hlC := HM.out.1.1.size
    have hbC := hid HM.out.1.1
    have hrc := HM.out.2.1
    have hpc := HM.out.2.2.1
    obtain ⟨bp, op, rfl, hbp, -⟩ := hrc.2 (by omega)
    have HEnd2 := hid (HEnd.out wC (some ⟨bp, op, none⟩) cp Ag cg)
    clear hrc HC HP HPr HHd HEnd hS p0 p1 p2 p3 p4 p5 p6 p7 p8
    have HrC2 := hid (HM.out.2.1)
    have HdC2 := hid (HM.out.2.2.2.1)
    clear HM
    go_wp2_with fail
    go_loopw [11] (fun i wr => ∃ (k : Nat) (vF : Value) (vs : List Value), k ≤ m ∧ i = .int .i64 k ∧ Hid (NOs wC nd A n c l gn P N m (some ⟨bp, op, none⟩) cp Ag cg vF k vs wr)) (fun i _ => m - (intOf i).toNat)
    case atStart => exact ⟨0, _, [], Nat.zero_le _, rfl, HS0⟩
    case round =>
      obtain ⟨k, vF, vs, hk, rfl, HSt⟩ := hrel
      have hbx := HSt.out.box
      obtain ⟨z0, z1, z2, z3, z4, z5⟩ := box5_cells hbx
      by_cases hlt : k < m
      · have hki : (k : Int) < (m : Int) := by omega
        have d1 : decide ((k : Int) < (m : Int)) = true := decide_eq_true hki
        have d2 : decide (k < m) = true := decide_eq_true hlt
        have hv := HPV.out k hlt
        have hpa := HPA.out k hlt
        have HPA2 := hid hpa
        have hrw := HrC.out _ HSt.out.bel
        obtain ⟨b', o', hbo, hbl, hcell⟩ := hrw.2 (by omega)
        cases hbo
        have x1 := hcell k _ hpa
        have x1d : wr.drew.cell? ⟨bp, op + k, none⟩ = some (.int .i64 (P.getD k 0)) := x1
        clear hcell
        have stD := HSt.out.next ((Below.refl _ _).drew)
        have HSD := hid stD
        have hbxd := stD.box
        obtain ⟨y0, y1, y2, y3, y4, y5⟩ := box5_cells hbxd
        have hhD := HhC.out _ stD.bel
        obtain ⟨g0, g1⟩ := hhD.g
        have HFk := hid (HFr.out _ hv Ag cg _ hhD (HdC.out _ stD.bel))
        have Hvs : Hid (vs.length = k) := by show _ = _; have := HSt.out.own.1; omega
        have ewk : IntKind.i64.wrap ((k : Int) + 1) = (k : Int) + 1 := by rw [IntKind.wrap_i64]; omega
        obtain ⟨a, ha⟩ : ∃ a, P.getD k 0 = a := ⟨_, rfl⟩
        rw [ha] at HFk x1 x1d
        have hA := hid ha
        clear hv hpa hbx hbxd hrw stD hhD hbl ha
        go_wp2_with fail
        have HSS : Hid (∀ W, Below wC.heap.size wC W → W.heap[wC.heap.size]? = some (.cells #[.int .i64 nd, .slice A n c, .slice (some ⟨bp, op, none⟩) m cp, .slice Ag n cg, vF] 72 (0, 0)) → W.cell? ⟨w.heap.size, 0, none⟩ = some (.int .i64 nd) ∧ W.cell? ⟨w.heap.size, 1, none⟩ = some (.slice A n c) ∧ W.cell? ⟨wC.heap.size, 2, none⟩ = some (.slice (some ⟨bp, op, none⟩) m cp) ∧ W.cell? ⟨wC.heap.size, 3, none⟩ = some (.slice Ag n cg) ∧ W.cell? ⟨wC.heap.size, 4, none⟩ = some vF ∧ W.cell? ⟨bp, op + k, none⟩ = some (.int .i64 a)) := by
          intro W hbW hbox
          obtain ⟨u0, u1⟩ := (HhC.out W hbW).g
          obtain ⟨v0, v1, v2, v3, v4, -⟩ := box5_cells hbox
          obtain ⟨b2, o2, hbo2, -, hcell2⟩ := (HrC.out W hbW).2 (by omega)
          cases hbo2
          exact ⟨u0, u1, v2, v3, v4, by have := hcell2 k _ HPA2.out; rw [hA.out] at this; exact this⟩
        have HQ0 := HSS.out _ HSD.out.bel HSD.out.box
        refine region_ord 22 (fun W => W.cell? ⟨w.heap.size, 0, none⟩ = some (.int .i64 nd) ∧ W.cell? ⟨w.heap.size, 1, none⟩ = some (.slice A n c) ∧ W.cell? ⟨wC.heap.size, 2, none⟩ = some (.slice (some ⟨bp, op, none⟩) m cp) ∧ W.cell? ⟨wC.heap.size, 3, none⟩ = some (.slice Ag n cg) ∧ W.cell? ⟨wC.heap.size, 4, none⟩ = some vF ∧ W.cell? ⟨bp, op + k, none⟩ = some (.int .i64 a)) (by kernel_rfl) HQ0 (fun hHeld => ?_)
        refine OrdF.take (i := 0) (v := ?_) rfl (by kernel_rfl) (fun _ _ _ h => h) (by rfl) ?_ (by assumption) ?_
        (rotate_left; focus (intro w' hSw; (try dsimp only at hSw); go_simp; (try with_reducible rfl)))
        try simp only [List.getElem_toArray, List.getElem_cons_zero, Act.put, List.setIfInBounds_toArray, List.set_cons_zero, List.set_cons_succ]
        refine OrdF.take (i := 1) (v := ?_) rfl (by kernel_rfl) (fun _ _ _ h => h) (by rfl) ?_ (by assumption) ?_
        (rotate_left; focus (intro w' hSw; (try dsimp only at hSw); go_simp; (try with_reducible rfl)))
        try simp only [List.getElem_toArray, List.getElem_cons_succ, List.getElem_cons_zero, Act.put, List.setIfInBounds_toArray, List.set_cons_zero, List.set_cons_succ]
        refine OrdF.take (i := 2) (v := ?_) rfl (by kernel_rfl) (fun _ _ _ h => h) (by rfl) ?_ (by assumption) ?_
        (rotate_left; focus (intro w' hSw; (try dsimp only at hSw); go_simp; (try with_reducible rfl)))
        try simp only [List.getElem_toArray, List.getElem_cons_succ, List.getElem_cons_zero, Act.put, List.setIfInBounds_toArray, List.set_cons_zero, List.set_cons_succ]
        refine OrdF.take (i := 3) (v := ?_) rfl (by kernel_rfl) (fun _ _ _ h => h) (by rfl) ?_ (by assumption) ?_
        (rotate_left; focus (intro w' hSw; (try dsimp only at hSw); go_simp; (try with_reducible rfl)))
        try simp only [List.getElem_toArray, List.getElem_cons_succ, List.getElem_cons_zero, Act.put, List.setIfInBounds_toArray, List.set_cons_zero, List.set_cons_succ]
        refine OrdF.take (i := 4) (v := ?_) rfl (by kernel_rfl) (fun _ _ _ h => h) (by rfl) ?_ (by assumption) ?_
        (rotate_left; focus (intro w' hSw; (try dsimp only at hSw); go_simp; (try with_reducible rfl)))
        try simp only [List.getElem_toArray, List.getElem_cons_succ, List.getElem_cons_zero, Act.put, List.setIfInBounds_toArray, List.set_cons_zero, List.set_cons_succ]
        refine OrdF.take (i := 5) (v := ?_) rfl (by kernel_rfl) (fun _ _ _ h => h) (by rfl) ?_ (by assumption) ?_
        (rotate_left; focus (intro w' hSw; (try dsimp only at hSw); go_simp; (try with_reducible rfl)))
        try simp only [List.getElem_toArray, List.getElem_cons_succ, List.getElem_cons_zero, Act.put, List.setIfInBounds_toArray, List.set_cons_zero, List.set_cons_succ]
        refine OrdF.take (i := 6) (v := ?_) rfl (by kernel_rfl) (fun _ _ _ h => h) (by rfl) ?_ (by assumption) ?_
        (rotate_left; focus (intro w' hSw; (try dsimp only at hSw); go_simp; (try with_reducible rfl)))
        try simp only [List.getElem_toArray, List.getElem_cons_succ, List.getElem_cons_zero, Act.put, List.setIfInBounds_toArray, List.set_cons_zero, List.set_cons_succ]
        refine OrdF.take (i := 7) (v := ?_) rfl (by kernel_rfl) (fun _ _ _ h => h) (by rfl) ?_ (by assumption) ?_
        (rotate_left; focus (intro w' hSw; (try dsimp only at hSw); go_simp; (try with_reducible rfl)))
        try simp only [List.getElem_toArray, List.getElem_cons_succ, List.getElem_cons_zero, Act.put, List.setIfInBounds_toArray, List.set_cons_zero, List.set_cons_succ]
        refine OrdF.take (i := 8) (v := ?_) rfl (by kernel_rfl) (fun _ _ _ h => h) (by rfl) ?_ (by assumption) ?_
        (rotate_left; focus (intro w' hSw; (try dsimp only at hSw); go_simp; (try with_reducible rfl)))
        try simp only [List.getElem_toArray, List.getElem_cons_succ, List.getElem_cons_zero, Act.put, List.setIfInBounds_toArray, List.set_cons_zero, List.set_cons_succ]
        refine OrdF.take (i := 9) (v := ?_) rfl (by kernel_rfl) (fun _ _ _ h => h) (by rfl) ?_ (by assumption) ?_
        (rotate_left; focus (intro w' hSw; (try dsimp only at hSw); go_simp; (try with_reducible rfl)))
        try simp only [List.getElem_toArray, List.getElem_cons_succ, List.getElem_cons_zero, Act.put, List.setIfInBounds_toArray, List.set_cons_zero, List.set_cons_succ]
        refine OrdF.take (i := 10) (v := ?_) rfl (by kernel_rfl) (fun _ _ _ h => h) (by rfl) ?_ (by assumption) ?_
        (rotate_left; focus (intro w' hSw; (try dsimp only at hSw); go_simp; (try with_reducible rfl)))
        try simp only [List.getElem_toArray, List.getElem_cons_succ, List.getElem_cons_zero, Act.put, List.setIfInBounds_toArray, List.set_cons_zero, List.set_cons_succ]
        refine OrdF.take (i := 11) (v := ?_) rfl (by kernel_rfl) (fun _ _ _ h => h) (by rfl) ?_ (by assumption) ?_
        (rotate_left; focus (intro w' hSw; (try dsimp only at hSw); go_simp; (try with_reducible rfl)))
        try simp only [List.getElem_toArray, List.getElem_cons_succ, List.getElem_cons_zero, Act.put, List.setIfInBounds_toArray, List.set_cons_zero, List.set_cons_succ]
        refine OrdF.take (i := 12) (v := ?_) rfl (by kernel_rfl) (fun _ _ _ h => h) (by rfl) ?_ (by assumption) ?_
        (rotate_left; focus (intro w' hSw; (try dsimp only at hSw); go_simp; (try with_reducible rfl)))
        try simp only [List.getElem_toArray, List.getElem_cons_succ, List.getElem_cons_zero, Act.put, List.setIfInBounds_toArray, List.set_cons_zero, List.set_cons_succ]
        refine OrdF.take (i := 13) (v := ?_) rfl (by kernel_rfl) (fun _ _ _ h => h) (by rfl) ?_ (by assumption) ?_
        (rotate_left; focus (intro w' hSw; (try dsimp only at hSw); go_simp; (try with_reducible rfl)))
        try simp only [List.getElem_toArray, List.getElem_cons_succ, List.getElem_cons_zero, Act.put, List.setIfInBounds_toArray, List.set_cons_zero, List.set_cons_succ]
        refine OrdF.take (i := 14) (v := ?_) rfl (by kernel_rfl) (fun _ _ _ h => h) (by rfl) ?_ (by assumption) ?_
        (rotate_left; focus (intro w' hSw; (try dsimp only at hSw); go_simp; (try with_reducible rfl)))
        try simp only [List.getElem_toArray, List.getElem_cons_succ, List.getElem_cons_zero, Act.put, List.setIfInBounds_toArray, List.set_cons_zero, List.set_cons_succ]
        refine OrdF.take (i := 15) (v := ?_) rfl (by kernel_rfl) (fun _ _ _ h => h) (by rfl) ?_ (by assumption) ?_
        (rotate_left; focus (intro w' hSw; (try dsimp only at hSw); go_simp; (try with_reducible rfl)))
        try simp only [List.getElem_toArray, List.getElem_cons_succ, List.getElem_cons_zero, Act.put, List.setIfInBounds_toArray, List.set_cons_zero, List.set_cons_succ]
        refine OrdF.take (i := 16) (v := ?_) rfl (by kernel_rfl) (fun _ _ _ h => h) (by rfl) ?_ (by assumption) ?_
        (rotate_left; focus (intro w' hSw; (try dsimp only at hSw); go_simp; (try with_reducible rfl)))
        try simp only [List.getElem_toArray, List.getElem_cons_succ, List.getElem_cons_zero, Act.put, List.setIfInBounds_toArray, List.set_cons_zero, List.set_cons_succ]
        refine OrdF.one (i := 17) rfl (by kernel_rfl) (fun K hK => ?_)
        try simp only [List.getElem_toArray, List.getElem_cons_succ, List.getElem_cons_zero, Act.put, List.setIfInBounds_toArray, List.set_cons_zero, List.set_cons_succ]
        go_simp
        (go_at_call 25; (with_reducible refine HFk.out.mono ?_); rintro e' w5 ⟨A5, c5, rfl, hown5, hb5⟩; have st5 := HSD.out.next hb5; have HS5 := hid st5; have HO5 := hid st5.own; have HV5 := hid hown5; obtain ⟨q0, q1, q2, q3, q4, q5⟩ := box5_cells st5.box; have hl5 := st5.lt; have HQ5 := HSS.out _ st5.bel st5.box; clear hown5 st5 hb5)
        try go_wp2_with fail
        refine hK.out _ _ HQ5 (fun hHeld => ?_)
        clear hK K
        try simp only [List.getElem_toArray, List.getElem_cons_succ, List.getElem_cons_zero, Act.put, List.setIfInBounds_toArray, List.set_cons_zero, List.set_cons_succ]
        refine OrdF.one (i := 18) rfl (by kernel_rfl) (fun K hK => ?_)
        try simp only [List.getElem_toArray, List.getElem_cons_succ, List.getElem_cons_zero, Act.put, List.setIfInBounds_toArray, List.set_cons_zero, List.set_cons_succ]
        go_simp
        have st6 := HS5.out.next ((Below.refl _ _).alloc (Nat.le_refl _) (Obj.cells #[.slice A5 N c5] 25))
        have HQ6 := HSS.out _ st6.bel st6.box
        clear st6
        refine hK.out _ _ HQ6 (fun hHeld => ?_)
        clear hK K
        try simp only [List.getElem_toArray, List.getElem_cons_succ, List.getElem_cons_zero, Act.put, List.setIfInBounds_toArray, List.set_cons_zero, List.set_cons_succ]
        refine OrdF.one (i := 19) rfl (by kernel_rfl) (fun K hK => ?_)
        (refine step_append_some (by rfl) (.tmp 43) (.tmp 57) 53 (by rfl) (wC.heap.size + 1) 25 i5 (.slice none 0 0) 1 24 Try.underlying53 Ai.out Az0.out Az1.out Az2.out rfl (by decide) vF k vs (by go_simp) (HO5.out.alloc _) ⟨w5.heap.size, 0, none⟩ 1 1 [.slice A5 N c5] (by go_simp) (by rfl) (new_row (by rfl)) (by simp [Value.oneCell']) (by unfold maxLen; omega) (by omega) (by simp; omega) ?_; intro A6 c6 w6 hown6 hg6; have HO6 := hid hown6; have HG6 := hid hg6; have hX6 := box_app HS5.out.box (by omega) HO5.out hg6; have HQ7 := HSS.out _ (below_app HS5.out.bel (by omega) HO5.out hg6) hX6; obtain ⟨p0, p1, p2, p3, p4, pf⟩ := box5_cells hX6; have f6 := pf 4; have HX6 := hid hX6; clear hown6 hX6 pf hg6)
        try go_wp2_with fail
        refine hK.out _ _ HQ7 (fun hHeld => ?_)
        clear hK K
        try simp only [List.getElem_toArray, List.getElem_cons_succ, List.getElem_cons_zero, Act.put, List.setIfInBounds_toArray, List.set_cons_zero, List.set_cons_succ]
        refine OrdF.take (i := 20) (v := ?_) rfl (by kernel_rfl) (fun _ _ _ h => h) (by rfl) ?_ (by assumption) ?_
        (rotate_left; focus (intro w' hSw; (try dsimp only at hSw); go_simp; (try with_reducible rfl)))
        try simp only [List.getElem_toArray, List.getElem_cons_succ, List.getElem_cons_zero, Act.put, List.setIfInBounds_toArray, List.set_cons_zero, List.set_cons_succ]
        refine OrdF.take (i := 21) (v := ?_) rfl (by kernel_rfl) (fun _ _ _ h => h) (by rfl) ?_ (by assumption) ?_
        (rotate_left; focus (intro w' hSw; (try dsimp only at hSw); go_simp; (try with_reducible rfl)))
        try simp only [List.getElem_toArray, List.getElem_cons_succ, List.getElem_cons_zero, Act.put, List.setIfInBounds_toArray, List.set_cons_zero, List.set_cons_succ]
        refine OrdF.last (n := 22) rfl (by kernel_rfl) (fun K hK => ?_)
        try simp only [List.getElem_toArray, List.getElem_cons_succ, List.getElem_cons_zero, Act.put]
        go_simp
        try go_wp2_with fail
        refine hK.out _ _ ?_
        clear hK K
        try simp only [List.getElem_toArray, List.getElem_cons_succ, List.getElem_cons_zero, Act.put, List.setIfInBounds_toArray, List.set_cons_zero, List.set_cons_succ]
        have HNx := hid (NOs.put HS5.out Hvs.out (by rw [hA.out]; exact HV5.out) HO6.out HG6.out)
        go_wp2_with fail
        clear ewk
        go_roundw
        case rel => exact ⟨k + 1, _, _, by omega, by go_num, HNx⟩
        case measure => simp [intOf]; omega
      · obtain rfl : m = k := by omega
        have d1 : decide ((m : Int) < (m : Int)) = false := by simp
        have d2 : decide (m < m) = false := by simp
        have HE := hid (HEnd2.out vF vs wr (Nat.le_refl _) HrC2.out HdC2.out HSt.out)
        have HBE := hid (hbC.out.trans (HSt.out.bel.mono (by omega)))
        go_wp2_with fail
        go_ret2
        exact ⟨wC.heap.size, rfl, HE.out, HBE.out⟩
theorem newOpt_spec : NewOptSpec 32 := fun nd A n c l x y Ad n' c' dn w hg hw hd h1 h2 h3 h4 => by
  by_cases h : (costS nd l x dn).2 = 0
  · refine (newOpt_in nd A n c l x y Ad n' c' dn w hg hw hd h1 h2 h3 h4 h).mono ?_
    rintro e w' ⟨B, he, ho, hb⟩
    exact ⟨hb, .inr ⟨h, B, he, ho⟩⟩
  · refine (newOpt_not nd A n c l x y Ad n' c' dn w hg hw hd h1 h2 h3 h4 h).mono ?_
    rintro e w' ⟨he, hb⟩
    exact ⟨hb, .inl ⟨h, he⟩⟩
end Go.Proofs.Ytabgbhkpeeibaaa
