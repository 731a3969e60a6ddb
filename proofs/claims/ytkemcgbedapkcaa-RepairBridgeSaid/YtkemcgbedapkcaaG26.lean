/- Merged: OcE. -/
import Derived.Test.YtkemcgbedapkcaaG20
/- opt.find. -/
namespace Go.Proofs.Ytkemcgbedapkcaa
open Go.RowKit
set_option maxHeartbeats 64000000
set_option maxRecDepth 100000
theorem find_in (nd : Int) (A : Option Addr) (n c : Nat) (l : List Lnk) (x : Wnt) (y : WSl) (Ad : Option Addr) (n' c' : Nat) (dn : List Bool) (w : World) (hg : GArg w nd A n c l) (hw : WArg w x y) (hd : DArg w Ad n' c' dn) (h1 : y.nv ≤ 100) (h2 : y.nn ≤ 100) (h3 : y.nl ≤ 100) (h4 : y.nc ≤ 100) (h : rightS nd l x = 0) :
    Calls Try.prog 45 #[.agg #[.int .i64 nd, .slice A n c], .agg #[.int .i64 x.frm, .int .i64 x.too, .int .i64 x.bnd, .slice y.av y.nv y.cv, .slice y.an y.nn y.cn, .slice y.al y.nl y.cl, .slice y.ac y.nc y.cc], .slice Ad n' c'] w (FindAns nd A n c l x dn w) := by
  obtain ⟨hck, hpv, hv4⟩ := right_ok h
  have hbnd := right_bnd h
  have hvl := hw.via.row.1
  have hll := hg.row.1
  have hgl := hg.len
  have hbn := hw.rng
  have hS := HeldF.start w nd A n c x y
  have HRt := hid (fun W (hh : HeldF w nd A n c x y W) => hh.calls (right_spec nd A n c l x y W (hg.on hh.1.1) (hw.on hh.1.1) h1 h2 h3 h4))
  rw [h] at HRt
  obtain ⟨kk, hkk⟩ : ∃ kk, x.via.length = kk := ⟨_, rfl⟩
  have hkk4 : kk ≤ 4 := by omega
  have hPl : (ptsS x).length = kk + 2 := by rw [ptsS_len, hkk]
  have HP := hid (fun W (hh : HeldF w nd A n c x y W) => show Calls Try.prog 67 #[.agg #[.int .i64 x.frm, .int .i64 x.too, .int .i64 x.bnd, .slice y.av y.nv y.cv, .slice y.an y.nn y.cn, .slice y.al y.nl y.cl, .slice y.ac y.nc y.cc]] W fun e w'' => ∃ A5 c5, e = .returned (.slice A5 (kk + 2) c5) ∧ w''.ownsRow 0 3 1 (.slice A5 (kk + 2) c5) (kk + 2) (icells (ptsS x)) ∧ kk + 2 ≤ c5 ∧ Below W.heap.size W w'' by
    refine (pointsOf_any x y W (hw.on hh.1.1) (by omega)).mono ?_
    rintro e' w'' ⟨v, rfl, hown, hb⟩
    rw [hPl] at hown
    obtain ⟨A5, c5, rfl, hc5, hr5⟩ := own_ints hown hPl
    exact ⟨A5, c5, rfl, own_mono hown (Nat.zero_le _), hc5, hb⟩)
  have HPr := hid (fun W (hh : HeldF w nd A n c x y W) => bl_out (m := n) (by rw [prunedS_n h, hll]) (by omega) (down_spec nd A n c l x y Ad n' c' dn W (hg.on hh.1.1) (hw.on hh.1.1) (hd.on hh.1.1) h1 h2 h3 h4))
  have hC : Hid (costS nd l x dn = costL x.bnd (legsS nd l (prunedS nd l x dn) x.frm (x.via ++ [x.too]))) := costS_L h
  have HPA := hid (fun k (hk : k < kk + 2) => pts_at (x := x) (k := k) (by omega))
  have HPD := hid (fun k (hk : k < kk + 2) => pts_drop (x := x) (k := k) (by omega))
  have HPV := hid (fun k (hk : k < kk + 2) => hpv _ (List.mem_of_getElem? (pts_at (x := x) (k := k) (by omega))))
  have hP0 : Hid (legsS nd l (prunedS nd l x dn) x.frm (x.via ++ [x.too]) = (legsS nd l (prunedS nd l x dn) ((ptsS x).getD 0 0) ((ptsS x).drop 1)).map fun s => 0 + s) := by
    show _ = _
    have : (fun s : Int => 0 + s) = id := by funext s; simp
    rw [this, Option.map_id]; rfl
  have HP00 : Hid ((ptsS x).getD 0 0 = x.frm) := rfl
  obtain ⟨gn, hgn⟩ : ∃ gn, prunedS nd l x dn = gn := ⟨_, rfl⟩
  rw [hgn] at HPr hC hP0
  obtain ⟨N, hN⟩ : ∃ N, nd.toNat = N := ⟨_, rfl⟩
  obtain ⟨P1, hP1⟩ : ∃ P1, (ptsS x).drop 1 = P1 := ⟨_, rfl⟩
  have HP1 : Hid (∀ k, P1.getD k 0 = (ptsS x).getD (k + 1) 0) := by
    intro k
    rw [← hP1, List.getD_eq_getElem?_getD, List.getD_eq_getElem?_getD, List.getElem?_drop, Nat.add_comm]
  have HEnd : Hid (∀ (w0 : World) B Ap cp Ag cg Df cf vs s W, FStart w nd A n c x y gn (ptsS x) kk B Ap cp Ag cg w0 → FOs w0 B nd A n c l gn P1 N kk Ap cp Ag cg (.slice Df (kk + 1) cf) (kk + 1) vs s W → BestAt W nd n l x (prunedS nd l x dn) Ap cp Ag cg (.slice Df (x.via.length + 1) cf) vs) := by
    intro w0 B Ap cp Ag cg Df cf vs s W hst hs
    subst hN hgn hP1
    rw [hkk]
    exact ⟨by rw [hkk]; exact own_but hst.pts hs.bel hst.box (by decide), hst.dwn.but hs.bel hst.box, by rw [hkk]; exact own_mono hs.own (Nat.zero_le _), hs.far⟩
  have HKK := hid hkk
  obtain ⟨P, hP⟩ : ∃ P, ptsS x = P := ⟨_, rfl⟩
  simp only [hP] at HP hPl HPA HPD HPV hP0 HEnd HP00 HP1
  have HPL := hid hPl
  have HFr := hid (fun (a : Int) (ha : 0 ≤ a ∧ a < nd) (Ag : Option Addr) (cg : Nat) W (hh : HeldF w nd A n c x y W) (hdg : DArg W Ag n cg gn) => show Calls Try.prog 43 #[.agg #[.int .i64 nd, .slice A n c], .slice Ag n cg, .int .i64 a] W fun e w'' => ∃ A5 c5, e = .returned (.slice A5 N c5) ∧ RInt w'' w''.heap.size A5 N (fromS nd l gn a) ∧ w''.ownsRow 0 3 1 (.slice A5 N c5) N (icells (fromS nd l gn a)) ∧ Below W.heap.size W w'' by
    have hf := to_spec nd A n c l Ag n cg gn a W (hg.on hh.1.1) hdg (by have := hg.lo; omega) (by have := hg.hi; omega)
    refine hf.mono ?_
    rintro e' w'' ⟨v, rfl, hown, hb⟩
    rw [(fromS_row hck ha).1, hN] at hown
    obtain ⟨A5, c5, rfl, hc5, hr5⟩ := own_ints hown (by rw [(fromS_row hck ha).1, hN])
    exact ⟨A5, c5, rfl, hr5, own_mono hown (Nat.zero_le _), hb⟩)
  have HFA := hid (fun (a b : Int) (ha : 0 ≤ a ∧ a < nd) (hb : 0 ≤ b ∧ b < nd) => (⟨((fromS_row (gn := gn) hck ha).2 b hb.1 hb.2).1, ((fromS_row (gn := gn) hck ha).2 b hb.1 hb.2).2, fromS_sym (gn := gn) hck ha hb⟩ : _ ∧ _ ∧ _))
  have HLN := hid (fun (a : Int) (ha : 0 ≤ a ∧ a < nd) => show (fromS nd l gn a).length = N by rw [(fromS_row (gn := gn) hck ha).1, hN])
  have hnd : 0 ≤ nd ∧ nd ≤ 40 := by have := checkS_ok hck; omega
  have HNn : Hid ((N : Int) = nd) := by show _ = _; omega
  have d1 : ((0 : Int) != 0) = false := by decide
  obtain ⟨i5, hi, hz0, hz1, hz2⟩ := info_parts (show (Try.prog.info? 40).map (fun i => (i.zero, i.size, i.bytes)) = some (some (.slice none 0 0), 1, 24) by kernel_rfl)
  have Ai := hid hi; have Az0 := hid hz0; have Az1 := hid hz1; have Az2 := hid hz2
  have HGL := hid hgl
  clear hi hz0 hz1 hz2 hgn hN hP hP1 hg hw hd hck hpv hvl hll hgl h h1 h2 h3 h4 hkk hv4
  go_enter Try.func45, Try.ntmps45
  go_upto_region 4 with (go_at_call 66; (with_reducible refine (HRt.out _ hS).mono ?_); rintro e' w3 ⟨rfl, hh3⟩; have hhd := hh3.drew; have HHd := hid hhd; obtain ⟨p0, p1⟩ := hhd.1.g; obtain ⟨p2, p3, p4, p5, p6, p7, p8⟩ := hhd.1.v; clear hhd)
  go_cut [9] (fun q wx => ∃ (B : Nat) (Ap : Option Addr) (cp : Nat) (Ag : Option Addr) (cg : Nat), q = .pointer (some ⟨B, 0, none⟩) ∧ kk + 2 ≤ cp ∧ FStart w nd A n c x y gn P kk B Ap cp Ag cg wx)
  case first =>
    go_wp2_with fail
    have HS4 : Hid (∀ W, HeldF w nd A n c x y W → W.cell? ⟨w.heap.size, 0, none⟩ = some (.int .i64 nd) ∧ W.cell? ⟨w.heap.size, 1, none⟩ = some (.slice A n c) ∧ W.cell? ⟨w.heap.size + 1, 0, none⟩ = some (.int .i64 x.frm) ∧ W.cell? ⟨w.heap.size + 1, 1, none⟩ = some (.int .i64 x.too) ∧ W.cell? ⟨w.heap.size + 1, 2, none⟩ = some (.int .i64 x.bnd) ∧ W.cell? ⟨w.heap.size + 1, 3, none⟩ = some (.slice y.av y.nv y.cv) ∧ W.cell? ⟨w.heap.size + 1, 4, none⟩ = some (.slice y.an y.nn y.cn) ∧ W.cell? ⟨w.heap.size + 1, 5, none⟩ = some (.slice y.al y.nl y.cl) ∧ W.cell? ⟨w.heap.size + 1, 6, none⟩ = some (.slice y.ac y.nc y.cc)) := fun W hh => by obtain ⟨g0, g1⟩ := hh.1.g; obtain ⟨g2, g3, g4, g5, g6, g7, g8⟩ := hh.1.v; exact ⟨g0, g1, g2, g3, g4, g5, g6, g7, g8⟩
    clear p0 p1 p2 p3 p4 p5 p6 p7 p8
    have HH := HHd
    clear HHd
    obtain ⟨wq, hwq⟩ : ∃ wq, w3.drew = wq := ⟨_, rfl⟩
    refine region_ord 9 (fun W => W.cell? ⟨w.heap.size, 0, none⟩ = some (.int .i64 nd) ∧ W.cell? ⟨w.heap.size, 1, none⟩ = some (.slice A n c) ∧ W.cell? ⟨w.heap.size + 1, 0, none⟩ = some (.int .i64 x.frm) ∧ W.cell? ⟨w.heap.size + 1, 1, none⟩ = some (.int .i64 x.too) ∧ W.cell? ⟨w.heap.size + 1, 2, none⟩ = some (.int .i64 x.bnd) ∧ W.cell? ⟨w.heap.size + 1, 3, none⟩ = some (.slice y.av y.nv y.cv) ∧ W.cell? ⟨w.heap.size + 1, 4, none⟩ = some (.slice y.an y.nn y.cn) ∧ W.cell? ⟨w.heap.size + 1, 5, none⟩ = some (.slice y.al y.nl y.cl) ∧ W.cell? ⟨w.heap.size + 1, 6, none⟩ = some (.slice y.ac y.nc y.cc)) (by kernel_rfl) (HS4.out _ HH.out) (fun hHeld => ?_)
    rw [hwq] at HH hHeld ⊢
    clear hwq
    refine OrdF.take (i := 0) (v := ?_) rfl (by kernel_rfl) (fun _ _ _ h => h) (by rfl) ?_ (by assumption) ?_
    (rotate_left; focus (intro w' hSw; (try dsimp only at hSw); go_simp; (try with_reducible rfl)))
    try simp only [List.getElem_toArray, List.getElem_cons_zero, Act.put, List.setIfInBounds_toArray, List.set_cons_zero, List.set_cons_succ]
    refine OrdF.take (i := 1) (v := ?_) rfl (by kernel_rfl) (fun _ _ _ h => h) (by rfl) ?_ (by assumption) ?_
    (rotate_left; focus (intro w' hSw; (try dsimp only at hSw); go_simp; (try with_reducible rfl)))
    try simp only [List.getElem_toArray, List.getElem_cons_succ, List.getElem_cons_zero, Act.put, List.setIfInBounds_toArray, List.set_cons_zero, List.set_cons_succ]
    refine OrdF.take (i := 3) (v := ?_) rfl (by kernel_rfl) (fun _ _ _ h => h) (by rfl) ?_ (by assumption) ?_
    (rotate_left; focus (intro w' hSw; (try dsimp only at hSw); go_simp; (try with_reducible rfl)))
    try simp only [List.getElem_toArray, List.getElem_cons_succ, List.getElem_cons_zero, Act.put, List.setIfInBounds_toArray, List.set_cons_zero, List.set_cons_succ]
    refine OrdF.take (i := 4) (v := ?_) rfl (by kernel_rfl) (fun _ _ _ h => h) (by rfl) ?_ (by assumption) ?_
    (rotate_left; focus (intro w' hSw; (try dsimp only at hSw); go_simp; (try with_reducible rfl)))
    try simp only [List.getElem_toArray, List.getElem_cons_succ, List.getElem_cons_zero, Act.put, List.setIfInBounds_toArray, List.set_cons_zero, List.set_cons_succ]
    refine OrdF.take (i := 5) (v := ?_) rfl (by kernel_rfl) (fun _ _ _ h => h) (by rfl) ?_ (by assumption) ?_
    (rotate_left; focus (intro w' hSw; (try dsimp only at hSw); go_simp; (try with_reducible rfl)))
    try simp only [List.getElem_toArray, List.getElem_cons_succ, List.getElem_cons_zero, Act.put, List.setIfInBounds_toArray, List.set_cons_zero, List.set_cons_succ]
    refine OrdF.two (i := 2) (j := 8) rfl rfl (by kernel_rfl) (fun K hK => ?_) (fun K hK => ?_)
    · try simp only [List.getElem_toArray, List.getElem_cons_succ, List.getElem_cons_zero, Act.put, List.setIfInBounds_toArray, List.set_cons_zero, List.set_cons_succ]
      go_simp
      (go_at_call 67; (with_reducible refine (HP.out _ HH.out).mono ?_); rintro e' w4 ⟨A4, c4, rfl, hr4, hc4, hb4⟩; have HN := hid (HH.out.next hb4); have HB4 := hid hb4; have HR4 := hid hr4)
      try go_wp2_with fail
      refine hK.out _ _ (HS4.out _ HN.out) (fun hHeld => ?_)
      clear hK K
      try simp only [List.getElem_toArray, List.getElem_cons_succ, List.getElem_cons_zero, Act.put, List.setIfInBounds_toArray, List.set_cons_zero, List.set_cons_succ]
      have HR := HR4
      clear HR4 hr4
      have HH := HN
      clear HN
      refine OrdF.two (i := 6) (j := 8) rfl rfl (by kernel_rfl) (fun K hK => ?_) (fun K hK => ?_)
      · try simp only [List.getElem_toArray, List.getElem_cons_succ, List.getElem_cons_zero, Act.put, List.setIfInBounds_toArray, List.set_cons_zero, List.set_cons_succ]
        go_simp
        (go_at_call 68; (with_reducible refine (HPr.out _ HH.out).mono ?_); rintro e' w5 ⟨A5, c5, rfl, hd5, hb5⟩; have HN := hid (HH.out.next hb5); have HD := hid hd5; have HR5 := hid (own_below HR.out hb5); have HB5 := hid hb5)
        try go_wp2_with fail
        refine hK.out _ _ (HS4.out _ HN.out) (fun hHeld => ?_)
        clear hK K
        try simp only [List.getElem_toArray, List.getElem_cons_succ, List.getElem_cons_zero, Act.put, List.setIfInBounds_toArray, List.set_cons_zero, List.set_cons_succ]
        have HR := HR5
        clear HR5
        have HH := HN
        clear HN
        refine OrdF.two (i := 7) (j := 8) rfl rfl (by kernel_rfl) (fun K hK => ?_) (fun K hK => ?_)
        · go_simp
          refine hK.out _ _ (HS4.out _ HH.out) (fun hHeld => ?_)
          clear hK K
          try simp only [List.getElem_toArray, List.getElem_cons_succ, List.getElem_cons_zero, Act.put, List.setIfInBounds_toArray, List.set_cons_zero, List.set_cons_succ]
          refine OrdF.one (i := 8) rfl (by kernel_rfl) (fun K hK => ?_)
          try simp only [List.getElem_toArray, List.getElem_cons_succ, List.getElem_cons_zero, Act.put, List.setIfInBounds_toArray, List.set_cons_zero, List.set_cons_succ]
          try simp only [List.getElem_toArray, List.getElem_cons_succ, List.getElem_cons_zero, Act.put, List.setIfInBounds_toArray, List.set_cons_zero, List.set_cons_succ]
          go_simp
          have hbZ : Below w5.heap.size w5 (w5.alloc (.cells #[.int .i64 0, .slice none 0 0, .slice none 0 0, .slice none 0 0, .slice none 0 0, .int .i64 0] 79)) := (Below.refl _ _).alloc (Nat.le_refl _) _
          have HX := hid (heap_alloc_new w5 (.cells #[.int .i64 0, .slice none 0 0, .slice none 0 0, .slice none 0 0, .slice none 0 0, .int .i64 0] 79))
          have HG := hid (HH.out.lt)
          have HN := hid (HH.out.next hbZ)
          have HRn := hid (own_below HR.out hbZ)
          have HDn := hid (HD.out.on hbZ)
          refine hK.out _ _ (HS4.out _ HN.out) (fun hHeld => ?_)
          clear hK K
          try simp only [List.getElem_toArray, List.getElem_cons_succ, List.getElem_cons_zero, Act.put, List.setIfInBounds_toArray, List.set_cons_zero, List.set_cons_succ]
          have HH0 := HH
          have HR0 := HR
          have HD0 := HD
          have HH := HN
          clear HN hbZ
          have HR := HRn
          clear HRn
          have HD := HDn
          clear HDn
          refine OrdF.last (n := 9) rfl (by kernel_rfl) (fun K hK => ?_)
          try simp only [List.getElem_toArray, List.getElem_cons_succ, List.getElem_cons_zero, Act.put]
          go_simp
          refine hK.out _ _ ?_
          clear hK K
          try simp only [List.getElem_toArray, List.getElem_cons_succ, List.getElem_cons_zero, Act.put, List.setIfInBounds_toArray, List.set_cons_zero, List.set_cons_succ]
          go_wp2_with fail
          go_meet
          exact ⟨_, _, _, _, _, rfl, hc4, fstart_new HH0.out HR0.out HD0.out⟩
        · try simp only [List.getElem_toArray, List.getElem_cons_succ, List.getElem_cons_zero, Act.put, List.setIfInBounds_toArray, List.set_cons_zero, List.set_cons_succ]
          go_simp
          have hbZ : Below w5.heap.size w5 (w5.alloc (.cells #[.int .i64 0, .slice none 0 0, .slice none 0 0, .slice none 0 0, .slice none 0 0, .int .i64 0] 79)) := (Below.refl _ _).alloc (Nat.le_refl _) _
          have HX := hid (heap_alloc_new w5 (.cells #[.int .i64 0, .slice none 0 0, .slice none 0 0, .slice none 0 0, .slice none 0 0, .int .i64 0] 79))
          have HG := hid (HH.out.lt)
          have HN := hid (HH.out.next hbZ)
          have HRn := hid (own_below HR.out hbZ)
          have HDn := hid (HD.out.on hbZ)
          refine hK.out _ _ (HS4.out _ HN.out) (fun hHeld => ?_)
          clear hK K
          try simp only [List.getElem_toArray, List.getElem_cons_succ, List.getElem_cons_zero, Act.put, List.setIfInBounds_toArray, List.set_cons_zero, List.set_cons_succ]
          have HH0 := HH
          have HR0 := HR
          have HD0 := HD
          have HH := HN
          clear HN hbZ
          have HR := HRn
          clear HRn
          have HD := HDn
          clear HDn
          refine OrdF.one (i := 7) rfl (by kernel_rfl) (fun K hK => ?_)
          try simp only [List.getElem_toArray, List.getElem_cons_succ, List.getElem_cons_zero, Act.put, List.setIfInBounds_toArray, List.set_cons_zero, List.set_cons_succ]
          go_simp
          refine hK.out _ _ (HS4.out _ HH.out) (fun hHeld => ?_)
          clear hK K
          try simp only [List.getElem_toArray, List.getElem_cons_succ, List.getElem_cons_zero, Act.put, List.setIfInBounds_toArray, List.set_cons_zero, List.set_cons_succ]
          refine OrdF.last (n := 9) rfl (by kernel_rfl) (fun K hK => ?_)
          try simp only [List.getElem_toArray, List.getElem_cons_succ, List.getElem_cons_zero, Act.put]
          go_simp
          refine hK.out _ _ ?_
          clear hK K
          try simp only [List.getElem_toArray, List.getElem_cons_succ, List.getElem_cons_zero, Act.put, List.setIfInBounds_toArray, List.set_cons_zero, List.set_cons_succ]
          go_wp2_with fail
          go_meet
          exact ⟨_, _, _, _, _, rfl, hc4, fstart_new HH0.out HR0.out HD0.out⟩
      · try simp only [List.getElem_toArray, List.getElem_cons_succ, List.getElem_cons_zero, Act.put, List.setIfInBounds_toArray, List.set_cons_zero, List.set_cons_succ]
        go_simp
        have hbZ : Below w4.heap.size w4 (w4.alloc (.cells #[.int .i64 0, .slice none 0 0, .slice none 0 0, .slice none 0 0, .slice none 0 0, .int .i64 0] 79)) := (Below.refl _ _).alloc (Nat.le_refl _) _
        have HX := hid (heap_alloc_new w4 (.cells #[.int .i64 0, .slice none 0 0, .slice none 0 0, .slice none 0 0, .slice none 0 0, .int .i64 0] 79))
        have HG := hid (HH.out.lt)
        have HN := hid (HH.out.next hbZ)
        have HRn := hid (own_below HR.out hbZ)
        refine hK.out _ _ (HS4.out _ HN.out) (fun hHeld => ?_)
        clear hK K
        try simp only [List.getElem_toArray, List.getElem_cons_succ, List.getElem_cons_zero, Act.put, List.setIfInBounds_toArray, List.set_cons_zero, List.set_cons_succ]
        have HH := HN
        clear HN hbZ
        have HR := HRn
        clear HRn
        refine OrdF.one (i := 6) rfl (by kernel_rfl) (fun K hK => ?_)
        try simp only [List.getElem_toArray, List.getElem_cons_succ, List.getElem_cons_zero, Act.put, List.setIfInBounds_toArray, List.set_cons_zero, List.set_cons_succ]
        try simp only [List.getElem_toArray, List.getElem_cons_succ, List.getElem_cons_zero, Act.put, List.setIfInBounds_toArray, List.set_cons_zero, List.set_cons_succ]
        go_simp
        (go_at_call 68; (with_reducible refine (HPr.out _ HH.out).mono ?_); rintro e' w5 ⟨A5, c5, rfl, hd5, hb5⟩; have HN := hid (HH.out.next hb5); have HD := hid hd5; have HR5 := hid (own_below HR.out hb5); have HB5 := hid hb5)
        try go_wp2_with fail
        refine hK.out _ _ (HS4.out _ HN.out) (fun hHeld => ?_)
        clear hK K
        try simp only [List.getElem_toArray, List.getElem_cons_succ, List.getElem_cons_zero, Act.put, List.setIfInBounds_toArray, List.set_cons_zero, List.set_cons_succ]
        have HR := HR5
        clear HR5
        have HH := HN
        clear HN
        have HX := hid (box_below HX.out HB5.out (blk_lt HX.out))
        refine OrdF.one (i := 7) rfl (by kernel_rfl) (fun K hK => ?_)
        try simp only [List.getElem_toArray, List.getElem_cons_succ, List.getElem_cons_zero, Act.put, List.setIfInBounds_toArray, List.set_cons_zero, List.set_cons_succ]
        go_simp
        refine hK.out _ _ (HS4.out _ HH.out) (fun hHeld => ?_)
        clear hK K
        try simp only [List.getElem_toArray, List.getElem_cons_succ, List.getElem_cons_zero, Act.put, List.setIfInBounds_toArray, List.set_cons_zero, List.set_cons_succ]
        obtain ⟨u0, u1, u2, u3, u4, u5, u6⟩ := box6_cells HX.out
        refine OrdF.last (n := 9) rfl (by kernel_rfl) (fun K hK => ?_)
        try simp only [List.getElem_toArray, List.getElem_cons_succ, List.getElem_cons_zero, Act.put]
        go_simp
        refine hK.out _ _ ?_
        clear hK K
        try simp only [List.getElem_toArray, List.getElem_cons_succ, List.getElem_cons_zero, Act.put, List.setIfInBounds_toArray, List.set_cons_zero, List.set_cons_succ]
        go_wp2_with fail
        go_meet
        exact ⟨_, _, _, _, _, rfl, hc4, fstart_put HH.out HR.out HD.out HX.out HG.out⟩
    · try simp only [List.getElem_toArray, List.getElem_cons_succ, List.getElem_cons_zero, Act.put, List.setIfInBounds_toArray, List.set_cons_zero, List.set_cons_succ]
      go_simp
      have hbZ : Below wq.heap.size wq (wq.alloc (.cells #[.int .i64 0, .slice none 0 0, .slice none 0 0, .slice none 0 0, .slice none 0 0, .int .i64 0] 79)) := (Below.refl _ _).alloc (Nat.le_refl _) _
      have HX := hid (heap_alloc_new wq (.cells #[.int .i64 0, .slice none 0 0, .slice none 0 0, .slice none 0 0, .slice none 0 0, .int .i64 0] 79))
      have HG := hid (HH.out.lt)
      have HN := hid (HH.out.next hbZ)
      refine hK.out _ _ (HS4.out _ HN.out) (fun hHeld => ?_)
      clear hK K
      try simp only [List.getElem_toArray, List.getElem_cons_succ, List.getElem_cons_zero, Act.put, List.setIfInBounds_toArray, List.set_cons_zero, List.set_cons_succ]
      have HH := HN
      clear HN hbZ
      refine OrdF.one (i := 2) rfl (by kernel_rfl) (fun K hK => ?_)
      try simp only [List.getElem_toArray, List.getElem_cons_succ, List.getElem_cons_zero, Act.put, List.setIfInBounds_toArray, List.set_cons_zero, List.set_cons_succ]
      try simp only [List.getElem_toArray, List.getElem_cons_succ, List.getElem_cons_zero, Act.put, List.setIfInBounds_toArray, List.set_cons_zero, List.set_cons_succ]
      go_simp
      (go_at_call 67; (with_reducible refine (HP.out _ HH.out).mono ?_); rintro e' w4 ⟨A4, c4, rfl, hr4, hc4, hb4⟩; have HN := hid (HH.out.next hb4); have HB4 := hid hb4; have HR4 := hid hr4)
      try go_wp2_with fail
      refine hK.out _ _ (HS4.out _ HN.out) (fun hHeld => ?_)
      clear hK K
      try simp only [List.getElem_toArray, List.getElem_cons_succ, List.getElem_cons_zero, Act.put, List.setIfInBounds_toArray, List.set_cons_zero, List.set_cons_succ]
      have HR := HR4
      clear HR4 hr4
      have HH := HN
      clear HN
      have HX := hid (box_below HX.out HB4.out (blk_lt HX.out))
      refine OrdF.one (i := 6) rfl (by kernel_rfl) (fun K hK => ?_)
      try simp only [List.getElem_toArray, List.getElem_cons_succ, List.getElem_cons_zero, Act.put, List.setIfInBounds_toArray, List.set_cons_zero, List.set_cons_succ]
      try simp only [List.getElem_toArray, List.getElem_cons_succ, List.getElem_cons_zero, Act.put, List.setIfInBounds_toArray, List.set_cons_zero, List.set_cons_succ]
      go_simp
      (go_at_call 68; (with_reducible refine (HPr.out _ HH.out).mono ?_); rintro e' w5 ⟨A5, c5, rfl, hd5, hb5⟩; have HN := hid (HH.out.next hb5); have HD := hid hd5; have HR5 := hid (own_below HR.out hb5); have HB5 := hid hb5)
      try go_wp2_with fail
      refine hK.out _ _ (HS4.out _ HN.out) (fun hHeld => ?_)
      clear hK K
      try simp only [List.getElem_toArray, List.getElem_cons_succ, List.getElem_cons_zero, Act.put, List.setIfInBounds_toArray, List.set_cons_zero, List.set_cons_succ]
      have HR := HR5
      clear HR5
      have HH := HN
      clear HN
      have HX := hid (box_below HX.out HB5.out (blk_lt HX.out))
      refine OrdF.one (i := 7) rfl (by kernel_rfl) (fun K hK => ?_)
      try simp only [List.getElem_toArray, List.getElem_cons_succ, List.getElem_cons_zero, Act.put, List.setIfInBounds_toArray, List.set_cons_zero, List.set_cons_succ]
      go_simp
      refine hK.out _ _ (HS4.out _ HH.out) (fun hHeld => ?_)
      clear hK K
      try simp only [List.getElem_toArray, List.getElem_cons_succ, List.getElem_cons_zero, Act.put, List.setIfInBounds_toArray, List.set_cons_zero, List.set_cons_succ]
      obtain ⟨u0, u1, u2, u3, u4, u5, u6⟩ := box6_cells HX.out
      refine OrdF.last (n := 9) rfl (by kernel_rfl) (fun K hK => ?_)
      try simp only [List.getElem_toArray, List.getElem_cons_succ, List.getElem_cons_zero, Act.put]
      go_simp
      refine hK.out _ _ ?_
      clear hK K
      try simp only [List.getElem_toArray, List.getElem_cons_succ, List.getElem_cons_zero, Act.put, List.setIfInBounds_toArray, List.set_cons_zero, List.set_cons_succ]
      go_wp2_with fail
      go_meet
      exact ⟨_, _, _, _, _, rfl, hc4, fstart_put HH.out HR.out HD.out HX.out HG.out⟩
  case rest =>
    obtain ⟨B, Ap, cp, Ag, cg, rfl, hpc, hst⟩ := hcut
    rename World => w0
    have HST := hid hst
    have HS0 := hid (hst.fos (l := l) (P1 := P1) (N := N))
    obtain ⟨z0, z1, z2, z3, z4, z5, z6⟩ := box6_cells hst.box
    obtain ⟨v0, v1, v2, v3, v4, v5, v6⟩ := hst.held.1.v
    have hgt := hst.gt
    obtain ⟨A5, c5, he, -, hr5⟩ := own_ints hst.pts HPL.out
    cases he
    obtain ⟨bp, op, rfl, hbp, -⟩ := hr5.2 (by omega)
    have HR0 := hid (fun W (hb : But B w0 W) => (own_ints (own_but hst.pts hb hst.box (by decide)) HPL.out))
    have HD0 := hid (fun W (hb : But B w0 W) => hst.dwn.but hb hst.box)
    have HH0 := hid (fun W (hb : But B w0 W) => hst.held.but hb hst.gt)
    have HGT := hid hgt
    clear hst hr5 hS HP HPr HRt hgt
    go_wp2_with fail
    clear z0 z1 z2 z3 z4 z5 z6 v0 v1 v2 v3 v4 v5 v6
    go_loopw [10, 35] (fun atv iv wr => ∃ (k : Nat) (Df : Option Addr) (cf : Nat) (vs : List Value) (s : Int) (a : Int), k ≤ kk + 1 ∧ iv = .int .i64 k ∧ atv = .int .i64 a ∧ 0 ≤ s ∧ s ≤ 654311424 * k ∧ Hid (P.getD k 0 = a) ∧ Hid (legsS nd l gn x.frm (x.via ++ [x.too]) = (legsS nd l gn a (P.drop (k + 1))).map fun t => s + t) ∧ Hid (FOs w0 B nd A n c l gn P1 N kk (some ⟨bp, op, none⟩) cp Ag cg (.slice Df k cf) k vs s wr)) (fun _ iv _ => kk + 2 - (intOf iv).toNat)
    case atStart => exact ⟨0, none, 0, [], 0, x.frm, by omega, rfl, rfl, by omega, by omega, HP00, by have := hP0.out; rw [HP00.out] at this; exact this, HS0⟩
    case round =>
      obtain ⟨k, Df, cf, vs, s, a, hk, rfl, rfl, hs0, hs1, HA, HL, HF⟩ := hrel
      have ewk : IntKind.i64.wrap ((k : Int) + 1) = (k : Int) + 1 := by rw [IntKind.wrap_i64]; omega
      obtain ⟨z0, z1, z2, z3, z4, z5, z6⟩ := box6_cells HF.out.box
      have hhr := HH0.out _ HF.out.bel
      obtain ⟨g0, g1⟩ := hhr.1.g
      have HHr := hid hhr
      have hva := HPV.out k (by omega)
      rw [HA.out] at hva
      obtain ⟨U, rfl⟩ := Int.eq_ofNat_of_zero_le hva.1
      by_cases hlt : k < kk + 1
      · have hki : (k : Int) < (kk : Int) + 1 := by omega
        have d2 : decide ((k : Int) < (kk : Int) + 1) = true := decide_eq_true hki
        have d3 : decide (k < kk + 1) = true := decide_eq_true hlt
        obtain ⟨A6, c6, he6, -, hr6⟩ := HR0.out _ HF.out.bel
        cases he6
        obtain ⟨b', o', hbo, hbl, hcell⟩ := hr6.2 (by omega)
        cases hbo
        have x1 := hcell (k + 1) _ (HPA.out (k + 1) (by omega))
        rw [show op + (k + 1) = op + 1 + k by omega] at x1
        have hvb := HPV.out (k + 1) (by omega)
        have HL2 : Hid (legsS nd l gn (U : Int) (P.drop (k + 1)) = legsS nd l gn (U : Int) (P.getD (k + 1) 0 :: P.drop (k + 1 + 1))) := by show _ = _; rw [HPD.out (k + 1) (by omega)]
        have HP1k := HP1.out k
        have Hvs : Hid (vs.length = k) := by show _ = _; have := HF.out.own.1; omega
        obtain ⟨b, hb⟩ : ∃ b, P.getD (k + 1) 0 = b := ⟨_, rfl⟩
        rw [hb] at x1 hvb HL2 HP1k
        have HB := hid hb
        have HP1h := hid HP1k
        obtain ⟨hf1, hf2, hf3⟩ := HFA.out b (U : Int) hvb hva
        obtain ⟨d, hdd⟩ : ∃ d, dAt (fromS nd l gn b) (U : Int) = d := ⟨_, rfl⟩
        rw [hdd] at hf1 hf2 hf3
        rw [Int.toNat_natCast] at hf1
        have HF1 := hid hf1
        have HLn2 := hid (HLN.out b hvb)
        have HLd : Hid ((d < 0 → legsS nd l gn (U : Int) (b :: P.drop (k + 1 + 1)) = none) ∧ (0 ≤ d → legsS nd l gn (U : Int) (b :: P.drop (k + 1 + 1)) = (legsS nd l gn b (P.drop (k + 1 + 1))).map fun s => d + s)) := ⟨fun hneg => legsS_none (by rw [← hf3]; exact hneg), fun hpos => by rw [legsS_some (by rw [← hf3]; omega), ← hf3]⟩
        have HFk := hid (HFr.out b hvb Ag cg wr HHr.out (HD0.out _ HF.out.bel))
        have hUN : U < N := by have := HNn.out; omega
        have hUi : (U : Int) < (N : Int) := by omega
        have hU0 : (0 : Int) ≤ (U : Int) := by omega
        have hU1 : decide ((U : Int) < (N : Int)) = true := decide_eq_true hUi
        have hU2 : decide (U < N) = true := decide_eq_true hUN
        clear hcell hb hdd hf1 hf3 hr6 hhr hva hvb HP1k
        by_cases hd0 : d < 0
        · have t1 : decide (d < 0) = true := decide_eq_true hd0
          have HV : Hid (costS nd l x dn = (0, 8)) := by show _ = _; rw [hC.out, HL.out, HL2.out, HLd.out.1 hd0]; rfl
          clear hd0 ewk
          go_wp2_with (go_at_call 43; (with_reducible refine (HFk.out).mono ?_); rintro e' w7 ⟨A7, c7, rfl, hr7, hown7, hb7⟩; obtain ⟨b7, o7, rfl, hl7, hcell7⟩ := hr7.2 (by omega); have x7 := hcell7 U _ HF1.out; have HF7 := hid (HF.out.next hb7); have hh7 := HH0.out _ HF7.out.bel; have HH7 := hid hh7; have HV7 := hid hown7; obtain ⟨z0, z1, z2, z3, z4, z5, z6⟩ := box6_cells HF7.out.box; obtain ⟨u0, u1, u2, u3, u4, u5, u6⟩ := box6_cells hh7.2; clear hcell7 hr7 hown7 hb7 g0 g1 x1 hh7)
          have hg := box6_put (y0 := .int .i64 0) (y1 := .slice none 0 0) (y2 := .slice none 0 0) (y3 := .slice none 0 0) (y4 := .slice none 0 0) (y5 := .int .i64 0) HH7.out.2
          refine bodyPost_ret (results_cellrow_tmp (p := 6) (u := 7) (fn := Try.f45) rfl _ _ _ _ _ _ _ rfl hg Try.underlying79 rfl (by kernel_rfl)) rfl ?_
          exact ⟨below_put6 HH7.out.1.1 (by omega), .inl ⟨by rw [HV.out]; decide, by rw [HV.out]; rfl⟩⟩
        · have t1 : decide (d < 0) = false := decide_eq_false hd0
          have ew2 : IntKind.i64.wrap (s + d) = s + d := by rw [IntKind.wrap_i64]; omega
          have HLn : Hid (legsS nd l gn x.frm (x.via ++ [x.too]) = (legsS nd l gn b (P.drop (k + 1 + 1))).map fun t => s + d + t) := by
            show _ = _
            rw [HL.out, HL2.out, HLd.out.2 (by omega), Option.map_map]
            congr 1
            funext t
            show s + (d + t) = s + d + t
            omega
          have hdn : 0 ≤ s + d ∧ s + d ≤ 654311424 * (k + 1 : Nat) := by push_cast; omega
          clear hd0
          go_wp2_with (first
            | (go_at_call 43; (with_reducible refine (HFk.out).mono ?_); rintro e' w7 ⟨A7, c7, rfl, hr7, hown7, hb7⟩; obtain ⟨b7, o7, rfl, hl7, hcell7⟩ := hr7.2 (by omega); have x7 := hcell7 U _ HF1.out; have HF7 := hid (HF.out.next hb7); have hh7 := HH0.out _ HF7.out.bel; have HH7 := hid hh7; have HV7 := hid hown7; obtain ⟨z0, z1, z2, z3, z4, z5, z6⟩ := box6_cells HF7.out.box; obtain ⟨u0, u1, u2, u3, u4, u5, u6⟩ := box6_cells hh7.2; clear hcell7 hr7 hown7 hb7 g0 g1 x1 hh7)
            | (at_builtin; refine wpList_append_own _ rfl (.tmp 51) (.tmp 53) 60 rfl w0.heap.size 40 i5 (.slice none 0 0) 1 24 Try.underlying60 Ai.out Az0.out Az1.out Az2.out rfl (by decide) (.slice Df k cf) k vs rfl (HF7.out.own.alloc _) ⟨w7.heap.size, 0, none⟩ 1 1 [.slice (some ⟨b7, o7, none⟩) N c7] rfl (by rfl) (new_row (by rfl)) (by simp [Value.oneCell']) (by unfold maxLen; omega) (by omega) (by have := HF7.out.bel.size; simp; omega) ?_; intro v6 w6 hown6 hg6 _; obtain ⟨D6, c6, rfl⟩ := own_form hown6; have HF8 := hid (HF7.out.put Hvs.out (by rw [HP1h.out]; exact HV7.out) hown6 hg6); have hX6 := box_app HF7.out.box HF7.out.lt0 HF7.out.own hg6; obtain ⟨y0, y1, y2, y3, y4, y5, y6⟩ := box6_cells hX6; clear hX6 hown6 hg6))
          clear z0 z1 z2 z3 z4 z5 z6 y0 y1 y2 y3 y4 y5 y6 x7 u0 u1 u2 u3 u4 u5 u6
          obtain ⟨w8, hw8⟩ : ∃ w8, w6.setCell ⟨B, 4, none⟩ (.slice D6 (k + 1) c6) = w8 := ⟨_, rfl⟩
          rw [hw8] at HF8 ⊢
          clear hw8
          obtain ⟨z0, z1, z2, z3, z4, z5, z6⟩ := box6_cells HF8.out.box
          obtain ⟨A9, c9, he9, -, hr9⟩ := own_ints (HF8.out.far k _ (by rw [List.getElem?_append_right (by rw [Hvs.out]; exact Nat.le_refl _), Hvs.out, Nat.sub_self]; rfl)) (by rw [HP1h.out, HLn2.out])
          cases he9
          obtain ⟨b9, o9, hbo9, -, hcell9⟩ := hr9.2 (by omega)
          cases hbo9
          have x8 := hcell9 U _ (by rw [HP1h.out]; exact HF1.out)
          clear hcell9 hr9
          go_still_tail 8, (by kernel_rfl)
          change wpList _ _ _ _ _ w8.drew
          have HFd := hid (HF8.out.drew)
          obtain ⟨wd, hwd⟩ : ∃ wd, w8.drew = wd := ⟨_, rfl⟩
          rw [hwd] at HFd ⊢
          clear hwd z0 z1 z2 z3 z4 z5 z6 x8
          obtain ⟨z0, z1, z2, z3, z4, z5, z6⟩ := box6_cells HFd.out.box
          go_wp2_with fail
          have HFn := hid (HFd.out.cost (t := s + d))
          clear ew2 ewk z0 z1 z2 z3 z4 z5 z6
          go_roundw
          case rel => exact ⟨k + 1, D6, c6, _, s + d, b, by omega, by go_num, rfl, hdn.1, hdn.2, HB, HLn, HFn⟩
          case measure => simp [intOf]; omega
      · obtain rfl : k = kk + 1 := by omega
        have d2 : decide (((kk + 1 : Nat) : Int) < (kk : Int) + 1) = false := decide_eq_false (by omega)
        have d2b : decide ((kk : Int) + 1 < (kk : Int) + 1) = false := decide_eq_false (by omega)
        have d3 : decide (kk + 1 < kk + 1) = false := decide_eq_false hlt
        have HLe : Hid (legsS nd l gn x.frm (x.via ++ [x.too]) = some s) := by
          show _ = _
          have hdp : P.drop (kk + 1 + 1) = [] := List.drop_eq_nil_of_le (by omega)
          rw [HL.out, hdp, legsS]
          simp
        obtain ⟨v0, v1, v2, v3, v4, v5, v6⟩ := hhr.1.v
        obtain ⟨u0, u1, u2, u3, u4, u5, u6⟩ := box6_cells hhr.2
        have HSB := hid hhr.2
        have HBl := hid hhr.1.1
        have HBA := hid (HEnd.out w0 B (some ⟨bp, op, none⟩) cp Ag cg Df cf vs s wr HST.out HF.out)
        have HOK : Hid ((x.bnd = 0 ∨ s ≤ x.bnd) → costS nd l x dn = (s, 0)) := by
          intro h
          rw [hC.out, HLe.out]
          show (if 0 < x.bnd ∧ x.bnd < s then ((0 : Int), (8 : Int)) else (s, 0)) = _
          rw [if_neg (fun hh => by omega)]
        clear hhr hva hk ewk
        by_cases hb0 : x.bnd = 0
        · have t1 : (x.bnd != 0) = false := by rw [hb0]; rfl
          have HV := hid (HOK.out (.inl hb0))
          clear hb0 hbnd
          go_wp2_with fail
          have hg := box6_put (y0 := .int .i64 nd) (y1 := .slice A n c) (y2 := .slice (some ⟨bp, op, none⟩) (kk + 2) cp) (y3 := .slice Ag n cg) (y4 := .slice Df (kk + 1) cf) (y5 := .int .i64 s) HSB.out
          refine bodyPost_ret (results_cellrow_tmp (p := 6) (u := 7) (fn := Try.f45) rfl _ _ _ _ _ _ _ rfl hg Try.underlying79 rfl (by kernel_rfl)) rfl ?_
          exact ⟨below_put6 HBl.out (by omega), .inr ⟨by rw [HV.out], some ⟨bp, op, none⟩, cp, Ag, cg, Df, cf, vs, by rw [HV.out, HKK.out]; rfl, HBA.out.but but_put6 HSB.out⟩⟩
        · have t1 : (x.bnd != 0) = true := bne_iff_ne.2 hb0
          by_cases hb1 : x.bnd < s
          · have t2 : decide (x.bnd < s) = true := decide_eq_true hb1
            have HV : Hid (costS nd l x dn = (0, 8)) := by show _ = _; rw [hC.out, HLe.out]; show (if 0 < x.bnd ∧ x.bnd < s then ((0 : Int), (8 : Int)) else (s, 0)) = _; rw [if_pos ⟨by omega, hb1⟩]
            clear hb0 hb1 hbnd
            go_wp2_with fail
            have hg := box6_put (y0 := .int .i64 0) (y1 := .slice none 0 0) (y2 := .slice none 0 0) (y3 := .slice none 0 0) (y4 := .slice none 0 0) (y5 := .int .i64 0) HSB.out
            refine bodyPost_ret (results_cellrow_tmp (p := 6) (u := 7) (fn := Try.f45) rfl _ _ _ _ _ _ _ rfl hg Try.underlying79 rfl (by kernel_rfl)) rfl ?_
            exact ⟨below_put6 HBl.out (by omega), .inl ⟨by rw [HV.out]; decide, by rw [HV.out]; rfl⟩⟩
          · have t2 : decide (x.bnd < s) = false := decide_eq_false hb1
            have HV := hid (HOK.out (.inr (by omega)))
            clear hb0 hb1 hbnd
            go_wp2_with fail
            have hg := box6_put (y0 := .int .i64 nd) (y1 := .slice A n c) (y2 := .slice (some ⟨bp, op, none⟩) (kk + 2) cp) (y3 := .slice Ag n cg) (y4 := .slice Df (kk + 1) cf) (y5 := .int .i64 s) HSB.out
            refine bodyPost_ret (results_cellrow_tmp (p := 6) (u := 7) (fn := Try.f45) rfl _ _ _ _ _ _ _ rfl hg Try.underlying79 rfl (by kernel_rfl)) rfl ?_
            exact ⟨below_put6 HBl.out (by omega), .inr ⟨by rw [HV.out], some ⟨bp, op, none⟩, cp, Ag, cg, Df, cf, vs, by rw [HV.out, HKK.out]; rfl, HBA.out.but but_put6 HSB.out⟩⟩
theorem find_spec : FindSpec 45 := fun nd A n c l x y Ad n' c' dn w hg hw hd h1 h2 h3 h4 => by
  by_cases h : rightS nd l x = 0
  · exact find_in nd A n c l x y Ad n' c' dn w hg hw hd h1 h2 h3 h4 h
  · exact find_not nd A n c l x y Ad n' c' dn w hg hw h1 h2 h3 h4 h
end Go.Proofs.Ytkemcgbedapkcaa
