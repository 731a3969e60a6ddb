/- Merged: CrD. -/
import Derived.Test.YtkemcgbedapkcaaG17
import Derived.Test.YtkemcgbedapkcaaG07
/- waymarkref15.Compile of a want that has a cost. -/
namespace Go.Proofs.Ytkemcgbedapkcaa
open Go.RowKit
set_option maxHeartbeats 128000000
set_option maxRecDepth 100000
theorem cost_right {nd : Int} {l : List Lnk} {x : Wnt} {dn : List Bool} (hc : (costS nd l x dn).2 = 0) : rightS nd l x = 0 := by
  rcases Classical.em (rightS nd l x = 0) with h5 | h5
  · exact h5
  · unfold costS at hc; rw [if_pos h5] at hc; exact absurd hc h5
/-- What the number of segments makes of the answer. -/
noncomputable def compM (N : Nat) (l : List Lnk) (x : Wnt) (gn : List Bool) : Option Nat → List Sg × Int
  | none => ([], 9)
  | some n => (pathS N l x gn n (startS x), 0)
theorem compS_M {N : Nat} {l : List Lnk} {x : Wnt} {dn : List Bool} {d : Int} (hc : (costS N l x dn).2 = 0) : compS N l x dn d = compM N l x (prunedS N l x dn) (leastS N l x (prunedS N l x dn) (cutD d) (startS x)) := by
  unfold compS
  rw [if_neg (by rw [hc]; decide)]
  cases leastS N l x (prunedS N l x dn) (cutD d) (startS x) <;> rfl
theorem own_scell {W : World} {base M cs g : Nat} {L : List Sg} (h : W.ownsRow base 46 2 (.slice (some ⟨g, 0, none⟩) M cs) M (scells2 L)) {i : Nat} {t : Sg} (ht : L[i]? = some t) : W.cell? ⟨g, i * 2, none⟩ = some (.bool t.edge) ∧ W.cell? ⟨g, i * 2 + 1, none⟩ = some (.int .i64 t.too) := by
  obtain ⟨h1, h2⟩ := scells2_at ht
  have c1 := h.cells (g := g) rfl _ _ h1
  have c2 := h.cells (g := g) rfl _ _ h2
  rw [Go.WideShapes.add_plain, Nat.zero_add] at c1 c2
  exact ⟨c1, c2⟩
theorem made_icells (K : Nat) : madeCells #[.int .i64 0] K = (icells (List.replicate K 0)).toArray := by
  apply Array.toList_inj.1
  rw [toList_madeCells_one]
  simp [icells]
theorem comp_in (q N : Nat) (A' : Option Addr) (n c' : Nat) (vD : Value) (vs : List Value) (l : List Lnk) (x : Wnt) (y : WSl) (Ad : Option Addr) (n' cd : Nat) (dn : List Bool) (d : Int) (w : World) (ht : RAt q A' n c' vD vs N l w) (hok : GOk N l) (hN10 : N ≤ 10) (hn16 : n ≤ 16) (hw : WArg w x y) (hd : DArg w Ad n' cd dn) (h1 : y.nv ≤ 100) (h2 : y.nn ≤ 100) (h3 : y.nl ≤ 100) (h4 : y.nc ≤ 100) (hc : (costS N l x dn).2 = 0) :
    Calls Try.prog 21 #[.pointer (some ⟨q, 0, none⟩), .agg #[.int .i64 x.frm, .int .i64 x.too, .int .i64 x.bnd, .slice y.av y.nv y.cv, .slice y.an y.nn y.cn, .slice y.al y.nl y.cl, .slice y.ac y.nc y.cc], .slice Ad n' cd, .int .i64 d] w (CompAns N l x dn d w) := by
  have hr0 := cost_right hc
  obtain ⟨hck, hpv, hv4⟩ := right_ok hr0
  have hgl := ht.len
  have hS := HeldV.start w x y
  have HT := hid (fun W (hh : HeldV w x y W) => ht.on hh.1)
  have HC := hid (fun W (hh : HeldV w x y W) => (refCost_spec (N : Int) A' n c' l x y Ad n' cd dn W (own_garg (ht.on hh.1).lnk ht.len hok) (hw.on hh.1) (hd.on hh.1) h1 h2 h3 h4).mono fun _ _ h => (⟨h.1, hh.next h.2⟩ : _ ∧ HeldV w x y _))
  obtain ⟨gn, hgn⟩ : ∃ gn, prunedS N l x dn = gn := ⟨_, rfl⟩
  have HNo : Hid (∀ W, HeldV w x y W → Calls Try.prog 34 #[.agg #[.int .i64 (N : Int), .slice A' n c'], .agg #[.int .i64 x.frm, .int .i64 x.too, .int .i64 x.bnd, .slice y.av y.nv y.cv, .slice y.an y.nn y.cn, .slice y.al y.nl y.cl, .slice y.ac y.nc y.cc], .slice Ad n' cd] W fun e w' => ∃ B, e = .returned (.tuple #[.pointer (some ⟨B, 0, none⟩), .bool true]) ∧ OptAt (N : Int) A' n c' l x gn B w' ∧ HeldV w x y w') := fun W hh => (newOpt_spec (N : Int) A' n c' l x y Ad n' cd dn W (own_garg (ht.on hh.1).lnk ht.len hok) (hw.on hh.1) (hd.on hh.1) h1 h2 h3 h4).mono fun e w' ⟨h5, h6⟩ => by
    rcases h6 with ⟨h7, _⟩ | ⟨_, B, h7, h8⟩
    · exact absurd hc h7
    · rw [hgn] at h8
      exact ⟨B, h7, h8, hh.next h5⟩
  obtain ⟨K, hK⟩ : ∃ K, N + 2 * n = K := ⟨_, rfl⟩
  have hKs : (segsS N l).length = K := by rw [segsS_len, hgl, hK]
  have HAl : Hid (∀ W, HeldV w x y W → Calls Try.prog 35 #[.agg #[.int .i64 (N : Int), .slice A' n c']] W fun e w' => ∃ As cs, e = .returned (.slice As K cs) ∧ w'.ownsRow 0 46 2 (.slice As K cs) K (scells2 (segsS N l)) ∧ HeldV w x y w' ∧ Below W.heap.size W w') := fun W hh => (all_any N A' n c' l W hgl (by omega) (by omega)).mono fun e w' ⟨⟨v, h5, h6⟩, h7⟩ => by
    rw [hK] at h6
    obtain ⟨As, cs, rfl⟩ := own_form h6
    exact ⟨As, cs, h5, own_mono h6 (Nat.zero_le _), hh.next h7, h7⟩
  have HSt := hid (fun W (hh : HeldV w x y W) => start_any x y W (hw.on hh.1) (by omega))
  have HGo := hid (fun W (hh : HeldV w x y W) => goal_any x y W (hw.on hh.1) (by omega))
  have HG0 := hid (GoodC.start (gn := gn) (l := l) hr0)
  have HSeg : Hid (∀ (W : World) (B : Nat) (v k : Int) (s : Sg), OptAt (N : Int) A' n c' l x gn B W → RAt q A' n c' vD vs N l W → In64 v → In64 k → In64 s.too → Calls Try.prog 37 #[.pointer (some ⟨B, 0, none⟩), .pointer (some ⟨q, 0, none⟩), .agg #[.int .i64 v, .int .i64 k], .agg #[.bool s.edge, .int .i64 s.too]] W (SegAns (segO N l x gn (v, k) s.edge s.too) W)) := fun W B v k s ho ht' hv hk hs => refSeg_any N A' n c' l x gn B q A' n c' vD vs v k s W (own_garg ht'.lnk ht.len hok) ho hr0 hok ht' hv hk hs
  have HIn : Hid (∀ (p q : Int × Int) (s : Sg), InS N x p → segO N l x gn p s.edge s.too = some q → InS N x q) := fun p q s hp hs => segO_in hok hr0 hp hs
  have HLe : Hid (∀ (L : List (Int × Int)), L.Nodup → (∀ p ∈ L, InS N x p) → L.length ≤ 60) := fun L h5 h6 => states_le hN10 hv4 h5 h6
  have HP6 : Hid (∀ p : Int × Int, InS N x p → In64 p.1 ∧ In64 p.2) := fun p hp => by
    obtain ⟨i1, i2, i3, i4⟩ := hp
    have := ptsS_len x
    unfold In64
    omega
  have HS6 : Hid (∀ s ∈ segsS N l, In64 s.too) := fun s hs => by
    unfold segsS at hs
    unfold In64
    rcases List.mem_append.1 hs with h5 | h5
    · obtain ⟨j, hj, rfl⟩ := List.mem_map.1 h5
      rw [List.mem_range] at hj
      simp only
      omega
    · obtain ⟨j, hj, rfl⟩ := List.mem_map.1 h5
      rw [List.mem_range] at hj
      simp only
      omega
  have HVc : Hid (compS N l x dn d = compM N l x gn (leastS N l x gn (cutD d) (startS x))) := by show _ = _; rw [compS_M hc, hgn]
  obtain ⟨k1, hk1⟩ : ∃ k1, (costS N l x dn).1 = k1 := ⟨_, rfl⟩
  rw [hk1, hc] at HC
  have HCu := hid (cutR_any d)
  have hcd := cutD_le d
  obtain ⟨dd, hdd⟩ : ∃ dd, cutD d = dd := ⟨_, rfl⟩
  rw [hdd] at HCu HVc hcd
  obtain ⟨s1, s2, hs12⟩ : ∃ s1 s2, startS x = (s1, s2) := ⟨_, _, rfl⟩
  obtain ⟨g1, g2, hg12⟩ : ∃ g1 g2, goalS x = (g1, g2) := ⟨_, _, rfl⟩
  have HS12 := hid hs12
  have HG12 := hid hg12
  rw [hs12] at HSt HG0
  rw [hg12] at HGo
  have hSd := hS.next ((Below.refl _ _).drew)
  have HSd := hid hSd
  have HKs := hid hKs
  have hK42 : K ≤ 42 := by omega
  have hK1 : 1 ≤ K := by have := checkS_ok hck; omega
  have t1 : ((0 : Int) != 0) = false := by decide
  have hmk : ∀ W : World, (Instr.makeSlice 40 (.int .i64 (K : Int)) (.int .i64 (K : Int))).run Try.prog W = .ok (.slice (some ⟨W.heap.size, 0, none⟩) K K) (W.alloc (.cells (icells (List.replicate K 0)).toArray 3)) := fun W => by
    obtain ⟨i7, hi7, hy0, hy1, hy2⟩ := info_parts (show (Try.prog.info? 3).map (fun i => (i.zero, i.size, i.bytes)) = some (some (.int .i64 0), 1, 8) by kernel_rfl)
    have := run_makeSlice (P := Try.prog) (w := W) 40 3 i7 (.int .i64 0) Try.underlying40 hi7 hy0 .i64 .i64 (K : Int) (K : Int) (by omega) (by omega) (by rw [hy1]; omega) (by rw [hy2]; omega) (by omega)
    rw [hy1, Int.toNat_natCast, Nat.mul_one] at this
    rw [← made_icells]
    exact this
  obtain ⟨i5, hi, hz0, hz1, hz2⟩ := info_parts (show (Try.prog.info? 92).map (fun i => (i.zero, i.size, i.bytes)) = some (some (.agg #[.int .i64 0, .int .i64 0]), 2, 16) by kernel_rfl)
  have Ai := hid hi; have Az0 := hid hz0; have Az1 := hid hz1; have Az2 := hid hz2
  obtain ⟨i6, hi', hz0', hz1', hz2'⟩ := info_parts (show (Try.prog.info? 40).map (fun i => (i.zero, i.size, i.bytes)) = some (some (.slice none 0 0), 1, 24) by kernel_rfl)
  have Bi := hid hi'; have Bz0 := hid hz0'; have Bz1 := hid hz1'; have Bz2 := hid hz2'
  obtain ⟨i8, hj, hx0, hx1, hx2⟩ := info_parts (show (Try.prog.info? 46).map (fun i => (i.zero, i.size, i.bytes)) = some (some (.agg #[.bool false, .int .i64 0]), 2, 16) by kernel_rfl)
  have Ci := hid hj; have Cz0 := hid hx0; have Cz1 := hid hx1; have Cz2 := hid hx2
  obtain ⟨a0, a1, a2⟩ := tbox_cells (HT.out _ hSd).box
  obtain ⟨v0, v1, v2, v3, v4, v5, v6⟩ := box7_cells hSd.2
  have HTq := HT
  clear hi hz0 hz1 hz2 hi' hz0' hz1' hz2' hj hx0 hx1 hx2 ht hw hd hok hk1 hc hS hSd hgn hr0 hck hpv hv4 hgl h1 h2 h3 h4 hdd hs12 hg12 hKs hK
  go_enter Try.func21, Try.ntmps21
  go_upto_region 2 with (go_at_call 32; (with_reducible refine (HCu.out _).mono ?_); rintro e' w1 ⟨rfl, rfl⟩)
  go_cut [10, 11] (fun u1 u2 wx => u1 = .int .i64 k1 ∧ u2 = .int .i64 0 ∧ HeldV w x y wx)
  case first =>
    go_wp2_with fail
    as_aux_lemma =>
      go_region_law (go_simp; go_at_call 33; (with_reducible refine (HC.out _ HSd.out).mono ?_); rintro e' w3 ⟨rfl, hh3⟩)
      all_goals
        go_wp2_with fail
        go_meet
        exact ⟨rfl, rfl, hh3⟩
  case rest =>
    obtain ⟨rfl, rfl, hh3⟩ := hcut
    rename World => w3
    clear a0 a1 a2 v0 v1 v2 v3 v4 v5 v6
    have HSe := hid (hh3.next ((Below.refl _ _).drew))
    clear hh3
    obtain ⟨a0, a1, a2⟩ := tbox_cells (HT.out _ HSe.out).box
    obtain ⟨v0, v1, v2, v3, v4, v5, v6⟩ := box7_cells HSe.out.2
    go_upto_region 5 with fail
    go_cut [12, 13] (fun u1 u2 wx => ∃ B, u1 = .pointer (some ⟨B, 0, none⟩) ∧ u2 = .bool true ∧ OptAt (N : Int) A' n c' l x gn B wx ∧ HeldV w x y wx)
    case first =>
      go_wp2_with fail
      as_aux_lemma =>
        go_region_law (go_simp; go_at_call 34; (with_reducible refine (HNo.out _ HSe.out).mono ?_); rintro e' w4 ⟨B, rfl, ho4, hh4⟩)
        all_goals
          go_wp2_with fail
          go_meet
          exact ⟨B, rfl, rfl, ho4, hh4⟩
    case rest =>
      obtain ⟨B, rfl, rfl, ho4, hh4⟩ := hcut
      rename World => w4
      have HH4 := hid hh4
      have HO4 := hid ho4
      clear hh4 ho4 a0 a1 a2 v0 v1 v2 v3 v4 v5 v6 HSe HSd HNo HC HCu
      obtain ⟨a0, a1, a2⟩ := tbox_cells (HT.out _ HH4.out).box
      go_wp2_with (first
        | (go_at_call 35; (with_reducible refine (HAl.out _ HH4.out).mono ?_); rintro e' w5 ⟨As, cas, rfl, hsg5, hh5, hb5⟩; have HSG5 := hid hsg5; have HH5 := hid hh5; have HO5 := hid (HO4.out.on hb5); obtain ⟨v0, v1, v2, v3, v4, v5, v6⟩ := box7_cells hh5.2; clear hh5 hsg5 hb5)
        | (go_at_call 36; (with_reducible refine (HSt.out _ HH5.out).mono ?_); rintro e' w0 ⟨rfl, hb6⟩; have HSG0 := hid (own_below HSG5.out hb6); have HH0 := hid (HH5.out.next hb6); have HO0 := hid (HO5.out.on hb6); clear hb6))
      obtain ⟨gg, rfl⟩ : ∃ gg, As = some (⟨gg, 0, none⟩ : Addr) := by
        rcases HSG0.out.2 with ⟨_, h5⟩ | ⟨g, cap, cur, h5, _⟩
        · omega
        · cases h5; exact ⟨g, rfl⟩
      have HC0 := hid (CTb.start (K := K) (s := (s1, s2)) (w0 := w0) rfl)
      have HHW := hid (fun W (hb : Below w0.heap.size w0 W) => HH0.out.next hb)
      have HRT := hid (fun W (hb : Below w0.heap.size w0 W) => HT.out _ (HH0.out.next hb))
      have HOP := hid (fun W (hb : Below w0.heap.size w0 W) => HO0.out.on hb)
      have HSG := hid (fun W (hb : Below w0.heap.size w0 W) => own_below HSG0.out hb)
      clear HSG5 HH5 HO5 HO4 HH4 a0 a1 a2 v0 v1 v2 v3 v4 v5 v6
      go_loopw [15, 16, 17] (fun sv tv iv wr => ∃ (i M : Nat) (sts : List (Int × Int)) (Ds : Option Addr) (cs : Nat) (R : List (List Int)) (Dt : Option Addr) (ct : Nat) (rs : List Nat), i ≤ M ∧ iv = .int .i64 i ∧ sv = .slice Ds M cs ∧ tv = .slice Dt i ct ∧ Hid (CTb w0 K sts M Ds cs R i Dt ct rs wr) ∧ Hid (GoodC N l x gn sts R i)) (fun _ _ iv _ => 61 - (intOf iv).toNat)
      case atStart => exact ⟨0, 1, [(s1, s2)], _, 1, [], none, 0, [], by omega, rfl, rfl, rfl, HC0, HG0⟩
      case round =>
        obtain ⟨i, M, sts, Ds, cs, R, Dt, ct, rs, hi, rfl, rfl, rfl, HB, HG⟩ := hrel
        have hlens := HB.out.lens
        have hM60 : M ≤ 60 := by have := HLe.out sts HG.out.nd HG.out.rng; omega
        by_cases hlt : i < M
        · as_aux_lemma =>
            have d1 : decide ((i : Int) < (M : Int)) = true := decide_eq_true (by omega)
            have d2 : decide (i < M) = true := decide_eq_true hlt
            obtain ⟨⟨p1, p2⟩, hp⟩ : ∃ p, sts[i]? = some p := ⟨_, List.getElem?_eq_getElem (by omega)⟩
            have HP64 : Hid (In64 p1 ∧ In64 p2) := HP6.out _ (HG.out.rng _ (List.mem_of_getElem? hp))
            have Hp := hid hp
            clear hp
            go_wp2_with fail
            have hbA : Below wr.heap.size wr (wr.alloc (.cells (icells (List.replicate K 0)).toArray 3)) := (Below.refl _ _).alloc (Nat.le_refl _) _
            have HB1 := hid (HB.out.next hbA)
            have HI1 : Hid (IBlk (wr.alloc (.cells (icells (List.replicate K 0)).toArray 3)) wr.heap.size (List.replicate K 0)) := heap_alloc_new wr _
            have HF1 := hid HB.out.fresh
            have HX1 := hid HB.out.bel.size
            have HR1 : Hid (RowPart N l x gn sts (p1, p2) (List.replicate K 0) 0) := ⟨by rw [List.length_replicate, HKs.out], fun k hk => absurd hk (Nat.not_lt_zero k)⟩
            obtain ⟨r0, hr0⟩ : ∃ r0, wr.heap.size = r0 := ⟨_, rfl⟩
            rw [hr0] at HI1 HF1 HX1
            simp only [hr0]
            clear hbA hr0
            go_loopw [15, 19] (fun sv kv w2 => ∃ (k M' : Nat) (sts' : List (Int × Int)) (Ds' : Option Addr) (cs' : Nat) (row : List Int), k ≤ K ∧ kv = .int .i64 k ∧ sv = .slice Ds' M' cs' ∧ i < M' ∧ Hid (sts'[i]? = some (p1, p2)) ∧ Hid (CTb w0 K sts' M' Ds' cs' R i Dt ct rs w2) ∧ Hid (GoodC N l x gn sts' R i) ∧ Hid (IBlk w2 r0 row) ∧ Hid (RowPart N l x gn sts' (p1, p2) row k)) (fun _ kv _ => K - (intOf kv).toNat)
            case atStart => exact ⟨0, M, sts, Ds, cs, _, by omega, rfl, rfl, hlt, Hp, HB1, HG, HI1, HR1⟩
            case round =>
              clear HB HB1 HI1 HR1 Hp HG d1 d2 hlt hlens hM60 hi
              obtain ⟨k, M', sts', Ds', cs', row, hk, rfl, rfl, hiM, Hp, HB, HG, HI, HR⟩ := hrel
              have hlens := HB.out.lens
              have hM60 : M' ≤ 60 := by have := HLe.out sts' HG.out.nd HG.out.rng; omega
              by_cases hlk : k < K
              · have d1 : decide ((k : Int) < (K : Int)) = true := decide_eq_true (by omega)
                have d2 : decide (k < K) = true := decide_eq_true hlk
                have hki : (k : Int) < (K : Int) := by omega
                obtain ⟨s, hs⟩ : ∃ s, (segsS N l)[k]? = some s := ⟨_, List.getElem?_eq_getElem (by rw [HKs.out]; exact hlk)⟩
                obtain ⟨v, hv⟩ : ∃ v, row[k]? = some v := ⟨_, List.getElem?_eq_getElem (by rw [HR.out.1, HKs.out]; exact hlk)⟩
                have c0 := HI.out.cell hv
                have f0 := HI.out.frozen k
                have Hs := hid hs
                have HGG := hid (fun W (hb : Below w0.heap.size w0 W) => own_scell (HSG.out W hb) hs)
                have HS64 := hid (HS6.out s (List.mem_of_getElem? hs))
                clear hv hs
                go_upto_region 17 with fail
                have HB2 := hid (HB.out.setRow (j := k) (u := .int .i64 (-1)) HI.out HX1.out HF1.out)
                have HI2 := hid (HI.out.set k (-1))
                have HR2 := hid (HR.out.set (-1))
                obtain ⟨w2, hw2⟩ : ∃ w2, wr.setCell ⟨r0, k, none⟩ (.int .i64 (-1)) = w2 := ⟨_, rfl⟩
                rw [hw2] at HB2 HI2 ⊢
                clear hw2 c0 f0 HI HB
                obtain ⟨gs, cgs, hds⟩ : ∃ gs cs0, Ds' = some (⟨gs, 0, none⟩ : Addr) ∧ cs0 = cs' := by
                  rcases HB2.out.st.2 with ⟨_, h5⟩ | ⟨g, cap, cur, h5, _⟩
                  · omega
                  · cases h5; exact ⟨g, _, rfl, rfl⟩
                obtain ⟨rfl, rfl⟩ := hds
                have HSk := hid (fun W (hb : Below w0.heap.size w0 W) => HSeg.out W B p1 p2 s (HOP.out W hb) (HRT.out W hb) HP64.out.1 HP64.out.2 HS64.out)
                obtain ⟨se, st⟩ := s
                go_cut [20, 21] (fun u20 u21 w4 => ∃ (bn : Nat) (a7 b7 : Int) (ok7 : Bool), u20 = .pointer (some ⟨bn, 0, none⟩) ∧ u21 = .bool ok7 ∧ segO N l x gn (p1, p2) se st = (if ok7 = true then some (a7, b7) else none) ∧ w4.heap[bn]? = some (.cells #[.int .i64 a7, .int .i64 b7] 92 (0, 0)) ∧ w0.heap.size ≤ bn ∧ (Value.slice (some ⟨gs, 0, none⟩) M' cgs).ownBlock ≠ some bn ∧ bn ≠ r0 ∧ CTb w0 K sts' M' (some ⟨gs, 0, none⟩) cgs R i Dt ct rs w4 ∧ IBlk w4 r0 (row.set k (-1)))
                case first =>
                  go_wp2_with fail
                  have HS4 : Hid (∀ W, W.ownsRow w0.heap.size 92 2 (.slice (some ⟨gs, 0, none⟩) M' cgs) M' (pcells sts') → Below w0.heap.size w0 W → W.cell? ⟨gs, i * 2, none⟩ = some (.int .i64 p1) ∧ W.cell? ⟨gs, i * 2 + 1, none⟩ = some (.int .i64 p2) ∧ W.cell? ⟨gg, k * 2, none⟩ = some (.bool se) ∧ W.cell? ⟨gg, k * 2 + 1, none⟩ = some (.int .i64 st)) := fun W hst hb => by
                    obtain ⟨c1, c2⟩ := own_pcell hst Hp.out
                    obtain ⟨e1, e2⟩ := HGG.out W hb
                    exact ⟨c1, c2, e1, e2⟩
                  have HBc : Hid (CTb w0 K sts' M' (some ⟨gs, 0, none⟩) cgs R i Dt ct rs w2.drew) := HB2.out.next ((Below.refl _ _).drew)
                  have HIc : Hid (IBlk w2.drew r0 (row.set k (-1))) := HI2.out
                  obtain ⟨wc, hwc⟩ : ∃ wc, w2.drew = wc := ⟨_, rfl⟩
                  have hS17 := HS4.out w2.drew HBc.out.st HBc.out.bel
                  as_aux_lemma =>
                    refine region_ord 16 (fun W => W.cell? ⟨gs, i * 2, none⟩ = some (.int .i64 p1) ∧ W.cell? ⟨gs, i * 2 + 1, none⟩ = some (.int .i64 p2) ∧ W.cell? ⟨gg, k * 2, none⟩ = some (.bool se) ∧ W.cell? ⟨gg, k * 2 + 1, none⟩ = some (.int .i64 st)) (by kernel_rfl) hS17 (fun hHeld => ?_)
                    rw [hwc] at HBc HIc hHeld ⊢
                    clear hwc hS17
                    refine OrdF.take (i := 0) (v := ?_) rfl (by kernel_rfl) (fun _ _ _ h => h) (by rfl) ?_ (by assumption) ?_
                    (rotate_left; focus (intro w' hSw; (try dsimp only at hSw); go_simp; (try with_reducible rfl)))
                    try simp only [List.getElem_toArray, List.getElem_cons_zero, Act.put, List.setIfInBounds_toArray, List.set_cons_zero, List.set_cons_succ]
                    refine OrdF.take (i := 1) (v := ?_) rfl (by kernel_rfl) (fun _ _ _ h => h) (by rfl) ?_ (by assumption) ?_
                    (rotate_left; focus (intro w' hSw; (try dsimp only at hSw); go_simp; (try with_reducible rfl)))
                    try simp only [List.getElem_toArray, List.getElem_cons_succ, List.getElem_cons_zero, Act.put, List.setIfInBounds_toArray, List.set_cons_zero, List.set_cons_succ]
                    refine OrdF.take (i := 2) (v := ?_) rfl (by kernel_rfl) (fun _ _ _ h => h) (by rfl) ?_ (by assumption) ?_
                    (rotate_left; focus (intro w' hSw; (try dsimp only at hSw); go_simp; (try with_reducible rfl)))
                    try simp only [List.getElem_toArray, List.getElem_cons_succ, List.getElem_cons_zero, Act.put, List.setIfInBounds_toArray, List.set_cons_zero, List.set_cons_succ]
                    refine OrdF.take (i := 3) (v := ?_) rfl (by kernel_rfl) (fun _ _ _ h => h) (by rfl) ?_ (by assumption) ?_
                    (rotate_left; focus (intro w' hSw; (try dsimp only at hSw); go_simp; (try with_reducible rfl)))
                    try simp only [List.getElem_toArray, List.getElem_cons_succ, List.getElem_cons_zero, Act.put, List.setIfInBounds_toArray, List.set_cons_zero, List.set_cons_succ]
                    refine OrdF.take (i := 4) (v := ?_) rfl (by kernel_rfl) (fun _ _ _ h => h) (by rfl) ?_ (by assumption) ?_
                    (rotate_left; focus (intro w' hSw; (try dsimp only at hSw); go_simp; (try with_reducible rfl)))
                    try simp only [List.getElem_toArray, List.getElem_cons_succ, List.getElem_cons_zero, Act.put, List.setIfInBounds_toArray, List.set_cons_zero, List.set_cons_succ]
                    refine OrdF.take (i := 5) (v := ?_) rfl (by kernel_rfl) (fun _ _ _ h => h) (by rfl) ?_ (by assumption) ?_
                    (rotate_left; focus (intro w' hSw; (try dsimp only at hSw); go_simp; (try with_reducible rfl)))
                    try simp only [List.getElem_toArray, List.getElem_cons_succ, List.getElem_cons_zero, Act.put, List.setIfInBounds_toArray, List.set_cons_zero, List.set_cons_succ]
                    refine OrdF.take (i := 6) (v := ?_) rfl (by kernel_rfl) (fun _ _ _ h => h) (by rfl) ?_ (by assumption) ?_
                    (rotate_left; focus (intro w' hSw; (try dsimp only at hSw); go_simp; (try with_reducible rfl)))
                    try simp only [List.getElem_toArray, List.getElem_cons_succ, List.getElem_cons_zero, Act.put, List.setIfInBounds_toArray, List.set_cons_zero, List.set_cons_succ]
                    refine OrdF.take (i := 7) (v := ?_) rfl (by kernel_rfl) (fun _ _ _ h => h) (by rfl) ?_ (by assumption) ?_
                    (rotate_left; focus (intro w' hSw; (try dsimp only at hSw); go_simp; (try with_reducible rfl)))
                    try simp only [List.getElem_toArray, List.getElem_cons_succ, List.getElem_cons_zero, Act.put, List.setIfInBounds_toArray, List.set_cons_zero, List.set_cons_succ]
                    refine OrdF.take (i := 8) (v := ?_) rfl (by kernel_rfl) (fun _ _ _ h => h) (by rfl) ?_ (by assumption) ?_
                    (rotate_left; focus (intro w' hSw; (try dsimp only at hSw); go_simp; (try with_reducible rfl)))
                    try simp only [List.getElem_toArray, List.getElem_cons_succ, List.getElem_cons_zero, Act.put, List.setIfInBounds_toArray, List.set_cons_zero, List.set_cons_succ]
                    refine OrdF.take (i := 9) (v := ?_) rfl (by kernel_rfl) (fun _ _ _ h => h) (by rfl) ?_ (by assumption) ?_
                    (rotate_left; focus (intro w' hSw; (try dsimp only at hSw); go_simp; (try with_reducible rfl)))
                    try simp only [List.getElem_toArray, List.getElem_cons_succ, List.getElem_cons_zero, Act.put, List.setIfInBounds_toArray, List.set_cons_zero, List.set_cons_succ]
                    refine OrdF.two (i := 10) (j := 14) rfl rfl (by kernel_rfl) (fun K hK => ?_) (fun K hK => ?_)
                    · try simp only [List.getElem_toArray, List.getElem_cons_succ, List.getElem_cons_zero, Act.put, List.setIfInBounds_toArray, List.set_cons_zero, List.set_cons_succ]
                      go_simp
                      (go_at_call 37; (with_reducible refine (HSk.out _ HBc.out.bel).mono ?_); rintro e' w7 ⟨⟨a7, b7, ok7, rfl, ho7⟩, hb7⟩; have HB7 := hid (HBc.out.next hb7); have HI7 := hid (HIc.out.next hb7); have HO7 := hid ho7; have HQ7 := hid hb7)
                      try go_wp2_with fail
                      refine hK.out _ _ (HS4.out _ HB7.out.st HB7.out.bel) (fun hHeld => ?_)
                      clear hK K
                      try simp only [List.getElem_toArray, List.getElem_cons_succ, List.getElem_cons_zero, Act.put, List.setIfInBounds_toArray, List.set_cons_zero, List.set_cons_succ]
                      refine OrdF.take (i := 11) (v := ?_) rfl (by kernel_rfl) (fun _ _ _ h => h) (by rfl) ?_ (by assumption) ?_
                      (rotate_left; focus (intro w' hSw; (try dsimp only at hSw); go_simp; (try with_reducible rfl)))
                      try simp only [List.getElem_toArray, List.getElem_cons_succ, List.getElem_cons_zero, Act.put, List.setIfInBounds_toArray, List.set_cons_zero, List.set_cons_succ]
                      refine OrdF.take (i := 12) (v := ?_) rfl (by kernel_rfl) (fun _ _ _ h => h) (by rfl) ?_ (by assumption) ?_
                      (rotate_left; focus (intro w' hSw; (try dsimp only at hSw); go_simp; (try with_reducible rfl)))
                      try simp only [List.getElem_toArray, List.getElem_cons_succ, List.getElem_cons_zero, Act.put, List.setIfInBounds_toArray, List.set_cons_zero, List.set_cons_succ]
                      refine OrdF.take (i := 13) (v := ?_) rfl (by kernel_rfl) (fun _ _ _ h => h) (by rfl) ?_ (by assumption) ?_
                      (rotate_left; focus (intro w' hSw; (try dsimp only at hSw); go_simp; (try with_reducible rfl)))
                      try simp only [List.getElem_toArray, List.getElem_cons_succ, List.getElem_cons_zero, Act.put, List.setIfInBounds_toArray, List.set_cons_zero, List.set_cons_succ]
                      refine OrdF.one (i := 14) rfl (by kernel_rfl) (fun K hK => ?_)
                      try simp only [List.getElem_toArray, List.getElem_cons_succ, List.getElem_cons_zero, Act.put, List.setIfInBounds_toArray, List.set_cons_zero, List.set_cons_succ]
                      go_simp
                      have hbZ : Below w7.heap.size w7 (w7.alloc (.cells #[.int .i64 0, .int .i64 0] 92)) := (Below.refl _ _).alloc (Nat.le_refl _) _
                      have HB8 := hid (HB7.out.next hbZ)
                      have HI8 := hid (HI7.out.next hbZ)
                      have HX8 := hid (heap_alloc_new w7 (.cells #[.int .i64 0, .int .i64 0] 92))
                      have HN8 : Hid (w0.heap.size ≤ w7.heap.size ∧ (Value.slice (some ⟨gs, 0, none⟩) M' cgs).ownBlock ≠ some w7.heap.size ∧ w7.heap.size ≠ r0) := ⟨HB7.out.bel.size, fun e => by have := (HB7.out.st.lt _ e).2; omega, fun e => by have := HI7.out.lt; omega⟩
                      refine hK.out _ _ (HS4.out _ HB8.out.st HB8.out.bel) (fun hHeld => ?_)
                      clear hK K
                      try simp only [List.getElem_toArray, List.getElem_cons_succ, List.getElem_cons_zero, Act.put, List.setIfInBounds_toArray, List.set_cons_zero, List.set_cons_succ]
                      obtain ⟨u0, u1, u2⟩ := box_cells HX8.out
                      refine OrdF.one (i := 15) rfl (by kernel_rfl) (fun K hK => ?_)
                      try simp only [List.getElem_toArray, List.getElem_cons_succ, List.getElem_cons_zero, Act.put]
                      go_simp
                      have HB9 := hid (HB7.out.next (W' := w7.alloc (.cells #[.int .i64 a7, .int .i64 b7] 92)) ((Below.refl _ _).alloc (Nat.le_refl _) _))
                      have HI9 := hid (HI7.out.next (W' := w7.alloc (.cells #[.int .i64 a7, .int .i64 b7] 92)) ((Below.refl _ _).alloc (Nat.le_refl _) _))
                      refine hK.out _ _ (HS4.out _ HB9.out.st HB9.out.bel) (fun hHeld => ?_)
                      clear hK K
                      try simp only [List.getElem_toArray, List.getElem_cons_succ, List.getElem_cons_zero, Act.put, List.setIfInBounds_toArray, List.set_cons_zero, List.set_cons_succ]
                      refine OrdF.last (n := 16) rfl (by kernel_rfl) (fun K hK => ?_)
                      try simp only [List.getElem_toArray, List.getElem_cons_succ, List.getElem_cons_zero, Act.put]
                      go_simp
                      refine hK.out _ _ ?_
                      clear hK K
                      try simp only [List.getElem_toArray, List.getElem_cons_succ, List.getElem_cons_zero, Act.put, List.setIfInBounds_toArray, List.set_cons_zero, List.set_cons_succ]
                      go_wp2_with fail
                      go_meet
                      exact ⟨_, a7, b7, ok7, rfl, rfl, HO7.out, heap_alloc_new w7 _, HN8.out.1, HN8.out.2.1, HN8.out.2.2, HB9.out, HI9.out⟩
                    · try simp only [List.getElem_toArray, List.getElem_cons_succ, List.getElem_cons_zero, Act.put, List.setIfInBounds_toArray, List.set_cons_zero, List.set_cons_succ]
                      go_simp
                      have hbZ : Below wc.heap.size wc (wc.alloc (.cells #[.int .i64 0, .int .i64 0] 92)) := (Below.refl _ _).alloc (Nat.le_refl _) _
                      have HX8 := hid (heap_alloc_new wc (.cells #[.int .i64 0, .int .i64 0] 92))
                      have HN8 : Hid (w0.heap.size ≤ wc.heap.size ∧ (Value.slice (some ⟨gs, 0, none⟩) M' cgs).ownBlock ≠ some wc.heap.size ∧ wc.heap.size ≠ r0) := ⟨HBc.out.bel.size, fun e => by have := (HBc.out.st.lt _ e).2; omega, fun e => by have := HIc.out.lt; omega⟩
                      have HBn := hid (HBc.out.next hbZ)
                      have HIn := hid (HIc.out.next hbZ)
                      refine hK.out _ _ (HS4.out _ HBn.out.st HBn.out.bel) (fun hHeld => ?_)
                      clear hK K
                      try simp only [List.getElem_toArray, List.getElem_cons_succ, List.getElem_cons_zero, Act.put, List.setIfInBounds_toArray, List.set_cons_zero, List.set_cons_succ]
                      have HBc := HBn
                      have HIc := HIn
                      clear HBn HIn
                      refine OrdF.one (i := 10) rfl (by kernel_rfl) (fun K hK => ?_)
                      try simp only [List.getElem_toArray, List.getElem_cons_succ, List.getElem_cons_zero, Act.put, List.setIfInBounds_toArray, List.set_cons_zero, List.set_cons_succ]
                      go_simp
                      (go_at_call 37; (with_reducible refine (HSk.out _ HBc.out.bel).mono ?_); rintro e' w7 ⟨⟨a7, b7, ok7, rfl, ho7⟩, hb7⟩; have HB7 := hid (HBc.out.next hb7); have HI7 := hid (HIc.out.next hb7); have HO7 := hid ho7; have HQ7 := hid hb7)
                      try go_wp2_with fail
                      have HX7 := hid (box_below HX8.out hb7 (blk_lt HX8.out))
                      refine hK.out _ _ (HS4.out _ HB7.out.st HB7.out.bel) (fun hHeld => ?_)
                      clear hK K
                      try simp only [List.getElem_toArray, List.getElem_cons_succ, List.getElem_cons_zero, Act.put, List.setIfInBounds_toArray, List.set_cons_zero, List.set_cons_succ]
                      refine OrdF.take (i := 11) (v := ?_) rfl (by kernel_rfl) (fun _ _ _ h => h) (by rfl) ?_ (by assumption) ?_
                      (rotate_left; focus (intro w' hSw; (try dsimp only at hSw); go_simp; (try with_reducible rfl)))
                      try simp only [List.getElem_toArray, List.getElem_cons_succ, List.getElem_cons_zero, Act.put, List.setIfInBounds_toArray, List.set_cons_zero, List.set_cons_succ]
                      refine OrdF.take (i := 12) (v := ?_) rfl (by kernel_rfl) (fun _ _ _ h => h) (by rfl) ?_ (by assumption) ?_
                      (rotate_left; focus (intro w' hSw; (try dsimp only at hSw); go_simp; (try with_reducible rfl)))
                      try simp only [List.getElem_toArray, List.getElem_cons_succ, List.getElem_cons_zero, Act.put, List.setIfInBounds_toArray, List.set_cons_zero, List.set_cons_succ]
                      refine OrdF.take (i := 13) (v := ?_) rfl (by kernel_rfl) (fun _ _ _ h => h) (by rfl) ?_ (by assumption) ?_
                      (rotate_left; focus (intro w' hSw; (try dsimp only at hSw); go_simp; (try with_reducible rfl)))
                      try simp only [List.getElem_toArray, List.getElem_cons_succ, List.getElem_cons_zero, Act.put, List.setIfInBounds_toArray, List.set_cons_zero, List.set_cons_succ]
                      obtain ⟨u0, u1, u2⟩ := box_cells HX7.out
                      refine OrdF.one (i := 15) rfl (by kernel_rfl) (fun K hK => ?_)
                      try simp only [List.getElem_toArray, List.getElem_cons_succ, List.getElem_cons_zero, Act.put]
                      go_simp
                      have HB9 := hid ((HB7.out.setBox (j := 0) (u := .int .i64 a7) HX7.out HN8.out.1 HN8.out.2.1).setBox (j := 1) (u := .int .i64 b7) (box_set0 HX7.out) HN8.out.1 HN8.out.2.1)
                      have HI9 := hid ((HI7.out.other (j := 0) (u := .int .i64 a7) HN8.out.2.2).other (j := 1) (u := .int .i64 b7) HN8.out.2.2)
                      refine hK.out _ _ (HS4.out _ HB9.out.st HB9.out.bel) (fun hHeld => ?_)
                      clear hK K
                      try simp only [List.getElem_toArray, List.getElem_cons_succ, List.getElem_cons_zero, Act.put, List.setIfInBounds_toArray, List.set_cons_zero, List.set_cons_succ]
                      refine OrdF.last (n := 16) rfl (by kernel_rfl) (fun K hK => ?_)
                      try simp only [List.getElem_toArray, List.getElem_cons_succ, List.getElem_cons_zero, Act.put]
                      go_simp
                      refine hK.out _ _ ?_
                      clear hK K
                      try simp only [List.getElem_toArray, List.getElem_cons_succ, List.getElem_cons_zero, Act.put, List.setIfInBounds_toArray, List.set_cons_zero, List.set_cons_succ]
                      go_wp2_with fail
                      go_meet
                      exact ⟨_, a7, b7, ok7, rfl, rfl, HO7.out, box_set1 (box_set0 HX7.out), HN8.out.1, HN8.out.2.1, HN8.out.2.2, HB9.out, HI9.out⟩
                case rest =>
                  obtain ⟨bn, a7, b7, ok7, rfl, rfl, ho7, hx7, hbn, hne7, hnr, hB4, hI4⟩ := hcut
                  have ewk : IntKind.i64.wrap ((k : Int) + 1) = (k : Int) + 1 := by rw [IntKind.wrap_i64]; omega
                  have HB4 := hid hB4
                  have HI4 := hid hI4
                  have HX7 := hid hx7
                  clear hB4 hI4 hx7 HB2 HI2
                  cases ok7 with
                  | false =>
                    have HRn := hid (HR.out.none Hs.out (by rw [ho7]; rfl))
                    clear ho7
                    go_wp2_with fail
                    clear ewk
                    go_roundw
                    case rel => exact ⟨k + 1, M', sts', some ⟨gs, 0, none⟩, cgs, _, by omega, by go_num, rfl, hiM, Hp, HB4, HG, HI4, HRn⟩
                    case measure => simp [intOf]; omega
                  | true =>
                    have HO7 : Hid (segO N l x gn (p1, p2) se st = some (a7, b7)) := ho7
                    have HQIn := hid (HIn.out _ _ ⟨se, st⟩ (HG.out.rng _ (List.mem_of_getElem? Hp.out)) HO7.out)
                    have hkK : (k : Int) < (K : Int) := by omega
                    clear ho7 d1 d2
                    go_wp2_with fail
                    go_loopw [22] (fun jv w5 => ∃ j : Nat, j ≤ M' ∧ jv = .int .i64 j ∧ Hid (∀ j', j' < j → sts'[j']? ≠ some (a7, b7)) ∧ Hid (CTb w0 K sts' M' (some ⟨gs, 0, none⟩) cgs R i Dt ct rs w5) ∧ Hid (IBlk w5 r0 (row.set k (-1))) ∧ Hid (w5.heap[bn]? = some (.cells #[.int .i64 a7, .int .i64 b7] 92 (0, 0)))) (fun jv _ => M' - (intOf jv).toNat)
                    case atStart => exact ⟨0, by omega, rfl, fun j' h => absurd h (Nat.not_lt_zero j'), HB4, HI4, HX7⟩
                    case round =>
                      clear HB4 HI4 HX7
                      obtain ⟨j, hj, rfl, HJ, HB5, HI5, HX5⟩ := hrel
                      obtain ⟨y0, y1, -⟩ := box_cells HX5.out
                      have ewj : IntKind.i64.wrap ((j : Int) + 1) = (j : Int) + 1 := by rw [IntKind.wrap_i64]; omega
                      have c0 : wr.cell? ⟨r0, k, none⟩ = some (.int .i64 (-1)) := HI5.out.cell (by rw [List.getElem?_set_self (by rw [HR.out.1, HKs.out]; exact hlk)])
                      have f0 := HI5.out.frozen k
                      by_cases hjM : j < M'
                      · have e1 : decide ((j : Int) < (M' : Int)) = true := decide_eq_true (by omega)
                        have e2 : decide (j < M') = true := decide_eq_true hjM
                        have hji : (j : Int) < (M' : Int) := by omega
                        obtain ⟨⟨q1, q2⟩, hq⟩ : ∃ p, sts'[j]? = some p := ⟨_, List.getElem?_eq_getElem (by omega)⟩
                        obtain ⟨x0, x1⟩ := own_pcell HB5.out.st hq
                        dsimp only at x0 x1
                        have Hq := hid hq
                        clear hq
                        by_cases hqe : (q1, q2) = (a7, b7)
                        · cases hqe
                          have hneq := fun W => show (binOp .neq 92 (.agg #[.int .i64 a7, .int .i64 b7]) (.agg #[.int .i64 a7, .int .i64 b7])).run Try.prog W = .ok (.bool false) W by rw [neq2_run]; simp
                          have hjn : decide ((j : Int) = (M' : Int)) = false := decide_eq_false (by omega)
                          have hjb : ((j : Int) == (M' : Int)) = false := beq_false_of_ne (by omega)
                          have HRn := hid (HR.out.some Hs.out HO7.out Hq.out (-1))
                          clear HJ ewj
                          go_wp2_with fail
                          go_big_quiet (fail)
                          have HB6 := hid (HB5.out.next (Below.drewN' wr nq))
                          have HI6 := hid (HI5.out.next (Below.drewN' wr nq))
                          go_wp2_with fail
                          have HB7 := hid (HB6.out.setRow (j := k) (u := .int .i64 (j : Int)) HI6.out HX1.out HF1.out)
                          have HI7 := hid (HI6.out.set k (j : Int))
                          clear ewk
                          go_roundw
                          case rel => exact ⟨k + 1, M', sts', some ⟨gs, 0, none⟩, cgs, _, by omega, by go_num, rfl, hiM, Hp, HB7, HG, HI7, HRn⟩
                          case measure => simp [intOf]; omega
                        · have hneq := fun W => show (binOp .neq 92 (.agg #[.int .i64 q1, .int .i64 q2]) (.agg #[.int .i64 a7, .int .i64 b7])).run Try.prog W = .ok (.bool true) W by
                            rw [neq2_run]
                            have : ((q1 == a7) && (q2 == b7)) = false := by
                              rw [Bool.eq_false_iff]
                              intro h
                              simp only [Bool.and_eq_true, beq_iff_eq] at h
                              exact hqe (by rw [h.1, h.2])
                            rw [this]; rfl
                          have HJn : Hid (∀ j', j' < j + 1 → sts'[j']? ≠ some (a7, b7)) := fun j' h => by
                            rcases Nat.lt_or_ge j' j with h5 | h5
                            · exact HJ.out j' h5
                            · obtain rfl : j' = j := by omega
                              rw [Hq.out]
                              intro h6
                              cases h6
                              exact hqe rfl
                          clear HJ ewk c0 f0
                          go_wp2_with fail
                          go_big_quiet (fail)
                          have HB6 := hid (HB5.out.next (Below.drewN' wr nq))
                          have HI6 := hid (HI5.out.next (Below.drewN' wr nq))
                          have HX6 := hid (box_below HX5.out (Below.drewN' wr nq) (blk_lt HX5.out))
                          go_wp2_with fail
                          clear ewj
                          go_roundw
                          case rel => exact ⟨j + 1, by omega, by go_num, HJn, HB6, HI6, HX6⟩
                          case measure => simp [intOf]; omega
                      · obtain rfl : j = M' := by omega
                        have e1 : decide ((j : Int) < (j : Int)) = false := by simp
                        have e2 : decide (j < j) = false := by simp
                        have e3 : ((j : Int) == (j : Int)) = true := beq_self_eq_true _
                        have HNi : Hid ((a7, b7) ∉ sts') := fun hm => by
                          obtain ⟨j', hj'⟩ := List.getElem?_of_mem hm
                          exact HJ.out j' (by have := (List.getElem?_eq_some_iff.1 hj').1; omega) hj'
                        have HRn := hid ((HR.out.more [(a7, b7)]).some (j := j) Hs.out HO7.out (by rw [List.getElem?_append_right (by omega), hlens.1, Nat.sub_self]; rfl) (-1))
                        have HGn := hid (HG.out.more HQIn.out HNi.out)
                        have Hpn : Hid ((sts' ++ [(a7, b7)])[i]? = some (p1, p2)) := by show _ = _; rw [List.getElem?_append_left (by omega)]; exact Hp.out
                        have hj59 : j ≤ 60 := hM60
                        clear HJ ewj
                        go_wp2_with fail
                        go_big_quiet (fail)
                        have HB6 := hid (HB5.out.next (Below.drewN' wr nq))
                        have HI6 := hid (HI5.out.next (Below.drewN' wr nq))
                        obtain ⟨w6, hw6⟩ : ∃ w6, wr.drewN nq = w6 := ⟨_, rfl⟩
                        have y0' : w6.cell? ⟨bn, 0, none⟩ = some (.int .i64 a7) := hw6 ▸ y0
                        have y1' : w6.cell? ⟨bn, 1, none⟩ = some (.int .i64 b7) := hw6 ▸ y1
                        rw [hw6] at HB6 HI6 ⊢
                        clear hw6 c0 f0 y0 y1
                        go_wp2_with (at_builtin; refine wpList_append_own _ rfl (.tmp 116) (.tmp 118) 94 rfl w0.heap.size 92 i5 (.agg #[.int .i64 0, .int .i64 0]) 2 16 Try.underlying94 Ai.out Az0.out Az1.out Az2.out rfl (by decide) _ _ _ rfl (HB6.out.st.alloc _) ⟨w6.heap.size, 0, none⟩ 1 1 (pcells [(a7, b7)]) rfl (by rfl) (new_row (show _ = (pcells [(a7, b7)]).toArray from rfl)) (pcells_one _) (by unfold maxLen; omega) (by omega) (by have := HB6.out.bel.size; simp; omega) ?_; intro v8 w8 hown8 hg8 _; obtain ⟨D8, c8, rfl⟩ := own_form hown8; have HB8 := hid (HB6.out.addS hown8 hg8); have HI8 := hid ((HI6.out.next ((Below.refl _ _).alloc (Nat.le_refl _) _)).grown (HB6.out.st.alloc _) hg8 (by decide)); have c0 := HI8.out.cell (i := k) (v := -1) (by rw [List.getElem?_set_self (by rw [HR.out.1, HKs.out]; exact hlk)]); have f0 := HI8.out.frozen k; clear hown8 hg8)
                        have HB9 := hid (HB8.out.setRow (j := k) (u := .int .i64 (j : Int)) HI8.out HX1.out HF1.out)
                        have HI9 := hid (HI8.out.set k (j : Int))
                        clear ewk
                        go_roundw
                        case rel => exact ⟨k + 1, j + 1, _, D8, c8, _, by omega, by go_num, rfl, by omega, Hpn, HB9, HGn, HI9, HRn⟩
                        case measure => simp [intOf]; omega
              · obtain rfl : k = K := by omega
                have d1 : decide ((k : Int) < (k : Int)) = false := by simp
                have d2 : decide (k < k) = false := by simp
                have ewi : IntKind.i64.wrap ((i : Int) + 1) = (i : Int) + 1 := by rw [IntKind.wrap_i64]; omega
                have HGn := hid (HG.out.add Hp.out (by rw [HKs.out]; exact HR.out))
                go_wp2_with (at_builtin; refine wpList_append_own _ rfl (.tmp 124) (.tmp 126) 60 rfl w0.heap.size 40 i6 (.slice none 0 0) 1 24 Try.underlying60 Bi.out Bz0.out Bz1.out Bz2.out rfl (by decide) _ _ _ rfl (HB.out.tt.alloc _) ⟨wr.heap.size, 0, none⟩ 1 1 [.slice (some ⟨r0, 0, none⟩) k k] rfl (by rfl) (new_row (by rfl)) (by simp [Value.oneCell']) (by unfold maxLen; omega) (by omega) (by have := HB.out.bel.size; simp; omega) ?_; intro v8 w8 hown8 hg8 _; obtain ⟨D8, c8, rfl⟩ := own_form hown8; have HB8 := hid (HB.out.addT HI.out HX1.out HG.out.len hown8 hg8); clear hown8 hg8)
                clear ewi
                go_roundw
                case rel => exact ⟨i + 1, M', sts', Ds', cs', _, D8, c8, _, by omega, by go_num, rfl, rfl, HB8, HGn⟩
                case measure => simp [intOf]; omega
        · as_aux_lemma =>
            obtain rfl : i = M := by omega
            have d1 : decide ((i : Int) < (i : Int)) = false := by simp
            have d2 : decide (i < i) = false := by simp
            rename World => w1
            have hi1 : 1 ≤ i := by have := (List.getElem?_eq_some_iff.1 HG.out.zero).1; omega
            have HT1 := hid (fun W (hb : Below w1.heap.size w1 W) => HB.out.next hb)
            have HV1 := hid (fun W (hb : Below w1.heap.size w1 W) => HHW.out W (HB.out.next hb).bel)
            have HSG1 := hid (fun W (hb : Below w1.heap.size w1 W) => HSG.out W (HB.out.next hb).bel)
            have HBW := hid HB.out.bel.size
            obtain ⟨gs, hds⟩ : ∃ gs, Ds = some (⟨gs, 0, none⟩ : Addr) := by
              rcases HB.out.st.2 with ⟨_, h5⟩ | ⟨g, cap, cur, h5, _⟩
              · omega
              · cases h5; exact ⟨g, rfl⟩
            subst hds
            obtain ⟨gt, hdt⟩ : ∃ gt, Dt = some (⟨gt, 0, none⟩ : Addr) := by
              rcases HB.out.tt.2 with ⟨_, h5⟩ | ⟨g, cap, cur, h5, _⟩
              · omega
              · cases h5; exact ⟨g, rfl⟩
            subst hdt
            have HRow : Hid (∀ (a : Nat) (p : Int × Int), sts[a]? = some p → ∃ (r : Nat) (row : List Int), R[a]? = some row ∧ RowPart N l x gn sts p row K ∧ ∀ W, Below w1.heap.size w1 W → W.cell? ⟨gt, a, none⟩ = some (.slice (some ⟨r, 0, none⟩) K K) ∧ ∀ (k : Nat) (v : Int), row[k]? = some v → W.cell? ⟨r, k, none⟩ = some (.int .i64 v)) := by
              intro a p hp
              have ha : a < i := by have := (List.getElem?_eq_some_iff.1 hp).1; omega
              obtain ⟨row, hrow⟩ : ∃ row, R[a]? = some row := ⟨_, List.getElem?_eq_getElem (by rw [HG.out.len]; exact ha)⟩
              obtain ⟨r, hr⟩ : ∃ r, rs[a]? = some r := ⟨_, List.getElem?_eq_getElem (by omega)⟩
              obtain ⟨p', hp', hpart⟩ := HG.out.rows a row hrow
              rw [hp] at hp'
              cases hp'
              rw [HKs.out] at hpart
              refine ⟨r, row, hrow, hpart, fun W hb => ?_⟩
              have hc := HT1.out W hb
              refine ⟨?_, fun k v hv => (hc.rows a r row hr hrow).cell hv⟩
              have := hc.tt.cells (g := gt) rfl a (.slice (some ⟨r, 0, none⟩) K K) (by rw [List.getElem?_map, hr]; rfl)
              rwa [Go.WideShapes.add_plain, Nat.zero_add] at this
            have HPc := hid (fun (W : World) (hb : Below w1.heap.size w1 W) (a : Nat) (p : Int × Int) (hp : sts[a]? = some p) => own_pcell (HT1.out W hb).st hp)
            have HZ := hid HG.out.zero
            have hslen := hlens.1
            have hmk2 : ∀ W : World, (Instr.makeSlice 40 (.int .i64 (i : Int)) (.int .i64 (i : Int))).run Try.prog W = .ok (.slice (some ⟨W.heap.size, 0, none⟩) i i) (W.alloc (.cells (icells (List.replicate i 0)).toArray 3)) := fun W => by
              obtain ⟨i7, hi7, hy0, hy1, hy2⟩ := info_parts (show (Try.prog.info? 3).map (fun i => (i.zero, i.size, i.bytes)) = some (some (.int .i64 0), 1, 8) by kernel_rfl)
              have := run_makeSlice (P := Try.prog) (w := W) 40 3 i7 (.int .i64 0) Try.underlying40 hi7 hy0 .i64 .i64 (i : Int) (i : Int) (by omega) (by omega) (by rw [hy1]; omega) (by rw [hy2]; omega) (by omega)
              rw [hy1, Int.toNat_natCast, Nat.mul_one] at this
              rw [← made_icells]
              exact this
            clear hmk hlt hi HT HAl HSt HSeg HIn HLe HO0 HH0 HC0 HRT HOP HHW HSG HB
            go_wp2_with fail
            clear hmk2 d1 d2
            have hbA : Below w1.heap.size w1 (w1.alloc (.cells (icells (List.replicate i 0)).toArray 3)) := (Below.refl _ _).alloc (Nat.le_refl _) _
            have HI0 : Hid (IBlk (w1.alloc (.cells (icells (List.replicate i 0)).toArray 3)) w1.heap.size (List.replicate i 0)) := heap_alloc_new w1 _
            have HBA := hid hbA
            obtain ⟨L, hL⟩ : ∃ L, w1.heap.size = L := ⟨_, rfl⟩
            have HLX : Hid (w1.heap.size ≤ L) := Nat.le_of_eq hL
            have HZ0 : Hid (LeftZ N l x gn 0 sts (List.replicate i 0)) := ⟨by rw [List.length_replicate, hslen], fun j q _ h => absurd h (Nat.not_lt_zero j)⟩
            rw [hL] at HI0
            simp only [hL]
            clear hL hbA
            go_loopw [24] (fun iv wr => ∃ (j : Nat) (Lf : List Int), j ≤ i ∧ iv = .int .i64 j ∧ Hid (Below w1.heap.size w1 wr) ∧ Hid (IBlk wr L Lf) ∧ Hid (LeftZ N l x gn j sts Lf)) (fun iv _ => i - (intOf iv).toNat)
            case atStart => exact ⟨0, _, Nat.zero_le _, rfl, HBA, HI0, HZ0⟩
            case round =>
              clear HBA HI0 HZ0
              obtain ⟨j, Lf, hj, rfl, HB, HI, HZj⟩ := hrel
              by_cases hlt : j < i
              · have e1 : decide ((j : Int) < (i : Int)) = true := decide_eq_true (by omega)
                have e2 : decide (j < i) = true := decide_eq_true hlt
                have hji : (j : Int) < (i : Int) := by omega
                obtain ⟨⟨p1, p2⟩, hp⟩ : ∃ p, sts[j]? = some p := ⟨_, List.getElem?_eq_getElem (by omega)⟩
                obtain ⟨v, hv⟩ : ∃ v, Lf[j]? = some v := ⟨_, List.getElem?_eq_getElem (by rw [HZj.out.1]; omega)⟩
                have Hp := hid hp
                have c0 := HI.out.cell hv
                have f0 := HI.out.frozen j
                have ewj : IntKind.i64.wrap ((j : Int) + 1) = (j : Int) + 1 := by rw [IntKind.wrap_i64]; omega
                have HB2 := hid (HB.out.setCell (p := ⟨L, j, none⟩) HLX.out (.int .i64 (-1)))
                have HI2 := hid (HI.out.set j (-1))
                have HZ2 := hid (HZj.out.set (-1))
                have HLl : Hid (j < Lf.length) := by show _ < _; rw [HZj.out.1]; omega
                clear hp hv
                go_upto_region 31 with fail
                obtain ⟨w2, hw2⟩ : ∃ w2, wr.setCell ⟨L, j, none⟩ (.int .i64 (-1)) = w2 := ⟨_, rfl⟩
                rw [hw2] at HB2 HI2 ⊢
                clear hw2 c0 f0 HB HI
                obtain ⟨bq, hbq⟩ : ∃ bq, ((p1 == g1) && (p2 == g2)) = bq := ⟨_, rfl⟩
                have heql := fun W => hbq ▸ eql2_run W p1 p2 g1 g2
                have HBq : Hid (bq = decide ((p1, p2) = goalS x)) := by
                  show _ = _
                  rw [HG12.out, ← hbq, Bool.eq_iff_iff, decide_eq_true_iff, Bool.and_eq_true, beq_iff_eq, beq_iff_eq, Prod.mk.injEq]
                clear hbq
                go_cut [146] (fun u w4 => u = .bool bq ∧ Below w1.heap.size w1 w4 ∧ IBlk w4 L (Lf.set j (-1)))
                case first =>
                  have HBd := hid (HB2.out.drew)
                  have HId := hid (HI2.out.next ((Below.refl _ _).drew))
                  obtain ⟨x0, x1⟩ := HPc.out _ HBd.out j _ Hp.out
                  obtain ⟨v0, v1, v2, v3, v4, v5, v6⟩ := box7_cells (HV1.out _ HBd.out).2
                  dsimp only at x0 x1
                  go_wp2_with fail
                  go_region_law (go_simp; go_at_call 38; (with_reducible refine (HGo.out _ (HV1.out _ HBd.out)).mono ?_); rintro e' w7 ⟨rfl, hb7⟩; have HB7 := hid (HBd.out.trans (hb7.mono HBd.out.size)); have HI7 := hid (HId.out.next hb7); obtain ⟨y0, y1⟩ := HPc.out _ HB7.out j _ Hp.out; dsimp only at y0 y1; clear hb7)
                  all_goals
                    go_wp2_with fail
                    go_meet
                    exact ⟨rfl, HB7.out, HI7.out⟩
                case rest =>
                  obtain ⟨rfl, hB4, hI4⟩ := hcut
                  have HB4 := hid hB4
                  have HI4 := hid hI4
                  clear hB4 hI4 HB2 HI2 heql
                  rename World => w4
                  have c0 := HI4.out.cell (i := j) (v := -1) (by rw [List.getElem?_set_self HLl.out])
                  have f0 := HI4.out.frozen j
                  cases bq with
                  | false =>
                    have HZn := hid (HZ2.out.ok Hp.out (v := -1) (by rw [List.getElem?_set_self HLl.out]) (by have := HBq.out; rw [if_neg (of_decide_eq_false this.symm)]))
                    clear c0 f0
                    go_wp2_with fail
                    clear ewj
                    go_roundw
                    case rel => exact ⟨j + 1, _, by omega, by go_num, HB4, HI4, HZn⟩
                    case measure => simp [intOf]; omega
                  | true =>
                    have HZn := hid ((HZ2.out.set 0).ok Hp.out (v := 0) (by rw [List.getElem?_set_self (by rw [List.length_set]; exact HLl.out)]) (by have := HBq.out; rw [if_pos (of_decide_eq_true this.symm)]))
                    have HB5 := hid (HB4.out.setCell (p := ⟨L, j, none⟩) HLX.out (.int .i64 0))
                    have HI5 := hid (HI4.out.set j 0)
                    go_wp2_with fail
                    clear ewj
                    go_roundw
                    case rel => exact ⟨j + 1, _, by omega, by go_num, HB5, HI5, HZn⟩
                    case measure => simp [intOf]; omega
              · as_aux_lemma =>
                  obtain rfl : j = i := by omega
                  have e1 : decide ((j : Int) < (j : Int)) = false := by simp
                  have e2 : decide (j < j) = false := by simp
                  have HN0 := hid (HZj.out.all hslen)
                  clear HZj
                  go_wp2_with fail
                  clear e1 e2
                  go_loopw [25] (fun nv wr => ∃ (m : Nat) (Lf : List Int), m ≤ dd ∧ nv = .int .i64 ((m : Int) + 1) ∧ Hid (Below w1.heap.size w1 wr) ∧ Hid (IBlk wr L Lf) ∧ Hid (LeftN N l x gn m sts Lf)) (fun nv _ => dd + 2 - (intOf nv).toNat)
                  case atStart => exact ⟨0, Lf, Nat.zero_le _, rfl, HB, HI, HN0⟩
                  case round =>
                    clear HB HI HN0
                    obtain ⟨m, Lf, hm, rfl, HB, HI, HN⟩ := hrel
                    by_cases hmd : m < dd
                    · have e1 : decide ((m : Int) + 1 ≤ (dd : Int)) = true := decide_eq_true (by omega)
                      have e2 : decide (m + 1 ≤ dd) = true := decide_eq_true hmd
                      have e3 : decide (m < dd) = true := decide_eq_true hmd
                      have HO0 := hid HN.out.ok
                      clear HN
                      go_wp2_with fail
                      clear e1 e2 e3
                      go_loopw [26] (fun iv wr => ∃ (a : Nat) (Lf : List Int), a ≤ j ∧ iv = .int .i64 a ∧ Hid (Below w1.heap.size w1 wr) ∧ Hid (IBlk wr L Lf) ∧ Hid (LeftOk N l x gn m a sts Lf)) (fun iv _ => j - (intOf iv).toNat)
                      case atStart => exact ⟨0, Lf, Nat.zero_le _, rfl, HB, HI, HO0⟩
                      case round =>
                        clear HB HI HO0
                        obtain ⟨a, Lf, ha, rfl, HB, HI, HO⟩ := hrel
                        by_cases haj : a < j
                        · have e1 : decide ((a : Int) < (j : Int)) = true := decide_eq_true (by omega)
                          have e2 : decide (a < j) = true := decide_eq_true haj
                          have haji : (a : Int) < (j : Int) := by omega
                          have ewa : IntKind.i64.wrap ((a : Int) + 1) = (a : Int) + 1 := by rw [IntKind.wrap_i64]; omega
                          obtain ⟨p, hp⟩ : ∃ p, sts[a]? = some p := ⟨_, List.getElem?_eq_getElem (by omega)⟩
                          have Hp := hid hp
                          obtain ⟨r, row, hrow, hpart, hcells⟩ := HRow.out a p hp
                          have HPart := hid hpart
                          have HCells := hid hcells
                          obtain ⟨v, hv⟩ : ∃ v, leastV N l x gn m p = v := ⟨_, rfl⟩
                          have HVv := hid hv
                          have hvr := leastV_rng (N := N) (l := l) (x := x) (gn := gn) (d := m) (p := p)
                          rw [hv] at hvr
                          have HLa : Hid (Lf[a]? = some (if false = true then ((m : Int) + 1) else v)) := by
                            show _ = _
                            have h5 := HO.out.2 a p hp
                            rw [if_neg (Nat.lt_irrefl a), hv] at h5
                            exact h5
                          have HM0 := hid HO.out.mid
                          clear hp hrow hpart hcells hv HO
                          go_wp2_with fail
                          clear e1 e2
                          go_loopw [27] (fun kv wr => ∃ (k : Nat) (Lf : List Int) (fo : Bool), k ≤ K ∧ kv = .int .i64 k ∧ Hid (Below w1.heap.size w1 wr) ∧ Hid (IBlk wr L Lf) ∧ Hid (LeftMid N l x gn m a sts Lf) ∧ Hid (Lf[a]? = some (if fo = true then ((m : Int) + 1) else v)) ∧ (fo = true → Hid (leastV N l x gn (m + 1) p = ((m + 1 : Nat) : Int))) ∧ (fo = false → 0 ≤ v ∨ Hid (∀ (k' : Nat) (s' : Sg), k' < k → (segsS N l)[k']? = some s' → qualS N l x gn m p s' = false))) (fun kv _ => K - (intOf kv).toNat)
                          case atStart => exact ⟨0, Lf, false, Nat.zero_le _, rfl, HB, HI, HM0, HLa, fun h => (by cases h), fun _ => .inr (fun k' s' h => absurd h (Nat.not_lt_zero k'))⟩
                          case round =>
                            clear HB HI HM0 HLa
                            obtain ⟨k, Lf, fo, hk, rfl, HB, HI, HM, HLa, hf1, hf0⟩ := hrel
                            have hLlen : a < Lf.length := by rw [HM.out.1]; omega
                            have c0 := HI.out.cell HLa.out
                            have f0 := HI.out.frozen a
                            by_cases hend : fo = true ∨ 0 ≤ v
                            · -- nothing more is looked for
                              obtain ⟨u, hu⟩ : ∃ u, (if fo = true then ((m : Int) + 1) else v) = u := ⟨_, rfl⟩
                              have hu0 : 0 ≤ u := by
                                rw [← hu]
                                rcases hend with h | h
                                · rw [if_pos h]; omega
                                · split <;> omega
                              have HOk : Hid (LeftOk N l x gn m (a + 1) sts Lf) := by
                                refine HM.out.ok Hp.out ?_
                                rw [HLa.out]
                                cases fo with
                                | true => rw [if_pos rfl, (hf1 rfl).out]; congr 1
                                | false =>
                                  rw [if_neg (by decide)]
                                  have h0 : 0 ≤ v := hend.resolve_left (by decide)
                                  rw [leastV_keep (by rw [HVv.out]; exact h0), HVv.out]
                              rw [hu] at c0
                              have e4 : decide (u < 0) = false := decide_eq_false (by omega)
                              clear hf1 hf0 hu hend
                              by_cases hkK : k < K
                              · have e1 : decide ((k : Int) < (K : Int)) = true := decide_eq_true (by omega)
                                have e2 : decide (k < K) = true := decide_eq_true hkK
                                go_wp2_with fail
                                clear ewa
                                go_roundw
                                case rel => exact ⟨a + 1, Lf, by omega, by go_num, HB, HI, HOk⟩
                                case measure => simp [intOf]; omega
                              · have e1 : decide ((k : Int) < (K : Int)) = false := decide_eq_false (by omega)
                                have e2 : decide (k < K) = false := decide_eq_false hkK
                                go_wp2_with fail
                                clear ewa
                                go_roundw
                                case rel => exact ⟨a + 1, Lf, by omega, by go_num, HB, HI, HOk⟩
                                case measure => simp [intOf]; omega
                            · have hfo : fo = false := by
                                cases fo with
                                | true => exact absurd (.inl rfl) hend
                                | false => rfl
                              subst hfo
                              have hv0 : v < 0 := by
                                rcases Int.lt_or_le v 0 with h | h
                                · exact h
                                · exact absurd (.inr h) hend
                              have HQ : Hid (∀ (k' : Nat) (s' : Sg), k' < k → (segsS N l)[k']? = some s' → qualS N l x gn m p s' = false) := (hf0 rfl).resolve_left (by omega)
                              have hvm : v = -1 := by omega
                              rw [if_neg (by decide)] at c0
                              have HLv : Hid (Lf[a]? = some v) := by have := HLa.out; rw [if_neg (by decide)] at this; exact this
                              have e4 : decide (v < 0) = true := decide_eq_true hv0
                              clear hf1 hf0 hend HLa hvm
                              by_cases hkK : k < K
                              · have e1 : decide ((k : Int) < (K : Int)) = true := decide_eq_true (by omega)
                                have e2 : decide (k < K) = true := decide_eq_true hkK
                                have hki : (k : Int) < (K : Int) := by omega
                                have ewk : IntKind.i64.wrap ((k : Int) + 1) = (k : Int) + 1 := by rw [IntKind.wrap_i64]; omega
                                obtain ⟨s, hs⟩ : ∃ s, (segsS N l)[k]? = some s := ⟨_, List.getElem?_eq_getElem (by rw [HKs.out]; exact hkK)⟩
                                obtain ⟨t0, t1'⟩ := HCells.out wr HB.out
                                rcases qual_row HM.out Hp.out (by rw [HVv.out]; exact HLv.out) hs (HPart.out.2 k hkK) with ⟨h5, h6⟩ | ⟨j2, lv, h5, h6, h7, h8⟩
                                · have tk := t1' k _ h5
                                  have HQn : Hid (∀ (k' : Nat) (s' : Sg), k' < k + 1 → (segsS N l)[k']? = some s' → qualS N l x gn m p s' = false) := fun k' s' h h9 => by
                                    rcases Nat.lt_or_ge k' k with h10 | h10
                                    · exact HQ.out k' s' h10 h9
                                    · obtain rfl : k' = k := by omega
                                      rw [hs] at h9; cases h9; exact h6
                                  have HLa2 : Hid (Lf[a]? = some (if false = true then ((m : Int) + 1) else v)) := by show _ = _; rw [if_neg (by decide)]; exact HLv.out
                                  clear h5 h6 hs t1' HQ
                                  go_wp2_with fail
                                  clear ewk
                                  go_roundw
                                  case rel => exact ⟨k + 1, Lf, false, by omega, by go_num, HB, HI, HM, HLa2, fun h => (by cases h), fun _ => .inr HQn⟩
                                  case measure => simp [intOf]; omega
                                · have tk := t1' k _ h5
                                  have c1 := HI.out.cell h7
                                  have hj2 : (j2 : Int) < (j : Int) := by omega
                                  have e6 : IntKind.i64.wrap ((m : Int) + 1 - 1) = (m : Int) := by rw [IntKind.wrap_i64]; omega
                                  have e7 : IntKind.i64.wrap (m : Int) = (m : Int) := by rw [IntKind.wrap_i64]; omega
                                  have e8 : decide ((0 : Int) ≤ (j2 : Int)) = true := decide_eq_true (by omega)
                                  cases hq : (lv == (m : Int)) with
                                  | true =>
                                    have HFo : Hid (leastV N l x gn (m + 1) p = ((m + 1 : Nat) : Int)) := left_found (by rw [HVv.out]; exact hv0) hs (by rw [h8, hq])
                                    have HB5 := hid (HB.out.setCell (p := ⟨L, a, none⟩) HLX.out (.int .i64 ((m : Int) + 1)))
                                    have HI5 := hid (HI.out.set a ((m : Int) + 1))
                                    have HM5 := hid (HM.out.set ((m : Int) + 1))
                                    have HLa2 : Hid ((Lf.set a ((m : Int) + 1))[a]? = some (if true = true then ((m : Int) + 1) else v)) := by show _ = _; rw [if_pos rfl, List.getElem?_set_self hLlen]
                                    clear h5 h6 h7 h8 hs t1' HQ HLv
                                    go_wp2_with fail
                                    clear ewk e6 e7
                                    go_roundw
                                    case rel => exact ⟨k + 1, _, true, by omega, by go_num, HB5, HI5, HM5, HLa2, fun _ => HFo, fun h => (by cases h)⟩
                                    case measure => simp [intOf]; omega
                                  | false =>
                                    have HQn : Hid (∀ (k' : Nat) (s' : Sg), k' < k + 1 → (segsS N l)[k']? = some s' → qualS N l x gn m p s' = false) := fun k' s' h h9 => by
                                      rcases Nat.lt_or_ge k' k with h10 | h10
                                      · exact HQ.out k' s' h10 h9
                                      · obtain rfl : k' = k := by omega
                                        rw [hs] at h9; cases h9; rw [h8, hq]
                                    have HLa2 : Hid (Lf[a]? = some (if false = true then ((m : Int) + 1) else v)) := by show _ = _; rw [if_neg (by decide)]; exact HLv.out
                                    clear h5 h6 h7 h8 hs t1' HQ HLv
                                    go_wp2_with fail
                                    clear ewk e6 e7
                                    go_roundw
                                    case rel => exact ⟨k + 1, Lf, false, by omega, by go_num, HB, HI, HM, HLa2, fun h => (by cases h), fun _ => .inr HQn⟩
                                    case measure => simp [intOf]; omega
                              · obtain rfl : k = K := by omega
                                have e1 : decide ((k : Int) < (k : Int)) = false := by simp
                                have e2 : decide (k < k) = false := by simp
                                have HOk : Hid (LeftOk N l x gn m (a + 1) sts Lf) := by
                                  refine HM.out.ok Hp.out ?_
                                  rw [HLv.out, left_lost (by rw [HVv.out]; exact hv0) (fun k' s' h9 => HQ.out k' s' (by have := (List.getElem?_eq_some_iff.1 h9).1; rw [HKs.out] at this; exact this) h9), HVv.out]
                                clear HQ
                                go_wp2_with fail
                                clear ewa
                                go_roundw
                                case rel => exact ⟨a + 1, Lf, by omega, by go_num, HB, HI, HOk⟩
                                case measure => simp [intOf]; omega
                        · obtain rfl : a = j := by omega
                          have e1 : decide ((a : Int) < (a : Int)) = false := by simp
                          have e2 : decide (a < a) = false := by simp
                          have ewm : IntKind.i64.wrap ((m : Int) + 1 + 1) = (m : Int) + 1 + 1 := by rw [IntKind.wrap_i64]; omega
                          have HNn := hid (HO.out.next hslen)
                          go_wp2_with fail
                          clear ewm
                          go_roundw
                          case rel => exact ⟨m + 1, Lf, by omega, by go_num, HB, HI, HNn⟩
                          case measure => simp [intOf]; omega
                    · as_aux_lemma =>
                        obtain rfl : m = dd := by omega
                        have e1 : decide ((m : Int) + 1 ≤ (m : Int)) = false := decide_eq_false (by omega)
                        have e2 : decide (m + 1 ≤ m) = false := decide_eq_false (by omega)
                        have e3 : decide (m < m) = false := decide_eq_false (by omega)
                        have HNd := HN
                        have HL0 := hid (HNd.out.2 0 _ HZ.out)
                        obtain ⟨v0, hv0⟩ : ∃ v0, leastV N l x gn m (startS x) = v0 := ⟨_, rfl⟩
                        rw [hv0] at HL0
                        have HV0 := hid hv0
                        have c0 := HI.out.cell HL0.out
                        have hj0 : (0 : Int) < (j : Int) := by omega
                        have hj0n : 0 < j := by omega
                        clear hv0 HN
                        by_cases hneg : v0 < 0
                        · have e4 : decide (v0 < 0) = true := decide_eq_true hneg
                          have HVe : Hid (compS N l x dn d = ([], 9)) := by
                            show _ = _
                            rw [HVc.out, leastV_neg.1 (by rw [HV0.out]; exact hneg)]
                            rfl
                          have hBw := HV1.out w1 (Below.refl _ _)
                          go_wp2_with fail
                          go_ret2
                          exact ⟨none, 0, by rw [HVe.out]; rfl, by rw [HVe.out]; exact ⟨rfl, fun h => absurd h (Nat.lt_irrefl 0)⟩, hBw.1.trans (HB.out.mono hBw.1.size)⟩
                        · have e4 : decide (v0 < 0) = false := decide_eq_false hneg
                          obtain ⟨m0, rfl⟩ := Int.eq_ofNat_of_zero_le (show 0 ≤ v0 by omega)
                          have HVe : Hid (compS N l x dn d = (pathS N l x gn m0 (startS x), 0)) := by
                            show _ = _
                            rw [HVc.out, leastV_eq.1 HV0.out]
                            rfl
                          have hm0 : m0 ≤ 10 := by have := leastV_rng (N := N) (l := l) (x := x) (gn := gn) (d := m) (p := startS x); rw [HV0.out] at this; omega
                          have HBw := hid (HV1.out w1 (Below.refl _ _)).1
                          go_wp2_with fail
                          clear e1 e2 e3 e4 c0
                          go_loopw [28, 29] (fun ov iv wr => ∃ (a : Nat) (p : Int × Int) (b : Nat) (O : List Sg) (no : Nat) (D : Option Addr) (c : Nat), a < j ∧ iv = .int .i64 a ∧ ov = .slice D no c ∧ Hid (sts[a]? = some p) ∧ Hid (leastV N l x gn m p = (b : Int)) ∧ Hid (O ++ pathS N l x gn b p = pathS N l x gn m0 (startS x)) ∧ Hid (O.length = no) ∧ no + b ≤ 10 ∧ Hid (Below w1.heap.size w1 wr) ∧ Hid (IBlk wr L Lf) ∧ Hid (wr.ownsRow w1.heap.size 46 2 (.slice D no c) no (scells2 O))) (fun _ iv w => match w.cell? ⟨L, (intOf iv).toNat, none⟩ with | some u => (intOf u).toNat | none => 0)
                          case atStart => exact ⟨0, _, m0, [], 0, none, 0, hj0n, rfl, rfl, HZ, HV0, rfl, rfl, by omega, HB, HI, World.ownsRow_nil _ _ _ _⟩
                          case round =>
                            clear HB HI HL0 HV0
                            obtain ⟨a, p, b, O, no, D, c, ha, rfl, rfl, Hp, HVp, HPa, HOl, hnb, HB, HI, HOw⟩ := hrel
                            have HLa : Hid (Lf[a]? = some (b : Int)) := by show _ = _; rw [HNd.out.2 a p Hp.out, HVp.out]
                            have c0 := HI.out.cell HLa.out
                            have haji : (a : Int) < (j : Int) := by omega
                            cases b with
                            | zero =>
                              have HPe : Hid (pathS N l x gn m0 (startS x) = O) := by show _ = _; rw [← HPa.out]; simp [pathS]
                              rw [show (((0 : Nat)) : Int) = 0 from rfl] at c0
                              go_wp2_with fail
                              go_ret2
                              obtain ⟨A9, c9, he9, -, hr9⟩ := own_segs HOw.out HOl.out
                              cases he9
                              exact ⟨D, c, by rw [HVe.out, HPe.out, HOl.out]; rfl, by rw [HVe.out, HPe.out, HOl.out]; exact hr9, HBw.out.trans (HB.out.mono HBw.out.size)⟩
                            | succ b =>
                              have e5 : decide ((0 : Int) < ((b + 1 : Nat) : Int)) = true := decide_eq_true (by omega)
                              have e6 : decide ((0 : Int) < (b : Int) + 1) = true := decide_eq_true (by omega)
                              obtain ⟨ks, s, q, hks, hsq, hql, hpath, hfirst⟩ := path_step HVp.out
                              obtain ⟨r, row, hrow, hpart, hcells⟩ := HRow.out a p Hp.out
                              have hksK : ks < K := by have := (List.getElem?_eq_some_iff.1 hks).1; rw [HKs.out] at this; exact this
                              have HKS := hid hks
                              have HSQ := hid hsq
                              have HQL := hid hql
                              have HPath := hid hpath
                              have HFirst := hid hfirst
                              have HPart := hid hpart
                              have HCells := hid hcells
                              have c0b : wr.cell? ⟨L, a, none⟩ = some (.int .i64 ((b : Int) + 1)) := by rw [c0]; rfl
                              clear hks hsq hql hpath hfirst hrow hpart hcells c0
                              go_wp2_with fail
                              clear e5 e6
                              go_loopw [30] (fun kv w5 => ∃ k : Nat, k ≤ ks ∧ kv = .int .i64 k ∧ Hid (Below w1.heap.size w1 w5) ∧ Hid (IBlk w5 L Lf) ∧ Hid (w5.ownsRow w1.heap.size 46 2 (.slice D no c) no (scells2 O)) ∧ Hid (w5.cell? ⟨L, a, none⟩ = some (.int .i64 ((b : Int) + 1)))) (fun kv _ => ks - (intOf kv).toNat)
                              case atStart => exact ⟨0, Nat.zero_le _, rfl, HB, HI, HOw, c0b⟩
                              case round =>
                                have Hc0b := hid c0b
                                clear HB HI HOw c0b
                                obtain ⟨k, hk, rfl, HB, HI, HOw, HC0⟩ := hrel
                                have c0 := HC0.out
                                obtain ⟨t0, t1'⟩ := HCells.out wr HB.out
                                have hkK : (k : Int) < (K : Int) := by omega
                                have ewk : IntKind.i64.wrap ((k : Int) + 1) = (k : Int) + 1 := by rw [IntKind.wrap_i64]; omega
                                have ewb : IntKind.i64.wrap ((b : Int) + 1 - 1) = (b : Int) := by rw [IntKind.wrap_i64]; omega
                                have ewb2 : IntKind.i64.wrap (b : Int) = (b : Int) := by rw [IntKind.wrap_i64]; omega
                                obtain ⟨s', hs'⟩ : ∃ s', (segsS N l)[k]? = some s' := ⟨_, List.getElem?_eq_getElem (by rw [HKs.out]; omega)⟩
                                rcases step_row (m := b) HNd.out hs' (HPart.out.2 k (by omega)) with ⟨h5, h6⟩ | ⟨j2, lv, q2, h5, h6, h7, h8, h9, h10⟩
                                · have hlt : k < ks := by
                                    rcases Nat.lt_or_ge k ks with h | h
                                    · exact h
                                    · obtain rfl : k = ks := by omega
                                      have := HKS.out
                                      rw [hs'] at this
                                      cases this
                                      rw [HSQ.out] at h6
                                      have h11 : decide (leastV N l x gn m q = (b : Int)) = false := h6
                                      rw [HQL.out] at h11
                                      simp at h11
                                  have tk := t1' k _ h5
                                  clear h5 h6 hs' t1'
                                  go_wp2_with fail
                                  go_big_quiet (fail)
                                  have HB6 := hid (HB.out.trans ((Below.drewN' wr nq).mono HB.out.size))
                                  have HI6 := hid (HI.out.next (Below.drewN' wr nq))
                                  have HO6 := hid (own_below HOw.out (Below.drewN' wr nq))
                                  have HC6 : Hid ((wr.drewN nq).cell? ⟨L, a, none⟩ = some (.int .i64 ((b : Int) + 1))) := HC0.out
                                  go_wp2_with fail
                                  clear ewk ewb ewb2
                                  go_roundw
                                  case rel => exact ⟨k + 1, by omega, by go_num, HB6, HI6, HO6, HC6⟩
                                  case measure => simp [intOf]; omega
                                · have tk := t1' k _ h5
                                  have c1 := HI.out.cell h7
                                  have hj2 : (j2 : Int) < (j : Int) := by omega
                                  have e8 : decide ((j2 : Int) < 0) = false := decide_eq_false (by omega)
                                  by_cases hlt : k < ks
                                  · have hq : (lv == (b : Int)) = false := by rw [← h10]; exact HFirst.out k s' hlt hs'
                                    have hqn : (lv != (b : Int)) = true := by unfold bne; rw [hq]; rfl
                                    clear h5 h6 h7 h8 h9 h10 hs' t1'
                                    go_wp2_with fail
                                    go_big_quiet (fail)
                                    have HB6 := hid (HB.out.trans ((Below.drewN' wr nq).mono HB.out.size))
                                    have HI6 := hid (HI.out.next (Below.drewN' wr nq))
                                    have HO6 := hid (own_below HOw.out (Below.drewN' wr nq))
                                    have HC6 : Hid ((wr.drewN nq).cell? ⟨L, a, none⟩ = some (.int .i64 ((b : Int) + 1))) := HC0.out
                                    go_wp2_with fail
                                    clear ewk ewb ewb2
                                    go_roundw
                                    case rel => exact ⟨k + 1, by omega, by go_num, HB6, HI6, HO6, HC6⟩
                                    case measure => simp [intOf]; omega
                                  · obtain rfl : k = ks := by omega
                                    have hss : s' = s := by have := HKS.out; rw [hs'] at this; cases this; rfl
                                    subst hss
                                    have hqq : q2 = q := by have := HSQ.out; rw [h9] at this; cases this; rfl
                                    subst hqq
                                    have hq : (lv == (b : Int)) = true := by
                                      rw [← h10, HSQ.out]
                                      show decide _ = true
                                      rw [HQL.out]
                                      simp
                                    have hlv : lv = (b : Int) := by simpa using hq
                                    subst hlv
                                    have hqn : ((b : Int) != (b : Int)) = false := by simp
                                    have HQ2 := hid h8
                                    have HLj := hid h7
                                    have HRk := hid h5
                                    obtain ⟨z0, z1⟩ := own_scell (HSG1.out wr HB.out) hs'
                                    have HPn : Hid ((O ++ [s']) ++ pathS N l x gn b q2 = pathS N l x gn m0 (startS x)) := by show _ = _; rw [← HPa.out, HPath.out]; simp
                                    clear h5 h7 h8 h9 h10 hq t1'
                                    go_wp2_with fail
                                    go_big_quiet (fail)
                                    have HB6 := hid (HB.out.trans ((Below.drewN' wr nq).mono HB.out.size))
                                    have HI6 := hid (HI.out.next (Below.drewN' wr nq))
                                    have HO6 := hid (own_below HOw.out (Below.drewN' wr nq))
                                    obtain ⟨w6, hw6⟩ : ∃ w6, wr.drewN nq = w6 := ⟨_, rfl⟩
                                    have z0' : w6.cell? ⟨gg, k * 2, none⟩ = some (.bool s'.edge) := hw6 ▸ z0
                                    have z1' : w6.cell? ⟨gg, k * 2 + 1, none⟩ = some (.int .i64 s'.too) := hw6 ▸ z1
                                    rw [hw6] at HB6 HI6 HO6 ⊢
                                    clear hw6 z0 z1 c0 c1 tk t0
                                    go_wp2_with (at_builtin; refine wpList_append_own _ rfl (.tmp 238) (.tmp 243) 31 rfl w1.heap.size 46 i8 (.agg #[.bool false, .int .i64 0]) 2 16 Try.underlying31 Ci.out Cz0.out Cz1.out Cz2.out rfl (by decide) _ _ _ rfl (HO6.out.alloc _) ⟨w6.heap.size, 0, none⟩ 1 1 (scells2 [s']) rfl rfl (new_row (show _ = (scells2 [s']).toArray from rfl)) (scells2_one _) (by unfold maxLen; omega) (by omega) (by have := HB6.out.size; simp; omega) ?_; intro v8 w8 hown8 hg8 _; obtain ⟨D8, c8, rfl⟩ := own_form hown8; have hb8 := Below.grown (HB6.out.alloc HB6.out.size _) hg8 (by have := HB6.out.size; simp; omega) (fun q hq => (HO6.out.lt q hq).1); have HB8 := hid hb8; have HI8 := hid ((HI6.out.next ((Below.refl _ _).alloc (Nat.le_refl _) _)).grown (HO6.out.alloc _) hg8 (by decide)); obtain ⟨t0, t1'⟩ := HCells.out _ hb8; have tk := t1' k _ HRk.out; have HO8 := hid (show w8.ownsRow w1.heap.size 46 2 (.slice D8 (no + 1) c8) (no + 1) (scells2 (O ++ [s'])) by rw [scells2_app]; exact hown8); clear hg8 hb8 hown8 t1')
                                    have hOl : Hid ((O ++ [s']).length = no + 1) := by show _ = _; rw [List.length_append, HOl.out]; rfl
                                    clear ewk ewb ewb2
                                    go_roundw
                                    case rel => exact ⟨j2, q2, b, _, no + 1, D8, c8, by omega, by go_num, rfl, HQ2, HQL, HPn, hOl, by omega, HB8, HI8, HO8⟩
                                    case measure =>
                                      have h1 := Hc0b.out
                                      have h2 := HI8.out.cell HLj.out
                                      simp [intOf, h1, h2]
                                      try omega
theorem refComp_any (q N : Nat) (A' : Option Addr) (n c' : Nat) (vD : Value) (vs : List Value) (l : List Lnk) (x : Wnt) (y : WSl) (Ad : Option Addr) (n' cd : Nat) (dn : List Bool) (d : Int) (w : World) (ht : RAt q A' n c' vD vs N l w) (hok : GOk N l) (hN10 : N ≤ 10) (hn16 : n ≤ 16) (hw : WArg w x y) (hd : DArg w Ad n' cd dn) (h1 : y.nv ≤ 100) (h2 : y.nn ≤ 100) (h3 : y.nl ≤ 100) (h4 : y.nc ≤ 100) :
    Calls Try.prog 21 #[.pointer (some ⟨q, 0, none⟩), .agg #[.int .i64 x.frm, .int .i64 x.too, .int .i64 x.bnd, .slice y.av y.nv y.cv, .slice y.an y.nn y.cn, .slice y.al y.nl y.cl, .slice y.ac y.nc y.cc], .slice Ad n' cd, .int .i64 d] w (CompAns N l x dn d w) := by
  by_cases hc : (costS N l x dn).2 = 0
  · exact comp_in q N A' n c' vD vs l x y Ad n' cd dn d w ht hok hN10 hn16 hw hd h1 h2 h3 h4 hc
  · exact comp_not q N A' n c' vD vs l x y Ad n' cd dn d w ht hok hw hd h1 h2 h3 h4 hc
end Go.Proofs.Ytkemcgbedapkcaa
