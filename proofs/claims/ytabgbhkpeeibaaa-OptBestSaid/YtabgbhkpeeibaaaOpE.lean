/- waymarkref15.Cost. -/
import Derived.Test.YtabgbhkpeeibaaaOpB
import Derived.Deep.RegionLaw
namespace Go.Proofs.Ytabgbhkpeeibaaa
open Go.RowKit
set_option maxHeartbeats 6400000
set_option maxRecDepth 100000
theorem right_ok {nd : Int} {l : List Lnk} {x : Wnt} (h : rightS nd l x = 0) : (checkS nd l).2 = 0 ∧ (∀ v ∈ ptsS x, 0 ≤ v ∧ v < nd) ∧ x.via.length ≤ 4 := by
  unfold rightS at h
  by_cases h1 : (checkS nd l).2 ≠ 0
  · rw [if_pos h1] at h; exact absurd h h1
  · rw [if_neg h1] at h
    by_cases h2 : badB nd x = true
    · rw [if_pos h2] at h; cases h
    · rw [if_neg h2] at h
      refine ⟨by omega, ?_, ?_⟩
      · have hb : badB nd x = false := by simpa using h2
        unfold badB at hb
        simp only [Bool.or_eq_false_iff, Bool.not_eq_false', nodeB, Bool.and_eq_true, decide_eq_true_eq, List.any_eq_false] at hb
        obtain ⟨⟨⟨hf, ht⟩, hv⟩, _⟩ := hb
        intro v hm
        unfold ptsS at hm
        rw [List.mem_cons, List.mem_append, List.mem_singleton] at hm
        rcases hm with rfl | hm | rfl
        · exact hf
        · have := hv v hm
          simp at this
          exact this
        · exact ht
      · split at h
        · cases h
        · split at h
          · cases h
          · split at h
            · cases h
            · split at h
              · cases h
              · omega
theorem fromS_row {nd : Int} {l : List Lnk} {gn : List Bool} {a : Int} (h : (checkS nd l).2 = 0) (ha : 0 ≤ a ∧ a < nd) : (fromS nd l gn a).length = nd.toNat ∧ ∀ b : Int, 0 ≤ b → b < nd → (fromS nd l gn a)[b.toNat]? = some (dAt (fromS nd l gn a) b) ∧ -1 ≤ dAt (fromS nd l gn a) b ∧ dAt (fromS nd l gn a) b ≤ 654311424 := by
  have hl : (fromS nd l gn a).length = nd.toNat := by
    unfold fromS
    rw [if_pos ⟨h, ha.1, ha.2⟩]
    obtain ⟨N, rfl⟩ := Int.eq_ofNat_of_zero_le (show 0 ≤ nd by omega)
    obtain ⟨S, rfl⟩ := Int.eq_ofNat_of_zero_le ha.1
    exact (dist_ok (gok_of h) (by omega)).len
  refine ⟨hl, fun b h0 h1 => ?_⟩
  have hlt : b.toNat < (fromS nd l gn a).length := by omega
  have e := dAt_get hlt
  rw [Int.toNat_of_nonneg h0] at e
  refine ⟨e, ?_⟩
  exact fromS_mem _ (List.mem_of_getElem? e)
theorem legsS_none {nd : Int} {l : List Lnk} {gn : List Bool} {a b : Int} {r : List Int} (h : dAt (fromS nd l gn a) b < 0) : legsS nd l gn a (b :: r) = none := by rw [legsS, if_pos h]
theorem legsS_some {nd : Int} {l : List Lnk} {gn : List Bool} {a b : Int} {r : List Int} (h : ¬ dAt (fromS nd l gn a) b < 0) : legsS nd l gn a (b :: r) = (legsS nd l gn b r).map fun s => dAt (fromS nd l gn a) b + s := by rw [legsS, if_neg h]
theorem cost_not (nd : Int) (A : Option Addr) (n c : Nat) (l : List Lnk) (x : Wnt) (y : WSl) (Ad : Option Addr) (n' c' : Nat) (w : World) (hg : GArg w nd A n c l) (hw : WArg w x y) (h1 : y.nv ≤ 100) (h2 : y.nn ≤ 100) (h3 : y.nl ≤ 100) (h4 : y.nc ≤ 100) (h : rightS nd l x ≠ 0) :
    Calls Try.prog 10 #[.agg #[.int .i64 nd, .slice A n c], .agg #[.int .i64 x.frm, .int .i64 x.too, .int .i64 x.bnd, .slice y.av y.nv y.cv, .slice y.an y.nn y.cn, .slice y.al y.nl y.cl, .slice y.ac y.nc y.cc], .slice Ad n' c'] w fun e w' => e = .returned (.tuple #[.int .i64 0, .int .i64 (rightS nd l x)]) ∧ Below w.heap.size w w' := by
  have hS := Held2.start w nd A n c x y
  have HRt := hid (fun W (hh : Held2 w nd A n c x y W) => hh.calls (refRight_spec nd A n c l x y W (hg.on hh.1) (hw.on hh.1) h1 h2 h3 h4))
  obtain ⟨r, hr⟩ : ∃ r, rightS nd l x = r := ⟨_, rfl⟩
  rw [hr] at h HRt ⊢
  have d1 : (r != 0) = true := bne_iff_ne.2 h
  clear hr hg hw h
  go_enter Try.func10, Try.ntmps10
  go_wp2_with (go_at_call 23; (with_reducible refine (HRt.out _ hS).mono ?_); rintro e' w1 ⟨rfl, hh1⟩)
  go_ret2
  exact ⟨rfl, hh1.1⟩
theorem bl_out {f : Nat} {args : Array Value} {L : List Bool} {w : World} {m : Nat} (hL : L.length = m) (hm : m ≤ 200) (hc : Calls Try.prog f args w (BlAns L w)) :
    Calls Try.prog f args w fun e w' => ∃ A c, e = .returned (.slice A m c) ∧ DArg w' A m c L ∧ Below w.heap.size w w' := by
  refine hc.mono ?_
  rintro e' w' ⟨A, c, rfl, hr, hle, hn, hb⟩
  subst hL
  exact ⟨A, c, rfl, ⟨hr, hm, hle, hn⟩, hb⟩
theorem pts_at {x : Wnt} {k : Nat} (hk : k < x.via.length + 2) : (ptsS x)[k]? = some ((ptsS x).getD k 0) := by
  rw [List.getD_eq_getElem?_getD, List.getElem?_eq_getElem (by rw [ptsS_len]; exact hk)]; rfl
theorem pts_drop {x : Wnt} {k : Nat} (hk : k < x.via.length + 2) : (ptsS x).drop k = (ptsS x).getD k 0 :: (ptsS x).drop (k + 1) := by
  have h := pts_at hk
  rw [List.getElem?_eq_some_iff] at h
  obtain ⟨h1, h2⟩ := h
  rw [List.drop_eq_getElem_cons h1, h2]
theorem prunedS_n {nd : Int} {l : List Lnk} {x : Wnt} {dn : List Bool} (h : rightS nd l x = 0) : (prunedS nd l x dn).length = l.length := by unfold prunedS; rw [if_pos h]; simp
def costL (b : Int) : Option Int → Int × Int
  | none => (0, 8)
  | some s => if 0 < b ∧ b < s then (0, 8) else (s, 0)
theorem costS_L {nd : Int} {l : List Lnk} {x : Wnt} {dn : List Bool} (h : rightS nd l x = 0) : costS nd l x dn = costL x.bnd (legsS nd l (prunedS nd l x dn) x.frm (x.via ++ [x.too])) := by
  unfold costS
  rw [if_neg (by omega)]
  cases legsS nd l (prunedS nd l x dn) x.frm (x.via ++ [x.too]) <;> rfl
theorem cost_in (nd : Int) (A : Option Addr) (n c : Nat) (l : List Lnk) (x : Wnt) (y : WSl) (Ad : Option Addr) (n' c' : Nat) (dn : List Bool) (w : World) (hg : GArg w nd A n c l) (hw : WArg w x y) (hd : DArg w Ad n' c' dn) (h1 : y.nv ≤ 100) (h2 : y.nn ≤ 100) (h3 : y.nl ≤ 100) (h4 : y.nc ≤ 100) (h : rightS nd l x = 0) :
    Calls Try.prog 10 #[.agg #[.int .i64 nd, .slice A n c], .agg #[.int .i64 x.frm, .int .i64 x.too, .int .i64 x.bnd, .slice y.av y.nv y.cv, .slice y.an y.nn y.cn, .slice y.al y.nl y.cl, .slice y.ac y.nc y.cc], .slice Ad n' c'] w fun e w' => e = .returned (.tuple #[.int .i64 (costS nd l x dn).1, .int .i64 (costS nd l x dn).2]) ∧ Below w.heap.size w w' := by
  obtain ⟨hck, hpv, -⟩ := right_ok h
  have hvl := hw.via.row.1
  have hll := hg.row.1
  have hgl := hg.len
  have hbn := hw.rng
  have hS := Held2.start w nd A n c x y
  have HRt := hid (fun W (hh : Held2 w nd A n c x y W) => hh.calls (refRight_spec nd A n c l x y W (hg.on hh.1) (hw.on hh.1) h1 h2 h3 h4))
  rw [h] at HRt
  obtain ⟨m, hm⟩ : ∃ m, y.nv + 2 = m := ⟨_, rfl⟩
  have HP := hid (fun W (hh : Held2 w nd A n c x y W) => ints_out (m := m) (by rw [ptsS_len, hvl, hm]) (points_any x y W (hw.on hh.1) (by omega)))
  have HPr := hid (fun W (hh : Held2 w nd A n c x y W) => bl_out (m := n) (by rw [prunedS_n h, hll]) (by omega) (refDown_spec nd A n c l x y Ad n' c' dn W (hg.on hh.1) (hw.on hh.1) (hd.on hh.1) h1 h2 h3 h4))
  have hC : Hid (costS nd l x dn = costL x.bnd (legsS nd l (prunedS nd l x dn) x.frm (x.via ++ [x.too]))) := costS_L h
  have hPl : (ptsS x).length = m := by rw [ptsS_len, hvl, hm]
  have HPA := hid (fun k (hk : k < m) => pts_at (x := x) (k := k) (by omega))
  have HPD := hid (fun k (hk : k < m) => pts_drop (x := x) (k := k) (by omega))
  have HPV := hid (fun k (hk : k < m) => hpv _ (List.mem_of_getElem? (pts_at (x := x) (k := k) (by omega))))
  have hP0 : Hid (legsS nd l (prunedS nd l x dn) x.frm (x.via ++ [x.too]) = (legsS nd l (prunedS nd l x dn) ((ptsS x).getD 0 0) ((ptsS x).drop 1)).map fun s => 0 + s) := by
    show _ = _
    have : (fun s : Int => 0 + s) = id := by funext s; simp
    rw [this, Option.map_id]; rfl
  obtain ⟨gn, hgn⟩ : ∃ gn, prunedS nd l x dn = gn := ⟨_, rfl⟩
  obtain ⟨P, hP⟩ : ∃ P, ptsS x = P := ⟨_, rfl⟩
  rw [hgn] at HPr hC hP0
  simp only [hP] at HP hPl HPA HPD HPV hP0
  have HFr := hid (fun (a : Int) (ha : 0 ≤ a ∧ a < nd) (Ag : Option Addr) (cg : Nat) W (hh : Held2 w nd A n c x y W) (hdg : DArg W Ag n cg gn) => ints_out (m := nd.toNat) (fromS_row hck ha).1 (refFrom_spec nd A n c l Ag n cg gn a W (hg.on hh.1) hdg (by have := hg.lo; omega) (by have := hg.hi; omega)))
  have HFA := hid (fun (a : Int) (ha : 0 ≤ a ∧ a < nd) => (fromS_row (gn := gn) hck ha).2)
  have hnd : 0 ≤ nd ∧ nd ≤ 40 := by have := checkS_ok hck; omega
  have hm1 : 2 ≤ m ∧ m ≤ 102 := by omega
  have d1 : ((0 : Int) != 0) = false := by decide
  clear hgn hP hg hw hd hck hpv hvl hll h hm h1 h2 h3 h4
  go_enter Try.func10, Try.ntmps10
  go_wp2_with (first
    | (go_at_call 23; (with_reducible refine (HRt.out _ hS).mono ?_); rintro e' w3 ⟨rfl, hh3⟩; obtain ⟨p0, p1⟩ := hh3.g; obtain ⟨p2, p3, p4, p5, p6, p7, p8⟩ := hh3.v)
    | (go_at_call 27; (with_reducible refine (HP.out _ hh3).mono ?_); rintro e' w4 ⟨A4, c4, rfl, ⟨hr4, hc4, hn4⟩, hb4⟩; have hh4 := hh3.next hb4; obtain ⟨q0, q1⟩ := hh4.g; obtain ⟨q2, q3, q4, q5, q6, q7, q8⟩ := hh4.v)
    | (go_at_call 21; (with_reducible refine (HPr.out _ hh4).mono ?_); rintro e' w5 ⟨A5, c5, rfl, hd5, hb5⟩; have hh5 := hh4.next hb5))
  have HR4 := hid (fun W (hb : Below w5.heap.size w5 W) => (hr4.on hb5).on hb)
  have HD5 := hid (fun W (hb : Below w5.heap.size w5 W) => hd5.on hb)
  have HH5 := hid (fun W (hb : Below w5.heap.size w5 W) => hh5.next hb)
  have hr5 := hr4.on hb5
  obtain ⟨bp, op, rfl, hbp, -⟩ := hr5.2 (by omega)
  clear hr5 hr4 hb4 hb5 hd5 hh5 hh4 hh3 p0 p1 p2 p3 p4 p5 p6 p7 p8 q0 q1 q2 q3 q4 q5 q6 q7 q8 hS hn4
  go_loopw [11, 12] (fun sv iv wr => ∃ (k : Nat) (s : Int), k + 1 ≤ m ∧ iv = .int .i64 k ∧ sv = .int .i64 s ∧ 0 ≤ s ∧ s ≤ 654311424 * k ∧ Hid (legsS nd l gn x.frm (x.via ++ [x.too]) = (legsS nd l gn (P.getD k 0) (P.drop (k + 1))).map fun t => s + t) ∧ Hid (Below w5.heap.size w5 wr)) (fun _ iv _ => m - (intOf iv).toNat)
  case atStart => exact ⟨0, 0, by omega, rfl, rfl, by omega, by omega, hP0, Below.refl _ _⟩
  case round =>
    obtain ⟨k, s, hk, rfl, rfl, hs0, hs1, HL, HB⟩ := hrel
    have hh := HH5.out _ HB.out
    have HH := hid hh
    have hrw := HR4.out _ HB.out
    obtain ⟨b', o', hbo, hbl, hcell⟩ := hrw.2 (by omega)
    cases hbo
    have ew : IntKind.i64.wrap ((k : Int) + 1) = (k : Int) + 1 := by rw [IntKind.wrap_i64]; omega
    by_cases hlt : k + 1 < m
    · have d2 : decide ((k : Int) + 1 < (m : Int)) = true := decide_eq_true (by omega)
      have d3 : decide (k + 1 < m) = true := decide_eq_true hlt
      have x1 := hcell k _ (HPA.out k (by omega))
      have x2 := hcell (k + 1) _ (HPA.out (k + 1) hlt)
      clear hcell
      have hv1 := HPV.out k (by omega)
      have hv2 := HPV.out (k + 1) hlt
      have HL2 : Hid (legsS nd l gn (P.getD k 0) (P.drop (k + 1)) = legsS nd l gn (P.getD k 0) (P.getD (k + 1) 0 :: P.drop (k + 1 + 1))) := by show _ = _; rw [HPD.out (k + 1) hlt]
      obtain ⟨a, ha⟩ : ∃ a, P.getD k 0 = a := ⟨_, rfl⟩
      obtain ⟨b, hb⟩ : ∃ b, P.getD (k + 1) 0 = b := ⟨_, rfl⟩
      rw [ha] at x1 hv1 HL HL2
      rw [hb] at x2 hv2 HL2
      obtain ⟨V, rfl⟩ := Int.eq_ofNat_of_zero_le hv2.1
      have HBB : Hid (P.getD (k + 1) 0 = (V : Int)) := hb
      clear hb ha
      have hfa := HFA.out a hv1 (V : Int) (by omega) hv2.2
      obtain ⟨hfa1, hfa2, hfa3⟩ := hfa
      rw [Int.toNat_natCast] at hfa1
      have HF := hid (fun W (hb : Below wr.heap.size wr W) => (HFr.out a hv1 A5 c5 W ((HH.out).next hb) (HD5.out W (HB.out.trans (hb.mono HB.out.size)))))
      have hxs : ∀ W, Below wr.heap.size wr W → W.cell? ⟨bp, op + (k + 1), none⟩ = some (.int .i64 (V : Int)) := fun W hb => (hb.cell (p := ⟨bp, op + (k + 1), none⟩) (by have := HB.out.size; show bp < _; omega)).trans x2
      obtain ⟨g0, g1⟩ := hh.g
      have S5 : w.heap.size = w.heap.size := rfl
      obtain ⟨N, hN⟩ : ∃ N, nd.toNat = N := ⟨_, rfl⟩
      have hVN : V < N := by omega
      rw [hN] at HF
      have hHd := hid (HH.out.drew)
      have HBd := hid (Below.drew (Below.refl wr.heap.size wr))
      have hx2d := hxs _ HBd.out
      have x1d : wr.drew.cell? ⟨bp, op + k, none⟩ = some (.int .i64 a) := x1
      obtain ⟨gd0, gd1⟩ := hHd.out.g
      obtain ⟨d, hdd⟩ : ∃ d, dAt (fromS nd l gn a) (V : Int) = d := ⟨_, rfl⟩
      rw [hdd] at hfa1 hfa2 hfa3
      have HLd : Hid ((d < 0 → legsS nd l gn a ((V : Int) :: P.drop (k + 1 + 1)) = none) ∧ (0 ≤ d → legsS nd l gn a ((V : Int) :: P.drop (k + 1 + 1)) = (legsS nd l gn (V : Int) (P.drop (k + 1 + 1))).map fun s => d + s)) := ⟨fun hneg => legsS_none (by rw [hdd]; exact hneg), fun hpos => by rw [legsS_some (by rw [hdd]; omega), hdd]⟩
      have hVi : (V : Int) < (N : Int) := by omega
      have hki : (k : Int) < (m : Int) := by omega
      have hk1i : (k : Int) + 1 < (m : Int) := by omega
      have hk10 : (0 : Int) ≤ (k : Int) + 1 := by omega
      have HA1 := hid hfa1
      have HN := hid hN
      clear S5 hN hfa1 hdd
      go_wp2_with fail
      go_region_law (go_simp; go_at_call 25; (with_reducible refine (HF.out _ HBd.out).mono ?_); rintro e' w7 ⟨A7, c7, rfl, ⟨hr7, hc7, hn7⟩, hb7⟩; have hh7 := hHd.out.next hb7; obtain ⟨b7, o7, rfl, hl7, hcell7⟩ := hr7.2 (by omega); have x7 := hcell7 V _ HA1.out; clear hcell7 hn7; have HB7 := hid (HBd.out.trans (hb7.mono HBd.out.size)); have x72 := hxs _ HB7.out; have HH7 := hid hh7; clear hb7 hr7 hh7)
      all_goals
        by_cases hd0 : d < 0
        · have t1 : decide (d < 0) = true := decide_eq_true hd0
          have HV : Hid (costS nd l x dn = (0, 8)) := by show _ = _; rw [hC.out, HL.out, HL2.out, HLd.out.1 hd0]; rfl
          clear hd0
          go_wp2_with fail
          go_ret2
          exact ⟨by rw [HV.out]; rfl, HH7.out.1⟩
        · have t1 : decide (d < 0) = false := decide_eq_false hd0
          have ew2 : IntKind.i64.wrap (s + d) = s + d := by rw [IntKind.wrap_i64]; omega
          have HLn : Hid (legsS nd l gn x.frm (x.via ++ [x.too]) = (legsS nd l gn (P.getD (k + 1) 0) (P.drop (k + 1 + 1))).map fun t => s + d + t) := by
            show _ = _
            rw [HL.out, HL2.out, HLd.out.2 (by omega), Option.map_map, HBB.out]
            congr 1
            funext t
            show s + (d + t) = s + d + t
            omega
          have HBn := hid (HB.out.trans (HB7.out.mono HB.out.size))
          have hdn : 0 ≤ s + d ∧ s + d ≤ 654311424 * (k + 1 : Nat) := by push_cast; omega
          clear hd0 ew
          go_wp2_with fail
          clear ew2
          go_roundw
          case rel => exact ⟨k + 1, s + d, by omega, by go_num, rfl, hdn.1, hdn.2, HLn, HBn.out⟩
          case measure => simp [intOf]; omega
    · have hkm : k + 1 = m := by omega
      have d2 : decide ((k : Int) + 1 < (m : Int)) = false := decide_eq_false (by omega)
      have d3 : decide (k + 1 < m) = false := decide_eq_false hlt
      have HLe : Hid (legsS nd l gn x.frm (x.via ++ [x.too]) = some s) := by
        show _ = _
        have hdp : P.drop (k + 1) = [] := List.drop_eq_nil_of_le (by omega)
        rw [HL.out, hdp, legsS]
        simp
      obtain ⟨v0, v1, v2, v3, v4, v5, v6⟩ := hh.v
      clear hcell hkm HL
      by_cases hb0 : 0 < x.bnd
      · have t1 : decide (0 < x.bnd) = true := decide_eq_true hb0
        by_cases hb1 : x.bnd < s
        · have t2 : decide (x.bnd < s) = true := decide_eq_true hb1
          have HV : Hid (costS nd l x dn = (0, 8)) := by show _ = _; rw [hC.out, HLe.out]; show (if 0 < x.bnd ∧ x.bnd < s then ((0 : Int), (8 : Int)) else (s, 0)) = _; rw [if_pos ⟨hb0, hb1⟩]
          clear hb0 hb1
          go_wp2_with fail
          try go_big_quiet (fail)
          go_wp2_with fail
          go_ret2
          exact ⟨by rw [HV.out]; rfl, HH.out.1⟩
        · have t2 : decide (x.bnd < s) = false := decide_eq_false hb1
          have HV : Hid (costS nd l x dn = (s, 0)) := by show _ = _; rw [hC.out, HLe.out]; show (if 0 < x.bnd ∧ x.bnd < s then ((0 : Int), (8 : Int)) else (s, 0)) = _; rw [if_neg (fun hh => hb1 hh.2)]
          clear hb0 hb1
          go_wp2_with fail
          try go_big_quiet (fail)
          go_wp2_with fail
          go_ret2
          exact ⟨by rw [HV.out]; rfl, HH.out.1⟩
      · have t1 : decide (0 < x.bnd) = false := decide_eq_false hb0
        have HV : Hid (costS nd l x dn = (s, 0)) := by show _ = _; rw [hC.out, HLe.out]; show (if 0 < x.bnd ∧ x.bnd < s then ((0 : Int), (8 : Int)) else (s, 0)) = _; rw [if_neg (fun hh => hb0 hh.1)]
        clear hb0
        go_wp2_with fail
        try go_big_quiet (fail)
        go_wp2_with fail
        go_ret2
        exact ⟨by rw [HV.out]; rfl, HH.out.1⟩
def CostSpec (f : Nat) : Prop := ∀ (nd : Int) (A : Option Addr) (n c : Nat) (l : List Lnk) (x : Wnt) (y : WSl) (Ad : Option Addr) (n' c' : Nat) (dn : List Bool) (w : World), GArg w nd A n c l → WArg w x y → DArg w Ad n' c' dn → y.nv ≤ 100 → y.nn ≤ 100 → y.nl ≤ 100 → y.nc ≤ 100 →
  Calls Try.prog f #[.agg #[.int .i64 nd, .slice A n c], .agg #[.int .i64 x.frm, .int .i64 x.too, .int .i64 x.bnd, .slice y.av y.nv y.cv, .slice y.an y.nn y.cn, .slice y.al y.nl y.cl, .slice y.ac y.nc y.cc], .slice Ad n' c'] w fun e w' => e = .returned (.tuple #[.int .i64 (costS nd l x dn).1, .int .i64 (costS nd l x dn).2]) ∧ Below w.heap.size w w'
theorem refCost_spec : CostSpec 10 := fun nd A n c l x y Ad n' c' dn w hg hw hd h1 h2 h3 h4 => by
  by_cases h : rightS nd l x = 0
  · exact cost_in nd A n c l x y Ad n' c' dn w hg hw hd h1 h2 h3 h4 h
  · have e : costS nd l x dn = (0, rightS nd l x) := by unfold costS; rw [if_pos h]
    rw [e]
    exact cost_not nd A n c l x y Ad n' c' w hg hw h1 h2 h3 h4 h
end Go.Proofs.Ytabgbhkpeeibaaa
