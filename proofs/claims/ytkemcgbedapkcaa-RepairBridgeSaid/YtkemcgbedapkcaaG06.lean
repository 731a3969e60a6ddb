/- Merged: OpE OpF OpG. -/
import Derived.Test.YtkemcgbedapkcaaG05
import Derived.Deep.RegionLaw
import Derived.Deep.DeepCutAuto
import Derived.StillTailTactics
import Derived.Laws.ResultCell
import Derived.Laws.Rows
/- waymarkref15.Cost. -/
namespace Go.Proofs.Ytkemcgbedapkcaa
open Go.RowKit
set_option maxHeartbeats 6400000
set_option maxRecDepth 100000
theorem right_ok {nd : Int} {l : List Lnk} {x : Wnt} (h : rightS nd l x = 0) : (checkS nd l).2 = 0 ∧ (∀ v ∈ ptsS x, 0 ≤ v ∧ v < nd) ∧ x.via.length ≤ 4 := by
  unfold rightS at h
  by_cases h1 : (checkS nd l).2 ≠ 0
  · rw [if_pos h1] at h; exact absurd h h1
  · rw [if_neg h1] at h
    by_cases h2 : badB nd x = true
    · rw [if_pos h2] at h; cases h
    · rw [if_neg h2] at h
      refine ⟨by omega, ?_, ?_⟩
      · have hb : badB nd x = false := by simpa using h2
        unfold badB at hb
        simp only [Bool.or_eq_false_iff, Bool.not_eq_false', nodeB, Bool.and_eq_true, decide_eq_true_eq, List.any_eq_false] at hb
        obtain ⟨⟨⟨hf, ht⟩, hv⟩, _⟩ := hb
        intro v hm
        unfold ptsS at hm
        rw [List.mem_cons, List.mem_append, List.mem_singleton] at hm
        rcases hm with rfl | hm | rfl
        · exact hf
        · have := hv v hm
          simp at this
          exact this
        · exact ht
      · split at h
        · cases h
        · split at h
          · cases h
          · split at h
            · cases h
            · split at h
              · cases h
              · omega
theorem fromS_row {nd : Int} {l : List Lnk} {gn : List Bool} {a : Int} (h : (checkS nd l).2 = 0) (ha : 0 ≤ a ∧ a < nd) : (fromS nd l gn a).length = nd.toNat ∧ ∀ b : Int, 0 ≤ b → b < nd → (fromS nd l gn a)[b.toNat]? = some (dAt (fromS nd l gn a) b) ∧ -1 ≤ dAt (fromS nd l gn a) b ∧ dAt (fromS nd l gn a) b ≤ 654311424 := by
  have hl : (fromS nd l gn a).length = nd.toNat := by
    unfold fromS
    rw [if_pos ⟨h, ha.1, ha.2⟩]
    obtain ⟨N, rfl⟩ := Int.eq_ofNat_of_zero_le (show 0 ≤ nd by omega)
    obtain ⟨S, rfl⟩ := Int.eq_ofNat_of_zero_le ha.1
    exact (dist_ok (gok_of h) (by omega)).len
  refine ⟨hl, fun b h0 h1 => ?_⟩
  have hlt : b.toNat < (fromS nd l gn a).length := by omega
  have e := dAt_get hlt
  rw [Int.toNat_of_nonneg h0] at e
  refine ⟨e, ?_⟩
  exact fromS_mem _ (List.mem_of_getElem? e)
theorem legsS_none {nd : Int} {l : List Lnk} {gn : List Bool} {a b : Int} {r : List Int} (h : dAt (fromS nd l gn a) b < 0) : legsS nd l gn a (b :: r) = none := by rw [legsS, if_pos h]
theorem legsS_some {nd : Int} {l : List Lnk} {gn : List Bool} {a b : Int} {r : List Int} (h : ¬ dAt (fromS nd l gn a) b < 0) : legsS nd l gn a (b :: r) = (legsS nd l gn b r).map fun s => dAt (fromS nd l gn a) b + s := by rw [legsS, if_neg h]
theorem cost_not (nd : Int) (A : Option Addr) (n c : Nat) (l : List Lnk) (x : Wnt) (y : WSl) (Ad : Option Addr) (n' c' : Nat) (w : World) (hg : GArg w nd A n c l) (hw : WArg w x y) (h1 : y.nv ≤ 100) (h2 : y.nn ≤ 100) (h3 : y.nl ≤ 100) (h4 : y.nc ≤ 100) (h : rightS nd l x ≠ 0) :
    Calls Try.prog 33 #[.agg #[.int .i64 nd, .slice A n c], .agg #[.int .i64 x.frm, .int .i64 x.too, .int .i64 x.bnd, .slice y.av y.nv y.cv, .slice y.an y.nn y.cn, .slice y.al y.nl y.cl, .slice y.ac y.nc y.cc], .slice Ad n' c'] w fun e w' => e = .returned (.tuple #[.int .i64 0, .int .i64 (rightS nd l x)]) ∧ Below w.heap.size w w' := by
  have hS := Held2.start w nd A n c x y
  have HRt := hid (fun W (hh : Held2 w nd A n c x y W) => hh.calls (refRight_spec nd A n c l x y W (hg.on hh.1) (hw.on hh.1) h1 h2 h3 h4))
  obtain ⟨r, hr⟩ : ∃ r, rightS nd l x = r := ⟨_, rfl⟩
  rw [hr] at h HRt ⊢
  have d1 : (r != 0) = true := bne_iff_ne.2 h
  clear hr hg hw h
  go_enter Try.func33, Try.ntmps33
  go_wp2_with (go_at_call 52; (with_reducible refine (HRt.out _ hS).mono ?_); rintro e' w1 ⟨rfl, hh1⟩)
  go_ret2
  exact ⟨rfl, hh1.1⟩
theorem bl_out {f : Nat} {args : Array Value} {L : List Bool} {w : World} {m : Nat} (hL : L.length = m) (hm : m ≤ 200) (hc : Calls Try.prog f args w (BlAns L w)) :
    Calls Try.prog f args w fun e w' => ∃ A c, e = .returned (.slice A m c) ∧ DArg w' A m c L ∧ Below w.heap.size w w' := by
  refine hc.mono ?_
  rintro e' w' ⟨A, c, rfl, hr, hle, hn, hb⟩
  subst hL
  exact ⟨A, c, rfl, ⟨hr, hm, hle, hn⟩, hb⟩
theorem pts_at {x : Wnt} {k : Nat} (hk : k < x.via.length + 2) : (ptsS x)[k]? = some ((ptsS x).getD k 0) := by
  rw [List.getD_eq_getElem?_getD, List.getElem?_eq_getElem (by rw [ptsS_len]; exact hk)]; rfl
theorem pts_drop {x : Wnt} {k : Nat} (hk : k < x.via.length + 2) : (ptsS x).drop k = (ptsS x).getD k 0 :: (ptsS x).drop (k + 1) := by
  have h := pts_at hk
  rw [List.getElem?_eq_some_iff] at h
  obtain ⟨h1, h2⟩ := h
  rw [List.drop_eq_getElem_cons h1, h2]
theorem prunedS_n {nd : Int} {l : List Lnk} {x : Wnt} {dn : List Bool} (h : rightS nd l x = 0) : (prunedS nd l x dn).length = l.length := by unfold prunedS; rw [if_pos h]; simp
def costL (b : Int) : Option Int → Int × Int
  | none => (0, 8)
  | some s => if 0 < b ∧ b < s then (0, 8) else (s, 0)
theorem costS_L {nd : Int} {l : List Lnk} {x : Wnt} {dn : List Bool} (h : rightS nd l x = 0) : costS nd l x dn = costL x.bnd (legsS nd l (prunedS nd l x dn) x.frm (x.via ++ [x.too])) := by
  unfold costS
  rw [if_neg (by omega)]
  cases legsS nd l (prunedS nd l x dn) x.frm (x.via ++ [x.too]) <;> rfl
theorem cost_in (nd : Int) (A : Option Addr) (n c : Nat) (l : List Lnk) (x : Wnt) (y : WSl) (Ad : Option Addr) (n' c' : Nat) (dn : List Bool) (w : World) (hg : GArg w nd A n c l) (hw : WArg w x y) (hd : DArg w Ad n' c' dn) (h1 : y.nv ≤ 100) (h2 : y.nn ≤ 100) (h3 : y.nl ≤ 100) (h4 : y.nc ≤ 100) (h : rightS nd l x = 0) :
    Calls Try.prog 33 #[.agg #[.int .i64 nd, .slice A n c], .agg #[.int .i64 x.frm, .int .i64 x.too, .int .i64 x.bnd, .slice y.av y.nv y.cv, .slice y.an y.nn y.cn, .slice y.al y.nl y.cl, .slice y.ac y.nc y.cc], .slice Ad n' c'] w fun e w' => e = .returned (.tuple #[.int .i64 (costS nd l x dn).1, .int .i64 (costS nd l x dn).2]) ∧ Below w.heap.size w w' := by
  obtain ⟨hck, hpv, -⟩ := right_ok h
  have hvl := hw.via.row.1
  have hll := hg.row.1
  have hgl := hg.len
  have hbn := hw.rng
  have hS := Held2.start w nd A n c x y
  have HRt := hid (fun W (hh : Held2 w nd A n c x y W) => hh.calls (refRight_spec nd A n c l x y W (hg.on hh.1) (hw.on hh.1) h1 h2 h3 h4))
  rw [h] at HRt
  obtain ⟨m, hm⟩ : ∃ m, y.nv + 2 = m := ⟨_, rfl⟩
  have HP := hid (fun W (hh : Held2 w nd A n c x y W) => ints_out (m := m) (by rw [ptsS_len, hvl, hm]) (points_any x y W (hw.on hh.1) (by omega)))
  have HPr := hid (fun W (hh : Held2 w nd A n c x y W) => bl_out (m := n) (by rw [prunedS_n h, hll]) (by omega) (refDown_spec nd A n c l x y Ad n' c' dn W (hg.on hh.1) (hw.on hh.1) (hd.on hh.1) h1 h2 h3 h4))
  have hC : Hid (costS nd l x dn = costL x.bnd (legsS nd l (prunedS nd l x dn) x.frm (x.via ++ [x.too]))) := costS_L h
  have hPl : (ptsS x).length = m := by rw [ptsS_len, hvl, hm]
  have HPA := hid (fun k (hk : k < m) => pts_at (x := x) (k := k) (by omega))
  have HPD := hid (fun k (hk : k < m) => pts_drop (x := x) (k := k) (by omega))
  have HPV := hid (fun k (hk : k < m) => hpv _ (List.mem_of_getElem? (pts_at (x := x) (k := k) (by omega))))
  have hP0 : Hid (legsS nd l (prunedS nd l x dn) x.frm (x.via ++ [x.too]) = (legsS nd l (prunedS nd l x dn) ((ptsS x).getD 0 0) ((ptsS x).drop 1)).map fun s => 0 + s) := by
    show _ = _
    have : (fun s : Int => 0 + s) = id := by funext s; simp
    rw [this, Option.map_id]; rfl
  obtain ⟨gn, hgn⟩ : ∃ gn, prunedS nd l x dn = gn := ⟨_, rfl⟩
  obtain ⟨P, hP⟩ : ∃ P, ptsS x = P := ⟨_, rfl⟩
  rw [hgn] at HPr hC hP0
  simp only [hP] at HP hPl HPA HPD HPV hP0
  have HFr := hid (fun (a : Int) (ha : 0 ≤ a ∧ a < nd) (Ag : Option Addr) (cg : Nat) W (hh : Held2 w nd A n c x y W) (hdg : DArg W Ag n cg gn) => ints_out (m := nd.toNat) (fromS_row hck ha).1 (refFrom_spec nd A n c l Ag n cg gn a W (hg.on hh.1) hdg (by have := hg.lo; omega) (by have := hg.hi; omega)))
  have HFA := hid (fun (a : Int) (ha : 0 ≤ a ∧ a < nd) => (fromS_row (gn := gn) hck ha).2)
  have hnd : 0 ≤ nd ∧ nd ≤ 40 := by have := checkS_ok hck; omega
  have hm1 : 2 ≤ m ∧ m ≤ 102 := by omega
  have d1 : ((0 : Int) != 0) = false := by decide
  clear hgn hP hg hw hd hck hpv hvl hll h hm h1 h2 h3 h4
  go_enter Try.func33, Try.ntmps33
  go_wp2_with (first
    | (go_at_call 52; (with_reducible refine (HRt.out _ hS).mono ?_); rintro e' w3 ⟨rfl, hh3⟩; obtain ⟨p0, p1⟩ := hh3.g; obtain ⟨p2, p3, p4, p5, p6, p7, p8⟩ := hh3.v)
    | (go_at_call 53; (with_reducible refine (HP.out _ hh3).mono ?_); rintro e' w4 ⟨A4, c4, rfl, ⟨hr4, hc4, hn4⟩, hb4⟩; have hh4 := hh3.next hb4; obtain ⟨q0, q1⟩ := hh4.g; obtain ⟨q2, q3, q4, q5, q6, q7, q8⟩ := hh4.v)
    | (go_at_call 54; (with_reducible refine (HPr.out _ hh4).mono ?_); rintro e' w5 ⟨A5, c5, rfl, hd5, hb5⟩; have hh5 := hh4.next hb5))
  have HR4 := hid (fun W (hb : Below w5.heap.size w5 W) => (hr4.on hb5).on hb)
  have HD5 := hid (fun W (hb : Below w5.heap.size w5 W) => hd5.on hb)
  have HH5 := hid (fun W (hb : Below w5.heap.size w5 W) => hh5.next hb)
  have hr5 := hr4.on hb5
  obtain ⟨bp, op, rfl, hbp, -⟩ := hr5.2 (by omega)
  clear hr5 hr4 hb4 hb5 hd5 hh5 hh4 hh3 p0 p1 p2 p3 p4 p5 p6 p7 p8 q0 q1 q2 q3 q4 q5 q6 q7 q8 hS hn4
  go_loopw [11, 12] (fun sv iv wr => ∃ (k : Nat) (s : Int), k + 1 ≤ m ∧ iv = .int .i64 k ∧ sv = .int .i64 s ∧ 0 ≤ s ∧ s ≤ 654311424 * k ∧ Hid (legsS nd l gn x.frm (x.via ++ [x.too]) = (legsS nd l gn (P.getD k 0) (P.drop (k + 1))).map fun t => s + t) ∧ Hid (Below w5.heap.size w5 wr)) (fun _ iv _ => m - (intOf iv).toNat)
  case atStart => exact ⟨0, 0, by omega, rfl, rfl, by omega, by omega, hP0, Below.refl _ _⟩
  case round =>
    obtain ⟨k, s, hk, rfl, rfl, hs0, hs1, HL, HB⟩ := hrel
    have hh := HH5.out _ HB.out
    have HH := hid hh
    have hrw := HR4.out _ HB.out
    obtain ⟨b', o', hbo, hbl, hcell⟩ := hrw.2 (by omega)
    cases hbo
    have ew : IntKind.i64.wrap ((k : Int) + 1) = (k : Int) + 1 := by rw [IntKind.wrap_i64]; omega
    by_cases hlt : k + 1 < m
    · have d2 : decide ((k : Int) + 1 < (m : Int)) = true := decide_eq_true (by omega)
      have d3 : decide (k + 1 < m) = true := decide_eq_true hlt
      have x1 := hcell k _ (HPA.out k (by omega))
      have x2 := hcell (k + 1) _ (HPA.out (k + 1) hlt)
      clear hcell
      have hv1 := HPV.out k (by omega)
      have hv2 := HPV.out (k + 1) hlt
      have HL2 : Hid (legsS nd l gn (P.getD k 0) (P.drop (k + 1)) = legsS nd l gn (P.getD k 0) (P.getD (k + 1) 0 :: P.drop (k + 1 + 1))) := by show _ = _; rw [HPD.out (k + 1) hlt]
      obtain ⟨a, ha⟩ : ∃ a, P.getD k 0 = a := ⟨_, rfl⟩
      obtain ⟨b, hb⟩ : ∃ b, P.getD (k + 1) 0 = b := ⟨_, rfl⟩
      rw [ha] at x1 hv1 HL HL2
      rw [hb] at x2 hv2 HL2
      obtain ⟨V, rfl⟩ := Int.eq_ofNat_of_zero_le hv2.1
      have HBB : Hid (P.getD (k + 1) 0 = (V : Int)) := hb
      clear hb ha
      have hfa := HFA.out a hv1 (V : Int) (by omega) hv2.2
      obtain ⟨hfa1, hfa2, hfa3⟩ := hfa
      rw [Int.toNat_natCast] at hfa1
      have HF := hid (fun W (hb : Below wr.heap.size wr W) => (HFr.out a hv1 A5 c5 W ((HH.out).next hb) (HD5.out W (HB.out.trans (hb.mono HB.out.size)))))
      have hxs : ∀ W, Below wr.heap.size wr W → W.cell? ⟨bp, op + (k + 1), none⟩ = some (.int .i64 (V : Int)) := fun W hb => (hb.cell (p := ⟨bp, op + (k + 1), none⟩) (by have := HB.out.size; show bp < _; omega)).trans x2
      obtain ⟨g0, g1⟩ := hh.g
      have S5 : w.heap.size = w.heap.size := rfl
      obtain ⟨N, hN⟩ : ∃ N, nd.toNat = N := ⟨_, rfl⟩
      have hVN : V < N := by omega
      rw [hN] at HF
      have hHd := hid (HH.out.drew)
      have HBd := hid (Below.drew (Below.refl wr.heap.size wr))
      have hx2d := hxs _ HBd.out
      have x1d : wr.drew.cell? ⟨bp, op + k, none⟩ = some (.int .i64 a) := x1
      obtain ⟨gd0, gd1⟩ := hHd.out.g
      obtain ⟨d, hdd⟩ : ∃ d, dAt (fromS nd l gn a) (V : Int) = d := ⟨_, rfl⟩
      rw [hdd] at hfa1 hfa2 hfa3
      have HLd : Hid ((d < 0 → legsS nd l gn a ((V : Int) :: P.drop (k + 1 + 1)) = none) ∧ (0 ≤ d → legsS nd l gn a ((V : Int) :: P.drop (k + 1 + 1)) = (legsS nd l gn (V : Int) (P.drop (k + 1 + 1))).map fun s => d + s)) := ⟨fun hneg => legsS_none (by rw [hdd]; exact hneg), fun hpos => by rw [legsS_some (by rw [hdd]; omega), hdd]⟩
      have hVi : (V : Int) < (N : Int) := by omega
      have hki : (k : Int) < (m : Int) := by omega
      have hk1i : (k : Int) + 1 < (m : Int) := by omega
      have hk10 : (0 : Int) ≤ (k : Int) + 1 := by omega
      have HA1 := hid hfa1
      have HN := hid hN
      clear S5 hN hfa1 hdd
      go_wp2_with fail
      go_region_law (go_simp; go_at_call 14; (with_reducible refine (HF.out _ HBd.out).mono ?_); rintro e' w7 ⟨A7, c7, rfl, ⟨hr7, hc7, hn7⟩, hb7⟩; have hh7 := hHd.out.next hb7; obtain ⟨b7, o7, rfl, hl7, hcell7⟩ := hr7.2 (by omega); have x7 := hcell7 V _ HA1.out; clear hcell7 hn7; have HB7 := hid (HBd.out.trans (hb7.mono HBd.out.size)); have x72 := hxs _ HB7.out; have HH7 := hid hh7; clear hb7 hr7 hh7)
      all_goals
        by_cases hd0 : d < 0
        · have t1 : decide (d < 0) = true := decide_eq_true hd0
          have HV : Hid (costS nd l x dn = (0, 8)) := by show _ = _; rw [hC.out, HL.out, HL2.out, HLd.out.1 hd0]; rfl
          clear hd0
          go_wp2_with fail
          go_ret2
          exact ⟨by rw [HV.out]; rfl, HH7.out.1⟩
        · have t1 : decide (d < 0) = false := decide_eq_false hd0
          have ew2 : IntKind.i64.wrap (s + d) = s + d := by rw [IntKind.wrap_i64]; omega
          have HLn : Hid (legsS nd l gn x.frm (x.via ++ [x.too]) = (legsS nd l gn (P.getD (k + 1) 0) (P.drop (k + 1 + 1))).map fun t => s + d + t) := by
            show _ = _
            rw [HL.out, HL2.out, HLd.out.2 (by omega), Option.map_map, HBB.out]
            congr 1
            funext t
            show s + (d + t) = s + d + t
            omega
          have HBn := hid (HB.out.trans (HB7.out.mono HB.out.size))
          have hdn : 0 ≤ s + d ∧ s + d ≤ 654311424 * (k + 1 : Nat) := by push_cast; omega
          clear hd0 ew
          go_wp2_with fail
          clear ew2
          go_roundw
          case rel => exact ⟨k + 1, s + d, by omega, by go_num, rfl, hdn.1, hdn.2, HLn, HBn.out⟩
          case measure => simp [intOf]; omega
    · have hkm : k + 1 = m := by omega
      have d2 : decide ((k : Int) + 1 < (m : Int)) = false := decide_eq_false (by omega)
      have d3 : decide (k + 1 < m) = false := decide_eq_false hlt
      have HLe : Hid (legsS nd l gn x.frm (x.via ++ [x.too]) = some s) := by
        show _ = _
        have hdp : P.drop (k + 1) = [] := List.drop_eq_nil_of_le (by omega)
        rw [HL.out, hdp, legsS]
        simp
      obtain ⟨v0, v1, v2, v3, v4, v5, v6⟩ := hh.v
      clear hcell hkm HL
      by_cases hb0 : 0 < x.bnd
      · have t1 : decide (0 < x.bnd) = true := decide_eq_true hb0
        by_cases hb1 : x.bnd < s
        · have t2 : decide (x.bnd < s) = true := decide_eq_true hb1
          have HV : Hid (costS nd l x dn = (0, 8)) := by show _ = _; rw [hC.out, HLe.out]; show (if 0 < x.bnd ∧ x.bnd < s then ((0 : Int), (8 : Int)) else (s, 0)) = _; rw [if_pos ⟨hb0, hb1⟩]
          clear hb0 hb1
          go_wp2_with fail
          try go_big_quiet (fail)
          go_wp2_with fail
          go_ret2
          exact ⟨by rw [HV.out]; rfl, HH.out.1⟩
        · have t2 : decide (x.bnd < s) = false := decide_eq_false hb1
          have HV : Hid (costS nd l x dn = (s, 0)) := by show _ = _; rw [hC.out, HLe.out]; show (if 0 < x.bnd ∧ x.bnd < s then ((0 : Int), (8 : Int)) else (s, 0)) = _; rw [if_neg (fun hh => hb1 hh.2)]
          clear hb0 hb1
          go_wp2_with fail
          try go_big_quiet (fail)
          go_wp2_with fail
          go_ret2
          exact ⟨by rw [HV.out]; rfl, HH.out.1⟩
      · have t1 : decide (0 < x.bnd) = false := decide_eq_false hb0
        have HV : Hid (costS nd l x dn = (s, 0)) := by show _ = _; rw [hC.out, HLe.out]; show (if 0 < x.bnd ∧ x.bnd < s then ((0 : Int), (8 : Int)) else (s, 0)) = _; rw [if_neg (fun hh => hb0 hh.1)]
        clear hb0
        go_wp2_with fail
        try go_big_quiet (fail)
        go_wp2_with fail
        go_ret2
        exact ⟨by rw [HV.out]; rfl, HH.out.1⟩
def CostSpec (f : Nat) : Prop := ∀ (nd : Int) (A : Option Addr) (n c : Nat) (l : List Lnk) (x : Wnt) (y : WSl) (Ad : Option Addr) (n' c' : Nat) (dn : List Bool) (w : World), GArg w nd A n c l → WArg w x y → DArg w Ad n' c' dn → y.nv ≤ 100 → y.nn ≤ 100 → y.nl ≤ 100 → y.nc ≤ 100 →
  Calls Try.prog f #[.agg #[.int .i64 nd, .slice A n c], .agg #[.int .i64 x.frm, .int .i64 x.too, .int .i64 x.bnd, .slice y.av y.nv y.cv, .slice y.an y.nn y.cn, .slice y.al y.nl y.cl, .slice y.ac y.nc y.cc], .slice Ad n' c'] w fun e w' => e = .returned (.tuple #[.int .i64 (costS nd l x dn).1, .int .i64 (costS nd l x dn).2]) ∧ Below w.heap.size w w'
theorem refCost_spec : CostSpec 33 := fun nd A n c l x y Ad n' c' dn w hg hw hd h1 h2 h3 h4 => by
  by_cases h : rightS nd l x = 0
  · exact cost_in nd A n c l x y Ad n' c' dn w hg hw hd h1 h2 h3 h4 h
  · have e : costS nd l x dn = (0, rightS nd l x) := by unfold costS; rw [if_pos h]
    rw [e]
    exact cost_not nd A n c l x y Ad n' c' w hg hw h1 h2 h3 h4 h
end Go.Proofs.Ytkemcgbedapkcaa

/- What lies behind an *Opt; what NewOpt answers. -/
namespace Go.Proofs.Ytkemcgbedapkcaa
open Go.RowKit
set_option maxHeartbeats 6400000
set_option maxRecDepth 100000
/-- Each value reads as its point's row of lengths. -/
def FarR (w : World) (N : Nat) (nd : Int) (l : List Lnk) (gn : List Bool) (P : List Int) (vs : List Value) : Prop := ∀ (i : Nat) (v : Value), vs[i]? = some v → w.ownsRow 0 3 1 v N (icells (fromS nd l gn (P.getD i 0)))
theorem FarR.below {w w' : World} {N : Nat} {nd : Int} {l : List Lnk} {gn : List Bool} {P : List Int} {vs : List Value} (h : FarR w N nd l gn P vs) (hb : Below w.heap.size w w') : FarR w' N nd l gn P vs := fun i v hv => own_below (h i v hv) hb
theorem FarR.app {w : World} {N k : Nat} {nd : Int} {l : List Lnk} {gn : List Bool} {P : List Int} {vs : List Value} {v : Value} (h : FarR w N nd l gn P vs) (hk : vs.length = k) (hv : w.ownsRow 0 3 1 v N (icells (fromS nd l gn (P.getD k 0)))) : FarR w N nd l gn P (vs ++ [v]) := by
  intro i u hu
  rcases Nat.lt_or_ge i vs.length with hi | hi
  · rw [List.getElem?_append_left hi] at hu
    exact h i u hu
  · rw [List.getElem?_append_right hi] at hu
    have : i = vs.length := by
      have := (List.getElem?_eq_some_iff.1 hu).1
      simp at this; omega
    subst this
    simp at hu
    subst hu
    rw [hk]
    exact hv
theorem own_box {w : World} {base e size n B j : Nat} {v : Value} {xs : List Value} {t : TypeId} {c : Array Value} {fz : Nat × Nat} {u : Value} (hown : w.ownsRow base e size v n xs) (ho : w.heap[B]? = some (.cells c t fz)) (he : e ≠ t) : (w.setCell ⟨B, j, none⟩ u).ownsRow base e size v n xs := by
  have hgb : w.grownBy (w.setCell ⟨B, j, none⟩ u) (some B) := ⟨rfl, rfl, rfl, by simp [World.setCell], fun k _ hne => heap_setCell_other w ⟨B, j, none⟩ k u (fun e => hne (by rw [e]))⟩
  refine hown.kept hgb ?_
  rcases hown.2 with ⟨rfl, _⟩ | ⟨g, cap, cur, rfl, _, hg, _⟩
  · exact .inl rfl
  · refine .inr ?_
    simp only [Value.ownBlock, ne_eq, Option.some.injEq]
    rintro rfl
    rw [ho] at hg
    simp at hg
    exact he hg.2.1.symm
/-- What NewOpt holds while it fills. -/
structure NOs (wC : World) (nd : Int) (A : Option Addr) (n c : Nat) (l : List Lnk) (gn : List Bool) (P : List Int) (N m : Nat) (Ap : Option Addr) (cp : Nat) (Ag : Option Addr) (cg : Nat) (vF : Value) (k : Nat) (vs : List Value) (w' : World) : Prop where
  bel : Below wC.heap.size wC w'
  box : w'.heap[wC.heap.size]? = some (.cells #[.int .i64 nd, .slice A n c, .slice Ap m cp, .slice Ag n cg, vF] 117 (0, 0))
  own : w'.ownsRow (wC.heap.size + 1) 40 1 vF k vs
  far : FarR w' N nd l gn P vs
theorem NOs.lt {wC w' : World} {nd : Int} {A : Option Addr} {n c : Nat} {l : List Lnk} {gn : List Bool} {P : List Int} {N m : Nat} {Ap : Option Addr} {cp : Nat} {Ag : Option Addr} {cg : Nat} {vF : Value} {k : Nat} {vs : List Value} (h : NOs wC nd A n c l gn P N m Ap cp Ag cg vF k vs w') : wC.heap.size < w'.heap.size := blk_lt h.box
theorem NOs.next {wC w' w'' : World} {nd : Int} {A : Option Addr} {n c : Nat} {l : List Lnk} {gn : List Bool} {P : List Int} {N m : Nat} {Ap : Option Addr} {cp : Nat} {Ag : Option Addr} {cg : Nat} {vF : Value} {k : Nat} {vs : List Value} (h : NOs wC nd A n c l gn P N m Ap cp Ag cg vF k vs w') (hb : Below w'.heap.size w' w'') : NOs wC nd A n c l gn P N m Ap cp Ag cg vF k vs w'' :=
  ⟨h.bel.trans (hb.mono h.bel.size), box_below h.box hb h.lt, own_below h.own hb, h.far.below hb⟩
theorem box5_cells {w : World} {B : Nat} {x0 x1 x2 x3 x4 : Value} {T : TypeId} (h : w.heap[B]? = some (.cells #[x0, x1, x2, x3, x4] T (0, 0))) : w.cell? ⟨B, 0, none⟩ = some x0 ∧ w.cell? ⟨B, 1, none⟩ = some x1 ∧ w.cell? ⟨B, 2, none⟩ = some x2 ∧ w.cell? ⟨B, 3, none⟩ = some x3 ∧ w.cell? ⟨B, 4, none⟩ = some x4 ∧ ∀ j, w.frozen? ⟨B, j, none⟩ = false :=
  ⟨by rw [cell_of_row _ _ _ _ _ _ h]; rfl, by rw [cell_of_row _ _ _ _ _ _ h]; rfl, by rw [cell_of_row _ _ _ _ _ _ h]; rfl, by rw [cell_of_row _ _ _ _ _ _ h]; rfl, by rw [cell_of_row _ _ _ _ _ _ h]; rfl, fun j => frozen_of_row _ _ _ _ _ h⟩
theorem box5_set4 {w : World} {B : Nat} {x0 x1 x2 x3 x4 u : Value} {T : TypeId} (h : w.heap[B]? = some (.cells #[x0, x1, x2, x3, x4] T (0, 0))) : (w.setCell ⟨B, 4, none⟩ u).heap[B]? = some (.cells #[x0, x1, x2, x3, u] T (0, 0)) := heap_setCell_same w B 4 _ T u h
/-- One row more, and the box stored. -/
theorem NOs.put {wC w5 w6 : World} {nd : Int} {A : Option Addr} {n c : Nat} {l : List Lnk} {gn : List Bool} {P : List Int} {N m : Nat} {Ap : Option Addr} {cp : Nat} {Ag : Option Addr} {cg : Nat} {vF v5 : Value} {k : Nat} {vs : List Value} {o : Obj} {v6 : Value} (h : NOs wC nd A n c l gn P N m Ap cp Ag cg vF k vs w5) (hk : vs.length = k) (hv : w5.ownsRow 0 3 1 v5 N (icells (fromS nd l gn (P.getD k 0))))
    (h6 : w6.ownsRow (wC.heap.size + 1) 40 1 v6 (k + 1) (vs ++ [v5])) (hg : (w5.alloc o).grownBy w6 vF.ownBlock) : NOs wC nd A n c l gn P N m Ap cp Ag cg v6 (k + 1) (vs ++ [v5]) (w6.setCell ⟨wC.heap.size, 4, none⟩ v6) := by
  have hb6 := box_app h.box (by omega) h.own hg
  have ha : ∀ {b e s m : Nat} {v : Value} {xs : List Value}, w5.ownsRow b e s v m xs → e ≠ 40 → w6.ownsRow b e s v m xs := by
    intro b e s m v xs ho he
    have ho1 := ho.alloc (w := w5) o
    have ho2 := h.own.alloc (w := w5) o
    exact ho1.kept hg ((own_apart ho1 ho2 he).imp id id)
  refine ⟨(below_app h.bel (by omega) h.own hg).setCell (Nat.le_refl _) _, box5_set4 hb6, own_box h6 hb6 (by decide), ?_⟩
  have h7 : FarR w6 N nd l gn P (vs ++ [v5]) := FarR.app (fun i v hv => ha (h.far i v hv) (by decide)) hk (ha hv (by decide))
  exact fun i v hv => own_box (h7 i v hv) hb6 (by decide)
/-- What lies behind an *Opt. -/
def OptAt (nd : Int) (A : Option Addr) (n c : Nat) (l : List Lnk) (x : Wnt) (gn : List Bool) (B : Nat) (w : World) : Prop :=
  ∃ (Ap : Option Addr) (cp : Nat) (Ag : Option Addr) (cg : Nat) (vF : Value) (vs : List Value), w.heap[B]? = some (.cells #[.int .i64 nd, .slice A n c, .slice Ap (ptsS x).length cp, .slice Ag n cg, vF] 117 (0, 0)) ∧
    RInt w w.heap.size Ap (ptsS x).length (ptsS x) ∧ DArg w Ag n cg gn ∧ w.ownsRow 0 40 1 vF (ptsS x).length vs ∧ FarR w nd.toNat nd l gn (ptsS x) vs
theorem OptAt.on {nd : Int} {A : Option Addr} {n c : Nat} {l : List Lnk} {x : Wnt} {gn : List Bool} {B : Nat} {w w' : World} (h : OptAt nd A n c l x gn B w) (hb : Below w.heap.size w w') : OptAt nd A n c l x gn B w' := by
  obtain ⟨Ap, cp, Ag, cg, vF, vs, h1, h2, h3, h4, h5⟩ := h
  exact ⟨Ap, cp, Ag, cg, vF, vs, box_below h1 hb (blk_lt h1), h2.on hb, h3.on hb, own_below h4 hb, h5.below hb⟩
theorem nos_start {w wC : World} {nd : Int} {A : Option Addr} {n c : Nat} {l : List Lnk} {x : Wnt} {y : WSl} {gn : List Bool} {P : List Int} {N m : Nat} {Ap : Option Addr} {cp : Nat} {Ag : Option Addr} {cg : Nat} (hh : Held2 w nd A n c x y wC) (hr : RInt wC wC.heap.size Ap m P) (hc : m ≤ cp) (hd : DArg wC Ag n cg gn) :
    Hid (Held2 w nd A n c x y wC ∧ RInt wC wC.heap.size Ap m P ∧ m ≤ cp ∧ DArg wC Ag n cg gn ∧ NOs wC nd A n c l gn P N m Ap cp Ag cg (.slice none 0 0) 0 [] (wC.alloc (.cells #[.int .i64 nd, .slice A n c, .slice Ap m cp, .slice Ag n cg, .slice none 0 0] 117))) :=
  ⟨hh, hr, hc, hd, (Below.refl _ _).alloc (Nat.le_refl _) _, heap_alloc_new wC _, World.ownsRow_nil _ _ _ _, fun i v hv => by simp at hv⟩
/-- What NewOpt answers. -/
def NewOptSpec (f : Nat) : Prop := ∀ (nd : Int) (A : Option Addr) (n c : Nat) (l : List Lnk) (x : Wnt) (y : WSl) (Ad : Option Addr) (n' c' : Nat) (dn : List Bool) (w : World), GArg w nd A n c l → WArg w x y → DArg w Ad n' c' dn → y.nv ≤ 100 → y.nn ≤ 100 → y.nl ≤ 100 → y.nc ≤ 100 →
  Calls Try.prog f #[.agg #[.int .i64 nd, .slice A n c], .agg #[.int .i64 x.frm, .int .i64 x.too, .int .i64 x.bnd, .slice y.av y.nv y.cv, .slice y.an y.nn y.cn, .slice y.al y.nl y.cl, .slice y.ac y.nc y.cc], .slice Ad n' c'] w fun e w' => Below w.heap.size w w' ∧ (((costS nd l x dn).2 ≠ 0 ∧ e = .returned (.tuple #[.pointer none, .bool false])) ∨ ((costS nd l x dn).2 = 0 ∧ ∃ B, e = .returned (.tuple #[.pointer (some ⟨B, 0, none⟩), .bool true]) ∧ OptAt nd A n c l x (prunedS nd l x dn) B w'))
end Go.Proofs.Ytkemcgbedapkcaa

/- (*waymarkref15.Opt).Step. -/
namespace Go.Proofs.Ytkemcgbedapkcaa
open Go.RowKit
set_option maxHeartbeats 6400000
set_option maxRecDepth 100000
def stepV : Option (Int × Int) → Value
  | none => .tuple #[.agg #[.int .i64 0, .int .i64 0], .bool false]
  | some p => .tuple #[.agg #[.int .i64 p.1, .int .i64 p.2], .bool true]
theorem results_cellrow_tmp {P : Program} {fn : Func} {p u : Tmp} {ty : TypeId} (h : fn.results = #[.cell p ty, .tmp u]) (tmps : Array Value) (w : World) (g : Nat) (t : TypeId) (cs : Array Value) (fr : Nat × Nat) (d : TypeDesc)
    (hp : tmps.getD p undef = .pointer (some ⟨g, 0, none⟩)) (hg : w.heap[g]? = some (.cells cs t fr))
    (hu : P.underlying ty = some d) (hd : (match d with | .struct _ | .array _ _ => true | _ => false) = true) (hi : (P.info? ty).map (·.size) = some cs.size) :
    (results fn tmps).run P w = .ok (.tuple #[.agg cs, tmps.getD u undef]) w := by
  rw [results_cell_tmp h, hp]
  simp [asAddr, Result.andThen, run_loadVar_row w g t ty cs fr d hg hu hd hi]
/-- Two boxes: a state's, and the result's. -/
def HeldQ (w : World) (v k : Int) (w' : World) : Prop :=
  Below w.heap.size w w' ∧ w'.heap[w.heap.size]? = some (.cells #[.int .i64 v, .int .i64 k] 92 (0, 0)) ∧ w'.heap[w.heap.size + 1]? = some (.cells #[.int .i64 0, .int .i64 0] 92 (0, 0))
theorem HeldQ.start (w : World) (v k : Int) : HeldQ w v k ((w.alloc (.cells #[.int .i64 v, .int .i64 k] 92)).alloc (.cells #[.int .i64 0, .int .i64 0] 92)) := by
  refine ⟨((Below.refl _ w).alloc (Nat.le_refl _) _).alloc (by simp) _, (Below.heap_alloc _ _ _ (by simp)).trans (heap_alloc_new w _), ?_⟩
  have := heap_alloc_new (w.alloc (.cells #[.int .i64 v, .int .i64 k] 92)) (.cells #[.int .i64 0, .int .i64 0] 92)
  rw [show (w.alloc (.cells #[.int .i64 v, .int .i64 k] 92)).heap.size = w.heap.size + 1 by simp] at this
  exact this
theorem HeldQ.next {w w' w'' : World} {v k : Int} (h : HeldQ w v k w') (hb : Below w'.heap.size w' w'') : HeldQ w v k w'' :=
  ⟨h.1.trans (hb.mono h.1.size), box_below h.2.1 hb (blk_lt h.2.1), box_below h.2.2 hb (blk_lt h.2.2)⟩
theorem HeldQ.put {w w' : World} {v k a b : Int} (h : HeldQ w v k w') : Hid (((w'.setCell ⟨w.heap.size + 1, 0, none⟩ (.int .i64 a)).setCell ⟨w.heap.size + 1, 1, none⟩ (.int .i64 b)).heap[w.heap.size + 1]? = some (.cells #[.int .i64 a, .int .i64 b] 92 (0, 0)) ∧ Below w.heap.size w ((w'.setCell ⟨w.heap.size + 1, 0, none⟩ (.int .i64 a)).setCell ⟨w.heap.size + 1, 1, none⟩ (.int .i64 b))) :=
  ⟨box_set1 (box_set0 h.2.2), (h.1.setCell (by simp) _).setCell (by simp) _⟩
def OptStepSpec (f : Nat) : Prop := ∀ (nd : Int) (A : Option Addr) (n c : Nat) (l : List Lnk) (x : Wnt) (gn : List Bool) (B : Nat) (v k e : Int) (w : World), OptAt nd A n c l x gn B w → GArg w nd A n c l → rightS nd l x = 0 → -9223372036854775808 ≤ v ∧ v ≤ 9223372036854775807 → -9223372036854775808 ≤ k ∧ k ≤ 9223372036854775807 → -9223372036854775808 ≤ e ∧ e ≤ 9223372036854775807 →
  Calls Try.prog f #[.pointer (some ⟨B, 0, none⟩), .agg #[.int .i64 v, .int .i64 k], .int .i64 e] w fun x' w' => x' = .returned (stepV (stepO nd l x gn v k e)) ∧ Below w.heap.size w w'
theorem next_len {nd : Int} {l : List Lnk} {gn : List Bool} {tw : List Int} {v : Int} (h : l.length ≤ 120) : (nextS nd l gn tw v).length ≤ 240 := by
  unfold nextS
  split
  · refine Nat.le_trans (List.length_filter_le _ _) ?_
    unfold outS
    refine Nat.le_trans (List.length_filter_le _ _) ?_
    simp; omega
  · simp
theorem Below.drewN' (w : World) (q : Nat) : Below w.heap.size w (w.drewN q) := ⟨rfl, rfl, rfl, Nat.le_refl _, fun _ _ => rfl⟩
theorem optStep_spec : OptStepSpec 56 := by
  intro nd A n c l x gn B v k e w ho hg hr0 hv hk he
  obtain ⟨hck, hpv, hv4⟩ := right_ok hr0
  have hml := ptsS_len x
  obtain ⟨Ap, cp, Ag, cg, vF, vs, hx1, hp, hdg, hown, hfar⟩ := ho
  obtain ⟨m, hm⟩ : ∃ m, (ptsS x).length = m := ⟨_, rfl⟩
  rw [hm] at hx1 hp hown
  have hm2 : 2 ≤ m ∧ m ≤ 6 := by omega
  have hS := HeldQ.start w v k
  have HB := hid (fun W (hb : Below w.heap.size w W) => box_below hx1 hb (blk_lt hx1))
  obtain ⟨a, b, ok, hE⟩ : ∃ a b ok, endsS l e = (a, b, ok) := ⟨_, _, _, rfl⟩
  have HE := hid (fun W (hh : HeldQ w v k W) => (refEnds_any nd A n c l e W (hg.on hh.1).row (by have := hg.len; omega) he.2).mono fun _ _ h => (⟨h.1, hh.next h.2⟩ : _ ∧ HeldQ w v k _))
  rw [hE] at HE
  obtain ⟨s0, s1, s2, s3, s4, -⟩ := box5_cells (HB.out _ hS.1)
  have hcg := hg.len
  have hne : B ≠ w.heap.size := by have := blk_lt hx1; omega
  have ewm : IntKind.i64.wrap ((m : Int) - 1) = (m : Int) - 1 := by rw [IntKind.wrap_i64]; omega
  have HR4 : Hid (vs.length = m) := by have := hown.1; show _ = _; omega
  cases ok with
  | false =>
    clear hx1 hp hown hfar hdg hpv
    have HV : Hid (stepO nd l x gn v k e = none) := by show _ = _; unfold stepO; rw [if_neg]; rw [hE]; simp
    clear HR4
    go_enter Try.func56, Try.ntmps56
    go_wp2_with (go_at_call 13; (with_reducible refine (HE.out _ hS).mono ?_); rintro e' w3 ⟨rfl, hh3⟩; have HH3 := hid hh3; obtain ⟨z0, z1, z2⟩ := box_cells hh3.2.1; obtain ⟨y0, y1, y2⟩ := box_cells hh3.2.2; have hb3 := (box5_cells (HB.out w3 hh3.1)); obtain ⟨o0, o1, o2, o3, o4, -⟩ := hb3; clear hh3)
    go_big_quiet (fail)
    go_wp2_with fail
    have HG := (HH3.out.next (Below.drewN' w3 nq)).put (a := 0) (b := 0)
    refine bodyPost_ret (results_cellrow_tmp (p := 6) (u := 7) (fn := Try.f56) rfl _ _ _ _ _ _ _ rfl HG.out.1 Try.underlying92 rfl (by kernel_rfl)) rfl ?_
    exact ⟨by rw [HV.out]; rfl, HG.out.2⟩
  | true =>
    by_cases ha : a = v
    · obtain rfl := ha
      have ta : (a != a) = false := by simp
      by_cases hk0 : k < 0
      · have tk : decide (k < 0) = true := decide_eq_true hk0
        clear hx1 hp hown hfar hdg hpv
        have HV : Hid (stepO nd l x gn a k e = none) := by show _ = _; unfold stepO; rw [if_neg]; intro hh; omega
        clear HR4
        go_enter Try.func56, Try.ntmps56
        go_wp2_with (go_at_call 13; (with_reducible refine (HE.out _ hS).mono ?_); rintro e' w3 ⟨rfl, hh3⟩; have HH3 := hid hh3; obtain ⟨z0, z1, z2⟩ := box_cells hh3.2.1; obtain ⟨y0, y1, y2⟩ := box_cells hh3.2.2; have hb3 := (box5_cells (HB.out w3 hh3.1)); obtain ⟨o0, o1, o2, o3, o4, -⟩ := hb3; clear hh3)
        go_big_quiet (fail)
        go_wp2_with fail
        have HG := (HH3.out.next (Below.drewN' w3 nq)).put (a := 0) (b := 0)
        refine bodyPost_ret (results_cellrow_tmp (p := 6) (u := 7) (fn := Try.f56) rfl _ _ _ _ _ _ _ rfl HG.out.1 Try.underlying92 rfl (by kernel_rfl)) rfl ?_
        exact ⟨by rw [HV.out]; rfl, HG.out.2⟩
      · have tk : decide (k < 0) = false := decide_eq_false hk0
        obtain ⟨K, rfl⟩ := Int.eq_ofNat_of_zero_le (show 0 ≤ k by omega)
        by_cases hkm : (m : Int) - 1 ≤ (K : Int)
        · have tm : decide ((m : Int) - 1 ≤ (K : Int)) = true := decide_eq_true hkm
          clear hx1 hp hown hfar hdg hpv
          have HV : Hid (stepO nd l x gn a (K : Int) e = none) := by show _ = _; unfold stepO; rw [if_neg]; intro hh; rw [hm] at hh; omega
          clear HR4
          go_enter Try.func56, Try.ntmps56
          go_wp2_with (go_at_call 13; (with_reducible refine (HE.out _ hS).mono ?_); rintro e' w3 ⟨rfl, hh3⟩; have HH3 := hid hh3; obtain ⟨z0, z1, z2⟩ := box_cells hh3.2.1; obtain ⟨y0, y1, y2⟩ := box_cells hh3.2.2; have hb3 := (box5_cells (HB.out w3 hh3.1)); obtain ⟨o0, o1, o2, o3, o4, -⟩ := hb3; clear hh3)
          go_big_quiet (fail)
          go_wp2_with fail
          have HG := (HH3.out.next (Below.drewN' w3 nq)).put (a := 0) (b := 0)
          refine bodyPost_ret (results_cellrow_tmp (p := 6) (u := 7) (fn := Try.f56) rfl _ _ _ _ _ _ _ rfl HG.out.1 Try.underlying92 rfl (by kernel_rfl)) rfl ?_
          exact ⟨by rw [HV.out]; rfl, HG.out.2⟩
        · have tm : decide ((m : Int) - 1 ≤ (K : Int)) = false := decide_eq_false hkm
          have hlt : K + 1 < m := by omega
          have hfl := hown.lt
          rcases hown.2 with ⟨-, h0⟩ | ⟨gf, capf, cur, rfl, -, -, -, -, -, -⟩
          · omega
          obtain ⟨u, hu⟩ : ∃ u, vs[K + 1]? = some u := ⟨_, List.getElem?_eq_getElem (by have := HR4.out; omega)⟩
          have hgf := (hfl gf rfl).2
          have hcu : w.cell? ⟨gf, K + 1, none⟩ = some u := by
            have := hown.cells (g := gf) rfl _ _ hu
            rwa [Go.WideShapes.add_plain, Nat.zero_add] at this
          have hpt := hpv _ (List.mem_of_getElem? (pts_at (x := x) (k := K + 1) (by omega)))
          have hrow := hfar (K + 1) u hu
          have hstep : Hid (stepO nd l x gn a (K : Int) e = if e ∈ nextS nd l gn (fromS nd l gn ((ptsS x).getD (K + 1) 0)) a then some (comeS (ptsS x) b (K : Int)) else none) := by
            show _ = _
            unfold stepO
            rw [hE, hm, show ((K : Int) + 1).toNat = K + 1 by omega]
            by_cases hin : e ∈ nextS nd l gn (fromS nd l gn ((ptsS x).getD (K + 1) 0)) a
            · rw [if_pos hin, if_pos ⟨rfl, rfl, by omega, by omega, hin⟩]
            · rw [if_neg hin, if_neg (fun hh => hin hh.2.2.2.2)]
          obtain ⟨pt, hpt2⟩ : ∃ pt, (ptsS x).getD (K + 1) 0 = pt := ⟨_, rfl⟩
          rw [hpt2] at hpt hrow hstep
          have hfl2 := (fromS_row (gn := gn) hck hpt).1
          have hsm : ∀ z ∈ fromS nd l gn pt, -1099511627776 ≤ z ∧ z ≤ 1099511627776 := fun z hz => by have := fromS_mem z hz; omega
          obtain ⟨N, hN⟩ : ∃ N, nd.toNat = N := ⟨_, rfl⟩
          have hck2 := checkS_ok hck
          rw [hN] at hrow hfl2
          obtain ⟨A2, c2, rfl, hc2, hr2⟩ := own_ints hrow hfl2
          have hN1 : 1 ≤ N ∧ N ≤ 40 := by omega
          have ht : TArg w A2 N c2 (fromS nd l gn pt) := ⟨hr2, by omega, hc2, fun hA => (by obtain ⟨bb, oo, h5, -⟩ := hr2.2 (by omega); rw [h5] at hA; cases hA), hsm⟩
          obtain ⟨tw, hto⟩ : ∃ tw, fromS nd l gn pt = tw := ⟨_, rfl⟩
          rw [hto] at ht hstep
          obtain ⟨m2, hm2e⟩ : ∃ m2, (nextS nd l gn tw a).length = m2 := ⟨_, rfl⟩
          have HN := hid (fun W (hb : Below w.heap.size w W) => ints_out (m := m2) hm2e (refNext_spec nd A n c l Ag n cg gn A2 N c2 tw a W (hg.on hb) (hdg.on hb) (ht.on hb) (by omega) (by omega)))
          have HCm := hid (fun W (hb : Below w.heap.size w W) => come_any Ap m cp (ptsS x) b (K : Int) W (hp.on hb) (by omega) (by omega))
          have hm3 : m2 ≤ 240 := by rw [← hm2e]; exact next_len (by have := hg.row.1; omega)
          obtain ⟨L, hL⟩ : ∃ L, nextS nd l gn tw a = L := ⟨_, rfl⟩
          rw [hL] at HN hstep hm2e
          obtain ⟨q1, q2, hq⟩ : ∃ q1 q2, comeS (ptsS x) b (K : Int) = (q1, q2) := ⟨_, _, rfl⟩
          rw [hq] at HCm hstep
          have HCU := hid (fun W (hb : Below w.heap.size w W) => (hb.cell (p := ⟨gf, K + 1, none⟩) hgf).trans hcu)
          have ek : IntKind.i64.wrap ((K : Int) + 1) = (K : Int) + 1 := by rw [IntKind.wrap_i64]; omega
          have hki : (K : Int) + 1 < (m : Int) := by omega
          have hki0 : (0 : Int) ≤ (K : Int) + 1 := by omega
          clear hx1 hp hown hfar hdg hpv hu hcu hrow hpt hpt2 hfl2 hsm hN hck2 hr2 ht hto hL hq hfl hgf hm hml HR4
          go_enter Try.func56, Try.ntmps56
          go_wp2_with (go_at_call 13; (with_reducible refine (HE.out _ hS).mono ?_); rintro e' w3 ⟨rfl, hh3⟩; have HH3 := hid hh3; obtain ⟨z0, z1, z2⟩ := box_cells hh3.2.1; have hb3 := (box5_cells (HB.out w3 hh3.1)); obtain ⟨o0, o1, o2, o3, o4, -⟩ := hb3; clear hh3)
          go_big_quiet (fail)
          go_wp2_with fail
          have HQ := hid (HH3.out.next (Below.drewN' w3 nq))
          obtain ⟨wq, hwq⟩ : ∃ wq, w3.drewN nq = wq := ⟨_, rfl⟩
          rw [hwq] at HQ ⊢
          clear hwq o0 o1 o2 o3 o4 z0 z1 z2 HH3 s0 s1 s2 s3 s4
          obtain ⟨z0, z1, z2⟩ := box_cells HQ.out.2.1
          obtain ⟨o0, o1, o2, o3, o4, -⟩ := box5_cells (HB.out wq HQ.out.1)
          have ocu := HCU.out wq HQ.out.1
          go_still_tail 18, (by kernel_rfl)
          change wpList _ _ _ _ _ wq.drew
          have HQ2 := hid (HQ.out.next ((Below.refl _ wq).drew))
          have HQ2b := hid HQ2.out.1
          obtain ⟨wd, hwd⟩ : ∃ wd, wq.drew = wd := ⟨_, rfl⟩
          rw [hwd] at HQ2 HQ2b ⊢
          clear hwd o0 o1 o2 o3 o4 z0 z1 z2 ocu HQ ek
          go_wp2_with (go_at_call 25; (with_reducible refine (HN.out _ HQ2b.out).mono ?_); rintro e' w5 ⟨A5, c5, rfl, ⟨hr5, hc5, hn5⟩, hb5⟩; have HQ5 := hid (HQ2.out.next hb5); have HR5 := hid hr5; clear hb5 hr5 hn5)
          obtain ⟨z0, z1, z2⟩ := box_cells HQ5.out.2.1
          obtain ⟨y0, y1, y2⟩ := box_cells HQ5.out.2.2
          obtain ⟨o0, o1, o2, o3, o4, -⟩ := box5_cells (HB.out w5 HQ5.out.1)
          go_loopw [12] (fun iv wr => ∃ i : Nat, i ≤ m2 ∧ iv = .int .i64 i ∧ wr = w5 ∧ Hid (e ∉ L.take i)) (fun iv _ => m2 - (intOf iv).toNat)
          case atStart => exact ⟨0, Nat.zero_le _, rfl, rfl, by show e ∉ L.take 0; simp⟩
          case round =>
            obtain ⟨i, hi, rfl, rfl, HT⟩ := hrel
            have ewi : IntKind.i64.wrap ((i : Int) + 1) = (i : Int) + 1 := by rw [IntKind.wrap_i64]; omega
            by_cases hlti : i < m2
            · have hii : (i : Int) < (m2 : Int) := by omega
              have t1 : decide ((i : Int) < (m2 : Int)) = true := decide_eq_true hii
              have t2 : decide (i < m2) = true := decide_eq_true hlti
              obtain ⟨g5, hg5⟩ : ∃ g5, L[i]? = some g5 := ⟨_, List.getElem?_eq_getElem (by rw [hm2e]; exact hlti)⟩
              obtain ⟨b5, o5, rfl, hl5, hcell5⟩ := HR5.out.2 (by omega)
              have hc := hcell5 i g5 hg5
              clear hcell5
              have HG5 := hid hg5
              clear hg5
              by_cases hee : g5 = e
              · obtain rfl := hee
                have HV : Hid (stepO nd l x gn a (K : Int) g5 = some (q1, q2)) := by show _ = _; rw [hstep.out, if_pos (List.mem_of_getElem? HG5.out)]
                clear ewi
                go_wp2_with fail
                go_still_tail 8, (by kernel_rfl)
                change wpList _ _ _ _ _ wr.drew
                have HQ6 := hid (HQ5.out.next ((Below.refl _ wr).drew))
                have HQ6b := hid HQ6.out.1
                obtain ⟨w6, hw6⟩ : ∃ w6, wr.drew = w6 := ⟨_, rfl⟩
                rw [hw6] at HQ6 HQ6b ⊢
                clear hw6 z0 z1 z2 y0 y1 y2 o0 o1 o2 o3 o4 hc
                go_wp2_with (go_at_call 55; (with_reducible refine (HCm.out _ HQ6b.out).mono ?_); rintro e' w7 ⟨rfl, hb7⟩; have HQ7 := hid (HQ6.out.next hb7); obtain ⟨y0, y1, y2⟩ := box_cells HQ7.out.2.2; clear hb7)
                have HG := HQ7.out.put (a := q1) (b := q2)
                refine bodyPost_ret (results_cellrow_tmp (p := 6) (u := 7) (fn := Try.f56) rfl _ _ _ _ _ _ _ rfl HG.out.1 Try.underlying92 rfl (by kernel_rfl)) rfl ?_
                exact ⟨by rw [HV.out]; rfl, HG.out.2⟩
              · have te : (g5 == e) = false := beq_false_of_ne hee
                have HTn : Hid (e ∉ L.take (i + 1)) := by
                  show e ∉ _
                  rw [List.take_add_one, HG5.out]
                  intro hh
                  rcases List.mem_append.1 hh with hh | hh
                  · exact HT.out hh
                  · simp at hh; exact hee hh.symm
                clear hee
                go_wp2_with fail
                clear ewi
                go_roundw
                case rel => exact ⟨i + 1, by omega, by go_num, by first | rfl | trivial, HTn⟩
                case measure => simp [intOf]; omega
            · obtain rfl : i = m2 := by omega
              have t1 : decide ((i : Int) < (i : Int)) = false := by simp
              have t2 : decide (i < i) = false := by simp
              have HV : Hid (stepO nd l x gn a (K : Int) e = none) := by show _ = _; rw [hstep.out, if_neg]; rw [← List.take_of_length_le (Nat.le_of_eq hm2e)]; exact HT.out
              clear ewi
              go_wp2_with fail
              have HG := HQ5.out.put (a := 0) (b := 0)
              refine bodyPost_ret (results_cellrow_tmp (p := 6) (u := 7) (fn := Try.f56) rfl _ _ _ _ _ _ _ rfl HG.out.1 Try.underlying92 rfl (by kernel_rfl)) rfl ?_
              exact ⟨by rw [HV.out]; rfl, HG.out.2⟩
    · have ta : (a != v) = true := bne_iff_ne.2 ha
      clear hx1 hp hown hfar hdg hpv
      have HV : Hid (stepO nd l x gn v k e = none) := by show _ = _; unfold stepO; rw [if_neg]; intro hh; rw [hE] at hh; exact ha hh.2.1
      clear HR4
      go_enter Try.func56, Try.ntmps56
      go_wp2_with (go_at_call 13; (with_reducible refine (HE.out _ hS).mono ?_); rintro e' w3 ⟨rfl, hh3⟩; have HH3 := hid hh3; obtain ⟨z0, z1, z2⟩ := box_cells hh3.2.1; obtain ⟨y0, y1, y2⟩ := box_cells hh3.2.2; have hb3 := (box5_cells (HB.out w3 hh3.1)); obtain ⟨o0, o1, o2, o3, o4, -⟩ := hb3; clear hh3)
      go_big_quiet (fail)
      go_wp2_with fail
      have HG := (HH3.out.next (Below.drewN' w3 nq)).put (a := 0) (b := 0)
      refine bodyPost_ret (results_cellrow_tmp (p := 6) (u := 7) (fn := Try.f56) rfl _ _ _ _ _ _ _ rfl HG.out.1 Try.underlying92 rfl (by kernel_rfl)) rfl ?_
      exact ⟨by rw [HV.out]; rfl, HG.out.2⟩
end Go.Proofs.Ytkemcgbedapkcaa
