/- Cut out of OcF OcG OcH OcI. -/
import Derived.Test.YtabgbhkpeeibaaaOcE
import Derived.Test.YtabgbhkpeeibaaaOpJ
namespace Go.Proofs.Ytabgbhkpeeibaaa
open Go.RowKit
set_option maxHeartbeats 12800000
set_option maxRecDepth 100000
theorem cost_code : CostSpec 9 := fun nd A n c l x y Ad n' c' dn w hg hw hd h1 h2 h3 h4 => by
  have hS := Held2.start w nd A n c x y
  have HF := hid (fun W (hh : Held2 w nd A n c x y W) => (find_spec nd A n c l x y Ad n' c' dn W (hg.on hh.1) (hw.on hh.1) (hd.on hh.1) h1 h2 h3 h4).mono fun _ _ h => (⟨hh.next h.1, h.2⟩ : Held2 w nd A n c x y _ ∧ _))
  by_cases h : (costS nd l x dn).2 = 0
  · have HF2 : Hid (∀ W, Held2 w nd A n c x y W → Calls Try.prog 26 #[.agg #[.int .i64 nd, .slice A n c], .agg #[.int .i64 x.frm, .int .i64 x.too, .int .i64 x.bnd, .slice y.av y.nv y.cv, .slice y.an y.nn y.cn, .slice y.al y.nl y.cl, .slice y.ac y.nc y.cc], .slice Ad n' c'] W fun e w' => ∃ (Ap : Option Addr) (cp : Nat) (Ag : Option Addr) (cg : Nat) (Df : Option Addr) (cf : Nat), e = .returned (.tuple #[.agg #[.int .i64 nd, .slice A n c, .slice Ap (x.via.length + 2) cp, .slice Ag n cg, .slice Df (x.via.length + 1) cf, .int .i64 (costS nd l x dn).1], .int .i64 0]) ∧ Held2 w nd A n c x y w') := fun W hh => (HF.out W hh).mono fun e w' ⟨h5, h6⟩ => by
      rcases h6 with ⟨h7, _⟩ | ⟨_, Ap, cp, Ag, cg, Df, cf, vs, h7, _⟩
      · exact absurd h h7
      · exact ⟨Ap, cp, Ag, cg, Df, cf, h7, h5⟩
    obtain ⟨k1, hk1⟩ : ∃ k1, (costS nd l x dn).1 = k1 := ⟨_, rfl⟩
    rw [hk1] at HF2 ⊢
    rw [h]
    clear HF hg hw hd h hk1
    go_enter Try.func9, Try.ntmps9
    go_wp2_with (go_at_call 26; (with_reducible refine (HF2.out _ hS).mono ?_); rintro e' w1 ⟨Ap, cp, Ag, cg, Df, cf, rfl, hh1⟩)
    go_ret2
    exact ⟨rfl, hh1.1.alloc (by have := hh1.1.size; omega) _⟩
  · have HF2 : Hid (∀ W, Held2 w nd A n c x y W → Calls Try.prog 26 #[.agg #[.int .i64 nd, .slice A n c], .agg #[.int .i64 x.frm, .int .i64 x.too, .int .i64 x.bnd, .slice y.av y.nv y.cv, .slice y.an y.nn y.cn, .slice y.al y.nl y.cl, .slice y.ac y.nc y.cc], .slice Ad n' c'] W fun e w' => e = .returned (.tuple #[.agg #[.int .i64 0, .slice none 0 0, .slice none 0 0, .slice none 0 0, .slice none 0 0, .int .i64 0], .int .i64 (costS nd l x dn).2]) ∧ Held2 w nd A n c x y w') := fun W hh => (HF.out W hh).mono fun e w' ⟨h5, h6⟩ => by
      rcases h6 with ⟨_, h7⟩ | ⟨h7, _⟩
      · exact ⟨h7, h5⟩
      · exact absurd h7 h
    have h0 : (costS nd l x dn).1 = 0 := by
      unfold costS at h ⊢
      by_cases hr : rightS nd l x ≠ 0
      · rw [if_pos hr]
      · rw [if_neg hr] at h ⊢
        cases hl : legsS nd l (prunedS nd l x dn) x.frm (x.via ++ [x.too]) with
        | none => rfl
        | some s =>
          rw [hl] at h
          simp only at h ⊢
          split
          · rfl
          · rename_i h9
            rw [if_neg h9] at h
            exact absurd rfl h
    obtain ⟨k2, hk2⟩ : ∃ k2, (costS nd l x dn).2 = k2 := ⟨_, rfl⟩
    rw [hk2] at HF2 ⊢
    rw [h0]
    clear HF hg hw hd h hk2 h0
    go_enter Try.func9, Try.ntmps9
    go_wp2_with (go_at_call 26; (with_reducible refine (HF2.out _ hS).mono ?_); rintro e' w1 ⟨rfl, hh1⟩)
    go_ret2
    exact ⟨rfl, hh1.1.alloc (by have := hh1.1.size; omega) _⟩
theorem next_ends {nd : Int} {l : List Lnk} {gn : List Bool} {tw : List Int} {v e : Int} (hck : (checkS nd l).2 = 0) (h : e ∈ nextS nd l gn tw v) : (endsS l e).2.2 = true ∧ (endsS l e).1 = v := by
  unfold nextS at h
  split at h
  · have h1 := (List.mem_filter.1 h).1
    unfold outS at h1
    obtain ⟨h2, h3⟩ := List.mem_filter.1 h1
    obtain ⟨K, hK, rfl⟩ := List.mem_map.1 h2
    rw [List.mem_range] at hK
    refine ⟨?_, by simpa using h3⟩
    have := checkS_ok hck
    obtain ⟨N, rfl⟩ := Int.eq_ofNat_of_zero_le (show 0 ≤ nd by omega)
    obtain ⟨a, b, xx, hxx, hE, -⟩ := edge_facts (gok_of hck) hK
    rw [hE]
  · cases h
/-- Three boxes: the best's, a state's, the result's. -/
structure HeldB (w : World) (nd : Int) (A : Option Addr) (n c : Nat) (Ap : Option Addr) (m cp : Nat) (Ag : Option Addr) (cg : Nat) (Df : Option Addr) (k1 cf : Nat) (s v k : Int) (w' : World) : Prop where
  bel : Below w.heap.size w w'
  b0 : w'.heap[w.heap.size]? = some (.cells #[.int .i64 nd, .slice A n c, .slice Ap m cp, .slice Ag n cg, .slice Df k1 cf, .int .i64 s] 55 (0, 0))
  b1 : w'.heap[w.heap.size + 1]? = some (.cells #[.int .i64 v, .int .i64 k] 29 (0, 0))
  b2 : w'.heap[w.heap.size + 1 + 1]? = some (.cells #[.int .i64 0, .int .i64 0] 29 (0, 0))
section
variable {w w' w'' : World} {nd : Int} {A : Option Addr} {n c : Nat} {Ap : Option Addr} {m cp : Nat} {Ag : Option Addr} {cg : Nat} {Df : Option Addr} {k1 cf : Nat} {s v k : Int}
theorem HeldB.next (h : HeldB w nd A n c Ap m cp Ag cg Df k1 cf s v k w') (hb : Below w'.heap.size w' w'') : HeldB w nd A n c Ap m cp Ag cg Df k1 cf s v k w'' :=
  ⟨h.bel.trans (hb.mono h.bel.size), box_below h.b0 hb (blk_lt h.b0), box_below h.b1 hb (blk_lt h.b1), box_below h.b2 hb (blk_lt h.b2)⟩
theorem HeldB.start : HeldB w nd A n c Ap m cp Ag cg Df k1 cf s v k (((w.alloc (.cells #[.int .i64 nd, .slice A n c, .slice Ap m cp, .slice Ag n cg, .slice Df k1 cf, .int .i64 s] 55)).alloc (.cells #[.int .i64 v, .int .i64 k] 29)).alloc (.cells #[.int .i64 0, .int .i64 0] 29)) := by
  obtain ⟨w1, h1⟩ : ∃ w1, w.alloc (.cells #[.int .i64 nd, .slice A n c, .slice Ap m cp, .slice Ag n cg, .slice Df k1 cf, .int .i64 s] 55) = w1 := ⟨_, rfl⟩
  have b1 : Below w.heap.size w w1 := h1 ▸ (Below.refl _ w).alloc (Nat.le_refl _) _
  have s1 : w1.heap.size = w.heap.size + 1 := by rw [← h1]; simp
  have c1 := h1 ▸ heap_alloc_new w (.cells #[.int .i64 nd, .slice A n c, .slice Ap m cp, .slice Ag n cg, .slice Df k1 cf, .int .i64 s] 55)
  rw [h1]
  obtain ⟨w2, h2⟩ : ∃ w2, w1.alloc (.cells #[.int .i64 v, .int .i64 k] 29) = w2 := ⟨_, rfl⟩
  have b2 : Below w1.heap.size w1 w2 := h2 ▸ (Below.refl _ w1).alloc (Nat.le_refl _) _
  have s2 : w2.heap.size = w.heap.size + 1 + 1 := by rw [← h2, ← s1]; simp
  have c2 := h2 ▸ heap_alloc_new w1 (.cells #[.int .i64 v, .int .i64 k] 29)
  rw [h2]
  have b3 : Below w2.heap.size w2 (w2.alloc (.cells #[.int .i64 0, .int .i64 0] 29)) := (Below.refl _ w2).alloc (Nat.le_refl _) _
  have c3 := heap_alloc_new w2 (.cells #[.int .i64 0, .int .i64 0] 29)
  rw [s2] at c3
  rw [s1] at c2
  have b12 := b2.trans (b3.mono b2.size)
  exact ⟨b1.trans (b12.mono b1.size), box_below c1 b12 (by omega), box_below c2 b3 (by omega), c3⟩
theorem HeldB.drewN (h : HeldB w nd A n c Ap m cp Ag cg Df k1 cf s v k w') (q : Nat) : HeldB w nd A n c Ap m cp Ag cg Df k1 cf s v k (w'.drewN q) := h.next (Below.drewN' w' q)
theorem HeldB.put {a b : Int} (h : HeldB w nd A n c Ap m cp Ag cg Df k1 cf s v k w') : Hid (((w'.setCell ⟨w.heap.size + 1 + 1, 0, none⟩ (.int .i64 a)).setCell ⟨w.heap.size + 1 + 1, 1, none⟩ (.int .i64 b)).heap[w.heap.size + 1 + 1]? = some (.cells #[.int .i64 a, .int .i64 b] 29 (0, 0)) ∧ Below w.heap.size w ((w'.setCell ⟨w.heap.size + 1 + 1, 0, none⟩ (.int .i64 a)).setCell ⟨w.heap.size + 1 + 1, 1, none⟩ (.int .i64 b))) :=
  ⟨box_set1 (box_set0 h.b2), (h.bel.setCell (show w.heap.size ≤ w.heap.size + 1 + 1 by omega) _).setCell (show w.heap.size ≤ w.heap.size + 1 + 1 by omega) _⟩
end
/-- What a best's step answers. -/
def BStepSpec (f : Nat) : Prop := ∀ (nd : Int) (A : Option Addr) (n c : Nat) (l : List Lnk) (x : Wnt) (gn : List Bool) (Ap : Option Addr) (cp : Nat) (Ag : Option Addr) (cg : Nat) (Df : Option Addr) (cf : Nat) (vs : List Value) (s v k e : Int) (w : World), BestAt w nd n l x gn Ap cp Ag cg (.slice Df (x.via.length + 1) cf) vs → GArg w nd A n c l → rightS nd l x = 0 → -9223372036854775808 ≤ v ∧ v ≤ 9223372036854775807 → -9223372036854775808 ≤ k ∧ k ≤ 9223372036854775807 → -9223372036854775808 ≤ e ∧ e ≤ 9223372036854775807 →
  Calls Try.prog f #[.agg #[.int .i64 nd, .slice A n c, .slice Ap (x.via.length + 2) cp, .slice Ag n cg, .slice Df (x.via.length + 1) cf, .int .i64 s], .agg #[.int .i64 v, .int .i64 k], .int .i64 e] w fun x' w' => x' = .returned (stepV (stepO nd l x gn v k e)) ∧ Below w.heap.size w w'
theorem bStep_spec : BStepSpec 31 := by
  intro nd A n c l x gn Ap cp Ag cg Df cf vs s v k e w hB hg hr0 hv hk he
  obtain ⟨hck, hpv, hv4⟩ := right_ok hr0
  have hml := ptsS_len x
  obtain ⟨kk, hkk⟩ : ∃ kk, x.via.length = kk := ⟨_, rfl⟩
  have hp := hB.pts
  have hdg := hB.dwn
  have hown := hB.own
  have hfar := hB.far
  rw [hkk] at hp hown hml hv4 ⊢
  clear hB
  have hS := HeldB.start (w := w) (nd := nd) (A := A) (n := n) (c := c) (Ap := Ap) (m := kk + 2) (cp := cp) (Ag := Ag) (cg := cg) (Df := Df) (k1 := kk + 1) (cf := cf) (s := s) (v := v) (k := k)
  obtain ⟨z0, z1, z2⟩ := box_cells hS.b1
  obtain ⟨p0, p1, p2, p3, p4, p5, p6⟩ := box6_cells hS.b0
  obtain ⟨y0, y1, y2⟩ := box_cells hS.b2
  by_cases hk0 : k < 0
  · have tk : decide (k < 0) = true := decide_eq_true hk0
    have HV : Hid (stepO nd l x gn v k e = none) := by show _ = _; unfold stepO; rw [if_neg]; intro hh; omega
    have HS := hid hS
    clear hp hdg hown hfar hpv hS hk0
    go_enter Try.func31, Try.ntmps31
    go_wp2_with fail
    go_big_quiet (fail)
    go_wp2_with fail
    have HG := (HS.out.drewN nq).put (a := 0) (b := 0)
    refine bodyPost_ret (results_cellrow_tmp (p := 6) (u := 7) (fn := Try.f31) rfl _ _ _ _ _ _ _ rfl HG.out.1 Try.underlying29 rfl (by kernel_rfl)) rfl ?_
    exact ⟨by rw [HV.out]; rfl, HG.out.2⟩
  · have tk : decide (k < 0) = false := decide_eq_false hk0
    obtain ⟨K, rfl⟩ := Int.eq_ofNat_of_zero_le (show 0 ≤ k by omega)
    by_cases hkm : (kk : Int) + 1 ≤ (K : Int)
    · have tm : decide ((kk : Int) + 1 ≤ (K : Int)) = true := decide_eq_true hkm
      have HV : Hid (stepO nd l x gn v (K : Int) e = none) := by show _ = _; unfold stepO; rw [if_neg]; intro hh; rw [hml] at hh; omega
      have HS := hid hS
      clear hp hdg hown hfar hpv hS hk0
      go_enter Try.func31, Try.ntmps31
      go_wp2_with fail
      go_big_quiet (fail)
      go_wp2_with fail
      have HG := (HS.out.drewN nq).put (a := 0) (b := 0)
      refine bodyPost_ret (results_cellrow_tmp (p := 6) (u := 7) (fn := Try.f31) rfl _ _ _ _ _ _ _ rfl HG.out.1 Try.underlying29 rfl (by kernel_rfl)) rfl ?_
      exact ⟨by rw [HV.out]; rfl, HG.out.2⟩
    · have tm : decide ((kk : Int) + 1 ≤ (K : Int)) = false := decide_eq_false hkm
      have hlt : K < kk + 1 := by omega
      have hfl := hown.lt
      rcases hown.2 with ⟨-, h0⟩ | ⟨gf, capf, cur, he0, -, -, -, -, -, -⟩
      · omega
      cases he0
      obtain ⟨u, hu⟩ : ∃ u, vs[K]? = some u := ⟨_, List.getElem?_eq_getElem (by have := hown.1; omega)⟩
      have hgf := (hfl gf rfl).2
      have hcu : w.cell? ⟨gf, K, none⟩ = some u := by
        have := hown.cells (g := gf) rfl _ _ hu
        rwa [Go.WideShapes.add_plain, Nat.zero_add] at this
      have hrow := hfar K u hu
      have hgd : ((ptsS x).drop 1).getD K 0 = (ptsS x).getD (K + 1) 0 := by
        rw [List.getD_eq_getElem?_getD, List.getD_eq_getElem?_getD, List.getElem?_drop, Nat.add_comm]
      rw [hgd] at hrow
      have hpt := hpv _ (List.mem_of_getElem? (pts_at (x := x) (k := K + 1) (by omega)))
      have hstep : Hid (stepO nd l x gn v (K : Int) e = if e ∈ nextS nd l gn (fromS nd l gn ((ptsS x).getD (K + 1) 0)) v then some (comeS (ptsS x) (endsS l e).2.1 (K : Int)) else none) := by
        show _ = _
        unfold stepO
        rw [show ((K : Int) + 1).toNat = K + 1 by omega]
        by_cases hin : e ∈ nextS nd l gn (fromS nd l gn ((ptsS x).getD (K + 1) 0)) v
        · have hne := next_ends hck hin
          rw [if_pos hin, if_pos ⟨hne.1, hne.2, by omega, by rw [hml]; omega, hin⟩]
        · rw [if_neg hin, if_neg (fun hh => hin hh.2.2.2.2)]
      obtain ⟨pt, hpt2⟩ : ∃ pt, (ptsS x).getD (K + 1) 0 = pt := ⟨_, rfl⟩
      rw [hpt2] at hpt hrow hstep
      have hfl2 := (fromS_row (gn := gn) hck hpt).1
      have hsm : ∀ z ∈ fromS nd l gn pt, -1099511627776 ≤ z ∧ z ≤ 1099511627776 := fun z hz => by have := fromS_mem z hz; omega
      obtain ⟨N, hN⟩ : ∃ N, nd.toNat = N := ⟨_, rfl⟩
      have hck2 := checkS_ok hck
      rw [hN] at hrow hfl2
      obtain ⟨A2, c2, rfl, hc2, hr2⟩ := own_ints hrow hfl2
      have hN1 : 1 ≤ N ∧ N ≤ 40 := by omega
      have ht : TArg w A2 N c2 (fromS nd l gn pt) := ⟨hr2, by omega, hc2, fun hA => (by obtain ⟨bb, oo, h5, -⟩ := hr2.2 (by omega); rw [h5] at hA; cases hA), hsm⟩
      obtain ⟨tw, hto⟩ : ∃ tw, fromS nd l gn pt = tw := ⟨_, rfl⟩
      rw [hto] at ht hstep
      obtain ⟨L, hL⟩ : ∃ L, nextS nd l gn tw v = L := ⟨_, rfl⟩
      obtain ⟨m2, hm2e⟩ : ∃ m2, L.length = m2 := ⟨_, rfl⟩
      have hm3 : m2 ≤ 240 := by rw [← hm2e, ← hL]; exact next_len (by have := hg.row.1; have := hg.len; omega)
      have HN := hid (fun W (hb : Below w.heap.size w W) => ints_out (m := m2) (by rw [hL]; exact hm2e) (next_spec nd A n c l Ag n cg gn A2 N c2 tw v W (hg.on hb) (hdg.on hb) (ht.on hb) hv.1 hv.2))
      rw [hL] at HN hstep
      have HCt := hid (fun A5 c5 W (hr : RInt W W.heap.size A5 m2 L) => contains_any A5 m2 c5 L e W hr (by omega))
      obtain ⟨A6, c6, he6, -, hrp⟩ := own_ints hp hml
      cases he6
      have HCU := hid (fun W (hb : Below w.heap.size w W) => (hb.cell (p := ⟨gf, K, none⟩) hgf).trans hcu)
      have hki : (K : Int) < (kk : Int) + 1 := by omega
      by_cases hin : e ∈ L
      · have tin : decide (e ∈ L) = true := decide_eq_true hin
        rw [tin] at HCt
        have hs2 := hstep.out
        rw [if_pos hin] at hs2
        have HE := hid (fun W (hb : Below w.heap.size w W) => (ends_any nd A n c l e W (hg.on hb).row (by have := hg.len; omega) he.2))
        obtain ⟨ea, eb, eo, hE⟩ : ∃ a b o, endsS l e = (a, b, o) := ⟨_, _, _, rfl⟩
        rw [hE] at HE hs2
        have HCm := hid (fun W (hb : Below w.heap.size w W) => comeTo_any Ap (kk + 2) cp (ptsS x) eb K W (hrp.on hb) (by omega) (by omega))
        obtain ⟨q1, q2, hq⟩ : ∃ q1 q2, comeS (ptsS x) eb (K : Int) = (q1, q2) := ⟨_, _, rfl⟩
        rw [hq] at HCm
        dsimp only at hs2
        rw [hq] at hs2
        have HV := hid hs2
        have HS := hid hS
        clear hp hdg hown hfar hu hcu hrow hpt hpt2 hfl2 hsm hN hck2 hr2 ht hto hL hq hfl hgf hml hk0 hkm hin tin hs2 hstep hS hpv hrp hE hg hgd hm2e
        go_enter Try.func31, Try.ntmps31
        go_wp2_with fail
        go_big_quiet (fail)
        go_wp2_with fail
        have HQ := hid (HS.out.drewN nq)
        clear HS z0 z1 z2 p0 p1 p2 p3 p4 p5 p6 y0 y1 y2
        obtain ⟨wq, hwq⟩ : ∃ wq, (((w.alloc (.cells #[.int .i64 nd, .slice A n c, .slice Ap (kk + 2) cp, .slice Ag n cg, .slice (some ⟨gf, 0, none⟩) (kk + 1) cf, .int .i64 s] 55)).alloc (.cells #[.int .i64 v, .int .i64 (K : Int)] 29)).alloc (.cells #[.int .i64 0, .int .i64 0] 29)).drewN nq = wq := ⟨_, rfl⟩
        rw [hwq] at HQ ⊢
        clear hwq
        have HQd := hid (HQ.out.next ((Below.refl _ wq).drew))
        clear HQ
        obtain ⟨z0, z1, z2⟩ := box_cells HQd.out.b1
        obtain ⟨p0, p1, p2, p3, p4, p5, p6⟩ := box6_cells HQd.out.b0
        have ocu := HCU.out _ HQd.out.bel
        go_region_law (first
          | (go_simp; go_at_call 42; (with_reducible refine (HN.out _ HQd.out.bel).mono ?_); rintro e' w5 ⟨A5, c5, rfl, ⟨hr5, hc5, hn5⟩, hb5⟩; have HQ5 := hid (HQd.out.next hb5); have HR5 := hid hr5; clear hb5 hr5 hn5)
          | (go_simp; go_at_call 41; (with_reducible refine (HCt.out _ _ _ HR5.out).mono ?_); rintro e' w6 ⟨rfl, rfl⟩))
        all_goals
          obtain ⟨z0, z1, z2⟩ := box_cells HQ5.out.b1
          obtain ⟨p0, p1, p2, p3, p4, p5, p6⟩ := box6_cells HQ5.out.b0
          obtain ⟨y0, y1, y2⟩ := box_cells HQ5.out.b2
          go_wp2_with (first
            | (go_at_call 43; (with_reducible refine (HE.out _ HQ5.out.bel).mono ?_); rintro e' w7 ⟨rfl, hb7⟩; have HQ7 := hid (HQ5.out.next hb7); obtain ⟨p0, p1, p2, p3, p4, p5, p6⟩ := box6_cells HQ7.out.b0; clear hb7)
            | (go_at_call 28; (with_reducible refine (HCm.out _ HQ7.out.bel).mono ?_); rintro e' w8 ⟨rfl, hb8⟩; have HQ8 := hid (HQ7.out.next hb8); obtain ⟨y0, y1, y2⟩ := box_cells HQ8.out.b2; clear hb8))
          have HG := HQ8.out.put (a := q1) (b := q2)
          refine bodyPost_ret (results_cellrow_tmp (p := 6) (u := 7) (fn := Try.f31) rfl _ _ _ _ _ _ _ rfl HG.out.1 Try.underlying29 rfl (by kernel_rfl)) rfl ?_
          exact ⟨by rw [HV.out]; rfl, HG.out.2⟩
      · have tin : decide (e ∈ L) = false := decide_eq_false hin
        rw [tin] at HCt
        have hs2 := hstep.out
        rw [if_neg hin] at hs2
        have HV := hid hs2
        have HS := hid hS
        clear hp hdg hown hfar hu hcu hrow hpt hpt2 hfl2 hsm hN hck2 hr2 ht hto hL hfl hgf hml hk0 hkm hin tin hs2 hstep hS hpv hrp hg hgd hm2e
        go_enter Try.func31, Try.ntmps31
        go_wp2_with fail
        go_big_quiet (fail)
        go_wp2_with fail
        have HQ := hid (HS.out.drewN nq)
        clear HS z0 z1 z2 p0 p1 p2 p3 p4 p5 p6 y0 y1 y2
        obtain ⟨wq, hwq⟩ : ∃ wq, (((w.alloc (.cells #[.int .i64 nd, .slice A n c, .slice Ap (kk + 2) cp, .slice Ag n cg, .slice (some ⟨gf, 0, none⟩) (kk + 1) cf, .int .i64 s] 55)).alloc (.cells #[.int .i64 v, .int .i64 (K : Int)] 29)).alloc (.cells #[.int .i64 0, .int .i64 0] 29)).drewN nq = wq := ⟨_, rfl⟩
        rw [hwq] at HQ ⊢
        clear hwq
        have HQd := hid (HQ.out.next ((Below.refl _ wq).drew))
        clear HQ
        obtain ⟨z0, z1, z2⟩ := box_cells HQd.out.b1
        obtain ⟨p0, p1, p2, p3, p4, p5, p6⟩ := box6_cells HQd.out.b0
        have ocu := HCU.out _ HQd.out.bel
        go_region_law (first
          | (go_simp; go_at_call 42; (with_reducible refine (HN.out _ HQd.out.bel).mono ?_); rintro e' w5 ⟨A5, c5, rfl, ⟨hr5, hc5, hn5⟩, hb5⟩; have HQ5 := hid (HQd.out.next hb5); have HR5 := hid hr5; clear hb5 hr5 hn5)
          | (go_simp; go_at_call 41; (with_reducible refine (HCt.out _ _ _ HR5.out).mono ?_); rintro e' w6 ⟨rfl, rfl⟩))
        all_goals
          obtain ⟨z0, z1, z2⟩ := box_cells HQ5.out.b1
          obtain ⟨p0, p1, p2, p3, p4, p5, p6⟩ := box6_cells HQ5.out.b0
          obtain ⟨y0, y1, y2⟩ := box_cells HQ5.out.b2
          go_wp2_with fail
          have HG := HQ5.out.put (a := 0) (b := 0)
          refine bodyPost_ret (results_cellrow_tmp (p := 6) (u := 7) (fn := Try.f31) rfl _ _ _ _ _ _ _ rfl HG.out.1 Try.underlying29 rfl (by kernel_rfl)) rfl ?_
          exact ⟨by rw [HV.out]; rfl, HG.out.2⟩
theorem cost_right {nd : Int} {l : List Lnk} {x : Wnt} {dn : List Bool} (hc : (costS nd l x dn).2 = 0) : rightS nd l x = 0 := by
  rcases Classical.em (rightS nd l x = 0) with h5 | h5
  · exact h5
  · unfold costS at hc; rw [if_pos h5] at hc; exact absurd hc h5
theorem step_code : StepSpec 18 := by
  intro nd A n c l x y Ad n' c' dn v k e w hg hw hd h1 h2 h3 h4 hv hk he
  have hS := HeldS.start w nd A n c x y v k
  have HF := hid (fun W (hh : HeldS w nd A n c x y v k W) => (find_spec nd A n c l x y Ad n' c' dn W (hg.on hh.1.1) (hw.on hh.1.1) (hd.on hh.1.1) h1 h2 h3 h4).mono fun _ _ h => (⟨hh.next h.1, h.2⟩ : HeldS w nd A n c x y v k _ ∧ _))
  by_cases hc : (costS nd l x dn).2 = 0
  · have hr0 := cost_right hc
    obtain ⟨gn, hgn⟩ : ∃ gn, prunedS nd l x dn = gn := ⟨_, rfl⟩
    obtain ⟨kk, hkk⟩ : ∃ kk, x.via.length = kk := ⟨_, rfl⟩
    have HF2 : Hid (∀ W, HeldS w nd A n c x y v k W → Calls Try.prog 26 #[.agg #[.int .i64 nd, .slice A n c], .agg #[.int .i64 x.frm, .int .i64 x.too, .int .i64 x.bnd, .slice y.av y.nv y.cv, .slice y.an y.nn y.cn, .slice y.al y.nl y.cl, .slice y.ac y.nc y.cc], .slice Ad n' c'] W fun e w' => ∃ (Ap : Option Addr) (cp : Nat) (Ag : Option Addr) (cg : Nat) (Df : Option Addr) (cf : Nat) (s : Int) (vs : List Value), e = .returned (.tuple #[.agg #[.int .i64 nd, .slice A n c, .slice Ap (kk + 2) cp, .slice Ag n cg, .slice Df (kk + 1) cf, .int .i64 s], .int .i64 0]) ∧ HeldS w nd A n c x y v k w' ∧ BestAt w' nd n l x gn Ap cp Ag cg (.slice Df (x.via.length + 1) cf) vs) := fun W hh => (HF.out W hh).mono fun e w' ⟨h5, h6⟩ => by
      rcases h6 with ⟨h7, _⟩ | ⟨_, Ap, cp, Ag, cg, Df, cf, vs, h7, h8⟩
      · exact absurd hc h7
      · rw [hgn] at h8
        exact ⟨Ap, cp, Ag, cg, Df, cf, _, vs, by rw [h7, hkk], h5, h8⟩
    have HSt := hid (fun Ap cp Ag cg Df cf vs s W (hh : HeldS w nd A n c x y v k W) (hb : BestAt W nd n l x gn Ap cp Ag cg (.slice Df (x.via.length + 1) cf) vs) => (bStep_spec nd A n c l x gn Ap cp Ag cg Df cf vs s v k e W hb (hg.on hh.1.1) hr0 hv hk he).mono fun _ _ h => (⟨h.1, hh.next h.2⟩ : _ ∧ HeldS w nd A n c x y v k _))
    have hV : Hid (stepS nd l x dn v k e = stepO nd l x gn v k e) := by show _ = _; unfold stepS; rw [if_pos hc, hgn]
    obtain ⟨q1, q2, q3, hq, hq2⟩ : ∃ q1 q2 q3, stepV (stepO nd l x gn v k e) = .tuple #[.agg #[.int .i64 q1, .int .i64 q2], .bool q3] ∧ True := by
      cases stepO nd l x gn v k e with
      | none => exact ⟨_, _, _, rfl, trivial⟩
      | some p => exact ⟨_, _, _, rfl, trivial⟩
    rw [hq] at HSt
    have HSt2 : Hid (∀ Ap cp Ag cg Df cf vs s W, HeldS w nd A n c x y v k W → BestAt W nd n l x gn Ap cp Ag cg (.slice Df (x.via.length + 1) cf) vs → Calls Try.prog 31 #[.agg #[.int .i64 nd, .slice A n c, .slice Ap (kk + 2) cp, .slice Ag n cg, .slice Df (kk + 1) cf, .int .i64 s], .agg #[.int .i64 v, .int .i64 k], .int .i64 e] W fun x' w' => x' = .returned (.tuple #[.agg #[.int .i64 q1, .int .i64 q2], .bool q3]) ∧ HeldS w nd A n c x y v k w') := fun Ap cp Ag cg Df cf vs s W hh hb => by
      have := HSt.out Ap cp Ag cg Df cf vs s W hh hb
      rw [hkk] at this
      exact this
    have HQ := hid hq
    clear hq hq2 HF hg hw hd hc hr0 hv hk he h1 h2 h3 h4 HSt hkk hgn
    go_enter Try.func18, Try.ntmps18
    go_wp2_with (first
      | (go_at_call 26; (with_reducible refine (HF2.out _ hS).mono ?_); rintro e' w3 ⟨Ap, cp, Ag, cg, Df, cf, s, vs, rfl, hh3, hb3⟩; have hba : Below w3.heap.size w3 (w3.alloc (.cells #[.int .i64 nd, .slice A n c, .slice Ap (kk + 2) cp, .slice Ag n cg, .slice Df (kk + 1) cf, .int .i64 s] 55)) := (Below.refl _ _).alloc (Nat.le_refl _) _; have HH3 := hid (hh3.next hba); have HB3 := hid (hb3.on hba); obtain ⟨z0, z1, z2⟩ := box_cells HH3.out.2.1; obtain ⟨p0, p1, p2, p3, p4, p5, p6⟩ := box6_cells (heap_alloc_new w3 (.cells #[.int .i64 nd, .slice A n c, .slice Ap (kk + 2) cp, .slice Ag n cg, .slice Df (kk + 1) cf, .int .i64 s] 55)); clear hh3 hb3 hba)
      | (go_at_call 31; (with_reducible refine (HSt2.out _ _ _ _ _ _ _ _ _ HH3.out HB3.out).mono ?_); rintro e' w4 ⟨rfl, hh4⟩; obtain ⟨y0, y1, y2⟩ := box_cells hh4.2.2))
    have HG := HeldS.put (a := q1) (b := q2) hh4
    refine bodyPost_ret (results_cellrow_tmp (p := 10) (u := 11) (fn := Try.f18) rfl _ _ _ _ _ _ _ rfl HG.out.1 Try.underlying29 rfl (by kernel_rfl)) rfl ?_
    exact ⟨by rw [hV.out, HQ.out]; rfl, HG.out.2⟩
  · have hV := hid (step_none_off (v := v) (k := k) (e := e) hc)
    have HF2 : Hid (∀ W, HeldS w nd A n c x y v k W → Calls Try.prog 26 #[.agg #[.int .i64 nd, .slice A n c], .agg #[.int .i64 x.frm, .int .i64 x.too, .int .i64 x.bnd, .slice y.av y.nv y.cv, .slice y.an y.nn y.cn, .slice y.al y.nl y.cl, .slice y.ac y.nc y.cc], .slice Ad n' c'] W fun e w' => e = .returned (.tuple #[.agg #[.int .i64 0, .slice none 0 0, .slice none 0 0, .slice none 0 0, .slice none 0 0, .int .i64 0], .int .i64 (costS nd l x dn).2]) ∧ HeldS w nd A n c x y v k w') := fun W hh => (HF.out W hh).mono fun e w' ⟨h5, h6⟩ => by
      rcases h6 with ⟨_, h7⟩ | ⟨h7, _⟩
      · exact ⟨h7, h5⟩
      · exact absurd h7 hc
    obtain ⟨k2, hk2⟩ : ∃ k2, (costS nd l x dn).2 = k2 := ⟨_, rfl⟩
    rw [hk2] at HF2 hc
    have d1 : (k2 != 0) = true := bne_iff_ne.2 hc
    clear HF hg hw hd hc hv hk he h1 h2 h3 h4 hk2
    go_enter Try.func18, Try.ntmps18
    go_wp2_with (go_at_call 26; (with_reducible refine (HF2.out _ hS).mono ?_); rintro e' w3 ⟨rfl, hh3⟩; have hba : Below w3.heap.size w3 (w3.alloc (.cells #[.int .i64 0, .slice none 0 0, .slice none 0 0, .slice none 0 0, .slice none 0 0, .int .i64 0] 55)) := (Below.refl _ _).alloc (Nat.le_refl _) _; have HH3 := hid (hh3.next hba); obtain ⟨y0, y1, y2⟩ := box_cells HH3.out.2.2; clear hh3 hba)
    have HG := HeldS.put (a := 0) (b := 0) HH3.out
    refine bodyPost_ret (results_cellrow_tmp (p := 10) (u := 11) (fn := Try.f18) rfl _ _ _ _ _ _ _ rfl HG.out.1 Try.underlying29 rfl (by kernel_rfl)) rfl ?_
    exact ⟨by rw [hV.out]; rfl, HG.out.2⟩
/-- A block of two ints is no row of bools. -/
theorem DArg.but2 {w w' : World} {A : Option Addr} {n c : Nat} {l : List Bool} {B : Nat} {a b : Int} {T : TypeId} (h : DArg w A n c l) (hb : But B w w') (hx : w.heap[B]? = some (.cells #[.int .i64 a, .int .i64 b] T (0, 0))) : DArg w' A n c l := by
  refine ⟨⟨h.row.1, fun hn => ?_⟩, h.len, h.cap, h.non⟩
  obtain ⟨b', off, hA, hlt, hc⟩ := h.row.2 hn
  have hne : b' ≠ B := by
    rintro rfl
    obtain ⟨x, hx0⟩ : ∃ x, l[0]? = some x := ⟨_, List.getElem?_eq_getElem (by have := h.row.1; omega)⟩
    have h0 := hc 0 x hx0
    rw [cell_of_row _ _ _ _ _ _ hx] at h0
    rcases off with _ | _ | off
    · simp at h0
    · simp at h0
    · simp at h0
  exact ⟨b', off, hA, Nat.lt_of_lt_of_le hlt hb.size, fun i x hi => (World.cell?_of_block (hb.block b' hlt hne)).trans (hc i x hi)⟩
theorem BestAt.but2 {w w' : World} {nd : Int} {n : Nat} {l : List Lnk} {x : Wnt} {gn : List Bool} {Ap : Option Addr} {cp : Nat} {Ag : Option Addr} {cg : Nat} {vF : Value} {vs : List Value} {B : Nat} {a b : Int} (h : BestAt w nd n l x gn Ap cp Ag cg vF vs) (hb : But B w w')
    (hx : w.heap[B]? = some (.cells #[.int .i64 a, .int .i64 b] 29 (0, 0))) : BestAt w' nd n l x gn Ap cp Ag cg vF vs :=
  ⟨own_but h.pts hb hx (by decide), h.dwn.but2 hb hx, own_but h.own hb hx (by decide), fun i v hv => own_but (h.far i v hv) hb hx (by decide)⟩
/-- Has's boxes: a graph's, a want's, the best's, and its state's. -/
structure HeldH (w : World) (nd : Int) (A : Option Addr) (n c : Nat) (l : List Lnk) (x : Wnt) (y : WSl) (gn : List Bool) (kk : Nat) (Ap : Option Addr) (cp : Nat) (Ag : Option Addr) (cg : Nat) (Df : Option Addr) (cf : Nat) (s : Int) (vs : List Value) (Bb T : Nat) (v k : Int) (w' : World) : Prop where
  held : Held2 w nd A n c x y w'
  bb : w'.heap[Bb]? = some (.cells #[.int .i64 nd, .slice A n c, .slice Ap (kk + 2) cp, .slice Ag n cg, .slice Df (kk + 1) cf, .int .i64 s] 55 (0, 0))
  tt : w'.heap[T]? = some (.cells #[.int .i64 v, .int .i64 k] 29 (0, 0))
  best : BestAt w' nd n l x gn Ap cp Ag cg (.slice Df (kk + 1) cf) vs
  gt : w.heap.size + 1 < T
  ne : Bb < T
section
variable {w w' w'' : World} {nd : Int} {A : Option Addr} {n c : Nat} {l : List Lnk} {x : Wnt} {y : WSl} {gn : List Bool} {kk : Nat} {Ap : Option Addr} {cp : Nat} {Ag : Option Addr} {cg : Nat} {Df : Option Addr} {cf : Nat} {s : Int} {vs : List Value} {Bb T : Nat} {v k : Int}
theorem HeldH.next (h : HeldH w nd A n c l x y gn kk Ap cp Ag cg Df cf s vs Bb T v k w') (hb : Below w'.heap.size w' w'') : HeldH w nd A n c l x y gn kk Ap cp Ag cg Df cf s vs Bb T v k w'' :=
  ⟨h.held.next hb, box_below h.bb hb (blk_lt h.bb), box_below h.tt hb (blk_lt h.tt), h.best.on hb, h.gt, h.ne⟩
theorem HeldH.put {a b : Int} (h : HeldH w nd A n c l x y gn kk Ap cp Ag cg Df cf s vs Bb T v k w') : HeldH w nd A n c l x y gn kk Ap cp Ag cg Df cf s vs Bb T a b ((w'.setCell ⟨T, 0, none⟩ (.int .i64 a)).setCell ⟨T, 1, none⟩ (.int .i64 b)) := by
  have hb : But T w' ((w'.setCell ⟨T, 0, none⟩ (.int .i64 a)).setCell ⟨T, 1, none⟩ (.int .i64 b)) := But.set.trans But.set
  exact ⟨(h.held.set h.gt).set h.gt, by rw [hb.block _ (blk_lt h.bb) (by have := h.ne; omega)]; exact h.bb, box_set1 (box_set0 h.tt), h.best.but2 hb h.tt, h.gt, h.ne⟩
end
theorem has_code : HasSpec 16 := by
  intro nd A n c l x y Ad n' c' dn Ae ne ce es w hg hw hd h1 h2 h3 h4 hes
  have hS := Held2.start w nd A n c x y
  have HF := hid (fun W (hh : Held2 w nd A n c x y W) => (find_spec nd A n c l x y Ad n' c' dn W (hg.on hh.1) (hw.on hh.1) (hd.on hh.1) h1 h2 h3 h4).mono fun _ _ h => (⟨hh.next h.1, h.2⟩ : Held2 w nd A n c x y _ ∧ _))
  have HSa := hid (fun W (hh : Held2 w nd A n c x y W) => oStart_any x y W (hw.on hh.1) (by omega))
  have HGo := hid (fun W (hh : Held2 w nd A n c x y W) => oGoal_any x y W (hw.on hh.1) (by omega))
  have hne := hes.len
  obtain ⟨s1, s2, hs⟩ : ∃ s1 s2, startS x = (s1, s2) := ⟨_, _, rfl⟩
  obtain ⟨g1, g2, hgo⟩ : ∃ g1 g2, goalS x = (g1, g2) := ⟨_, _, rfl⟩
  have hsr := fun h => startS_rng (x := x) (nd := nd) (l := l) h
  rw [hs] at HSa hsr
  rw [hgo] at HGo
  by_cases hc : (costS nd l x dn).2 = 0
  · have hr0 := cost_right hc
    have hsr2 := hsr hr0
    have hV : Hid (hasS nd l x dn es = (walkO nd l x (prunedS nd l x dn) (some (s1, s2)) es == some (g1, g2))) := by show _ = _; unfold hasS; rw [hc, hs, hgo]; rfl
    obtain ⟨gn, hgn⟩ : ∃ gn, prunedS nd l x dn = gn := ⟨_, rfl⟩
    rw [hgn] at hV
    obtain ⟨kk, hkk⟩ : ∃ kk, x.via.length = kk := ⟨_, rfl⟩
    have HF2 : Hid (∀ W, Held2 w nd A n c x y W → Calls Try.prog 26 #[.agg #[.int .i64 nd, .slice A n c], .agg #[.int .i64 x.frm, .int .i64 x.too, .int .i64 x.bnd, .slice y.av y.nv y.cv, .slice y.an y.nn y.cn, .slice y.al y.nl y.cl, .slice y.ac y.nc y.cc], .slice Ad n' c'] W fun e w' => ∃ (Ap : Option Addr) (cp : Nat) (Ag : Option Addr) (cg : Nat) (Df : Option Addr) (cf : Nat) (s : Int) (vs : List Value), e = .returned (.tuple #[.agg #[.int .i64 nd, .slice A n c, .slice Ap (kk + 2) cp, .slice Ag n cg, .slice Df (kk + 1) cf, .int .i64 s], .int .i64 0]) ∧ Held2 w nd A n c x y w' ∧ BestAt w' nd n l x gn Ap cp Ag cg (.slice Df (kk + 1) cf) vs) := fun W hh => (HF.out W hh).mono fun e w' ⟨h5, h6⟩ => by
      rcases h6 with ⟨h7, _⟩ | ⟨_, Ap, cp, Ag, cg, Df, cf, vs, h7, h8⟩
      · exact absurd hc h7
      · rw [hgn, hkk] at h8
        exact ⟨Ap, cp, Ag, cg, Df, cf, _, vs, by rw [h7, hkk], h5, h8⟩
    have HSt : Hid (∀ Ap cp Ag cg Df cf s vs Bb T v k e W, -9223372036854775808 ≤ v ∧ v ≤ 9223372036854775807 → -9223372036854775808 ≤ k ∧ k ≤ 9223372036854775807 → -9223372036854775808 ≤ e ∧ e ≤ 9223372036854775807 → HeldH w nd A n c l x y gn kk Ap cp Ag cg Df cf s vs Bb T v k W → Calls Try.prog 31 #[.agg #[.int .i64 nd, .slice A n c, .slice Ap (kk + 2) cp, .slice Ag n cg, .slice Df (kk + 1) cf, .int .i64 s], .agg #[.int .i64 v, .int .i64 k], .int .i64 e] W fun x' w' => x' = .returned (stepV (stepO nd l x gn v k e)) ∧ Below W.heap.size W w') := fun Ap cp Ag cg Df cf s vs Bb T v k e W hv hk he hh => by
      have hb := hh.best
      have := bStep_spec nd A n c l x gn Ap cp Ag cg Df cf vs s v k e W (by rw [hkk]; exact hb) (hg.on hh.held.1) hr0 hv hk he
      rw [hkk] at this
      exact this
    have HEs := hid (fun W (hh : Held2 w nd A n c x y W) => (hes.on hh.1).row)
    have HEr := hid (fun i e (h : es[i]? = some e) => hes.rng e (List.mem_of_getElem? h))
    have HSr := hid (fun v k e p (h : stepO nd l x gn v k e = some p) => stepO_rng hr0 h)
    have hel := hid hes.row.1
    clear HF hg hw hd hc hes hgn hr0 hsr h1 h2 h3 h4 hs hgo hkk
    go_enter Try.func16, Try.ntmps16
    go_wp2_with (first
      | (go_at_call 26; (with_reducible refine (HF2.out _ hS).mono ?_); rintro e' w3 ⟨Ap, cp, Ag, cg, Df, cf, s, vs, rfl, hh3, hb3⟩; have hba : Below w3.heap.size w3 (w3.alloc (.cells #[.int .i64 nd, .slice A n c, .slice Ap (kk + 2) cp, .slice Ag n cg, .slice Df (kk + 1) cf, .int .i64 s] 55)) := (Below.refl _ _).alloc (Nat.le_refl _) _; have HH3 := hid (hh3.next hba); have HB3 := hid (hb3.on hba); have HX3 := hid (heap_alloc_new w3 (.cells #[.int .i64 nd, .slice A n c, .slice Ap (kk + 2) cp, .slice Ag n cg, .slice Df (kk + 1) cf, .int .i64 s] 55)); obtain ⟨p2, p3, p4, p5, p6, p7, p8⟩ := HH3.out.v; clear hh3 hb3 hba)
      | (go_at_call 12; (with_reducible refine (HSa.out _ HH3.out).mono ?_); rintro e' w4 ⟨rfl, hb4⟩; have HH4 := hid (HH3.out.next hb4); have HB4 := hid (HB3.out.on hb4); have HX4 := hid (box_below HX3.out hb4 (blk_lt HX3.out)); clear hb4))
    have hb4a : Below w4.heap.size w4 (w4.alloc (.cells #[.int .i64 s1, .int .i64 s2] 29)) := (Below.refl _ _).alloc (Nat.le_refl _) _
    have HT4 : Hid (HeldH w nd A n c l x y gn kk Ap cp Ag cg Df cf s vs w3.heap.size w4.heap.size s1 s2 (w4.alloc (.cells #[.int .i64 s1, .int .i64 s2] 29))) :=
      ⟨HH4.out.next hb4a, box_below HX4.out hb4a (blk_lt HX4.out), heap_alloc_new w4 _, HB4.out.on hb4a, HH4.out.lt, blk_lt HX4.out⟩
    obtain ⟨T, hT⟩ : ∃ T, w4.heap.size = T := ⟨_, rfl⟩
    obtain ⟨Bb, hBb⟩ : ∃ Bb, w3.heap.size = Bb := ⟨_, rfl⟩
    rw [hT, hBb] at HT4
    simp only [hT, hBb]
    clear hT hBb p2 p3 p4 p5 p6 p7 p8 hS hb4a HH3 HH4 HB3 HB4 HX3 HX4 HF2 HSa
    go_loopw [29] (fun iv wr => ∃ (i : Nat) (v k : Int), i ≤ ne ∧ iv = .int .i64 i ∧ Hid (HeldH w nd A n c l x y gn kk Ap cp Ag cg Df cf s vs Bb T v k wr) ∧ Hid (walkO nd l x gn (some (s1, s2)) (es.take i) = some (v, k)) ∧ (-9223372036854775808 ≤ v ∧ v ≤ 9223372036854775807) ∧ (-9223372036854775808 ≤ k ∧ k ≤ 9223372036854775807)) (fun iv _ => ne - (intOf iv).toNat)
    case atStart => exact ⟨0, s1, s2, Nat.zero_le _, rfl, HT4, rfl, hsr2.1, hsr2.2⟩
    case round =>
      obtain ⟨i, v, k, hi, rfl, HW, HK, hvr, hkr⟩ := hrel
      obtain ⟨z0, z1, z2⟩ := box_cells HW.out.tt
      obtain ⟨p0, p1, p2, p3, p4, p5, p6⟩ := box6_cells HW.out.bb
      by_cases h0 : i < ne
      · have hii : (i : Int) < (ne : Int) := by omega
        have t1 : decide ((i : Int) < (ne : Int)) = true := decide_eq_true hii
        have t2 : decide (i < ne) = true := decide_eq_true h0
        have ewi : IntKind.i64.wrap ((i : Int) + 1) = (i : Int) + 1 := by rw [IntKind.wrap_i64]; omega
        have hrw := HEs.out _ HW.out.held
        obtain ⟨g5, hg5⟩ : ∃ g5, es[i]? = some g5 := ⟨_, List.getElem?_eq_getElem (by have := hel.out; omega)⟩
        obtain ⟨b5, o5, rfl, hl5, hcell5⟩ := hrw.2 (by omega)
        have hc := hcell5 i g5 hg5
        clear hcell5 hrw
        have her := HEr.out i g5 hg5
        have HKs : Hid (walkO nd l x gn (some (s1, s2)) (es.take (i + 1)) = stepO nd l x gn v k g5) := by show _ = _; rw [walk_succ hg5, HK.out]; rfl
        clear hg5
        obtain ⟨o, ho⟩ : ∃ o, stepO nd l x gn v k g5 = o := ⟨_, rfl⟩
        have HSk := hid (HSt.out Ap cp Ag cg Df cf s vs Bb T v k g5 _ hvr hkr her HW.out)
        have hor := fun p => HSr.out v k g5 p
        rw [ho] at HSk HKs hor
        clear her hvr hkr HK ho
        cases o with
        | none =>
          change Hid (Calls Try.prog _ _ _ fun x' w' => x' = .returned (.tuple #[.agg #[.int .i64 0, .int .i64 0], .bool false]) ∧ Below wr.heap.size wr w') at HSk
          have hVf : Hid (hasS nd l x dn es = false) := by show _ = _; rw [hV.out, walk_none HKs.out]; rfl
          clear hor ewi HKs
          go_wp2_with (go_at_call 31; (with_reducible refine HSk.out.mono ?_); rintro e' w7 ⟨rfl, hb7⟩; have HX7 := hid (HW.out.next hb7); clear hb7)
          go_ret
          exact ⟨by rw [hVf.out]; rfl, HX7.out.held.1.alloc HX7.out.held.1.size _⟩
        | some p =>
          obtain ⟨q1, q2⟩ := p
          have hpr := hor (q1, q2) rfl
          change Hid (Calls Try.prog _ _ _ fun x' w' => x' = .returned (.tuple #[.agg #[.int .i64 q1, .int .i64 q2], .bool true]) ∧ Below wr.heap.size wr w') at HSk
          clear hor
          go_wp2_with (go_at_call 31; (with_reducible refine HSk.out.mono ?_); rintro e' w7 ⟨rfl, hb7⟩; have hb7a : Below w7.heap.size w7 (w7.alloc (.cells #[.int .i64 q1, .int .i64 q2] 29)) := (Below.refl _ _).alloc (Nat.le_refl _) _; have HX7 := hid ((HW.out.next hb7).next hb7a); obtain ⟨y0, y1, y2⟩ := box_cells HX7.out.tt; obtain ⟨x0, x1, x2⟩ := box_cells (heap_alloc_new w7 (.cells #[.int .i64 q1, .int .i64 q2] 29)); clear hb7 hb7a)
          have HW7 := hid (HX7.out.put (a := q1) (b := q2))
          clear ewi
          go_roundw
          case rel => exact ⟨i + 1, q1, q2, by omega, by go_num, HW7, HKs, hpr.1, hpr.2⟩
          case measure => simp [intOf]; omega
      · obtain rfl : i = ne := by omega
        have t1 : decide ((i : Int) < (i : Int)) = false := by simp
        have t2 : decide (i < i) = false := by simp
        have hKe : Hid (hasS nd l x dn es = ((v, k) == (g1, g2))) := by
          show _ = _
          have : es.take i = es := List.take_of_length_le (Nat.le_of_eq hel.out)
          rw [hV.out, ← this, HK.out]; rfl
        have HWd := hid (HW.out.next ((Below.refl _ wr).drew))
        have HGk := hid (HGo.out _ HWd.out.held)
        obtain ⟨r2, r3, r4, r5, r6, r7, r8⟩ := HWd.out.held.v
        obtain ⟨y0, y1, y2⟩ := box_cells HWd.out.tt
        obtain ⟨q, hq⟩ : ∃ q, ((v == g1) && (k == g2)) = q := ⟨_, rfl⟩
        have heql := fun W => hq ▸ eql2_run W v k g1 g2
        have hKq : Hid (hasS nd l x dn es = q) := by show _ = _; rw [hKe.out, ← hq]; rfl
        clear hq hKe
        go_wp2_with fail
        go_region_law (go_simp; go_at_call 14; (with_reducible refine HGk.out.mono ?_); rintro e' w7 ⟨rfl, hb7⟩; have HX7 := hid (HWd.out.next hb7); obtain ⟨x0, x1, x2⟩ := box_cells HX7.out.tt; clear hb7 x2)
        all_goals
          go_wp2_with fail
          go_ret
          exact ⟨by rw [hKq.out]; rfl, HX7.out.held.1⟩
  · have hV := hid (has_off (es := es) hc)
    have HF2 : Hid (∀ W, Held2 w nd A n c x y W → Calls Try.prog 26 #[.agg #[.int .i64 nd, .slice A n c], .agg #[.int .i64 x.frm, .int .i64 x.too, .int .i64 x.bnd, .slice y.av y.nv y.cv, .slice y.an y.nn y.cn, .slice y.al y.nl y.cl, .slice y.ac y.nc y.cc], .slice Ad n' c'] W fun e w' => e = .returned (.tuple #[.agg #[.int .i64 0, .slice none 0 0, .slice none 0 0, .slice none 0 0, .slice none 0 0, .int .i64 0], .int .i64 (costS nd l x dn).2]) ∧ Held2 w nd A n c x y w') := fun W hh => (HF.out W hh).mono fun e w' ⟨h5, h6⟩ => by
      rcases h6 with ⟨_, h7⟩ | ⟨h7, _⟩
      · exact ⟨h7, h5⟩
      · exact absurd h7 hc
    obtain ⟨k2, hk2⟩ : ∃ k2, (costS nd l x dn).2 = k2 := ⟨_, rfl⟩
    rw [hk2] at HF2 hc
    have d1 : (k2 != 0) = true := bne_iff_ne.2 hc
    clear HF hg hw hd hc hes h1 h2 h3 h4 hk2 hsr hs hgo
    go_enter Try.func16, Try.ntmps16
    go_wp2_with (go_at_call 26; (with_reducible refine (HF2.out _ hS).mono ?_); rintro e' w3 ⟨rfl, hh3⟩; have hba : Below w3.heap.size w3 (w3.alloc (.cells #[.int .i64 0, .slice none 0 0, .slice none 0 0, .slice none 0 0, .slice none 0 0, .int .i64 0] 55)) := (Below.refl _ _).alloc (Nat.le_refl _) _; have HH3 := hid (hh3.next hba); clear hh3 hba)
    go_ret
    exact ⟨by rw [hV.out]; rfl, HH3.out.1⟩
/-- What opt's functions answer. -/
theorem opt_spec : OptSpec 9 12 14 18 16 :=
  ⟨cost_code, fun x y w hw hv => oStart_any x y w hw (by omega), fun x y w hw hv => oGoal_any x y w hw (by omega), step_code, has_code⟩
end Go.Proofs.Ytabgbhkpeeibaaa
