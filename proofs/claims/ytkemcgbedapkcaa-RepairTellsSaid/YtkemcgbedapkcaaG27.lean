/- Merged: OqB. -/
import Derived.Test.YtkemcgbedapkcaaG26
import Derived.Test.YtkemcgbedapkcaaG07
/- Cut out of OqB. -/
namespace Go.Proofs.Ytkemcgbedapkcaa
open Go.RowKit
set_option maxHeartbeats 12800000
set_option maxRecDepth 100000
theorem next_ends {nd : Int} {l : List Lnk} {gn : List Bool} {tw : List Int} {v e : Int} (hck : (checkS nd l).2 = 0) (h : e ∈ nextS nd l gn tw v) : (endsS l e).2.2 = true ∧ (endsS l e).1 = v := by
  unfold nextS at h
  split at h
  · have h1 := (List.mem_filter.1 h).1
    unfold outS at h1
    obtain ⟨h2, h3⟩ := List.mem_filter.1 h1
    obtain ⟨K, hK, rfl⟩ := List.mem_map.1 h2
    rw [List.mem_range] at hK
    refine ⟨?_, by simpa using h3⟩
    have := checkS_ok hck
    obtain ⟨N, rfl⟩ := Int.eq_ofNat_of_zero_le (show 0 ≤ nd by omega)
    obtain ⟨a, b, xx, hxx, hE, -⟩ := edge_facts (gok_of hck) hK
    rw [hE]
  · cases h
/-- Three boxes: the best's, a state's, the result's. -/
structure HeldB (w : World) (nd : Int) (A : Option Addr) (n c : Nat) (Ap : Option Addr) (m cp : Nat) (Ag : Option Addr) (cg : Nat) (Df : Option Addr) (k1 cf : Nat) (s v k : Int) (w' : World) : Prop where
  bel : Below w.heap.size w w'
  b0 : w'.heap[w.heap.size]? = some (.cells #[.int .i64 nd, .slice A n c, .slice Ap m cp, .slice Ag n cg, .slice Df k1 cf, .int .i64 s] 79 (0, 0))
  b1 : w'.heap[w.heap.size + 1]? = some (.cells #[.int .i64 v, .int .i64 k] 92 (0, 0))
  b2 : w'.heap[w.heap.size + 1 + 1]? = some (.cells #[.int .i64 0, .int .i64 0] 92 (0, 0))
section
variable {w w' w'' : World} {nd : Int} {A : Option Addr} {n c : Nat} {Ap : Option Addr} {m cp : Nat} {Ag : Option Addr} {cg : Nat} {Df : Option Addr} {k1 cf : Nat} {s v k : Int}
theorem HeldB.next (h : HeldB w nd A n c Ap m cp Ag cg Df k1 cf s v k w') (hb : Below w'.heap.size w' w'') : HeldB w nd A n c Ap m cp Ag cg Df k1 cf s v k w'' :=
  ⟨h.bel.trans (hb.mono h.bel.size), box_below h.b0 hb (blk_lt h.b0), box_below h.b1 hb (blk_lt h.b1), box_below h.b2 hb (blk_lt h.b2)⟩
theorem HeldB.start : HeldB w nd A n c Ap m cp Ag cg Df k1 cf s v k (((w.alloc (.cells #[.int .i64 nd, .slice A n c, .slice Ap m cp, .slice Ag n cg, .slice Df k1 cf, .int .i64 s] 79)).alloc (.cells #[.int .i64 v, .int .i64 k] 92)).alloc (.cells #[.int .i64 0, .int .i64 0] 92)) := by
  obtain ⟨w1, h1⟩ : ∃ w1, w.alloc (.cells #[.int .i64 nd, .slice A n c, .slice Ap m cp, .slice Ag n cg, .slice Df k1 cf, .int .i64 s] 79) = w1 := ⟨_, rfl⟩
  have b1 : Below w.heap.size w w1 := h1 ▸ (Below.refl _ w).alloc (Nat.le_refl _) _
  have s1 : w1.heap.size = w.heap.size + 1 := by rw [← h1]; simp
  have c1 := h1 ▸ heap_alloc_new w (.cells #[.int .i64 nd, .slice A n c, .slice Ap m cp, .slice Ag n cg, .slice Df k1 cf, .int .i64 s] 79)
  rw [h1]
  obtain ⟨w2, h2⟩ : ∃ w2, w1.alloc (.cells #[.int .i64 v, .int .i64 k] 92) = w2 := ⟨_, rfl⟩
  have b2 : Below w1.heap.size w1 w2 := h2 ▸ (Below.refl _ w1).alloc (Nat.le_refl _) _
  have s2 : w2.heap.size = w.heap.size + 1 + 1 := by rw [← h2, ← s1]; simp
  have c2 := h2 ▸ heap_alloc_new w1 (.cells #[.int .i64 v, .int .i64 k] 92)
  rw [h2]
  have b3 : Below w2.heap.size w2 (w2.alloc (.cells #[.int .i64 0, .int .i64 0] 92)) := (Below.refl _ w2).alloc (Nat.le_refl _) _
  have c3 := heap_alloc_new w2 (.cells #[.int .i64 0, .int .i64 0] 92)
  rw [s2] at c3
  rw [s1] at c2
  have b12 := b2.trans (b3.mono b2.size)
  exact ⟨b1.trans (b12.mono b1.size), box_below c1 b12 (by omega), box_below c2 b3 (by omega), c3⟩
theorem HeldB.drewN (h : HeldB w nd A n c Ap m cp Ag cg Df k1 cf s v k w') (q : Nat) : HeldB w nd A n c Ap m cp Ag cg Df k1 cf s v k (w'.drewN q) := h.next (Below.drewN' w' q)
theorem HeldB.put {a b : Int} (h : HeldB w nd A n c Ap m cp Ag cg Df k1 cf s v k w') : Hid (((w'.setCell ⟨w.heap.size + 1 + 1, 0, none⟩ (.int .i64 a)).setCell ⟨w.heap.size + 1 + 1, 1, none⟩ (.int .i64 b)).heap[w.heap.size + 1 + 1]? = some (.cells #[.int .i64 a, .int .i64 b] 92 (0, 0)) ∧ Below w.heap.size w ((w'.setCell ⟨w.heap.size + 1 + 1, 0, none⟩ (.int .i64 a)).setCell ⟨w.heap.size + 1 + 1, 1, none⟩ (.int .i64 b))) :=
  ⟨box_set1 (box_set0 h.b2), (h.bel.setCell (show w.heap.size ≤ w.heap.size + 1 + 1 by omega) _).setCell (show w.heap.size ≤ w.heap.size + 1 + 1 by omega) _⟩
end
/-- What a best's step answers. -/
def BStepSpec (f : Nat) : Prop := ∀ (nd : Int) (A : Option Addr) (n c : Nat) (l : List Lnk) (x : Wnt) (gn : List Bool) (Ap : Option Addr) (cp : Nat) (Ag : Option Addr) (cg : Nat) (Df : Option Addr) (cf : Nat) (vs : List Value) (s v k e : Int) (w : World), BestAt w nd n l x gn Ap cp Ag cg (.slice Df (x.via.length + 1) cf) vs → GArg w nd A n c l → rightS nd l x = 0 → -9223372036854775808 ≤ v ∧ v ≤ 9223372036854775807 → -9223372036854775808 ≤ k ∧ k ≤ 9223372036854775807 → -9223372036854775808 ≤ e ∧ e ≤ 9223372036854775807 →
  Calls Try.prog f #[.agg #[.int .i64 nd, .slice A n c, .slice Ap (x.via.length + 2) cp, .slice Ag n cg, .slice Df (x.via.length + 1) cf, .int .i64 s], .agg #[.int .i64 v, .int .i64 k], .int .i64 e] w fun x' w' => x' = .returned (stepV (stepO nd l x gn v k e)) ∧ Below w.heap.size w w'
theorem bStep_spec : BStepSpec 81 := by
  intro nd A n c l x gn Ap cp Ag cg Df cf vs s v k e w hB hg hr0 hv hk he
  obtain ⟨hck, hpv, hv4⟩ := right_ok hr0
  have hml := ptsS_len x
  obtain ⟨kk, hkk⟩ : ∃ kk, x.via.length = kk := ⟨_, rfl⟩
  have hp := hB.pts
  have hdg := hB.dwn
  have hown := hB.own
  have hfar := hB.far
  rw [hkk] at hp hown hml hv4 ⊢
  clear hB
  have hS := HeldB.start (w := w) (nd := nd) (A := A) (n := n) (c := c) (Ap := Ap) (m := kk + 2) (cp := cp) (Ag := Ag) (cg := cg) (Df := Df) (k1 := kk + 1) (cf := cf) (s := s) (v := v) (k := k)
  obtain ⟨z0, z1, z2⟩ := box_cells hS.b1
  obtain ⟨p0, p1, p2, p3, p4, p5, p6⟩ := box6_cells hS.b0
  obtain ⟨y0, y1, y2⟩ := box_cells hS.b2
  by_cases hk0 : k < 0
  · have tk : decide (k < 0) = true := decide_eq_true hk0
    have HV : Hid (stepO nd l x gn v k e = none) := by show _ = _; unfold stepO; rw [if_neg]; intro hh; omega
    have HS := hid hS
    clear hp hdg hown hfar hpv hS hk0
    go_enter Try.func81, Try.ntmps81
    go_wp2_with fail
    go_big_quiet (fail)
    go_wp2_with fail
    have HG := (HS.out.drewN nq).put (a := 0) (b := 0)
    refine bodyPost_ret (results_cellrow_tmp (p := 6) (u := 7) (fn := Try.f81) rfl _ _ _ _ _ _ _ rfl HG.out.1 Try.underlying92 rfl (by kernel_rfl)) rfl ?_
    exact ⟨by rw [HV.out]; rfl, HG.out.2⟩
  · have tk : decide (k < 0) = false := decide_eq_false hk0
    obtain ⟨K, rfl⟩ := Int.eq_ofNat_of_zero_le (show 0 ≤ k by omega)
    by_cases hkm : (kk : Int) + 1 ≤ (K : Int)
    · have tm : decide ((kk : Int) + 1 ≤ (K : Int)) = true := decide_eq_true hkm
      have HV : Hid (stepO nd l x gn v (K : Int) e = none) := by show _ = _; unfold stepO; rw [if_neg]; intro hh; rw [hml] at hh; omega
      have HS := hid hS
      clear hp hdg hown hfar hpv hS hk0
      go_enter Try.func81, Try.ntmps81
      go_wp2_with fail
      go_big_quiet (fail)
      go_wp2_with fail
      have HG := (HS.out.drewN nq).put (a := 0) (b := 0)
      refine bodyPost_ret (results_cellrow_tmp (p := 6) (u := 7) (fn := Try.f81) rfl _ _ _ _ _ _ _ rfl HG.out.1 Try.underlying92 rfl (by kernel_rfl)) rfl ?_
      exact ⟨by rw [HV.out]; rfl, HG.out.2⟩
    · have tm : decide ((kk : Int) + 1 ≤ (K : Int)) = false := decide_eq_false hkm
      have hlt : K < kk + 1 := by omega
      have hfl := hown.lt
      rcases hown.2 with ⟨-, h0⟩ | ⟨gf, capf, cur, he0, -, -, -, -, -, -⟩
      · omega
      cases he0
      obtain ⟨u, hu⟩ : ∃ u, vs[K]? = some u := ⟨_, List.getElem?_eq_getElem (by have := hown.1; omega)⟩
      have hgf := (hfl gf rfl).2
      have hcu : w.cell? ⟨gf, K, none⟩ = some u := by
        have := hown.cells (g := gf) rfl _ _ hu
        rwa [Go.WideShapes.add_plain, Nat.zero_add] at this
      have hrow := hfar K u hu
      have hgd : ((ptsS x).drop 1).getD K 0 = (ptsS x).getD (K + 1) 0 := by
        rw [List.getD_eq_getElem?_getD, List.getD_eq_getElem?_getD, List.getElem?_drop, Nat.add_comm]
      rw [hgd] at hrow
      have hpt := hpv _ (List.mem_of_getElem? (pts_at (x := x) (k := K + 1) (by omega)))
      have hstep : Hid (stepO nd l x gn v (K : Int) e = if e ∈ nextS nd l gn (fromS nd l gn ((ptsS x).getD (K + 1) 0)) v then some (comeS (ptsS x) (endsS l e).2.1 (K : Int)) else none) := by
        show _ = _
        unfold stepO
        rw [show ((K : Int) + 1).toNat = K + 1 by omega]
        by_cases hin : e ∈ nextS nd l gn (fromS nd l gn ((ptsS x).getD (K + 1) 0)) v
        · have hne := next_ends hck hin
          rw [if_pos hin, if_pos ⟨hne.1, hne.2, by omega, by rw [hml]; omega, hin⟩]
        · rw [if_neg hin, if_neg (fun hh => hin hh.2.2.2.2)]
      obtain ⟨pt, hpt2⟩ : ∃ pt, (ptsS x).getD (K + 1) 0 = pt := ⟨_, rfl⟩
      rw [hpt2] at hpt hrow hstep
      have hfl2 := (fromS_row (gn := gn) hck hpt).1
      have hsm : ∀ z ∈ fromS nd l gn pt, -1099511627776 ≤ z ∧ z ≤ 1099511627776 := fun z hz => by have := fromS_mem z hz; omega
      obtain ⟨N, hN⟩ : ∃ N, nd.toNat = N := ⟨_, rfl⟩
      have hck2 := checkS_ok hck
      rw [hN] at hrow hfl2
      obtain ⟨A2, c2, rfl, hc2, hr2⟩ := own_ints hrow hfl2
      have hN1 : 1 ≤ N ∧ N ≤ 40 := by omega
      have ht : TArg w A2 N c2 (fromS nd l gn pt) := ⟨hr2, by omega, hc2, fun hA => (by obtain ⟨bb, oo, h5, -⟩ := hr2.2 (by omega); rw [h5] at hA; cases hA), hsm⟩
      obtain ⟨tw, hto⟩ : ∃ tw, fromS nd l gn pt = tw := ⟨_, rfl⟩
      rw [hto] at ht hstep
      obtain ⟨L, hL⟩ : ∃ L, nextS nd l gn tw v = L := ⟨_, rfl⟩
      obtain ⟨m2, hm2e⟩ : ∃ m2, L.length = m2 := ⟨_, rfl⟩
      have hm3 : m2 ≤ 240 := by rw [← hm2e, ← hL]; exact next_len (by have := hg.row.1; have := hg.len; omega)
      have HN := hid (fun W (hb : Below w.heap.size w W) => ints_out (m := m2) (by rw [hL]; exact hm2e) (next_spec nd A n c l Ag n cg gn A2 N c2 tw v W (hg.on hb) (hdg.on hb) (ht.on hb) hv.1 hv.2))
      rw [hL] at HN hstep
      have HCt := hid (fun A5 c5 W (hr : RInt W W.heap.size A5 m2 L) => contains_any A5 m2 c5 L e W hr (by omega))
      obtain ⟨A6, c6, he6, -, hrp⟩ := own_ints hp hml
      cases he6
      have HCU := hid (fun W (hb : Below w.heap.size w W) => (hb.cell (p := ⟨gf, K, none⟩) hgf).trans hcu)
      have hki : (K : Int) < (kk : Int) + 1 := by omega
      by_cases hin : e ∈ L
      · have tin : decide (e ∈ L) = true := decide_eq_true hin
        rw [tin] at HCt
        have hs2 := hstep.out
        rw [if_pos hin] at hs2
        have HE := hid (fun W (hb : Below w.heap.size w W) => (ends_any nd A n c l e W (hg.on hb).row (by have := hg.len; omega) he.2))
        obtain ⟨ea, eb, eo, hE⟩ : ∃ a b o, endsS l e = (a, b, o) := ⟨_, _, _, rfl⟩
        rw [hE] at HE hs2
        have HCm := hid (fun W (hb : Below w.heap.size w W) => comeTo_any Ap (kk + 2) cp (ptsS x) eb K W (hrp.on hb) (by omega) (by omega))
        obtain ⟨q1, q2, hq⟩ : ∃ q1 q2, comeS (ptsS x) eb (K : Int) = (q1, q2) := ⟨_, _, rfl⟩
        rw [hq] at HCm
        dsimp only at hs2
        rw [hq] at hs2
        have HV := hid hs2
        have HS := hid hS
        clear hp hdg hown hfar hu hcu hrow hpt hpt2 hfl2 hsm hN hck2 hr2 ht hto hL hq hfl hgf hml hk0 hkm hin tin hs2 hstep hS hpv hrp hE hg hgd hm2e
        go_enter Try.func81, Try.ntmps81
        go_wp2_with fail
        go_big_quiet (fail)
        go_wp2_with fail
        have HQ := hid (HS.out.drewN nq)
        clear HS z0 z1 z2 p0 p1 p2 p3 p4 p5 p6 y0 y1 y2
        obtain ⟨wq, hwq⟩ : ∃ wq, (((w.alloc (.cells #[.int .i64 nd, .slice A n c, .slice Ap (kk + 2) cp, .slice Ag n cg, .slice (some ⟨gf, 0, none⟩) (kk + 1) cf, .int .i64 s] 79)).alloc (.cells #[.int .i64 v, .int .i64 (K : Int)] 92)).alloc (.cells #[.int .i64 0, .int .i64 0] 92)).drewN nq = wq := ⟨_, rfl⟩
        rw [hwq] at HQ ⊢
        clear hwq
        have HQd := hid (HQ.out.next ((Below.refl _ wq).drew))
        clear HQ
        obtain ⟨z0, z1, z2⟩ := box_cells HQd.out.b1
        obtain ⟨p0, p1, p2, p3, p4, p5, p6⟩ := box6_cells HQd.out.b0
        have ocu := HCU.out _ HQd.out.bel
        go_region_law (first
          | (go_simp; go_at_call 44; (with_reducible refine (HN.out _ HQd.out.bel).mono ?_); rintro e' w5 ⟨A5, c5, rfl, ⟨hr5, hc5, hn5⟩, hb5⟩; have HQ5 := hid (HQd.out.next hb5); have HR5 := hid hr5; clear hb5 hr5 hn5)
          | (go_simp; go_at_call 88; (with_reducible refine (HCt.out _ _ _ HR5.out).mono ?_); rintro e' w6 ⟨rfl, rfl⟩))
        all_goals
          obtain ⟨z0, z1, z2⟩ := box_cells HQ5.out.b1
          obtain ⟨p0, p1, p2, p3, p4, p5, p6⟩ := box6_cells HQ5.out.b0
          obtain ⟨y0, y1, y2⟩ := box_cells HQ5.out.b2
          go_wp2_with (first
            | (go_at_call 18; (with_reducible refine (HE.out _ HQ5.out.bel).mono ?_); rintro e' w7 ⟨rfl, hb7⟩; have HQ7 := hid (HQ5.out.next hb7); obtain ⟨p0, p1, p2, p3, p4, p5, p6⟩ := box6_cells HQ7.out.b0; clear hb7)
            | (go_at_call 69; (with_reducible refine (HCm.out _ HQ7.out.bel).mono ?_); rintro e' w8 ⟨rfl, hb8⟩; have HQ8 := hid (HQ7.out.next hb8); obtain ⟨y0, y1, y2⟩ := box_cells HQ8.out.b2; clear hb8))
          have HG := HQ8.out.put (a := q1) (b := q2)
          refine bodyPost_ret (results_cellrow_tmp (p := 6) (u := 7) (fn := Try.f81) rfl _ _ _ _ _ _ _ rfl HG.out.1 Try.underlying92 rfl (by kernel_rfl)) rfl ?_
          exact ⟨by rw [HV.out]; rfl, HG.out.2⟩
      · have tin : decide (e ∈ L) = false := decide_eq_false hin
        rw [tin] at HCt
        have hs2 := hstep.out
        rw [if_neg hin] at hs2
        have HV := hid hs2
        have HS := hid hS
        clear hp hdg hown hfar hu hcu hrow hpt hpt2 hfl2 hsm hN hck2 hr2 ht hto hL hfl hgf hml hk0 hkm hin tin hs2 hstep hS hpv hrp hg hgd hm2e
        go_enter Try.func81, Try.ntmps81
        go_wp2_with fail
        go_big_quiet (fail)
        go_wp2_with fail
        have HQ := hid (HS.out.drewN nq)
        clear HS z0 z1 z2 p0 p1 p2 p3 p4 p5 p6 y0 y1 y2
        obtain ⟨wq, hwq⟩ : ∃ wq, (((w.alloc (.cells #[.int .i64 nd, .slice A n c, .slice Ap (kk + 2) cp, .slice Ag n cg, .slice (some ⟨gf, 0, none⟩) (kk + 1) cf, .int .i64 s] 79)).alloc (.cells #[.int .i64 v, .int .i64 (K : Int)] 92)).alloc (.cells #[.int .i64 0, .int .i64 0] 92)).drewN nq = wq := ⟨_, rfl⟩
        rw [hwq] at HQ ⊢
        clear hwq
        have HQd := hid (HQ.out.next ((Below.refl _ wq).drew))
        clear HQ
        obtain ⟨z0, z1, z2⟩ := box_cells HQd.out.b1
        obtain ⟨p0, p1, p2, p3, p4, p5, p6⟩ := box6_cells HQd.out.b0
        have ocu := HCU.out _ HQd.out.bel
        go_region_law (first
          | (go_simp; go_at_call 44; (with_reducible refine (HN.out _ HQd.out.bel).mono ?_); rintro e' w5 ⟨A5, c5, rfl, ⟨hr5, hc5, hn5⟩, hb5⟩; have HQ5 := hid (HQd.out.next hb5); have HR5 := hid hr5; clear hb5 hr5 hn5)
          | (go_simp; go_at_call 88; (with_reducible refine (HCt.out _ _ _ HR5.out).mono ?_); rintro e' w6 ⟨rfl, rfl⟩))
        all_goals
          obtain ⟨z0, z1, z2⟩ := box_cells HQ5.out.b1
          obtain ⟨p0, p1, p2, p3, p4, p5, p6⟩ := box6_cells HQ5.out.b0
          obtain ⟨y0, y1, y2⟩ := box_cells HQ5.out.b2
          go_wp2_with fail
          have HG := HQ5.out.put (a := 0) (b := 0)
          refine bodyPost_ret (results_cellrow_tmp (p := 6) (u := 7) (fn := Try.f81) rfl _ _ _ _ _ _ _ rfl HG.out.1 Try.underlying92 rfl (by kernel_rfl)) rfl ?_
          exact ⟨by rw [HV.out]; rfl, HG.out.2⟩
theorem cost_right {nd : Int} {l : List Lnk} {x : Wnt} {dn : List Bool} (hc : (costS nd l x dn).2 = 0) : rightS nd l x = 0 := by
  rcases Classical.em (rightS nd l x = 0) with h5 | h5
  · exact h5
  · unfold costS at hc; rw [if_pos h5] at hc; exact absurd hc h5
/-- A block of two ints is no row of bools. -/
theorem DArg.but2 {w w' : World} {A : Option Addr} {n c : Nat} {l : List Bool} {B : Nat} {a b : Int} {T : TypeId} (h : DArg w A n c l) (hb : But B w w') (hx : w.heap[B]? = some (.cells #[.int .i64 a, .int .i64 b] T (0, 0))) : DArg w' A n c l := by
  refine ⟨⟨h.row.1, fun hn => ?_⟩, h.len, h.cap, h.non⟩
  obtain ⟨b', off, hA, hlt, hc⟩ := h.row.2 hn
  have hne : b' ≠ B := by
    rintro rfl
    obtain ⟨x, hx0⟩ : ∃ x, l[0]? = some x := ⟨_, List.getElem?_eq_getElem (by have := h.row.1; omega)⟩
    have h0 := hc 0 x hx0
    rw [cell_of_row _ _ _ _ _ _ hx] at h0
    rcases off with _ | _ | off
    · simp at h0
    · simp at h0
    · simp at h0
  exact ⟨b', off, hA, Nat.lt_of_lt_of_le hlt hb.size, fun i x hi => (World.cell?_of_block (hb.block b' hlt hne)).trans (hc i x hi)⟩
theorem BestAt.but2 {w w' : World} {nd : Int} {n : Nat} {l : List Lnk} {x : Wnt} {gn : List Bool} {Ap : Option Addr} {cp : Nat} {Ag : Option Addr} {cg : Nat} {vF : Value} {vs : List Value} {B : Nat} {a b : Int} (h : BestAt w nd n l x gn Ap cp Ag cg vF vs) (hb : But B w w')
    (hx : w.heap[B]? = some (.cells #[.int .i64 a, .int .i64 b] 92 (0, 0))) : BestAt w' nd n l x gn Ap cp Ag cg vF vs :=
  ⟨own_but h.pts hb hx (by decide), h.dwn.but2 hb hx, own_but h.own hb hx (by decide), fun i v hv => own_but (h.far i v hv) hb hx (by decide)⟩
/-- Has's boxes: a graph's, a want's, the best's, and its state's. -/
structure HeldH (w : World) (nd : Int) (A : Option Addr) (n c : Nat) (l : List Lnk) (x : Wnt) (y : WSl) (gn : List Bool) (kk : Nat) (Ap : Option Addr) (cp : Nat) (Ag : Option Addr) (cg : Nat) (Df : Option Addr) (cf : Nat) (s : Int) (vs : List Value) (Bb T : Nat) (v k : Int) (w' : World) : Prop where
  held : Held2 w nd A n c x y w'
  bb : w'.heap[Bb]? = some (.cells #[.int .i64 nd, .slice A n c, .slice Ap (kk + 2) cp, .slice Ag n cg, .slice Df (kk + 1) cf, .int .i64 s] 79 (0, 0))
  tt : w'.heap[T]? = some (.cells #[.int .i64 v, .int .i64 k] 92 (0, 0))
  best : BestAt w' nd n l x gn Ap cp Ag cg (.slice Df (kk + 1) cf) vs
  gt : w.heap.size + 1 < T
  ne : Bb < T
section
variable {w w' w'' : World} {nd : Int} {A : Option Addr} {n c : Nat} {l : List Lnk} {x : Wnt} {y : WSl} {gn : List Bool} {kk : Nat} {Ap : Option Addr} {cp : Nat} {Ag : Option Addr} {cg : Nat} {Df : Option Addr} {cf : Nat} {s : Int} {vs : List Value} {Bb T : Nat} {v k : Int}
theorem HeldH.next (h : HeldH w nd A n c l x y gn kk Ap cp Ag cg Df cf s vs Bb T v k w') (hb : Below w'.heap.size w' w'') : HeldH w nd A n c l x y gn kk Ap cp Ag cg Df cf s vs Bb T v k w'' :=
  ⟨h.held.next hb, box_below h.bb hb (blk_lt h.bb), box_below h.tt hb (blk_lt h.tt), h.best.on hb, h.gt, h.ne⟩
theorem HeldH.put {a b : Int} (h : HeldH w nd A n c l x y gn kk Ap cp Ag cg Df cf s vs Bb T v k w') : HeldH w nd A n c l x y gn kk Ap cp Ag cg Df cf s vs Bb T a b ((w'.setCell ⟨T, 0, none⟩ (.int .i64 a)).setCell ⟨T, 1, none⟩ (.int .i64 b)) := by
  have hb : But T w' ((w'.setCell ⟨T, 0, none⟩ (.int .i64 a)).setCell ⟨T, 1, none⟩ (.int .i64 b)) := But.set.trans But.set
  exact ⟨(h.held.set h.gt).set h.gt, by rw [hb.block _ (blk_lt h.bb) (by have := h.ne; omega)]; exact h.bb, box_set1 (box_set0 h.tt), h.best.but2 hb h.tt, h.gt, h.ne⟩
end
end Go.Proofs.Ytkemcgbedapkcaa
