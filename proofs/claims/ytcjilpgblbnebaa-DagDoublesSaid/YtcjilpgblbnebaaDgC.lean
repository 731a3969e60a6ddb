/- waymarkref1.counts. -/
import Derived.Test.YtcjilpgblbnebaaDgB
import Derived.Deep.RegionHeld3
namespace Go.Proofs.Ytcjilpgblbnebaa
open Go.RowKit
set_option maxHeartbeats 12800000
set_option maxRecDepth 100000
theorem good_zero {nd : Nat} {nx : Nat → List Nat} {D k f m : List Int} {v : Nat} (h : Good nd nx D k f m (dAt D (v : Int))) (hk : k.length = nd) (hv : v < nd) (hD : dAt D (v : Int) = 0) (hn : dAt k (v : Int) < 0) : Good nd nx D (k.set v 1) f m (dAt D (v : Int)) := by
  intro u hu hle
  by_cases huv : u = v
  · subst huv
    rcases h u hu hle with h1 | h1
    · refine .inr ⟨by omega, ?_, ?_, ?_⟩
      · rw [dAt_set (by rw [hk]; exact hv), if_pos rfl, tr_zero hD]; rfl
      · rw [h1.2.1, tr_zero hD]; rfl
      · rw [h1.2.2, tr_zero hD]; rfl
    · have := h1.2.1; omega
  · unfold Good1
    rw [dAt_set (by rw [hk]; exact hv), if_neg huv]
    exact h u hu hle
/-- The three numbers of the first i edges. -/
def Tt (nd : Nat) (l : List Lnk) (dn : List Bool) (D : List Int) (v i : Nat) : Nat × Nat × Nat := trip (((nxL nd l dn D v).take i).map (tr (nxL nd l dn D) D))
theorem Tt_zero (nd : Nat) (l : List Lnk) (dn : List Bool) (D : List Int) (v : Nat) : Tt nd l dn D v 0 = (0, 0, 0) := rfl
theorem Tt_succ {nd : Nat} {l : List Lnk} {dn : List Bool} {D : List Int} {v i kk b : Nat} (h : (nextS (nd : Int) l dn D (v : Int))[i]? = some (kk : Int)) (hb : tov l kk = (b : Int)) :
    Tt nd l dn D v (i + 1) = ((Tt nd l dn D v i).1 + (tr (nxL nd l dn D) D b).1, (if i = 0 then (tr (nxL nd l dn D) D b).2.1 + 1 else min (Tt nd l dn D v i).2.1 ((tr (nxL nd l dn D) D b).2.1 + 1)), max (Tt nd l dn D v i).2.2 ((tr (nxL nd l dn D) D b).2.2 + 1)) := by
  have h2 : (nxL nd l dn D v)[i]? = some b := by
    unfold nxL
    rw [List.getElem?_map, h]
    simp [hb]
  obtain ⟨hi, he⟩ := List.getElem?_eq_some_iff.1 h2
  unfold Tt
  rw [List.take_succ_eq_append_getElem hi, List.map_append, he]
  simp only [List.map_cons, List.map_nil]
  rw [trip_snoc]
  congr 2
  rw [List.length_map, List.length_take]
  have : (min i (nxL nd l dn D v).length = 0) = (i = 0) := by
    rw [Nat.min_eq_left (by omega)]
  simp only [this]
theorem Tt_all {nd : Nat} {l : List Lnk} {dn : List Bool} {D : List Int} {v : Nat} (hok : GOk nd l) (h : 0 < dAt D (v : Int)) : Tt nd l dn D v (nextS (nd : Int) l dn D (v : Int)).length = tr (nxL nd l dn D) D v := by
  rw [tr_step (nearer hok) h]
  unfold Tt
  rw [List.take_of_length_le (by unfold nxL; rw [List.length_map]; omega)]
theorem Tt_le {nd : Nat} {l : List Lnk} {dn : List Bool} {D : List Int} {v : Nat} (hok : GOk nd l) (i : Nat) : (Tt nd l dn D v i).2.1 ≤ (dAt D (v : Int)).toNat ∧ (Tt nd l dn D v i).2.2 ≤ (dAt D (v : Int)).toNat := by
  have key : ∀ b, b ∈ (nxL nd l dn D v).take i → (tr (nxL nd l dn D) D b).2.1 + 1 ≤ (dAt D (v : Int)).toNat ∧ (tr (nxL nd l dn D) D b).2.2 + 1 ≤ (dAt D (v : Int)).toNat := by
    intro b hb
    have hn := nearer (dn := dn) (D := D) hok v b (List.mem_of_mem_take hb)
    have := tr_le (nearer (dn := dn) (D := D) hok) _ b (Nat.le_refl _) hn.1
    omega
  unfold Tt trip
  refine ⟨minL_le fun y hy => ?_, maxL_le fun y hy => ?_⟩
  · simp only [List.mem_map] at hy
    obtain ⟨t, ⟨b, hb, rfl⟩, rfl⟩ := hy
    exact (key b hb).1
  · simp only [List.mem_map] at hy
    obtain ⟨t, ⟨b, hb, rfl⟩, rfl⟩ := hy
    exact (key b hb).2
theorem cap_add (a b : Nat) : min (min a capB + min b capB) capB = min (a + b) capB := by
  have h1 : min a capB = a ∨ min a capB = capB := by omega
  omega
theorem own_lo {w : World} {base N : Nat} {v : Value} {E : List Int} (h : w.ownsRow base 3 1 v N (icells E)) (hN : 0 < N) : ∃ g cap, v = .slice (some ⟨g, 0, none⟩) N cap ∧ base ≤ g ∧ g < w.heap.size ∧ ∀ (i : Nat) (x : Int), E[i]? = some x → w.cell? ⟨g, i, none⟩ = some (.int .i64 x) := by
  rcases h.2 with ⟨rfl, h1⟩ | ⟨g, cap, cur, rfl, hb, hg, _, _⟩
  · omega
  · refine ⟨g, cap, rfl, hb, ?_, fun i x hx => ?_⟩
    · rcases Nat.lt_or_ge g w.heap.size with hlt | hge
      · exact hlt
      · rw [Array.getElem?_eq_none hge] at hg; cases hg
    · have k1 := h.cells (g := g) rfl i (.int .i64 x) (by simp [icells, hx])
      rw [Go.WideShapes.add_plain, Nat.zero_add] at k1
      exact k1
theorem Kp.cell {K F M g j : Nat} {w w' : World} {u : Value} (h : Kp K F M w w') (hg : g < w.heap.size) (h1 : g ≠ K) (h2 : g ≠ F) (h3 : g ≠ M) (hc : w.cell? ⟨g, j, none⟩ = some u) : w'.cell? ⟨g, j, none⟩ = some u := (World.cell?_of_block (h.block g hg h1 h2 h3)).trans hc
theorem Kp.drewN {K F M : Nat} (w : World) (k : Nat) : Kp K F M w (w.drewN k) := Kp.of (below_drewN (Below.refl _ _))
theorem Rw3.drewN {nd K F M : Nat} {k f m : List Int} {w : World} (h : Rw3 nd K F M k f m w) (j : Nat) : Rw3 nd K F M k f m (w.drewN j) := h.below (below_drewN (Below.refl _ _))
theorem counts_any (nd : Nat) (A : Option Addr) (n c : Nat) (l : List Lnk) (Ad : Option Addr) (n' c' : Nat) (dn : List Bool) (At : Option Addr) (c2 : Nat) (D : List Int) (B K F M : Nat) (hok : GOk nd l) (hln : l.length = n) (hDl : D.length = nd) (hDr : ∀ x ∈ D, -1 ≤ x ∧ x ≤ 654311424) (hB : B ≤ K ∧ B ≤ F ∧ B ≤ M) (hne : K ≠ F ∧ K ≠ M ∧ F ≠ M)
    (hAn : A = none → n = 0 ∧ c = 0) (hc : n ≤ c) (hn' : n' ≤ 200) (hc' : n' ≤ c') (hAd : Ad = none → n' = 0 ∧ c' = 0) (hc2 : nd ≤ c2) (hAt : At = none → nd = 0 ∧ c2 = 0) :
    ∀ (x v : Nat) (k f m : List Int) (w : World), (dAt D (v : Int)).toNat < x → 0 ≤ dAt D (v : Int) → v < nd → CArg B nd A n c l Ad n' c' dn At c2 D K F M w → Rw3 nd K F M k f m w → Good nd (nxL nd l dn D) D k f m (dAt D (v : Int)) →
    Calls Try.prog 20 #[.agg #[.int .i64 (nd : Int), .slice A n c], .slice Ad n' c', .slice At nd c2, .int .i64 (v : Int), .slice (some ⟨K, 0, none⟩) nd nd, .slice (some ⟨F, 0, none⟩) nd nd, .slice (some ⟨M, 0, none⟩) nd nd] w (CntAns nd (nxL nd l dn D) D K F M k f m v w) := by
  have hnd : nd ≤ 40 := hok.2.2.1
  have hn : n ≤ 120 := by rw [← hln]; exact hok.1
  intro x
  induction x with
  | zero => intro v k f m w hx; omega
  | succ x ih =>
    intro v k f m w hx h0 hv hca hrw hgd
    have HR := hid hrw
    have HG := hid hgd
    have HC := hid hca
    have b1 : Below w.heap.size w (w.alloc (.cells #[.int .i64 (nd : Int), .slice A n c] 24)) := (Below.refl _ _).alloc (Nat.le_refl _) _
    have hr1 := hrw.below b1
    have HC1 := hid (hca.kp (Kp.of b1) hB.1 hB.2.1 hB.2.2)
    have ck := hr1.rk.cell (dAt_get (d := k) (v := v) (by rw [hrw.lk]; exact hv))
    obtain ⟨bt, ot, rfl, hbt, hct⟩ := hca.to.2 (by omega)
    have ct := (b1.cell (p := ⟨bt, ot + v, none⟩) (by show bt < _; have := hca.size; omega)).trans (hct v _ (dAt_get (by rw [hDl]; exact hv)))
    have hkK : K < w.heap.size := hrw.rk.lt
    have hkF : F < w.heap.size := hrw.rf.lt
    have hkM : M < w.heap.size := hrw.rm.lt
    obtain ⟨q0, q1, _⟩ := box_cells (heap_alloc_new w (.cells #[.int .i64 (nd : Int), .slice A n c] 24))
    have Hbx := hid (heap_alloc_new w (.cells #[.int .i64 (nd : Int), .slice A n c] 24))
    obtain ⟨w1, hw1⟩ : ∃ w1, w.alloc (.cells #[.int .i64 (nd : Int), .slice A n c] 24) = w1 := ⟨_, rfl⟩
    have hs1 : w1.heap.size = w.heap.size + 1 := by rw [← hw1]; simp
    rw [hw1] at HC1 b1 hr1 ck ct q0 q1 Hbx
    obtain ⟨kv, hkv⟩ : ∃ kv, dAt k (v : Int) = kv := ⟨_, rfl⟩
    obtain ⟨dv, hdv⟩ : ∃ dv, dAt D (v : Int) = dv := ⟨_, rfl⟩
    rw [hkv] at ck
    rw [hdv] at ct h0 hx
    have Hkv := hid hkv
    have Hdv := hid hdv
    clear hkv hdv hct hca hrw hgd
    by_cases hk0 : 0 ≤ kv
    · have t1 : decide (0 ≤ kv) = true := by simpa using hk0
      clear ih
      go_enter Try.func20, Try.ntmps20
      go_wp2_with fail
      go_end0
      exact ⟨rfl, k, f, m, hr1, HG.out, by rw [Hkv.out]; exact hk0, fun _ _ _ => ⟨rfl, rfl, rfl⟩, Kp.of b1⟩
    · have t1 : decide (0 ≤ kv) = false := by simpa using hk0
      by_cases hd0 : dv = 0
      · have t2 : (dv == 0) = true := by simpa using hd0
        have fk := hr1.rk.frozen v
        clear ih
        go_enter Try.func20, Try.ntmps20
        go_wp2_with fail
        go_end0
        refine ⟨rfl, k.set v 1, f, m, hr1.setK hne.1.symm hne.2.1.symm 1, good_zero HG.out HR.out.lk hv (by rw [Hdv.out]; exact hd0) (by rw [Hkv.out]; omega), ?_, fun u hu hlt => ⟨?_, rfl, rfl⟩, (Kp.of b1).trans (Kp.set (.inl rfl))⟩
        · rw [dAt_set (by rw [HR.out.lk]; exact hv), if_pos rfl]; omega
        · rw [dAt_set (by rw [HR.out.lk]; exact hv), if_neg (by rintro rfl; omega)]
      · have t2 : (dv == 0) = false := by simpa using hd0
        have hdp : 0 < dv := by omega
        obtain ⟨L, hL⟩ : ∃ L, nextS (nd : Int) l dn D (v : Int) = L := ⟨_, rfl⟩
        obtain ⟨mE, hmE⟩ : ∃ mE, L.length = mE := ⟨_, rfl⟩
        have hmE2 : mE ≤ 240 := by
          have : mE ≤ 2 * n := by
            rw [← hmE, ← hL, ← hln]
            unfold nextS
            split
            · exact Nat.le_trans (List.length_filter_le _ _) (outS_len l _ _)
            · simp
          omega
        have HNx := hid (refNext_spec (nd : Int) A n c l Ad n' c' dn (some ⟨bt, ot, none⟩) nd c2 D (v : Int) w1 ⟨HC1.out.lnk.more HC1.out.size, by omega, hc, hAn, by omega, by omega⟩ ⟨HC1.out.dn.more HC1.out.size, hn', hc', hAd⟩ ⟨HC1.out.to.more HC1.out.size, by omega, hc2, hAt, fun x hx => by have := hDr x hx; omega⟩ (by omega) (by omega))
        rw [hL] at HNx
        have HE := hid (fun (kk : Nat) (hk : kk < 240) (w' : World) (hh : CArg B nd A n c l Ad n' c' dn (some ⟨bt, ot, none⟩) c2 D K F M w') => refEnds_any (nd : Int) A n c l (kk : Int) w' (hh.lnk.more hh.size) (by omega) (by omega))
        have HL := hid hL
        have HmE := hid hmE
        have IH := hid ih
        clear hL hmE ih
        go_enter Try.func20, Try.ntmps20
        go_wp2_with (go_at_call 24; (with_reducible refine HNx.out.mono ?_); rintro e' w5 ⟨vL, rfl, hown5, hb5⟩; rw [HmE.out] at hown5; obtain ⟨A7, c7, rfl⟩ := own_form hown5; have HO5 := hid hown5; clear hown5)
        have hs5 := hb5.size
        have HX5 : Hid (w5.heap[w.heap.size]? = some (.cells #[.int .i64 (nd : Int), .slice A n c] 24 (0, 0))) := box_below Hbx.out hb5 (by omega)
        have HR5 := hid (hr1.below hb5)
        have HC5 := hid (HC1.out.kp (Kp.of hb5) hB.1 hB.2.1 hB.2.2)
        have HK5 : Hid (Kp K F M w w5) := by
          have h1 : Kp K F M w w1 := Kp.of b1
          exact h1.trans (Kp.of hb5)
        have hgv := HG.out v hv (Int.le_refl _)
        have Hv0 : Hid (dAt k (v : Int) = -1 ∧ dAt f (v : Int) = ((Tt nd l dn D v 0).2.1 : Int) ∧ dAt m (v : Int) = ((Tt nd l dn D v 0).2.2 : Int)) := by
          rw [Tt_zero]
          rcases hgv with h1 | h1
          · exact h1
          · have := h1.2.1; rw [Hkv.out] at this; omega
        have HG5 : Hid (Good nd (nxL nd l dn D) D k f m (dv - 1)) := fun u hu hle => HG.out u hu (by rw [Hdv.out]; omega)
        clear hgv ck ct q0 q1 hr1
        go_loopw [14, 16] (fun nn ii wr => ∃ (i : Nat) (k' f' m' : List Int), i ≤ mE ∧ ii = .int .i64 i ∧ nn = .int .i64 ((min (Tt nd l dn D v i).1 capB : Nat) : Int) ∧ Hid (Rw3 nd K F M k' f' m' wr) ∧ Hid (Good nd (nxL nd l dn D) D k' f' m' (dv - 1)) ∧ Hid (dAt k' (v : Int) = -1 ∧ dAt f' (v : Int) = ((Tt nd l dn D v i).2.1 : Int) ∧ dAt m' (v : Int) = ((Tt nd l dn D v i).2.2 : Int)) ∧ Hid (∀ u : Nat, u < nd → dv ≤ dAt D (u : Int) → u ≠ v → dAt k' (u : Int) = dAt k (u : Int) ∧ dAt f' (u : Int) = dAt f (u : Int) ∧ dAt m' (u : Int) = dAt m (u : Int)) ∧ Hid (Kp K F M w5 wr)) (fun _ ii _ => mE - (intOf ii).toNat)
        case atStart => exact ⟨0, k, f, m, Nat.zero_le _, rfl, by rw [Tt_zero]; rfl, HR5, HG5, Hv0, fun u _ _ _ => ⟨rfl, rfl, rfl⟩, Kp.refl w5⟩
        case round =>
          obtain ⟨i, k', f', m', hi, rfl, rfl, HRx, HGx, Hvx, Hux, HKx⟩ := hrel
          have HCx := hid (HC5.out.kp HKx.out hB.1 hB.2.1 hB.2.2)
          have hsx := HKx.out.size
          have hXx : wr.heap[w.heap.size]? = some (.cells #[.int .i64 (nd : Int), .slice A n c] 24 (0, 0)) := (HKx.out.block _ (by omega) (by omega) (by omega) (by omega)).trans HX5.out
          obtain ⟨z0, z1, _⟩ := box_cells hXx
          by_cases hlt : i < mE
          · obtain ⟨ei, hei⟩ : ∃ ei, L[i]? = some ei := ⟨L[i]'(by rw [HmE.out]; exact hlt), List.getElem?_eq_getElem _⟩
            obtain ⟨kk, b, rfl, hkk, hdk, hends, hto, hbn, hb0, hb1, _⟩ := nextS_mem hok (HL.out ▸ List.mem_of_getElem? hei)
            obtain ⟨g, cap, heq, hgl, hgs, hgc⟩ := own_lo HO5.out (by omega)
            simp only [Value.slice.injEq] at heq
            obtain ⟨rfl, _, rfl⟩ := heq
            have cL := hid (HKx.out.cell (j := i) hgs (by omega) (by omega) (by omega) (hgc i _ hei))
            have HEk := hid (HE.out kk (by omega))
            rw [hends] at HEk
            rw [Hdv.out] at hb1
            have hsx2 : w.heap.size < wr.heap.size := by omega
            have HAll : Hid (∀ w', Below wr.drew.heap.size wr.drew w' → (CArg B nd A n c l Ad n' c' dn (some ⟨bt, ot, none⟩) c2 D K F M w' ∧ Rw3 nd K F M k' f' m' w' ∧ Kp K F M w5 w') ∧ (w'.cell? ⟨w.heap.size, 0, none⟩ = some (.int .i64 (nd : Int)) ∧ w'.cell? ⟨w.heap.size, 1, none⟩ = some (.slice A n c) ∧ w'.cell? ⟨g, i, none⟩ = some (.int .i64 (kk : Int)))) := by
              intro w' hb'
              have hk' : Kp K F M w5 w' := HKx.out.trans ((Kp.of ((Below.refl wr.heap.size wr).drew)).trans (Kp.of hb'))
              have hX' : w'.heap[w.heap.size]? = some (.cells #[.int .i64 (nd : Int), .slice A n c] 24 (0, 0)) := (hk'.block _ (by omega) (by omega) (by omega) (by omega)).trans HX5.out
              exact ⟨⟨HC5.out.kp hk' hB.1 hB.2.1 hB.2.2, (HRx.out.below ((Below.refl _ _).drew)).below hb', hk'⟩, (box_cells hX').1, (box_cells hX').2.1, hk'.cell (j := i) hgs (by omega) (by omega) (by omega) (hgc i _ hei)⟩
            obtain ⟨hA0, d0, d1, d2⟩ := HAll.out _ (Below.refl _ _)
            have HT := hid (Tt_succ (D := D) (HL.out ▸ hei) hto)
            have hTl := Tt_le (dn := dn) (D := D) (v := v) hok i
            rw [Hdv.out] at hTl
            have hbl := tr_le (nearer (dn := dn) (D := D) hok) _ b (Nat.le_refl _) hb0
            have hD654 : dAt D (b : Int) ≤ 654311424 := (hDr _ (List.mem_of_getElem? (dAt_get (d := D) (v := b) (by rw [hDl]; exact hbn)))).2
            have hdv654 : dv ≤ 654311424 := by rw [← Hdv.out]; exact (hDr _ (List.mem_of_getElem? (dAt_get (d := D) (v := v) (by rw [hDl]; exact hv)))).2
            have HIH := hid (fun (w' : World) (h1 : CArg B nd A n c l Ad n' c' dn (some ⟨bt, ot, none⟩) c2 D K F M w') (h2 : Rw3 nd K F M k' f' m' w') => IH.out b k' f' m' w' (by omega) hb0 hbn h1 h2 (fun u hu hle => HGx.out u hu (by omega)))
            obtain ⟨a1, ha1⟩ : ∃ a1, (Tt nd l dn D v i).1 = a1 := ⟨_, rfl⟩
            obtain ⟨a2, ha2⟩ : ∃ a2, (Tt nd l dn D v i).2.1 = a2 := ⟨_, rfl⟩
            obtain ⟨a3, ha3⟩ : ∃ a3, (Tt nd l dn D v i).2.2 = a3 := ⟨_, rfl⟩
            obtain ⟨p1, hp1⟩ : ∃ p1, (tr (nxL nd l dn D) D b).1 = p1 := ⟨_, rfl⟩
            obtain ⟨p2, hp2⟩ : ∃ p2, (tr (nxL nd l dn D) D b).2.1 = p2 := ⟨_, rfl⟩
            obtain ⟨p3, hp3⟩ : ∃ p3, (tr (nxL nd l dn D) D b).2.2 = p3 := ⟨_, rfl⟩
            rw [ha1, ha2, ha3, hp1, hp2, hp3] at HT
            rw [ha2, ha3] at hTl Hvx
            rw [hp2, hp3] at hbl
            simp only [ha1]
            obtain ⟨q1, hq1⟩ : ∃ q1, min a1 capB = q1 := ⟨_, rfl⟩
            obtain ⟨q2, hq2⟩ : ∃ q2, min p1 capB = q2 := ⟨_, rfl⟩
            have hq1b : q1 ≤ 1099511627776 := by rw [← hq1]; exact Nat.min_le_right _ _
            have hq2b : q2 ≤ 1099511627776 := by rw [← hq2]; exact Nat.min_le_right _ _
            have hcut0 := (fun w' => cut_any (q1 + q2) w' (by omega))
            have hqq : min (q1 + q2) capB = min (a1 + p1) capB := by rw [← hq1, ← hq2]; exact cap_add a1 p1
            rw [hqq] at hcut0
            simp only [Int.natCast_add] at hcut0
            have HCut := hid hcut0
            clear hcut0
            have HQ := hid (And.intro hp1 (And.intro hp2 (And.intro hp3 hq2)))
            rw [hq1]
            have hw1 : IntKind.i64.wrap ((q1 : Int) + (q2 : Int)) = ((q1 + q2 : Nat) : Int) := by rw [wraps_i64 _ (by omega) (by omega)]; omega
            have hw2 : IntKind.i64.wrap ((p2 : Int) + 1) = (p2 : Int) + 1 := by rw [wraps_i64 _ (by omega) (by omega)]
            have hw3 : IntKind.i64.wrap ((p3 : Int) + 1) = (p3 : Int) + 1 := by rw [wraps_i64 _ (by omega) (by omega)]
            have i1 : (0 : Int) ≤ (i : Int) := by omega
            have i2 : (i : Int) < (mE : Int) := by omega
            have hMF : M ≠ F := hne.2.2.symm
            have hFM : F ≠ M := hne.2.2
            clear ha1 ha2 ha3 hp1 hp2 hp3 hq1 hq2 hqq hends hei hgc hXx
            go_wp2_with fail
            go_region_held3 (fun w' => w'.cell? ⟨w.heap.size, 0, none⟩ = some (.int .i64 (nd : Int)) ∧ w'.cell? ⟨w.heap.size, 1, none⟩ = some (.slice A n c) ∧ w'.cell? ⟨g, i, none⟩ = some (.int .i64 (kk : Int)))
              (first
                | go_keep
                | exact s6)
              (first
                | (go_at_call 17; (with_reducible refine (HEk.out _ hA0.1).mono ?_); rintro e' w6 ⟨rfl, b6⟩; obtain ⟨h6, s6⟩ := HAll.out _ b6; have H6 := hid h6; clear h6))
            obtain ⟨y0, y1, _⟩ := s6
            clear d0 d1 d2 z0 z1
            have HAft : Hid (∀ (w8 : World) (k2 f2 m2 : List Int), Rw3 nd K F M k2 f2 m2 w8 → Good nd (nxL nd l dn D) D k2 f2 m2 (dAt D (b : Int)) → 0 ≤ dAt k2 (b : Int) → (∀ u : Nat, u < nd → dAt D (b : Int) < dAt D (u : Int) → dAt k2 (u : Int) = dAt k' (u : Int) ∧ dAt f2 (u : Int) = dAt f' (u : Int) ∧ dAt m2 (u : Int) = dAt m' (u : Int)) →
                w8.cell? ⟨K, b, none⟩ = some (.int .i64 (q2 : Int)) ∧ w8.cell? ⟨F, b, none⟩ = some (.int .i64 (p2 : Int)) ∧ w8.cell? ⟨M, b, none⟩ = some (.int .i64 (p3 : Int)) ∧ w8.cell? ⟨F, v, none⟩ = some (.int .i64 (a2 : Int)) ∧ w8.cell? ⟨M, v, none⟩ = some (.int .i64 (a3 : Int)) ∧ w8.frozen? ⟨F, v, none⟩ = false ∧ w8.frozen? ⟨M, v, none⟩ = false) := by
              intro w8 k2 f2 m2 h1 h2 h3 h4
              have hv2 := h4 v hv (by rw [Hdv.out]; exact hb1)
              rcases h2 b hbn (Int.le_refl _) with h5 | ⟨_, h5, h6, h7⟩
              · omega
              · rw [HQ.out.1, HQ.out.2.2.2] at h5
                rw [HQ.out.2.1] at h6
                rw [HQ.out.2.2.1] at h7
                refine ⟨?_, ?_, ?_, ?_, ?_, h1.rf.frozen v, h1.rm.frozen v⟩
                · rw [← h5]; exact h1.rk.cell (dAt_get (by rw [h1.lk]; exact hbn))
                · rw [← h6]; exact h1.rf.cell (dAt_get (by rw [h1.lf]; exact hbn))
                · rw [← h7]; exact h1.rm.cell (dAt_get (by rw [h1.lm]; exact hbn))
                · rw [← Hvx.out.2.1, ← hv2.2.1]; exact h1.rf.cell (dAt_get (by rw [h1.lf]; exact hv))
                · rw [← Hvx.out.2.2, ← hv2.2.2]; exact h1.rm.cell (dAt_get (by rw [h1.lm]; exact hv))
            have HEnd : Hid (∀ (k2 f2 m2 : List Int), Good nd (nxL nd l dn D) D k2 f2 m2 (dAt D (b : Int)) → (∀ u : Nat, u < nd → dAt D (b : Int) < dAt D (u : Int) → dAt k2 (u : Int) = dAt k' (u : Int) ∧ dAt f2 (u : Int) = dAt f' (u : Int) ∧ dAt m2 (u : Int) = dAt m' (u : Int)) → ∀ f3 m3 : List Int,
                dAt f3 (v : Int) = ((if i = 0 then p2 + 1 else min a2 (p2 + 1) : Nat) : Int) → (∀ u : Nat, u ≠ v → dAt f3 (u : Int) = dAt f2 (u : Int)) → dAt m3 (v : Int) = ((max a3 (p3 + 1) : Nat) : Int) → (∀ u : Nat, u ≠ v → dAt m3 (u : Int) = dAt m2 (u : Int)) →
                Good nd (nxL nd l dn D) D k2 f3 m3 (dv - 1) ∧ (dAt k2 (v : Int) = -1 ∧ dAt f3 (v : Int) = ((Tt nd l dn D v (i + 1)).2.1 : Int) ∧ dAt m3 (v : Int) = ((Tt nd l dn D v (i + 1)).2.2 : Int)) ∧ (∀ u : Nat, u < nd → dv ≤ dAt D (u : Int) → u ≠ v → dAt k2 (u : Int) = dAt k (u : Int) ∧ dAt f3 (u : Int) = dAt f (u : Int) ∧ dAt m3 (u : Int) = dAt m (u : Int))) := by
              intro k2 f2 m2 h2 h4 f3 m3 e1 e2 e3 e4
              refine ⟨fun u hu hle => ?_, ⟨?_, ?_, ?_⟩, fun u hu hle huv => ?_⟩
              · have huv : u ≠ v := by rintro rfl; rw [Hdv.out] at hle; omega
                unfold Good1
                rw [e2 u huv, e4 u huv]
                rcases Int.lt_or_le (dAt D (b : Int)) (dAt D (u : Int)) with h5 | h5
                · obtain ⟨g1, g2, g3⟩ := h4 u hu h5
                  rw [g1, g2, g3]
                  exact HGx.out u hu hle
                · exact h2 u hu h5
              · rw [(h4 v hv (by rw [Hdv.out]; exact hb1)).1]; exact Hvx.out.1
              · rw [e1, HT.out]
              · rw [e3, HT.out]
              · obtain ⟨g1, g2, g3⟩ := h4 u hu (by omega)
                obtain ⟨u1, u2, u3⟩ := Hux.out u hu hle huv
                rw [e2 u huv, e4 u huv, g1, g2, g3]
                exact ⟨u1, u2, u3⟩
            by_cases hi0 : i = 0
            · have t5 : ((i : Int) == 0) = true := by simp; omega
              have hi0 := hid hi0
              by_cases hcm : a3 < p3 + 1
              · have u1 : decide ((a3 : Int) < (p3 : Int) + 1) = true := by simp; omega
                have hcm := hid hcm
                go_wp2_with (first
                  | (go_at_call 20; (with_reducible refine (HIH.out _ H6.out.1 H6.out.2.1).mono ?_); rintro e' w8 ⟨rfl, k2, f2, m2, hrw2, hgd2, hk2, hun2, hkp2⟩; have HW2 := hid hrw2; have HG2 := hid hgd2; have HU2 := hid hun2; have HP2 := hid hkp2; obtain ⟨e1, e2, e3, e4, e5, e6, e7⟩ := HAft.out _ _ _ _ hrw2 hgd2 hk2 hun2; have hvv := (hun2 v hv (by rw [Hdv.out]; exact hb1)); have HVV := hid hvv; clear hrw2 hgd2 hun2 hkp2 hvv)
                  | (go_at_call 14; (with_reducible refine (HCut.out _).mono ?_); rintro _ _ ⟨rfl, rfl⟩)
                  | go_big_quiet (fail))
                have HEn := hid (HEnd.out k2 f2 m2 HG2.out HU2.out (f2.set v ((p2 : Int) + 1)) (m2.set v ((p3 : Int) + 1)) (by rw [dAt_set (by rw [HW2.out.lf]; exact hv), if_pos rfl, if_pos hi0.out]; rfl) (fun u huv => by rw [dAt_set (by rw [HW2.out.lf]; exact hv), if_neg huv]) (by rw [dAt_set (by rw [HW2.out.lm]; exact hv), if_pos rfl, Nat.max_eq_right (by have := hcm.out; omega)]; rfl) (fun u huv => by rw [dAt_set (by rw [HW2.out.lm]; exact hv), if_neg huv]))
                clear hw1 hw2 hw3
                go_roundw
                case rel => exact ⟨i + 1, k2, (f2.set v ((p2 : Int) + 1)), (m2.set v ((p3 : Int) + 1)), by omega, by rw [hi0.out]; rfl, by rw [HT.out], ((((HW2.out.drewN _).setF hne.1 hne.2.2.symm _).drewN _).setM hne.2.1 hne.2.2 _), HEn.out.1, HEn.out.2.1, HEn.out.2.2, (((((H6.out.2.2.trans HP2.out).trans (Kp.drewN _ _)).trans (Kp.set (.inr (.inl rfl)))).trans (Kp.drewN _ _)).trans (Kp.set (.inr (.inr rfl))))⟩
                case measure => have h9 := hi0.out; simp [intOf]; omega
              · have u1 : decide ((a3 : Int) < (p3 : Int) + 1) = false := by simp; omega
                have hcm := hid hcm
                go_wp2_with (first
                  | (go_at_call 20; (with_reducible refine (HIH.out _ H6.out.1 H6.out.2.1).mono ?_); rintro e' w8 ⟨rfl, k2, f2, m2, hrw2, hgd2, hk2, hun2, hkp2⟩; have HW2 := hid hrw2; have HG2 := hid hgd2; have HU2 := hid hun2; have HP2 := hid hkp2; obtain ⟨e1, e2, e3, e4, e5, e6, e7⟩ := HAft.out _ _ _ _ hrw2 hgd2 hk2 hun2; have hvv := (hun2 v hv (by rw [Hdv.out]; exact hb1)); have HVV := hid hvv; clear hrw2 hgd2 hun2 hkp2 hvv)
                  | (go_at_call 14; (with_reducible refine (HCut.out _).mono ?_); rintro _ _ ⟨rfl, rfl⟩)
                  | go_big_quiet (fail))
                have HEn := hid (HEnd.out k2 f2 m2 HG2.out HU2.out (f2.set v ((p2 : Int) + 1)) m2 (by rw [dAt_set (by rw [HW2.out.lf]; exact hv), if_pos rfl, if_pos hi0.out]; rfl) (fun u huv => by rw [dAt_set (by rw [HW2.out.lf]; exact hv), if_neg huv]) (by rw [HVV.out.2.2, Hvx.out.2.2, Nat.max_eq_left (by have := hcm.out; omega)]) (fun _ _ => rfl))
                clear hw1 hw2 hw3
                go_roundw
                case rel => exact ⟨i + 1, k2, (f2.set v ((p2 : Int) + 1)), m2, by omega, by rw [hi0.out]; rfl, by rw [HT.out], (((HW2.out.drewN _).setF hne.1 hne.2.2.symm _).drewN _), HEn.out.1, HEn.out.2.1, HEn.out.2.2, ((((H6.out.2.2.trans HP2.out).trans (Kp.drewN _ _)).trans (Kp.set (.inr (.inl rfl)))).trans (Kp.drewN _ _))⟩
                case measure => have h9 := hi0.out; simp [intOf]; omega
            · have t5 : ((i : Int) == 0) = false := by simp; omega
              have hi0 := hid hi0
              by_cases hcf : p2 + 1 < a2
              · have t6 : decide ((p2 : Int) + 1 < (a2 : Int)) = true := by simp; omega
                have hcf := hid hcf
                by_cases hcm : a3 < p3 + 1
                · have u1 : decide ((a3 : Int) < (p3 : Int) + 1) = true := by simp; omega
                  have hcm := hid hcm
                  go_wp2_with (first
                    | (go_at_call 20; (with_reducible refine (HIH.out _ H6.out.1 H6.out.2.1).mono ?_); rintro e' w8 ⟨rfl, k2, f2, m2, hrw2, hgd2, hk2, hun2, hkp2⟩; have HW2 := hid hrw2; have HG2 := hid hgd2; have HU2 := hid hun2; have HP2 := hid hkp2; obtain ⟨e1, e2, e3, e4, e5, e6, e7⟩ := HAft.out _ _ _ _ hrw2 hgd2 hk2 hun2; have hvv := (hun2 v hv (by rw [Hdv.out]; exact hb1)); have HVV := hid hvv; clear hrw2 hgd2 hun2 hkp2 hvv)
                    | (go_at_call 14; (with_reducible refine (HCut.out _).mono ?_); rintro _ _ ⟨rfl, rfl⟩)
                    | go_big_quiet (fail))
                  have HEn := hid (HEnd.out k2 f2 m2 HG2.out HU2.out (f2.set v ((p2 : Int) + 1)) (m2.set v ((p3 : Int) + 1)) (by rw [dAt_set (by rw [HW2.out.lf]; exact hv), if_pos rfl, if_neg hi0.out, Nat.min_eq_right (by have := hcf.out; omega)]; rfl) (fun u huv => by rw [dAt_set (by rw [HW2.out.lf]; exact hv), if_neg huv]) (by rw [dAt_set (by rw [HW2.out.lm]; exact hv), if_pos rfl, Nat.max_eq_right (by have := hcm.out; omega)]; rfl) (fun u huv => by rw [dAt_set (by rw [HW2.out.lm]; exact hv), if_neg huv]))
                  clear hw1 hw2 hw3
                  go_roundw
                  case rel => exact ⟨i + 1, k2, (f2.set v ((p2 : Int) + 1)), (m2.set v ((p3 : Int) + 1)), by omega, by go_num, by rw [HT.out], ((((HW2.out.drewN _).setF hne.1 hne.2.2.symm _).drewN _).setM hne.2.1 hne.2.2 _), HEn.out.1, HEn.out.2.1, HEn.out.2.2, (((((H6.out.2.2.trans HP2.out).trans (Kp.drewN _ _)).trans (Kp.set (.inr (.inl rfl)))).trans (Kp.drewN _ _)).trans (Kp.set (.inr (.inr rfl))))⟩
                  case measure => simp [intOf]; omega
                · have u1 : decide ((a3 : Int) < (p3 : Int) + 1) = false := by simp; omega
                  have hcm := hid hcm
                  go_wp2_with (first
                    | (go_at_call 20; (with_reducible refine (HIH.out _ H6.out.1 H6.out.2.1).mono ?_); rintro e' w8 ⟨rfl, k2, f2, m2, hrw2, hgd2, hk2, hun2, hkp2⟩; have HW2 := hid hrw2; have HG2 := hid hgd2; have HU2 := hid hun2; have HP2 := hid hkp2; obtain ⟨e1, e2, e3, e4, e5, e6, e7⟩ := HAft.out _ _ _ _ hrw2 hgd2 hk2 hun2; have hvv := (hun2 v hv (by rw [Hdv.out]; exact hb1)); have HVV := hid hvv; clear hrw2 hgd2 hun2 hkp2 hvv)
                    | (go_at_call 14; (with_reducible refine (HCut.out _).mono ?_); rintro _ _ ⟨rfl, rfl⟩)
                    | go_big_quiet (fail))
                  have HEn := hid (HEnd.out k2 f2 m2 HG2.out HU2.out (f2.set v ((p2 : Int) + 1)) m2 (by rw [dAt_set (by rw [HW2.out.lf]; exact hv), if_pos rfl, if_neg hi0.out, Nat.min_eq_right (by have := hcf.out; omega)]; rfl) (fun u huv => by rw [dAt_set (by rw [HW2.out.lf]; exact hv), if_neg huv]) (by rw [HVV.out.2.2, Hvx.out.2.2, Nat.max_eq_left (by have := hcm.out; omega)]) (fun _ _ => rfl))
                  clear hw1 hw2 hw3
                  go_roundw
                  case rel => exact ⟨i + 1, k2, (f2.set v ((p2 : Int) + 1)), m2, by omega, by go_num, by rw [HT.out], (((HW2.out.drewN _).setF hne.1 hne.2.2.symm _).drewN _), HEn.out.1, HEn.out.2.1, HEn.out.2.2, ((((H6.out.2.2.trans HP2.out).trans (Kp.drewN _ _)).trans (Kp.set (.inr (.inl rfl)))).trans (Kp.drewN _ _))⟩
                  case measure => simp [intOf]; omega
              · have t6 : decide ((p2 : Int) + 1 < (a2 : Int)) = false := by simp; omega
                have hcf := hid hcf
                by_cases hcm : a3 < p3 + 1
                · have u1 : decide ((a3 : Int) < (p3 : Int) + 1) = true := by simp; omega
                  have hcm := hid hcm
                  go_wp2_with (first
                    | (go_at_call 20; (with_reducible refine (HIH.out _ H6.out.1 H6.out.2.1).mono ?_); rintro e' w8 ⟨rfl, k2, f2, m2, hrw2, hgd2, hk2, hun2, hkp2⟩; have HW2 := hid hrw2; have HG2 := hid hgd2; have HU2 := hid hun2; have HP2 := hid hkp2; obtain ⟨e1, e2, e3, e4, e5, e6, e7⟩ := HAft.out _ _ _ _ hrw2 hgd2 hk2 hun2; have hvv := (hun2 v hv (by rw [Hdv.out]; exact hb1)); have HVV := hid hvv; clear hrw2 hgd2 hun2 hkp2 hvv)
                    | (go_at_call 14; (with_reducible refine (HCut.out _).mono ?_); rintro _ _ ⟨rfl, rfl⟩)
                    | go_big_quiet (fail))
                  have HEn := hid (HEnd.out k2 f2 m2 HG2.out HU2.out f2 (m2.set v ((p3 : Int) + 1)) (by rw [HVV.out.2.1, Hvx.out.2.1, if_neg hi0.out, Nat.min_eq_left (by have := hcf.out; omega)]) (fun _ _ => rfl) (by rw [dAt_set (by rw [HW2.out.lm]; exact hv), if_pos rfl, Nat.max_eq_right (by have := hcm.out; omega)]; rfl) (fun u huv => by rw [dAt_set (by rw [HW2.out.lm]; exact hv), if_neg huv]))
                  clear hw1 hw2 hw3
                  go_roundw
                  case rel => exact ⟨i + 1, k2, f2, (m2.set v ((p3 : Int) + 1)), by omega, by go_num, by rw [HT.out], ((HW2.out.drewN _).setM hne.2.1 hne.2.2 _), HEn.out.1, HEn.out.2.1, HEn.out.2.2, (((H6.out.2.2.trans HP2.out).trans (Kp.drewN _ _)).trans (Kp.set (.inr (.inr rfl))))⟩
                  case measure => simp [intOf]; omega
                · have u1 : decide ((a3 : Int) < (p3 : Int) + 1) = false := by simp; omega
                  have hcm := hid hcm
                  go_wp2_with (first
                    | (go_at_call 20; (with_reducible refine (HIH.out _ H6.out.1 H6.out.2.1).mono ?_); rintro e' w8 ⟨rfl, k2, f2, m2, hrw2, hgd2, hk2, hun2, hkp2⟩; have HW2 := hid hrw2; have HG2 := hid hgd2; have HU2 := hid hun2; have HP2 := hid hkp2; obtain ⟨e1, e2, e3, e4, e5, e6, e7⟩ := HAft.out _ _ _ _ hrw2 hgd2 hk2 hun2; have hvv := (hun2 v hv (by rw [Hdv.out]; exact hb1)); have HVV := hid hvv; clear hrw2 hgd2 hun2 hkp2 hvv)
                    | (go_at_call 14; (with_reducible refine (HCut.out _).mono ?_); rintro _ _ ⟨rfl, rfl⟩)
                    | go_big_quiet (fail))
                  have HEn := hid (HEnd.out k2 f2 m2 HG2.out HU2.out f2 m2 (by rw [HVV.out.2.1, Hvx.out.2.1, if_neg hi0.out, Nat.min_eq_left (by have := hcf.out; omega)]) (fun _ _ => rfl) (by rw [HVV.out.2.2, Hvx.out.2.2, Nat.max_eq_left (by have := hcm.out; omega)]) (fun _ _ => rfl))
                  clear hw1 hw2 hw3
                  go_roundw
                  case rel => exact ⟨i + 1, k2, f2, m2, by omega, by go_num, by rw [HT.out], (HW2.out.drewN _), HEn.out.1, HEn.out.2.1, HEn.out.2.2, ((H6.out.2.2.trans HP2.out).trans (Kp.drewN _ _))⟩
                  case measure => simp [intOf]; omega
          · obtain rfl : i = mE := by omega
            have hTa := Tt_all (dn := dn) hok (v := v) (D := D) (by rw [Hdv.out]; omega)
            rw [HL.out, HmE.out] at hTa
            have HTa := hid hTa
            have fk := HRx.out.rk.frozen v
            have ck := HRx.out.rk.cell (dAt_get (d := k') (v := v) (by rw [HRx.out.lk]; exact hv))
            clear hTa
            go_wp2_with fail
            go_end0
            refine ⟨rfl, _, f', m', HRx.out.setK hne.1.symm hne.2.1.symm _, ?_, ?_, ?_, ((HK5.out.trans HKx.out).trans (Kp.set (.inl rfl)))⟩
            · intro u hu hle
              rw [Hdv.out] at hle
              unfold Good1
              rw [dAt_set (by rw [HRx.out.lk]; exact hv)]
              by_cases huv : u = v
              · subst huv
                rw [if_pos rfl]
                exact .inr ⟨by rw [Hdv.out]; omega, by rw [HTa.out], by rw [Hvx.out.2.1, HTa.out], by rw [Hvx.out.2.2, HTa.out]⟩
              · rw [if_neg huv]
                rcases Int.lt_or_le (dAt D (u : Int)) dv with h5 | h5
                · exact HGx.out u hu (by omega)
                · obtain ⟨e1, e2, e3⟩ := Hux.out u hu h5 huv
                  rw [e1, e2, e3]
                  exact HG.out u hu (by rw [Hdv.out]; exact hle)
            · rw [dAt_set (by rw [HRx.out.lk]; exact hv), if_pos rfl]; omega
            · intro u hu hlt2
              rw [Hdv.out] at hlt2
              have huv : u ≠ v := by rintro rfl; rw [Hdv.out] at hlt2; omega
              rw [dAt_set (by rw [HRx.out.lk]; exact hv), if_neg huv]
              exact Hux.out u hu (by omega) huv
end Go.Proofs.Ytcjilpgblbnebaa
