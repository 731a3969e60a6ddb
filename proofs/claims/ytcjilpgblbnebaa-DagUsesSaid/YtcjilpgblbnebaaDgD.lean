/- waymarkref1.Ways. -/
import Derived.Test.YtcjilpgblbnebaaDgC
namespace Go.Proofs.Ytcjilpgblbnebaa
open Go.RowKit
set_option maxHeartbeats 12800000
set_option maxRecDepth 100000
theorem results_tmp4 {fn : Func} {t u v x : Tmp} (h : fn.results = #[.tmp t, .tmp u, .tmp v, .tmp x]) (tmps : Array Value) (P : Program) (w : World) :
    (results fn tmps).run P w = .ok (.tuple #[tmps.getD t undef, tmps.getD u undef, tmps.getD v undef, tmps.getD x undef]) w := by
  simp [results, h]
/-- What Ways tells. -/
noncomputable def waysS (nd : Int) (l : List Lnk) (dn : List Bool) (s t : Int) : Nat × Nat × Nat × Bool := open Classical in
  if (checkS nd l).2 = 0 ∧ 0 ≤ t ∧ t < nd ∧ 0 ≤ s ∧ s < nd ∧ 0 ≤ dAt (distS nd.toNat l dn t.toNat) s then
    (min (tr (nxL nd.toNat l dn (distS nd.toNat l dn t.toNat)) (distS nd.toNat l dn t.toNat) s.toNat).1 capB, (tr (nxL nd.toNat l dn (distS nd.toNat l dn t.toNat)) (distS nd.toNat l dn t.toNat) s.toNat).2.1, (tr (nxL nd.toNat l dn (distS nd.toNat l dn t.toNat)) (distS nd.toNat l dn t.toNat) s.toNat).2.2, true)
  else (0, 0, 0, false)
def WaysAns (x : Nat × Nat × Nat × Bool) (w : World) (e : Ending) (w' : World) : Prop := e = .returned (.tuple #[.int .i64 (x.1 : Int), .int .i64 (x.2.1 : Int), .int .i64 (x.2.2.1 : Int), .bool x.2.2.2]) ∧ Below w.heap.size w w'
theorem refWays_no (nd : Int) (A : Option Addr) (n c : Nat) (l : List Lnk) (Ad : Option Addr) (n' c' : Nat) (dn : List Bool) (s t : Int) (w : World) (hg : GArg w nd A n c l) (hd : DArg w Ad n' c' dn) (hs : -9223372036854775808 ≤ s ∧ s ≤ 9223372036854775807) (ht : -9223372036854775808 ≤ t ∧ t ≤ 9223372036854775807)
    (h : ¬((checkS nd l).2 = 0 ∧ 0 ≤ t ∧ t < nd ∧ 0 ≤ s ∧ s < nd ∧ 0 ≤ dAt (distS nd.toNat l dn t.toNat) s)) :
    Calls Try.prog 8 #[.agg #[.int .i64 nd, .slice A n c], .slice Ad n' c', .int .i64 s, .int .i64 t] w (WaysAns (0, 0, 0, false) w) := by
  have hS := Held.start w nd A n c
  obtain ⟨g0, g1⟩ := hS.cells
  have HF := hid (refFrom_spec nd A n c l Ad n' c' dn t _ (hg.on hS.1) (hd.on hS.1) ht.1 ht.2)
  have HNd := hid (fun (w' : World) (h : Held w nd A n c w') => (node_any nd A n c s w').mono (fun e w'' h2 => (⟨h2.1, h.next h2.2, h2.2⟩ : _ ∧ Held w nd A n c w'' ∧ Below w'.heap.size w' w'')))
  by_cases h1 : (checkS nd l).2 = 0 ∧ 0 ≤ t ∧ t < nd
  · obtain ⟨N, rfl⟩ := Int.eq_ofNat_of_zero_le (show 0 ≤ nd by omega)
    obtain ⟨T, rfl⟩ := Int.eq_ofNat_of_zero_le h1.2.1
    have hok := gok_of h1.1
    have hT : T < N := by omega
    have Q : fromS (N : Int) l dn (T : Int) = distS N l dn T := by unfold fromS; rw [if_pos h1, Int.toNat_natCast, Int.toNat_natCast]
    have hdl := (dist_ok (dn := dn) hok hT).len
    rw [Int.toNat_natCast, Int.toNat_natCast] at h
    rw [Q] at HF
    have t1 : ((N : Int) == 0) = false := by simp; omega
    by_cases h2 : 0 ≤ s ∧ s < (N : Int)
    · have hb : (decide (0 ≤ s) && decide (s < (N : Int))) = true := by simp [h2]
      rw [hb] at HNd
      obtain ⟨S, rfl⟩ := Int.eq_ofNat_of_zero_le h2.1
      have hS2 : S < N := by omega
      obtain ⟨x, hx⟩ : ∃ x, dAt (distS N l dn T) (S : Int) = x := ⟨_, rfl⟩
      have hxn : x < 0 := by rw [← hx]; exact Int.not_le.1 (fun h3 => h ⟨h1.1, h1.2.1, h1.2.2, h2.1, h2.2, h3⟩)
      have t2 : decide (x < 0) = true := by simpa using hxn
      have hgt := hx ▸ dAt_get (d := distS N l dn T) (v := S) (by rw [hdl]; exact hS2)
      obtain ⟨D, hD⟩ : ∃ D, distS N l dn T = D := ⟨_, rfl⟩
      rw [hD] at HF hgt hdl
      have Hgt := hid hgt
      have Hdl := hid hdl
      clear hg hd h h1 hok Q hx hxn hgt hD hdl hb
      go_enter Try.func8, Try.ntmps8
      go_wp2_with (first
        | (go_at_call 16; (with_reducible refine HF.out.mono ?_); rintro e' w1 ⟨v1, rfl, hown1, hb1⟩; rw [Hdl.out] at hown1; obtain ⟨g, cap, rfl, _, hgs, hgc⟩ := own_lo hown1 (by omega); have h1 := hS.next hb1; obtain ⟨g2, g3⟩ := h1.cells; have hcs := hid (hgc S _ Hgt.out); clear hgc hown1)
        | (go_at_call 19; (with_reducible refine (HNd.out _ h1).mono ?_); rintro e' w2 ⟨rfl, h2, hb2⟩; obtain ⟨g4, g5⟩ := h2.cells; have cS := (hb2.cell (p := ⟨g, S, none⟩) hgs).trans hcs.out))
      try simp only [Exit.inBlock, Exit.then]
      refine bodyPost_ret (results_tmp4 rfl _ _ _) rfl ?_
      exact ⟨rfl, h2.1⟩
    · have hb : (decide (0 ≤ s) && decide (s < (N : Int))) = false := by
        rcases (show ¬(0 ≤ s) ∨ ¬(s < (N : Int)) by omega) with h5 | h5 <;> simp [h5]
      rw [hb] at HNd
      obtain ⟨D, hD⟩ : ∃ D, distS N l dn T = D := ⟨_, rfl⟩
      rw [hD] at HF hdl
      have Hdl := hid hdl
      clear hg hd h h1 hok Q hD hdl hb
      go_enter Try.func8, Try.ntmps8
      go_wp2_with (first
        | (go_at_call 16; (with_reducible refine HF.out.mono ?_); rintro e' w1 ⟨v1, rfl, hown1, hb1⟩; rw [Hdl.out] at hown1; obtain ⟨A1, c1, rfl⟩ := own_form hown1; have h1 := hS.next hb1; obtain ⟨g2, g3⟩ := h1.cells; clear hown1)
        | (go_at_call 19; (with_reducible refine (HNd.out _ h1).mono ?_); rintro e' w2 ⟨rfl, h2, _⟩))
      try simp only [Exit.inBlock, Exit.then]
      refine bodyPost_ret (results_tmp4 rfl _ _ _) rfl ?_
      exact ⟨rfl, h2.1⟩
  · have Q : fromS nd l dn t = [] := by unfold fromS; rw [if_neg h1]
    rw [Q] at HF
    clear hg hd h h1 Q
    go_enter Try.func8, Try.ntmps8
    go_wp2_with (go_at_call 16; (with_reducible refine HF.out.mono ?_); rintro e' w1 ⟨v1, rfl, hown1, hb1⟩; obtain ⟨A1, c1, rfl⟩ := own_form hown1; have h1 := hS.next hb1; obtain ⟨g2, g3⟩ := h1.cells)
    try simp only [Exit.inBlock, Exit.then]
    refine bodyPost_ret (results_tmp4 rfl _ _ _) rfl ?_
    exact ⟨rfl, h1.1⟩
theorem refWays_in (N : Nat) (A : Option Addr) (n c : Nat) (l : List Lnk) (Ad : Option Addr) (n' c' : Nat) (dn : List Bool) (S T : Nat) (w : World) (hg : GArg w (N : Int) A n c l) (hd : DArg w Ad n' c' dn) (h0 : (checkS (N : Int) l).2 = 0) (hT : T < N) (hS2 : S < N) (hx0 : 0 ≤ dAt (distS N l dn T) (S : Int)) :
    Calls Try.prog 8 #[.agg #[.int .i64 (N : Int), .slice A n c], .slice Ad n' c', .int .i64 (S : Int), .int .i64 (T : Int)] w (WaysAns (min (tr (nxL N l dn (distS N l dn T)) (distS N l dn T) S).1 capB, (tr (nxL N l dn (distS N l dn T)) (distS N l dn T) S).2.1, (tr (nxL N l dn (distS N l dn T)) (distS N l dn T) S).2.2, true) w) := by
  have hok := gok_of h0
  have hN : N ≤ 40 := hok.2.2.1
  have hS := Held.start w (N : Int) A n c
  obtain ⟨g0, g1⟩ := hS.cells
  have HF := hid (refFrom_spec (N : Int) A n c l Ad n' c' dn (T : Int) _ (hg.on hS.1) (hd.on hS.1) (by omega) (by omega))
  have HNd := hid (fun (w' : World) (h : Held w (N : Int) A n c w') => (node_any (N : Int) A n c (S : Int) w').mono (fun e w'' h2 => (⟨h2.1, h.next h2.2, h2.2⟩ : _ ∧ Held w (N : Int) A n c w'' ∧ Below w'.heap.size w' w'')))
  have Q : fromS (N : Int) l dn (T : Int) = distS N l dn T := by unfold fromS; rw [if_pos ⟨h0, by omega, by omega⟩, Int.toNat_natCast, Int.toNat_natCast]
  have hdl := (dist_ok (dn := dn) hok hT).len
  rw [Q] at HF
  have hb : (decide (0 ≤ (S : Int)) && decide ((S : Int) < (N : Int))) = true := by simp; omega
  rw [hb] at HNd
  have hDr : ∀ x ∈ distS N l dn T, -1 ≤ x ∧ x ≤ 654311424 := by
    intro x hx
    obtain ⟨i, hi, rfl⟩ := List.getElem_of_mem hx
    have e := dAt_get hi
    rw [List.getElem?_eq_getElem hi] at e
    injection e with e
    rw [e]
    exact ⟨(dist_ok (dn := dn) hok hT).low i (by omega), dist_top hok hT (by omega)⟩
  have hgt := dAt_get (d := distS N l dn T) (v := S) (by rw [hdl]; exact hS2)
  obtain ⟨D, hD⟩ : ∃ D, distS N l dn T = D := ⟨_, rfl⟩
  rw [hD] at HF hgt hdl hx0 hDr ⊢
  obtain ⟨x, hx⟩ : ∃ x, dAt D (S : Int) = x := ⟨_, rfl⟩
  rw [hx] at hgt
  have t1 : ((N : Int) == 0) = false := by simp; omega
  have t2 : decide (x < 0) = false := by rw [← hx]; simpa using hx0
  have Hgt := hid hgt
  have Hdl := hid hdl
  have HDr := hid hDr
  have Hx0 := hid hx0
  have Hg := hid hg
  have Hd := hid hd
  have HOK := hid hok
  obtain ⟨i5, hi, hz0, hz1, hz2⟩ := info_parts (show (Try.prog.info? 3).map (fun i => (i.zero, i.size, i.bytes)) = some (some (.int .i64 0), 1, 8) by kernel_rfl)
  have Ai := hid hi; have Az0 := hid hz0; have Az1 := hid hz1; have Az2 := hid hz2
  clear hi hz0 hz1 hz2 hg hd h0 hok Q hx hgt hdl hD hDr hx0 hb
  go_enter Try.func8, Try.ntmps8
  go_wp2_with (first
    | (go_at_call 16; (with_reducible refine HF.out.mono ?_); rintro e' w1 ⟨v1, rfl, hown1, hb1⟩; rw [Hdl.out] at hown1; obtain ⟨g, cap, rfl, _, hgs, hgc⟩ := own_lo hown1 (by omega); have h1 := hS.next hb1; obtain ⟨g2, g3⟩ := h1.cells; have hcs := hid (hgc S _ Hgt.out); have HO1 := hid hown1; clear hgc hown1)
    | (go_at_call 19; (with_reducible refine (HNd.out _ h1).mono ?_); rintro e' w2 ⟨rfl, h2, hb2⟩; obtain ⟨g4, g5⟩ := h2.cells; have cS := (hb2.cell (p := ⟨g, S, none⟩) hgs).trans hcs.out)
    | (at_make; (first
        | (refine wpList_make_full _ rfl (.tmp 38) (.tmp 38) 33 rfl w2.heap.size 3 i5 (.int .i64 0) 1 Try.underlying33 Ai.out Az0.out Az1.out _ _ _ _ N rfl rfl rfl rfl (by rw [Az2.out]; omega) (by unfold maxLen; omega) (Nat.le_refl _) ?_; intro w3 hown3 hg3; have HK3 := hid (IRow.made hown3); have b3 := grown_below hg3; have h3 := h2.next b3; obtain ⟨x0, x1⟩ := h3.cells; clear hown3 hg3)
        | (refine wpList_make_full _ rfl (.tmp 41) (.tmp 41) 33 rfl w3.heap.size 3 i5 (.int .i64 0) 1 Try.underlying33 Ai.out Az0.out Az1.out _ _ _ _ N rfl rfl rfl rfl (by rw [Az2.out]; omega) (by unfold maxLen; omega) (Nat.le_refl _) ?_; intro w4 hown4 hg4; have HF4 := hid (IRow.made hown4); have b4 := grown_below hg4; have h4 := h3.next b4; obtain ⟨y0, y1⟩ := h4.cells; clear hown4 hg4)
        | (refine wpList_make_full _ rfl (.tmp 44) (.tmp 44) 33 rfl w4.heap.size 3 i5 (.int .i64 0) 1 Try.underlying33 Ai.out Az0.out Az1.out _ _ _ _ N rfl rfl rfl rfl (by rw [Az2.out]; omega) (by unfold maxLen; omega) (Nat.le_refl _) ?_; intro w5 hown5 hg5; have HM5 := hid (IRow.made hown5); have b5 := grown_below hg5; have h5 := h4.next b5; obtain ⟨z0, z1⟩ := h5.cells; clear hown5 hg5))))
  obtain ⟨K, hK⟩ : ∃ K, w2.heap.size = K := ⟨_, rfl⟩
  obtain ⟨F, hF⟩ : ∃ F, w3.heap.size = F := ⟨_, rfl⟩
  obtain ⟨M, hM⟩ : ∃ M, w4.heap.size = M := ⟨_, rfl⟩
  have hwK : w.heap.size < K := by rw [← hK]; exact h2.lt
  have HB2 := hid ((b3.trans (b4.mono b3.size)).trans (b5.mono (Nat.le_trans b3.size b4.size)))
  have HR5 : Hid (Rw3 N K F M (List.replicate N 0) (List.replicate N 0) (List.replicate N 0) w5) := by
    rw [← hK, ← hF, ← hM]
    exact ⟨(HK3.out.on b4).on b5, HF4.out.on b5, HM5.out, by simp, by simp, by simp⟩
  have hKF : K < F := by rw [← hF, ← hK]; exact HK3.out.lt
  have hFM : F < M := by rw [← hM, ← hF]; exact HF4.out.lt
  obtain ⟨A1, c1, he1, hle1, hr1⟩ := own_ints HO1.out Hdl.out
  simp only [Value.slice.injEq] at he1
  obtain ⟨rfl, _, rfl⟩ := he1
  have HC2 : Hid (CArg K N A n c l Ad n' c' dn (some ⟨g, 0, none⟩) cap D K F M w2) := by
    rw [← hK]
    exact ⟨(Hg.out.on h2.1).row, (Hd.out.on h2.1).row, hr1.on hb2, Nat.le_refl _⟩
  rw [hK] at HB2
  simp only [hK, hF, hM]
  have H5 := hid h5
  clear hK hF hM g0 g1 g2 g3 g4 g5 cS x0 x1 y0 y1 z0 z1 HK3 HF4 HM5 b3 b4 b5 h3 h4 h5 hb2 hb1 h1 hr1 HO1 HF HNd hcs
  go_loopw [16] (fun i wr => ∃ k : Nat, k ≤ N ∧ i = .int .i64 k ∧ Hid (Rw3 N K F M (filled N k) (List.replicate N 0) (List.replicate N 0) wr) ∧ Hid (Held w (N : Int) A n c wr) ∧ Hid (Kp K F M w5 wr)) (fun i _ => N - (intOf i).toNat)
  case atStart => exact ⟨0, Nat.zero_le _, rfl, by rw [filled_zero]; exact HR5, H5, Kp.refl _⟩
  case round =>
    obtain ⟨k, hk, rfl, HRx, HHx, HKx⟩ := hrel
    obtain ⟨e0, e1⟩ := HHx.out.cells
    by_cases hlt : k < N
    · have d0 := HRx.out.rk.cell (dAt_get (v := k) (by rw [filled_len hk]; exact hlt))
      have f0 := HRx.out.rk.frozen k
      go_wp2_with fail
      go_roundw
      case rel => exact ⟨k + 1, by omega, by go_num, by rw [← filled_set hlt]; exact HRx.out.setK (by omega) (by omega) (-1), HHx.out.set hwK, HKx.out.trans (Kp.set (.inl rfl))⟩
      case measure => simp [intOf]; omega
    · obtain rfl : N = k := by omega
      rw [filled_all] at HRx
      have HCr : Hid (CArg K N A n c l Ad n' c' dn (some ⟨g, 0, none⟩) cap D K F M wr) := by
        have hb := HB2.out.trans (HKx.out.below (B := K) (Nat.le_refl _) (by omega) (by omega) (by have := HR5.out.rk.lt; omega))
        exact ⟨HC2.out.lnk.below hb, HC2.out.dn.below hb, HC2.out.to.below hb, Nat.le_trans HC2.out.size hb.size⟩
      have hgd : Good N (nxL N l dn D) D (List.replicate N (-1)) (List.replicate N 0) (List.replicate N 0) (dAt D (S : Int)) := by
        intro u hu _
        have h1 : ∀ x : Int, dAt (List.replicate N x) (u : Int) = x := by
          intro x
          unfold dAt
          rw [List.getD_eq_getElem?_getD, Int.toNat_natCast, List.getElem?_replicate, if_pos hu]; rfl
        exact .inl ⟨h1 _, h1 _, h1 _⟩
      have HCn := hid (counts_any N A n c l Ad n' c' dn (some ⟨g, 0, none⟩) cap D K K F M HOK.out Hg.out.row.1 Hdl.out HDr.out ⟨Nat.le_refl _, by omega, by omega⟩ ⟨by omega, by omega, by omega⟩ Hg.out.non Hg.out.cap Hd.out.len Hd.out.cap Hd.out.non hle1 (fun h => by cases h) ((dAt D (S : Int)).toNat + 1) S _ _ _ wr (by omega) Hx0.out hS2 HCr.out HRx.out hgd)
      clear hgd
      obtain ⟨tt, htt⟩ : ∃ tt, tr (nxL N l dn D) D S = tt := ⟨_, rfl⟩
      obtain ⟨p1, p2, p3⟩ := tt
      have Htt := hid htt
      have HVal : Hid (∀ (w8 : World) (k2 f2 m2 : List Int), Rw3 N K F M k2 f2 m2 w8 → Good N (nxL N l dn D) D k2 f2 m2 (dAt D (S : Int)) → 0 ≤ dAt k2 (S : Int) → w8.cell? ⟨K, S, none⟩ = some (.int .i64 ((min p1 capB : Nat) : Int)) ∧ w8.cell? ⟨F, S, none⟩ = some (.int .i64 (p2 : Int)) ∧ w8.cell? ⟨M, S, none⟩ = some (.int .i64 (p3 : Int))) := by
        intro w8 k2 f2 m2 h1 h2 h3
        rcases h2 S hS2 (Int.le_refl _) with h5 | ⟨_, h5, h6, h7⟩
        · omega
        · rw [Htt.out] at h5 h6 h7
          exact ⟨by rw [← h5]; exact h1.rk.cell (dAt_get (by rw [h1.lk]; exact hS2)), by rw [← h6]; exact h1.rf.cell (dAt_get (by rw [h1.lf]; exact hS2)), by rw [← h7]; exact h1.rm.cell (dAt_get (by rw [h1.lm]; exact hS2))⟩
      have hsr := HHx.out.1.size
      obtain ⟨c9, hc9⟩ : ∃ c9, min p1 capB = c9 := ⟨_, rfl⟩
      rw [hc9] at HVal
      have Hc9 := hid hc9
      clear htt hc9
      go_wp2_with (first
        | (go_at_call 20; (with_reducible refine HCn.out.mono ?_); rintro e' w8 ⟨rfl, k2, f2, m2, hrw2, hgd2, hk2, _, hkp2⟩; obtain ⟨v1, v2, v3⟩ := HVal.out _ _ _ _ hrw2 hgd2 hk2; have hb8 := hkp2.below (B := w.heap.size) (by omega) (by omega) (by omega) hsr; clear hrw2 hgd2 hkp2)
        | go_big_quiet (fail))
      try simp only [Exit.inBlock, Exit.then]
      refine bodyPost_ret (results_tmp4 rfl _ _ _) rfl ?_
      refine ⟨?_, below_drewN (HHx.out.1.trans hb8)⟩
      rw [Htt.out]
      simp only [Hc9.out]
      rfl
theorem refWays_any (nd : Int) (A : Option Addr) (n c : Nat) (l : List Lnk) (Ad : Option Addr) (n' c' : Nat) (dn : List Bool) (s t : Int) (w : World) (hg : GArg w nd A n c l) (hd : DArg w Ad n' c' dn) (hs : -9223372036854775808 ≤ s ∧ s ≤ 9223372036854775807) (ht : -9223372036854775808 ≤ t ∧ t ≤ 9223372036854775807) :
    Calls Try.prog 8 #[.agg #[.int .i64 nd, .slice A n c], .slice Ad n' c', .int .i64 s, .int .i64 t] w (WaysAns (waysS nd l dn s t) w) := by
  by_cases h : (checkS nd l).2 = 0 ∧ 0 ≤ t ∧ t < nd ∧ 0 ≤ s ∧ s < nd ∧ 0 ≤ dAt (distS nd.toNat l dn t.toNat) s
  · have Q : waysS nd l dn s t = _ := if_pos h
    rw [Q]
    obtain ⟨N, rfl⟩ := Int.eq_ofNat_of_zero_le (show 0 ≤ nd by omega)
    obtain ⟨T, rfl⟩ := Int.eq_ofNat_of_zero_le h.2.1
    obtain ⟨S, rfl⟩ := Int.eq_ofNat_of_zero_le h.2.2.2.1
    simp only [Int.toNat_natCast] at h ⊢
    exact refWays_in N A n c l Ad n' c' dn S T w hg hd h.1 (by omega) (by omega) h.2.2.2.2.2
  · have Q : waysS nd l dn s t = _ := if_neg h
    rw [Q]
    exact refWays_no nd A n c l Ad n' c' dn s t w hg hd hs ht h
end Go.Proofs.Ytcjilpgblbnebaa
