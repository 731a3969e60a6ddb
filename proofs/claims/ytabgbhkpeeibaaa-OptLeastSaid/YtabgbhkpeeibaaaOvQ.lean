/- Walks by the points in order, plainly: none is cheaper than the cost, and those of the cost are just those of Step. -/
import Derived.Test.YtabgbhkpeeibaaaOvP
import Derived.Test.YtabgbhkpeeibaaaTbA
namespace Go.Proofs.Ytabgbhkpeeibaaa
open Go.RowKit
set_option maxHeartbeats 6400000
set_option maxRecDepth 100000
theorem fromS_sym {nd : Int} {l : List Lnk} {gn : List Bool} {a b : Int} (hck : (checkS nd l).2 = 0) (ha : 0 ≤ a ∧ a < nd) (hb : 0 ≤ b ∧ b < nd) : dAt (fromS nd l gn a) b = dAt (fromS nd l gn b) a := by
  unfold fromS
  rw [if_pos ⟨hck, ha.1, ha.2⟩, if_pos ⟨hck, hb.1, hb.2⟩]
  obtain ⟨N, rfl⟩ := Int.eq_ofNat_of_zero_le (show 0 ≤ nd by omega)
  obtain ⟨S, rfl⟩ := Int.eq_ofNat_of_zero_le ha.1
  obtain ⟨T, rfl⟩ := Int.eq_ofNat_of_zero_le hb.1
  exact dist_sym (gok_of hck) (by omega) (by omega)
/-- An edge that is not gone: by its back, a's distance from c is at most b's and the metric. -/
theorem edge_step {nd : Int} {l : List Lnk} {gn : List Bool} {K : Nat} {a b c : Int} (hck : (checkS nd l).2 = 0) (hK : K < 2 * l.length) (hE : endsS l (K : Int) = (a, b, true)) (hc : 0 ≤ c ∧ c < nd) (hu : isDn gn (K / 2) = false) (h0 : 0 ≤ dAt (fromS nd l gn c) b) : 0 ≤ dAt (fromS nd l gn c) a ∧ dAt (fromS nd l gn c) a ≤ dAt (fromS nd l gn c) b + met l K := by
  unfold fromS at h0 ⊢
  rw [if_pos ⟨hck, hc.1, hc.2⟩] at h0 ⊢
  obtain ⟨N, rfl⟩ := Int.eq_ofNat_of_zero_le (show 0 ≤ nd by omega)
  obtain ⟨S, rfl⟩ := Int.eq_ofNat_of_zero_le hc.1
  have hg := gok_of hck
  have hok := dist_ok (dn := gn) hg (show S < N by omega)
  obtain ⟨k', hk', hkk, hf', ht', hm'⟩ := edge_back hg hK
  have e1 : frm l K = a := by unfold frm; rw [hE]
  have e2 : tov l K = b := by unfold tov; rw [hE]
  have := hok.clo k' hk' (by rw [hkk]; exact hu) (by rw [hf', e2]; exact h0)
  rw [hf', ht', hm', e1, e2] at this
  exact this
theorem met_pos {nd : Int} {l : List Lnk} {K : Nat} (hck : (checkS nd l).2 = 0) (hK : K < 2 * l.length) : 1 ≤ met l K := by
  obtain ⟨hl, h1, h2, hc⟩ := checkS_ok hck
  obtain ⟨N, rfl⟩ := Int.eq_ofNat_of_zero_le (show 0 ≤ nd by omega)
  obtain ⟨a, b, xx, -, -, -, -, hm, -, -, -, hm1, -⟩ := edge_facts (gok_of hck) hK
  omega
theorem dist_zero {nd : Int} {l : List Lnk} {gn : List Bool} {a c : Int} (hck : (checkS nd l).2 = 0) (hc : 0 ≤ c ∧ c < nd) (ha : 0 ≤ a ∧ a < nd) (h : dAt (fromS nd l gn c) a = 0) : c = a := by
  unfold fromS at h
  rw [if_pos ⟨hck, hc.1, hc.2⟩] at h
  obtain ⟨N, rfl⟩ := Int.eq_ofNat_of_zero_le (show 0 ≤ nd by omega)
  obtain ⟨S, rfl⟩ := Int.eq_ofNat_of_zero_le hc.1
  obtain ⟨T, rfl⟩ := Int.eq_ofNat_of_zero_le ha.1
  have hg := gok_of hck
  have hok := dist_ok (dn := gn) hg (show S < N by omega)
  rw [Int.toNat_natCast, Int.toNat_natCast] at h
  rcases Classical.em (T = S) with rfl | hne
  · rfl
  · obtain ⟨k, hk, _, ht, hf, he⟩ := hok.via T (by omega) hne (by omega)
    obtain ⟨a, b, xx, -, -, -, -, hm, -, -, -, hm1, -⟩ := edge_facts hg hk
    omega
theorem mem_next {nd : Int} {l : List Lnk} {gn : List Bool} {K : Nat} {v b c : Int} (hck : (checkS nd l).2 = 0) (hK : K < 2 * l.length) (hE : endsS l (K : Int) = (v, b, true)) (hc : 0 ≤ c ∧ c < nd) (hv : 0 ≤ v ∧ v < nd) :
    (K : Int) ∈ nextS nd l gn (fromS nd l gn c) v ↔ 0 < dAt (fromS nd l gn c) v ∧ isDn gn (K / 2) = false ∧ 0 ≤ dAt (fromS nd l gn c) b ∧ dAt (fromS nd l gn c) v - dAt (fromS nd l gn c) b = met l K := by
  have hlen : ((fromS nd l gn c).length : Int) = nd := by rw [(fromS_row hck hc).1]; omega
  have e2 : tov l K = b := by unfold tov; rw [hE]
  have hout : (K : Int) ∈ outS l v (2 * l.length) := by
    unfold outS
    rw [List.mem_filter]
    refine ⟨List.mem_map.2 ⟨K, List.mem_range.2 hK, rfl⟩, ?_⟩
    rw [hE]; simp
  unfold nextS
  by_cases h0 : 0 < dAt (fromS nd l gn c) v
  · rw [if_pos ⟨hck, hlen, hv.1, hv.2, h0⟩, List.mem_filter]
    simp only [hout, true_and, onS, Int.toNat_natCast, e2, Bool.and_eq_true, Bool.not_eq_true', decide_eq_true_eq, beq_iff_eq, h0, and_assoc]
  · rw [if_neg (fun h => h0 h.2.2.2.2)]
    simp [h0]
/-- A walk, edge by edge: where, how many of the points are come to, and at what cost. -/
def goW (l : List Lnk) (gn : List Bool) (p : List Int) : List Int → Int → Nat → Option (Int × Nat × Int)
  | [], v, n => some (v, n, 0)
  | e :: es, v, n => if (endsS l e).2.2 = true ∧ (endsS l e).1 = v ∧ isDn gn (e.toNat / 2) = false then (goW l gn p es (endsS l e).2.1 (n + runN (endsS l e).2.1 (p.drop n))).map fun q => (q.1, q.2.1, met l e.toNat + q.2.2) else none
theorem legs_run {nd : Int} {l : List Lnk} {gn : List Bool} {v : Int} (hck : (checkS nd l).2 = 0) (hv : 0 ≤ v ∧ v < nd) : ∀ L : List Int, legsS nd l gn v (L.drop (runN v L)) = legsS nd l gn v L
  | [] => rfl
  | a :: L => by
    unfold runN
    split
    · rename_i h
      subst h
      have h0 := fromS_self (dn := gn) hck hv
      rw [List.drop_succ_cons, legs_run hck hv L, legsS_some (by omega), h0]
      cases legsS nd l gn a L <;> simp
    · rfl
theorem run_drop {v : Int} : ∀ L : List Int, runN v (L.drop (runN v L)) = 0
  | [] => rfl
  | a :: L => by
    by_cases h : a = v
    · rw [show runN v (a :: L) = runN v L + 1 by rw [runN, if_pos h], List.drop_succ_cons]
      exact run_drop L
    · rw [show runN v (a :: L) = 0 by rw [runN, if_neg h], List.drop_zero, runN, if_neg h]
theorem run_le_drop (v : Int) (p : List Int) {n : Nat} (h : n ≤ p.length) : n + runN v (p.drop n) ≤ p.length := by
  have := runN_le v (p.drop n)
  rw [List.length_drop] at this
  omega
theorem walk_cons {nd : Int} {l : List Lnk} {x : Wnt} {gn : List Bool} {v k : Int} {e : Int} {es : List Int} : walkO nd l x gn (some (v, k)) (e :: es) = walkO nd l x gn (stepO nd l x gn v k e) es := by
  unfold walkO
  rw [List.foldl_cons, Option.bind_some]
/-- What Step answers on a state whose points at it are come to. -/
theorem step_is {nd : Int} {l : List Lnk} {x : Wnt} {gn : List Bool} {K n : Nat} {v b : Int} (hE : endsS l (K : Int) = (v, b, true)) (hn : n < (x.via ++ [x.too]).length) (hm : (K : Int) ∈ nextS nd l gn (fromS nd l gn ((x.via ++ [x.too]).getD n 0)) v) : stepO nd l x gn v n K = some (b, ((n + runN b ((x.via ++ [x.too]).drop n) : Nat) : Int)) := by
  have hP : ptsS x = x.frm :: (x.via ++ [x.too]) := rfl
  unfold stepO
  rw [hE, hP, show ((n : Int) + 1).toNat = n + 1 by omega, List.getD_cons_succ, if_pos ⟨rfl, rfl, by omega, by rw [List.length_cons]; omega, hm⟩]
  unfold comeS
  rw [if_pos (by omega), Int.toNat_natCast, List.drop_succ_cons]
  push_cast; rfl
theorem step_none {nd : Int} {l : List Lnk} {x : Wnt} {gn : List Bool} {n : Nat} {v e : Int} (h : ¬(n < (x.via ++ [x.too]).length ∧ e ∈ nextS nd l gn (fromS nd l gn ((x.via ++ [x.too]).getD n 0)) v)) : stepO nd l x gn v n e = none := by
  have hP : ptsS x = x.frm :: (x.via ++ [x.too]) := rfl
  unfold stepO
  rw [if_neg]
  rintro ⟨-, -, -, h3, h4⟩
  rw [hP, List.length_cons] at h3
  rw [hP, show ((n : Int) + 1).toNat = n + 1 by omega, List.getD_cons_succ] at h4
  exact h ⟨by omega, h4⟩
theorem least_walk {nd : Int} {l : List Lnk} {x : Wnt} {gn : List Bool} (hck : (checkS nd l).2 = 0) (hp : ∀ c ∈ x.via ++ [x.too], 0 ≤ c ∧ c < nd) : ∀ (es : List Int) (v : Int) (n : Nat) (s : Int), n ≤ (x.via ++ [x.too]).length → 0 ≤ v ∧ v < nd → runN v ((x.via ++ [x.too]).drop n) = 0 → goW l gn (x.via ++ [x.too]) es v n = some (x.too, (x.via ++ [x.too]).length, s) →
    ∃ D, legsS nd l gn v ((x.via ++ [x.too]).drop n) = some D ∧ D ≤ s ∧ (D = s ↔ walkO nd l x gn (some (v, (n : Int))) es = some (goalS x)) := by
  have hg : goalS x = (x.too, ((x.via ++ [x.too]).length : Int)) := by unfold goalS; simp
  obtain ⟨p, hpp⟩ : ∃ p, x.via ++ [x.too] = p := ⟨_, rfl⟩
  have hst := @step_is nd l x gn
  have hsn := @step_none nd l x gn
  rw [hpp] at hp hg
  simp only [hpp] at hst hsn ⊢
  intro es
  induction es with
  | nil =>
    intro v n s hn hv hr h
    simp only [goW, Option.some.injEq, Prod.mk.injEq] at h
    obtain ⟨rfl, rfl, rfl⟩ := h
    refine ⟨0, by rw [List.drop_length]; rfl, Int.le_refl _, ?_⟩
    rw [hg]
    simp [walkO]
  | cons e es ih =>
    intro v n s hn hv hr h
    rw [goW] at h
    split at h
    · rename_i hh
      obtain ⟨a1, a2, a3⟩ := hh
      obtain ⟨K, a, b, rfl, hK, hE, ha, hb⟩ := ends_facts hck a1
      rw [hE] at a2 h
      dsimp only at a2 h
      subst a2
      rw [Int.toNat_natCast] at a3 h
      have hm := met_pos hck hK
      obtain ⟨q, hq, hq2⟩ := Option.map_eq_some_iff.1 h
      obtain ⟨qv, qn, qs⟩ := q
      simp only [Prod.mk.injEq] at hq2
      obtain ⟨rfl, rfl, rfl⟩ := hq2
      obtain ⟨D', h1, h2, h3⟩ := ih (b : Int) (n + runN (b : Int) (p.drop n)) qs (run_le_drop _ _ hn) ⟨by omega, hb⟩ (by rw [← List.drop_drop]; exact run_drop _) hq
      rw [← List.drop_drop, legs_run hck ⟨by omega, hb⟩] at h1
      rw [walk_cons]
      rcases Nat.lt_or_ge n p.length with hlt | hge
      · obtain ⟨c, hcc⟩ : ∃ c, p[n]? = some c := ⟨p[n]'hlt, List.getElem?_eq_getElem _⟩
        have hcp := hp c (List.mem_of_getElem? hcc)
        have hgd : p.getD n 0 = c := by rw [List.getD_eq_getElem?_getD, hcc]; rfl
        have hdr : p.drop n = c :: p.drop (n + 1) := by
          rw [List.drop_eq_getElem_cons hlt]
          congr 1
          exact (List.getElem?_eq_some_iff.1 hcc).2
        have hne : (c : Int) ≠ (a : Int) := by
          intro hca
          rw [hdr, runN, if_pos hca] at hr
          omega
        rw [hdr] at h1 ⊢
        have hbr : 0 ≤ (b : Int) ∧ (b : Int) < nd := ⟨by omega, hb⟩
        have hs1 := fromS_sym (gn := gn) hck hbr hcp
        have hs2 := fromS_sym (gn := gn) hck hv hcp
        by_cases hbc : dAt (fromS nd l gn b) c < 0
        · rw [legsS_none hbc] at h1; cases h1
        · rw [legsS_some hbc] at h1
          obtain ⟨D2, hD2, hD3⟩ := Option.map_eq_some_iff.1 h1
          have hes := edge_step (gn := gn) hck hK hE hcp a3 (by rw [← hs1]; omega)
          refine ⟨dAt (fromS nd l gn a) c + D2, by rw [legsS_some (by rw [hs2]; omega), hD2]; rfl, by rw [hs2]; omega, ?_⟩
          have hmem := mem_next (gn := gn) hck hK hE hcp hv
          have hpos : 0 < dAt (fromS nd l gn c) (a : Int) := by
            rcases Int.lt_or_eq_of_le hes.1 with h6 | h6
            · exact h6
            · exfalso
              exact absurd h6 (by
                have := dist_zero (gn := gn) hck hcp hv
                intro h7
                exact hne (this h7.symm))
          by_cases hin : (K : Int) ∈ nextS nd l gn (fromS nd l gn c) (a : Int)
          · rw [hst hE hlt (by rw [hgd]; exact hin), ← h3]
            have := (hmem.1 hin).2.2.2
            constructor <;> intro h8 <;> omega
          · rw [hsn (fun h8 => hin (by rw [← hgd]; exact h8.2)), walk_nil]
            constructor
            · intro h8
              exact absurd (hmem.2 ⟨hpos, a3, by rw [← hs1]; omega, by omega⟩) hin
            · intro h8; cases h8
      · have hd0 : p.drop n = [] := List.drop_eq_nil_of_le hge
        rw [hd0] at h1 ⊢
        have h0 : D' = 0 := by simpa [legsS] using h1.symm
        refine ⟨0, rfl, by omega, ?_⟩
        rw [hsn (fun h8 => by omega), walk_nil]
        constructor
        · intro h8; omega
        · intro h8; cases h8
    · cases h
/-- What Has tells is a walk by the points. -/
theorem walk_goW {nd : Int} {l : List Lnk} {x : Wnt} {gn : List Bool} (hr : rightS nd l x = 0) : ∀ (es : List Int) (v : Int) (n : Nat), walkO nd l x gn (some (v, (n : Int))) es = some (goalS x) → ∃ s, goW l gn (x.via ++ [x.too]) es v n = some (x.too, (x.via ++ [x.too]).length, s) := by
  obtain ⟨hck, hpt, -⟩ := right_ok hr
  have hP : ptsS x = x.frm :: (x.via ++ [x.too]) := rfl
  intro es
  induction es with
  | nil =>
    intro v n h
    unfold walkO goalS at h
    simp only [List.foldl_nil, Option.some.injEq, Prod.mk.injEq] at h
    obtain ⟨rfl, h⟩ := h
    refine ⟨0, ?_⟩
    rw [goW, show n = (x.via ++ [x.too]).length by simp; omega]
  | cons e es ih =>
    intro v n h
    rw [walk_cons] at h
    cases hs : stepO nd l x gn v n e with
    | none => rw [hs, walk_nil] at h; cases h
    | some q =>
      rw [hs] at h
      obtain ⟨K', a, b, q2, hK, hlt, he1, he0, hE, rfl, ha, hb, rfl, rfl, hq, hm⟩ := stepO_form hr hs
      obtain rfl : n = K' := by omega
      rw [hP, List.drop_succ_cons] at h
      obtain ⟨s, hs2⟩ := ih _ _ h
      obtain ⟨K, rfl⟩ := Int.eq_ofNat_of_zero_le he0
      have hKl : K < 2 * l.length := by omega
      have hcp : 0 ≤ (ptsS x).getD (n + 1) 0 ∧ (ptsS x).getD (n + 1) 0 < nd := by
        refine hpt _ ?_
        rw [List.getD_eq_getElem?_getD, List.getElem?_eq_getElem (by omega)]
        exact List.getElem_mem _
      have hu := ((mem_next (gn := gn) hck hKl hE hcp ⟨by omega, ha⟩).1 hm).2.1
      refine ⟨met l K + s, ?_⟩
      rw [goW, hE, if_pos ⟨rfl, rfl, by rw [Int.toNat_natCast]; exact hu⟩]
      dsimp only
      rw [hs2, Int.toNat_natCast]
      rfl
/-- The law, plainly. -/
theorem least_law {nd : Int} {l : List Lnk} {x : Wnt} {dn : List Bool} {es : List Int} (hr : rightS nd l x = 0) :
    (∀ s, goW l (prunedS nd l x dn) (x.via ++ [x.too]) es x.frm (runN x.frm (x.via ++ [x.too])) = some (x.too, (x.via ++ [x.too]).length, s) → ((costS nd l x dn).2 = 0 → (costS nd l x dn).1 ≤ s ∧ ((costS nd l x dn).1 = s ↔ hasS nd l x dn es = true)) ∧ ((costS nd l x dn).2 ≠ 0 → (costS nd l x dn).2 = 8 ∧ 0 < x.bnd ∧ x.bnd < s)) ∧
    ((∀ s, goW l (prunedS nd l x dn) (x.via ++ [x.too]) es x.frm (runN x.frm (x.via ++ [x.too])) ≠ some (x.too, (x.via ++ [x.too]).length, s)) → hasS nd l x dn es = false) := by
  obtain ⟨hck, hpt, -⟩ := right_ok hr
  have hP : ptsS x = x.frm :: (x.via ++ [x.too]) := rfl
  have hst : startS x = (x.frm, ((runN x.frm (x.via ++ [x.too]) : Nat) : Int)) := by
    unfold startS comeS
    rw [if_pos (by omega), hP]
    simp
  have hc := costS_L (dn := dn) hr
  constructor
  · intro s hs
    have hfr : 0 ≤ x.frm ∧ x.frm < nd := hpt _ (by rw [hP]; simp)
    obtain ⟨D, h1, h2, h3⟩ := least_walk hck (fun c hcc => hpt c (by rw [hP]; exact List.mem_cons_of_mem _ hcc)) es x.frm _ s (runN_le _ _) hfr (run_drop _) hs
    rw [legs_run hck hfr] at h1
    rw [h1] at hc
    rw [show costL x.bnd (some D) = if 0 < x.bnd ∧ x.bnd < D then (0, 8) else (D, 0) from rfl] at hc
    by_cases hb : 0 < x.bnd ∧ x.bnd < D
    · rw [if_pos hb] at hc
      rw [hc]
      exact ⟨fun h => (by cases h), fun _ => ⟨rfl, hb.1, by omega⟩⟩
    · rw [if_neg hb] at hc
      refine ⟨fun _ => ?_, fun h => absurd (by rw [hc]) h⟩
      unfold hasS
      rw [hc, hst]
      refine ⟨h2, ?_⟩
      rw [h3]
      simp
  · intro hn
    cases hh : hasS nd l x dn es with
    | false => rfl
    | true =>
      unfold hasS at hh
      rw [Bool.and_eq_true, beq_iff_eq, beq_iff_eq, hst] at hh
      obtain ⟨s, hs⟩ := walk_goW hr es _ _ hh.2
      exact absurd hs (hn s)
end Go.Proofs.Ytabgbhkpeeibaaa
