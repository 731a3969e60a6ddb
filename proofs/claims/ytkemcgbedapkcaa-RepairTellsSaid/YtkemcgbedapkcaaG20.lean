/- Merged: OvQ OqA. -/
import Derived.Test.YtkemcgbedapkcaaG07
import Derived.Test.YtkemcgbedapkcaaG06
import Derived.Test.YtkemcgbedapkcaaG08
import Derived.Test.YtkemcgbedapkcaaG05
import Derived.Test.YtkemcgbedapkcaaShS
import Derived.Test.YtkemcgbedapkcaaG25
import Derived.Test.YtkemcgbedapkcaaG19
import Derived.Lib.AppendZeros
import Derived.Laws.AppendOwnNone
import Derived.StillTailTactics
import Derived.Laws.ResultCell
import Derived.Deep.DeepCutAuto
/- Walks by the points in order, plainly: none is cheaper than the cost, and those of the cost are just those of Step. -/
namespace Go.Proofs.Ytkemcgbedapkcaa
open Go.RowKit
set_option maxHeartbeats 6400000
set_option maxRecDepth 100000
theorem fromS_self {nd : Int} {l : List Lnk} {dn : List Bool} {a : Int} (hck : (checkS nd l).2 = 0) (ha : 0 ≤ a ∧ a < nd) : dAt (fromS nd l dn a) a = 0 := by
  unfold fromS
  rw [if_pos ⟨hck, ha.1, ha.2⟩]
  obtain ⟨N, rfl⟩ := Int.eq_ofNat_of_zero_le (show 0 ≤ nd by omega)
  obtain ⟨S, rfl⟩ := Int.eq_ofNat_of_zero_le ha.1
  exact (dist_ok (gok_of hck) (by omega)).src
theorem fromS_sym {nd : Int} {l : List Lnk} {gn : List Bool} {a b : Int} (hck : (checkS nd l).2 = 0) (ha : 0 ≤ a ∧ a < nd) (hb : 0 ≤ b ∧ b < nd) : dAt (fromS nd l gn a) b = dAt (fromS nd l gn b) a := by
  unfold fromS
  rw [if_pos ⟨hck, ha.1, ha.2⟩, if_pos ⟨hck, hb.1, hb.2⟩]
  obtain ⟨N, rfl⟩ := Int.eq_ofNat_of_zero_le (show 0 ≤ nd by omega)
  obtain ⟨S, rfl⟩ := Int.eq_ofNat_of_zero_le ha.1
  obtain ⟨T, rfl⟩ := Int.eq_ofNat_of_zero_le hb.1
  exact dist_sym (gok_of hck) (by omega) (by omega)
/-- An edge that is not gone: by its back, a's distance from c is at most b's and the metric. -/
theorem edge_step {nd : Int} {l : List Lnk} {gn : List Bool} {K : Nat} {a b c : Int} (hck : (checkS nd l).2 = 0) (hK : K < 2 * l.length) (hE : endsS l (K : Int) = (a, b, true)) (hc : 0 ≤ c ∧ c < nd) (hu : isDn gn (K / 2) = false) (h0 : 0 ≤ dAt (fromS nd l gn c) b) : 0 ≤ dAt (fromS nd l gn c) a ∧ dAt (fromS nd l gn c) a ≤ dAt (fromS nd l gn c) b + met l K := by
  unfold fromS at h0 ⊢
  rw [if_pos ⟨hck, hc.1, hc.2⟩] at h0 ⊢
  obtain ⟨N, rfl⟩ := Int.eq_ofNat_of_zero_le (show 0 ≤ nd by omega)
  obtain ⟨S, rfl⟩ := Int.eq_ofNat_of_zero_le hc.1
  have hg := gok_of hck
  have hok := dist_ok (dn := gn) hg (show S < N by omega)
  obtain ⟨k', hk', hkk, hf', ht', hm'⟩ := edge_back hg hK
  have e1 : frm l K = a := by unfold frm; rw [hE]
  have e2 : tov l K = b := by unfold tov; rw [hE]
  have := hok.clo k' hk' (by rw [hkk]; exact hu) (by rw [hf', e2]; exact h0)
  rw [hf', ht', hm', e1, e2] at this
  exact this
theorem met_pos {nd : Int} {l : List Lnk} {K : Nat} (hck : (checkS nd l).2 = 0) (hK : K < 2 * l.length) : 1 ≤ met l K := by
  obtain ⟨hl, h1, h2, hc⟩ := checkS_ok hck
  obtain ⟨N, rfl⟩ := Int.eq_ofNat_of_zero_le (show 0 ≤ nd by omega)
  obtain ⟨a, b, xx, -, -, -, -, hm, -, -, -, hm1, -⟩ := edge_facts (gok_of hck) hK
  omega
theorem dist_zero {nd : Int} {l : List Lnk} {gn : List Bool} {a c : Int} (hck : (checkS nd l).2 = 0) (hc : 0 ≤ c ∧ c < nd) (ha : 0 ≤ a ∧ a < nd) (h : dAt (fromS nd l gn c) a = 0) : c = a := by
  unfold fromS at h
  rw [if_pos ⟨hck, hc.1, hc.2⟩] at h
  obtain ⟨N, rfl⟩ := Int.eq_ofNat_of_zero_le (show 0 ≤ nd by omega)
  obtain ⟨S, rfl⟩ := Int.eq_ofNat_of_zero_le hc.1
  obtain ⟨T, rfl⟩ := Int.eq_ofNat_of_zero_le ha.1
  have hg := gok_of hck
  have hok := dist_ok (dn := gn) hg (show S < N by omega)
  rw [Int.toNat_natCast, Int.toNat_natCast] at h
  rcases Classical.em (T = S) with rfl | hne
  · rfl
  · obtain ⟨k, hk, _, ht, hf, he⟩ := hok.via T (by omega) hne (by omega)
    obtain ⟨a, b, xx, -, -, -, -, hm, -, -, -, hm1, -⟩ := edge_facts hg hk
    omega
theorem mem_next {nd : Int} {l : List Lnk} {gn : List Bool} {K : Nat} {v b c : Int} (hck : (checkS nd l).2 = 0) (hK : K < 2 * l.length) (hE : endsS l (K : Int) = (v, b, true)) (hc : 0 ≤ c ∧ c < nd) (hv : 0 ≤ v ∧ v < nd) :
    (K : Int) ∈ nextS nd l gn (fromS nd l gn c) v ↔ 0 < dAt (fromS nd l gn c) v ∧ isDn gn (K / 2) = false ∧ 0 ≤ dAt (fromS nd l gn c) b ∧ dAt (fromS nd l gn c) v - dAt (fromS nd l gn c) b = met l K := by
  have hlen : ((fromS nd l gn c).length : Int) = nd := by rw [(fromS_row hck hc).1]; omega
  have e2 : tov l K = b := by unfold tov; rw [hE]
  have hout : (K : Int) ∈ outS l v (2 * l.length) := by
    unfold outS
    rw [List.mem_filter]
    refine ⟨List.mem_map.2 ⟨K, List.mem_range.2 hK, rfl⟩, ?_⟩
    rw [hE]; simp
  unfold nextS
  by_cases h0 : 0 < dAt (fromS nd l gn c) v
  · rw [if_pos ⟨hck, hlen, hv.1, hv.2, h0⟩, List.mem_filter]
    simp only [hout, true_and, onS, Int.toNat_natCast, e2, Bool.and_eq_true, Bool.not_eq_true', decide_eq_true_eq, beq_iff_eq, h0, and_assoc]
  · rw [if_neg (fun h => h0 h.2.2.2.2)]
    simp [h0]
/-- A walk, edge by edge: where, how many of the points are come to, and at what cost. -/
def goW (l : List Lnk) (gn : List Bool) (p : List Int) : List Int → Int → Nat → Option (Int × Nat × Int)
  | [], v, n => some (v, n, 0)
  | e :: es, v, n => if (endsS l e).2.2 = true ∧ (endsS l e).1 = v ∧ isDn gn (e.toNat / 2) = false then (goW l gn p es (endsS l e).2.1 (n + runN (endsS l e).2.1 (p.drop n))).map fun q => (q.1, q.2.1, met l e.toNat + q.2.2) else none
theorem legs_run {nd : Int} {l : List Lnk} {gn : List Bool} {v : Int} (hck : (checkS nd l).2 = 0) (hv : 0 ≤ v ∧ v < nd) : ∀ L : List Int, legsS nd l gn v (L.drop (runN v L)) = legsS nd l gn v L
  | [] => rfl
  | a :: L => by
    unfold runN
    split
    · rename_i h
      subst h
      have h0 := fromS_self (dn := gn) hck hv
      rw [List.drop_succ_cons, legs_run hck hv L, legsS_some (by omega), h0]
      cases legsS nd l gn a L <;> simp
    · rfl
theorem run_drop {v : Int} : ∀ L : List Int, runN v (L.drop (runN v L)) = 0
  | [] => rfl
  | a :: L => by
    by_cases h : a = v
    · rw [show runN v (a :: L) = runN v L + 1 by rw [runN, if_pos h], List.drop_succ_cons]
      exact run_drop L
    · rw [show runN v (a :: L) = 0 by rw [runN, if_neg h], List.drop_zero, runN, if_neg h]
theorem run_le_drop (v : Int) (p : List Int) {n : Nat} (h : n ≤ p.length) : n + runN v (p.drop n) ≤ p.length := by
  have := runN_le v (p.drop n)
  rw [List.length_drop] at this
  omega
theorem walk_cons {nd : Int} {l : List Lnk} {x : Wnt} {gn : List Bool} {v k : Int} {e : Int} {es : List Int} : walkO nd l x gn (some (v, k)) (e :: es) = walkO nd l x gn (stepO nd l x gn v k e) es := by
  unfold walkO
  rw [List.foldl_cons, Option.bind_some]
/-- What Step answers on a state whose points at it are come to. -/
theorem step_is {nd : Int} {l : List Lnk} {x : Wnt} {gn : List Bool} {K n : Nat} {v b : Int} (hE : endsS l (K : Int) = (v, b, true)) (hn : n < (x.via ++ [x.too]).length) (hm : (K : Int) ∈ nextS nd l gn (fromS nd l gn ((x.via ++ [x.too]).getD n 0)) v) : stepO nd l x gn v n K = some (b, ((n + runN b ((x.via ++ [x.too]).drop n) : Nat) : Int)) := by
  have hP : ptsS x = x.frm :: (x.via ++ [x.too]) := rfl
  unfold stepO
  rw [hE, hP, show ((n : Int) + 1).toNat = n + 1 by omega, List.getD_cons_succ, if_pos ⟨rfl, rfl, by omega, by rw [List.length_cons]; omega, hm⟩]
  unfold comeS
  rw [if_pos (by omega), Int.toNat_natCast, List.drop_succ_cons]
  push_cast; rfl
theorem step_none {nd : Int} {l : List Lnk} {x : Wnt} {gn : List Bool} {n : Nat} {v e : Int} (h : ¬(n < (x.via ++ [x.too]).length ∧ e ∈ nextS nd l gn (fromS nd l gn ((x.via ++ [x.too]).getD n 0)) v)) : stepO nd l x gn v n e = none := by
  have hP : ptsS x = x.frm :: (x.via ++ [x.too]) := rfl
  unfold stepO
  rw [if_neg]
  rintro ⟨-, -, -, h3, h4⟩
  rw [hP, List.length_cons] at h3
  rw [hP, show ((n : Int) + 1).toNat = n + 1 by omega, List.getD_cons_succ] at h4
  exact h ⟨by omega, h4⟩
theorem least_walk {nd : Int} {l : List Lnk} {x : Wnt} {gn : List Bool} (hck : (checkS nd l).2 = 0) (hp : ∀ c ∈ x.via ++ [x.too], 0 ≤ c ∧ c < nd) : ∀ (es : List Int) (v : Int) (n : Nat) (s : Int), n ≤ (x.via ++ [x.too]).length → 0 ≤ v ∧ v < nd → runN v ((x.via ++ [x.too]).drop n) = 0 → goW l gn (x.via ++ [x.too]) es v n = some (x.too, (x.via ++ [x.too]).length, s) →
    ∃ D, legsS nd l gn v ((x.via ++ [x.too]).drop n) = some D ∧ D ≤ s ∧ (D = s ↔ walkO nd l x gn (some (v, (n : Int))) es = some (goalS x)) := by
  have hg : goalS x = (x.too, ((x.via ++ [x.too]).length : Int)) := by unfold goalS; simp
  obtain ⟨p, hpp⟩ : ∃ p, x.via ++ [x.too] = p := ⟨_, rfl⟩
  have hst := @step_is nd l x gn
  have hsn := @step_none nd l x gn
  rw [hpp] at hp hg
  simp only [hpp] at hst hsn ⊢
  intro es
  induction es with
  | nil =>
    intro v n s hn hv hr h
    simp only [goW, Option.some.injEq, Prod.mk.injEq] at h
    obtain ⟨rfl, rfl, rfl⟩ := h
    refine ⟨0, by rw [List.drop_length]; rfl, Int.le_refl _, ?_⟩
    rw [hg]
    simp [walkO]
  | cons e es ih =>
    intro v n s hn hv hr h
    rw [goW] at h
    split at h
    · rename_i hh
      obtain ⟨a1, a2, a3⟩ := hh
      obtain ⟨K, a, b, rfl, hK, hE, ha, hb⟩ := ends_facts hck a1
      rw [hE] at a2 h
      dsimp only at a2 h
      subst a2
      rw [Int.toNat_natCast] at a3 h
      have hm := met_pos hck hK
      obtain ⟨q, hq, hq2⟩ := Option.map_eq_some_iff.1 h
      obtain ⟨qv, qn, qs⟩ := q
      simp only [Prod.mk.injEq] at hq2
      obtain ⟨rfl, rfl, rfl⟩ := hq2
      obtain ⟨D', h1, h2, h3⟩ := ih (b : Int) (n + runN (b : Int) (p.drop n)) qs (run_le_drop _ _ hn) ⟨by omega, hb⟩ (by rw [← List.drop_drop]; exact run_drop _) hq
      rw [← List.drop_drop, legs_run hck ⟨by omega, hb⟩] at h1
      rw [walk_cons]
      rcases Nat.lt_or_ge n p.length with hlt | hge
      · obtain ⟨c, hcc⟩ : ∃ c, p[n]? = some c := ⟨p[n]'hlt, List.getElem?_eq_getElem _⟩
        have hcp := hp c (List.mem_of_getElem? hcc)
        have hgd : p.getD n 0 = c := by rw [List.getD_eq_getElem?_getD, hcc]; rfl
        have hdr : p.drop n = c :: p.drop (n + 1) := by
          rw [List.drop_eq_getElem_cons hlt]
          congr 1
          exact (List.getElem?_eq_some_iff.1 hcc).2
        have hne : (c : Int) ≠ (a : Int) := by
          intro hca
          rw [hdr, runN, if_pos hca] at hr
          omega
        rw [hdr] at h1 ⊢
        have hbr : 0 ≤ (b : Int) ∧ (b : Int) < nd := ⟨by omega, hb⟩
        have hs1 := fromS_sym (gn := gn) hck hbr hcp
        have hs2 := fromS_sym (gn := gn) hck hv hcp
        by_cases hbc : dAt (fromS nd l gn b) c < 0
        · rw [legsS_none hbc] at h1; cases h1
        · rw [legsS_some hbc] at h1
          obtain ⟨D2, hD2, hD3⟩ := Option.map_eq_some_iff.1 h1
          have hes := edge_step (gn := gn) hck hK hE hcp a3 (by rw [← hs1]; omega)
          refine ⟨dAt (fromS nd l gn a) c + D2, by rw [legsS_some (by rw [hs2]; omega), hD2]; rfl, by rw [hs2]; omega, ?_⟩
          have hmem := mem_next (gn := gn) hck hK hE hcp hv
          have hpos : 0 < dAt (fromS nd l gn c) (a : Int) := by
            rcases Int.lt_or_eq_of_le hes.1 with h6 | h6
            · exact h6
            · exfalso
              exact absurd h6 (by
                have := dist_zero (gn := gn) hck hcp hv
                intro h7
                exact hne (this h7.symm))
          by_cases hin : (K : Int) ∈ nextS nd l gn (fromS nd l gn c) (a : Int)
          · rw [hst hE hlt (by rw [hgd]; exact hin), ← h3]
            have := (hmem.1 hin).2.2.2
            constructor <;> intro h8 <;> omega
          · rw [hsn (fun h8 => hin (by rw [← hgd]; exact h8.2)), walk_nil]
            constructor
            · intro h8
              exact absurd (hmem.2 ⟨hpos, a3, by rw [← hs1]; omega, by omega⟩) hin
            · intro h8; cases h8
      · have hd0 : p.drop n = [] := List.drop_eq_nil_of_le hge
        rw [hd0] at h1 ⊢
        have h0 : D' = 0 := by simpa [legsS] using h1.symm
        refine ⟨0, rfl, by omega, ?_⟩
        rw [hsn (fun h8 => by omega), walk_nil]
        constructor
        · intro h8; omega
        · intro h8; cases h8
    · cases h
/-- What Has tells is a walk by the points. -/
theorem walk_goW {nd : Int} {l : List Lnk} {x : Wnt} {gn : List Bool} (hr : rightS nd l x = 0) : ∀ (es : List Int) (v : Int) (n : Nat), walkO nd l x gn (some (v, (n : Int))) es = some (goalS x) → ∃ s, goW l gn (x.via ++ [x.too]) es v n = some (x.too, (x.via ++ [x.too]).length, s) := by
  obtain ⟨hck, hpt, -⟩ := right_ok hr
  have hP : ptsS x = x.frm :: (x.via ++ [x.too]) := rfl
  intro es
  induction es with
  | nil =>
    intro v n h
    unfold walkO goalS at h
    simp only [List.foldl_nil, Option.some.injEq, Prod.mk.injEq] at h
    obtain ⟨rfl, h⟩ := h
    refine ⟨0, ?_⟩
    rw [goW, show n = (x.via ++ [x.too]).length by simp; omega]
  | cons e es ih =>
    intro v n h
    rw [walk_cons] at h
    cases hs : stepO nd l x gn v n e with
    | none => rw [hs, walk_nil] at h; cases h
    | some q =>
      rw [hs] at h
      obtain ⟨K', a, b, q2, hK, hlt, he1, he0, hE, rfl, ha, hb, rfl, rfl, hq, hm⟩ := stepO_form hr hs
      obtain rfl : n = K' := by omega
      rw [hP, List.drop_succ_cons] at h
      obtain ⟨s, hs2⟩ := ih _ _ h
      obtain ⟨K, rfl⟩ := Int.eq_ofNat_of_zero_le he0
      have hKl : K < 2 * l.length := by omega
      have hcp : 0 ≤ (ptsS x).getD (n + 1) 0 ∧ (ptsS x).getD (n + 1) 0 < nd := by
        refine hpt _ ?_
        rw [List.getD_eq_getElem?_getD, List.getElem?_eq_getElem (by omega)]
        exact List.getElem_mem _
      have hu := ((mem_next (gn := gn) hck hKl hE hcp ⟨by omega, ha⟩).1 hm).2.1
      refine ⟨met l K + s, ?_⟩
      rw [goW, hE, if_pos ⟨rfl, rfl, by rw [Int.toNat_natCast]; exact hu⟩]
      dsimp only
      rw [hs2, Int.toNat_natCast]
      rfl
/-- The law, plainly. -/
theorem least_law {nd : Int} {l : List Lnk} {x : Wnt} {dn : List Bool} {es : List Int} (hr : rightS nd l x = 0) :
    (∀ s, goW l (prunedS nd l x dn) (x.via ++ [x.too]) es x.frm (runN x.frm (x.via ++ [x.too])) = some (x.too, (x.via ++ [x.too]).length, s) → ((costS nd l x dn).2 = 0 → (costS nd l x dn).1 ≤ s ∧ ((costS nd l x dn).1 = s ↔ hasS nd l x dn es = true)) ∧ ((costS nd l x dn).2 ≠ 0 → (costS nd l x dn).2 = 8 ∧ 0 < x.bnd ∧ x.bnd < s)) ∧
    ((∀ s, goW l (prunedS nd l x dn) (x.via ++ [x.too]) es x.frm (runN x.frm (x.via ++ [x.too])) ≠ some (x.too, (x.via ++ [x.too]).length, s)) → hasS nd l x dn es = false) := by
  obtain ⟨hck, hpt, -⟩ := right_ok hr
  have hP : ptsS x = x.frm :: (x.via ++ [x.too]) := rfl
  have hst : startS x = (x.frm, ((runN x.frm (x.via ++ [x.too]) : Nat) : Int)) := by
    unfold startS comeS
    rw [if_pos (by omega), hP]
    simp
  have hc := costS_L (dn := dn) hr
  constructor
  · intro s hs
    have hfr : 0 ≤ x.frm ∧ x.frm < nd := hpt _ (by rw [hP]; simp)
    obtain ⟨D, h1, h2, h3⟩ := least_walk hck (fun c hcc => hpt c (by rw [hP]; exact List.mem_cons_of_mem _ hcc)) es x.frm _ s (runN_le _ _) hfr (run_drop _) hs
    rw [legs_run hck hfr] at h1
    rw [h1] at hc
    rw [show costL x.bnd (some D) = if 0 < x.bnd ∧ x.bnd < D then (0, 8) else (D, 0) from rfl] at hc
    by_cases hb : 0 < x.bnd ∧ x.bnd < D
    · rw [if_pos hb] at hc
      rw [hc]
      exact ⟨fun h => (by cases h), fun _ => ⟨rfl, hb.1, by omega⟩⟩
    · rw [if_neg hb] at hc
      refine ⟨fun _ => ?_, fun h => absurd (by rw [hc]) h⟩
      unfold hasS
      rw [hc, hst]
      refine ⟨h2, ?_⟩
      rw [h3]
      simp
  · intro hn
    cases hh : hasS nd l x dn es with
    | false => rfl
    | true =>
      unfold hasS at hh
      rw [Bool.and_eq_true, beq_iff_eq, beq_iff_eq, hst] at hh
      obtain ⟨s, hs⟩ := walk_goW hr es _ _ hh.2
      exact absurd hs (hn s)
end Go.Proofs.Ytkemcgbedapkcaa

/- Cut out of OcA OcB OcC OcD. -/
namespace Go.Proofs.Ytkemcgbedapkcaa
open Go.RowKit
set_option maxHeartbeats 12800000
set_option maxRecDepth 100000
theorem wpList_append_opt {P : Program} {w : World} {ops : Array Oper} {rest : List Oper} {o : Oper} {a : Act} {Q : Exit → Act → World → Prop} (hgd : o.guard = none) (s x : Operand) (t : TypeId)
    (ho : o.op = .call { callee := .builtin .append, args := #[s, x], argTypes := #[t, t] })
    (base : Nat) (e : TypeId) (i : TypeInfo) (z : Value) (size bytes : Nat) (ht : P.underlying t = some (.slice e)) (hi : P.info? e = some i) (hz : i.zero = some z)
    (hsize : i.size = size) (hby : i.bytes = bytes) (hzs : z.cells.size = size) (hsz : 0 < size)
    (B : Option Addr) (cb : Nat) (n : Nat) (xs : List Value) (hs : a.eval s = .slice B n cb) (hown : w.ownsRow base e size (.slice B n cb) n xs)
    (A : Option Addr) (m c : Nat) (news : List Value) (hx : a.eval x = .slice A m c) (hA : A = none → m = 0 ∧ c = 0) (hl : news.length = m * size) (hnews : ∀ ad, A = some ad → ∀ j u, news[j]? = some u → w.cell? (ad.add j) = some u) (h1 : ∀ u ∈ news, u.oneCell' = true)
    (h63 : n + m ≤ maxLen) (hbytes : (n + m) * bytes ≤ 140737488355328) (hbase : base ≤ w.heap.size)
    (h : ∀ D c1 w', w'.ownsRow base e size (.slice D (n + m) c1) (n + m) (xs ++ news) → w.grownBy w' (Value.slice B n cb).ownBlock → wpList P ops Q rest (a.put o.dst (.slice D (n + m) c1)) w') : wpList P ops Q (o :: rest) a w := by
  cases A with
  | none =>
    obtain ⟨rfl, rfl⟩ := hA rfl
    have hn0 : news = [] := List.length_eq_zero_iff.1 (by omega)
    subst hn0
    refine wpList_append_own_none hgd s x t ho base e i size ht hi _ n xs hs hown hx ?_
    exact h B cb w (by simpa using hown) (World.grownBy.refl _ _)
  | some ad =>
    refine wpList_append_own w hgd s x t ho base e i z size bytes ht hi hz hsize hby hzs hsz _ n xs hs hown ad m c news hx hl (hnews ad rfl) h1 h63 hbytes hbase (fun v' w' h2 h3 _ => ?_)
    obtain ⟨D, c1, rfl⟩ := own_form h2
    exact h D c1 w' h2 h3
theorem contains_any (A : Option Addr) (n c : Nat) (L : List Int) (v : Int) (w : World) (hr : RInt w w.heap.size A n L) (hn : n ≤ 1000000) :
    Calls Try.prog 88 #[.slice A n c, .int .i64 v] w fun e w' => e = .returned (.bool (decide (v ∈ L))) ∧ w' = w := by
  have hlen := hr.1
  rcases Nat.eq_zero_or_pos n with h0 | h0
  · subst h0
    obtain rfl : L = [] := List.length_eq_zero_iff.1 hlen
    exact (slices_Contains_int_empty A c v w).mono fun e w' h => ⟨by rw [h.1]; simp, h.2⟩
  · obtain ⟨b, off, rfl, _, hc⟩ := hr.2 h0
    refine (slices_Contains_int b off n c L v w (by omega) (by omega) (fun j hj => ?_)).mono fun e w' h => ⟨?_, h.2⟩
    · have hx : L[j]? = some L[j] := List.getElem?_eq_getElem hj
      rw [List.getD_eq_getElem?_getD, hx]
      exact hc j _ hx
    · rw [h.1, List.take_of_length_le (by omega)]
      congr 2
      rw [Bool.eq_iff_iff, decide_eq_true_iff, List.contains_iff_mem]
theorem grow_any (k : Nat) (w : World) (hk0 : 0 < k) (hk : k ≤ 100000) :
    Calls Try.prog 87 #[.slice none 0 0, .int .i64 (k : Int)] w fun e w' => ∃ C, e = .returned (.slice (some ⟨w.heap.size, 0, none⟩) 0 C) ∧ w'.ownsRow w.heap.size 3 1 (.slice (some ⟨w.heap.size, 0, none⟩) 0 C) 0 [] ∧ Below w.heap.size w w' := by
  obtain ⟨i5, hi, hz0, hz1, hz2⟩ := info_parts int_info
  have t1 : decide ((k : Int) < 0) = false := decide_eq_false (by omega)
  have t2 : decide (0 < (k : Int)) = true := decide_eq_true (by omega)
  have t3 : decide (0 < k) = true := decide_eq_true hk0
  have e1 : IntKind.i64.wrap ((k : Int)) = (k : Int) := by rw [IntKind.wrap_i64]; omega
  have hrz : ∀ ty, (Builtin.append_ #[40, 3] ty #[.slice none 0 0, .int .i64 (k : Int)]).run Try.prog w = .ok (.slice (some ⟨w.heap.size, 0, none⟩) k (grownCap w k 0 3)) (w.drew.alloc (.cells (Builtin.zeroCells (Value.int .i64 0).cells k ++ Builtin.zeroCells (Value.int .i64 0).cells (grownCap w k 0 3 - k)) 3)) := fun ty => Lib.run_append_nil_zeros w 40 3 ty 3 i5 (.int .i64 0) .i64 .i64 Try.underlying40 Try.underlying3 hi hz0 k hk0 (by rw [hz1]; decide) (by omega) (by rw [hz2]; omega)
  have hG := grownCap_ge w k 0 3
  have hG2 := grownCap_le_maxLen w k 0 3 (by unfold maxLen; omega)
  obtain ⟨G, hGe⟩ : ∃ G, grownCap w k 0 3 = G := ⟨_, rfl⟩
  rw [hGe] at hrz hG hG2
  obtain ⟨cs, hcs⟩ : ∃ cs, Builtin.zeroCells (Value.int .i64 0).cells k ++ Builtin.zeroCells (Value.int .i64 0).cells (G - k) = cs := ⟨_, rfl⟩
  have hsz : cs.size = G * 1 := by rw [← hcs, Array.size_append, size_zeroCells, size_zeroCells]; simp [Value.cells]; omega
  rw [hcs] at hrz
  have HO : Hid ((w.drew.alloc (.cells cs 3)).ownsRow w.heap.size 3 1 (.slice (some ⟨w.heap.size, 0, none⟩) 0 G) 0 []) := World.ownsRow_made w.drew cs G (Nat.le_refl _) hG2 hsz
  have HB : Hid (Below w.heap.size w (w.drew.alloc (.cells cs 3))) := ((Below.refl _ w).drew).alloc (Nat.le_refl _) _
  have HZ := hid hrz
  have hkG : (k : Int) ≤ (G : Int) := by omega
  clear hi hz0 hz1 hz2 hrz hcs hsz hGe
  go_enter Try.func87, Try.ntmps87
  go_wp2_with (at_builtin; refine Lib.wpList_append_run _ rfl _ _ _ _ rfl _ _ rfl rfl _ _ (HZ.out _) ?_)
  go_ret
  exact ⟨_, rfl, HO.out, HB.out⟩
/-- The rows that Concat is handed, and what they read as. -/
def totL (Ls : List (Option Addr × Nat × Nat × List Int)) (i : Nat) : Nat := ((Ls.take i).map fun r => r.2.1).sum
def catL (Ls : List (Option Addr × Nat × Nat × List Int)) (i : Nat) : List Int := (Ls.take i).flatMap fun r => r.2.2.2
theorem totL_succ {Ls : List (Option Addr × Nat × Nat × List Int)} {i : Nat} {r : Option Addr × Nat × Nat × List Int} (h : Ls[i]? = some r) : totL Ls (i + 1) = totL Ls i + r.2.1 := by
  unfold totL
  rw [List.take_add_one, h]
  simp
theorem catL_succ {Ls : List (Option Addr × Nat × Nat × List Int)} {i : Nat} {r : Option Addr × Nat × Nat × List Int} (h : Ls[i]? = some r) : catL Ls (i + 1) = catL Ls i ++ r.2.2.2 := by
  unfold catL
  rw [List.take_add_one, h]
  simp
theorem totL_mono {Ls : List (Option Addr × Nat × Nat × List Int)} {m : Nat} (hm : Ls.length = m) : ∀ {i : Nat}, i ≤ m → totL Ls i ≤ totL Ls m := by
  intro i hi
  unfold totL
  rw [List.take_of_length_le (Nat.le_of_eq hm)]
  conv => rhs; rw [← List.take_append_drop i Ls]
  rw [List.map_append, List.sum_append]
  omega
theorem concat_any (g m c : Nat) (Ls : List (Option Addr × Nat × Nat × List Int)) (w : World) (hm : Ls.length = m) (hm0 : 0 < m) (hmx : m ≤ 1000) (hg : g < w.heap.size)
    (hcell : ∀ (j : Nat) (r : Option Addr × Nat × Nat × List Int), Ls[j]? = some r → w.cell? ⟨g, j, none⟩ = some (.slice r.1 r.2.1 r.2.2.1))
    (hrow : ∀ (j : Nat) (r : Option Addr × Nat × Nat × List Int), Ls[j]? = some r → RInt w w.heap.size r.1 r.2.1 r.2.2.2 ∧ (r.1 = none → r.2.1 = 0 ∧ r.2.2.1 = 0))
    (ht0 : 0 < totL Ls m) (htm : totL Ls m ≤ 100000) :
    Calls Try.prog 78 #[.slice (some ⟨g, 0, none⟩) m c] w (IntAns (catL Ls m) w) := by
  obtain ⟨i5, hi, hz0, hz1, hz2⟩ := info_parts int_info
  have Ai := hid hi; have Az0 := hid hz0; have Az1 := hid hz1; have Az2 := hid hz2
  have HC := hid hcell
  have HR := hid hrow
  have HM := hid (fun (i : Nat) (hi : i ≤ m) => totL_mono hm hi)
  have Hm := hid hm
  have HG := hid (grow_any (totL Ls m) w ht0 htm)
  have HL : Hid ((catL Ls m).length = totL Ls m) := by
    show _ = _
    have : ∀ i, i ≤ m → (catL Ls i).length = totL Ls i := by
      intro i
      induction i with
      | zero => intro _; simp [catL, totL]
      | succ i ih =>
        intro h
        have h1 : Ls[i]? = some Ls[i] := List.getElem?_eq_getElem (by omega)
        rw [catL_succ h1, totL_succ h1, List.length_append, ih (by omega), (hrow i _ h1).1.1]
    exact this m (Nat.le_refl _)
  clear hcell hrow hi hz0 hz1 hz2
  go_enter Try.func78, Try.ntmps78
  go_wp2_with fail
  go_loopw [3, 11] (fun sv iv wr => ∃ i : Nat, i ≤ m ∧ iv = .int .i64 i ∧ sv = .int .i64 (totL Ls i) ∧ w = wr) (fun _ iv _ => m - (intOf iv).toNat)
  case atStart => exact ⟨0, by omega, rfl, rfl, rfl⟩
  case round =>
    obtain ⟨i, hi, rfl, rfl, rfl⟩ := hrel
    have ewi : IntKind.i64.wrap ((i : Int) + 1) = (i : Int) + 1 := by rw [IntKind.wrap_i64]; omega
    by_cases hlt : i < m
    · have d1 : decide ((i : Int) < (m : Int)) = true := decide_eq_true (by omega)
      have d2 : decide (i < m) = true := decide_eq_true hlt
      have hii : (i : Int) < (m : Int) := by omega
      obtain ⟨⟨A, n, cc, L⟩, hr⟩ : ∃ r, Ls[i]? = some r := ⟨_, List.getElem?_eq_getElem (by have := Hm.out; omega)⟩
      have hc := HC.out i _ hr
      have hs := totL_succ hr
      have hmo := HM.out (i + 1) (by omega)
      dsimp only at hc hs
      have HS : Hid (totL Ls i + n = totL Ls (i + 1)) := hs.symm
      rw [hs] at hmo
      clear hr hs
      obtain ⟨t, ht⟩ : ∃ t, totL Ls i = t := ⟨_, rfl⟩
      rw [ht] at HS hmo ⊢
      have e1 : IntKind.i64.wrap ((t : Int) + (n : Int)) = (t : Int) + (n : Int) := by rw [IntKind.wrap_i64]; omega
      have d3 : decide ((t : Int) + (n : Int) < 0) = false := decide_eq_false (by omega)
      clear ht
      go_wp2_with fail
      clear ewi e1
      go_roundw
      case rel => exact ⟨i + 1, by omega, by go_num, by rw [← HS.out]; go_num, by first | rfl | trivial⟩
      case measure => simp [intOf]; omega
    · obtain rfl : i = m := by omega
      have d1 : decide ((i : Int) < (i : Int)) = false := by simp
      have d2 : decide (i < i) = false := by simp
      clear ewi
      go_wp2_with (go_at_call 87; (with_reducible refine (HG.out).mono ?_); rintro e' w1 ⟨C, rfl, hown1, hb1⟩)
      have HO1 := hid hown1
      have HB1 := hid hb1
      have HC1 := hid (fun (j : Nat) (r : Option Addr × Nat × Nat × List Int) (h : Ls[j]? = some r) W (hb : Below w.heap.size w W) => (hb.cell (p := ⟨g, j, none⟩) hg).trans (HC.out j r h))
      have HR1 := hid (fun (j : Nat) (r : Option Addr × Nat × Nat × List Int) (h : Ls[j]? = some r) W (hb : Below w.heap.size w W) => (HR.out j r h).1.on hb)
      have HN1 := hid (fun (j : Nat) (r : Option Addr × Nat × Nat × List Int) (h : Ls[j]? = some r) => (HR.out j r h).2)
      clear hown1 hb1
      go_loopw [6, 27] (fun vv iv w2 => ∃ (k : Nat) (D : Option Addr) (C1 : Nat), k ≤ i ∧ iv = .int .i64 k ∧ vv = .slice D (totL Ls k) C1 ∧ Hid (w2.ownsRow w.heap.size 3 1 (.slice D (totL Ls k) C1) (totL Ls k) (icells (catL Ls k))) ∧ Hid (Below w.heap.size w w2)) (fun _ iv _ => i - (intOf iv).toNat)
      case atStart => exact ⟨0, _, _, by omega, rfl, rfl, HO1.out, HB1.out⟩
      case round =>
        obtain ⟨k, D, C1, hk, rfl, rfl, HO, HB⟩ := hrel
        have ewk : IntKind.i64.wrap ((k : Int) + 1) = (k : Int) + 1 := by rw [IntKind.wrap_i64]; omega
        by_cases hkl : k < i
        · have d3 : decide ((k : Int) < (i : Int)) = true := decide_eq_true (by omega)
          have d4 : decide (k < i) = true := decide_eq_true hkl
          have hki : (k : Int) < (i : Int) := by omega
          obtain ⟨⟨A, n, cc, L⟩, hr⟩ : ∃ r, Ls[k]? = some r := ⟨_, List.getElem?_eq_getElem (by have := Hm.out; omega)⟩
          have hc := HC1.out k _ hr _ HB.out
          have hrr := HR1.out k _ hr _ HB.out
          have hnn := HN1.out k _ hr
          have HS := hid (totL_succ hr)
          have HT := hid (catL_succ hr)
          have hmo := HM.out (k + 1) (by omega)
          dsimp only at hc hrr hnn
          have HN := hid hnn
          have hln := hrr.1
          have HRR := hid (ints_src hrr)
          have hmt : totL Ls k + n ≤ 100000 := by have := HS.out; dsimp only at this; omega
          clear hr hnn hrr hmo
          go_wp2_with (at_builtin; refine wpList_append_opt rfl _ _ 40 rfl w.heap.size 3 i5 (.int .i64 0) 1 8 Try.underlying40 Ai.out Az0.out Az1.out Az2.out rfl (by decide) D C1 (totL Ls k) (icells (catL Ls k)) rfl HO.out A n cc (icells L) rfl HN.out (by rw [icells_len]; omega) HRR.out (icells_one _) (by unfold maxLen; omega) (by omega) HB.out.size ?_; intro D3 c3 w3 hown3 hg3; have HO3 := hid hown3; have HG3 := hid hg3; clear hown3 hg3)
          have HB3 : Hid (Below w.heap.size w w3) := HB.out.grown HG3.out HB.out.size (fun q hq => (HO.out.lt q hq).1)
          have HO4 : Hid (w3.ownsRow w.heap.size 3 1 (.slice D3 (totL Ls (k + 1)) c3) (totL Ls (k + 1)) (icells (catL Ls (k + 1)))) := by
            have h1 := HS.out
            have h2 := HT.out
            dsimp only at h1 h2
            show World.ownsRow _ _ _ _ _ _ _
            rw [h1, h2, icells_app]
            exact HO3.out
          have HSS : Hid (totL Ls k + n = totL Ls (k + 1)) := by have := HS.out; dsimp only at this; exact this.symm
          clear ewk
          go_roundw
          case rel => exact ⟨k + 1, D3, c3, by omega, by go_num, by rw [← HSS.out], HO4, HB3⟩
          case measure => simp [intOf]; omega
        · obtain rfl : k = i := by omega
          have d3 : decide ((k : Int) < (k : Int)) = false := by simp
          have d4 : decide (k < k) = false := by simp
          clear ewk
          go_wp2_with fail
          go_ret
          exact ⟨_, rfl, by rw [HL.out]; exact HO.out, HB.out⟩
theorem comeTo_any (A : Option Addr) (n c : Nat) (p : List Int) (v : Int) (K : Nat) (w : World) (hr : RInt w w.heap.size A n p) (hn : n ≤ 1000) (hK : K ≤ 1000) :
    Calls Try.prog 69 #[.slice A n c, .int .i64 v, .int .i64 (K : Int)] w fun e w' => e = .returned (.agg #[.int .i64 (comeS p v (K : Int)).1, .int .i64 (comeS p v (K : Int)).2]) ∧ Below w.heap.size w w' := by
  have hl := hr.1
  have hVg : Hid (comeS p v (K : Int) = (v, (K : Int) + (runN v (p.drop (K + 1)) : Nat))) := by show _ = _; unfold comeS; rw [if_pos (by omega), Int.toNat_natCast]
  have hrl := runN_le v (p.drop (K + 1))
  rw [List.length_drop, hl] at hrl
  have HR := hid (fun W (hb : Below w.heap.size w W) => hr.on hb)
  clear hr
  go_enter Try.func69, Try.ntmps69
  go_wp2_with fail
  obtain ⟨w0, hw0⟩ : ∃ w0, w.alloc (.cells #[.int .i64 0, .int .i64 0] 92) = w0 := ⟨_, rfl⟩
  have hb0 : Below w.heap.size w w0 := hw0 ▸ (Below.refl _ w).alloc (Nat.le_refl _) _
  have hx0 : w0.heap[w.heap.size]? = some (.cells #[.int .i64 0, .int .i64 0] 92 (0, 0)) := hw0 ▸ heap_alloc_new w _
  rw [hw0]
  clear hw0
  obtain ⟨z0, z1, z2⟩ := box_cells hx0
  have HX := hid hx0
  have HB := hid hb0
  have hrw := HR.out w0 hb0
  clear hx0 hb0
  go_loopw [2] (fun kv wr => ∃ j : Nat, j ≤ runN v (p.drop (K + 1)) ∧ kv = .int .i64 ((K + j : Nat) : Int) ∧ w0 = wr) (fun kv _ => n + 1001 - (intOf kv).toNat)
  case atStart => exact ⟨0, Nat.zero_le _, rfl, rfl⟩
  case round =>
    obtain ⟨j, hj, rfl, rfl⟩ := hrel
    obtain ⟨Q, hQ⟩ : ∃ Q : Nat, K + j = Q := ⟨_, rfl⟩
    rw [hQ]
    have e1 : IntKind.i64.wrap ((Q : Int) + 1) = (Q : Int) + 1 := by rw [IntKind.wrap_i64]; omega
    have HQ := hid hQ
    by_cases h1 : Q + 1 < n
    · have d2 : decide ((Q : Int) + 1 < (n : Int)) = true := decide_eq_true (by omega)
      have d3 : decide (Q + 1 < n) = true := decide_eq_true h1
      obtain ⟨b, off, rfl, hbl, hcell⟩ := hrw.2 (by omega)
      have hlt : Q + 1 < p.length := by omega
      obtain ⟨u, hu⟩ : ∃ u, p[Q + 1]? = some u := ⟨_, List.getElem?_eq_getElem hlt⟩
      have hc := hcell (Q + 1) u hu
      clear hcell
      have hi1 : (0 : Int) ≤ (Q : Int) + 1 := by omega
      have hi2 : (Q : Int) + 1 < (n : Int) := by omega
      have hpd : (p.drop (K + 1))[j]? = some u := by rw [List.getElem?_drop, show K + 1 + j = Q + 1 by omega]; exact hu
      clear hQ hrw
      by_cases h2 : u = v
      · have hj2 : j + 1 ≤ runN v (p.drop (K + 1)) := by
          rcases Nat.lt_or_ge j (runN v (p.drop (K + 1))) with h3 | h3
          · exact h3
          · obtain rfl : j = runN v (p.drop (K + 1)) := by omega
            exact absurd h2 (runN_end hpd)
        clear hpd hu
        obtain rfl : v = u := h2.symm
        have t1 : (v == v) = true := beq_self_eq_true v
        go_wp2_with fail
        clear e1
        go_roundw
        case rel => exact ⟨j + 1, hj2, by have := HQ.out; go_num, by first | rfl | trivial⟩
        case measure => simp [intOf]; omega
      · have d4 : (u == v) = false := by rw [beq_eq_false_iff_ne]; exact h2
        have d5 : decide (u = v) = false := decide_eq_false h2
        have HV : Hid (comeS p v (K : Int) = (v, (Q : Int))) := by
          show _ = _
          rw [hVg.out]
          have : runN v (p.drop (K + 1)) = j := by
            rcases Nat.lt_or_ge j (runN v (p.drop (K + 1))) with h3 | h3
            · have h4 := runN_at h3
              rw [hpd] at h4
              exact absurd (Option.some.inj h4) h2
            · omega
          rw [this]
          congr 1
          have := HQ.out
          omega
        clear hpd hu e1
        go_wp2_with fail
        have hg := box_set1 (u := .int .i64 (Q : Int)) (box_set0 (u := .int .i64 v) HX.out)
        refine bodyPost_ret (results_cell_row (p := 6) (fn := Try.f69) rfl _ _ _ _ _ _ _ rfl hg Try.underlying92 rfl (by kernel_rfl)) rfl ?_
        exact ⟨by rw [HV.out], (HB.out.setCell (Nat.le_refl _) _).setCell (Nat.le_refl _) _⟩
    · have d2 : decide ((Q : Int) + 1 < (n : Int)) = false := decide_eq_false (by omega)
      have d3 : decide (Q + 1 < n) = false := decide_eq_false h1
      have HV : Hid (comeS p v (K : Int) = (v, (Q : Int))) := by
        show _ = _
        rw [hVg.out]
        have : runN v (p.drop (K + 1)) = j := by omega
        rw [this]
        congr 1
        omega
      clear hQ hrw
      go_wp2_with fail
      have hg := box_set1 (u := .int .i64 (Q : Int)) (box_set0 (u := .int .i64 v) HX.out)
      refine bodyPost_ret (results_cell_row (p := 6) (fn := Try.f69) rfl _ _ _ _ _ _ _ rfl hg Try.underlying92 rfl (by kernel_rfl)) rfl ?_
      exact ⟨by rw [HV.out], (HB.out.setCell (Nat.le_refl _) _).setCell (Nat.le_refl _) _⟩
theorem IntAns.up {L : List Int} {w W w' : World} {e : Ending} (hb : Below w.heap.size w W) (h : IntAns L W e w') : IntAns L w e w' := by
  obtain ⟨v, rfl, ho, h2⟩ := h
  exact ⟨v, rfl, own_mono ho hb.size, hb.trans (h2.mono hb.size)⟩
theorem pts_concat (x : Wnt) (y : WSl) (w : World) (X : Obj) (hw : WArg w x y) (hv : y.nv ≤ 1000) :
    Calls Try.prog 78 #[.slice (some ⟨w.heap.size + 1 + 1 + 1, 0, none⟩) 3 3] ((((w.alloc X).alloc (.cells #[.int .i64 x.frm] 3)).alloc (.cells #[.int .i64 x.too] 3)).alloc (.cells #[.slice (some ⟨w.heap.size + 1, 0, none⟩) 1 1, .slice y.av y.nv y.cv, .slice (some ⟨w.heap.size + 1 + 1, 0, none⟩) 1 1] 40)) (IntAns (ptsS x) w) := by
  obtain ⟨w1, h1⟩ : ∃ w1, w.alloc X = w1 := ⟨_, rfl⟩
  have b1 : Below w.heap.size w w1 := h1 ▸ (Below.refl _ w).alloc (Nat.le_refl _) _
  have s1 : w1.heap.size = w.heap.size + 1 := by rw [← h1]; simp
  rw [h1, ← s1]
  obtain ⟨w2, h2⟩ : ∃ w2, w1.alloc (.cells #[.int .i64 x.frm] 3) = w2 := ⟨_, rfl⟩
  have b2 : Below w1.heap.size w1 w2 := h2 ▸ (Below.refl _ w1).alloc (Nat.le_refl _) _
  have s2 : w2.heap.size = w1.heap.size + 1 := by rw [← h2]; simp
  have c2 : w2.heap[w1.heap.size]? = some (.cells #[.int .i64 x.frm] 3 (0, 0)) := h2 ▸ heap_alloc_new w1 _
  rw [h2, ← s2]
  obtain ⟨w3, h3⟩ : ∃ w3, w2.alloc (.cells #[.int .i64 x.too] 3) = w3 := ⟨_, rfl⟩
  have b3 : Below w2.heap.size w2 w3 := h3 ▸ (Below.refl _ w2).alloc (Nat.le_refl _) _
  have s3 : w3.heap.size = w2.heap.size + 1 := by rw [← h3]; simp
  have c3 : w3.heap[w2.heap.size]? = some (.cells #[.int .i64 x.too] 3 (0, 0)) := h3 ▸ heap_alloc_new w2 _
  rw [h3, ← s3]
  obtain ⟨w4, h4⟩ : ∃ w4, w3.alloc (.cells #[.slice (some ⟨w1.heap.size, 0, none⟩) 1 1, .slice y.av y.nv y.cv, .slice (some ⟨w2.heap.size, 0, none⟩) 1 1] 40) = w4 := ⟨_, rfl⟩
  have b4 : Below w3.heap.size w3 w4 := h4 ▸ (Below.refl _ w3).alloc (Nat.le_refl _) _
  have c4 : w4.heap[w3.heap.size]? = some (.cells #[.slice (some ⟨w1.heap.size, 0, none⟩) 1 1, .slice y.av y.nv y.cv, .slice (some ⟨w2.heap.size, 0, none⟩) 1 1] 40 (0, 0)) := h4 ▸ heap_alloc_new w3 _
  rw [h4]
  have b24 := b3.trans (b4.mono b3.size)
  have b04 := (b1.trans (b2.mono b1.size)).trans (b24.mono (Nat.le_trans b1.size b2.size))
  have hf := box_below c2 b24 (by omega)
  have ht := box_below c3 b4 (by omega)
  have hrv := (hw.via.on b04).row
  have hnon := hw.via.non
  have hl4 := blk_lt c4
  have one : ∀ (g : Nat) (z : Int), w4.heap[g]? = some (.cells #[.int .i64 z] 3 (0, 0)) → RInt w4 w4.heap.size (some ⟨g, 0, none⟩) 1 [z] := fun g z hg => by
    refine ⟨rfl, fun _ => ⟨g, 0, rfl, blk_lt hg, fun i e he => ?_⟩⟩
    have hi : i = 0 := by
      have := (List.getElem?_eq_some_iff.1 he).1
      simp at this; omega
    subst hi
    simp at he
    subst he
    rw [cell_of_row _ _ _ _ _ _ hg]; rfl
  have hcat : catL [(some ⟨w1.heap.size, 0, none⟩, 1, 1, [x.frm]), (y.av, y.nv, y.cv, x.via), (some ⟨w2.heap.size, 0, none⟩, 1, 1, [x.too])] 3 = ptsS x := by
    unfold catL ptsS
    simp
  have h := concat_any w3.heap.size 3 3 [(some ⟨w1.heap.size, 0, none⟩, 1, 1, [x.frm]), (y.av, y.nv, y.cv, x.via), (some ⟨w2.heap.size, 0, none⟩, 1, 1, [x.too])] w4 rfl (by omega) (by omega) hl4 (fun j r hr => ?_) (fun j r hr => ?_) (by simp [totL]; omega) (by simp [totL]; omega)
  · rw [hcat] at h
    exact h.mono fun e w' h => h.up b04
  · rw [cell_of_row _ _ _ _ _ _ c4]
    rcases j with _ | _ | _ | j
    · simp at hr; subst hr; rfl
    · simp at hr; subst hr; rfl
    · simp at hr; subst hr; rfl
    · simp at hr
  · rcases j with _ | _ | _ | j
    · simp at hr; subst hr; exact ⟨one _ _ hf, fun h => by cases h⟩
    · simp at hr; subst hr; exact ⟨hrv, hnon⟩
    · simp at hr; subst hr; exact ⟨one _ _ ht, fun h => by cases h⟩
    · simp at hr
theorem pointsOf_any (x : Wnt) (y : WSl) (w : World) (hw : WArg w x y) (hv : y.nv ≤ 1000) :
    Calls Try.prog 67 #[.agg #[.int .i64 x.frm, .int .i64 x.too, .int .i64 x.bnd, .slice y.av y.nv y.cv, .slice y.an y.nn y.cn, .slice y.al y.nl y.cl, .slice y.ac y.nc y.cc]] w (IntAns (ptsS x) w) := by
  have HC := hid (pts_concat x y w (.cells #[.int .i64 x.frm, .int .i64 x.too, .int .i64 x.bnd, .slice y.av y.nv y.cv, .slice y.an y.nn y.cn, .slice y.al y.nl y.cl, .slice y.ac y.nc y.cc] 58) hw hv)
  clear hw
  go_enter Try.func67, Try.ntmps67
  go_wp2_with (go_at_call 78; (with_reducible refine (HC.out).mono ?_); rintro e' w3 ⟨v, rfl, ho3, hb3⟩)
  go_ret
  exact ⟨v, rfl, ho3, hb3⟩
theorem oGoal_any (x : Wnt) (y : WSl) (w : World) (hw : WArg w x y) (hv : y.nv ≤ 1000) :
    Calls Try.prog 47 #[.agg #[.int .i64 x.frm, .int .i64 x.too, .int .i64 x.bnd, .slice y.av y.nv y.cv, .slice y.an y.nn y.cn, .slice y.al y.nl y.cl, .slice y.ac y.nc y.cc]] w fun e w' => e = .returned (.agg #[.int .i64 (goalS x).1, .int .i64 (goalS x).2]) ∧ Below w.heap.size w w' := by
  have hl : Hid (goalS x = (x.too, (y.nv : Int) + 1)) := by show _ = _; unfold goalS; rw [hw.via.row.1]
  have e1 : IntKind.i64.wrap ((y.nv : Int) + 1) = (y.nv : Int) + 1 := by rw [IntKind.wrap_i64]; omega
  clear hw
  go_enter Try.func47, Try.ntmps47
  go_wp2_with fail
  have hy0 : ((w.alloc (.cells #[.int .i64 x.frm, .int .i64 x.too, .int .i64 x.bnd, .slice y.av y.nv y.cv, .slice y.an y.nn y.cn, .slice y.al y.nl y.cl, .slice y.ac y.nc y.cc] 58)).alloc (.cells #[.int .i64 x.too, .int .i64 ((y.nv : Int) + 1)] 92)).heap[w.heap.size + 1]? = some (.cells #[.int .i64 x.too, .int .i64 ((y.nv : Int) + 1)] 92 (0, 0)) := by
    have := heap_alloc_new (w.alloc (.cells #[.int .i64 x.frm, .int .i64 x.too, .int .i64 x.bnd, .slice y.av y.nv y.cv, .slice y.an y.nn y.cn, .slice y.al y.nl y.cl, .slice y.ac y.nc y.cc] 58)) (.cells #[.int .i64 x.too, .int .i64 ((y.nv : Int) + 1)] 92)
    rw [show (w.alloc (.cells #[.int .i64 x.frm, .int .i64 x.too, .int .i64 x.bnd, .slice y.av y.nv y.cv, .slice y.an y.nn y.cn, .slice y.al y.nl y.cl, .slice y.ac y.nc y.cc] 58)).heap.size = w.heap.size + 1 by simp] at this
    exact this
  have hb0 : Below w.heap.size w ((w.alloc (.cells #[.int .i64 x.frm, .int .i64 x.too, .int .i64 x.bnd, .slice y.av y.nv y.cv, .slice y.an y.nn y.cn, .slice y.al y.nl y.cl, .slice y.ac y.nc y.cc] 58)).alloc (.cells #[.int .i64 x.too, .int .i64 ((y.nv : Int) + 1)] 92)) := ((Below.refl _ w).alloc (Nat.le_refl _) _).alloc (by simp) _
  refine bodyPost_ret (results_cell_row (p := 2) (fn := Try.f47) rfl _ _ _ _ _ _ _ rfl hy0 Try.underlying92 rfl (by kernel_rfl)) rfl ?_
  exact ⟨by rw [hl.out], hb0⟩
theorem oStart_any (x : Wnt) (y : WSl) (w : World) (hw : WArg w x y) (hv : y.nv ≤ 900) :
    Calls Try.prog 46 #[.agg #[.int .i64 x.frm, .int .i64 x.too, .int .i64 x.bnd, .slice y.av y.nv y.cv, .slice y.an y.nn y.cn, .slice y.al y.nl y.cl, .slice y.ac y.nc y.cc]] w fun e w' => e = .returned (.agg #[.int .i64 (startS x).1, .int .i64 (startS x).2]) ∧ Below w.heap.size w w' := by
  have hl := hw.via.row.1
  have HP := hid (fun W hb => ints_out (m := y.nv + 2) (by rw [ptsS_len, hl]) (pointsOf_any x y W (hw.on hb) (by omega)))
  have HC := hid (fun A c W (hr : RInt W W.heap.size A (y.nv + 2) (ptsS x)) => (show Calls Try.prog 69 #[.slice A (y.nv + 2) c, .int .i64 x.frm, .int .i64 0] W _ from comeTo_any A (y.nv + 2) c (ptsS x) x.frm 0 W hr (by omega) (by omega)))
  have hV : Hid (startS x = comeS (ptsS x) x.frm 0) := rfl
  obtain ⟨p1, p2, hp⟩ : ∃ p1 p2, comeS (ptsS x) x.frm 0 = (p1, p2) := ⟨_, _, rfl⟩
  rw [show (((0 : Nat) : Int)) = 0 from rfl, hp] at HC
  rw [hp] at hV
  clear hp hw hl
  go_enter Try.func46, Try.ntmps46
  go_wp2_with fail
  obtain ⟨w0, hw0⟩ : ∃ w0, (w.alloc (.cells #[.int .i64 x.frm, .int .i64 x.too, .int .i64 x.bnd, .slice y.av y.nv y.cv, .slice y.an y.nn y.cn, .slice y.al y.nl y.cl, .slice y.ac y.nc y.cc] 58)).alloc (.cells #[.int .i64 0, .int .i64 0] 92) = w0 := ⟨_, rfl⟩
  have hb0 : Below w.heap.size w w0 := hw0 ▸ ((Below.refl _ w).alloc (Nat.le_refl _) _).alloc (by simp) _
  have hx0 : w0.heap[w.heap.size]? = some (.cells #[.int .i64 x.frm, .int .i64 x.too, .int .i64 x.bnd, .slice y.av y.nv y.cv, .slice y.an y.nn y.cn, .slice y.al y.nl y.cl, .slice y.ac y.nc y.cc] 58 (0, 0)) := hw0 ▸ (Below.heap_alloc _ _ _ (by simp)).trans (heap_alloc_new w _)
  have hy0 : w0.heap[w.heap.size + 1]? = some (.cells #[.int .i64 0, .int .i64 0] 92 (0, 0)) := by
    have := heap_alloc_new (w.alloc (.cells #[.int .i64 x.frm, .int .i64 x.too, .int .i64 x.bnd, .slice y.av y.nv y.cv, .slice y.an y.nn y.cn, .slice y.al y.nl y.cl, .slice y.ac y.nc y.cc] 58)) (.cells #[.int .i64 0, .int .i64 0] 92)
    rw [show (w.alloc (.cells #[.int .i64 x.frm, .int .i64 x.too, .int .i64 x.bnd, .slice y.av y.nv y.cv, .slice y.an y.nn y.cn, .slice y.al y.nl y.cl, .slice y.ac y.nc y.cc] 58)).heap.size = w.heap.size + 1 by simp, hw0] at this
    exact this
  rw [hw0]
  have hxd : w0.drew.heap[w.heap.size]? = some (.cells #[.int .i64 x.frm, .int .i64 x.too, .int .i64 x.bnd, .slice y.av y.nv y.cv, .slice y.an y.nn y.cn, .slice y.al y.nl y.cl, .slice y.ac y.nc y.cc] 58 (0, 0)) := hx0
  have hyd : w0.drew.heap[w.heap.size + 1]? = some (.cells #[.int .i64 0, .int .i64 0] 92 (0, 0)) := hy0
  obtain ⟨z0, z1, z2, z3, z4, z5, z6⟩ := box7_cells hxd
  obtain ⟨y0, y1, y2⟩ := box_cells hyd
  have Hd := hid (And.intro hxd (And.intro hyd hb0.drew))
  clear hw0 hx0 hy0 hb0 hxd hyd
  go_region_law (first
    | (go_simp; go_at_call 67; (with_reducible refine (HP.out _ Hd.out.2.2).mono ?_); rintro e' w3 ⟨A3, c3, rfl, ⟨hr3, hc3, hn3⟩, hb3⟩; have HR3 := hid hr3; have hx3 := box_below Hd.out.1 hb3 (blk_lt Hd.out.1); have hy3 := box_below Hd.out.2.1 hb3 (blk_lt Hd.out.2.1); have HB3 := hid (Hd.out.2.2.trans (hb3.mono Hd.out.2.2.size)); have HY3 := hid hy3; have q0 := (box7_cells hx3).1; clear hb3 hx3 hy3 hr3)
    | (go_simp; go_at_call 69; (with_reducible refine (HC.out _ _ _ HR3.out).mono ?_); rintro e' w4 ⟨rfl, hb4⟩; have hy4 := box_below HY3.out hb4 (blk_lt HY3.out); have HB4 := hid (HB3.out.trans (hb4.mono HB3.out.size)); have HY4 := hid hy4; obtain ⟨u0, u1, u2⟩ := box_cells hy4; have u20 := u2 0; have u21 := u2 1; clear hb4 hy4 u2))
  all_goals
    go_wp2_with fail
    have hg := box_set1 (u := .int .i64 p2) (box_set0 (u := .int .i64 p1) HY4.out)
    refine bodyPost_ret (results_cell_row (p := 2) (fn := Try.f46) rfl _ _ _ _ _ _ _ rfl hg Try.underlying92 rfl (by kernel_rfl)) rfl ?_
    exact ⟨by rw [hV.out], (HB4.out.setCell (by simp) _).setCell (by simp) _⟩
/-- The best ways, as find tells them. -/
structure BestAt (w : World) (nd : Int) (n : Nat) (l : List Lnk) (x : Wnt) (gn : List Bool) (Ap : Option Addr) (cp : Nat) (Ag : Option Addr) (cg : Nat) (vF : Value) (vs : List Value) : Prop where
  pts : w.ownsRow 0 3 1 (.slice Ap (x.via.length + 2) cp) (x.via.length + 2) (icells (ptsS x))
  dwn : DArg w Ag n cg gn
  own : w.ownsRow 0 40 1 vF (x.via.length + 1) vs
  far : FarR w nd.toNat nd l gn ((ptsS x).drop 1) vs
theorem BestAt.on {w w' : World} {nd : Int} {n : Nat} {l : List Lnk} {x : Wnt} {gn : List Bool} {Ap : Option Addr} {cp : Nat} {Ag : Option Addr} {cg : Nat} {vF : Value} {vs : List Value} (h : BestAt w nd n l x gn Ap cp Ag cg vF vs) (hb : Below w.heap.size w w') : BestAt w' nd n l x gn Ap cp Ag cg vF vs :=
  ⟨own_below h.pts hb, h.dwn.on hb, own_below h.own hb, h.far.below hb⟩
/-- What find answers. -/
def FindAns (nd : Int) (A : Option Addr) (n c : Nat) (l : List Lnk) (x : Wnt) (dn : List Bool) (w : World) (e : Ending) (w' : World) : Prop :=
  Below w.heap.size w w' ∧ (((costS nd l x dn).2 ≠ 0 ∧ e = .returned (.tuple #[.agg #[.int .i64 0, .slice none 0 0, .slice none 0 0, .slice none 0 0, .slice none 0 0, .int .i64 0], .int .i64 (costS nd l x dn).2])) ∨
    ((costS nd l x dn).2 = 0 ∧ ∃ (Ap : Option Addr) (cp : Nat) (Ag : Option Addr) (cg : Nat) (Df : Option Addr) (cf : Nat) (vs : List Value), e = .returned (.tuple #[.agg #[.int .i64 nd, .slice A n c, .slice Ap (x.via.length + 2) cp, .slice Ag n cg, .slice Df (x.via.length + 1) cf, .int .i64 (costS nd l x dn).1], .int .i64 0]) ∧ BestAt w' nd n l x (prunedS nd l x dn) Ap cp Ag cg (.slice Df (x.via.length + 1) cf) vs))
def FindSpec (f : Nat) : Prop := ∀ (nd : Int) (A : Option Addr) (n c : Nat) (l : List Lnk) (x : Wnt) (y : WSl) (Ad : Option Addr) (n' c' : Nat) (dn : List Bool) (w : World), GArg w nd A n c l → WArg w x y → DArg w Ad n' c' dn → y.nv ≤ 100 → y.nn ≤ 100 → y.nl ≤ 100 → y.nc ≤ 100 →
  Calls Try.prog f #[.agg #[.int .i64 nd, .slice A n c], .agg #[.int .i64 x.frm, .int .i64 x.too, .int .i64 x.bnd, .slice y.av y.nv y.cv, .slice y.an y.nn y.cn, .slice y.al y.nl y.cl, .slice y.ac y.nc y.cc], .slice Ad n' c'] w (FindAns nd A n c l x dn w)
/-- Three boxes: a graph's, a want's, and the result's. -/
def HeldF (w : World) (nd : Int) (A : Option Addr) (n c : Nat) (x : Wnt) (y : WSl) (w' : World) : Prop :=
  Held2 w nd A n c x y w' ∧ w'.heap[w.heap.size + 1 + 1]? = some (.cells #[.int .i64 0, .slice none 0 0, .slice none 0 0, .slice none 0 0, .slice none 0 0, .int .i64 0] 79 (0, 0))
theorem HeldF.start (w : World) (nd : Int) (A : Option Addr) (n c : Nat) (x : Wnt) (y : WSl) : HeldF w nd A n c x y (((w.alloc (.cells #[.int .i64 nd, .slice A n c] 24)).alloc (.cells #[.int .i64 x.frm, .int .i64 x.too, .int .i64 x.bnd, .slice y.av y.nv y.cv, .slice y.an y.nn y.cn, .slice y.al y.nl y.cl, .slice y.ac y.nc y.cc] 58)).alloc (.cells #[.int .i64 0, .slice none 0 0, .slice none 0 0, .slice none 0 0, .slice none 0 0, .int .i64 0] 79)) := by
  have h0 := Held2.start w nd A n c x y
  obtain ⟨w2, hw2⟩ : ∃ w2, (w.alloc (.cells #[.int .i64 nd, .slice A n c] 24)).alloc (.cells #[.int .i64 x.frm, .int .i64 x.too, .int .i64 x.bnd, .slice y.av y.nv y.cv, .slice y.an y.nn y.cn, .slice y.al y.nl y.cl, .slice y.ac y.nc y.cc] 58) = w2 := ⟨_, rfl⟩
  have hs2 : w2.heap.size = w.heap.size + 1 + 1 := by rw [← hw2]; simp
  rw [hw2] at h0 ⊢
  have h1 : Below w2.heap.size w2 (w2.alloc (.cells #[.int .i64 0, .slice none 0 0, .slice none 0 0, .slice none 0 0, .slice none 0 0, .int .i64 0] 79)) := (Below.refl _ _).alloc (Nat.le_refl _) _
  have e1 := heap_alloc_new w2 (.cells #[.int .i64 0, .slice none 0 0, .slice none 0 0, .slice none 0 0, .slice none 0 0, .int .i64 0] 79)
  rw [hs2] at e1
  exact ⟨h0.next h1, e1⟩
theorem HeldF.next {w w' w'' : World} {nd : Int} {A : Option Addr} {n c : Nat} {x : Wnt} {y : WSl} (h : HeldF w nd A n c x y w') (hb : Below w'.heap.size w' w'') : HeldF w nd A n c x y w'' :=
  ⟨h.1.next hb, box_below h.2 hb (blk_lt h.2)⟩
theorem HeldF.lt {w w' : World} {nd : Int} {A : Option Addr} {n c : Nat} {x : Wnt} {y : WSl} (h : HeldF w nd A n c x y w') : w.heap.size + 1 + 1 < w'.heap.size := blk_lt h.2
theorem HeldF.calls {w : World} {nd : Int} {A : Option Addr} {n c : Nat} {x : Wnt} {y : WSl} {f : Nat} {args : Array Value} {R : Ending → Prop} {w' : World} (h : HeldF w nd A n c x y w') (hc : Calls Try.prog f args w' fun e w'' => R e ∧ Below w'.heap.size w' w'') :
    Calls Try.prog f args w' fun e w'' => R e ∧ HeldF w nd A n c x y w'' := hc.mono fun _ _ h1 => ⟨h1.1, h.next h1.2⟩
theorem box6_cells {w : World} {B : Nat} {x0 x1 x2 x3 x4 x5 : Value} {T : TypeId} (h : w.heap[B]? = some (.cells #[x0, x1, x2, x3, x4, x5] T (0, 0))) : w.cell? ⟨B, 0, none⟩ = some x0 ∧ w.cell? ⟨B, 1, none⟩ = some x1 ∧ w.cell? ⟨B, 2, none⟩ = some x2 ∧ w.cell? ⟨B, 3, none⟩ = some x3 ∧ w.cell? ⟨B, 4, none⟩ = some x4 ∧ w.cell? ⟨B, 5, none⟩ = some x5 ∧ ∀ j, w.frozen? ⟨B, j, none⟩ = false :=
  ⟨by rw [cell_of_row _ _ _ _ _ _ h]; rfl, by rw [cell_of_row _ _ _ _ _ _ h]; rfl, by rw [cell_of_row _ _ _ _ _ _ h]; rfl, by rw [cell_of_row _ _ _ _ _ _ h]; rfl, by rw [cell_of_row _ _ _ _ _ _ h]; rfl, by rw [cell_of_row _ _ _ _ _ _ h]; rfl, fun j => frozen_of_row _ _ _ _ _ h⟩
/-- Six stores, one behind the other, into a block of six cells. -/
theorem box6_put {w : World} {B : Nat} {x0 x1 x2 x3 x4 x5 y0 y1 y2 y3 y4 y5 : Value} {T : TypeId} (h : w.heap[B]? = some (.cells #[x0, x1, x2, x3, x4, x5] T (0, 0))) : ((((((w.setCell ⟨B, 0, none⟩ y0).setCell ⟨B, 1, none⟩ y1).setCell ⟨B, 2, none⟩ y2).setCell ⟨B, 3, none⟩ y3).setCell ⟨B, 4, none⟩ y4).setCell ⟨B, 5, none⟩ y5).heap[B]? = some (.cells #[y0, y1, y2, y3, y4, y5] T (0, 0)) := by
  have s0 := heap_setCell_same w B 0 _ T y0 h
  have s1 := heap_setCell_same _ B 1 _ T y1 s0
  have s2 := heap_setCell_same _ B 2 _ T y2 s1
  have s3 := heap_setCell_same _ B 3 _ T y3 s2
  have s4 := heap_setCell_same _ B 4 _ T y4 s3
  have s5 := heap_setCell_same _ B 5 _ T y5 s4
  simpa using s5
theorem below_put6 {S B : Nat} {w0 w : World} {y0 y1 y2 y3 y4 y5 : Value} (h : Below S w0 w) (hB : S ≤ B) : Below S w0 ((((((w.setCell ⟨B, 0, none⟩ y0).setCell ⟨B, 1, none⟩ y1).setCell ⟨B, 2, none⟩ y2).setCell ⟨B, 3, none⟩ y3).setCell ⟨B, 4, none⟩ y4).setCell ⟨B, 5, none⟩ y5) :=
  (((((h.setCell hB _).setCell hB _).setCell hB _).setCell hB _).setCell hB _).setCell hB _
theorem find_not (nd : Int) (A : Option Addr) (n c : Nat) (l : List Lnk) (x : Wnt) (y : WSl) (Ad : Option Addr) (n' c' : Nat) (dn : List Bool) (w : World) (hg : GArg w nd A n c l) (hw : WArg w x y) (h1 : y.nv ≤ 100) (h2 : y.nn ≤ 100) (h3 : y.nl ≤ 100) (h4 : y.nc ≤ 100) (h : rightS nd l x ≠ 0) :
    Calls Try.prog 45 #[.agg #[.int .i64 nd, .slice A n c], .agg #[.int .i64 x.frm, .int .i64 x.too, .int .i64 x.bnd, .slice y.av y.nv y.cv, .slice y.an y.nn y.cn, .slice y.al y.nl y.cl, .slice y.ac y.nc y.cc], .slice Ad n' c'] w (FindAns nd A n c l x dn w) := by
  have hS := HeldF.start w nd A n c x y
  have HRt := hid (fun W (hh : HeldF w nd A n c x y W) => hh.calls (right_spec nd A n c l x y W (hg.on hh.1.1) (hw.on hh.1.1) h1 h2 h3 h4))
  have HC : Hid (costS nd l x dn = (0, rightS nd l x)) := by show _ = _; unfold costS; rw [if_pos h]
  obtain ⟨r, hr⟩ : ∃ r, rightS nd l x = r := ⟨_, rfl⟩
  rw [hr] at h HRt HC
  have d1 : (r != 0) = true := bne_iff_ne.2 h
  have HR := hid h
  clear hr hg hw h
  go_enter Try.func45, Try.ntmps45
  go_wp2_with (go_at_call 66; (with_reducible refine (HRt.out _ hS).mono ?_); rintro e' w1 ⟨rfl, hh1⟩; obtain ⟨u0, u1, u2, u3, u4, u5, u6⟩ := box6_cells hh1.2)
  have hg := box6_put (y0 := .int .i64 0) (y1 := .slice none 0 0) (y2 := .slice none 0 0) (y3 := .slice none 0 0) (y4 := .slice none 0 0) (y5 := .int .i64 0) hh1.2
  refine bodyPost_ret (results_cellrow_tmp (p := 6) (u := 7) (fn := Try.f45) rfl _ _ _ _ _ _ _ rfl hg Try.underlying79 rfl (by kernel_rfl)) rfl ?_
  exact ⟨below_put6 hh1.1.1 (by omega), .inl ⟨by rw [HC.out]; exact HR.out, by rw [HC.out]; rfl⟩⟩
/-- All blocks but one stay. -/
structure But (B : Nat) (w w' : World) : Prop where
  os : w'.os = w.os
  tape : w'.tape = w.tape
  output : w'.output = w.output
  size : w.heap.size ≤ w'.heap.size
  block : ∀ g, g < w.heap.size → g ≠ B → w'.heap[g]? = w.heap[g]?
theorem But.refl (B : Nat) (w : World) : But B w w := ⟨rfl, rfl, rfl, Nat.le_refl _, fun _ _ _ => rfl⟩
theorem But.trans {B : Nat} {a b c : World} (h : But B a b) (h' : But B b c) : But B a c :=
  ⟨h'.os.trans h.os, h'.tape.trans h.tape, h'.output.trans h.output, Nat.le_trans h.size h'.size, fun g hg h1 => (h'.block g (Nat.lt_of_lt_of_le hg h.size) h1).trans (h.block g hg h1)⟩
theorem But.of {B : Nat} {a b : World} (h : Below a.heap.size a b) : But B a b := ⟨h.os, h.tape, h.output, h.size, fun g hg _ => h.block g hg⟩
theorem But.set {B j : Nat} {w : World} {u : Value} : But B w (w.setCell ⟨B, j, none⟩ u) :=
  ⟨rfl, rfl, rfl, by simp [World.setCell], fun g _ h1 => heap_setCell_other w ⟨B, j, none⟩ g u h1⟩
theorem But.below {B C : Nat} {w w' : World} (h : But B w w') (hB : C ≤ B) (hC : C ≤ w.heap.size) : Below C w w' := ⟨h.os, h.tape, h.output, h.size, fun g hg => h.block g (by omega) (by omega)⟩
theorem own_but {B : Nat} {w w' : World} {base e size n : Nat} {v : Value} {xs : List Value} {t : TypeId} {c : Array Value} {fz : Nat × Nat} (hown : w.ownsRow base e size v n xs) (hb : But B w w') (ho : w.heap[B]? = some (.cells c t fz)) (he : e ≠ t) : w'.ownsRow base e size v n xs := by
  have hgb : w.grownBy w' (some B) := ⟨hb.os, hb.tape, hb.output, hb.size, fun k hk hne => hb.block k hk (fun e => hne (by rw [e]))⟩
  refine hown.kept hgb ?_
  rcases hown.2 with ⟨rfl, _⟩ | ⟨g, cap, cur, rfl, _, hg, _⟩
  · exact .inl rfl
  · refine .inr ?_
    simp only [Value.ownBlock, ne_eq, Option.some.injEq]
    rintro rfl
    rw [ho] at hg
    simp at hg
    exact he hg.2.1.symm
/-- A block of a best's cells is no row of bools. -/
theorem DArg.but {w w' : World} {A : Option Addr} {n c : Nat} {l : List Bool} {B : Nat} {a0 a5 : Int} {p1 p2 p3 p4 : Option Addr} {n1 n2 n3 n4 c1 c2 c3 c4 : Nat} {T : TypeId} (h : DArg w A n c l) (hb : But B w w')
    (hx : w.heap[B]? = some (.cells #[.int .i64 a0, .slice p1 n1 c1, .slice p2 n2 c2, .slice p3 n3 c3, .slice p4 n4 c4, .int .i64 a5] T (0, 0))) : DArg w' A n c l := by
  refine ⟨⟨h.row.1, fun hn => ?_⟩, h.len, h.cap, h.non⟩
  obtain ⟨b, off, hA, hlt, hc⟩ := h.row.2 hn
  have hne : b ≠ B := by
    rintro rfl
    obtain ⟨x, hx0⟩ : ∃ x, l[0]? = some x := ⟨_, List.getElem?_eq_getElem (by have := h.row.1; omega)⟩
    have h0 := hc 0 x hx0
    rw [cell_of_row _ _ _ _ _ _ hx] at h0
    rcases off with _ | _ | _ | _ | _ | _ | off
    · simp at h0
    · simp at h0
    · simp at h0
    · simp at h0
    · simp at h0
    · simp at h0
    · simp at h0
  exact ⟨b, off, hA, Nat.lt_of_lt_of_le hlt hb.size, fun i x hi => (World.cell?_of_block (hb.block b hlt hne)).trans (hc i x hi)⟩
theorem BestAt.but {w w' : World} {nd : Int} {n : Nat} {l : List Lnk} {x : Wnt} {gn : List Bool} {Ap : Option Addr} {cp : Nat} {Ag : Option Addr} {cg : Nat} {vF : Value} {vs : List Value} {B : Nat} {a0 a5 : Int} {p1 p2 p3 p4 : Option Addr} {n1 n2 n3 n4 c1 c2 c3 c4 : Nat} (h : BestAt w nd n l x gn Ap cp Ag cg vF vs) (hb : But B w w')
    (hx : w.heap[B]? = some (.cells #[.int .i64 a0, .slice p1 n1 c1, .slice p2 n2 c2, .slice p3 n3 c3, .slice p4 n4 c4, .int .i64 a5] 79 (0, 0))) : BestAt w' nd n l x gn Ap cp Ag cg vF vs :=
  ⟨own_but h.pts hb hx (by decide), h.dwn.but hb hx, own_but h.own hb hx (by decide), fun i v hv => own_but (h.far i v hv) hb hx (by decide)⟩
theorem HeldF.but {w w' w'' : World} {nd : Int} {A : Option Addr} {n c : Nat} {x : Wnt} {y : WSl} {B : Nat} (h : HeldF w nd A n c x y w') (hb : But B w' w'') (hB : w.heap.size + 1 + 1 < B) : HeldF w nd A n c x y w'' := by
  have h2 := h.lt
  refine ⟨⟨h.1.1.trans (hb.below (by omega) h.1.1.size), ?_, ?_⟩, ?_⟩
  · rw [hb.block _ (by omega) (by omega)]; exact h.1.2.1
  · rw [hb.block _ (by omega) (by omega)]; exact h.1.2.2
  · rw [hb.block _ (by omega) (by omega)]; exact h.2
theorem HeldF.drew {w w' : World} {nd : Int} {A : Option Addr} {n c : Nat} {x : Wnt} {y : WSl} (h : HeldF w nd A n c x y w') : HeldF w nd A n c x y w'.drew := ⟨h.1.drew, h.2⟩
/-- Where the loop begins. -/
structure FStart (w : World) (nd : Int) (A : Option Addr) (n c : Nat) (x : Wnt) (y : WSl) (gn : List Bool) (P : List Int) (kk B : Nat) (Ap : Option Addr) (cp : Nat) (Ag : Option Addr) (cg : Nat) (w' : World) : Prop where
  held : HeldF w nd A n c x y w'
  pts : w'.ownsRow 0 3 1 (.slice Ap (kk + 2) cp) (kk + 2) (icells P)
  dwn : DArg w' Ag n cg gn
  box : w'.heap[B]? = some (.cells #[.int .i64 nd, .slice A n c, .slice Ap (kk + 2) cp, .slice Ag n cg, .slice none 0 0, .int .i64 0] 79 (0, 0))
  gt : w.heap.size + 1 + 1 < B
section
variable {w w' w'' w0 : World} {nd : Int} {A : Option Addr} {n c : Nat} {x : Wnt} {y : WSl} {l : List Lnk} {gn : List Bool} {P P1 : List Int} {N kk B : Nat} {Ap : Option Addr} {cp : Nat} {Ag : Option Addr} {cg : Nat} {vF : Value} {k : Nat} {vs : List Value} {s : Int}
theorem but_put6 {y0 y1 y2 y3 y4 y5 : Value} {w : World} {B : Nat} : But B w ((((((w.setCell ⟨B, 0, none⟩ y0).setCell ⟨B, 1, none⟩ y1).setCell ⟨B, 2, none⟩ y2).setCell ⟨B, 3, none⟩ y3).setCell ⟨B, 4, none⟩ y4).setCell ⟨B, 5, none⟩ y5) :=
  (((((But.set).trans But.set).trans But.set).trans But.set).trans But.set).trans But.set
theorem fstart_put (hh : HeldF w nd A n c x y w') (hp : w'.ownsRow 0 3 1 (.slice Ap (kk + 2) cp) (kk + 2) (icells P)) (hd : DArg w' Ag n cg gn) (hx : w'.heap[B]? = some (.cells #[.int .i64 0, .slice none 0 0, .slice none 0 0, .slice none 0 0, .slice none 0 0, .int .i64 0] 79 (0, 0))) (hB : w.heap.size + 1 + 1 < B) :
    FStart w nd A n c x y gn P kk B Ap cp Ag cg ((((((w'.setCell ⟨B, 0, none⟩ (.int .i64 nd)).setCell ⟨B, 1, none⟩ (.slice A n c)).setCell ⟨B, 2, none⟩ (.slice Ap (kk + 2) cp)).setCell ⟨B, 3, none⟩ (.slice Ag n cg)).setCell ⟨B, 4, none⟩ (.slice none 0 0)).setCell ⟨B, 5, none⟩ (.int .i64 0)) :=
  ⟨hh.but but_put6 hB, own_but hp but_put6 hx (by decide), hd.but but_put6 hx, box6_put hx, hB⟩
theorem fstart_new (hh : HeldF w nd A n c x y w') (hp : w'.ownsRow 0 3 1 (.slice Ap (kk + 2) cp) (kk + 2) (icells P)) (hd : DArg w' Ag n cg gn) :
    FStart w nd A n c x y gn P kk w'.heap.size Ap cp Ag cg (w'.alloc (.cells #[.int .i64 nd, .slice A n c, .slice Ap (kk + 2) cp, .slice Ag n cg, .slice none 0 0, .int .i64 0] 79)) := by
  have hb : Below w'.heap.size w' (w'.alloc (.cells #[.int .i64 nd, .slice A n c, .slice Ap (kk + 2) cp, .slice Ag n cg, .slice none 0 0, .int .i64 0] 79)) := (Below.refl _ _).alloc (Nat.le_refl _) _
  exact ⟨hh.next hb, own_below hp hb, hd.on hb, heap_alloc_new w' _, hh.lt⟩
/-- What find holds while it fills. -/
structure FOs (w0 : World) (B : Nat) (nd : Int) (A : Option Addr) (n c : Nat) (l : List Lnk) (gn : List Bool) (P1 : List Int) (N kk : Nat) (Ap : Option Addr) (cp : Nat) (Ag : Option Addr) (cg : Nat) (vF : Value) (k : Nat) (vs : List Value) (s : Int) (w' : World) : Prop where
  bel : But B w0 w'
  lt0 : B < w0.heap.size
  box : w'.heap[B]? = some (.cells #[.int .i64 nd, .slice A n c, .slice Ap (kk + 2) cp, .slice Ag n cg, vF, .int .i64 s] 79 (0, 0))
  own : w'.ownsRow w0.heap.size 40 1 vF k vs
  far : FarR w' N nd l gn P1 vs
theorem FStart.fos (h : FStart w nd A n c x y gn P kk B Ap cp Ag cg w') : FOs w' B nd A n c l gn P1 N kk Ap cp Ag cg (.slice none 0 0) 0 [] 0 w' :=
  ⟨But.refl _ _, blk_lt h.box, h.box, World.ownsRow_nil _ _ _ _, fun i v hv => by simp at hv⟩
theorem FOs.lt (h : FOs w0 B nd A n c l gn P1 N kk Ap cp Ag cg vF k vs s w') : B < w'.heap.size := blk_lt h.box
theorem FOs.next (h : FOs w0 B nd A n c l gn P1 N kk Ap cp Ag cg vF k vs s w') (hb : Below w'.heap.size w' w'') : FOs w0 B nd A n c l gn P1 N kk Ap cp Ag cg vF k vs s w'' :=
  ⟨h.bel.trans (But.of hb), h.lt0, box_below h.box hb h.lt, own_below h.own hb, h.far.below hb⟩
theorem FOs.drew (h : FOs w0 B nd A n c l gn P1 N kk Ap cp Ag cg vF k vs s w') : FOs w0 B nd A n c l gn P1 N kk Ap cp Ag cg vF k vs s w'.drew := h.next ((Below.refl _ _).drew)
theorem box6_set4 {w : World} {B : Nat} {x0 x1 x2 x3 x4 x5 u : Value} {T : TypeId} (h : w.heap[B]? = some (.cells #[x0, x1, x2, x3, x4, x5] T (0, 0))) : (w.setCell ⟨B, 4, none⟩ u).heap[B]? = some (.cells #[x0, x1, x2, x3, u, x5] T (0, 0)) := heap_setCell_same w B 4 _ T u h
theorem box6_set5 {w : World} {B : Nat} {x0 x1 x2 x3 x4 x5 u : Value} {T : TypeId} (h : w.heap[B]? = some (.cells #[x0, x1, x2, x3, x4, x5] T (0, 0))) : (w.setCell ⟨B, 5, none⟩ u).heap[B]? = some (.cells #[x0, x1, x2, x3, x4, u] T (0, 0)) := heap_setCell_same w B 5 _ T u h
/-- The cost stored. -/
theorem FOs.cost {t : Int} (h : FOs w0 B nd A n c l gn P1 N kk Ap cp Ag cg vF k vs s w') : FOs w0 B nd A n c l gn P1 N kk Ap cp Ag cg vF k vs t (w'.setCell ⟨B, 5, none⟩ (.int .i64 t)) :=
  ⟨h.bel.trans But.set, h.lt0, box6_set5 h.box, own_box h.own h.box (by decide), fun i v hv => own_box (h.far i v hv) h.box (by decide)⟩
/-- One row more, and the box stored. -/
theorem FOs.put {w5 w6 : World} {v5 v6 : Value} {o : Obj} (h : FOs w0 B nd A n c l gn P1 N kk Ap cp Ag cg vF k vs s w5) (hk : vs.length = k) (hv : w5.ownsRow 0 3 1 v5 N (icells (fromS nd l gn (P1.getD k 0))))
    (h6 : w6.ownsRow w0.heap.size 40 1 v6 (k + 1) (vs ++ [v5])) (hg : (w5.alloc o).grownBy w6 vF.ownBlock) : FOs w0 B nd A n c l gn P1 N kk Ap cp Ag cg v6 (k + 1) (vs ++ [v5]) s (w6.setCell ⟨B, 4, none⟩ v6) := by
  have hb6 := box_app h.box h.lt0 h.own hg
  have h5a := h.next (w'' := w5.alloc o) ((Below.refl _ _).alloc (Nat.le_refl _) _)
  have ha : ∀ {b e s m : Nat} {v : Value} {xs : List Value}, w5.ownsRow b e s v m xs → e ≠ 40 → w6.ownsRow b e s v m xs := by
    intro b e s m v xs ho he
    have ho1 := ho.alloc (w := w5) o
    have ho2 := h.own.alloc (w := w5) o
    exact ho1.kept hg ((own_apart ho1 ho2 he).imp id id)
  have h7 : FarR w6 N nd l gn P1 (vs ++ [v5]) := FarR.app (fun i v hv => ha (h.far i v hv) (by decide)) hk (ha hv (by decide))
  refine ⟨?_, h.lt0, box6_set4 hb6, own_box h6 hb6 (by decide), fun i v hv => own_box (h7 i v hv) hb6 (by decide)⟩
  refine (show But B w0 w6 from ⟨hg.os.trans h5a.bel.os, hg.tape.trans h5a.bel.tape, hg.output.trans h5a.bel.output, Nat.le_trans h5a.bel.size hg.size, fun g hg1 hne => (hg.block g (Nat.lt_of_lt_of_le hg1 h5a.bel.size) (fun e => ?_)).trans (h5a.bel.block g hg1 hne)⟩).trans But.set
  have := (h.own.lt g e.symm).1
  omega
end
theorem right_bnd {nd : Int} {l : List Lnk} {x : Wnt} (h : rightS nd l x = 0) : 0 ≤ x.bnd := by
  obtain ⟨hck, -, -⟩ := right_ok h
  unfold rightS at h
  rw [if_neg (by omega)] at h
  split at h
  · cases h
  · split at h
    · cases h
    · split at h
      · cases h
      · split at h
        · cases h
        · omega
end Go.Proofs.Ytkemcgbedapkcaa
