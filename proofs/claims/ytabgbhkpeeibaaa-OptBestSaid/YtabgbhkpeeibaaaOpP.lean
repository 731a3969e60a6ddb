/- A walk of Step, whichever edges are picked, plainly: it can go on, its cost, how many edges it has. -/
import Derived.Test.YtabgbhkpeeibaaaOvQ
namespace Go.Proofs.Ytabgbhkpeeibaaa
open Go.RowKit
set_option maxHeartbeats 6400000
set_option maxRecDepth 100000
theorem count_le {p q : Nat → Bool} : ∀ L : List Nat, (∀ x ∈ L, p x = true → q x = true) → L.countP p ≤ L.countP q
  | [], _ => Nat.le_refl _
  | a :: L, h => by
    rw [List.countP_cons, List.countP_cons]
    have h1 := count_le L (fun x hx => h x (List.mem_cons_of_mem _ hx))
    have h2 := h a (List.mem_cons_self)
    cases hp : p a with
    | false => simp; omega
    | true => rw [h2 hp]; simp; omega
theorem count_lt {p q : Nat → Bool} {b : Nat} : ∀ L : List Nat, (∀ x ∈ L, p x = true → q x = true) → b ∈ L → p b = false → q b = true → L.countP p < L.countP q
  | [], _, hb, _, _ => by cases hb
  | a :: L, h, hb, hp, hq => by
    rw [List.countP_cons, List.countP_cons]
    have hL : ∀ x ∈ L, p x = true → q x = true := fun x hx => h x (List.mem_cons_of_mem _ hx)
    rcases List.mem_cons.1 hb with rfl | hb
    · have := count_le L hL
      rw [hp, hq]; simp; omega
    · have := count_lt L hL hb hp hq
      have h2 := h a (List.mem_cons_self)
      cases hpa : p a with
      | false => simp; omega
      | true => rw [h2 hpa]; simp; omega
/-- How many nodes are nearer to c than v. -/
noncomputable def nearN (nd : Int) (l : List Lnk) (gn : List Bool) (c v : Int) : Nat :=
  (List.range nd.toNat).countP fun u : Nat => decide (0 ≤ dAt (fromS nd l gn c) (u : Int)) && decide (dAt (fromS nd l gn c) (u : Int) < dAt (fromS nd l gn c) v)
theorem nearN_lt {nd : Int} {l : List Lnk} {gn : List Bool} {c v b : Int} (hb : 0 ≤ b ∧ b < nd) (h0 : 0 ≤ dAt (fromS nd l gn c) b) (h : dAt (fromS nd l gn c) b < dAt (fromS nd l gn c) v) : nearN nd l gn c b < nearN nd l gn c v := by
  obtain ⟨B, rfl⟩ := Int.eq_ofNat_of_zero_le hb.1
  unfold nearN
  refine count_lt (b := B) _ (fun u _ hu => ?_) (List.mem_range.2 (by omega)) ?_ ?_
  · simp only [Bool.and_eq_true, decide_eq_true_eq] at hu ⊢; omega
  · simp
  · simp only [Bool.and_eq_true, decide_eq_true_eq]; exact ⟨h0, h⟩
theorem nearN_top {nd : Int} {l : List Lnk} {gn : List Bool} {c v : Int} (hv : 0 ≤ v ∧ v < nd) : nearN nd l gn c v < nd.toNat := by
  obtain ⟨B, rfl⟩ := Int.eq_ofNat_of_zero_le hv.1
  have h1 : (List.range nd.toNat).countP (fun _ => true) = nd.toNat := by simp
  unfold nearN
  conv => rhs; rw [← h1]
  exact count_lt (b := B) _ (fun _ _ _ => rfl) (List.mem_range.2 (by omega)) (by simp) rfl
/-- How many edges may come yet. -/
noncomputable def phiN (nd : Int) (l : List Lnk) (gn : List Bool) (P : List Int) (v : Int) (q : Nat) : Nat :=
  if q < P.length then nearN nd l gn (P.getD q 0) v + 10 * (P.length - q - 1) else 0
structure BInv (nd : Int) (l : List Lnk) (x : Wnt) (gn : List Bool) (cost : Int) (v : Int) (q : Nat) (sm : Int) (es : List Int) : Prop where
  rng : 0 ≤ v ∧ v < nd
  qle : q ≤ (x.via ++ [x.too]).length
  run : runN v ((x.via ++ [x.too]).drop q) = 0
  last : q = (x.via ++ [x.too]).length → v = x.too
  legs : ∃ D, legsS nd l gn v ((x.via ++ [x.too]).drop q) = some D ∧ sm + D = cost
  walk : walkO nd l x gn (some (startS x)) es = some (v, (q : Int))
  goes : ∃ s, goW l gn (x.via ++ [x.too]) es x.frm (runN x.frm (x.via ++ [x.too])) = some (v, q, s)
  sml : 0 ≤ sm ∧ sm ≤ es.length * 16777216
  low : es.length + phiN nd l gn (x.via ++ [x.too]) v q ≤ 49
theorem run_last {v : Int} : ∀ {L : List Int} {t : Int}, runN v (L ++ [t]) = (L ++ [t]).length → v = t
  | [], t, h => by
    by_cases e : t = v
    · exact e.symm
    · rw [List.nil_append, runN, if_neg e] at h; simp at h
  | a :: L, t, h => by
    rw [List.cons_append, runN] at h
    split at h
    · exact run_last (L := L) (by simpa using h)
    · simp at h
theorem run_last_drop {v t : Int} {L : List Int} {q : Nat} (hq : q ≤ L.length) (h : q + runN v ((L ++ [t]).drop q) = (L ++ [t]).length) : v = t := by
  rw [List.drop_append_of_le_length hq] at h
  refine run_last (L := L.drop q) ?_
  rw [List.length_append, List.length_drop, List.length_singleton]
  rw [List.length_append, List.length_singleton] at h
  omega
theorem walkO_more {nd : Int} {l : List Lnk} {x : Wnt} {gn : List Bool} {s : Option (Int × Int)} {es : List Int} {e v k : Int} (h : walkO nd l x gn s es = some (v, k)) : walkO nd l x gn s (es ++ [e]) = stepO nd l x gn v k e := by
  unfold walkO at h ⊢
  rw [List.foldl_append, h]
  rfl
theorem goW_more {l : List Lnk} {gn : List Bool} {P : List Int} {e : Int} {a b : Int} (hE : endsS l e = (a, b, true)) (hu : isDn gn (e.toNat / 2) = false) : ∀ (es : List Int) (v : Int) (n : Nat) (q : Nat) (s : Int), goW l gn P es v n = some (a, q, s) → ∃ s', goW l gn P (es ++ [e]) v n = some (b, q + runN b (P.drop q), s')
  | [], v, n, q, s, h => by
    simp only [goW, Option.some.injEq, Prod.mk.injEq] at h
    obtain ⟨rfl, rfl, rfl⟩ := h
    refine ⟨met l e.toNat + 0, ?_⟩
    rw [List.nil_append, goW, hE, if_pos ⟨rfl, rfl, hu⟩]
    rfl
  | f :: es, v, n, q, s, h => by
    rw [goW] at h
    split at h
    · rename_i hh
      obtain ⟨r, hr, hr2⟩ := Option.map_eq_some_iff.1 h
      obtain ⟨r1, r2, r3⟩ := r
      simp only [Prod.mk.injEq] at hr2
      obtain ⟨rfl, rfl, rfl⟩ := hr2
      obtain ⟨s', hs'⟩ := goW_more hE hu es _ _ _ _ hr
      refine ⟨met l f.toNat + s', ?_⟩
      rw [List.cons_append, goW, if_pos hh, hs']
      rfl
    · cases h
theorem phi_start {nd : Int} {l : List Lnk} {gn : List Bool} {P : List Int} {v : Int} {q : Nat} (hv : 0 ≤ v ∧ v < nd) (hn : nd ≤ 10) (hP : P.length ≤ 5) : phiN nd l gn P v q ≤ 49 := by
  unfold phiN
  split
  · have := nearN_top (l := l) (gn := gn) (c := P.getD q 0) hv
    omega
  · omega
theorem binv_start {nd : Int} {l : List Lnk} {x : Wnt} {dn : List Bool} (hr : rightS nd l x = 0) (hn : nd ≤ 10) (h : (costS nd l x dn).2 = 0) : BInv nd l x (prunedS nd l x dn) (costS nd l x dn).1 x.frm (runN x.frm (x.via ++ [x.too])) 0 [] := by
  obtain ⟨hck, hpt, hvl⟩ := right_ok hr
  have hP : ptsS x = x.frm :: (x.via ++ [x.too]) := rfl
  have hfr : 0 ≤ x.frm ∧ x.frm < nd := hpt _ (by rw [hP]; simp)
  have hst : startS x = (x.frm, ((runN x.frm (x.via ++ [x.too]) : Nat) : Int)) := by
    unfold startS comeS
    rw [if_pos (by omega), hP]
    simp
  have hc := costS_L (dn := dn) hr
  refine ⟨hfr, runN_le _ _, run_drop _, fun h => run_last h, ?_, ?_, ⟨0, rfl⟩, ⟨Int.le_refl _, by simp⟩, ?_⟩
  · rw [legs_run hck hfr]
    cases hl : legsS nd l (prunedS nd l x dn) x.frm (x.via ++ [x.too]) with
    | none => rw [hl] at hc; rw [hc] at h; cases h
    | some D =>
      rw [hl, show costL x.bnd (some D) = if 0 < x.bnd ∧ x.bnd < D then (0, 8) else (D, 0) from rfl] at hc
      refine ⟨D, rfl, ?_⟩
      by_cases hb : 0 < x.bnd ∧ x.bnd < D
      · rw [if_pos hb] at hc; rw [hc] at h; cases h
      · rw [if_neg hb] at hc; rw [hc]; simp
  · rw [hst]; rfl
  · have := phi_start (l := l) (gn := prunedS nd l x dn) (P := x.via ++ [x.too]) (q := runN x.frm (x.via ++ [x.too])) hfr hn (by simp; omega)
    simp only [List.length_nil]; omega
/-- From a state that is not the end an edge goes on. -/
theorem binv_on {nd : Int} {l : List Lnk} {x : Wnt} {gn : List Bool} {cost v : Int} {q : Nat} {sm : Int} {es : List Int} (hr : rightS nd l x = 0) (h : BInv nd l x gn cost v q sm es) (hq : q < (x.via ++ [x.too]).length) : ∃ K : Nat, K < 2 * l.length ∧ (stepO nd l x gn v q K).isSome = true := by
  obtain ⟨hck, hpt, -⟩ := right_ok hr
  obtain ⟨c, hcc⟩ : ∃ c, (x.via ++ [x.too])[q]? = some c := ⟨_, List.getElem?_eq_getElem hq⟩
  have hcp : 0 ≤ c ∧ c < nd := hpt c (List.mem_cons_of_mem _ (List.mem_of_getElem? hcc))
  have hgd : (x.via ++ [x.too]).getD q 0 = c := by rw [List.getD_eq_getElem?_getD, hcc]; rfl
  have hdr : (x.via ++ [x.too]).drop q = c :: (x.via ++ [x.too]).drop (q + 1) := by
    rw [List.drop_eq_getElem_cons hq]
    congr 1
    exact (List.getElem?_eq_some_iff.1 hcc).2
  have hne : c ≠ v := by
    intro hca
    have := h.run
    rw [hdr, runN, if_pos hca] at this
    omega
  obtain ⟨D, hD, hD2⟩ := h.legs
  rw [hdr] at hD
  have h0 : 0 ≤ dAt (fromS nd l gn v) c := by
    rcases Int.lt_or_le (dAt (fromS nd l gn v) c) 0 with h1 | h1
    · rw [legsS_none h1] at hD; cases hD
    · exact h1
  rw [fromS_sym hck h.rng hcp] at h0
  have hp : 0 < dAt (fromS nd l gn c) v := by
    rcases Int.lt_or_eq_of_le h0 with h1 | h1
    · exact h1
    · exact absurd (dist_zero hck hcp h.rng h1.symm) hne
  obtain ⟨N, hN⟩ := Int.eq_ofNat_of_zero_le (show 0 ≤ nd by omega)
  obtain ⟨C, rfl⟩ := Int.eq_ofNat_of_zero_le hcp.1
  obtain ⟨V, rfl⟩ := Int.eq_ofNat_of_zero_le h.rng.1
  have hvr := h.rng
  subst hN
  have hg := gok_of hck
  have hok := dist_ok (dn := gn) hg (show C < N by omega)
  have hF : fromS (N : Int) l gn (C : Int) = distS N l gn C := by
    unfold fromS
    rw [if_pos ⟨hck, hcp.1, hcp.2⟩, Int.toNat_natCast, Int.toNat_natCast]
  rw [hF] at hp
  obtain ⟨k, hk, hkd, ht, hf, he⟩ := hok.via V (by omega) (fun e => hne (by rw [e])) (by omega)
  obtain ⟨k', hk', hkk, hf', ht', hm'⟩ := edge_back hg hk
  obtain ⟨a, b, xx, hx, hE, hfa, htb, hm, haN, hbN, -⟩ := edge_facts hg hk'
  have hav : a = V := by
    have : (a : Int) = (V : Int) := by rw [← hfa, hf', ht]
    exact_mod_cast this
  subst hav
  refine ⟨k', hk', ?_⟩
  have hb2 : (b : Int) = frm l k := by rw [← htb, ht']
  have hm2 := (mem_next (gn := gn) hck hk' hE hcp hvr).2 ⟨by rw [hF]; exact hp, by rw [hkk]; exact hkd, by rw [hF, hb2]; exact hf, by rw [hF, hb2, hm']; omega⟩
  rw [step_is hE hq (by rw [hgd]; exact hm2)]
  rfl
/-- Behind a step. -/
theorem binv_step {nd : Int} {l : List Lnk} {x : Wnt} {gn : List Bool} {cost v : Int} {q : Nat} {sm : Int} {es : List Int} (hr : rightS nd l x = 0) (hn : nd ≤ 10) (h : BInv nd l x gn cost v q sm es) {K : Nat} {p : Int × Int} (hs : stepO nd l x gn v q K = some p) :
    ∃ (q' : Nat), p.2 = (q' : Int) ∧ K < 2 * l.length ∧ isDn gn (K / 2) = false ∧ BInv nd l x gn cost p.1 q' (sm + met l K) (es ++ [(K : Int)]) := by
  obtain ⟨hck, hpt, hvl⟩ := right_ok hr
  have hP : ptsS x = x.frm :: (x.via ++ [x.too]) := rfl
  have hPl : (x.via ++ [x.too]).length ≤ 5 := by simp; omega
  obtain ⟨K', a, b, q', hK, hlt, he1, he0, hE, hva, haN, hbN, rfl, hq', hql, hmem⟩ := stepO_form hr hs
  obtain rfl : q = K' := by omega
  subst hva
  have hKl : K < 2 * l.length := by omega
  rw [hP, List.length_cons] at hlt hql
  rw [hP, List.drop_succ_cons] at hq'
  rw [hP, List.getD_cons_succ] at hmem
  have hq : q < (x.via ++ [x.too]).length := by omega
  obtain ⟨c, hcc⟩ : ∃ c, (x.via ++ [x.too])[q]? = some c := ⟨_, List.getElem?_eq_getElem hq⟩
  have hcp : 0 ≤ c ∧ c < nd := hpt c (List.mem_cons_of_mem _ (List.mem_of_getElem? hcc))
  have hgd : (x.via ++ [x.too]).getD q 0 = c := by rw [List.getD_eq_getElem?_getD, hcc]; rfl
  rw [hgd] at hmem
  have hbr : 0 ≤ (b : Int) ∧ (b : Int) < nd := ⟨by omega, hbN⟩
  obtain ⟨m1, m2, m3, m4⟩ := (mem_next hck hKl hE hcp h.rng).1 hmem
  have hmp := met_pos hck hKl
  have hmt : met l K ≤ 16777216 := by
    obtain ⟨-, -, -, -⟩ := checkS_ok hck
    obtain ⟨N, hN⟩ := Int.eq_ofNat_of_zero_le (show 0 ≤ nd by omega)
    subst hN
    obtain ⟨a', b', xx, -, -, -, -, hm, -, -, -, -, hm1⟩ := edge_facts (gok_of hck) hKl
    omega
  have hdr : (x.via ++ [x.too]).drop q = c :: (x.via ++ [x.too]).drop (q + 1) := by
    rw [List.drop_eq_getElem_cons hq]
    congr 1
    exact (List.getElem?_eq_some_iff.1 hcc).2
  have hrun : runN (b : Int) ((x.via ++ [x.too]).drop q') = 0 := by
    rw [hq', ← List.drop_drop]; exact run_drop _
  refine ⟨q', rfl, hKl, m2, hbr, by omega, hrun, fun hl => ?_, ?_, ?_, ?_, ⟨by have := h.sml; omega, by have := h.sml; rw [List.length_append, List.length_singleton]; push_cast; omega⟩, ?_⟩
  · refine run_last_drop (L := x.via) (q := q) (by rw [List.length_append, List.length_singleton] at hq; omega) ?_
    rw [← hl, hq']
  · obtain ⟨D, hD, hD2⟩ := h.legs
    rw [hdr] at hD
    have hs1 := fromS_sym (gn := gn) hck hbr hcp
    have hs2 := fromS_sym (gn := gn) hck h.rng hcp
    rw [legsS_some (by rw [hs2]; omega)] at hD
    obtain ⟨D2, hD3, hD4⟩ := Option.map_eq_some_iff.1 hD
    refine ⟨dAt (fromS nd l gn b) c + D2, ?_, ?_⟩
    · rw [hq', ← List.drop_drop, legs_run hck hbr, hdr, legsS_some (by rw [hs1]; omega), hD3]
      rfl
    · rw [hs1]; rw [hs2] at hD4; omega
  · rw [walkO_more h.walk, hs]
  · obtain ⟨s, hg⟩ := h.goes
    obtain ⟨s', hg'⟩ := goW_more (e := (K : Int)) hE (by rw [Int.toNat_natCast]; exact m2) es _ _ _ _ hg
    exact ⟨s', by rw [hg', hq']⟩
  · have hlow := h.low
    rw [List.length_append, List.length_singleton]
    have hph : phiN nd l gn (x.via ++ [x.too]) (a : Int) q = nearN nd l gn c (a : Int) + 10 * ((x.via ++ [x.too]).length - q - 1) := by
      unfold phiN; rw [if_pos hq, hgd]
    rw [hph] at hlow
    have hnl := nearN_lt (l := l) (gn := gn) (c := c) (v := (a : Int)) hbr m3 (by omega)
    by_cases hqq : q' = q
    · subst hqq
      have hph2 : phiN nd l gn (x.via ++ [x.too]) (b : Int) q' = nearN nd l gn c (b : Int) + 10 * ((x.via ++ [x.too]).length - q' - 1) := by
        unfold phiN; rw [if_pos hq, hgd]
      rw [hph2]; omega
    · have hgt : q < q' := by omega
      show es.length + 1 + phiN nd l gn (x.via ++ [x.too]) (b : Int) q' ≤ 49
      unfold phiN
      split
      · have := nearN_top (l := l) (gn := gn) (c := (x.via ++ [x.too]).getD q' 0) hbr
        omega
      · omega
theorem binv_goal {nd : Int} {l : List Lnk} {x : Wnt} {gn : List Bool} {cost v : Int} {q : Nat} {sm : Int} {es : List Int} (h : BInv nd l x gn cost v q sm es) : (v, (q : Int)) = goalS x ↔ q = (x.via ++ [x.too]).length := by
  have hl : (x.via ++ [x.too]).length = x.via.length + 1 := by simp
  unfold goalS
  constructor
  · intro e
    simp only [Prod.mk.injEq] at e
    omega
  · intro e
    rw [h.last e]
    simp only [Prod.mk.injEq, true_and]
    omega
/-- At the end. -/
theorem binv_end {nd : Int} {l : List Lnk} {x : Wnt} {dn : List Bool} {v : Int} {q : Nat} {sm : Int} {es : List Int} (hc : (costS nd l x dn).2 = 0) (h : BInv nd l x (prunedS nd l x dn) (costS nd l x dn).1 v q sm es) (hq : q = (x.via ++ [x.too]).length) : sm = (costS nd l x dn).1 ∧ hasS nd l x dn es = true ∧ v = x.too ∧ ∃ s, goW l (prunedS nd l x dn) (x.via ++ [x.too]) es x.frm (runN x.frm (x.via ++ [x.too])) = some (x.too, (x.via ++ [x.too]).length, s) := by
  have hv := h.last hq
  refine ⟨?_, ?_, hv, ?_⟩
  · obtain ⟨D, hD, hD2⟩ := h.legs
    rw [hq, List.drop_length] at hD
    simp only [legsS, Option.some.injEq] at hD
    omega
  · unfold hasS
    rw [hc, h.walk, (binv_goal h).2 hq]
    simp
  · obtain ⟨s, hs⟩ := h.goes
    exact ⟨s, by rw [hs, hv, hq]⟩
end Go.Proofs.Ytabgbhkpeeibaaa
