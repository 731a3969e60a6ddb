/- Merged: CsG CsH. -/
import Derived.Test.YtkemcgbedapkcaaH01
import Derived.Test.YtkemcgbedapkcaaG10
import Derived.Test.YtkemcgbedapkcaaG20
/- RepairAvoids, plainly. -/
namespace Go.Proofs.Ytkemcgbedapkcaa
open Go.RowKit
set_option maxHeartbeats 6400000
set_option maxRecDepth 100000
theorem count_le {p q : Nat → Bool} : ∀ L : List Nat, (∀ x ∈ L, p x = true → q x = true) → L.countP p ≤ L.countP q
  | [], _ => Nat.le_refl _
  | a :: L, h => by
    rw [List.countP_cons, List.countP_cons]
    have h1 := count_le L (fun x hx => h x (List.mem_cons_of_mem _ hx))
    have h2 := h a (List.mem_cons_self)
    cases hp : p a with
    | false => simp; omega
    | true => rw [h2 hp]; simp; omega
theorem count_lt {p q : Nat → Bool} {b : Nat} : ∀ L : List Nat, (∀ x ∈ L, p x = true → q x = true) → b ∈ L → p b = false → q b = true → L.countP p < L.countP q
  | [], _, hb, _, _ => by cases hb
  | a :: L, h, hb, hp, hq => by
    rw [List.countP_cons, List.countP_cons]
    have hL : ∀ x ∈ L, p x = true → q x = true := fun x hx => h x (List.mem_cons_of_mem _ hx)
    rcases List.mem_cons.1 hb with rfl | hb
    · have := count_le L hL
      rw [hp, hq]; simp; omega
    · have := count_lt L hL hb hp hq
      have h2 := h a (List.mem_cons_self)
      cases hpa : p a with
      | false => simp; omega
      | true => rw [h2 hpa]; simp; omega
theorem meetO_all {L : List (Option (Int × Int))} {q : Int × Int} (h : meetO L = some q) : ∀ o ∈ L, o = some q := by
  cases L with
  | nil => cases h
  | cons a r =>
    have h' : (if r.all (fun q => decide (q = a)) then a else none) = some q := h
    split at h'
    · rename_i hr
      intro o ho
      rcases List.mem_cons.1 ho with rfl | ho
      · exact h'
      · rw [List.all_eq_true] at hr
        have := hr o ho
        rw [decide_eq_true_iff] at this
        rw [this, h']
    · cases h'
section
variable {N : Nat} {l : List Lnk} {x : Wnt} {gn : List Bool}
/-- One step of any way by the tables towards b: by an edge of the best walks, and still to the same state. -/
theorem reach_step (hg : GOk N l) {b : Int} {p q : Int × Int} {e : Int} (hp : p.1 ≠ b) (h : reachO N l x gn b p = some q) (he : e ∈ nextT N l p.1 b) : ∃ p', stepO N l x gn p.1 p.2 e = some p' ∧ reachO N l x gn b p' = some q := by
  rw [reachO_eq hg, if_neg hp] at h
  have h1 := meetO_all h _ (List.mem_map.2 ⟨e, he, rfl⟩)
  cases hs : stepO N l x gn p.1 p.2 e with
  | none => rw [hs] at h1; cases h1
  | some p' => rw [hs] at h1; exact ⟨p', rfl, h1⟩
theorem reach_next (hg : GOk N l) {b : Int} {p q : Int × Int} (hp : p.1 ≠ b) (h : reachO N l x gn b p = some q) : 0 < (nextT N l p.1 b).length := by
  rw [reachO_eq hg, if_neg hp] at h
  rcases Nat.eq_zero_or_pos (nextT N l p.1 b).length with h0 | h0
  · rw [List.length_eq_zero_iff.1 h0] at h; cases h
  · exact h0
theorem reach_end (hg : GOk N l) {b : Int} {p q : Int × Int} (hp : p.1 = b) (h : reachO N l x gn b p = some q) : q = p := by
  rw [reachO_eq hg, if_pos hp] at h
  cases h; rfl
/-- How many nodes are nearer by the tables. -/
noncomputable def nearT (N : Nat) (l : List Lnk) (v b : Int) : Nat := (List.range N).countP fun (u : Nat) => decide ((distT N l (u : Int) b).toNat < (distT N l v b).toNat)
theorem nearT_lt {v u b : Int} (hu : 0 ≤ u ∧ u < N) (h : (distT N l u b).toNat < (distT N l v b).toNat) : nearT N l u b < nearT N l v b := by
  unfold nearT
  obtain ⟨k, rfl⟩ := Int.eq_ofNat_of_zero_le hu.1
  refine count_lt (b := k) _ (fun z _ hz => ?_) (List.mem_range.2 (by omega)) ?_ ?_
  · simp only [decide_eq_true_eq] at hz ⊢; omega
  · simp
  · simpa using h
theorem nearT_le {v b : Int} : nearT N l v b ≤ N := by
  unfold nearT
  have := List.countP_le_length (p := fun u => decide ((distT N l ((u : Nat) : Int) b).toNat < (distT N l v b).toNat)) (l := List.range N)
  rw [List.length_range] at this
  exact this
theorem near_step (hg : GOk N l) (hr : rightS N l x = 0) {b : Int} {p q : Int × Int} {e : Int} (he : e ∈ nextT N l p.1 b) (hs : stepO N l x gn p.1 p.2 e = some q) : nearT N l q.1 b < nearT N l p.1 b := by
  obtain ⟨h1, h2, -, -⟩ := stepO_in hr hs
  exact nearT_lt ⟨h1, h2⟩ (next_near hg he hs)
end
/-- The want around an edge: without a point between. -/
theorem ptsA (l : List Lnk) (e t : Int) : ptsS (wantA l e t) = [(endsS l e).1, t] := rfl
section
variable {N : Nat} {l : List Lnk} {e t : Int} {gn : List Bool}
/-- A step around: by an edge that is not gone, nearer by its metric. -/
theorem stepA {v k E : Int} {q : Int × Int} (hr : rightS N l (wantA l e t) = 0) (h : stepO N l (wantA l e t) gn v k E = some q) :
    ∃ K : Nat, E = (K : Int) ∧ K < 2 * l.length ∧ endsS l (K : Int) = (v, q.1, true) ∧ isDn gn (K / 2) = false ∧ 0 ≤ dAt (fromS N l gn t) q.1 ∧ dAt (fromS N l gn t) v = dAt (fromS N l gn t) q.1 + met l K := by
  obtain ⟨hck, hpv, -⟩ := right_ok hr
  obtain ⟨k', a, b, j, rfl, hk, hE2, hE0, hE, rfl, ha, hb, rfl, hj, hj2, hm⟩ := stepO_form hr h
  rw [ptsA] at hk hm
  obtain rfl : k' = 0 := by simp at hk; omega
  obtain ⟨K, rfl⟩ := Int.eq_ofNat_of_zero_le hE0
  have ht := hpv t (by rw [ptsA]; simp)
  have hm' : (K : Int) ∈ nextS N l gn (fromS N l gn t) (a : Int) := hm
  obtain ⟨h1, h2, h3, h4⟩ := (mem_next (gn := gn) hck (by omega) hE ht ⟨by omega, ha⟩).1 hm'
  exact ⟨K, rfl, by omega, hE, h2, h3, show dAt (fromS N l gn t) (a : Int) = dAt (fromS N l gn t) (b : Int) + met l K by omega⟩
/-- Where nothing but one link is gone. -/
theorem prunedA (hr : rightS N l (wantA l e t) = 0) (dn : List Bool) (hd : dn.length = l.length) : prunedS N l (wantA l e t) dn = dn := by
  unfold prunedS
  rw [if_pos hr]
  apply List.ext_getElem?
  intro i
  rw [List.getElem?_map]
  rcases Nat.lt_or_ge i l.length with hi | hi
  · rw [List.getElem?_range hi, List.getElem?_eq_getElem (by omega)]
    simp only [Option.map_some, Option.some.injEq]
    unfold cutB isDn wantA
    simp [List.getD_eq_getElem?_getD, List.getElem?_eq_getElem (show i < dn.length by omega)]
  · rw [List.getElem?_eq_none (by simpa using hi), List.getElem?_eq_none (by omega)]
    rfl
end
end Go.Proofs.Ytkemcgbedapkcaa

/- RepairAvoids, plainly: what stays while the list is walked. -/
namespace Go.Proofs.Ytkemcgbedapkcaa
open Go.RowKit
set_option maxHeartbeats 6400000
set_option maxRecDepth 100000
section
variable (N : Nat) (l : List Lnk) (x : Wnt) (gn : List Bool)
/-- Where a row of segments leads. -/
noncomputable def runS : List Sg → Int × Int → Option (Int × Int)
  | [], p => some p
  | s :: r, p => (segO N l x gn p s.edge s.too).bind (runS r)
variable {N l x gn}
theorem path_run : ∀ (n : Nat) (p : Int × Int), canS N l x gn n p = true → runS N l x gn (pathS N l x gn n p) p = some (goalS x)
  | 0, p, h => by
    have : p = goalS x := by simpa [canS] using h
    rw [← this]; rfl
  | n + 1, p, h => by
    obtain ⟨s, q, hs, -, hq, hc⟩ := canS_find h
    unfold pathS
    rw [hs]
    simp only [runS, hq, Option.getD_some, Option.bind_some]
    exact path_run n q hc
end
section
variable (N : Nat) (l : List Lnk) (e t : Int) (gn : List Bool) (L : List Sg) (D : Int)
/-- Ahead of a segment. -/
structure AInv (i : Nat) (v sm : Int) (n : Nat) : Prop where
  ex : ∃ p : Int × Int, p.1 = v ∧ InS N (wantA l e t) p ∧ runS N l (wantA l e t) gn (L.drop i) p = some (goalS (wantA l e t))
  sum : sm + dAt (fromS N l gn t) v = D
  low : 0 ≤ dAt (fromS N l gn t) v
  sml : 0 ≤ sm
  few : n ≤ 10 * i
/-- On the ways bt a node. -/
structure NInv (i : Nat) (bt : Int) (v sm : Int) (n : Nat) : Prop where
  ex : ∃ p q : Int × Int, p.1 = v ∧ InS N (wantA l e t) p ∧ reachO N l (wantA l e t) gn bt p = some q ∧ runS N l (wantA l e t) gn (L.drop (i + 1)) q = some (goalS (wantA l e t))
  sum : sm + dAt (fromS N l gn t) v = D
  low : 0 ≤ dAt (fromS N l gn t) v
  sml : 0 ≤ sm
  few : n + nearT N l v bt ≤ 10 * i + 10
variable {N l e t gn L D}
theorem ainv_node (hN : N ≤ 10) {i : Nat} {v sm : Int} {n : Nat} {s : Sg} (h : AInv N l e t gn L D i v sm n) (hs : L[i]? = some s) (he : s.edge = false) : v ≠ s.too ∧ NInv N l e t gn L D i s.too v sm n := by
  obtain ⟨p, hp, hin, hr⟩ := h.ex
  obtain ⟨hi, hsi⟩ := List.getElem?_eq_some_iff.1 hs
  rw [List.drop_eq_getElem_cons hi, hsi] at hr
  simp only [runS] at hr
  obtain ⟨q, hq, hr⟩ := Option.bind_eq_some_iff.1 hr
  unfold segO at hq
  rw [if_neg (by rw [he]; decide)] at hq
  split at hq
  · rename_i hc
    refine ⟨by rw [← hp]; exact hc.2.2.2.2.1, ⟨p, q, hp, hin, hq, hr⟩, h.sum, h.low, h.sml, ?_⟩
    have := h.few
    have := nearT_le (N := N) (l := l) (v := v) (b := s.too)
    omega
  · cases hq
theorem ninv_end (hg : GOk N l) {i : Nat} {bt v sm : Int} {n : Nat} (h : NInv N l e t gn L D i bt v sm n) (hv : v = bt) : AInv N l e t gn L D (i + 1) v sm n := by
  obtain ⟨p, q, hp, hin, hq, hr⟩ := h.ex
  have := reach_end hg (hp.trans hv) hq
  subst this
  exact ⟨⟨q, hp, hin, hr⟩, h.sum, h.low, h.sml, by have := h.few; omega⟩
theorem ninv_next (hg : GOk N l) {i : Nat} {bt v sm : Int} {n : Nat} (h : NInv N l e t gn L D i bt v sm n) (hv : v ≠ bt) : 0 < (nextT N l v bt).length := by
  obtain ⟨p, q, hp, hin, hq, hr⟩ := h.ex
  have := reach_next hg (by rw [hp]; exact hv) hq
  rwa [hp] at this
/-- What an edge is that a step takes. -/
structure EdgeOk (l : List Lnk) (gn : List Bool) (v b : Int) (K : Nat) : Prop where
  lt : K < 2 * l.length
  ends : endsS l (K : Int) = (v, b, true)
  up : isDn gn (K / 2) = false
theorem ninv_step (hg : GOk N l) (hr0 : rightS N l (wantA l e t) = 0) {i : Nat} {bt v sm k : Int} {n : Nat} (h : NInv N l e t gn L D i bt v sm n) (hv : v ≠ bt) (hk : k ∈ nextT N l v bt) :
    ∃ (K : Nat) (b : Int), k = (K : Int) ∧ EdgeOk l gn v b K ∧ NInv N l e t gn L D i bt b (sm + met l K) (n + 1) ∧ nearT N l b bt < nearT N l v bt := by
  obtain ⟨p, q, hp, hin, hq, hr⟩ := h.ex
  subst hp
  obtain ⟨p', hs, hq'⟩ := reach_step hg hv hq hk
  obtain ⟨K, rfl, hK, hE, hu, hl, hd⟩ := stepA hr0 hs
  have hm := met_pos (right_ok hr0).1 hK
  refine ⟨K, p'.1, rfl, ⟨hK, hE, hu⟩, ⟨⟨p', q, rfl, stepO_in hr0 hs, hq', hr⟩, ?_, hl, ?_, ?_⟩, near_step hg hr0 hk hs⟩
  · have := h.sum; omega
  · have := h.sml; omega
  · have := near_step hg hr0 hk hs
    have := h.few
    omega
theorem ainv_edge (hr0 : rightS N l (wantA l e t) = 0) {i : Nat} {v sm : Int} {n : Nat} {s : Sg} (h : AInv N l e t gn L D i v sm n) (hs : L[i]? = some s) (he : s.edge = true) :
    ∃ (K : Nat) (b : Int), s.too = (K : Int) ∧ EdgeOk l gn v b K ∧ AInv N l e t gn L D (i + 1) b (sm + met l K) (n + 1) := by
  obtain ⟨p, rfl, hin, hr⟩ := h.ex
  obtain ⟨hi, hsi⟩ := List.getElem?_eq_some_iff.1 hs
  rw [List.drop_eq_getElem_cons hi, hsi] at hr
  simp only [runS] at hr
  obtain ⟨q, hq, hr⟩ := Option.bind_eq_some_iff.1 hr
  unfold segO at hq
  rw [if_pos he] at hq
  obtain ⟨K, hK0, hK, hE, hu, hl, hd⟩ := stepA hr0 hq
  have hm := met_pos (right_ok hr0).1 hK
  refine ⟨K, q.1, hK0, ⟨hK, hE, hu⟩, ⟨q, rfl, stepO_in hr0 hq, hr⟩, ?_, hl, ?_, ?_⟩
  · have := h.sum; omega
  · have := h.sml; omega
  · have := h.few; omega
theorem ainv_end {i : Nat} {v sm : Int} {n : Nat} (hr0 : rightS N l (wantA l e t) = 0) (h : AInv N l e t gn L D i v sm n) (hi : L.length ≤ i) : v = t ∧ sm = D := by
  obtain ⟨p, rfl, hin, hr⟩ := h.ex
  rw [List.drop_eq_nil_of_le hi] at hr
  have hp : p = goalS (wantA l e t) := by simpa [runS] using hr
  have h1 : p.1 = t := by rw [hp]; rfl
  refine ⟨h1, ?_⟩
  have := h.sum
  rw [h1] at this
  have h0 : dAt (fromS N l gn t) t = 0 := by
    obtain ⟨hck, hpv, -⟩ := right_ok hr0
    have ht := hpv t (by rw [ptsA]; simp)
    unfold fromS
    rw [if_pos ⟨hck, ht.1, ht.2⟩]
    obtain ⟨T, rfl⟩ := Int.eq_ofNat_of_zero_le ht.1
    exact (dist_ok (gok_of hck) (by omega)).src
  omega
theorem distA_top {v : Int} (hr0 : rightS N l (wantA l e t) = 0) (hv : 0 ≤ v ∧ v < N) : dAt (fromS N l gn t) v ≤ 654311424 := by
  obtain ⟨hck, hpv, -⟩ := right_ok hr0
  have ht := hpv t (by rw [ptsA]; simp)
  exact ((fromS_row hck ht).2 v hv.1 hv.2).2.2
theorem AInv.rng {i : Nat} {v sm : Int} {n : Nat} (h : AInv N l e t gn L D i v sm n) : 0 ≤ v ∧ v < N := by
  obtain ⟨p, rfl, hin, -⟩ := h.ex
  exact ⟨hin.1, hin.2.1⟩
theorem NInv.rng {i : Nat} {bt v sm : Int} {n : Nat} (h : NInv N l e t gn L D i bt v sm n) : 0 ≤ v ∧ v < N := by
  obtain ⟨p, q, rfl, hin, -⟩ := h.ex
  exact ⟨hin.1, hin.2.1⟩
end
theorem cost_right0 {nd : Int} {l : List Lnk} {x : Wnt} {dn : List Bool} (hc : (costS nd l x dn).2 = 0) : rightS nd l x = 0 := by
  rcases Classical.em (rightS nd l x = 0) with h5 | h5
  · exact h5
  · unfold costS at hc; rw [if_pos h5] at hc; exact absurd hc h5
/-- A way around that there is: what is gone, how far it is, and what stays. -/
theorem avoid_start {N : Nat} {l : List Lnk} {e t : Int} (h0 : (aroundS N l e t 10).2 = 0) :
    (endsS l e).2.2 = true ∧ rightS N l (wantA l e t) = 0 ∧ 0 ≤ t ∧ t < N ∧ 0 ≤ (endsS l e).1 ∧ (endsS l e).1 < N ∧
      AInv N l e t (downA l.length e) (aroundS N l e t 10).1 (dAt (fromS N l (downA l.length e) (endsS l e).1) t) 0 (endsS l e).1 0 0 := by
  unfold aroundS at h0 ⊢
  by_cases hE : (endsS l e).2.2 = true
  · rw [if_pos hE] at h0 ⊢
    unfold compS at h0 ⊢
    by_cases hc : (costS N l (wantA l e t) (downA l.length e)).2 ≠ 0
    · rw [if_pos hc] at h0; exact absurd h0 hc
    · rw [if_neg hc] at h0 ⊢
      have hc0 : (costS N l (wantA l e t) (downA l.length e)).2 = 0 := by omega
      have hr0 := cost_right0 hc0
      have hpr : prunedS N l (wantA l e t) (downA l.length e) = downA l.length e := prunedA hr0 _ (by unfold downA; simp)
      rw [hpr] at h0 ⊢
      cases hl : leastS N l (wantA l e t) (downA l.length e) (cutD 10) (startS (wantA l e t)) with
      | none => rw [hl] at h0; cases h0
      | some n =>
        dsimp only
        obtain ⟨-, hcan, -⟩ := leastS_some hl
        obtain ⟨hck, hpv, -⟩ := right_ok hr0
        have ht := hpv t (by rw [ptsA]; simp)
        have ha := hpv (endsS l e).1 (by rw [ptsA]; simp)
        have hsym := fromS_sym (gn := downA l.length e) hck ha ht
        have hleg : 0 ≤ dAt (fromS N l (downA l.length e) (endsS l e).1) t := by
          unfold costS at hc0
          rw [if_neg (by omega), hpr] at hc0
          rcases Int.lt_or_le (dAt (fromS N l (downA l.length e) (endsS l e).1) t) 0 with h1 | h1
          · rw [show (wantA l e t).frm = (endsS l e).1 from rfl, show (wantA l e t).via ++ [(wantA l e t).too] = [t] from rfl] at hc0
            unfold legsS at hc0
            rw [if_pos h1] at hc0
            cases hc0
          · exact h1
        refine ⟨hE, hr0, ht.1, ht.2, ha.1, ha.2, ⟨startS (wantA l e t), rfl, startS_in hr0, ?_⟩, ?_, ?_, Int.le_refl _, Nat.zero_le _⟩
        · rw [List.drop_zero]; exact path_run n _ hcan
        · omega
        · omega
  · rw [if_neg hE] at h0; cases h0
theorem downA_not {n : Nat} {e : Int} {K : Nat} (h : isDn (downA n e) (K / 2) = false) (he : e.toNat / 2 < n) : K / 2 ≠ e.toNat / 2 := by
  intro hk
  unfold isDn downA at h
  rw [hk, List.getD_eq_getElem?_getD, List.getElem?_set_self (by simpa using he)] at h
  cases h
end Go.Proofs.Ytkemcgbedapkcaa
