/- What the list of steps comes to: how many ways, the fewest, the most, which edges. -/
import Derived.Test.YtcjilpgblbnebaaDkC
namespace Go.Proofs.Ytcjilpgblbnebaa
open Go.RowKit
set_option maxHeartbeats 3200000
set_option maxRecDepth 100000
theorem SR.all_off {K : Type} (R : SR K) {x : K} {nx : Nat → List Nat} {v : Nat} : ∀ (vs : List Nat) (F : Nat → K), (∀ u ∈ vs, v ∉ nx u) → R.all x nx F vs v = F v := by
  intro vs
  induction vs with
  | nil => intro F _; rfl
  | cons u vs ih =>
    intro F h
    show R.all x nx (R.node x nx F u) vs v = F v
    rw [ih _ fun w hw => h w (by simp [hw])]
    exact R.fold_off _ _ (h u (by simp))
def SR.first {K : Type} (R : SR K) (S : Nat) : Nat → K := fun v => if v = S then R.one else R.zero
theorem nx_facts {N : Nat} {l : List Lnk} {dn : List Bool} {S T : Nat} {vs : List Nat} (hok : GOk N l) (hS : S < N) (hT : T < N) (h : SFin N l dn S T vs) {u b : Nat} (hu : u ∈ vs) (hb : b ∈ nxL N l dn (distS N l dn T) u) : b ∈ vs ∧ dAt (distS N l dn T) (b : Int) < dAt (distS N l dn T) (u : Int) := by
  unfold nxL at hb
  obtain ⟨e, he, rfl⟩ := List.mem_map.1 hb
  obtain ⟨k, b, rfl, _, _, _, hto, hon, hlt⟩ := next_us hok hS hT ((h.all u).1 hu) he
  rw [Int.toNat_natCast, hto, Int.toNat_natCast]
  exact ⟨(h.all b).2 hon, hlt⟩
theorem nx_last {N : Nat} {l : List Lnk} {dn : List Bool} {T : Nat} (hok : GOk N l) (hT : T < N) : nxL N l dn (distS N l dn T) T = [] := by
  unfold nxL nextS
  rw [if_neg (fun h => by have := h.2.2.2.2; rw [(dist_ok (dn := dn) hok hT).src] at this; omega)]
  rfl
/-- What comes to T is what is ahead of S. -/
theorem SR.whole {K : Type} (R : SR K) {x : K} {B : Nat → K} {N : Nat} {l : List Lnk} {dn : List Bool} {S T : Nat} {vs : List Nat} (hok : GOk N l) (hS : S < N) (hT : T < N) (h : SFin N l dn S T vs) (h0 : 0 ≤ dAt (distS N l dn T) (S : Int))
    (hB : ∀ v ∈ vs, v ≠ T → B v = R.sum ((nxL N l dn (distS N l dn T) v).map fun b => R.mul x (B b))) (hBT : B T = R.one) : R.all x (nxL N l dn (distS N l dn T)) (R.first S) vs T = B S := by
  have hlt : ∀ v ∈ vs, v ∈ List.range N := fun v hv => List.mem_range.2 ((h.all v).1 hv).1
  have hSv : S ∈ vs := (h.all S).2 (onW_first hok hS hT h0)
  have hpw : vs.Pairwise (fun u v => u ∉ nxL N l dn (distS N l dn T) v) := by
    refine List.Pairwise.imp_of_mem ?_ h.ord
    intro u v hu hv hle hm
    have := (nx_facts hok hS hT h hv hm).2
    omega
  have key := R.all_rest (x := x) (B := B) (nx_last (dn := dn) hok hT) vs (List.range N) (R.first S) List.nodup_range h.nod hlt
    (fun v hv hm => by have := (nx_facts hok hS hT h hv hm).2; omega) hpw (fun v hv b hb => hlt b (nx_facts hok hS hT h hv hb).1) hB
  have hz : ∀ v, v ≠ S → R.first S v = R.zero := fun v hv => by unfold SR.first; rw [if_neg hv]
  rw [R.rest_one (F := R.first S) (T := S) List.nodup_range (List.mem_range.2 hS) (fun v _ hv => hz v hv)] at key
  rw [R.rest_one (T := T) (List.nodup_range.filter _) (List.mem_filter.2 ⟨List.mem_range.2 hT, by simp⟩) (fun v hv hne => ?_)] at key
  · rw [hBT, R.mo] at key
    rw [key]
    have h1 : R.first S S = R.one := by unfold SR.first; rw [if_pos rfl]
    rw [h1, R.om]
  · have hv2 := (List.mem_filter.1 hv).2
    simp only [decide_eq_true_eq] at hv2
    have hnv : v ∉ vs := by
      rcases hv2 with h1 | h1
      · exact absurd h1 hne
      · exact h1
    rw [R.all_off vs _ fun u hu hm => hnv (nx_facts hok hS hT h hu hm).1]
    exact hz v (fun e => hnv (by rw [e]; exact hSv))
/-- How many. -/
theorem cnt_whole {N : Nat} {l : List Lnk} {dn : List Bool} {S T : Nat} {vs : List Nat} (hok : GOk N l) (hS : S < N) (hT : T < N) (h : SFin N l dn S T vs) (h0 : 0 ≤ dAt (distS N l dn T) (S : Int)) :
    natR.all 1 (nxL N l dn (distS N l dn T)) (natR.first S) vs T = (tr (nxL N l dn (distS N l dn T)) (distS N l dn T) S).1 := by
  have hd := dist_ok (dn := dn) hok hT
  refine natR.whole (B := fun v => (tr (nxL N l dn (distS N l dn T)) (distS N l dn T) v).1) hok hS hT h h0 (fun v hv hne => ?_) ?_
  · obtain ⟨hvN, e1, e2, e3⟩ := (h.all v).1 hv
    obtain ⟨k, hus, hf⟩ := us_out hok hT hvN hne e1 e2 e3
    obtain ⟨k', b, _, _, _, _, _, _, hlt⟩ := next_us hok hS hT ((h.all v).1 hv) (us_next hok hT hS hus hf hvN)
    have hb0 := (dist_ok (dn := dn) hok hT).low
    have hpos : 0 < dAt (distS N l dn T) (v : Int) := by
      rcases Int.lt_or_le 0 (dAt (distS N l dn T) (v : Int)) with h2 | h2
      · exact h2
      · exfalso
        have hn := us_next hok hT hS hus hf hvN
        unfold nextS at hn
        rw [if_neg (fun h => by have := h.2.2.2.2; omega)] at hn
        cases hn
    show (tr _ _ v).1 = natR.sum _
    rw [tr_step (nearer hok) hpos]
    show ((((nxL N l dn (distS N l dn T) v).map (tr (nxL N l dn (distS N l dn T)) (distS N l dn T))).map (·.1)).sum : Nat) = _
    rw [List.map_map]
    unfold SR.sum
    show List.sum _ = List.foldr (· + ·) 0 (List.map (fun b => 1 * (tr _ _ b).1) _)
    simp only [Nat.one_mul]
    rfl
  · show (tr _ _ T).1 = 1
    rw [tr_zero hd.src]
theorem pos_of {N : Nat} {l : List Lnk} {dn : List Bool} {S T : Nat} {vs : List Nat} (hok : GOk N l) (hS : S < N) (hT : T < N) (h : SFin N l dn S T vs) {v : Nat} (hv : v ∈ vs) (hne : v ≠ T) : 0 < dAt (distS N l dn T) (v : Int) ∧ nxL N l dn (distS N l dn T) v ≠ [] := by
  obtain ⟨hvN, e1, e2, e3⟩ := (h.all v).1 hv
  obtain ⟨k, hus, hf⟩ := us_out hok hT hvN hne e1 e2 e3
  have hn := us_next hok hT hS hus hf hvN
  refine ⟨?_, fun e => ?_⟩
  · rcases Int.lt_or_le 0 (dAt (distS N l dn T) (v : Int)) with h2 | h2
    · exact h2
    · exfalso
      unfold nextS at hn
      rw [if_neg (fun h => by have := h.2.2.2.2; omega)] at hn
      cases hn
  · have : (tov l k).toNat ∈ nxL N l dn (distS N l dn T) v := by
      unfold nxL
      exact List.mem_map.2 ⟨(k : Int), hn, by rw [Int.toNat_natCast]⟩
    rw [e] at this
    cases this
theorem sum_min : ∀ (L : List Nat), L ≠ [] → minR.sum (L.map some) = some (minL L) := by
  have key : ∀ (r : List Nat) (x : Nat), minR.sum ((x :: r).map some) = some (r.foldl min x) := by
    intro r
    induction r with
    | nil => intro x; rfl
    | cons y r ih =>
      intro x
      show minO (some x) (minR.sum ((y :: r).map some)) = _
      rw [ih y]
      show some (min x (r.foldl min y)) = some ((y :: r).foldl min x)
      show some (min x (r.foldl min y)) = some (r.foldl min (min x y))
      congr 1
      have h2 : ∀ (r : List Nat) (a b : Nat), min a (r.foldl min b) = r.foldl min (min a b) := by
        intro r
        induction r with
        | nil => intro a b; rfl
        | cons c r ih => intro a b; show min a (r.foldl min (min b c)) = r.foldl min (min (min a b) c); rw [ih, Nat.min_assoc]
      exact h2 r x y
  intro L hL
  cases L with
  | nil => exact absurd rfl hL
  | cons x r => exact key r x
theorem sum_max : ∀ (L : List Nat), L ≠ [] → maxR.sum (L.map some) = some (maxL L) := by
  have h2 : ∀ (r : List Nat) (a b : Nat), max a (r.foldl max b) = r.foldl max (max a b) := by
    intro r
    induction r with
    | nil => intro a b; rfl
    | cons c r ih => intro a b; show max a (r.foldl max (max b c)) = r.foldl max (max (max a b) c); rw [ih, Nat.max_assoc]
  have key : ∀ (r : List Nat) (x : Nat), maxR.sum ((x :: r).map some) = some (r.foldl max x) := by
    intro r
    induction r with
    | nil => intro x; rfl
    | cons y r ih =>
      intro x
      show maxO (some x) (maxR.sum ((y :: r).map some)) = _
      rw [ih y]
      show some (max x (r.foldl max y)) = some (r.foldl max (max x y))
      rw [h2 r x y]
  intro L hL
  cases L with
  | nil => exact absurd rfl hL
  | cons x r =>
    rw [key r x]
    unfold maxL
    show _ = some (r.foldl max (max 0 x))
    rw [Nat.zero_max]
theorem few_whole {N : Nat} {l : List Lnk} {dn : List Bool} {S T : Nat} {vs : List Nat} (hok : GOk N l) (hS : S < N) (hT : T < N) (h : SFin N l dn S T vs) (h0 : 0 ≤ dAt (distS N l dn T) (S : Int)) :
    minR.all (some 1) (nxL N l dn (distS N l dn T)) (minR.first S) vs T = some (tr (nxL N l dn (distS N l dn T)) (distS N l dn T) S).2.1 := by
  have hd := dist_ok (dn := dn) hok hT
  refine minR.whole (B := fun v => some (tr (nxL N l dn (distS N l dn T)) (distS N l dn T) v).2.1) hok hS hT h h0 (fun v hv hne => ?_) ?_
  · obtain ⟨hp, hnn⟩ := pos_of hok hS hT h hv hne
    show some (tr _ _ v).2.1 = minR.sum _
    rw [tr_step (nearer hok) hp]
    have h1 : ((nxL N l dn (distS N l dn T) v).map fun b => minR.mul (some 1) (some (tr (nxL N l dn (distS N l dn T)) (distS N l dn T) b).2.1)) = (((nxL N l dn (distS N l dn T) v).map (tr (nxL N l dn (distS N l dn T)) (distS N l dn T))).map (fun t => t.2.1 + 1)).map some := by
      rw [List.map_map, List.map_map]
      refine List.map_congr_left fun b _ => ?_
      show some (1 + _) = some (_ + 1)
      rw [Nat.add_comm]
    rw [h1, sum_min _ (by simpa using hnn)]
    rfl
  · show some (tr _ _ T).2.1 = some 0
    rw [tr_zero hd.src]
theorem many_whole {N : Nat} {l : List Lnk} {dn : List Bool} {S T : Nat} {vs : List Nat} (hok : GOk N l) (hS : S < N) (hT : T < N) (h : SFin N l dn S T vs) (h0 : 0 ≤ dAt (distS N l dn T) (S : Int)) :
    maxR.all (some 1) (nxL N l dn (distS N l dn T)) (maxR.first S) vs T = some (tr (nxL N l dn (distS N l dn T)) (distS N l dn T) S).2.2 := by
  have hd := dist_ok (dn := dn) hok hT
  refine maxR.whole (B := fun v => some (tr (nxL N l dn (distS N l dn T)) (distS N l dn T) v).2.2) hok hS hT h h0 (fun v hv hne => ?_) ?_
  · obtain ⟨hp, hnn⟩ := pos_of hok hS hT h hv hne
    show some (tr _ _ v).2.2 = maxR.sum _
    rw [tr_step (nearer hok) hp]
    have h1 : ((nxL N l dn (distS N l dn T) v).map fun b => maxR.mul (some 1) (some (tr (nxL N l dn (distS N l dn T)) (distS N l dn T) b).2.2)) = (((nxL N l dn (distS N l dn T) v).map (tr (nxL N l dn (distS N l dn T)) (distS N l dn T))).map (fun t => t.2.2 + 1)).map some := by
      rw [List.map_map, List.map_map]
      refine List.map_congr_left fun b _ => ?_
      show some (1 + _) = some (_ + 1)
      rw [Nat.add_comm]
    rw [h1, sum_max _ (by simpa using hnn)]
    rfl
  · show some (tr _ _ T).2.2 = some 0
    rw [tr_zero hd.src]
end Go.Proofs.Ytcjilpgblbnebaa
