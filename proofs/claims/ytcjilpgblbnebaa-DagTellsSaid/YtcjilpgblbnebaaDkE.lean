/- The rows that Count and Hops write, against the sums; which edges; how few. -/
import Derived.Test.YtcjilpgblbnebaaDkD
namespace Go.Proofs.Ytcjilpgblbnebaa
open Go.RowKit
set_option maxHeartbeats 3200000
set_option maxRecDepth 100000
/-- A row that is written step by step. -/
def rstep (g : Nat → Nat → Nat) (f : Nat → Nat) (s : Stp) : Nat → Nat := fun v => if v = s.b.toNat then g (f s.b.toNat) (f s.a.toNat) else f v
def Chain {K : Type} (R : SR K) (x : K) (nx : Nat → List Nat) (good : K → Prop) : (Nat → K) → List Nat → Prop
  | _, [] => True
  | F, u :: vs => good (F u) ∧ Chain R x nx good (R.node x nx F u) vs
theorem node_row {K : Type} {R : SR K} {x : K} {good : K → Prop} {h : K → Nat} {g : Nat → Nat → Nat} (hg : ∀ a b, good a → h (R.add b (R.mul a x)) = g (h b) (h a)) {a : Nat} {t : Int → Int} : ∀ (E : List Int) (F : Nat → K) (f : Nat → Nat), (∀ v, f v = h (F v)) → good (F a) → (∀ e ∈ E, (t e).toNat ≠ a) →
    ∀ v, (E.map fun e => (⟨e, (a : Int), t e⟩ : Stp)).foldl (rstep g) f v = h ((E.map fun e => (t e).toNat).foldl (R.push x a) F v) := by
  intro E
  induction E with
  | nil => intro F f hf _ _ v; exact hf v
  | cons e E ih =>
    intro F f hf ha hne v
    show (E.map fun e => (⟨e, (a : Int), t e⟩ : Stp)).foldl (rstep g) (rstep g f ⟨e, (a : Int), t e⟩) v = h ((E.map fun e => (t e).toNat).foldl (R.push x a) (R.push x a F (t e).toNat) v)
    refine ih _ _ (fun v => ?_) ?_ (fun e' he => hne e' (by simp [he])) v
    · unfold rstep SR.push
      simp only [Int.toNat_natCast]
      split
      · rw [hf, hf, hg _ _ ha]
      · exact hf v
    · rw [R.push_off (fun e' => hne e (by simp) e'.symm)]
      exact ha
theorem all_row {K : Type} {R : SR K} {x : K} {good : K → Prop} {h : K → Nat} {g : Nat → Nat → Nat} (hg : ∀ a b, good a → h (R.add b (R.mul a x)) = g (h b) (h a)) {N : Nat} {l : List Lnk} {dn : List Bool} {D : List Int} (hns : ∀ u : Nat, u ∉ nxL N l dn D u) : ∀ (vs : List Nat) (F : Nat → K) (f : Nat → Nat), (∀ v, f v = h (F v)) → Chain R x (nxL N l dn D) good F vs →
    ∀ v, (stepsL N l dn D vs).foldl (rstep g) f v = h (R.all x (nxL N l dn D) F vs v) := by
  intro vs
  induction vs with
  | nil => intro F f hf _ v; exact hf v
  | cons u vs ih =>
    intro F f hf hc v
    have e : stepsL N l dn D (u :: vs) = blk N l dn D u ++ stepsL N l dn D vs := rfl
    rw [e, List.foldl_append]
    refine ih (R.node x (nxL N l dn D) F u) _ (fun v => ?_) hc.2 v
    refine node_row hg _ F f hf hc.1 (fun e he hh => hns u ?_) v
    have hm : (tov l e.toNat).toNat ∈ nxL N l dn D u := List.mem_map.2 ⟨e, he, rfl⟩
    rw [hh] at hm
    exact hm
theorem chain_any {K : Type} {R : SR K} {x : K} {nx : Nat → List Nat} : ∀ (vs : List Nat) (F : Nat → K), Chain R x nx (fun _ => True) F vs := by
  intro vs
  induction vs with
  | nil => intro F; trivial
  | cons u vs ih => intro F; exact ⟨trivial, ih _⟩
theorem push_some {F : Nat → Option Nat} {a b v : Nat} (h : F v ≠ none) : maxR.push (some 1) a F b v ≠ none := by
  unfold SR.push
  split
  · rename_i e
    subst e
    show maxO (F v) _ ≠ none
    cases hv : F v with
    | none => exact absurd hv h
    | some y =>
      cases maxR.mul (F a) (some 1) with
      | none => simp [maxO]
      | some z => simp [maxO]
  · exact h
theorem node_some {a v : Nat} : ∀ (M : List Nat) (F : Nat → Option Nat), (F v ≠ none ∨ (F a ≠ none ∧ v ∈ M)) → (M.foldl (maxR.push (some 1) a) F) v ≠ none := by
  intro M
  induction M with
  | nil =>
    intro F h
    rcases h with h | h
    · exact h
    · cases h.2
  | cons b M ih =>
    intro F h
    show (M.foldl (maxR.push (some 1) a) (maxR.push (some 1) a F b)) v ≠ none
    refine ih _ ?_
    rcases h with h | ⟨h1, h2⟩
    · exact .inl (push_some h)
    · rcases List.mem_cons.1 h2 with rfl | h2
      · left
        unfold SR.push
        rw [if_pos rfl]
        show maxO (F v) (addO (F a) (some 1)) ≠ none
        cases hv : F v with
        | none =>
          cases ha : F a with
          | none => exact absurd ha h1
          | some z => simp [maxO, addO]
        | some y =>
          cases ha : F a with
          | none => exact absurd ha h1
          | some z => simp [maxO, addO]
      · exact .inr ⟨push_some h1, h2⟩
theorem chain_some {nx : Nat → List Nat} : ∀ (vs : List Nat) (F : Nat → Option Nat), (∀ pre u post, vs = pre ++ u :: post → F u ≠ none ∨ ∃ w ∈ pre, u ∈ nx w) → Chain maxR (some 1) nx (fun k => k ≠ none) F vs := by
  intro vs
  induction vs with
  | nil => intro F _; trivial
  | cons u vs ih =>
    intro F h
    have h0 : F u ≠ none := by
      rcases h [] u vs rfl with h1 | ⟨w, hw, _⟩
      · exact h1
      · cases hw
    refine ⟨h0, ih _ fun pre u' post he => ?_⟩
    rcases h (u :: pre) u' post (by rw [he]; rfl) with h1 | ⟨w, hw, h2⟩
    · exact .inl (node_some _ F (.inl h1))
    · rcases List.mem_cons.1 hw with rfl | hw
      · exact .inl (node_some _ F (.inr ⟨h0, h2⟩))
      · exact .inr ⟨w, hw, h2⟩
section
variable {N : Nat} {l : List Lnk} {dn : List Bool} {S T : Nat} {vs : List Nat}
theorem nx_self (hok : GOk N l) (D : List Int) (u : Nat) : u ∉ nxL N l dn D u := by
  intro h
  have := nearer (dn := dn) (D := D) hok u u h
  omega
/-- Count's row. -/
theorem row_cnt (hok : GOk N l) (hS : S < N) (hT : T < N) (h : SFin N l dn S T vs) (h0 : 0 ≤ dAt (distS N l dn T) (S : Int)) :
    (stepsL N l dn (distS N l dn T) vs).foldl (rstep (fun b a => min (b + a) capB)) (fun v => if v = S then 1 else 0) T = min (tr (nxL N l dn (distS N l dn T)) (distS N l dn T) S).1 capB := by
  rw [all_row (R := natR) (x := 1) (good := fun _ => True) (h := fun k => min k capB) (F := natR.first S) ?_ (nx_self hok _) vs _ ?_ (chain_any _ _), cnt_whole hok hS hT h h0]
  · intro a b _
    show min (b + a * 1) capB = min (min b capB + min a capB) capB
    omega
  · intro v
    show (if v = S then 1 else 0) = min (if v = S then 1 else 0) capB
    split <;> (unfold capB; rfl)
/-- The row of the fewest. -/
theorem row_few (hok : GOk N l) (hS : S < N) (hT : T < N) (h : SFin N l dn S T vs) (h0 : 0 ≤ dAt (distS N l dn T) (S : Int)) :
    (stepsL N l dn (distS N l dn T) vs).foldl (rstep (fun b a => min b (a + 1))) (fun v => if v = S then 0 else N) T = min (tr (nxL N l dn (distS N l dn T)) (distS N l dn T) S).2.1 N := by
  rw [all_row (R := minR) (x := some 1) (good := fun _ => True) (h := fun k => match k with | none => N | some y => min y N) (F := minR.first S) ?_ (nx_self hok _) vs _ ?_ (chain_any _ _), few_whole hok hS hT h h0]
  · intro a b _
    cases a <;> cases b <;> simp [minR, minO, addO] <;> omega
  · intro v
    unfold SR.first
    by_cases hv : v = S
    · rw [if_pos hv, if_pos hv]; simp [minR]
    · rw [if_neg hv, if_neg hv]; simp [minR]
/-- The row of the most. -/
theorem row_many (hok : GOk N l) (hS : S < N) (hT : T < N) (h : SFin N l dn S T vs) (h0 : 0 ≤ dAt (distS N l dn T) (S : Int)) :
    (stepsL N l dn (distS N l dn T) vs).foldl (rstep (fun b a => max b (a + 1))) (fun _ => 0) T = (tr (nxL N l dn (distS N l dn T)) (distS N l dn T) S).2.2 := by
  rw [all_row (R := maxR) (x := some 1) (good := fun k => k ≠ none) (h := fun k => match k with | none => 0 | some y => y) (F := maxR.first S) ?_ (nx_self hok _) vs _ ?_ ?_, many_whole hok hS hT h h0]
  · intro a b ha
    cases a with
    | none => exact absurd rfl ha
    | some a => cases b <;> simp [maxR, maxO, addO]
  · intro v
    unfold SR.first
    by_cases hv : v = S
    · rw [if_pos hv]; rfl
    · rw [if_neg hv]; rfl
  · refine chain_some vs _ fun pre u post he => ?_
    have hu : u ∈ vs := by rw [he]; simp
    by_cases huS : u = S
    · left
      unfold SR.first
      rw [if_pos huS]
      simp [maxR]
    · right
      obtain ⟨hv, e1, e2, e3⟩ := (h.all u).1 hu
      obtain ⟨k, hus, ht⟩ := us_in hok hS hv huS e1 e2 e3
      obtain ⟨a, b, _, _, _, hfa, hto, hm, ha, hb, _, hm1, _⟩ := edge_facts hok hus.1
      obtain rfl : b = u := by rw [hto] at ht; omega
      obtain ⟨e1, e2, e3, q1, q2, q3⟩ := us_ends hok hS hT hus hfa hto ha hb
      have hn := us_next hok hT hS hus hfa ha
      have hnx : b ∈ nxL N l dn (distS N l dn T) a := by
        unfold nxL
        exact List.mem_map.2 ⟨_, hn, by rw [Int.toNat_natCast, hto, Int.toNat_natCast]⟩
      have hav : a ∈ vs := (h.all a).2 ⟨ha, e1, e2, e3⟩
      have hlt := (nx_facts hok hS hT h hav hnx).2
      refine ⟨a, ?_, hnx⟩
      have hord := h.ord
      rw [he] at hav hord
      rcases List.mem_append.1 hav with h1 | h1
      · exact h1
      · exfalso
        have h2 := (List.pairwise_append.1 hord).2.1
        rw [List.pairwise_cons] at h2
        rcases List.mem_cons.1 h1 with h3 | h3
        · rw [h3] at hlt; omega
        · have := h2.1 a h3; omega
/-- A way has no more edges than there are nodes nearer. -/
def near (N : Nat) (D : List Int) (v : Nat) : Nat := ((List.range N).filter fun u : Nat => decide (0 ≤ dAt D (u : Int) ∧ dAt D (u : Int) < dAt D (v : Int))).length
theorem near_lt {D : List Int} {v b : Nat} (hb : b < N) (h0 : 0 ≤ dAt D (b : Int)) (hlt : dAt D (b : Int) < dAt D (v : Int)) : near N D b < near N D v := by
  unfold near
  have key : ∀ (L : List Nat), b ∈ L → (L.filter fun u : Nat => decide (0 ≤ dAt D (u : Int) ∧ dAt D (u : Int) < dAt D (b : Int))).length < (L.filter fun u : Nat => decide (0 ≤ dAt D (u : Int) ∧ dAt D (u : Int) < dAt D (v : Int))).length := by
    have hle : ∀ (L : List Nat), (L.filter fun u : Nat => decide (0 ≤ dAt D (u : Int) ∧ dAt D (u : Int) < dAt D (b : Int))).length ≤ (L.filter fun u : Nat => decide (0 ≤ dAt D (u : Int) ∧ dAt D (u : Int) < dAt D (v : Int))).length := by
      intro L
      induction L with
      | nil => exact Nat.le_refl _
      | cons x L ih =>
        by_cases h1 : 0 ≤ dAt D (x : Int) ∧ dAt D (x : Int) < dAt D (b : Int)
        · rw [List.filter_cons_of_pos (by simpa using h1), List.filter_cons_of_pos (by simp only [decide_eq_true_eq]; omega)]
          simp only [List.length_cons]; omega
        · rw [List.filter_cons_of_neg (by simpa using h1)]
          by_cases h2 : 0 ≤ dAt D (x : Int) ∧ dAt D (x : Int) < dAt D (v : Int)
          · rw [List.filter_cons_of_pos (by simpa using h2)]
            simp only [List.length_cons]; omega
          · rw [List.filter_cons_of_neg (by simpa using h2)]; exact ih
    intro L
    induction L with
    | nil => intro h; cases h
    | cons x L ih =>
      intro hx
      by_cases he : x = b
      · rw [he, List.filter_cons_of_neg (by simp only [decide_eq_true_eq]; omega), List.filter_cons_of_pos (by simp only [decide_eq_true_eq]; omega)]
        have := hle L
        simp only [List.length_cons]; omega
      · have hb' : b ∈ L := by
          rcases List.mem_cons.1 hx with h | h
          · exact absurd h.symm he
          · exact h
        have h3 := ih hb'
        by_cases h1 : 0 ≤ dAt D (x : Int) ∧ dAt D (x : Int) < dAt D (b : Int)
        · rw [List.filter_cons_of_pos (by simpa using h1), List.filter_cons_of_pos (by simp only [decide_eq_true_eq]; omega)]
          simp only [List.length_cons]; omega
        · rw [List.filter_cons_of_neg (by simpa using h1)]
          by_cases h2 : 0 ≤ dAt D (x : Int) ∧ dAt D (x : Int) < dAt D (v : Int)
          · rw [List.filter_cons_of_pos (by simpa using h2)]
            simp only [List.length_cons]; omega
          · rw [List.filter_cons_of_neg (by simpa using h2)]; exact h3
  exact key _ (List.mem_range.2 hb)
theorem few_le (hok : GOk N l) {D : List Int} : ∀ (f v : Nat), near N D v ≤ f → (tr (nxL N l dn D) D v).2.1 ≤ near N D v := by
  intro f
  induction f with
  | zero =>
    intro v hf
    by_cases hv : 0 < dAt D (v : Int)
    · rw [tr_step (nearer hok) hv]
      refine minL_le fun y hy => ?_
      simp only [List.mem_map] at hy
      obtain ⟨t, ⟨b, hb, rfl⟩, rfl⟩ := hy
      obtain ⟨e, he, hh⟩ := List.mem_map.1 hb
      obtain ⟨k, c, rfl, _, _, _, hto, hc, h0, h1, _⟩ := nextS_mem hok he
      rw [Int.toNat_natCast, hto, Int.toNat_natCast] at hh
      subst hh
      have := near_lt hc h0 h1
      omega
    · by_cases hz : dAt D (v : Int) = 0
      · rw [tr_zero hz]; exact Nat.zero_le _
      · unfold tr
        rw [show (dAt D (v : Int)).toNat = 0 by omega]
        simp only [trF]
        rw [if_neg hz]
        exact Nat.zero_le _
  | succ f ih =>
    intro v hf
    by_cases hv : 0 < dAt D (v : Int)
    · rw [tr_step (nearer hok) hv]
      by_cases hnn : nxL N l dn D v = []
      · rw [hnn]; exact Nat.zero_le _
      · refine minL_le fun y hy => ?_
        simp only [List.mem_map] at hy
        obtain ⟨t, ⟨b, hb, rfl⟩, rfl⟩ := hy
        obtain ⟨e, he, hh⟩ := List.mem_map.1 hb
        obtain ⟨k, c, rfl, _, _, _, hto, hc, h0, h1, _⟩ := nextS_mem hok he
        rw [Int.toNat_natCast, hto, Int.toNat_natCast] at hh
        subst hh
        have h2 := near_lt hc h0 h1
        have h3 := ih c (by omega)
        omega
    · by_cases hz : dAt D (v : Int) = 0
      · rw [tr_zero hz]; exact Nat.zero_le _
      · unfold tr
        rw [show (dAt D (v : Int)).toNat = 0 by omega]
        simp only [trF]
        rw [if_neg hz]
        exact Nat.zero_le _
theorem few_top (hok : GOk N l) {D : List Int} (v : Nat) : min (tr (nxL N l dn D) D v).2.1 N = (tr (nxL N l dn D) D v).2.1 := by
  have h1 := few_le (dn := dn) hok _ v (Nat.le_refl (near N D v))
  have h2 : near N D v ≤ N := by
    have := List.length_filter_le (fun u : Nat => decide (0 ≤ dAt D (u : Int) ∧ dAt D (u : Int) < dAt D (v : Int))) (List.range N)
    rw [List.length_range] at this
    exact this
  omega
/-- Which edges. -/
theorem sorted_same : ∀ {L M : List Int}, L.Pairwise (· < ·) → M.Pairwise (· < ·) → (∀ x, x ∈ L ↔ x ∈ M) → L = M := by
  intro L
  induction L with
  | nil =>
    intro M _ _ h
    cases M with
    | nil => rfl
    | cons y M => exact absurd ((h y).2 (by simp)) (by simp)
  | cons x L ih =>
    intro M hL hM h
    cases M with
    | nil => exact absurd ((h x).1 (by simp)) (by simp)
    | cons y M =>
      rw [List.pairwise_cons] at hL hM
      have e : x = y := by
        have h1 := (h x).1 (by simp)
        have h2 := (h y).2 (by simp)
        rcases List.mem_cons.1 h1 with h1 | h1
        · exact h1
        · rcases List.mem_cons.1 h2 with h2 | h2
          · exact h2.symm
          · have := hM.1 x h1; have := hL.1 y h2; omega
      subst e
      congr 1
      refine ih hL.2 hM.2 fun z => ⟨fun hz => ?_, fun hz => ?_⟩
      · have h1 := (h z).1 (by simp [hz])
        rcases List.mem_cons.1 h1 with h1 | h1
        · have := hL.1 z hz; omega
        · exact h1
      · have h1 := (h z).2 (by simp [hz])
        rcases List.mem_cons.1 h1 with h1 | h1
        · have := hM.1 z hz; omega
        · exact h1
theorem edges_nodup (hok : GOk N l) (D : List Int) : ∀ (vs : List Nat), vs.Nodup → ((stepsL N l dn D vs).map (·.e)).Nodup := by
  intro vs
  have hmem : ∀ (vs : List Nat) (e : Int), e ∈ (stepsL N l dn D vs).map (·.e) → ∃ v ∈ vs, e ∈ nextS (N : Int) l dn D (v : Int) := by
    intro vs e he
    obtain ⟨s, hs, rfl⟩ := List.mem_map.1 he
    unfold stepsL at hs
    obtain ⟨v, hv, hs⟩ := List.mem_flatMap.1 hs
    unfold blk at hs
    obtain ⟨e, he2, rfl⟩ := List.mem_map.1 hs
    exact ⟨v, hv, he2⟩
  induction vs with
  | nil => intro _; exact List.nodup_nil
  | cons u vs ih =>
    intro hn
    rw [List.nodup_cons] at hn
    have e : stepsL N l dn D (u :: vs) = blk N l dn D u ++ stepsL N l dn D vs := rfl
    rw [e, List.map_append, List.nodup_append]
    have h1 : (blk N l dn D u).map (·.e) = nextS (N : Int) l dn D (u : Int) := by
      unfold blk
      rw [List.map_map]
      exact (List.map_congr_left fun _ _ => rfl).trans (List.map_id _)
    refine ⟨?_, ih hn.2, fun x hx y hy hxy => ?_⟩
    · rw [h1]
      unfold nextS
      split
      · exact ((outS_sorted l _ _).filter _).imp fun h => by omega
      · exact List.nodup_nil
    · subst hxy
      rw [h1] at hx
      obtain ⟨v, hv, hxv⟩ := hmem vs x hy
      obtain ⟨k, _, rfl, _, _, h2, _⟩ := nextS_mem hok hx
      obtain ⟨k', _, he, _, _, h3, _⟩ := nextS_mem hok hxv
      obtain rfl : k = k' := by omega
      rw [h2] at h3
      simp only [Prod.mk.injEq] at h3
      obtain rfl : u = v := by omega
      exact hn.1 hv
theorem uses_eq (hok : GOk N l) (hS : S < N) (hT : T < N) (h : SFin N l dn S T vs) (h0 : 0 ≤ dAt (distS N l dn T) (S : Int)) :
    (((stepsL N l dn (distS N l dn T) vs).map (·.e)).mergeSort fun x y => decide (x ≤ y)) = usesS (N : Int) l dn (S : Int) (T : Int) := by
  have hp := List.mergeSort_perm ((stepsL N l dn (distS N l dn T) vs).map (·.e)) (fun x y => decide (x ≤ y))
  have hx : 0 ≤ dAt (distS N l dn S) (T : Int) := by rw [dist_sym hok hS hT]; exact h0
  refine sorted_same ?_ (uses_sorted _ _ _ _ _) fun x => ?_
  · have h1 := List.pairwise_mergeSort (le := fun x y : Int => decide (x ≤ y)) (fun a b c h1 h2 => by simp only [decide_eq_true_eq] at *; omega) (fun a b => by simp only [Bool.or_eq_true, decide_eq_true_eq]; omega) ((stepsL N l dn (distS N l dn T) vs).map (·.e))
    have h2 : (((stepsL N l dn (distS N l dn T) vs).map (·.e)).mergeSort fun x y => decide (x ≤ y)).Nodup := hp.nodup_iff.2 (edges_nodup hok _ vs h.nod)
    refine (h1.and h2).imp fun h => ?_
    simp only [decide_eq_true_eq] at h
    omega
  · rw [hp.mem_iff, uses_mem hok hS hT hx]
    constructor
    · intro hm
      obtain ⟨s, hs, rfl⟩ := List.mem_map.1 hm
      unfold stepsL at hs
      obtain ⟨v, hv, hs⟩ := List.mem_flatMap.1 hs
      unfold blk at hs
      obtain ⟨e, he, rfl⟩ := List.mem_map.1 hs
      obtain ⟨k, _, rfl, _, hus, _⟩ := next_us hok hS hT ((h.all v).1 hv) he
      exact ⟨k, rfl, hus⟩
    · rintro ⟨k, rfl, hus⟩
      obtain ⟨a, b, _, _, _, hfa, hto, hm, ha, hb, _, hm1, _⟩ := edge_facts hok hus.1
      obtain ⟨e1, e2, e3, _⟩ := us_ends hok hS hT hus hfa hto ha hb
      have hn := us_next hok hT hS hus hfa ha
      refine List.mem_map.2 ⟨⟨(k : Int), (a : Int), tov l (k : Int).toNat⟩, ?_, rfl⟩
      unfold stepsL
      refine List.mem_flatMap.2 ⟨a, (h.all a).2 ⟨ha, e1, e2, e3⟩, ?_⟩
      unfold blk
      exact List.mem_map.2 ⟨_, hn, rfl⟩
end
end Go.Proofs.Ytcjilpgblbnebaa
