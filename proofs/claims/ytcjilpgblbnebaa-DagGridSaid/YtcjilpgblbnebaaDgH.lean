/- Which edges some shortest way has, plainly. -/
import Derived.Test.YtcjilpgblbnebaaDgE
import Derived.Test.YtcjilpgblbnebaaTbA
namespace Go.Proofs.Ytcjilpgblbnebaa
open Go.RowKit
set_option maxHeartbeats 3200000
set_option maxRecDepth 100000
/-- There is a way: there is one. -/
theorem tr_pos {N : Nat} {l : List Lnk} {dn : List Bool} {T : Nat} (hok : GOk N l) (hT : T < N) : ∀ (f v : Nat), v < N → (dAt (distS N l dn T) (v : Int)).toNat ≤ f → 0 ≤ dAt (distS N l dn T) (v : Int) → 1 ≤ (tr (nxL N l dn (distS N l dn T)) (distS N l dn T) v).1 := by
  have hd := dist_ok (dn := dn) hok hT
  intro f
  induction f with
  | zero =>
    intro v hv hf h0
    rw [tr_zero (by omega)]
    exact Nat.le_refl _
  | succ f ih =>
    intro v hv hf h0
    by_cases hz : dAt (distS N l dn T) (v : Int) = 0
    · rw [tr_zero hz]; exact Nat.le_refl _
    · have hne : v ≠ T := by rintro rfl; exact hz hd.src
      obtain ⟨k, hk, hu, ht, hfr, he⟩ := hd.via v hv hne h0
      obtain ⟨k', hk', hkk, hf', ht', hm'⟩ := edge_back hok hk
      obtain ⟨a, _, _, _, _, hfa, _, hm, ha, _, _, hm1, _⟩ := edge_facts hok hk
      rw [hfa] at hfr he ht'
      have hmem : (k' : Int) ∈ nextS (N : Int) l dn (distS N l dn T) (v : Int) := by
        unfold nextS
        rw [if_pos ⟨gok_check hok, by rw [hd.len], by omega, by omega, by omega⟩]
        refine List.mem_filter.2 ⟨mem_outS.2 ⟨k', hk', rfl, ?_⟩, ?_⟩
        · show frm l k' = _
          rw [hf', ht]
        · unfold onS
          simp only [Int.toNat_natCast, Bool.and_eq_true, decide_eq_true_eq, beq_iff_eq, Bool.not_eq_true']
          rw [hkk, ht', hm']
          exact ⟨⟨hu, hfr⟩, by omega⟩
      rw [tr_step (nearer hok) (by omega)]
      have hb : a ∈ nxL N l dn (distS N l dn T) v := by
        unfold nxL
        refine List.mem_map.2 ⟨_, hmem, ?_⟩
        rw [Int.toNat_natCast, ht', Int.toNat_natCast]
      have h1 := ih a ha (by omega) hfr
      have h2 : (tr (nxL N l dn (distS N l dn T)) (distS N l dn T) a).1 ∈ ((nxL N l dn (distS N l dn T) v).map (tr (nxL N l dn (distS N l dn T)) (distS N l dn T))).map (·.1) := List.mem_map.2 ⟨_, List.mem_map.2 ⟨a, hb, rfl⟩, rfl⟩
      have h3 : ∀ (L : List Nat) (y : Nat), y ∈ L → y ≤ L.sum := by
        intro L y hy
        induction L with
        | nil => cases hy
        | cons z r ih2 =>
          rcases List.mem_cons.1 hy with rfl | hy
          · simp
          · have := ih2 hy; simp; omega
      exact Nat.le_trans h1 (h3 _ _ h2)
/-- An edge that some shortest way has. -/
def Us (N : Nat) (l : List Lnk) (dn : List Bool) (S T k : Nat) : Prop := k < 2 * l.length ∧ isDn dn (k / 2) = false ∧ 0 ≤ dAt (distS N l dn S) (frm l k) ∧ 0 ≤ dAt (distS N l dn T) (tov l k) ∧ dAt (distS N l dn S) (frm l k) + met l k + dAt (distS N l dn T) (tov l k) = dAt (distS N l dn S) (T : Int)
theorem uses_mem {N : Nat} {l : List Lnk} {dn : List Bool} {S T : Nat} (hok : GOk N l) (hS : S < N) (hT : T < N) (hx : 0 ≤ dAt (distS N l dn S) (T : Int)) {e : Int} : e ∈ usesS (N : Int) l dn (S : Int) (T : Int) ↔ ∃ k : Nat, e = (k : Int) ∧ Us N l dn S T k := by
  have Q : usesS (N : Int) l dn (S : Int) (T : Int) = _ := if_pos ⟨gok_check hok, by omega, by omega, by omega, by omega, by rw [Int.toNat_natCast, Int.toNat_natCast]; exact hx⟩
  rw [Q, Int.toNat_natCast, Int.toNat_natCast, Int.toNat_natCast, List.mem_filter]
  unfold edgesL
  simp only [List.mem_map, List.mem_range]
  unfold onU Us
  constructor
  · rintro ⟨⟨k, hk, rfl⟩, h⟩
    simp only [Int.toNat_natCast, Bool.and_eq_true, decide_eq_true_eq, beq_iff_eq, Bool.not_eq_true'] at h
    exact ⟨k, rfl, hk, h.1.1.1, h.1.1.2, h.1.2, h.2⟩
  · rintro ⟨k, rfl, hk, h1, h2, h3, h4⟩
    refine ⟨⟨k, hk, rfl⟩, ?_⟩
    simp only [Int.toNat_natCast, Bool.and_eq_true, decide_eq_true_eq, beq_iff_eq, Bool.not_eq_true']
    exact ⟨⟨⟨h1, h2⟩, h3⟩, h4⟩
theorem uses_no {N : Nat} {l : List Lnk} {dn : List Bool} {S T : Nat} (hx : dAt (distS N l dn S) (T : Int) < 0) : usesS (N : Int) l dn (S : Int) (T : Int) = [] := by
  have Q : usesS (N : Int) l dn (S : Int) (T : Int) = _ := if_neg (fun h => by have := h.2.2.2.2.2; rw [Int.toNat_natCast, Int.toNat_natCast] at this; omega)
  exact Q
theorem uses_sorted (nd : Int) (l : List Lnk) (dn : List Bool) (s t : Int) : (usesS nd l dn s t).Pairwise (· < ·) := by
  unfold usesS
  split
  · refine List.Pairwise.filter _ ?_
    unfold edgesL
    rw [List.pairwise_map]
    refine List.Pairwise.imp ?_ (List.pairwise_lt_range (n := 2 * l.length))
    intro a b h
    omega
  · exact List.Pairwise.nil
/-- What lies between: the two parts of a way through v are no shorter than the whole. -/
theorem part_le {N : Nat} {l : List Lnk} {dn : List Bool} {S T v : Nat} (hok : GOk N l) (hS : S < N) (hT : T < N) (hv : v < N) (h1 : 0 ≤ dAt (distS N l dn S) (v : Int)) (h2 : 0 ≤ dAt (distS N l dn T) (v : Int)) : dAt (distS N l dn S) (T : Int) ≤ dAt (distS N l dn S) (v : Int) + dAt (distS N l dn T) (v : Int) := by
  rw [dist_sym hok hT hv] at h2 ⊢
  exact (dist_tri hok (dist_ok hok hS) (dist_ok hok hv) h1 (dAt (distS N l dn v) (T : Int)).toNat T hT h2 (by omega)).2
/-- A used edge lies on the whole: both its ends do. -/
theorem us_ends {N : Nat} {l : List Lnk} {dn : List Bool} {S T k a b : Nat} (hok : GOk N l) (hS : S < N) (hT : T < N) (h : Us N l dn S T k) (hf : frm l k = (a : Int)) (ht : tov l k = (b : Int)) (ha : a < N) (hb : b < N) :
    0 ≤ dAt (distS N l dn S) (a : Int) ∧ 0 ≤ dAt (distS N l dn T) (a : Int) ∧ dAt (distS N l dn S) (a : Int) + dAt (distS N l dn T) (a : Int) = dAt (distS N l dn S) (T : Int) ∧ 0 ≤ dAt (distS N l dn S) (b : Int) ∧ 0 ≤ dAt (distS N l dn T) (b : Int) ∧ dAt (distS N l dn S) (b : Int) + dAt (distS N l dn T) (b : Int) = dAt (distS N l dn S) (T : Int) := by
  obtain ⟨hk, hu, h1, h2, h3⟩ := h
  rw [hf] at h1 h3
  rw [ht] at h2 h3
  have c1 := (dist_ok (dn := dn) hok hS).clo k hk hu (by rw [hf]; exact h1)
  rw [hf, ht] at c1
  obtain ⟨k', hk', hkk, hf', ht', hm'⟩ := edge_back hok hk
  have c2 := (dist_ok (dn := dn) hok hT).clo k' hk' (by rw [hkk]; exact hu) (by rw [hf', ht]; exact h2)
  rw [hf', ht', hm', hf, ht] at c2
  have p1 := part_le (dn := dn) hok hS hT ha h1 c2.1
  have p2 := part_le (dn := dn) hok hS hT hb c1.1 h2
  omega
theorem us_out {N : Nat} {l : List Lnk} {dn : List Bool} {S T v : Nat} (hok : GOk N l) (hT : T < N) (hv : v < N) (hne : v ≠ T) (h1 : 0 ≤ dAt (distS N l dn S) (v : Int)) (h2 : 0 ≤ dAt (distS N l dn T) (v : Int)) (h3 : dAt (distS N l dn S) (v : Int) + dAt (distS N l dn T) (v : Int) = dAt (distS N l dn S) (T : Int)) : ∃ k, Us N l dn S T k ∧ frm l k = (v : Int) := by
  obtain ⟨k, hk, hu, ht, hfr, he⟩ := (dist_ok (dn := dn) hok hT).via v hv hne h2
  obtain ⟨k', hk', hkk, hf', ht', hm'⟩ := edge_back hok hk
  refine ⟨k', ⟨hk', by rw [hkk]; exact hu, by rw [hf', ht]; exact h1, by rw [ht']; exact hfr, ?_⟩, by rw [hf', ht]⟩
  rw [hf', ht, ht', hm']
  omega
theorem us_in {N : Nat} {l : List Lnk} {dn : List Bool} {S T v : Nat} (hok : GOk N l) (hS : S < N) (hv : v < N) (hne : v ≠ S) (h1 : 0 ≤ dAt (distS N l dn S) (v : Int)) (h2 : 0 ≤ dAt (distS N l dn T) (v : Int)) (h3 : dAt (distS N l dn S) (v : Int) + dAt (distS N l dn T) (v : Int) = dAt (distS N l dn S) (T : Int)) : ∃ k, Us N l dn S T k ∧ tov l k = (v : Int) := by
  obtain ⟨k, hk, hu, ht, hfr, he⟩ := (dist_ok (dn := dn) hok hS).via v hv hne h1
  refine ⟨k, ⟨hk, hu, hfr, by rw [ht]; exact h2, ?_⟩, ht⟩
  rw [ht]
  omega
/-- A node between is come to just where it is left. -/
theorem us_both {N : Nat} {l : List Lnk} {dn : List Bool} {S T v : Nat} (hok : GOk N l) (hS : S < N) (hT : T < N) (hv : v < N) (hvS : v ≠ S) (hvT : v ≠ T) : (∃ k, Us N l dn S T k ∧ tov l k = (v : Int)) ↔ (∃ k, Us N l dn S T k ∧ frm l k = (v : Int)) := by
  constructor
  · rintro ⟨k, h, ht⟩
    obtain ⟨a, b, _, _, _, hf, hto, _, ha, hb, _⟩ := edge_facts hok h.1
    obtain rfl : b = v := by rw [hto] at ht; omega
    obtain ⟨_, _, _, e1, e2, e3⟩ := us_ends hok hS hT h hf hto ha hb
    exact us_out hok hT hb hvT e1 e2 e3
  · rintro ⟨k, h, ht⟩
    obtain ⟨a, b, _, _, _, hf, hto, _, ha, hb, _⟩ := edge_facts hok h.1
    obtain rfl : a = v := by rw [hf] at ht; omega
    obtain ⟨e1, e2, e3, _⟩ := us_ends hok hS hT h hf hto ha hb
    exact us_in hok hS ha hvS e1 e2 e3
theorem us_first {N : Nat} {l : List Lnk} {dn : List Bool} {S T k : Nat} (hok : GOk N l) (hS : S < N) (hT : T < N) (h : Us N l dn S T k) : tov l k ≠ (S : Int) ∧ frm l k ≠ (T : Int) := by
  obtain ⟨a, b, _, _, _, hf, hto, hm, ha, hb, _, hm1, _⟩ := edge_facts hok h.1
  have hh := h
  obtain ⟨hk, hu, h1, h2, h3⟩ := hh
  rw [hf] at h1 h3
  rw [hto, hm] at h3
  rw [hto] at h2
  refine ⟨fun e => ?_, fun e => ?_⟩
  · rw [hto] at e
    obtain rfl : b = S := by omega
    rw [dist_sym hok hT hb] at h3
    omega
  · rw [hf] at e
    obtain rfl : a = T := by omega
    omega
theorem us_same {N : Nat} {l : List Lnk} {dn : List Bool} {S k : Nat} (hok : GOk N l) (hS : S < N) (h : Us N l dn S S k) : False := by
  obtain ⟨a, b, _, _, _, hf, hto, hm, ha, hb, _, hm1, _⟩ := edge_facts hok h.1
  obtain ⟨hk, hu, h1, h2, h3⟩ := h
  rw [(dist_ok (dn := dn) hok hS).src, hm] at h3
  omega
end Go.Proofs.Ytcjilpgblbnebaa
