/- Shortest ways between all nodes, plainly: as far there as back, no way over a third node shorter; the edges that go on. -/
import Derived.Test.YtabgbhkpeeibaaaSpM
namespace Go.Proofs.Ytabgbhkpeeibaaa
open Go.RowKit
set_option maxHeartbeats 1600000
set_option maxRecDepth 100000
theorem edge_back {nd : Nat} {l : List Lnk} (hg : GOk nd l) {k : Nat} (hk : k < 2 * l.length) : ∃ k', k' < 2 * l.length ∧ k' / 2 = k / 2 ∧ frm l k' = tov l k ∧ tov l k' = frm l k ∧ met l k' = met l k := by
  obtain ⟨a, b, x, hx, he, hf, ht, hm, _⟩ := edge_facts hg hk
  have h1 := endsS_some hx
  rcases Nat.mod_two_eq_zero_or_one k with h | h
  · have hx' : l[(k + 1) / 2]? = some x := by rw [show (k + 1) / 2 = k / 2 by omega]; exact hx
    have h2 := endsS_some hx'
    rw [if_pos h] at h1
    rw [if_neg (by omega)] at h2
    refine ⟨k + 1, by omega, by omega, ?_, ?_, ?_⟩
    · unfold frm tov; rw [h2, h1]
    · unfold frm tov; rw [h2, h1]
    · unfold met; rw [show (k + 1) / 2 = k / 2 by omega]
  · have hx' : l[(k - 1) / 2]? = some x := by rw [show (k - 1) / 2 = k / 2 by omega]; exact hx
    have h2 := endsS_some hx'
    rw [if_neg (by omega)] at h1
    rw [if_pos (by omega)] at h2
    refine ⟨k - 1, by omega, by omega, ?_, ?_, ?_⟩
    · unfold frm tov; rw [h2, h1]
    · unfold frm tov; rw [h2, h1]
    · unfold met; rw [show (k - 1) / 2 = k / 2 by omega]
theorem dist_tri {nd : Nat} {l : List Lnk} {dn : List Bool} {s u : Nat} {d d' : List Int} (hg : GOk nd l) (h : DistOk nd l dn s d) (h' : DistOk nd l dn u d') (h0 : 0 ≤ dAt d (u : Int)) :
    ∀ (N : Nat) (v : Nat), v < nd → 0 ≤ dAt d' (v : Int) → dAt d' (v : Int) ≤ (N : Int) → 0 ≤ dAt d (v : Int) ∧ dAt d (v : Int) ≤ dAt d (u : Int) + dAt d' (v : Int) := by
  intro N
  induction N with
  | zero =>
    intro v hv h1 h2
    by_cases hu : v = u
    · subst hu; rw [h'.src]; omega
    · obtain ⟨k, hk, _, ht, hf, he⟩ := h'.via v hv hu h1
      obtain ⟨a, b, x, _, _, hfa, _, hm, _, _, _, hm1, _⟩ := edge_facts hg hk
      omega
  | succ N ih =>
    intro v hv h1 h2
    by_cases hu : v = u
    · subst hu; rw [h'.src]; omega
    · obtain ⟨k, hk, hup, ht, hf, he⟩ := h'.via v hv hu h1
      obtain ⟨a, b, x, _, _, hfa, _, hm, ha, _, _, hm1, _⟩ := edge_facts hg hk
      rw [hfa] at hf he
      obtain ⟨i1, i2⟩ := ih a ha hf (by omega)
      have := h.clo k hk hup (by rw [hfa]; exact i1)
      rw [ht, hfa] at this
      omega
theorem dist_back {nd : Nat} {l : List Lnk} {dn : List Bool} {s : Nat} (hg : GOk nd l) (hs : s < nd) :
    ∀ (N : Nat) (v : Nat), v < nd → 0 ≤ dAt (distS nd l dn s) (v : Int) → dAt (distS nd l dn s) (v : Int) ≤ (N : Int) → 0 ≤ dAt (distS nd l dn v) (s : Int) ∧ dAt (distS nd l dn v) (s : Int) ≤ dAt (distS nd l dn s) (v : Int) := by
  have h := dist_ok (dn := dn) hg hs
  intro N
  induction N with
  | zero =>
    intro v hv h1 h2
    by_cases hu : v = s
    · subst hu; omega
    · obtain ⟨k, hk, _, ht, hf, he⟩ := h.via v hv hu h1
      obtain ⟨a, b, x, _, _, hfa, _, hm, _, _, _, hm1, _⟩ := edge_facts hg hk
      omega
  | succ N ih =>
    intro v hv h1 h2
    by_cases hu : v = s
    · subst hu; omega
    · obtain ⟨k, hk, hup, ht, hf, he⟩ := h.via v hv hu h1
      obtain ⟨a, b, x, _, _, hfa, _, hm, ha, _, _, hm1, _⟩ := edge_facts hg hk
      rw [hfa] at hf he
      obtain ⟨i1, i2⟩ := ih a ha hf (by omega)
      have hv2 := dist_ok (dn := dn) hg hv
      have ha2 := dist_ok (dn := dn) hg ha
      obtain ⟨k', hk', hkk, hf', ht', hm'⟩ := edge_back hg hk
      have hc := hv2.clo k' hk' (by rw [hkk]; exact hup) (by rw [hf', ht, hv2.src]; omega)
      rw [ht', hf', hm', ht, hfa, hv2.src] at hc
      have := dist_tri hg hv2 ha2 hc.1 (dAt (distS nd l dn a) (s : Int)).toNat s hs i1 (by omega)
      omega
theorem dist_sym {nd : Nat} {l : List Lnk} {dn : List Bool} {a b : Nat} (hg : GOk nd l) (ha : a < nd) (hb : b < nd) : dAt (distS nd l dn a) (b : Int) = dAt (distS nd l dn b) (a : Int) := by
  have h1 := (dist_ok (dn := dn) hg ha).low b hb
  have h2 := (dist_ok (dn := dn) hg hb).low a ha
  by_cases c1 : 0 ≤ dAt (distS nd l dn a) (b : Int)
  · have h3 := dist_back hg ha (dAt (distS nd l dn a) (b : Int)).toNat b hb c1 (by omega)
    have h4 := dist_back hg hb (dAt (distS nd l dn b) (a : Int)).toNat a ha h3.1 (by omega)
    omega
  · by_cases c2 : 0 ≤ dAt (distS nd l dn b) (a : Int)
    · have h4 := dist_back hg hb (dAt (distS nd l dn b) (a : Int)).toNat a ha c2 (by omega)
      omega
    · omega
/-- What Dist tells. -/
noncomputable def distT (nd : Nat) (l : List Lnk) (a b : Int) : Int := if 0 ≤ a ∧ a < nd ∧ 0 ≤ b ∧ b < nd then dAt (distS nd l [] a.toNat) b else -1
/-- What Next tells. -/
noncomputable def nextT (nd : Nat) (l : List Lnk) (a b : Int) : List Int := if 0 ≤ b ∧ b < nd then nextS nd l [] (distS nd l [] b.toNat) a else []
theorem distT_in {nd : Nat} {l : List Lnk} {a b : Nat} (ha : a < nd) (hb : b < nd) : distT nd l (a : Int) (b : Int) = dAt (distS nd l [] a) (b : Int) := by
  unfold distT
  rw [if_pos ⟨by omega, by omega, by omega, by omega⟩, Int.toNat_natCast]
theorem distT_cases (nd : Nat) (a b : Int) : (∃ A B : Nat, a = (A : Int) ∧ b = (B : Int) ∧ A < nd ∧ B < nd) ∨ ¬(0 ≤ a ∧ a < nd ∧ 0 ≤ b ∧ b < nd) := by
  by_cases h : 0 ≤ a ∧ a < nd ∧ 0 ≤ b ∧ b < nd
  · obtain ⟨A, rfl⟩ := Int.eq_ofNat_of_zero_le h.1
    obtain ⟨B, rfl⟩ := Int.eq_ofNat_of_zero_le h.2.2.1
    exact .inl ⟨A, B, rfl, rfl, by omega, by omega⟩
  · exact .inr h
theorem distT_range {nd : Nat} {l : List Lnk} (hg : GOk nd l) (a b : Int) : -1 ≤ distT nd l a b ∧ distT nd l a b ≤ 654311424 := by
  rcases distT_cases nd a b with ⟨A, B, rfl, rfl, hA, hB⟩ | h
  · rw [distT_in hA hB]
    exact ⟨(dist_ok hg hA).low B hB, dist_top hg hA hB⟩
  · unfold distT; rw [if_neg h]; omega
theorem distT_sym {nd : Nat} {l : List Lnk} (hg : GOk nd l) (a b : Int) : distT nd l a b = distT nd l b a := by
  rcases distT_cases nd a b with ⟨A, B, rfl, rfl, hA, hB⟩ | h
  · rw [distT_in hA hB, distT_in hB hA]
    exact dist_sym hg hA hB
  · unfold distT; rw [if_neg h, if_neg (by omega)]
theorem distT_tri {nd : Nat} {l : List Lnk} (hg : GOk nd l) {a b c : Int} (h1 : 0 ≤ distT nd l a b) (h2 : 0 ≤ distT nd l b c) : 0 ≤ distT nd l a c ∧ distT nd l a c ≤ distT nd l a b + distT nd l b c := by
  rcases distT_cases nd a b with ⟨A, B, rfl, rfl, hA, hB⟩ | h
  · rcases distT_cases nd (B : Int) c with ⟨B', C, hBB, rfl, _, hC⟩ | h'
    · rw [distT_in hA hB] at h1 ⊢
      rw [distT_in hB hC] at h2 ⊢
      rw [distT_in hA hC]
      exact dist_tri hg (dist_ok hg hA) (dist_ok hg hB) h1 (dAt (distS nd l [] B) (C : Int)).toNat C hC h2 (by omega)
    · unfold distT at h2; rw [if_neg h'] at h2; omega
  · unfold distT at h1; rw [if_neg h] at h1; omega
theorem gok_check {nd : Nat} {l : List Lnk} (hg : GOk nd l) : (checkS (nd : Int) l).2 = 0 := by
  obtain ⟨h1, h2, h3, h4⟩ := hg
  unfold checkS
  rw [if_neg (by omega), if_neg (by omega)]
  exact h4
theorem isDn_nil (i : Nat) : isDn [] i = false := by unfold isDn; simp
theorem nextT_len (nd : Nat) (l : List Lnk) (a b : Int) : (nextT nd l a b).length ≤ 2 * l.length := by
  unfold nextT nextS
  split
  · split
    · exact Nat.le_trans (List.length_filter_le _ _) (outS_len l a _)
    · simp
  · simp
theorem nextT_sorted (nd : Nat) (l : List Lnk) (a b : Int) : (nextT nd l a b).Pairwise (· < ·) := by
  unfold nextT nextS
  split
  · split
    · exact List.Pairwise.filter _ (outS_sorted l a _)
    · exact List.Pairwise.nil
  · exact List.Pairwise.nil
/-- An edge that goes on. -/
theorem nextT_mem {nd : Nat} {l : List Lnk} (hg : GOk nd l) {a b e : Int} (h : e ∈ nextT nd l a b) : ∃ (k A y : Nat) (x : Lnk), e = (k : Int) ∧ a = (A : Int) ∧ k < 2 * l.length ∧ l[k / 2]? = some x ∧ endsS l e = (a, (y : Int), true) ∧ y < nd ∧ distT nd l (y : Int) b = distT nd l a b - x.m := by
  unfold nextT at h
  split at h
  · rename_i hb
    obtain ⟨B, rfl⟩ := Int.eq_ofNat_of_zero_le hb.1
    have hB : B < nd := by omega
    rw [Int.toNat_natCast] at h
    unfold nextS at h
    split at h
    · rename_i hc
      obtain ⟨A, rfl⟩ := Int.eq_ofNat_of_zero_le hc.2.2.1
      have hA : A < nd := by omega
      obtain ⟨h1, h2⟩ := List.mem_filter.1 h
      obtain ⟨k, hk, rfl, hf⟩ := mem_outS.1 h1
      obtain ⟨a', y, x, hx, he, hfa, hto, hm, ha', hy, _⟩ := edge_facts hg hk
      unfold onS at h2
      simp only [Int.toNat_natCast, isDn_nil, Bool.not_false, Bool.true_and, Bool.and_eq_true, decide_eq_true_eq, beq_iff_eq] at h2
      rw [hto, hm] at h2
      refine ⟨k, A, y, x, rfl, rfl, hk, hx, ?_, hy, ?_⟩
      · rw [he] at hf ⊢
        simp only at hf
        rw [hf]
      · rw [distT_in hy hB, distT_in hA hB, dist_sym hg hy hB, dist_sym hg hA hB]
        omega
    · cases h
  · cases h
/-- There is one wherever there is a way. -/
theorem nextT_some {nd : Nat} {l : List Lnk} (hg : GOk nd l) (a b : Int) : 0 < (nextT nd l a b).length ↔ 0 < distT nd l a b := by
  constructor
  · intro h
    obtain ⟨e, he⟩ := List.exists_mem_of_length_pos h
    unfold nextT at he
    split at he
    · rename_i hb
      obtain ⟨B, rfl⟩ := Int.eq_ofNat_of_zero_le hb.1
      unfold nextS at he
      split at he
      · rename_i hc
        obtain ⟨A, rfl⟩ := Int.eq_ofNat_of_zero_le hc.2.2.1
        rw [distT_in (by omega) (by omega), dist_sym hg (by omega) (by omega)]
        exact hc.2.2.2.2
      · cases he
    · cases he
  · intro h
    rcases distT_cases nd a b with ⟨A, B, rfl, rfl, hA, hB⟩ | h'
    · rw [distT_in hA hB, dist_sym hg hA hB] at h
      have hok := dist_ok (dn := []) hg hB
      have hne : A ≠ B := by rintro rfl; rw [hok.src] at h; omega
      obtain ⟨k, hk, _, ht, hf, he⟩ := hok.via A hA hne (by omega)
      obtain ⟨k', hk', _, hf', ht', hm'⟩ := edge_back hg hk
      refine List.length_pos_of_mem (a := (k' : Int)) ?_
      unfold nextT
      rw [if_pos ⟨by omega, by omega⟩, Int.toNat_natCast]
      unfold nextS
      rw [if_pos ⟨gok_check hg, by rw [hok.len], by omega, by omega, h⟩]
      · refine List.mem_filter.2 ⟨mem_outS.2 ⟨k', hk', rfl, ?_⟩, ?_⟩
        · show frm l k' = _
          rw [hf', ht]
        · unfold onS
          simp only [Int.toNat_natCast, isDn_nil, Bool.not_false, Bool.true_and, Bool.and_eq_true, decide_eq_true_eq, beq_iff_eq]
          rw [ht', hm']
          exact ⟨hf, by omega⟩
    · unfold distT at h; rw [if_neg h'] at h; omega
end Go.Proofs.Ytabgbhkpeeibaaa
