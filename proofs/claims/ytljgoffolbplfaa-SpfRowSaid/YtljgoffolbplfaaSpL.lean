/- Nodes in a row, plainly: how far they are. -/
import Derived.Test.YtljgoffolbplfaaSpJ
namespace Go.Proofs.Ytljgoffolbplfaa
open Go.RowKit
set_option maxHeartbeats 3200000
set_option maxRecDepth 100000
def rm (M : List Int) (k : Nat) : Int := 1 + (M.getD k 0) % 1024
theorem rm_pos (M : List Int) (k : Nat) : 1 ≤ rm M k ∧ rm M k ≤ 1024 := by unfold rm; omega
/-- The links of a row. -/
def rowL (M : List Int) : Nat → List Lnk
  | 0 => []
  | k + 1 => rowL M k ++ [⟨(k : Int), (k : Int) + 1, rm M k, 0⟩]
theorem rowL_len (M : List Int) (k : Nat) : (rowL M k).length = k := by
  induction k with
  | zero => rfl
  | succ k ih => simp [rowL, ih]
theorem rowL_get (M : List Int) {N k : Nat} (h : k < N) : (rowL M N)[k]? = some ⟨(k : Int), (k : Int) + 1, rm M k, 0⟩ := by
  induction N with
  | zero => omega
  | succ N ih =>
    simp only [rowL]
    by_cases hk : k < N
    · rw [List.getElem?_append_left (by rw [rowL_len]; exact hk)]; exact ih hk
    · obtain rfl : k = N := by omega
      rw [List.getElem?_append_right (by rw [rowL_len]; omega), rowL_len, Nat.sub_self]; rfl
theorem chk_ok {nd : Int} {l : List Lnk} {i : Nat} (h : ∀ x ∈ l, lnkErr nd x = 0) : (chk nd l i).2 = 0 := by
  induction l generalizing i with
  | nil => rfl
  | cons a r ih =>
    simp only [chk]
    rw [if_pos (h a (List.mem_cons_self ..))]
    exact ih (fun x hx => h x (List.mem_cons_of_mem _ hx))
theorem row_ok (M : List Int) {N : Nat} (h1 : 1 ≤ N) (h2 : N ≤ 29) : GOk (N + 1) (rowL M N) := by
  refine ⟨by rw [rowL_len]; omega, by omega, by omega, chk_ok fun x hx => ?_⟩
  obtain ⟨k, hk, rfl⟩ := List.getElem_of_mem hx
  have hk2 := hk
  rw [rowL_len] at hk2
  have := rowL_get M hk2
  rw [List.getElem?_eq_getElem hk] at this
  rw [Option.some.inj this]
  have := rm_pos M k
  unfold lnkErr
  rw [if_pos (by simp; omega), if_pos (by simp; omega)]
/-- How far node v is from the first. -/
def pre (M : List Int) : Nat → Int
  | 0 => 0
  | k + 1 => pre M k + rm M k
theorem pre_mono (M : List Int) {a b : Nat} (h : a ≤ b) : pre M a ≤ pre M b := by
  induction b with
  | zero => obtain rfl : a = 0 := by omega
            exact Int.le_refl _
  | succ b ih =>
    rcases Nat.lt_or_ge b a with h1 | h1
    · obtain rfl : a = b + 1 := by omega
      exact Int.le_refl _
    · have := ih h1
      have := rm_pos M b
      simp only [pre]; omega
theorem pre_top (M : List Int) (k : Nat) : 0 ≤ pre M k ∧ pre M k ≤ 1024 * (k : Int) := by
  induction k with
  | zero => simp [pre]
  | succ k ih => have := rm_pos M k; simp only [pre]; omega
def dR (M : List Int) (s v : Nat) : Int := pre M (max s v) - pre M (min s v)
def ovR (s v go : Nat) : Bool := decide (min s v ≤ go) && decide (go < max s v)
theorem dR_nonneg (M : List Int) (s v : Nat) : 0 ≤ dR M s v := by
  have := pre_mono M (show min s v ≤ max s v by omega)
  unfold dR; omega
theorem dAt_map {N v : Nat} (f : Nat → Int) (h : v < N) : dAt ((List.range N).map f) (v : Int) = f v := by
  unfold dAt
  rw [List.getD_eq_getElem?_getD, Int.toNat_natCast, List.getElem?_map, List.getElem?_range h]; rfl
theorem row_edges (M : List Int) {N e : Nat} (h : e < 2 * N) : ∃ a b : Nat, frm (rowL M N) e = (a : Int) ∧ tov (rowL M N) e = (b : Int) ∧ met (rowL M N) e = rm M (e / 2) ∧ ((a = e / 2 ∧ b = e / 2 + 1) ∨ (a = e / 2 + 1 ∧ b = e / 2)) := by
  have hx := rowL_get M (show e / 2 < N by omega)
  have h2 := endsS_some hx
  unfold frm tov met
  rw [h2, List.getD_eq_getElem?_getD, hx]
  rcases Nat.mod_two_eq_zero_or_one e with hm | hm
  · rw [if_pos hm]
    exact ⟨e / 2, e / 2 + 1, rfl, by simp, rfl, .inl ⟨rfl, rfl⟩⟩
  · rw [if_neg (by omega)]
    exact ⟨e / 2 + 1, e / 2, by simp, rfl, rfl, .inr ⟨rfl, rfl⟩⟩
theorem dR_step (M : List Int) (s k : Nat) : (s ≤ k → dR M s (k + 1) = dR M s k + rm M k) ∧ (k < s → dR M s k = dR M s (k + 1) + rm M k) := by
  constructor
  · intro h
    unfold dR
    rw [show max s (k + 1) = k + 1 by omega, show min s (k + 1) = s by omega, show max s k = k by omega, show min s k = s by omega]
    simp only [pre]; omega
  · intro h
    unfold dR
    rw [show max s (k + 1) = s by omega, show min s (k + 1) = k + 1 by omega, show max s k = s by omega, show min s k = k by omega]
    simp only [pre]; omega
theorem row_dist (M : List Int) {N s : Nat} (dn : List Bool) (go : Nat) (hs : s < N + 1) (hdn : ∀ k, k < N → isDn dn k = decide (k = go)) :
    DistOk (N + 1) (rowL M N) dn s ((List.range (N + 1)).map fun v => if ovR s v go then -1 else dR M s v) := by
  have hA : ∀ v : Nat, v < N + 1 → dAt ((List.range (N + 1)).map fun v => if ovR s v go then -1 else dR M s v) (v : Int) = if ovR s v go then -1 else dR M s v := fun v hv => dAt_map _ hv
  refine ⟨by simp, ?_, fun v hv => ?_, fun e he hu h0 => ?_, fun v hv hvs h0 => ?_⟩
  · rw [hA s hs]
    have : ovR s s go = false := by unfold ovR; simp
    rw [this]; simp [dR]
  · rw [hA v hv]
    have := dR_nonneg M s v
    split <;> omega
  · rw [rowL_len] at he
    obtain ⟨a, b, hf, ht, hm, hab⟩ := row_edges M he
    rw [hdn _ (by omega)] at hu
    simp only [decide_eq_false_iff_not] at hu
    rw [hf] at h0 ⊢
    rw [ht, hm]
    rw [hA a (by omega)] at h0 ⊢
    rw [hA b (by omega)]
    have n1 := dR_nonneg M s a
    have n2 := dR_nonneg M s b
    have st := dR_step M s (e / 2)
    have rp := rm_pos M (e / 2)
    have ho : ovR s a go = false := by
      cases h : ovR s a go with
      | false => rfl
      | true => rw [h] at h0; simp at h0
    have ho2 : ovR s b go = false := by
      unfold ovR at ho ⊢
      simp only [Bool.and_eq_false_iff, decide_eq_false_iff_not] at ho ⊢
      omega
    rw [ho, ho2]
    simp only [Bool.false_eq_true, if_false]
    refine ⟨n2, ?_⟩
    rcases hab with ⟨rfl, rfl⟩ | ⟨rfl, rfl⟩
    · rcases Nat.lt_or_ge (e / 2) s with h | h
      · have := st.2 h; omega
      · have := st.1 h; omega
    · rcases Nat.lt_or_ge (e / 2) s with h | h
      · have := st.2 h; omega
      · have := st.1 h; omega
  · rw [hA v hv] at h0
    have ho : ovR s v go = false := by
      cases h : ovR s v go with
      | false => rfl
      | true => rw [h] at h0; simp at h0
    have main : ∃ e a : Nat, e < 2 * N ∧ frm (rowL M N) e = (a : Int) ∧ tov (rowL M N) e = (v : Int) ∧ met (rowL M N) e = rm M (e / 2) ∧ a < N + 1 ∧ e / 2 ≠ go ∧ ovR s a go = false ∧ dR M s v = dR M s a + rm M (e / 2) := by
      rcases Nat.lt_or_ge v s with h | h
      · refine ⟨2 * v + 1, v + 1, by omega, ?_⟩
        have hx := rowL_get M (show (2 * v + 1) / 2 < N by omega)
        have h2 := endsS_some hx
        have hq : (2 * v + 1) / 2 = v := by omega
        unfold frm tov met
        rw [h2, List.getD_eq_getElem?_getD, hx, if_neg (by omega), hq]
        refine ⟨by simp, rfl, rfl, by omega, ?_, ?_, (dR_step M s v).2 h⟩
        · unfold ovR at ho
          simp only [Bool.and_eq_false_iff, decide_eq_false_iff_not] at ho
          omega
        · unfold ovR at ho ⊢
          simp only [Bool.and_eq_false_iff, decide_eq_false_iff_not] at ho ⊢
          omega
      · obtain ⟨u, rfl⟩ : ∃ u, v = u + 1 := ⟨v - 1, by omega⟩
        refine ⟨2 * u, u, by omega, ?_⟩
        have hx := rowL_get M (show (2 * u) / 2 < N by omega)
        have h2 := endsS_some hx
        have hq : (2 * u) / 2 = u := by omega
        unfold frm tov met
        rw [h2, List.getD_eq_getElem?_getD, hx, if_pos (by omega), hq]
        refine ⟨rfl, by simp, rfl, by omega, ?_, ?_, (dR_step M s u).1 (by omega)⟩
        · unfold ovR at ho
          simp only [Bool.and_eq_false_iff, decide_eq_false_iff_not] at ho
          omega
        · unfold ovR at ho ⊢
          simp only [Bool.and_eq_false_iff, decide_eq_false_iff_not] at ho ⊢
          omega
    obtain ⟨e, a, he, hf, ht, hm, ha, hgo, hoa, hd⟩ := main
    refine ⟨e, by rw [rowL_len]; exact he, by rw [hdn _ (by omega)]; simpa using hgo, ht, ?_, ?_⟩
    · rw [hf, hA a ha, hoa]
      simp only [Bool.false_eq_true, if_false]
      exact dR_nonneg M s a
    · rw [hf, hA a ha, hA v hv, hoa, ho, hm]
      simp only [Bool.false_eq_true, if_false]
      exact hd
/-- What the law adds up, of the first K links. -/
def part (M : List Int) (s i K : Nat) : Int := pre M (max (min s i) (min K (max s i))) - pre M (min s i)
def over (s i go K : Nat) : Bool := ovR s i go && decide (go < K)
theorem part_zero (M : List Int) (s i : Nat) : part M s i 0 = 0 := by
  unfold part
  rw [show max (min s i) (min 0 (max s i)) = min s i by omega]; omega
theorem part_in (M : List Int) {s i K : Nat} (h : min s i ≤ K ∧ K < max s i) : part M s i (K + 1) = part M s i K + rm M K := by
  unfold part
  rw [show max (min s i) (min (K + 1) (max s i)) = K + 1 by omega, show max (min s i) (min K (max s i)) = K by omega]
  simp only [pre]; omega
theorem part_out (M : List Int) {s i K : Nat} (h : ¬(min s i ≤ K ∧ K < max s i)) : part M s i (K + 1) = part M s i K := by
  unfold part
  rw [show max (min s i) (min (K + 1) (max s i)) = max (min s i) (min K (max s i)) by omega]
theorem part_all (M : List Int) {s i N : Nat} (h : max s i ≤ N) : part M s i N = dR M s i := by
  unfold part dR
  rw [show max (min s i) (min N (max s i)) = max s i by omega]
theorem part_top (M : List Int) (s i K : Nat) : 0 ≤ part M s i K ∧ part M s i K ≤ 1024 * (max s i : Nat) := by
  have h1 := pre_mono M (show min s i ≤ max (min s i) (min K (max s i)) by omega)
  have h2 := pre_mono M (show max (min s i) (min K (max s i)) ≤ max s i by omega)
  have h3 := pre_top M (min s i)
  have h4 := pre_top M (max s i)
  unfold part; omega
theorem over_in {s i go K : Nat} (h : min s i ≤ K ∧ K < max s i) : over s i go (K + 1) = (over s i go K || decide (K = go)) := by
  unfold over ovR
  rw [Bool.eq_iff_iff]
  simp only [Bool.and_eq_true, Bool.or_eq_true, decide_eq_true_eq]
  omega
theorem over_out {s i go K : Nat} (h : ¬(min s i ≤ K ∧ K < max s i)) : over s i go (K + 1) = over s i go K := by
  unfold over ovR
  rw [Bool.eq_iff_iff]
  simp only [Bool.and_eq_true, decide_eq_true_eq]
  omega
theorem over_all {s i go N : Nat} (h : go < N) : over s i go N = ovR s i go := by
  unfold over
  rw [decide_eq_true h, Bool.and_true]
end Go.Proofs.Ytljgoffolbplfaa
