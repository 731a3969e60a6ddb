/- A row of nodes, each joined to the next by so many links: plainly. -/
import Derived.Test.YtcjilpgblbnebaaDgH
namespace Go.Proofs.Ytcjilpgblbnebaa
open Go.RowKit
set_option maxHeartbeats 3200000
set_option maxRecDepth 100000
theorem cnt_even (l : List Lnk) (P : Lnk → Bool) : ∀ n, n ≤ l.length → ((List.range (2 * n)).filter (fun e => decide (e % 2 = 0) && P (l.getD (e / 2) default))).length = (l.take n).countP P := by
  intro n
  induction n with
  | zero => intro _; rfl
  | succ n ih =>
    intro hn
    have hx : l.getD n default = l[n]'(by omega) := by rw [List.getD_eq_getElem?_getD, List.getElem?_eq_getElem (by omega)]; rfl
    rw [show 2 * (n + 1) = 2 * n + 1 + 1 by omega, List.range_succ, List.range_succ, List.filter_append, List.filter_append, List.length_append, List.length_append, ih (by omega), List.take_succ_eq_append_getElem (by omega), List.countP_append]
    have h1 : (2 * n) % 2 = 0 := by omega
    have h2 : (2 * n) / 2 = n := by omega
    have h3 : (2 * n + 1) % 2 ≠ 0 := by omega
    simp only [List.filter_cons, List.filter_nil, h1, h2, h3, decide_true, decide_false, Bool.true_and, Bool.false_and, hx, List.countP_cons, List.countP_nil]
    cases P (l[n]'(by omega)) <;> simp
def dbl (k : Nat) : Nat → List Lnk
  | 0 => []
  | i + 1 => dbl k i ++ List.replicate k ⟨(i : Int), (i : Int) + 1, 5, 0⟩
theorem dbl_len (k m : Nat) : (dbl k m).length = m * k := by
  induction m with
  | zero => simp [dbl]
  | succ m ih => simp only [dbl, List.length_append, List.length_replicate, ih, Nat.succ_mul]
theorem dbl_mem {k m : Nat} {x : Lnk} (h : x ∈ dbl k m) : ∃ i : Nat, i < m ∧ x = ⟨(i : Int), (i : Int) + 1, 5, 0⟩ := by
  induction m with
  | zero => simp [dbl] at h
  | succ m ih =>
    simp only [dbl, List.mem_append, List.mem_replicate] at h
    rcases h with h | ⟨_, rfl⟩
    · obtain ⟨i, hi, rfl⟩ := ih h
      exact ⟨i, by omega, rfl⟩
    · exact ⟨m, by omega, rfl⟩
theorem dbl_has {k m i : Nat} (hk : 0 < k) (hi : i < m) : (⟨(i : Int), (i : Int) + 1, 5, 0⟩ : Lnk) ∈ dbl k m := by
  induction m with
  | zero => omega
  | succ m ih =>
    simp only [dbl, List.mem_append, List.mem_replicate]
    rcases Nat.lt_succ_iff_lt_or_eq.1 hi with h | rfl
    · exact .inl (ih h)
    · exact .inr ⟨by omega, rfl⟩
theorem dbl_count (k m v : Nat) : (dbl k m).countP (fun x => decide (x.a = (v : Int))) = if v < m then k else 0 := by
  induction m with
  | zero => rfl
  | succ m ih =>
    simp only [dbl, List.countP_append, ih, List.countP_replicate]
    by_cases h1 : v < m
    · have h2 : v < m + 1 := by omega
      have h3 : decide ((m : Int) = (v : Int)) = false := decide_eq_false (by omega)
      rw [h3, if_pos h1, if_pos h2]; simp
    · by_cases h2 : v = m
      · subst h2; simp
      · have h4 : ¬ v < m + 1 := by omega
        have h3 : decide ((m : Int) = (v : Int)) = false := decide_eq_false (by omega)
        rw [h3, if_neg h1, if_neg h4]; simp
theorem chk_zero {nd : Int} {l : List Lnk} {i : Nat} (h : ∀ x ∈ l, lnkErr nd x = 0) : (chk nd l i).2 = 0 := by
  induction l generalizing i with
  | nil => rfl
  | cons x r ih =>
    unfold chk
    rw [if_pos (h x (by simp))]
    exact ih fun y hy => h y (by simp [hy])
theorem dbl_ok {k m : Nat} (hm : m < 40) (hl : m * k ≤ 120) : GOk (m + 1) (dbl k m) := by
  refine ⟨by rw [dbl_len]; exact hl, by omega, by omega, chk_zero fun x hx => ?_⟩
  obtain ⟨i, hi, rfl⟩ := dbl_mem hx
  unfold lnkErr
  rw [if_pos (by simp; omega), if_pos (by simp)]
/-- An edge of it. -/
theorem dbl_edge {k m e : Nat} (he : e < 2 * (dbl k m).length) : ∃ i : Nat, i < m ∧ met (dbl k m) e = 5 ∧ ((e % 2 = 0 ∧ frm (dbl k m) e = (i : Int) ∧ tov (dbl k m) e = (i : Int) + 1) ∨ (e % 2 = 1 ∧ frm (dbl k m) e = (i : Int) + 1 ∧ tov (dbl k m) e = (i : Int))) ∧ ((dbl k m).getD (e / 2) default).a = (i : Int) := by
  have hx : (dbl k m)[e / 2]? = some ((dbl k m)[e / 2]'(by omega)) := List.getElem?_eq_getElem _
  obtain ⟨i, hi, hxi⟩ := dbl_mem (List.getElem_mem (show e / 2 < (dbl k m).length by omega))
  rw [hxi] at hx
  have h1 := endsS_some hx
  refine ⟨i, hi, ?_, ?_, ?_⟩
  · unfold met; rw [List.getD_eq_getElem?_getD, hx]; rfl
  · unfold frm tov
    rw [h1]
    rcases Nat.mod_two_eq_zero_or_one e with h | h
    · rw [if_pos h]; exact .inl ⟨h, rfl, rfl⟩
    · rw [if_neg (by omega)]; exact .inr ⟨h, rfl, rfl⟩
  · rw [List.getD_eq_getElem?_getD, hx]; rfl
/-- How far it is to the last node. -/
def dD (m : Nat) : List Int := (List.range (m + 1)).map (fun (v : Nat) => 5 * ((m : Int) - (v : Int)))
theorem dD_at {m v : Nat} (h : v < m + 1) : dAt (dD m) (v : Int) = 5 * ((m : Int) - (v : Int)) := by
  unfold dAt dD
  rw [List.getD_eq_getElem?_getD, Int.toNat_natCast, List.getElem?_map, List.getElem?_range h]
  rfl
theorem dbl_dist {k m : Nat} (hk : 0 < k) (hm : m < 40) (hl : m * k ≤ 120) : distS (m + 1) (dbl k m) [] m = dD m := by
  have hok := dbl_ok hm hl
  refine distS_eq hok ⟨by unfold dD; simp, ?_, fun v hv => by rw [dD_at hv]; omega, fun e he _ h0 => ?_, fun v hv hne h0 => ?_⟩
  · rw [dD_at (by omega)]; omega
  · obtain ⟨i, hi, hm5, hor, _⟩ := dbl_edge he
    rw [hm5]
    rcases hor with ⟨_, hf, ht⟩ | ⟨_, hf, ht⟩
    · rw [hf] at h0 ⊢
      rw [ht, show ((i : Int) + 1) = ((i + 1 : Nat) : Int) by omega, dD_at (show i + 1 < m + 1 by omega), dD_at (show i < m + 1 by omega)]
      omega
    · rw [hf, show ((i : Int) + 1) = ((i + 1 : Nat) : Int) by omega] at h0 ⊢
      rw [ht, dD_at (show i + 1 < m + 1 by omega), dD_at (show i < m + 1 by omega)]
      omega
  · obtain ⟨q, hq, hx⟩ := List.getElem_of_mem (dbl_has hk (show v < m by omega))
    have hx2 : (dbl k m)[(2 * q + 1) / 2]? = some ⟨(v : Int), (v : Int) + 1, 5, 0⟩ := by rw [show (2 * q + 1) / 2 = q by omega, List.getElem?_eq_getElem hq, hx]
    have h1 := endsS_some hx2
    rw [if_neg (by omega)] at h1
    have hf : frm (dbl k m) (2 * q + 1) = ((v + 1 : Nat) : Int) := by unfold frm; rw [h1]; simp
    have ht : tov (dbl k m) (2 * q + 1) = (v : Int) := by unfold tov; rw [h1]
    have hmt : met (dbl k m) (2 * q + 1) = 5 := by unfold met; rw [List.getD_eq_getElem?_getD, hx2]; rfl
    refine ⟨2 * q + 1, by omega, isDn_nil _, ht, ?_, ?_⟩
    · rw [hf, dD_at (by omega)]; omega
    · rw [hf, hmt, dD_at hv, dD_at (by omega)]; omega
theorem dbl_on {k m v e : Nat} (hv : v < m) (he : e < 2 * (dbl k m).length) : (((endsS (dbl k m) (e : Int)).1 == (v : Int)) && onS (dbl k m) [] (dD m) (v : Int) (e : Int)) = (decide (e % 2 = 0) && decide (((dbl k m).getD (e / 2) default).a = (v : Int))) := by
  obtain ⟨i, hi, hm5, hor, ha⟩ := dbl_edge he
  have hf0 : (endsS (dbl k m) (e : Int)).1 = frm (dbl k m) e := rfl
  rw [hf0, ha]
  unfold onS
  simp only [Int.toNat_natCast, isDn_nil, Bool.not_false, Bool.true_and, hm5]
  rw [Bool.eq_iff_iff]
  simp only [Bool.and_eq_true, beq_iff_eq, decide_eq_true_eq]
  rcases hor with ⟨h2, hf, ht⟩ | ⟨h2, hf, ht⟩
  · rw [hf, ht, show ((i : Int) + 1) = ((i + 1 : Nat) : Int) by omega, dD_at (show i + 1 < m + 1 by omega), dD_at (show v < m + 1 by omega)]
    omega
  · rw [hf, ht, dD_at (show i < m + 1 by omega), dD_at (show v < m + 1 by omega)]
    omega
theorem dbl_next {k m v : Nat} (hm : m < 40) (hl : m * k ≤ 120) (hv : v < m) : nxL (m + 1) (dbl k m) [] (dD m) v = List.replicate k (v + 1) := by
  have hok := dbl_ok hm hl
  have hQ : nextS ((m + 1 : Nat) : Int) (dbl k m) [] (dD m) (v : Int) = (outS (dbl k m) (v : Int) (2 * (dbl k m).length)).filter (onS (dbl k m) [] (dD m) (v : Int)) := by
    unfold nextS
    rw [if_pos ⟨gok_check hok, by unfold dD; simp, by omega, by omega, by rw [dD_at (by omega)]; omega⟩]
  rw [List.eq_replicate_iff]
  constructor
  · unfold nxL
    rw [List.length_map, hQ]
    unfold outS
    rw [List.filter_filter, List.filter_map, List.length_map]
    have h1 : (List.range (2 * (dbl k m).length)).filter ((fun a => onS (dbl k m) [] (dD m) (v : Int) a && ((endsS (dbl k m) a).1 == (v : Int))) ∘ fun (i : Nat) => (i : Int)) = (List.range (2 * (dbl k m).length)).filter (fun e => decide (e % 2 = 0) && (fun x : Lnk => decide (x.a = (v : Int))) ((dbl k m).getD (e / 2) default)) := by
      refine List.filter_congr fun e he => ?_
      rw [List.mem_range] at he
      simp only [Function.comp_apply]
      rw [Bool.and_comm]
      exact dbl_on hv he
    rw [h1]
    exact (cnt_even (dbl k m) (fun x : Lnk => decide (x.a = (v : Int))) _ (Nat.le_refl _)).trans (by rw [List.take_length, dbl_count, if_pos hv])
  · intro b hb
    unfold nxL at hb
    rw [List.mem_map] at hb
    obtain ⟨e, he, rfl⟩ := hb
    obtain ⟨q, b, rfl, hq, _, hends, hto, hbn, hb0, hb1, hdiff⟩ := nextS_mem hok he
    obtain ⟨i, hi, hm5, hor, _⟩ := dbl_edge hq
    rw [Int.toNat_natCast, hto, Int.toNat_natCast]
    rw [hm5, dD_at (show v < m + 1 by omega), dD_at hbn] at hdiff
    omega
theorem trip_rep (k : Nat) (hk : 0 < k) (t : Nat × Nat × Nat) : trip (List.replicate k t) = (k * t.1, t.2.1 + 1, t.2.2 + 1) := by
  induction k with
  | zero => omega
  | succ k ih =>
    rw [List.replicate_succ', trip_snoc]
    by_cases h0 : k = 0
    · subst h0
      simp [trip, minL, maxL]
    · rw [ih (by omega)]
      simp [h0, Nat.succ_mul]
/-- Its three numbers. -/
theorem dbl_tr {k m : Nat} (hk : 0 < k) (hm : m < 40) (hl : m * k ≤ 120) : ∀ (d v : Nat), v + d = m → tr (nxL (m + 1) (dbl k m) [] (dD m)) (dD m) v = (k ^ d, d, d) := by
  have hok := dbl_ok hm hl
  intro d
  induction d with
  | zero =>
    intro v hv
    rw [tr_zero (by rw [dD_at (by omega)]; omega)]
    rfl
  | succ d ih =>
    intro v hv
    rw [tr_step (nearer hok) (by rw [dD_at (by omega)]; omega), dbl_next hm hl (by omega), List.map_replicate, ih (v + 1) (by omega), trip_rep k hk]
    simp [Nat.pow_succ, Nat.mul_comm]
/-- How far it is from the first node. -/
def dE (m : Nat) : List Int := (List.range (m + 1)).map (fun (v : Nat) => 5 * (v : Int))
theorem dE_at {m v : Nat} (h : v < m + 1) : dAt (dE m) (v : Int) = 5 * (v : Int) := by
  unfold dAt dE
  rw [List.getD_eq_getElem?_getD, Int.toNat_natCast, List.getElem?_map, List.getElem?_range h]
  rfl
theorem dbl_from {k m : Nat} (hk : 0 < k) (hm : m < 40) (hl : m * k ≤ 120) : distS (m + 1) (dbl k m) [] 0 = dE m := by
  have hok := dbl_ok hm hl
  refine distS_eq hok ⟨by unfold dE; simp, ?_, fun v hv => by rw [dE_at hv]; omega, fun e he _ h0 => ?_, fun v hv hne h0 => ?_⟩
  · rw [dE_at (by omega)]; rfl
  · obtain ⟨i, hi, hm5, hor, _⟩ := dbl_edge he
    rw [hm5]
    rcases hor with ⟨_, hf, ht⟩ | ⟨_, hf, ht⟩
    · rw [hf] at h0 ⊢
      rw [ht, show ((i : Int) + 1) = ((i + 1 : Nat) : Int) by omega, dE_at (show i + 1 < m + 1 by omega), dE_at (show i < m + 1 by omega)]
      omega
    · rw [hf, show ((i : Int) + 1) = ((i + 1 : Nat) : Int) by omega] at h0 ⊢
      rw [ht, dE_at (show i + 1 < m + 1 by omega), dE_at (show i < m + 1 by omega)]
      omega
  · obtain ⟨u, rfl⟩ : ∃ u, v = u + 1 := ⟨v - 1, by omega⟩
    obtain ⟨q, hq, hx⟩ := List.getElem_of_mem (dbl_has hk (show u < m by omega))
    have hx2 : (dbl k m)[(2 * q) / 2]? = some ⟨(u : Int), (u : Int) + 1, 5, 0⟩ := by rw [show (2 * q) / 2 = q by omega, List.getElem?_eq_getElem hq, hx]
    have h1 := endsS_some hx2
    rw [if_pos (by omega)] at h1
    have hf : frm (dbl k m) (2 * q) = (u : Int) := by unfold frm; rw [h1]
    have ht : tov (dbl k m) (2 * q) = ((u + 1 : Nat) : Int) := by unfold tov; rw [h1]; simp
    have hmt : met (dbl k m) (2 * q) = 5 := by unfold met; rw [List.getD_eq_getElem?_getD, hx2]; rfl
    refine ⟨2 * q, by omega, isDn_nil _, ht, ?_, ?_⟩
    · rw [hf, dE_at (by omega)]; omega
    · rw [hf, hmt, dE_at hv, dE_at (by omega)]; omega
theorem dbl_ways {k m : Nat} (hk : 0 < k) (hm : m < 40) (hl : m * k ≤ 120) : waysS ((m + 1 : Nat) : Int) (dbl k m) [] 0 (m : Int) = (min (k ^ m) capB, m, m, true) := by
  have hok := dbl_ok hm hl
  have hd := dbl_dist hk hm hl
  have Q : waysS ((m + 1 : Nat) : Int) (dbl k m) [] 0 (m : Int) = _ := if_pos ⟨gok_check hok, by omega, by omega, by omega, by omega, by rw [Int.toNat_natCast, Int.toNat_natCast, hd]; rw [show (0 : Int) = ((0 : Nat) : Int) from rfl, dD_at (by omega)]; omega⟩
  rw [Q]
  simp only [Int.toNat_natCast, hd, show (0 : Int).toNat = 0 from rfl, dbl_tr hk hm hl m 0 (by omega)]
theorem dbl_uses {k m : Nat} (hk : 0 < k) (hm : m < 40) (hl : m * k ≤ 120) : (usesS ((m + 1 : Nat) : Int) (dbl k m) [] 0 (m : Int)).length = m * k := by
  have hok := dbl_ok hm hl
  have hd := dbl_dist hk hm hl
  have he := dbl_from hk hm hl
  have Q : usesS ((m + 1 : Nat) : Int) (dbl k m) [] 0 (m : Int) = _ := if_pos ⟨gok_check hok, by omega, by omega, by omega, by omega, by rw [Int.toNat_natCast, show (0 : Int).toNat = 0 from rfl, he, dE_at (by omega)]; omega⟩
  rw [Q]
  simp only [Int.toNat_natCast, show (0 : Int).toNat = 0 from rfl, hd, he]
  unfold edgesL
  rw [List.filter_map, List.length_map]
  have h1 : (List.range (2 * (dbl k m).length)).filter (onU (dbl k m) [] (dE m) (dD m) (m : Int) ∘ fun (i : Nat) => (i : Int)) = (List.range (2 * (dbl k m).length)).filter (fun e => decide (e % 2 = 0) && (fun _ : Lnk => true) ((dbl k m).getD (e / 2) default)) := by
    refine List.filter_congr fun e he => ?_
    rw [List.mem_range] at he
    simp only [Function.comp_apply, Bool.and_true]
    obtain ⟨i, hi, hm5, hor, _⟩ := dbl_edge he
    unfold onU
    simp only [Int.toNat_natCast, isDn_nil, Bool.not_false, Bool.true_and, hm5]
    rw [Bool.eq_iff_iff]
    simp only [Bool.and_eq_true, beq_iff_eq, decide_eq_true_eq]
    rcases hor with ⟨h2, hf, ht⟩ | ⟨h2, hf, ht⟩
    · rw [hf, ht, show ((i : Int) + 1) = ((i + 1 : Nat) : Int) by omega, dD_at (show i + 1 < m + 1 by omega), dE_at (show i < m + 1 by omega), dE_at (show m < m + 1 by omega)]
      omega
    · rw [hf, ht, show ((i : Int) + 1) = ((i + 1 : Nat) : Int) by omega, dD_at (show i < m + 1 by omega), dE_at (show i + 1 < m + 1 by omega), dE_at (show m < m + 1 by omega)]
      omega
  rw [h1]
  exact (cnt_even (dbl k m) (fun _ => true) _ (Nat.le_refl _)).trans (by rw [List.take_length, List.countP_true, dbl_len])
end Go.Proofs.Ytcjilpgblbnebaa
