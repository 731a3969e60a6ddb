/- A grid of nodes: plainly. -/
import Derived.Test.YtcjilpgblbnebaaDgL
namespace Go.Proofs.Ytcjilpgblbnebaa
open Go.RowKit
set_option maxHeartbeats 3200000
set_option maxRecDepth 100000
theorem even_map (l : List Lnk) (P : Lnk → Bool) (f : Lnk → Nat) : ∀ n, n ≤ l.length → ((List.range (2 * n)).filter (fun e => decide (e % 2 = 0) && P (l.getD (e / 2) default))).map (fun e => f (l.getD (e / 2) default)) = ((l.take n).filter P).map f := by
  intro n
  induction n with
  | zero => intro _; rfl
  | succ n ih =>
    intro hn
    have hx : l.getD n default = l[n]'(by omega) := by rw [List.getD_eq_getElem?_getD, List.getElem?_eq_getElem (by omega)]; rfl
    rw [show 2 * (n + 1) = 2 * n + 1 + 1 by omega, List.range_succ, List.range_succ, List.filter_append, List.filter_append, List.map_append, List.map_append, ih (by omega), List.take_succ_eq_append_getElem (by omega), List.filter_append, List.map_append]
    have h1 : (2 * n) % 2 = 0 := by omega
    have h2 : (2 * n) / 2 = n := by omega
    have h3 : (2 * n + 1) % 2 ≠ 0 := by omega
    simp only [List.filter_cons, List.filter_nil, h1, h2, h3, decide_true, decide_false, Bool.true_and, Bool.false_and, hx]
    cases P (l[n]'(by omega))
    · simp
    · simp [h2, List.getElem?_eq_getElem (show n < l.length by omega)]
/-- How many steps a node lies from the first one. -/
def stp (a v : Nat) : Nat := v % a + v / a
def gcell (a b u : Nat) : List Lnk := (if u % a + 1 < a then [⟨(u : Int), ((u + 1 : Nat) : Int), 2, 0⟩] else []) ++ (if u / a + 1 < b then [⟨(u : Int), ((u + a : Nat) : Int), 2, 0⟩] else [])
def grd (a b : Nat) : Nat → List Lnk
  | 0 => []
  | u + 1 => grd a b u ++ gcell a b u
theorem lt_of_row {a b v : Nat} (hx : v % a < a) (hy : v / a < b) : v < a * b := by
  have h1 := Nat.div_add_mod v a
  have h2 : a * (v / a + 1) ≤ a * b := Nat.mul_le_mul_left a hy
  rw [Nat.mul_add, Nat.mul_one] at h2
  omega
theorem row_lt {a b v : Nat} (ha : 0 < a) (h : v < a * b) : v % a < a ∧ v / a < b := ⟨Nat.mod_lt _ ha, Nat.div_lt_of_lt_mul h⟩
theorem right_is {a v : Nat} (h : v % a + 1 < a) : (v + 1) % a = v % a + 1 ∧ (v + 1) / a = v / a := by
  have h1 := Nat.div_add_mod v a
  have e : v + 1 = a * (v / a) + (v % a + 1) := by omega
  refine ⟨?_, ?_⟩
  · rw [e, Nat.mul_add_mod, Nat.mod_eq_of_lt h]
  · conv => lhs; rw [e]
    rw [Nat.mul_add_div (by omega), Nat.div_eq_of_lt h, Nat.add_zero]
theorem down_is {a v : Nat} (ha : 0 < a) : (v + a) % a = v % a ∧ (v + a) / a = v / a + 1 := ⟨Nat.add_mod_right _ _, Nat.add_div_right _ ha⟩
theorem gcell_mem {a b u : Nat} (hu : u < a * b) {x : Lnk} (h : x ∈ gcell a b u) : ∃ u' : Nat, x = ⟨(u : Int), (u' : Int), 2, 0⟩ ∧ u' < a * b ∧ stp a u' = stp a u + 1 := by
  have ha : 0 < a := Nat.pos_of_ne_zero fun h0 => by subst h0; simp at hu
  obtain ⟨h1, h2⟩ := row_lt ha hu
  unfold gcell at h
  rw [List.mem_append] at h
  rcases h with h | h
  · split at h
    · rename_i h3
      obtain ⟨e1, e2⟩ := right_is h3
      simp only [List.mem_singleton] at h
      refine ⟨u + 1, h, lt_of_row (by rw [e1]; exact h3) (by rw [e2]; exact h2), ?_⟩
      unfold stp; rw [e1, e2]; omega
    · simp at h
  · split at h
    · rename_i h3
      obtain ⟨e1, e2⟩ := down_is (v := u) ha
      simp only [List.mem_singleton] at h
      refine ⟨u + a, h, lt_of_row (by rw [e1]; exact h1) (by rw [e2]; exact h3), ?_⟩
      unfold stp; rw [e1, e2]; omega
    · simp at h
theorem grd_mem {a b N : Nat} (hN : N ≤ a * b) {x : Lnk} (h : x ∈ grd a b N) : ∃ u u' : Nat, x = ⟨(u : Int), (u' : Int), 2, 0⟩ ∧ u < a * b ∧ u' < a * b ∧ stp a u' = stp a u + 1 := by
  induction N with
  | zero => simp [grd] at h
  | succ N ih =>
    simp only [grd, List.mem_append] at h
    rcases h with h | h
    · exact ih (by omega) h
    · obtain ⟨u', h1, h2, h3⟩ := gcell_mem (by omega) h
      exact ⟨N, u', h1, by omega, h2, h3⟩
theorem grd_has {a b N u : Nat} (hu : u < N) {x : Lnk} (h : x ∈ gcell a b u) : x ∈ grd a b N := by
  induction N with
  | zero => omega
  | succ N ih =>
    simp only [grd, List.mem_append]
    rcases Nat.lt_succ_iff_lt_or_eq.1 hu with h1 | rfl
    · exact .inl (ih h1)
    · exact .inr h
theorem gcell_len (a b u : Nat) : (gcell a b u).length ≤ 2 := by
  unfold gcell
  split <;> split <;> simp
theorem grd_len (a b N : Nat) : (grd a b N).length ≤ 2 * N := by
  induction N with
  | zero => simp [grd]
  | succ N ih =>
    have := gcell_len a b N
    simp only [grd, List.length_append]; omega
theorem gcell_a {a b u : Nat} {x : Lnk} (h : x ∈ gcell a b u) : x.a = (u : Int) := by
  unfold gcell at h
  rw [List.mem_append] at h
  rcases h with h | h
  · split at h
    · simp only [List.mem_singleton] at h; rw [h]
    · simp at h
  · split at h
    · simp only [List.mem_singleton] at h; rw [h]
    · simp at h
theorem grd_at (a b v : Nat) : ∀ N, (grd a b N).filter (fun x => decide (x.a = (v : Int))) = if v < N then gcell a b v else [] := by
  intro N
  induction N with
  | zero => rfl
  | succ N ih =>
    simp only [grd, List.filter_append, ih]
    by_cases h1 : N = v
    · subst h1
      rw [if_neg (by omega), if_pos (by omega), List.nil_append, List.filter_eq_self]
      intro x hx
      rw [gcell_a hx]; simp
    · have h2 : (gcell a b N).filter (fun x => decide (x.a = (v : Int))) = [] := by
        rw [List.filter_eq_nil_iff]
        intro x hx
        rw [gcell_a hx]
        simp; omega
      rw [h2, List.append_nil]
      by_cases h3 : v < N
      · rw [if_pos h3, if_pos (by omega)]
      · rw [if_neg h3, if_neg (by omega)]
theorem mul_le_36 {a b : Nat} (ha : a ≤ 6) (hb : b ≤ 6) : a * b ≤ 36 := Nat.mul_le_mul ha hb
theorem grd_ok {a b : Nat} (ha : 0 < a) (hb : 0 < b) (ha6 : a ≤ 6) (hb6 : b ≤ 6) : GOk (a * b) (grd a b (a * b)) := by
  have h36 := mul_le_36 ha6 hb6
  have hpos : 0 < a * b := Nat.mul_pos ha hb
  refine ⟨by have := grd_len a b (a * b); omega, by omega, by omega, chk_zero fun x hx => ?_⟩
  obtain ⟨u, u', rfl, h1, h2, h3⟩ := grd_mem (Nat.le_refl _) hx
  have hne : u ≠ u' := fun h => by subst h; omega
  unfold lnkErr
  rw [if_pos (by simp; omega), if_pos (by simp)]
/-- An edge of it. -/
theorem grd_edge {a b e : Nat} (he : e < 2 * (grd a b (a * b)).length) : ∃ u u' : Nat, u < a * b ∧ u' < a * b ∧ stp a u' = stp a u + 1 ∧ met (grd a b (a * b)) e = 2 ∧ ((e % 2 = 0 ∧ frm (grd a b (a * b)) e = (u : Int) ∧ tov (grd a b (a * b)) e = (u' : Int)) ∨ (e % 2 = 1 ∧ frm (grd a b (a * b)) e = (u' : Int) ∧ tov (grd a b (a * b)) e = (u : Int))) ∧ (grd a b (a * b)).getD (e / 2) default = ⟨(u : Int), (u' : Int), 2, 0⟩ := by
  have hx : (grd a b (a * b))[e / 2]? = some ((grd a b (a * b))[e / 2]'(by omega)) := List.getElem?_eq_getElem _
  obtain ⟨u, u', hxi, h1, h2, h3⟩ := grd_mem (Nat.le_refl _) (List.getElem_mem (show e / 2 < (grd a b (a * b)).length by omega))
  rw [hxi] at hx
  have he := endsS_some hx
  refine ⟨u, u', h1, h2, h3, ?_, ?_, ?_⟩
  · unfold met; rw [List.getD_eq_getElem?_getD, hx]; rfl
  · unfold frm tov
    rw [he]
    rcases Nat.mod_two_eq_zero_or_one e with h | h
    · rw [if_pos h]; exact .inl ⟨h, rfl, rfl⟩
    · rw [if_neg (by omega)]; exact .inr ⟨h, rfl, rfl⟩
  · rw [List.getD_eq_getElem?_getD, hx]; rfl
theorem stp_le {a b v : Nat} (ha : 0 < a) (hb : 0 < b) (h : v < a * b) : stp a v ≤ a + b - 2 := by
  obtain ⟨h1, h2⟩ := row_lt ha h
  unfold stp; omega
theorem last_row {a b : Nat} (ha : 0 < a) (hb : 0 < b) : (a * b - 1) % a = a - 1 ∧ (a * b - 1) / a = b - 1 := by
  obtain ⟨b', rfl⟩ : ∃ b', b = b' + 1 := ⟨b - 1, by omega⟩
  have e : a * (b' + 1) - 1 = a * b' + (a - 1) := by rw [Nat.mul_add, Nat.mul_one]; omega
  rw [e]
  refine ⟨?_, ?_⟩
  · rw [Nat.mul_add_mod, Nat.mod_eq_of_lt (by omega)]
  · rw [Nat.mul_add_div (by omega), Nat.div_eq_of_lt (by omega)]; omega
theorem stp_last {a b : Nat} (ha : 0 < a) (hb : 0 < b) : stp a (a * b - 1) = a + b - 2 := by
  obtain ⟨h1, h2⟩ := last_row ha hb
  unfold stp; rw [h1, h2]; omega
theorem stp_max {a b v : Nat} (ha : 0 < a) (h : v < a * b) (hv : v ≠ a * b - 1) : v % a + 1 < a ∨ v / a + 1 < b := by
  obtain ⟨h1, h2⟩ := row_lt ha h
  have hb : 0 < b := Nat.lt_of_le_of_lt (Nat.zero_le _) h2
  obtain ⟨l1, l2⟩ := last_row ha hb
  rcases Nat.lt_or_ge (v % a + 1) a with h3 | h3
  · exact .inl h3
  · rcases Nat.lt_or_ge (v / a + 1) b with h4 | h4
    · exact .inr h4
    · exfalso
      apply hv
      have e1 := Nat.div_add_mod v a
      have e2 := Nat.div_add_mod (a * b - 1) a
      rw [l1, l2] at e2
      rw [show v / a = b - 1 by omega, show v % a = a - 1 by omega] at e1
      omega
theorem stp_zero (a : Nat) : stp a 0 = 0 := by unfold stp; simp
/-- How far it is to the last node. -/
def gD (a b : Nat) : List Int := (List.range (a * b)).map (fun (v : Nat) => 2 * ((a : Int) + b - 2 - stp a v))
theorem gD_at {a b v : Nat} (h : v < a * b) : dAt (gD a b) (v : Int) = 2 * ((a : Int) + b - 2 - stp a v) := by
  unfold dAt gD
  rw [List.getD_eq_getElem?_getD, Int.toNat_natCast, List.getElem?_map, List.getElem?_range h]
  rfl
def gE (a b : Nat) : List Int := (List.range (a * b)).map (fun (v : Nat) => 2 * (stp a v : Int))
theorem gE_at {a b v : Nat} (h : v < a * b) : dAt (gE a b) (v : Int) = 2 * (stp a v : Int) := by
  unfold dAt gE
  rw [List.getD_eq_getElem?_getD, Int.toNat_natCast, List.getElem?_map, List.getElem?_range h]
  rfl
theorem link_edge {l : List Lnk} {u u' m : Int} (h : (⟨u, u', m, 0⟩ : Lnk) ∈ l) : ∃ q, q < l.length ∧ frm l (2 * q) = u ∧ tov l (2 * q) = u' ∧ met l (2 * q) = m ∧ frm l (2 * q + 1) = u' ∧ tov l (2 * q + 1) = u ∧ met l (2 * q + 1) = m := by
  obtain ⟨q, hq, hx⟩ := List.getElem_of_mem h
  have hx1 : l[(2 * q) / 2]? = some ⟨u, u', m, 0⟩ := by rw [show (2 * q) / 2 = q by omega, List.getElem?_eq_getElem hq, hx]
  have hx2 : l[(2 * q + 1) / 2]? = some ⟨u, u', m, 0⟩ := by rw [show (2 * q + 1) / 2 = q by omega, List.getElem?_eq_getElem hq, hx]
  have h1 := endsS_some hx1
  have h2 := endsS_some hx2
  rw [if_pos (by omega)] at h1
  rw [if_neg (by omega)] at h2
  refine ⟨q, hq, ?_, ?_, ?_, ?_, ?_, ?_⟩
  · unfold frm; rw [h1]
  · unfold tov; rw [h1]
  · unfold met; rw [List.getD_eq_getElem?_getD, hx1]; rfl
  · unfold frm; rw [h2]
  · unfold tov; rw [h2]
  · unfold met; rw [List.getD_eq_getElem?_getD, hx2]; rfl
theorem grd_out {a b v : Nat} (ha : 0 < a) (h : v < a * b) (hv : v ≠ a * b - 1) : ∃ u' : Nat, (⟨(v : Int), (u' : Int), 2, 0⟩ : Lnk) ∈ grd a b (a * b) ∧ u' < a * b ∧ stp a u' = stp a v + 1 := by
  have key : ∃ x, x ∈ gcell a b v := by
    unfold gcell
    rcases stp_max ha h hv with h1 | h1
    · exact ⟨_, List.mem_append.2 (.inl (by rw [if_pos h1]; exact List.mem_singleton.2 rfl))⟩
    · exact ⟨_, List.mem_append.2 (.inr (by rw [if_pos h1]; exact List.mem_singleton.2 rfl))⟩
  obtain ⟨x, hx⟩ := key
  obtain ⟨u', rfl, h1, h2⟩ := gcell_mem h hx
  exact ⟨u', grd_has h hx, h1, h2⟩
theorem grd_in {a b v : Nat} (ha : 0 < a) (h : v < a * b) (hv : v ≠ 0) : ∃ u : Nat, (⟨(u : Int), (v : Int), 2, 0⟩ : Lnk) ∈ grd a b (a * b) ∧ u < a * b ∧ stp a v = stp a u + 1 := by
  obtain ⟨h1, h2⟩ := row_lt ha h
  have e1 := Nat.div_add_mod v a
  by_cases hx : 0 < v % a
  · obtain ⟨u, rfl⟩ : ∃ u, v = u + 1 := ⟨v - 1, by omega⟩
    have hu : u % a + 1 < a := by
      rcases Nat.lt_or_ge (u % a + 1) a with h3 | h3
      · exact h3
      · exfalso
        have h4 : u % a = a - 1 := by have := Nat.mod_lt u ha; omega
        have e2 := Nat.div_add_mod u a
        have e3 : u + 1 = a * (u / a + 1) := by rw [Nat.mul_add, Nat.mul_one]; omega
        rw [e3, Nat.mul_mod_right] at hx
        omega
    have hm : (⟨(u : Int), ((u + 1 : Nat) : Int), 2, 0⟩ : Lnk) ∈ gcell a b u := by
      unfold gcell
      exact List.mem_append.2 (.inl (by rw [if_pos hu]; exact List.mem_singleton.2 rfl))
    obtain ⟨f1, f2⟩ := right_is hu
    refine ⟨u, grd_has (by omega) hm, by omega, ?_⟩
    unfold stp; rw [f1, f2]; omega
  · have hy : 0 < v / a := by
      rcases Nat.eq_zero_or_pos (v / a) with h3 | h3
      · rw [h3] at e1; omega
      · exact h3
    have hle : a ≤ v := by
      rcases Nat.lt_or_ge v a with h3 | h3
      · rw [Nat.div_eq_of_lt h3] at hy; omega
      · exact h3
    obtain ⟨u, rfl⟩ : ∃ u, v = u + a := ⟨v - a, by omega⟩
    obtain ⟨f1, f2⟩ := down_is (v := u) ha
    have hm : (⟨(u : Int), ((u + a : Nat) : Int), 2, 0⟩ : Lnk) ∈ gcell a b u := by
      unfold gcell
      exact List.mem_append.2 (.inr (by rw [if_pos (by omega)]; exact List.mem_singleton.2 rfl))
    refine ⟨u, grd_has (by omega) hm, by omega, ?_⟩
    unfold stp; rw [f1, f2]; omega
theorem grd_dist {a b : Nat} (ha : 0 < a) (hb : 0 < b) (ha6 : a ≤ 6) (hb6 : b ≤ 6) : distS (a * b) (grd a b (a * b)) [] (a * b - 1) = gD a b := by
  have hok := grd_ok ha hb ha6 hb6
  have hpos : 0 < a * b := Nat.mul_pos ha hb
  refine distS_eq hok ⟨by unfold gD; simp, ?_, fun v hv => by rw [gD_at hv]; have := stp_le ha hb hv; omega, fun e he _ h0 => ?_, fun v hv hne h0 => ?_⟩
  · rw [gD_at (by omega), stp_last ha hb]; omega
  · obtain ⟨u, u', h1, h2, h3, hm, hor, _⟩ := grd_edge he
    have s1 := stp_le ha hb h1
    have s2 := stp_le ha hb h2
    rw [hm]
    rcases hor with ⟨_, hf, ht⟩ | ⟨_, hf, ht⟩
    · rw [hf, ht, gD_at h1, gD_at h2]; omega
    · rw [hf, ht, gD_at h1, gD_at h2]; omega
  · obtain ⟨u', hm, hu', hs⟩ := grd_out ha hv hne
    obtain ⟨q, hq, _, _, _, f1, f2, f3⟩ := link_edge hm
    have s2 := stp_le ha hb hu'
    refine ⟨2 * q + 1, by omega, isDn_nil _, f2, ?_, ?_⟩
    · rw [f1, gD_at hu']; omega
    · rw [f1, f3, gD_at hv, gD_at hu']; omega
theorem grd_from {a b : Nat} (ha : 0 < a) (hb : 0 < b) (ha6 : a ≤ 6) (hb6 : b ≤ 6) : distS (a * b) (grd a b (a * b)) [] 0 = gE a b := by
  have hok := grd_ok ha hb ha6 hb6
  have hpos : 0 < a * b := Nat.mul_pos ha hb
  refine distS_eq hok ⟨by unfold gE; simp, ?_, fun v hv => by rw [gE_at hv]; omega, fun e he _ h0 => ?_, fun v hv hne h0 => ?_⟩
  · rw [gE_at (by omega), stp_zero]; rfl
  · obtain ⟨u, u', h1, h2, h3, hm, hor, _⟩ := grd_edge he
    rw [hm]
    rcases hor with ⟨_, hf, ht⟩ | ⟨_, hf, ht⟩
    · rw [hf, ht, gE_at h1, gE_at h2]; omega
    · rw [hf, ht, gE_at h1, gE_at h2]; omega
  · obtain ⟨u, hm, hu, hs⟩ := grd_in ha hv hne
    obtain ⟨q, hq, f1, f2, f3, _, _, _⟩ := link_edge hm
    refine ⟨2 * q, by omega, isDn_nil _, f2, ?_, ?_⟩
    · rw [f1, gE_at hu]; omega
    · rw [f1, f3, gE_at hv, gE_at hu]; omega
theorem grd_on {a b v e : Nat} (ha : 0 < a) (hb : 0 < b) (hv : v < a * b) (he : e < 2 * (grd a b (a * b)).length) : (((endsS (grd a b (a * b)) (e : Int)).1 == (v : Int)) && onS (grd a b (a * b)) [] (gD a b) (v : Int) (e : Int)) = (decide (e % 2 = 0) && decide (((grd a b (a * b)).getD (e / 2) default).a = (v : Int))) := by
  obtain ⟨u, u', h1, h2, h3, hm, hor, hx⟩ := grd_edge he
  have hf0 : (endsS (grd a b (a * b)) (e : Int)).1 = frm (grd a b (a * b)) e := rfl
  have s1 := stp_le ha hb h1
  have s2 := stp_le ha hb h2
  rw [hf0, hx]
  unfold onS
  simp only [Int.toNat_natCast, isDn_nil, Bool.not_false, Bool.true_and, hm]
  rw [Bool.eq_iff_iff]
  simp only [Bool.and_eq_true, beq_iff_eq, decide_eq_true_eq]
  rcases hor with ⟨h4, hf, ht⟩ | ⟨h4, hf, ht⟩
  · rw [hf, ht, gD_at h2, gD_at hv]
    constructor
    · intro h; exact ⟨h4, h.1⟩
    · intro h
      have : u = v := by omega
      subst this
      exact ⟨rfl, by omega, by omega⟩
  · rw [hf, ht, gD_at h1, gD_at hv]
    constructor
    · intro h
      have : u' = v := by omega
      subst this
      omega
    · intro h; omega
theorem grd_next {a b v : Nat} (ha : 0 < a) (hb : 0 < b) (ha6 : a ≤ 6) (hb6 : b ≤ 6) (hv : v < a * b) (hvl : stp a v < a + b - 2) : nxL (a * b) (grd a b (a * b)) [] (gD a b) v = (gcell a b v).map (fun x => x.b.toNat) := by
  have hok := grd_ok ha hb ha6 hb6
  have hQ : nextS ((a * b : Nat) : Int) (grd a b (a * b)) [] (gD a b) (v : Int) = (outS (grd a b (a * b)) (v : Int) (2 * (grd a b (a * b)).length)).filter (onS (grd a b (a * b)) [] (gD a b) (v : Int)) := by
    unfold nextS
    rw [if_pos ⟨gok_check hok, by unfold gD; simp, by omega, by omega, by rw [gD_at hv]; omega⟩]
  unfold nxL
  rw [hQ]
  unfold outS
  rw [List.filter_filter, List.filter_map, List.map_map]
  have h1 : (List.range (2 * (grd a b (a * b)).length)).filter ((fun e => onS (grd a b (a * b)) [] (gD a b) (v : Int) e && ((endsS (grd a b (a * b)) e).1 == (v : Int))) ∘ fun (i : Nat) => (i : Int)) = (List.range (2 * (grd a b (a * b)).length)).filter (fun e => decide (e % 2 = 0) && (fun x : Lnk => decide (x.a = (v : Int))) ((grd a b (a * b)).getD (e / 2) default)) := by
    refine List.filter_congr fun e he => ?_
    rw [List.mem_range] at he
    simp only [Function.comp_apply]
    rw [Bool.and_comm]
    exact grd_on ha hb hv he
  rw [h1]
  have h2 := even_map (grd a b (a * b)) (fun x : Lnk => decide (x.a = (v : Int))) (fun x => x.b.toNat) _ (Nat.le_refl _)
  rw [List.take_length, grd_at, if_pos hv] at h2
  rw [← h2]
  refine List.map_congr_left fun e he => ?_
  obtain ⟨he1, he2⟩ := List.mem_filter.1 he
  rw [List.mem_range] at he1
  obtain ⟨u, u', _, _, _, _, hor, hx⟩ := grd_edge he1
  simp only [Bool.and_eq_true, decide_eq_true_eq] at he2
  simp only [Function.comp_apply, Int.toNat_natCast]
  rcases hor with ⟨h4, hf, ht⟩ | ⟨h4, hf, ht⟩
  · rw [ht, hx]
  · omega
/-- How many ways over a rectangle. -/
def pth : Nat → Nat → Nat
  | 0, _ => 1
  | _ + 1, 0 => 1
  | p + 1, q + 1 => pth p (q + 1) + pth (p + 1) q
  termination_by p q => p + q
theorem pth_zero (q : Nat) : pth 0 q = 1 := by unfold pth; rfl
theorem pth_left (p : Nat) : pth p 0 = 1 := by cases p <;> (unfold pth; rfl)
theorem pth_step (p q : Nat) : pth (p + 1) (q + 1) = pth p (q + 1) + pth (p + 1) q := by rw [pth]
theorem pth_le : ∀ (d p q : Nat), p + q = d → pth p q ≤ 2 ^ d := by
  intro d
  induction d with
  | zero =>
    intro p q h
    obtain rfl : p = 0 := by omega
    rw [pth_zero]; exact Nat.le_refl _
  | succ d ih =>
    intro p q h
    have h2 : 1 ≤ 2 ^ d := Nat.one_le_two_pow
    cases p with
    | zero => rw [pth_zero, Nat.pow_succ]; omega
    | succ p =>
      cases q with
      | zero => rw [pth_left, Nat.pow_succ]; omega
      | succ q =>
        have h3 := ih p (q + 1) (by omega)
        have h4 := ih (p + 1) q (by omega)
        rw [pth_step, Nat.pow_succ]; omega
theorem grd_tr {a b : Nat} (ha : 0 < a) (hb : 0 < b) (ha6 : a ≤ 6) (hb6 : b ≤ 6) : ∀ (d v : Nat), v < a * b → stp a v + d = a + b - 2 → tr (nxL (a * b) (grd a b (a * b)) [] (gD a b)) (gD a b) v = (pth (a - 1 - v % a) (b - 1 - v / a), d, d) := by
  have hok := grd_ok ha hb ha6 hb6
  intro d
  induction d with
  | zero =>
    intro v hv hs
    obtain ⟨h1, h2⟩ := row_lt ha hv
    rw [tr_zero (by rw [gD_at hv]; omega)]
    have : a - 1 - v % a = 0 := by unfold stp at hs; omega
    rw [this, pth_zero]
  | succ d ih =>
    intro v hv hs
    obtain ⟨h1, h2⟩ := row_lt ha hv
    rw [tr_step (nearer hok) (by rw [gD_at hv]; omega), grd_next ha hb ha6 hb6 hv (by omega)]
    by_cases hx : v % a + 1 < a
    · obtain ⟨e1, e2⟩ := right_is hx
      have i1 := ih (v + 1) (lt_of_row (by rw [e1]; exact hx) (by rw [e2]; exact h2)) (by unfold stp at hs ⊢; rw [e1, e2]; omega)
      rw [e1, e2] at i1
      obtain ⟨p, hp⟩ : ∃ p, a - 1 - v % a = p + 1 := ⟨a - 2 - v % a, by omega⟩
      rw [show a - 1 - (v % a + 1) = p by omega] at i1
      rw [hp]
      by_cases hy : v / a + 1 < b
      · obtain ⟨f1, f2⟩ := down_is (v := v) ha
        have i2 := ih (v + a) (lt_of_row (by rw [f1]; exact h1) (by rw [f2]; exact hy)) (by unfold stp at hs ⊢; rw [f1, f2]; omega)
        rw [f1, f2] at i2
        obtain ⟨q, hq⟩ : ∃ q, b - 1 - v / a = q + 1 := ⟨b - 2 - v / a, by omega⟩
        rw [show b - 1 - (v / a + 1) = q by omega, hp] at i2
        rw [hq] at i1 ⊢
        unfold gcell
        rw [if_pos hx, if_pos hy]
        simp only [List.map_append, List.map_cons, List.map_nil, Int.toNat_natCast, i1, i2]
        rw [pth_step]
        simp [trip, minL, maxL]
      · have hq : b - 1 - v / a = 0 := by omega
        rw [hq] at i1 ⊢
        unfold gcell
        rw [if_pos hx, if_neg hy]
        simp only [List.map_cons, List.map_nil, Int.toNat_natCast, i1, List.append_nil]
        rw [pth_left, pth_left]
        simp [trip, minL, maxL]
    · have hy : v / a + 1 < b := by unfold stp at hs; omega
      obtain ⟨f1, f2⟩ := down_is (v := v) ha
      have i2 := ih (v + a) (lt_of_row (by rw [f1]; exact h1) (by rw [f2]; exact hy)) (by unfold stp at hs ⊢; rw [f1, f2]; omega)
      rw [f1, f2] at i2
      have hp : a - 1 - v % a = 0 := by omega
      rw [hp] at i2 ⊢
      unfold gcell
      rw [if_neg hx, if_pos hy]
      simp only [List.nil_append, List.map_cons, List.map_nil, Int.toNat_natCast, i2]
      rw [pth_zero, pth_zero]
      simp [trip, minL, maxL]
theorem grd_ways {a b : Nat} (ha : 0 < a) (hb : 0 < b) (ha6 : a ≤ 6) (hb6 : b ≤ 6) : waysS ((a * b : Nat) : Int) (grd a b (a * b)) [] 0 ((a * b - 1 : Nat) : Int) = (pth (a - 1) (b - 1), a + b - 2, a + b - 2, true) := by
  have hok := grd_ok ha hb ha6 hb6
  have hd := grd_dist ha hb ha6 hb6
  have hpos : 0 < a * b := Nat.mul_pos ha hb
  have Q : waysS ((a * b : Nat) : Int) (grd a b (a * b)) [] 0 ((a * b - 1 : Nat) : Int) = _ := if_pos ⟨gok_check hok, by omega, by omega, by omega, by omega, by rw [Int.toNat_natCast, Int.toNat_natCast, hd]; rw [show (0 : Int) = ((0 : Nat) : Int) from rfl, gD_at (by omega), stp_zero]; omega⟩
  rw [Q]
  have ht := grd_tr ha hb ha6 hb6 (a + b - 2) 0 (by omega) (by rw [stp_zero]; omega)
  have hp : pth (a - 1) (b - 1) ≤ 2 ^ 10 := Nat.le_trans (pth_le _ _ _ rfl) (Nat.pow_le_pow_right (by decide) (by omega))
  simp only [Int.toNat_natCast, hd, show (0 : Int).toNat = 0 from rfl, ht, Nat.zero_mod, Nat.zero_div, Nat.sub_zero]
  rw [Nat.min_eq_left (Nat.le_trans hp (by decide))]
theorem grd_uses {a b : Nat} (ha : 0 < a) (hb : 0 < b) (ha6 : a ≤ 6) (hb6 : b ≤ 6) : (usesS ((a * b : Nat) : Int) (grd a b (a * b)) [] 0 ((a * b - 1 : Nat) : Int)).length = (grd a b (a * b)).length := by
  have hok := grd_ok ha hb ha6 hb6
  have hd := grd_dist ha hb ha6 hb6
  have he := grd_from ha hb ha6 hb6
  have hpos : 0 < a * b := Nat.mul_pos ha hb
  have hlast : dAt (gE a b) ((a * b - 1 : Nat) : Int) = 2 * ((a + b - 2 : Nat) : Int) := by rw [gE_at (by omega), stp_last ha hb]
  have Q : usesS ((a * b : Nat) : Int) (grd a b (a * b)) [] 0 ((a * b - 1 : Nat) : Int) = _ := if_pos ⟨gok_check hok, by omega, by omega, by omega, by omega, by rw [Int.toNat_natCast, show (0 : Int).toNat = 0 from rfl, he, hlast]; omega⟩
  rw [Q]
  simp only [Int.toNat_natCast, show (0 : Int).toNat = 0 from rfl, hd, he]
  unfold edgesL
  rw [List.filter_map, List.length_map]
  have h1 : (List.range (2 * (grd a b (a * b)).length)).filter (onU (grd a b (a * b)) [] (gE a b) (gD a b) ((a * b - 1 : Nat) : Int) ∘ fun (i : Nat) => (i : Int)) = (List.range (2 * (grd a b (a * b)).length)).filter (fun e => decide (e % 2 = 0) && (fun _ : Lnk => true) ((grd a b (a * b)).getD (e / 2) default)) := by
    refine List.filter_congr fun e he2 => ?_
    rw [List.mem_range] at he2
    simp only [Function.comp_apply, Bool.and_true]
    obtain ⟨u, u', h1, h2, h3, hm, hor, _⟩ := grd_edge he2
    have s1 := stp_le ha hb h1
    have s2 := stp_le ha hb h2
    unfold onU
    rw [hlast]
    simp only [Int.toNat_natCast, isDn_nil, Bool.not_false, Bool.true_and, hm]
    rw [Bool.eq_iff_iff]
    simp only [Bool.and_eq_true, beq_iff_eq, decide_eq_true_eq]
    rcases hor with ⟨h4, hf, ht⟩ | ⟨h4, hf, ht⟩
    · rw [hf, ht, gE_at h1, gD_at h2]; omega
    · rw [hf, ht, gE_at h2, gD_at h1]; omega
  rw [h1]
  exact (cnt_even (grd a b (a * b)) (fun _ => true) _ (Nat.le_refl _)).trans (by rw [List.take_length, List.countP_true])
end Go.Proofs.Ytcjilpgblbnebaa
