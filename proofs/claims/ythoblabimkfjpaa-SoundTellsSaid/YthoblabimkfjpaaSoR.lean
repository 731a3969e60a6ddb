/- SoundOrder, plainly: what At tells is in order. -/
import Derived.Test.YthoblabimkfjpaaSoD
namespace Go.Proofs.Ythoblabimkfjpaa
open Go.RowKit
set_option maxHeartbeats 6400000
set_option maxRecDepth 100000
/-- a stands before b. -/
def Bef (a b : Rul) : Prop := b.pri < a.pri ∨ (a.pri = b.pri ∧ a.x.too < b.x.too)
theorem Bef.le {a b : Rul} (h : Bef a b) : b.pri ≤ a.pri := by
  rcases h with h | ⟨h, _⟩ <;> omega
theorem downR_le (out : List Rul) (p : Int) : ∀ k, downR out p k ≤ k := by
  intro k
  induction k with
  | zero => exact Nat.le_refl _
  | succ k ih =>
    unfold downR
    split
    · split
      · omega
      · exact Nat.le_refl _
    · exact Nat.le_refl _
theorem downR_spec (out : List Rul) (p : Int) : ∀ K, K ≤ out.length → (∀ i a, downR out p K ≤ i → i < K → out[i]? = some a → a.pri < p) ∧ (∀ a, 0 < downR out p K → out[downR out p K - 1]? = some a → p ≤ a.pri) := by
  intro K
  induction K with
  | zero => exact fun _ => ⟨fun i a _ h _ => by omega, fun a h _ => by simp [downR] at h⟩
  | succ K ih =>
    intro hK
    obtain ⟨q, hq⟩ : ∃ q, out[K]? = some q := ⟨out[K], List.getElem?_eq_getElem (by omega)⟩
    by_cases hp : q.pri < p
    · have e : downR out p (K + 1) = downR out p K := by conv => lhs; unfold downR; rw [hq]; simp only; rw [if_pos hp]
      rw [e]
      obtain ⟨h1, h2⟩ := ih (by omega)
      refine ⟨fun i a h3 h4 h5 => ?_, h2⟩
      by_cases hi : i = K
      · subst hi; rw [hq] at h5; cases h5; exact hp
      · exact h1 i a h3 (by omega) h5
    · have e : downR out p (K + 1) = K + 1 := by unfold downR; rw [hq]; simp only; rw [if_neg hp]
      rw [e]
      exact ⟨fun i a h3 h4 _ => by omega, fun a _ h => by rw [Nat.add_sub_cancel, hq] at h; cases h; omega⟩
theorem insR_sorted {out : List Rul} {q : Rul} (h : out.Pairwise Bef) (hq : ∀ a ∈ out, a.x.too < q.x.too) : (insR out q).Pairwise Bef := by
  obtain ⟨k, hk⟩ : ∃ k, downR out q.pri out.length = k := ⟨_, rfl⟩
  have hkl := downR_le out q.pri out.length
  obtain ⟨s1, s2⟩ := downR_spec out q.pri out.length (Nat.le_refl _)
  unfold insR
  rw [hk] at hkl s1 s2 ⊢
  have hp := h
  rw [← List.take_append_drop k out, List.pairwise_append] at hp
  obtain ⟨p1, p2, p3⟩ := hp
  have ht : ∀ a ∈ out.take k, Bef a q := by
    intro a ha
    have hm := hq a (List.mem_of_mem_take ha)
    obtain ⟨i, hi, he⟩ := List.mem_iff_getElem.1 ha
    rw [List.length_take] at hi
    have hik : i < k := by omega
    have hlt : i < out.length := by omega
    rw [List.getElem_take] at he
    have hle : q.pri ≤ a.pri := by
      by_cases hi1 : i = k - 1
      · exact s2 a (by omega) (by rw [← hi1, ← he]; exact List.getElem?_eq_getElem hlt)
      · have hb : Bef out[i] out[k - 1] := List.pairwise_iff_getElem.1 h i (k - 1) hlt (by omega) (by omega)
        have h1 := s2 out[k - 1] (by omega) (List.getElem?_eq_getElem (by omega))
        have h2 := hb.le
        rw [he] at h2
        omega
    by_cases e : a.pri = q.pri
    · exact Or.inr ⟨e, hm⟩
    · exact Or.inl (by omega)
  have hd : ∀ b ∈ out.drop k, Bef q b := by
    intro b hb
    obtain ⟨i, hi, he⟩ := List.mem_iff_getElem.1 hb
    rw [List.length_drop] at hi
    rw [List.getElem_drop] at he
    exact Or.inl (s1 (k + i) b (by omega) (by omega) (by rw [← he]; exact List.getElem?_eq_getElem (by omega)))
  refine List.pairwise_append.2 ⟨List.pairwise_append.2 ⟨p1, List.pairwise_singleton _ _, fun a ha b hb => ?_⟩, p2, fun a ha b hb => ?_⟩
  · rw [List.mem_singleton] at hb; subst hb; exact ht a ha
  · rcases List.mem_append.1 ha with h1 | h1
    · exact p3 a h1 b hb
    · rw [List.mem_singleton] at h1; subst h1; exact hd b hb
theorem insR_perm (out : List Rul) (q : Rul) : (insR out q).Perm (q :: out) := by
  unfold insR
  obtain ⟨k, hk⟩ : ∃ k, downR out q.pri out.length = k := ⟨_, rfl⟩
  rw [hk]
  have h1 : (out.take k ++ [q] ++ out.drop k).Perm ([q] ++ out.take k ++ out.drop k) := List.Perm.append_right _ List.perm_append_comm
  rw [List.append_assoc, List.append_assoc, List.take_append_drop] at h1
  rw [List.append_assoc]
  exact h1
theorem atS_snoc (node : Int) (rs : List Rul) (q : Rul) : atS node (rs ++ [q]) = if q.x.frm = node then insR (atS node rs) q else atS node rs := by
  unfold atS
  rw [List.filter_append, List.foldl_append]
  by_cases h : q.x.frm = node
  · rw [if_pos h, List.filter_cons_of_pos (by simpa using h)]; rfl
  · rw [if_neg h, List.filter_cons_of_neg (by simpa using h)]; rfl
/-- Rule number i of SoundOrder. -/
def ordR (ps ns : List Int) (i : Nat) : Rul := { noRul with pri := ps.getD i 0 % 4, x := { noWnt with frm := ns.getD i 0 % 4, too := (i : Int) } }
def ordL (ps ns : List Int) (m : Nat) : List Rul := (List.range m).map (ordR ps ns)
def ordN (ns : List Int) (node : Int) (m : Nat) : Nat := ((List.range m).filter fun i => decide (ns.getD i 0 % 4 = node)).length
theorem ordL_succ (ps ns : List Int) (m : Nat) : ordL ps ns (m + 1) = ordL ps ns m ++ [ordR ps ns m] := by
  unfold ordL
  rw [List.range_succ, List.map_append]; rfl
theorem ordN_succ (ns : List Int) (node : Int) (m : Nat) : ordN ns node (m + 1) = if ns.getD m 0 % 4 = node then ordN ns node m + 1 else ordN ns node m := by
  unfold ordN
  rw [List.range_succ, List.filter_append, List.length_append]
  by_cases h : ns.getD m 0 % 4 = node
  · rw [if_pos h, List.filter_cons_of_pos (by simpa using h)]; rfl
  · rw [if_neg h, List.filter_cons_of_neg (by simpa using h)]; rfl
/-- What At tells of them: as many as there are of the node, all of it, in order. -/
theorem ord_at (ps ns : List Int) (node : Int) : ∀ m, (atS node (ordL ps ns m)).length = ordN ns node m ∧ (∀ a ∈ atS node (ordL ps ns m), a.x.frm = node ∧ a.x.too < (m : Int)) ∧ (atS node (ordL ps ns m)).Pairwise Bef := by
  intro m
  induction m with
  | zero => exact ⟨rfl, fun a h => by simp [atS, ordL] at h, by simp [atS, ordL]⟩
  | succ m ih =>
    obtain ⟨h1, h2, h3⟩ := ih
    rw [ordL_succ, atS_snoc, ordN_succ]
    have hf : (ordR ps ns m).x.frm = ns.getD m 0 % 4 := rfl
    have ht : (ordR ps ns m).x.too = (m : Int) := rfl
    rw [hf]
    by_cases h : ns.getD m 0 % 4 = node
    · rw [if_pos h, if_pos h]
      have hp := insR_perm (atS node (ordL ps ns m)) (ordR ps ns m)
      refine ⟨by rw [hp.length_eq, List.length_cons, h1], fun a ha => ?_, insR_sorted h3 fun a ha => by rw [ht]; exact (h2 a ha).2⟩
      rcases List.mem_cons.1 (hp.mem_iff.1 ha) with rfl | hm
      · exact ⟨by rw [hf, h], by rw [ht]; omega⟩
      · have := h2 a hm; exact ⟨this.1, by omega⟩
    · rw [if_neg h, if_neg h]
      exact ⟨h1, fun a ha => by have := h2 a ha; exact ⟨this.1, by omega⟩, h3⟩
end Go.Proofs.Ythoblabimkfjpaa
