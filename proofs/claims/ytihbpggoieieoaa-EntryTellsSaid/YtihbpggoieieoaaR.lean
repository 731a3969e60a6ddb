/- Plain lemmas: entries are read back from their bytes; what a beginning of a stack's bytes, and what more behind them, is read as. -/
import Derived.Test.YtihbpggoieieoaaG
namespace Go.Proofs.Ytihbpggoieieoaa
open Go.RowKit

theorem okAll_iff (l : List Ent) : okAll l = true ↔ ∀ i e, l[i]? = some e → e.fits = true ∧ e.last = decide (i + 1 = l.length) := by
  induction l with
  | nil => simp [okAll]
  | cons a r ih =>
    simp only [okAll, Bool.and_eq_true, beq_iff_eq, ih]
    constructor
    · rintro ⟨⟨h1, h2⟩, h3⟩ i e he
      cases i with
      | zero =>
        simp at he; subst he
        refine ⟨h1, ?_⟩
        rw [h2, Bool.eq_iff_iff]; simp [List.isEmpty_iff]
      | succ i =>
        obtain ⟨h4, h5⟩ := h3 i e (by simpa using he)
        refine ⟨h4, ?_⟩
        rw [h5, decide_eq_decide]; simp
    · intro h
      obtain ⟨h1, h2⟩ := h 0 a (by simp)
      refine ⟨⟨h1, ?_⟩, fun i e he => ?_⟩
      · rw [h2, Bool.eq_iff_iff]; simp [List.isEmpty_iff]
      · obtain ⟨h4, h5⟩ := h (i + 1) e (by simpa using he)
        refine ⟨h4, ?_⟩
        rw [h5, decide_eq_decide]; simp
theorem isStk_iff (l : List Ent) : isStk l = true ↔ 1 ≤ l.length ∧ l.length ≤ 1000 ∧ okAll l = true := by
  simp only [isStk, Bool.and_eq_true, decide_eq_true_eq, and_assoc]

theorem be4_bytes (x : Int) (h : 0 ≤ x) (h' : x < 4294967296) : be4 (byt (x / 16777216)) (byt (x / 65536)) (byt (x / 256)) (byt x) = x := by
  unfold be4
  rw [byt_val, byt_val, byt_val, byt_val]
  omega
theorem unw_word (e : Ent) (hf : e.fits = true) : unw e.word = e := by
  obtain ⟨a, b, c, d⟩ := e
  simp only [Ent.fits, decide_eq_true_eq] at hf
  cases d
  · simp only [unw, Ent.word, Ent.mk.injEq, Bool.false_eq_true, if_false]
    refine ⟨by omega, by omega, by omega, ?_⟩
    simp; omega
  · simp only [unw, Ent.word, Ent.mk.injEq, if_true]
    refine ⟨by omega, by omega, by omega, ?_⟩
    simp; omega
theorem putB_at {l : List Ent} {i : Nat} {e : Ent} (h : l[i]? = some e) (j : Nat) (hj : j < 4) : (putB l)[4 * i + j]? = e.bytes[j]? := by
  induction l generalizing i with
  | nil => simp at h
  | cons a r ih =>
    simp only [putB, List.flatMap_cons]
    cases i with
    | zero =>
      simp at h; subst h
      rw [List.getElem?_append_left (by simp [Ent.bytes]; omega)]
      simp
    | succ i =>
      rw [List.getElem?_append_right (by simp [Ent.bytes]; omega)]
      have := ih (i := i) (by simpa using h)
      rw [show 4 * (i + 1) + j - a.bytes.length = 4 * i + j by simp [Ent.bytes]; omega]
      exact this
theorem entAt_of {bs : List UInt8} {k : Nat} {e : Ent} (hf : e.fits = true) (h : ∀ j, j < 4 → bs[4 * k + j]? = e.bytes[j]?) : entAt bs k = e := by
  have h0 := h 0 (by omega)
  have h1 := h 1 (by omega)
  have h2 := h 2 (by omega)
  have h3 := h 3 (by omega)
  have hr := word_range hf
  rw [entAt_eq rfl h0 h1 h2 h3, be4_bytes _ hr.1 hr.2, unw_word e hf]
theorem entsOf_take {bs : List UInt8} {l : List Ent} {m : Nat} (hm : m ≤ l.length) (h : ∀ i e, i < m → l[i]? = some e → e.fits = true ∧ ∀ j, j < 4 → bs[4 * i + j]? = e.bytes[j]?) : entsOf bs m = l.take m := by
  apply List.ext_getElem?
  intro i
  by_cases hi : i < m
  · have hl : l[i]? = some (l[i]'(by omega)) := List.getElem?_eq_getElem (by omega)
    obtain ⟨h1, h2⟩ := h i _ hi hl
    rw [List.getElem?_take, if_pos hi, hl]
    simp only [entsOf, List.getElem?_map, List.getElem?_range hi, Option.map_some]
    rw [entAt_of h1 h2]
  · rw [List.getElem?_eq_none (by rw [entsOf_len]; omega), List.getElem?_eq_none (by rw [List.length_take]; omega)]
theorem getS_putB {l : List Ent} (h : isStk l = true) : getS (putB l) = some l := by
  obtain ⟨h1, h2, h3⟩ := (isStk_iff l).1 h
  have he : entsOf (putB l) l.length = l := by
    rw [entsOf_take (Nat.le_refl _) (fun i e _ hl => ⟨((okAll_iff l).1 h3 i e hl).1, fun j hj => putB_at hl j hj⟩), List.take_length]
  rw [getS_at (putB_len l) rfl (by omega), he, if_pos h]
theorem getS_mod {bs : List UInt8} (h : bs.length % 4 ≠ 0) : getS bs = none := by unfold getS; rw [if_neg (by omega)]
theorem getS_take {l : List Ent} (h : isStk l = true) {k : Nat} (hk : k < 4 * l.length) : getS ((putB l).take k) = none := by
  obtain ⟨h1, h2, h3⟩ := (isStk_iff l).1 h
  have hlen : ((putB l).take k).length = k := by rw [List.length_take, putB_len]; omega
  by_cases hm : k % 4 = 0
  · obtain ⟨m, rfl⟩ : ∃ m, k = 4 * m := ⟨k / 4, by omega⟩
    have he : entsOf ((putB l).take (4 * m)) m = l.take m := entsOf_take (by omega) (fun i e hi hl => ⟨((okAll_iff l).1 h3 i e hl).1, fun j hj => by rw [List.getElem?_take, if_pos (by omega)]; exact putB_at hl j hj⟩)
    rw [getS_at hlen rfl (by omega), he, if_neg]
    intro hc
    obtain ⟨c1, c2, c3⟩ := (isStk_iff _).1 hc
    rw [List.length_take] at c1
    have hl : l[m - 1]? = some (l[m - 1]'(by omega)) := List.getElem?_eq_getElem (by omega)
    have e1 := ((okAll_iff l).1 h3 _ _ hl).2
    have e2 := ((okAll_iff _).1 c3 (m - 1) _ (by rw [List.getElem?_take, if_pos (by omega)]; exact hl)).2
    rw [e1, List.length_take] at e2
    have := decide_eq_decide.1 e2
    omega
  · exact getS_mod (by rw [hlen]; exact hm)
theorem getS_more {l : List Ent} (h : isStk l = true) (hl : l.length ≤ 100) : getS (putB l ++ [0, 0, 1, 0]) = none := by
  obtain ⟨h1, h2, h3⟩ := (isStk_iff l).1 h
  have hlen : (putB l ++ [0, 0, 1, 0]).length = 4 * (l.length + 1) := by rw [List.length_append, putB_len]; simp; omega
  have hz : entAt (putB l ++ [0, 0, 1, 0]) l.length = ⟨0, 0, 0, true⟩ := by
    refine entAt_of (e := ⟨0, 0, 0, true⟩) (by decide) (fun j hj => ?_)
    rw [List.getElem?_append_right (by rw [putB_len]; omega), putB_len, Nat.add_sub_cancel_left]
    have : j = 0 ∨ j = 1 ∨ j = 2 ∨ j = 3 := by omega
    rcases this with rfl | rfl | rfl | rfl <;> rfl
  have he : entsOf (putB l ++ [0, 0, 1, 0]) (l.length + 1) = l ++ [⟨0, 0, 0, true⟩] := by
    rw [entsOf_succ, hz, entsOf_take (Nat.le_refl _) (fun i e hi hl => ⟨((okAll_iff l).1 h3 i e hl).1, fun j hj => by rw [List.getElem?_append_left (by rw [putB_len]; omega)]; exact putB_at hl j hj⟩), List.take_length]
  rw [getS_at hlen rfl (by omega), he, if_neg]
  intro hc
  obtain ⟨c1, c2, c3⟩ := (isStk_iff _).1 hc
  have hl : l[l.length - 1]? = some (l[l.length - 1]'(by omega)) := List.getElem?_eq_getElem (by omega)
  have e1 := ((okAll_iff l).1 h3 _ _ hl).2
  have e2 := ((okAll_iff _).1 c3 (l.length - 1) _ (by rw [List.getElem?_append_left (by omega)]; exact hl)).2
  rw [e1] at e2
  have := decide_eq_decide.1 e2
  simp at this
  omega
end Go.Proofs.Ytihbpggoieieoaa
