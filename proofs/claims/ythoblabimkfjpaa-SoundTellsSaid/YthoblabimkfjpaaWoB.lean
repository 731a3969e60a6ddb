/- Blanks and comments between tokens turn nothing, plainly. -/
import Derived.Test.YthoblabimkfjpaaWoA
namespace Go.Proofs.Ythoblabimkfjpaa
open Go.RowKit
set_option maxHeartbeats 3200000
set_option maxRecDepth 100000
def TokOk (t : Tok) : Prop :=
  (t.kind = 1 ∧ (∃ c r, t.text = c :: r ∧ isLt c = true) ∧ ∀ x ∈ t.text, isWd x = true) ∨
  (t.kind = 2 ∧ (∃ c r, t.text = c :: r ∧ isDg c = true) ∧ ∀ x ∈ t.text, isNm x = true) ∨ (t.kind = 3 ∧ t.text = [59])
theorem while_all (P : UInt8 → Bool) : ∀ l : List UInt8, ∀ x ∈ l.takeWhile P, P x = true
  | [], x, h => by simp at h
  | c :: r, x, h => by
    cases hc : P c with
    | true =>
      rw [List.takeWhile_cons_of_pos hc, List.mem_cons] at h
      rcases h with rfl | h
      · exact hc
      · exact while_all P r x h
    | false => rw [List.takeWhile_cons_of_neg (by simp [hc])] at h; simp at h
theorem scan_ok : ∀ (f i : Nat) (s : List UInt8), ∀ t ∈ (scan f i s).1, TokOk t := by
  intro f
  induction f with
  | zero => intro i s t h; simp [scan] at h
  | succ f ih =>
    intro i s t h
    cases s with
    | nil => simp [scan] at h
    | cons c r =>
      unfold scan at h
      split at h
      · exact ih _ _ t h
      · split at h
        · exact ih _ _ t h
        · split at h
          · rename_i h3
            rw [List.mem_cons] at h
            rcases h with rfl | h
            · exact .inl ⟨rfl, ⟨c, _, List.takeWhile_cons_of_pos (by unfold isWd; rw [h3]; rfl), h3⟩, while_all _ _⟩
            · exact ih _ _ t h
          · split at h
            · rename_i h4
              rw [List.mem_cons] at h
              rcases h with rfl | h
              · exact .inr (.inl ⟨rfl, ⟨c, _, List.takeWhile_cons_of_pos (by unfold isNm; rw [h4]; rfl), h4⟩, while_all _ _⟩)
              · exact ih _ _ t h
            · split at h
              · rw [List.mem_cons] at h
                rcases h with rfl | h
                · exact .inr (.inr ⟨rfl, rfl⟩)
                · exact ih _ _ t h
              · simp at h
def scL (i : Nat) (s : List UInt8) : List Tok × Option Nat := scan s.length i s
theorem scL_f (f i : Nat) (s : List UInt8) (h : s.length ≤ f) : scan f i s = scL i s := scan_same _ _ _ _ h (Nat.le_refl _)
theorem scL_blank {c : UInt8} (h : isBl c = true) (i : Nat) (r : List UInt8) : scL i (c :: r) = scL (i + 1) r := by
  show scan (r.length + 1) i (c :: r) = scan r.length (i + 1) r
  conv => lhs; unfold scan
  rw [if_pos h]
theorem scL_rem (i : Nat) (r : List UInt8) : scL i (35 :: 32 :: 120 :: 59 :: 10 :: r) = scL (i + 5) r := by
  have h1 : scL i (35 :: 32 :: 120 :: 59 :: 10 :: r) = scL (i + 4) (10 :: r) := by
    unfold scL
    show scan (r.length + 4 + 1) i (35 :: 32 :: 120 :: 59 :: 10 :: r) = _
    unfold scan
    rw [if_neg (by decide), if_pos (by decide)]
    have e1 : (35 :: 32 :: 120 :: 59 :: 10 :: r).takeWhile isRm = [35, 32, 120, 59] := rfl
    have e2 : (35 :: 32 :: 120 :: 59 :: 10 :: r).dropWhile isRm = 10 :: r := rfl
    rw [e1, e2]
    exact scL_f _ _ _ (by simp)
  rw [h1, scL_blank (by decide)]
theorem while_take {P : UInt8 → Bool} : ∀ (w r : List UInt8), (∀ x ∈ w, P x = true) → (∀ c q, r = c :: q → P c = false) → (w ++ r).takeWhile P = w ∧ (w ++ r).dropWhile P = r
  | [], r, _, h => by
    cases r with
    | nil => exact ⟨rfl, rfl⟩
    | cons c q =>
      have := h c q rfl
      rw [List.nil_append, List.takeWhile_cons_of_neg (by simp [this]), List.dropWhile_cons_of_neg (by simp [this])]
      exact ⟨rfl, rfl⟩
  | c :: w, r, h1, h2 => by
    have hc := h1 c (by simp)
    obtain ⟨e1, e2⟩ := while_take w r (fun x hx => h1 x (by simp [hx])) h2
    rw [List.cons_append, List.takeWhile_cons_of_pos hc, List.dropWhile_cons_of_pos hc, e1, e2]
    exact ⟨rfl, rfl⟩
theorem lt_not {c : UInt8} (h : isLt c = true) : isBl c = false ∧ (c == 35) = false := by
  unfold isLt at h
  simp only [Bool.and_eq_true, decide_eq_true_eq] at h
  refine ⟨?_, ?_⟩
  · unfold isBl; rw [Bool.or_eq_false_iff]
    exact ⟨beq_eq_false_iff_ne.2 fun hc => by rw [hc] at h; simp at h, beq_eq_false_iff_ne.2 fun hc => by rw [hc] at h; simp at h⟩
  · exact beq_eq_false_iff_ne.2 fun hc => by rw [hc] at h; simp at h
theorem dg_not {c : UInt8} (h : isDg c = true) : isBl c = false ∧ (c == 35) = false ∧ isLt c = false := by
  unfold isDg at h
  simp only [Bool.and_eq_true, decide_eq_true_eq] at h
  refine ⟨?_, ?_, ?_⟩
  · unfold isBl; rw [Bool.or_eq_false_iff]
    exact ⟨beq_eq_false_iff_ne.2 fun hc => by rw [hc] at h; simp at h, beq_eq_false_iff_ne.2 fun hc => by rw [hc] at h; simp at h⟩
  · exact beq_eq_false_iff_ne.2 fun hc => by rw [hc] at h; simp at h
  · unfold isLt; rw [decide_eq_false (by omega : ¬ 97 ≤ c.toNat)]; rfl
/-- A token ahead of a blank. -/
theorem scL_tok {t : Tok} (h : TokOk t) (i : Nat) (q : List UInt8) : ∃ p, scL i (t.text ++ 32 :: q) = (⟨t.kind, p, t.text⟩ :: (scL (i + t.text.length) (32 :: q)).1, (scL (i + t.text.length) (32 :: q)).2) := by
  obtain ⟨k, p, x⟩ := t
  rcases h with ⟨h1, ⟨c, r, h2, h3⟩, h4⟩ | ⟨h1, ⟨c, r, h2, h3⟩, h4⟩ | ⟨h1, h2⟩
  · simp only at h1 h2 h4
    obtain ⟨e1, e2⟩ := while_take (P := isWd) x (32 :: q) h4 (fun c q hc => by cases hc; decide)
    obtain ⟨n1, n2⟩ := lt_not h3
    refine ⟨i, ?_⟩
    subst h1 h2
    unfold scL
    show scan ((r ++ 32 :: q).length + 1) i (c :: (r ++ 32 :: q)) = _
    unfold scan
    rw [if_neg (by simp [n1]), if_neg (by simp [n2]), if_pos h3, ← List.cons_append, e1, e2]
    rw [scL_f _ _ _ (by simp)]; rfl
  · simp only at h1 h2 h4
    obtain ⟨e1, e2⟩ := while_take (P := isNm) x (32 :: q) h4 (fun c q hc => by cases hc; decide)
    obtain ⟨n1, n2, n3⟩ := dg_not h3
    refine ⟨i, ?_⟩
    subst h1 h2
    unfold scL
    show scan ((r ++ 32 :: q).length + 1) i (c :: (r ++ 32 :: q)) = _
    unfold scan
    rw [if_neg (by simp [n1]), if_neg (by simp [n2]), if_neg (by simp [n3]), if_pos h3, ← List.cons_append, e1, e2]
    rw [scL_f _ _ _ (by simp)]; rfl
  · simp only at h1 h2
    subst h1 h2
    exact ⟨i, rfl⟩
/-- What stands between two tokens. -/
def padL (bs : List Bool) : List UInt8 := 32 :: bs.flatMap fun b => if b then [35, 32, 120, 59, 10] else [10, 32]
theorem scL_chunks (bs : List Bool) : ∀ (i : Nat) (r : List UInt8), ∃ j, scL i ((bs.flatMap fun b => if b then [35, 32, 120, 59, 10] else [10, 32]) ++ r) = scL j r := by
  induction bs with
  | nil => intro i r; exact ⟨i, rfl⟩
  | cons b bs ih =>
    intro i r
    rw [List.flatMap_cons, List.append_assoc]
    cases b with
    | true =>
      obtain ⟨j, hj⟩ := ih (i + 5) r
      exact ⟨j, (scL_rem i _).trans hj⟩
    | false =>
      obtain ⟨j, hj⟩ := ih (i + 2) r
      refine ⟨j, Eq.trans ?_ hj⟩
      show scL i (10 :: 32 :: _) = _
      rw [scL_blank (by decide), scL_blank (by decide)]
      rfl
theorem scL_pad (bs : List Bool) (i : Nat) (r : List UInt8) : ∃ j, scL i (padL bs ++ r) = scL j r := by
  obtain ⟨j, hj⟩ := scL_chunks bs (i + 1) r
  exact ⟨j, by unfold padL; rw [List.cons_append, scL_blank (by decide)]; exact hj⟩
def joinR : List (List Bool) → List (List UInt8) → List UInt8
  | p :: ps, x :: xs => padL p ++ (x ++ joinR ps xs)
  | p :: _, [] => padL p
  | [], _ => []
theorem joinR_head {ps : List (List Bool)} {xs : List (List UInt8)} (h : xs.length < ps.length) : ∃ q, joinR ps xs = 32 :: q := by
  cases ps with
  | nil => simp at h
  | cons p ps => cases xs <;> exact ⟨_, rfl⟩
theorem scL_join : ∀ (ts : List Tok) (ps : List (List Bool)) (i : Nat), (∀ t ∈ ts, TokOk t) → ts.length < ps.length → ∃ l, scL i (joinR ps (ts.map (·.text))) = (l, none) ∧ l.map (fun t => (t.kind, t.text)) = ts.map (fun t => (t.kind, t.text)) := by
  intro ts
  induction ts with
  | nil =>
    intro ps i _ h
    cases ps with
    | nil => simp at h
    | cons p ps =>
      obtain ⟨j, hj⟩ := scL_pad p i []
      rw [List.append_nil] at hj
      exact ⟨[], by rw [List.map_nil, joinR, hj]; exact scan_nil _ _, rfl⟩
  | cons t ts ih =>
    intro ps i hok h
    cases ps with
    | nil => simp at h
    | cons p ps =>
      obtain ⟨j, hj⟩ := scL_pad p i (t.text ++ joinR ps (ts.map (·.text)))
      obtain ⟨q, hq⟩ := joinR_head (ps := ps) (xs := ts.map (·.text)) (by simp at h ⊢; omega)
      obtain ⟨k, hk⟩ := scL_tok (hok t (by simp)) j q
      rw [← hq] at hk
      obtain ⟨l, hl, hm⟩ := ih ps (j + t.text.length) (fun x hx => hok x (by simp [hx])) (by simp at h ⊢; omega)
      refine ⟨⟨t.kind, k, t.text⟩ :: l, ?_, ?_⟩
      · rw [List.map_cons, joinR, hj, hk, hl]
      · rw [List.map_cons, List.map_cons, hm]
theorem split_toks {s : List UInt8} {l : List Tok} {a : Int} (h : splitS s = (l, a, 0)) : (∀ t ∈ l, TokOk t) ∧ a = -1 ∧ s.length ≤ 10000 := by
  unfold splitS at h
  split at h
  · simp at h
  · rename_i h1
    split at h
    · rename_i l' h2
      simp only [Prod.mk.injEq] at h
      refine ⟨?_, h.2.1.symm, by omega⟩
      rw [← h.1]
      intro t ht
      have h3 : t ∈ (scan (s.drop 0).length 0 (s.drop 0)).1 := by
        show t ∈ (scanAt s 0).1
        rw [h2]; exact ht
      exact scan_ok _ _ _ t h3
    · simp at h
theorem split_join {ts : List Tok} {ps : List (List Bool)} (hok : ∀ t ∈ ts, TokOk t) (h : ts.length < ps.length) (hl : (joinR ps (ts.map (·.text))).length ≤ 10000) : ∃ l, splitS (joinR ps (ts.map (·.text))) = (l, -1, 0) ∧ l.map (fun t => (t.kind, t.text)) = ts.map (fun t => (t.kind, t.text)) := by
  obtain ⟨l, h1, h2⟩ := scL_join ts ps 0 hok h
  refine ⟨l, ?_, h2⟩
  unfold splitS
  rw [if_neg (by omega)]
  have h3 : scanAt (joinR ps (ts.map (·.text))) 0 = (l, none) := by
    unfold scanAt
    rw [List.drop_zero]; exact h1
  rw [h3]
end Go.Proofs.Ythoblabimkfjpaa
