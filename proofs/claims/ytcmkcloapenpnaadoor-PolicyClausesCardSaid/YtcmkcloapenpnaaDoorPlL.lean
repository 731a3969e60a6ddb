/- Rules written and read again, plainly: tokens of a line, clauses one behind the other. -/
import Derived.Test.YtcmkcloapenpnaaDoorPlJ
namespace Go.Proofs.YtcmkcloapenpnaaDoor
open Go.RowKit
set_option maxHeartbeats 3200000
set_option maxRecDepth 100000
/-- A token as a text has it: a word or a number. -/
def TkOk (t : Tk) : Prop := (t.1 = 1 ∧ (∃ c r, t.2 = c :: r ∧ isLt c = true) ∧ ∀ x ∈ t.2, isWd x = true) ∨ (t.1 = 2 ∧ (∃ c r, t.2 = c :: r ∧ isDg c = true) ∧ ∀ x ∈ t.2, isNm x = true)
/-- A token ahead of what is none of it. -/
theorem scL_any {t : Tk} (h : TkOk t) (i : Nat) (c : UInt8) (q : List UInt8) (h1 : isWd c = false) (h2 : isNm c = false) : ∃ p, scL i (t.2 ++ c :: q) = (⟨t.1, p, t.2⟩ :: (scL (i + t.2.length) (c :: q)).1, (scL (i + t.2.length) (c :: q)).2) := by
  obtain ⟨k, x⟩ := t
  rcases h with ⟨hk, ⟨d, r, h3, h4⟩, h5⟩ | ⟨hk, ⟨d, r, h3, h4⟩, h5⟩
  · simp only at hk h3 h5
    obtain ⟨e1, e2⟩ := while_take (P := isWd) x (c :: q) h5 (fun c' q' hc => by cases hc; exact h1)
    obtain ⟨n1, n2⟩ := lt_not h4
    refine ⟨i, ?_⟩
    subst hk h3
    unfold scL
    show scan ((r ++ c :: q).length + 1) i (d :: (r ++ c :: q)) = _
    unfold scan
    rw [if_neg (by simp [n1]), if_neg (by simp [n2]), if_pos h4, ← List.cons_append, e1, e2]
    rw [scL_f _ _ _ (by simp)]; rfl
  · simp only at hk h3 h5
    obtain ⟨e1, e2⟩ := while_take (P := isNm) x (c :: q) h5 (fun c' q' hc => by cases hc; exact h2)
    obtain ⟨n1, n2, n3⟩ := dg_not h4
    refine ⟨i, ?_⟩
    subst hk h3
    unfold scL
    show scan ((r ++ c :: q).length + 1) i (d :: (r ++ c :: q)) = _
    unfold scan
    rw [if_neg (by simp [n1]), if_neg (by simp [n2]), if_neg (by simp [n3]), if_pos h4, ← List.cons_append, e1, e2]
    rw [scL_f _ _ _ (by simp)]; rfl
theorem scL_semi (i : Nat) (q : List UInt8) : scL i (59 :: 10 :: q) = (⟨3, i, [59]⟩ :: (scL (i + 2) q).1, (scL (i + 2) q).2) := by
  have h1 : scL i (59 :: 10 :: q) = (⟨3, i, [59]⟩ :: (scL (i + 1) (10 :: q)).1, (scL (i + 1) (10 :: q)).2) := rfl
  rw [h1, scL_blank (by decide)]
/-- Words one behind the other, each behind a blank, up to the sign. -/
theorem scL_rest : ∀ (ts : List Tk) (i : Nat) (q : List UInt8), (∀ t ∈ ts, TkOk t) → ∃ j, (scL i (ts.flatMap (fun t => 32 :: t.2) ++ 59 :: 10 :: q)).1.map era = ts ++ (3, [59]) :: (scL j q).1.map era ∧ (scL i (ts.flatMap (fun t => 32 :: t.2) ++ 59 :: 10 :: q)).2 = (scL j q).2 := by
  intro ts
  induction ts with
  | nil => intro i q _; exact ⟨i + 2, by rw [List.flatMap_nil, List.nil_append, scL_semi]; exact ⟨rfl, rfl⟩⟩
  | cons t ts ih =>
    intro i q h
    obtain ⟨c, q', hq, hc1, hc2⟩ : ∃ c q', ts.flatMap (fun t => 32 :: t.2) ++ 59 :: 10 :: q = c :: q' ∧ isWd c = false ∧ isNm c = false := by
      cases ts with
      | nil => exact ⟨59, _, rfl, by decide, by decide⟩
      | cons u us => exact ⟨32, _, rfl, by decide, by decide⟩
    obtain ⟨p, hp⟩ := scL_any (h t (by simp)) (i + 1) c q' hc1 hc2
    rw [← hq] at hp
    obtain ⟨j, h1, h2⟩ := ih (i + 1 + t.2.length) q (fun u hu => h u (by simp [hu]))
    refine ⟨j, ?_⟩
    have e : (t :: ts).flatMap (fun t => 32 :: t.2) ++ 59 :: 10 :: q = 32 :: (t.2 ++ (ts.flatMap (fun t => 32 :: t.2) ++ 59 :: 10 :: q)) := by simp
    rw [e, scL_blank (by decide), hp]
    exact ⟨by simp only [List.map_cons, h1]; rfl, h2⟩
/-- A line. -/
def lineL (t : Tk) (ts : List Tk) : List UInt8 := t.2 ++ ts.flatMap (fun t => 32 :: t.2) ++ [59, 10]
theorem scL_line (t : Tk) (ts : List Tk) (i : Nat) (q : List UInt8) (h : TkOk t) (hs : ∀ t ∈ ts, TkOk t) : ∃ j, (scL i (lineL t ts ++ q)).1.map era = (t :: ts) ++ (3, [59]) :: (scL j q).1.map era ∧ (scL i (lineL t ts ++ q)).2 = (scL j q).2 := by
  obtain ⟨c, q', hq, hc1, hc2⟩ : ∃ c q', ts.flatMap (fun t => 32 :: t.2) ++ 59 :: 10 :: q = c :: q' ∧ isWd c = false ∧ isNm c = false := by
    cases ts with
    | nil => exact ⟨59, _, rfl, by decide, by decide⟩
    | cons u us => exact ⟨32, _, rfl, by decide, by decide⟩
  obtain ⟨p, hp⟩ := scL_any h i c q' hc1 hc2
  rw [← hq] at hp
  obtain ⟨j, h1, h2⟩ := scL_rest ts (i + t.2.length) q hs
  refine ⟨j, ?_⟩
  have e : lineL t ts ++ q = t.2 ++ (ts.flatMap (fun t => 32 :: t.2) ++ 59 :: 10 :: q) := by unfold lineL; simp
  rw [e, hp]
  exact ⟨by simp only [List.map_cons, h1]; rfl, h2⟩
/-- A clause: its word, what stands behind it, what it does. -/
structure Chk where
  i : Nat
  vals : List Tk
  f : Rul → Rul
def Chk.toks (c : Chk) : List Tk := (1, wordL c.i) :: c.vals
structure ChkOk (c : Chk) : Prop where
  lt : c.i < 13
  ok : ∀ (r : Rul) (t : Tk) (rest : List Tk), t.1 ≠ 2 → clauseI c.i r (c.vals ++ t :: rest) = .ok (c.f r, t :: rest)
theorem word_ix : ∀ i, i < 13 → wordIx (wordL i) = i := by decide
theorem word_inj {i j : Nat} (hi : i < 13) (hj : j < 13) (h : wordL i = wordL j) : i = j := by rw [← word_ix i hi, ← word_ix j hj, h]
theorem run_chks : ∀ (cs : List Chk) (had : List (List UInt8)) (r : Rul) (rest : List Tk), (∀ c ∈ cs, ChkOk c) → (cs.map (·.i)).Nodup → (∀ c ∈ cs, wordL c.i ∉ had) → clausesA had r (cs.flatMap Chk.toks ++ (3, [59]) :: rest) = .ok (had ++ cs.map (fun c => wordL c.i), cs.foldl (fun r c => c.f r) r, (3, [59]) :: rest) := by
  intro cs
  induction cs with
  | nil =>
    intro had r rest _ _ _
    rw [List.flatMap_nil, List.nil_append, clausesA_cons, if_neg (by decide)]
    simp
  | cons c cs ih =>
    intro had r rest hok hnd hno
    have hc := hok c (by simp)
    rw [List.map_cons, List.nodup_cons] at hnd
    obtain ⟨t, q, hq, ht⟩ : ∃ t q, cs.flatMap Chk.toks ++ (3, [59]) :: rest = t :: q ∧ t.1 ≠ 2 := by
      cases cs with
      | nil => exact ⟨(3, [59]), rest, rfl, by decide⟩
      | cons d ds => exact ⟨(1, wordL d.i), _, rfl, by show (1 : Int) ≠ 2; decide⟩
    have e : (c :: cs).flatMap Chk.toks ++ (3, [59]) :: rest = (1, wordL c.i) :: (c.vals ++ (cs.flatMap Chk.toks ++ (3, [59]) :: rest)) := by simp [Chk.toks]
    rw [e, clausesA_cons, if_pos rfl]
    have h1 : ¬(wordL c.i ∈ had ∨ wordIx (wordL c.i) = 13) := by
      rw [word_ix _ hc.lt]
      rintro (h | h)
      · exact hno c (by simp) h
      · have := hc.lt; omega
    refine (if_neg h1).trans ?_
    show (match clauseI (wordIx (wordL c.i)) r (c.vals ++ (cs.flatMap Chk.toks ++ (3, [59]) :: rest)) with
      | .ok (r', ts') => clausesA (had ++ [wordL c.i]) r' ts'
      | .error e => .error e) = _
    rw [word_ix _ hc.lt, hq, hc.ok r t q ht]
    simp only
    rw [← hq, ih _ _ _ (fun d hd => hok d (by simp [hd])) hnd.2 (fun d hd hin => ?_)]
    · simp
    · rw [List.mem_append, List.mem_singleton] at hin
      rcases hin with hin | hin
      · exact hno d (by simp [hd]) hin
      · have hd2 := word_inj (hok d (by simp [hd])).lt hc.lt hin
        exact hnd.1 (List.mem_map.2 ⟨d, hd, hd2⟩)
theorem numT_dec {v : Int} (h : In31 v) : numT (2, decL v.toNat) = some v.toNat := by
  unfold In31 at h
  have h1 := numS_dec (n := v.toNat) (most := 2147483647) (by omega) (by omega)
  unfold numT
  rw [if_pos ⟨rfl, by show 0 ≤ numS (decL v.toNat) _; rw [h1]; omega⟩]
  show some (numS (decL v.toNat) _).toNat = _
  rw [h1]
  rfl
theorem more_dec : ∀ (L : List Int) (t : Tk) (rest : List Tk), (∀ v ∈ L, In31 v) → t.1 ≠ 2 → more (L.map (fun v => ((2, decL v.toNat) : Tk)) ++ t :: rest) = .ok (L.map Int.toNat, t :: rest) := by
  intro L
  induction L with
  | nil =>
    intro t rest _ ht
    rw [List.map_nil, List.nil_append]
    unfold more
    rw [if_neg ht]
    rfl
  | cons v L ih =>
    intro t rest h ht
    rw [List.map_cons, List.cons_append]
    unfold more
    rw [if_pos rfl, numT_dec (h v (by simp)), ih t rest (fun u hu => h u (by simp [hu])) ht]
    rfl
theorem nums1_dec (L : List Int) (t : Tk) (rest : List Tk) (h : ∀ v ∈ L, In31 v) (ht : t.1 ≠ 2) (hL : L ≠ []) : nums1 (L.map (fun v => ((2, decL v.toNat) : Tk)) ++ t :: rest) = .ok (L.map Int.toNat, t :: rest) := by
  cases L with
  | nil => exact absurd rfl hL
  | cons v L =>
    unfold nums1
    rw [List.map_cons, List.cons_append]
    simp only [num1, numT_dec (h v (by simp))]
    rw [more_dec L t rest (fun u hu => h u (by simp [hu])) ht]
    rfl
theorem back_ints {L : List Int} (h : ∀ v ∈ L, In31 v) : (L.map Int.toNat).map Int.ofNat = L := by
  induction L with
  | nil => rfl
  | cons v r ih =>
    rw [List.map_cons, List.map_cons, ih (fun u hu => h u (by simp [hu]))]
    congr 1
    exact Int.toNat_of_nonneg (h v (by simp)).1
end Go.Proofs.YtcmkcloapenpnaaDoor
