/- Texts taken apart, plainly. -/
import Derived.Test.YthoblabimkfjpaaWdB
namespace Go.Proofs.Ythoblabimkfjpaa
open Go.RowKit
set_option maxHeartbeats 3200000
set_option maxRecDepth 100000
def isDg (c : UInt8) : Bool := decide (48 ≤ c.toNat) && decide (c.toNat ≤ 57)
def isLt (c : UInt8) : Bool := decide (97 ≤ c.toNat) && decide (c.toNat ≤ 122)
def isBl (c : UInt8) : Bool := c == 32 || c == 10
def isWd (c : UInt8) : Bool := isLt c || isDg c || c == 45
def isNm (c : UInt8) : Bool := isDg c || c == 46 || c == 47
def isRm (c : UInt8) : Bool := c != 10
/-- A token as data. -/
structure Tok where
  kind : Int
  pos : Int
  text : List UInt8
/-- What a text has from a place on; at what place it is none. -/
def scan : Nat → Nat → List UInt8 → List Tok × Option Nat
  | 0, _, _ => ([], none)
  | _ + 1, _, [] => ([], none)
  | f + 1, i, c :: r =>
    if isBl c then scan f (i + 1) r
    else if c == 35 then scan f (i + ((c :: r).takeWhile isRm).length) ((c :: r).dropWhile isRm)
    else if isLt c then
      (⟨1, i, (c :: r).takeWhile isWd⟩ :: (scan f (i + ((c :: r).takeWhile isWd).length) ((c :: r).dropWhile isWd)).1, (scan f (i + ((c :: r).takeWhile isWd).length) ((c :: r).dropWhile isWd)).2)
    else if isDg c then
      (⟨2, i, (c :: r).takeWhile isNm⟩ :: (scan f (i + ((c :: r).takeWhile isNm).length) ((c :: r).dropWhile isNm)).1, (scan f (i + ((c :: r).takeWhile isNm).length) ((c :: r).dropWhile isNm)).2)
    else if c == 59 then (⟨3, i, [59]⟩ :: (scan f (i + 1) r).1, (scan f (i + 1) r).2)
    else ([], some i)
theorem scan_nil (f i : Nat) : scan f i [] = ([], none) := by cases f <;> rfl
theorem drop_less {c : UInt8} {r : List UInt8} {P : UInt8 → Bool} (h : P c = true) : ((c :: r).dropWhile P).length ≤ r.length := by
  rw [List.dropWhile_cons_of_pos h]
  exact (List.dropWhile_sublist P).length_le
/-- More fuel does not turn it. -/
theorem scan_same : ∀ (f g i : Nat) (s : List UInt8), s.length ≤ f → s.length ≤ g → scan f i s = scan g i s := by
  intro f
  induction f with
  | zero =>
    intro g i s hf _
    obtain rfl : s = [] := List.eq_nil_of_length_eq_zero (by omega)
    rw [scan_nil, scan_nil]
  | succ f ih =>
    intro g i s hf hg
    cases s with
    | nil => rw [scan_nil, scan_nil]
    | cons c r =>
      cases g with
      | zero => simp at hg
      | succ g =>
        simp only [List.length_cons] at hf hg
        unfold scan
        by_cases h1 : isBl c = true
        · rw [if_pos h1, if_pos h1]; exact ih g _ _ (by omega) (by omega)
        · rw [if_neg h1, if_neg h1]
          by_cases h2 : (c == 35) = true
          · rw [if_pos h2, if_pos h2]
            have hr : isRm c = true := by rw [eq_of_beq h2]; rfl
            have := drop_less (r := r) hr
            exact ih g _ _ (by omega) (by omega)
          · rw [if_neg h2, if_neg h2]
            by_cases h3 : isLt c = true
            · rw [if_pos h3, if_pos h3]
              have hr : isWd c = true := by unfold isWd; rw [h3]; rfl
              have := drop_less (r := r) hr
              rw [ih g _ _ (by omega) (by omega)]
            · rw [if_neg h3, if_neg h3]
              by_cases h4 : isDg c = true
              · rw [if_pos h4, if_pos h4]
                have hr : isNm c = true := by unfold isNm; rw [h4]; rfl
                have := drop_less (r := r) hr
                rw [ih g _ _ (by omega) (by omega)]
              · rw [if_neg h4, if_neg h4]
                by_cases h5 : (c == 59) = true
                · rw [if_pos h5, if_pos h5, ih g _ _ (by omega) (by omega)]
                · rw [if_neg h5, if_neg h5]
/-- From place i of s on. -/
def scanAt (s : List UInt8) (i : Nat) : List Tok × Option Nat := scan (s.drop i).length i (s.drop i)
/-- What Split answers: tokens, where, which error. -/
def splitS (s : List UInt8) : List Tok × Int × Int :=
  if 10000 < s.length then ([], 0, 6) else
  match scanAt s 0 with
  | (l, none) => (l, -1, 0)
  | (_, some k) => ([], (k : Int), 3)
theorem scan_at (s : List UInt8) (f i : Nat) (h : (s.drop i).length ≤ f) : scan f i (s.drop i) = scanAt s i := scan_same _ _ _ _ h (Nat.le_refl _)
theorem scanAt_end {s : List UInt8} {i : Nat} (h : s.length ≤ i) : scanAt s i = ([], none) := by
  unfold scanAt
  rw [List.drop_of_length_le h, scan_nil]
theorem drop_while (P : UInt8 → Bool) : ∀ l : List UInt8, l.dropWhile P = l.drop (l.takeWhile P).length
  | [] => rfl
  | c :: r => by
    cases h : P c with
    | true => rw [List.dropWhile_cons_of_pos h, List.takeWhile_cons_of_pos h, List.length_cons, List.drop_succ_cons]; exact drop_while P r
    | false => rw [List.dropWhile_cons_of_neg (by simp [h]), List.takeWhile_cons_of_neg (by simp [h])]; rfl
theorem drop_run (s : List UInt8) (P : UInt8 → Bool) (i : Nat) : (s.drop i).dropWhile P = s.drop (i + ((s.drop i).takeWhile P).length) := by
  rw [drop_while, List.drop_drop]
/-- One step. -/
theorem scanAt_step {s : List UInt8} {i : Nat} {c : UInt8} (h : s[i]? = some c) : scanAt s i =
    if isBl c then scanAt s (i + 1)
    else if c == 35 then scanAt s (i + ((s.drop i).takeWhile isRm).length)
    else if isLt c then (⟨1, i, (s.drop i).takeWhile isWd⟩ :: (scanAt s (i + ((s.drop i).takeWhile isWd).length)).1, (scanAt s (i + ((s.drop i).takeWhile isWd).length)).2)
    else if isDg c then (⟨2, i, (s.drop i).takeWhile isNm⟩ :: (scanAt s (i + ((s.drop i).takeWhile isNm).length)).1, (scanAt s (i + ((s.drop i).takeWhile isNm).length)).2)
    else if c == 59 then (⟨3, i, [59]⟩ :: (scanAt s (i + 1)).1, (scanAt s (i + 1)).2)
    else ([], some i) := by
  obtain ⟨hi, hc⟩ := List.getElem?_eq_some_iff.1 h
  have hd : s.drop i = c :: s.drop (i + 1) := by rw [List.drop_eq_getElem_cons hi, hc]
  have hl : (s.drop i).length = (s.drop (i + 1)).length + 1 := by rw [hd]; rfl
  have key : scanAt s i = scan ((s.drop (i + 1)).length + 1) i (c :: s.drop (i + 1)) := by unfold scanAt; rw [hl, hd]
  rw [key]
  unfold scan
  rw [← hd]
  by_cases h1 : isBl c = true
  · rw [if_pos h1, if_pos h1]; rfl
  · rw [if_neg h1, if_neg h1]
    by_cases h2 : (c == 35) = true
    · rw [if_pos h2, if_pos h2]
      have hr : isRm c = true := by rw [eq_of_beq h2]; rfl
      have hq := drop_less (r := s.drop (i + 1)) hr
      rw [← hd] at hq
      rw [drop_run] at hq ⊢
      exact scan_at _ _ _ hq
    · rw [if_neg h2, if_neg h2]
      by_cases h3 : isLt c = true
      · rw [if_pos h3, if_pos h3]
        have hr : isWd c = true := by unfold isWd; rw [h3]; rfl
        have hq := drop_less (r := s.drop (i + 1)) hr
        rw [← hd] at hq
        rw [drop_run] at hq ⊢
        rw [scan_at _ _ _ hq]
      · rw [if_neg h3, if_neg h3]
        by_cases h4 : isDg c = true
        · rw [if_pos h4, if_pos h4]
          have hr : isNm c = true := by unfold isNm; rw [h4]; rfl
          have hq := drop_less (r := s.drop (i + 1)) hr
          rw [← hd] at hq
          rw [drop_run] at hq ⊢
          rw [scan_at _ _ _ hq]
        · rw [if_neg h4, if_neg h4]
          by_cases h5 : (c == 59) = true
          · rw [if_pos h5, if_pos h5]; rfl
          · rw [if_neg h5, if_neg h5]
/-- Where a run ends. -/
theorem run_end {s : List UInt8} {P : UInt8 → Bool} {i j : Nat} (hij : i ≤ j) (hj : j ≤ s.length) (hin : ∀ k, i ≤ k → k < j → ∀ c, s[k]? = some c → P c = true) (hend : ∀ c, s[j]? = some c → P c = false) : (s.drop i).takeWhile P = (s.drop i).take (j - i) ∧ i + ((s.drop i).takeWhile P).length = j := by
  have key : ∀ (d i : Nat), i + d = j → (∀ k, i ≤ k → k < j → ∀ c, s[k]? = some c → P c = true) → (s.drop i).takeWhile P = (s.drop i).take d := by
    intro d
    induction d with
    | zero =>
      intro i hi _
      obtain rfl : i = j := by omega
      rw [List.take_zero]
      rcases Nat.lt_or_ge i s.length with h | h
      · rw [List.drop_eq_getElem_cons h, List.takeWhile_cons_of_neg]
        rw [hend s[i] (List.getElem?_eq_getElem h)]; simp
      · rw [List.drop_of_length_le h]; rfl
    | succ d ih =>
      intro i hi hin
      have h : i < s.length := by omega
      rw [List.drop_eq_getElem_cons h, List.takeWhile_cons_of_pos (hin i (Nat.le_refl _) (by omega) _ (List.getElem?_eq_getElem h)), ih (i + 1) (by omega) (fun k h1 h2 => hin k (by omega) h2), List.take_succ_cons]
  have h1 := key (j - i) i (by omega) hin
  refine ⟨h1, ?_⟩
  rw [h1, List.length_take, List.length_drop]; omega
end Go.Proofs.Ythoblabimkfjpaa
