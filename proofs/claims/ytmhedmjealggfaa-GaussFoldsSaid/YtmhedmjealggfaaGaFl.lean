/- Whole numbers below 2^53 as words of 64 bits: written, read, added, taken away, multiplied, held against each other, made whole: exactly. -/
import Ieee.Arith
namespace Go.Proofs.Ytmhedmjealggfaa.Fl
open Ieee

theorem log2_mul_pow (N q : Nat) (h : 0 < N) : (N * 2 ^ q).log2 = N.log2 + q := by
  induction q with
  | zero => simp
  | succ q ih =>
    rw [Nat.pow_succ, ← Nat.mul_assoc]
    have hpos : 0 < N * 2 ^ q := Nat.mul_pos h (Nat.two_pow_pos q)
    rw [Nat.log2_def, if_pos (by omega), Nat.mul_div_cancel _ (by omega), ih]
    omega
theorem log2_le (N : Nat) (hN : 0 < N) (h : N < 2 ^ 53) : N.log2 ≤ 52 := by
  have := (Nat.log2_lt (by omega)).2 h
  omega
/-- Nothing is lost where what is cut off is nought. -/
theorem cut_exact (way : Toward) (s : Bool) (N q d : Nat) (hN : 0 < N) (hd : d ≤ q) : way.cut s (N * 2 ^ q) d = N * 2 ^ (q - d) := by
  have hl := log2_mul_pow N q hN
  have hm : min d ((N * 2 ^ q).log2 + 2) = d := by rw [hl]; omega
  have hp : 0 < 2 ^ d := Nat.two_pow_pos d
  have he : N * 2 ^ q = N * 2 ^ (q - d) * 2 ^ d := by rw [Nat.mul_assoc, ← Nat.pow_add]; congr 2; omega
  unfold Toward.cut
  simp only [hm, Nat.shiftLeft_eq, Nat.one_mul]
  rw [he, Nat.mul_mod_left, Nat.mul_div_cancel _ hp]
  cases way <;> simp

theorem dbl_least : double.leastPlace = -1074 := by decide
theorem dbl_frac : double.fractionBits = 52 := rfl
theorem dbl_binade : double.binade = 4503599627370496 := by decide
theorem dbl_inf : double.infRung = 2047 * 4503599627370496 := by decide
theorem dbl_sign : double.signWeight = 2048 * 4503599627370496 := by decide

/-- The rung of a whole number. -/
def rung (N : Nat) : Nat := if N = 0 then 0 else (N.log2 + 1022) * 4503599627370496 + N * 2 ^ (52 - N.log2)
/-- The word of a whole number and a sign. -/
def word (s : Bool) (N : Nat) : Nat := double.word s (rung N)

theorem kept_range (N : Nat) (hN : 0 < N) (h : N < 2 ^ 53) : 4503599627370496 ≤ N * 2 ^ (52 - N.log2) ∧ N * 2 ^ (52 - N.log2) < 2 * 4503599627370496 := by
  have hl := log2_le N hN h
  have h1 := Nat.log2_self_le (n := N) (by omega)
  have h2 := Nat.lt_log2_self (n := N)
  have e1 : 2 ^ N.log2 * 2 ^ (52 - N.log2) = 4503599627370496 := by rw [← Nat.pow_add, show N.log2 + (52 - N.log2) = 52 by omega]
  have e2 : 2 ^ (N.log2 + 1) * 2 ^ (52 - N.log2) = 2 * 4503599627370496 := by rw [← Nat.pow_add, show N.log2 + 1 + (52 - N.log2) = 53 by omega]
  constructor
  · rw [← e1]; exact Nat.mul_le_mul_right _ h1
  · rw [← e2]; exact Nat.mul_lt_mul_of_pos_right h2 (Nat.two_pow_pos _)

/-- However a whole number is given, its word is one. -/
theorem nearest_exact (s : Bool) (N q : Nat) (h : N < 2 ^ 53) : double.nearest s (N * 2 ^ q) (-(q : Int)) = word s N := by
  rcases Nat.eq_zero_or_pos N with h0 | hN
  · subst h0
    simp [Format.nearest, word, rung]
  · have hl := log2_le N hN h
    have hp := Nat.two_pow_pos q
    have hne : N * 2 ^ q ≠ 0 := by have := Nat.mul_pos hN hp; omega
    have hk := kept_range N hN h
    unfold Format.nearest
    rw [if_neg hne]
    simp only [log2_mul_pow N q hN, dbl_frac, dbl_least, dbl_binade, dbl_inf]
    have hlast : max (-(q : Int) + ((N.log2 + q : Nat) : Int) - (52 : Nat)) (-1074) = (N.log2 : Int) - 52 := by omega
    rw [hlast]
    have hr : (((N.log2 : Int) - 52 - -1074).toNat) = N.log2 + 1022 := by omega
    rw [hr]
    have hc : Toward.even.cut s ((N * 2 ^ q) <<< (-(q : Int) - ((N.log2 : Int) - 52)).toNat) ((N.log2 : Int) - 52 - -(q : Int)).toNat = N * 2 ^ (52 - N.log2) := by
      by_cases hq : q ≤ 52 - N.log2
      · rw [show (-(q : Int) - ((N.log2 : Int) - 52)).toNat = 52 - N.log2 - q by omega, show ((N.log2 : Int) - 52 - -(q : Int)).toNat = 0 by omega, Nat.shiftLeft_eq, Nat.mul_assoc, ← Nat.pow_add,
          cut_exact _ _ _ _ _ hN (Nat.zero_le _)]
        congr 2; omega
      · rw [show (-(q : Int) - ((N.log2 : Int) - 52)).toNat = 0 by omega, show ((N.log2 : Int) - 52 - -(q : Int)).toNat = N.log2 + q - 52 by omega, Nat.shiftLeft_eq, Nat.pow_zero, Nat.mul_one,
          cut_exact _ _ _ _ _ hN (by omega)]
        congr 2; omega
    rw [hc]
    unfold word rung
    rw [if_neg (by omega)]
    congr 1
    generalize N * 2 ^ (52 - N.log2) = K at *
    omega

/-- A whole number's word is read back. -/
theorem read_word (s : Bool) (N : Nat) (hN : 0 < N) (h : N < 2 ^ 53) : double.read (word s N) = .number s (N * 2 ^ (52 - N.log2)) (-((52 - N.log2 : Nat) : Int)) := by
  have hl := log2_le N hN h
  have hk := kept_range N hN h
  have hr : rung N = (N.log2 + 1022) * 4503599627370496 + N * 2 ^ (52 - N.log2) := by unfold rung; rw [if_neg (by omega)]
  unfold Format.read word Format.word
  rw [hr]
  simp only [dbl_sign, dbl_binade, dbl_inf, dbl_least]
  generalize N * 2 ^ (52 - N.log2) = K at *
  generalize N.log2 = L at *
  have hrr : (L + 1022) * 4503599627370496 + K < 2047 * 4503599627370496 := by omega
  have e1 : (if s = true then 2048 * 4503599627370496 + ((L + 1022) * 4503599627370496 + K) else (L + 1022) * 4503599627370496 + K) % (2048 * 4503599627370496) = (L + 1022) * 4503599627370496 + K := by split <;> omega
  have e2 : ((if s = true then 2048 * 4503599627370496 + ((L + 1022) * 4503599627370496 + K) else (L + 1022) * 4503599627370496 + K) / (2048 * 4503599627370496) % 2 == 1) = s := by
    cases s <;> simp <;> omega
  rw [e1, e2, if_neg (by omega), if_pos (by omega)]
  congr 1 <;> omega
theorem read_zero (s : Bool) : double.read (word s 0) = .number s 0 (-1074) := by
  cases s <;> decide

/-! ### What stands for a whole number -/
/-- d stands for n. -/
def Rep (d : Datum) (n : Int) : Prop := ∃ (s : Bool) (q : Nat), d = .number s (n.natAbs * 2 ^ q) (-(q : Int)) ∧ (n < 0 → s = true) ∧ (0 < n → s = false)
/-- The word of a whole number. -/
def fl (n : Int) : Nat := word (decide (n < 0)) n.natAbs
theorem rep_fl (n : Int) (h : n.natAbs < 2 ^ 53) : Rep (double.read (fl n)) n := by
  unfold fl
  rcases Nat.eq_zero_or_pos n.natAbs with h0 | h0
  · have hn : n = 0 := by omega
    subst hn
    obtain ⟨m, hm⟩ : ∃ m : Nat, (m : Int) = 1074 := ⟨1074, rfl⟩
    refine ⟨false, m, ?_, by omega, by omega⟩
    rw [show (decide ((0 : Int) < 0)) = false by decide, Int.natAbs_zero, Nat.zero_mul, read_zero, hm]
  · refine ⟨decide (n < 0), 52 - n.natAbs.log2, read_word _ _ h0 h, by simp, fun hp => by simp; omega⟩
/-- A datum that stands for n, its sign right, is written as n's word. -/
theorem write_rep {s : Bool} {n : Int} {q : Nat} (hs : s = decide (n < 0)) (h : n.natAbs < 2 ^ 53) : double.write (.number s (n.natAbs * 2 ^ q) (-(q : Int))) = fl n := by
  unfold Format.write fl
  rw [hs]
  exact nearest_exact _ _ _ h
theorem signed_rep {s : Bool} {n : Int} (h1 : n < 0 → s = true) (h2 : 0 < n → s = false) (q k : Nat) : signed s (n.natAbs * 2 ^ q) k = n * 2 ^ (q + k) := by
  have e : ((n.natAbs * 2 ^ q) <<< k : Nat) = n.natAbs * 2 ^ (q + k) := by rw [Nat.shiftLeft_eq, Nat.mul_assoc, ← Nat.pow_add]
  unfold signed
  rw [e]
  rcases Int.lt_trichotomy n 0 with h | h | h
  · rw [h1 h]
    simp only [if_true, Int.natCast_mul, Int.natCast_pow]
    rw [show ((n.natAbs : Nat) : Int) = -n by omega, Int.neg_mul, Int.neg_neg]
    simp
  · subst h; simp
  · rw [h2 h]
    simp only [Bool.false_eq_true, if_false, Int.natCast_mul, Int.natCast_pow]
    rw [show ((n.natAbs : Nat) : Int) = n by omega]
    simp
theorem sum_rep {d e : Datum} {a b : Int} (ha : Rep d a) (hb : Rep e b) : ∃ (s : Bool) (q : Nat), d.sum e = some (.number s ((a + b).natAbs * 2 ^ q) (-(q : Int))) ∧ (a + b ≠ 0 → s = decide (a + b < 0)) ∧ (a + b = 0 → s = (d.neg && e.neg)) := by
  obtain ⟨s, q, rfl, h1, h2⟩ := ha
  obtain ⟨t, r, rfl, h3, h4⟩ := hb
  unfold Datum.sum
  have hbase : min (-(q : Int)) (-(r : Int)) = -((max q r : Nat) : Int) := by omega
  simp only [hbase]
  rw [signed_rep h1 h2, signed_rep h3 h4, show q + (-(q : Int) - -((max q r : Nat) : Int)).toNat = max q r by omega, show r + (-(r : Int) - -((max q r : Nat) : Int)).toNat = max q r by omega, ← Int.add_mul]
  generalize max q r = m
  have hp : (0 : Int) < 2 ^ m := Int.pow_pos (by decide)
  have hz : (a + b) * 2 ^ m = 0 ↔ a + b = 0 := by
    constructor
    · intro h; rcases Int.mul_eq_zero.1 h with h | h
      · exact h
      · omega
    · intro h; rw [h]; simp
  have hlt : (a + b) * 2 ^ m < 0 ↔ a + b < 0 := by
    constructor
    · intro h
      rcases Int.lt_or_le (a + b) 0 with g | g
      · exact g
      · have := Int.mul_nonneg g (Int.le_of_lt hp); omega
    · intro h; exact Int.mul_neg_of_neg_of_pos h hp
  refine ⟨if (a + b) * 2 ^ m = 0 then s && t else decide ((a + b) * 2 ^ m < 0), m, ?_, ?_, ?_⟩
  · congr 2
    rw [Int.natAbs_mul, Int.natAbs_pow]; rfl
  · intro h; rw [if_neg (fun g => h (hz.1 g))]; simp only [hlt]
  · intro h; rw [if_pos (hz.2 h)]; rfl
theorem opp_rep {e : Datum} {b : Int} (hb : Rep e b) : Rep e.opposite (-b) ∧ (b = 0 → e.opposite.neg = !e.neg) := by
  obtain ⟨t, r, rfl, h3, h4⟩ := hb
  refine ⟨⟨!t, r, by unfold Datum.opposite; rw [Int.natAbs_neg], fun h => ?_, fun h => ?_⟩, fun _ => rfl⟩
  · rw [h4 (by omega)]; rfl
  · rw [h3 (by omega)]; rfl
theorem product_rep {d e : Datum} {a b : Int} (ha : Rep d a) (hb : Rep e b) : ∃ (q : Nat), d.product e = some (.number (d.neg ^^ e.neg) ((a * b).natAbs * 2 ^ q) (-(q : Int))) := by
  obtain ⟨s, q, rfl, h1, h2⟩ := ha
  obtain ⟨t, r, rfl, h3, h4⟩ := hb
  refine ⟨q + r, ?_⟩
  have e1 : a.natAbs * 2 ^ q * (b.natAbs * 2 ^ r) = (a * b).natAbs * 2 ^ (q + r) := by rw [Int.natAbs_mul, Nat.pow_add, Nat.mul_mul_mul_comm]
  have e2 : -(q : Int) + -(r : Int) = -((q + r : Nat) : Int) := by omega
  show some (Datum.number (s ^^ t) (a.natAbs * 2 ^ q * (b.natAbs * 2 ^ r)) (-(q : Int) + -(r : Int))) = _
  rw [e1, e2]
  rfl
theorem neg_fl (n : Int) (h : n.natAbs < 2 ^ 53) : (double.read (fl n)).neg = decide (n < 0) := by
  unfold fl
  rcases Nat.eq_zero_or_pos n.natAbs with h0 | h0
  · rw [h0, read_zero]; rfl
  · rw [read_word _ _ h0 h]; rfl

theorem add_fl (a b : Int) (ha : a.natAbs < 2 ^ 53) (hb : b.natAbs < 2 ^ 53) (h : (a + b).natAbs < 2 ^ 53) : double.add (fl a) (fl b) = some (fl (a + b)) := by
  obtain ⟨s, q, h1, h2, h3⟩ := sum_rep (rep_fl a ha) (rep_fl b hb)
  unfold Format.add
  rw [h1, Option.map_some, write_rep ?_ h]
  by_cases hz : a + b = 0
  · rw [h3 hz, neg_fl a ha, neg_fl b hb]
    rw [hz]
    cases h4 : decide (a < 0) <;> cases h5 : decide (b < 0) <;> simp at h4 h5 ⊢
    omega
  · exact h2 hz
theorem sub_fl (a b : Int) (ha : a.natAbs < 2 ^ 53) (hb : b.natAbs < 2 ^ 53) (h : (a - b).natAbs < 2 ^ 53) : double.sub (fl a) (fl b) = some (fl (a - b)) := by
  have hr := opp_rep (rep_fl b hb)
  obtain ⟨s, q, h1, h2, h3⟩ := sum_rep (rep_fl a ha) hr.1
  rw [← Int.sub_eq_add_neg] at h1 h2 h3
  unfold Format.sub
  rw [h1, Option.map_some, write_rep ?_ h]
  by_cases hz : a - b = 0
  · rw [h3 hz, neg_fl a ha, hz]
    by_cases hb0 : b = 0
    · rw [show a = 0 by omega]; simp
    · have h4 : (double.read (fl b)).opposite.neg = decide (-b < 0) := by
        obtain ⟨t, r, he, h5, h6⟩ := hr.1
        rw [he]
        show t = _
        rcases Int.lt_or_gt_of_ne hb0 with g | g
        · rw [h6 (by omega)]; simp; omega
        · rw [h5 (by omega)]; simp; omega
      rw [h4]
      simp; omega
  · exact h2 hz
theorem mul_fl (a b : Int) (ha : a.natAbs < 2 ^ 53) (hb : b.natAbs < 2 ^ 53) (h : (a * b).natAbs < 2 ^ 53) (ha0 : 0 ≤ a) (hb0 : 0 ≤ b) : double.mul (fl a) (fl b) = some (fl (a * b)) := by
  obtain ⟨q, h1⟩ := product_rep (rep_fl a ha) (rep_fl b hb)
  unfold Format.mul
  rw [h1, Option.map_some, write_rep ?_ h]
  have := Int.mul_nonneg ha0 hb0
  rw [neg_fl a ha, neg_fl b hb]
  rw [decide_eq_false (by omega), decide_eq_false (by omega), decide_eq_false (by omega)]; rfl
theorem order_fl (a b : Int) (ha : a.natAbs < 2 ^ 53) (hb : b.natAbs < 2 ^ 53) : double.order (fl a) (fl b) = some (compare a b) := by
  obtain ⟨s, q, h1, h2, h3⟩ := rep_fl a ha
  obtain ⟨t, r, h4, h5, h6⟩ := rep_fl b hb
  unfold Format.order
  rw [h1, h4]
  unfold Datum.order
  have hbase : min (-(q : Int)) (-(r : Int)) = -((max q r : Nat) : Int) := by omega
  simp only [hbase]
  rw [signed_rep h2 h3, signed_rep h5 h6, show q + (-(q : Int) - -((max q r : Nat) : Int)).toNat = max q r by omega, show r + (-(r : Int) - -((max q r : Nat) : Int)).toNat = max q r by omega]
  generalize max q r = m
  have hp : (0 : Int) < 2 ^ m := Int.pow_pos (by decide)
  congr 1
  show compareOfLessAndEq (a * 2 ^ m) (b * 2 ^ m) = compareOfLessAndEq a b
  unfold compareOfLessAndEq
  have h1 : a * 2 ^ m < b * 2 ^ m ↔ a < b := ⟨fun h => Int.lt_of_mul_lt_mul_right h (Int.le_of_lt hp), fun h => Int.mul_lt_mul_of_pos_right h hp⟩
  have h2 : a * 2 ^ m = b * 2 ^ m ↔ a = b := ⟨fun h => Int.eq_of_mul_eq_mul_right (by omega) h, fun h => by rw [h]⟩
  simp only [h1, h2]
theorem toInt_rep {d : Datum} {n : Int} (h : Rep d n) (hn : n ≠ 0) : d.toInt .zero = some n := by
  obtain ⟨s, q, rfl, h1, h2⟩ := h
  have hc : Toward.zero.cut s ((n.natAbs * 2 ^ q) <<< (-(q : Int)).toNat) (-(-(q : Int))).toNat = n.natAbs * 2 ^ 0 := by
    rw [show (-(q : Int)).toNat = 0 by omega, show (-(-(q : Int))).toNat = q by omega, Nat.shiftLeft_eq, Nat.pow_zero, Nat.mul_one, cut_exact _ _ _ _ _ (by omega) (Nat.le_refl _), Nat.sub_self]
  show some (signed s (Toward.zero.cut s ((n.natAbs * 2 ^ q) <<< (-(q : Int)).toNat) (-(-(q : Int))).toNat) 0) = some n
  rw [hc, signed_rep h1 h2 0 0]
  simp
theorem toInt_fl (n : Int) (h : n.natAbs < 2 ^ 53) : (double.read (fl n)).toInt .zero = some n := by
  by_cases h0 : n = 0
  · subst h0; decide
  · exact toInt_rep (rep_fl n h) h0

/-! ### a number with a half -/
/-- The word of n + 1/2. -/
def flHalf (n : Int) : Nat := double.write (.number (decide (2 * n + 1 < 0)) (2 * n + 1).natAbs (-1))
/-! ### any whole number: how it stands to a small one -/
/-- The word of any whole number, as Go's conversion writes it. -/
def flAny (n : Int) : Nat := double.write (.number (decide (n < 0)) n.natAbs 0)
theorem flAny_eq (n : Int) (h : n.natAbs < 2 ^ 53) : flAny n = fl n := by
  have := write_rep (s := decide (n < 0)) (n := n) (q := 0) rfl h
  simpa [flAny] using this
end Go.Proofs.Ytmhedmjealggfaa.Fl
