/- More on words of 64 bits: numbers with a half, whole numbers of any size, the floor. -/
import Derived.Test.YtmhedmjealggfaaGaFl
namespace Go.Proofs.Ytmhedmjealggfaa
namespace Fl
open Ieee

/-- d stands for m halves. -/
def Rep2 (d : Datum) (m : Int) : Prop := ∃ (s : Bool) (q : Nat), d = .number s (m.natAbs * 2 ^ q) (-((q + 1 : Nat) : Int)) ∧ (m < 0 → s = true) ∧ (0 < m → s = false)
theorem order_rep2 {d e : Datum} {a b : Int} (ha : Rep2 d a) (hb : Rep2 e b) : d.order e = some (compare a b) := by
  obtain ⟨s, q, h1, h2, h3⟩ := ha
  obtain ⟨t, r, h4, h5, h6⟩ := hb
  rw [h1, h4]
  unfold Datum.order
  have hbase : min (-((q + 1 : Nat) : Int)) (-((r + 1 : Nat) : Int)) = -((max q r + 1 : Nat) : Int) := by omega
  simp only [hbase]
  rw [signed_rep h2 h3, signed_rep h5 h6, show q + (-((q + 1 : Nat) : Int) - -((max q r + 1 : Nat) : Int)).toNat = max q r by omega, show r + (-((r + 1 : Nat) : Int) - -((max q r + 1 : Nat) : Int)).toNat = max q r by omega]
  generalize max q r = m
  have hp : (0 : Int) < 2 ^ m := Int.pow_pos (by decide)
  congr 1
  show compareOfLessAndEq (a * 2 ^ m) (b * 2 ^ m) = compareOfLessAndEq a b
  unfold compareOfLessAndEq
  have h1 : a * 2 ^ m < b * 2 ^ m ↔ a < b := ⟨fun h => Int.lt_of_mul_lt_mul_right h (Int.le_of_lt hp), fun h => Int.mul_lt_mul_of_pos_right h hp⟩
  have h2 : a * 2 ^ m = b * 2 ^ m ↔ a = b := ⟨fun h => Int.eq_of_mul_eq_mul_right (by omega) h, fun h => by rw [h]⟩
  simp only [h1, h2]
/-- A whole number in halves. -/
theorem rep2_fl (n : Int) (h : n.natAbs < 2 ^ 52) : Rep2 (double.read (fl n)) (2 * n) := by
  unfold fl
  rcases Nat.eq_zero_or_pos n.natAbs with h0 | h0
  · have hn : n = 0 := by omega
    subst hn
    obtain ⟨m, hm⟩ : ∃ m : Nat, ((m + 1 : Nat) : Int) = 1074 := ⟨1073, rfl⟩
    refine ⟨false, m, ?_, by omega, by omega⟩
    rw [show (decide ((0 : Int) < 0)) = false by decide, Int.natAbs_zero, read_zero, hm]
    simp
  · have hl : n.natAbs.log2 < 52 := (Nat.log2_lt (by omega)).2 h
    refine ⟨decide (n < 0), 51 - n.natAbs.log2, ?_, by simp; omega, by simp; omega⟩
    rw [read_word _ _ h0 (by omega), show (2 * n).natAbs = n.natAbs * 2 by omega, Nat.mul_assoc, show 2 * 2 ^ (51 - n.natAbs.log2) = 2 ^ (52 - n.natAbs.log2) by rw [show 52 - n.natAbs.log2 = (51 - n.natAbs.log2) + 1 by omega, Nat.pow_succ]; omega]
    congr 2
    omega
/-- The word of half of an odd number. -/
def wordH (s : Bool) (M : Nat) : Nat := double.word s ((M.log2 + 1021) * 4503599627370496 + M * 2 ^ (52 - M.log2))
theorem nearest_half (s : Bool) (M q : Nat) (hM : 0 < M) (h : M < 2 ^ 53) : double.nearest s (M * 2 ^ q) (-((q + 1 : Nat) : Int)) = wordH s M := by
  have hl := log2_le M hM h
  have hp := Nat.two_pow_pos q
  have hne : M * 2 ^ q ≠ 0 := by have := Nat.mul_pos hM hp; omega
  have hk := kept_range M hM h
  unfold Format.nearest
  rw [if_neg hne]
  simp only [log2_mul_pow M q hM, dbl_frac, dbl_least, dbl_binade, dbl_inf]
  have hlast : max (-((q + 1 : Nat) : Int) + ((M.log2 + q : Nat) : Int) - (52 : Nat)) (-1074) = (M.log2 : Int) - 53 := by omega
  rw [hlast]
  have hr : (((M.log2 : Int) - 53 - -1074).toNat) = M.log2 + 1021 := by omega
  rw [hr]
  have hc : Toward.even.cut s ((M * 2 ^ q) <<< (-((q + 1 : Nat) : Int) - ((M.log2 : Int) - 53)).toNat) ((M.log2 : Int) - 53 - -((q + 1 : Nat) : Int)).toNat = M * 2 ^ (52 - M.log2) := by
    by_cases hq : q ≤ 52 - M.log2
    · rw [show (-((q + 1 : Nat) : Int) - ((M.log2 : Int) - 53)).toNat = 52 - M.log2 - q by omega, show ((M.log2 : Int) - 53 - -((q + 1 : Nat) : Int)).toNat = 0 by omega, Nat.shiftLeft_eq, Nat.mul_assoc, ← Nat.pow_add,
        cut_exact _ _ _ _ _ hM (Nat.zero_le _)]
      congr 2; omega
    · rw [show (-((q + 1 : Nat) : Int) - ((M.log2 : Int) - 53)).toNat = 0 by omega, show ((M.log2 : Int) - 53 - -((q + 1 : Nat) : Int)).toNat = M.log2 + q - 52 by omega, Nat.shiftLeft_eq, Nat.pow_zero, Nat.mul_one,
        cut_exact _ _ _ _ _ hM (by omega)]
      congr 2; omega
  rw [hc]
  unfold wordH
  congr 1
  generalize M * 2 ^ (52 - M.log2) = K at *
  omega
theorem read_half (s : Bool) (M : Nat) (hM : 0 < M) (h : M < 2 ^ 53) : double.read (wordH s M) = .number s (M * 2 ^ (52 - M.log2)) (-((52 - M.log2 + 1 : Nat) : Int)) := by
  have hl := log2_le M hM h
  have hk := kept_range M hM h
  unfold Format.read wordH Format.word
  simp only [dbl_sign, dbl_binade, dbl_inf, dbl_least]
  generalize M * 2 ^ (52 - M.log2) = K at *
  generalize M.log2 = L at *
  have hrr : (L + 1021) * 4503599627370496 + K < 2047 * 4503599627370496 := by omega
  have e1 : (if s = true then 2048 * 4503599627370496 + ((L + 1021) * 4503599627370496 + K) else (L + 1021) * 4503599627370496 + K) % (2048 * 4503599627370496) = (L + 1021) * 4503599627370496 + K := by split <;> omega
  have e2 : ((if s = true then 2048 * 4503599627370496 + ((L + 1021) * 4503599627370496 + K) else (L + 1021) * 4503599627370496 + K) / (2048 * 4503599627370496) % 2 == 1) = s := by
    cases s <;> simp <;> omega
  rw [e1, e2, if_neg (by omega), if_pos (by omega)]
  congr 1 <;> omega
/-- n + 1/2, as Go adds it: what it stands for. -/
theorem read_add_half (n : Int) (h0 : 0 ≤ n) (h1 : n ≤ 65520) : ∃ r, double.add (fl n) 4602678819172646912 = some r ∧ ∃ q, double.read r = .number false ((2 * n + 1).natAbs * 2 ^ q) (-((q + 1 : Nat) : Int)) := by
  have hh : Rep2 (double.read 4602678819172646912) 1 := ⟨false, 52, by decide, by decide, by decide⟩
  have hb : n.natAbs < 2 ^ 52 := by
    have : n.natAbs < 4503599627370496 := by omega
    exact this
  obtain ⟨s, q, e1, s1, s2⟩ := rep2_fl n hb
  obtain ⟨t, r, e2, t1, t2⟩ := hh
  unfold Format.add
  rw [e1, e2]
  unfold Datum.sum
  have hbase : min (-((q + 1 : Nat) : Int)) (-((r + 1 : Nat) : Int)) = -((max q r + 1 : Nat) : Int) := by omega
  simp only [hbase]
  rw [signed_rep s1 s2, signed_rep t1 t2, show q + (-((q + 1 : Nat) : Int) - -((max q r + 1 : Nat) : Int)).toNat = max q r by omega, show r + (-((r + 1 : Nat) : Int) - -((max q r + 1 : Nat) : Int)).toNat = max q r by omega, ← Int.add_mul]
  generalize max q r = m
  have hp : (0 : Int) < 2 ^ m := Int.pow_pos (by decide)
  have hpos : 0 < (2 * n + 1) * 2 ^ m := Int.mul_pos (by omega) hp
  have hna : ((2 * n + 1) * 2 ^ m).natAbs = (2 * n + 1).natAbs * 2 ^ m := by
    rw [Int.natAbs_mul]; congr 1
  rw [if_neg (by omega), hna, decide_eq_false (by omega), Option.map_some]
  unfold Format.write
  simp only
  rw [nearest_half _ _ _ (by omega) (by omega)]
  exact ⟨_, rfl, _, read_half _ _ (by omega) (by omega)⟩

/-- The floor of a number with a half, and that of a whole one. -/
theorem floor_half (n : Int) (q : Nat) (h0 : 0 ≤ n) (h1 : n ≤ 65520) : double.write ((Datum.number false ((2 * n + 1).natAbs * 2 ^ q) (-((q + 1 : Nat) : Int))).integral .down) = fl n := by
  unfold Datum.integral Toward.cut
  have e1 : (-((q + 1 : Nat) : Int)).toNat = 0 := by omega
  have e2 : (-(-((q + 1 : Nat) : Int))).toNat = q + 1 := by omega
  have hl : ((2 * n + 1).natAbs * 2 ^ q).log2 = (2 * n + 1).natAbs.log2 + q := log2_mul_pow _ _ (by omega)
  simp only [e1, e2, Nat.shiftLeft_zero, hl, Bool.false_and, Bool.toNat_false, Nat.add_zero]
  rw [show min (q + 1) ((2 * n + 1).natAbs.log2 + q + 2) = q + 1 by omega, Nat.shiftLeft_eq, Nat.one_mul, Nat.pow_succ, Nat.mul_comm (2 ^ q) 2, Nat.mul_div_mul_right _ _ (Nat.two_pow_pos q)]
  rw [show (2 * n + 1).natAbs / 2 = n.natAbs by omega]
  have := write_rep (s := false) (n := n) (q := 0) (by rw [decide_eq_false (by omega)]) (by omega)
  simpa using this
theorem floor_whole (n : Int) (s : Bool) (q : Nat) (h0 : 0 ≤ n) (h1 : n ≤ 65520) (hs : s = false) : double.write ((Datum.number s (n.natAbs * 2 ^ q) (-(q : Int))).integral .down) = fl n := by
  subst hs
  unfold Datum.integral
  simp only
  rw [show (-(q : Int)).toNat = 0 by omega, show (-(-(q : Int))).toNat = q by omega, Nat.shiftLeft_zero]
  rcases Nat.eq_zero_or_pos n.natAbs with hz | hp
  · have hn : n = 0 := by omega
    subst hn
    have : Toward.down.cut false (Int.natAbs 0 * 2 ^ q) q = 0 := by
      unfold Toward.cut; simp
    rw [this]
    decide
  · rw [cut_exact _ _ _ _ _ hp (Nat.le_refl _)]
    have := write_rep (s := false) (n := n) (q := 0) (by rw [decide_eq_false (by omega)]) (by omega)
    simpa using this

/-! ### whole numbers of any size -/
theorem read_big (s : Bool) (N : Nat) (h : 2 ^ 53 ≤ N) (h' : N ≤ 2 ^ 63) : ∃ m p : Nat, double.read (double.write (.number s N 0)) = .number s m (p : Int) ∧ 2 ^ 52 ≤ m := by
  have hne : N ≠ 0 := by omega
  have hl1 : 53 ≤ N.log2 := (Nat.le_log2 hne).2 h
  have hl2 : N.log2 < 64 := (Nat.log2_lt hne).2 (by omega)
  have hself := Nat.log2_self_le hne
  have hlt := Nat.lt_log2_self (n := N)
  unfold Format.write Format.nearest
  simp only
  rw [if_neg hne]
  simp only [dbl_frac, dbl_least, dbl_binade, dbl_inf]
  have hlast : max ((0 : Int) + (N.log2 : Int) - (52 : Nat)) (-1074) = (N.log2 : Int) - 52 := by omega
  rw [hlast, show ((0 : Int) - ((N.log2 : Int) - 52)).toNat = 0 by omega, show ((N.log2 : Int) - 52 - 0).toNat = N.log2 - 52 by omega, show ((N.log2 : Int) - 52 - -1074).toNat = N.log2 + 1022 by omega, Nat.shiftLeft_zero]
  have hcut : 4503599627370496 ≤ Toward.even.cut s N (N.log2 - 52) ∧ Toward.even.cut s N (N.log2 - 52) ≤ 9007199254740992 := by
    unfold Toward.cut
    simp only
    rw [show min (N.log2 - 52) (N.log2 + 2) = N.log2 - 52 by omega, Nat.shiftLeft_eq, Nat.one_mul]
    have hp := Nat.two_pow_pos (N.log2 - 52)
    have e1 : 2 ^ N.log2 = 4503599627370496 * 2 ^ (N.log2 - 52) := by rw [show N.log2 = 52 + (N.log2 - 52) by omega, Nat.pow_add]; simp
    have e2 : 2 ^ (N.log2 + 1) = 9007199254740992 * 2 ^ (N.log2 - 52) := by rw [show N.log2 + 1 = 53 + (N.log2 - 52) by omega, Nat.pow_add]
    have g1 : 4503599627370496 ≤ N / 2 ^ (N.log2 - 52) := (Nat.le_div_iff_mul_le hp).2 (by omega)
    have g2 : N / 2 ^ (N.log2 - 52) < 9007199254740992 := (Nat.div_lt_iff_lt_mul hp).2 (by omega)
    generalize N / 2 ^ (N.log2 - 52) = low at *
    constructor
    · omega
    · have : ∀ b : Bool, b.toNat ≤ 1 := fun b => by cases b <;> simp
      have := this (decide (2 ^ (N.log2 - 52) < 2 * (N % 2 ^ (N.log2 - 52))) || 2 ^ (N.log2 - 52) == 2 * (N % 2 ^ (N.log2 - 52)) && low % 2 == 1)
      omega
  generalize Toward.even.cut s N (N.log2 - 52) = K at *
  generalize N.log2 = L at *
  rw [Nat.min_eq_left (by omega)]
  unfold Format.read Format.word
  simp only [dbl_sign, dbl_binade, dbl_inf, dbl_least]
  have hrr : (L + 1022) * 4503599627370496 + K < 2047 * 4503599627370496 := by omega
  have e1 : (if s = true then 2048 * 4503599627370496 + ((L + 1022) * 4503599627370496 + K) else (L + 1022) * 4503599627370496 + K) % (2048 * 4503599627370496) = (L + 1022) * 4503599627370496 + K := by split <;> omega
  have e2 : ((if s = true then 2048 * 4503599627370496 + ((L + 1022) * 4503599627370496 + K) else (L + 1022) * 4503599627370496 + K) / (2048 * 4503599627370496) % 2 == 1) = s := by
    cases s <;> simp <;> omega
  rw [e1, e2, if_neg (by omega), if_pos (by omega)]
  refine ⟨4503599627370496 + ((L + 1022) * 4503599627370496 + K) % 4503599627370496, ((L + 1022) * 4503599627370496 + K) / 4503599627370496 - 1 - 1074, ?_, by omega⟩
  congr 1
  omega
theorem order_zero_big (s : Bool) (m p : Nat) (h : 2 ^ 52 ≤ m) : (double.read (fl 0)).order (.number s m (p : Int)) = some (if s then .gt else .lt) := by
  have e : double.read (fl 0) = .number false 0 (-1074) := by decide
  rw [e]
  unfold Datum.order
  have hp := Nat.two_pow_pos p
  simp only [show min (-1074 : Int) (p : Int) = -1074 by omega, signed, Nat.shiftLeft_eq]
  have h1 : 0 < m * 2 ^ ((p : Int) - -1074).toNat := Nat.mul_pos (by omega) (Nat.two_pow_pos _)
  generalize m * 2 ^ ((p : Int) - -1074).toNat = K at *
  cases s
  · simp only [Bool.false_eq_true, if_false]
    congr 1
    show compareOfLessAndEq _ _ = _
    unfold compareOfLessAndEq
    rw [if_pos (by simp; omega)]
  · simp only [if_true]
    congr 1
    show compareOfLessAndEq _ _ = _
    unfold compareOfLessAndEq
    rw [if_neg (by simp), if_neg (by simp; omega)]
theorem order_big_top (m p : Nat) (h : 2 ^ 52 ≤ m) : (Datum.number false m (p : Int)).order (double.read (fl 65521)) = some .gt := by
  obtain ⟨s, q, e, _, s2⟩ := rep_fl 65521 (by decide)
  rw [e, s2 (by decide)]
  unfold Datum.order
  simp only [show min (p : Int) (-(q : Int)) = -(q : Int) by omega, signed, Nat.shiftLeft_eq, Bool.false_eq_true, if_false]
  have e1 : ((p : Int) - -(q : Int)).toNat = p + q := by omega
  have e2 : (-(q : Int) - -(q : Int)).toNat = 0 := by omega
  rw [e1, e2, Nat.pow_add, Nat.pow_zero, Nat.mul_one, ← Nat.mul_assoc]
  have h1 : 65521 * 2 ^ q < m * 2 ^ p * 2 ^ q := Nat.mul_lt_mul_of_pos_right (by have := Nat.mul_le_mul h (Nat.two_pow_pos p); omega) (Nat.two_pow_pos q)
  show some (compareOfLessAndEq _ _) = _
  unfold compareOfLessAndEq
  have h2 : (65521 : Int).natAbs = 65521 := rfl
  rw [h2]
  rw [if_neg (by omega), if_neg (by omega)]
end Fl
end Go.Proofs.Ytmhedmjealggfaa
