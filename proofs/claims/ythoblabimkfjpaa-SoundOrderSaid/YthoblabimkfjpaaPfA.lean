/- Prefixes, plainly: decimal, numbers, masks, what Read and Show tell. -/
import Derived.Test.YthoblabimkfjpaaWdB
namespace Go.Proofs.Ythoblabimkfjpaa
open Go.RowKit
set_option maxHeartbeats 3200000
set_option maxRecDepth 100000
def digB (n : Nat) : UInt8 := UInt8.ofNat (48 + n % 10)
def decF : Nat → Nat → List UInt8
  | 0, n => [digB n]
  | f + 1, n => if 9 < n then decF f (n / 10) ++ [digB n] else [digB n]
/-- A number, in decimal. -/
def decL (n : Nat) : List UInt8 := decF n n
theorem decF_same : ∀ (f g n : Nat), n ≤ f → n ≤ g → decF f n = decF g n := by
  intro f
  induction f with
  | zero =>
    intro g n hf _
    obtain rfl : n = 0 := by omega
    cases g <;> rfl
  | succ f ih =>
    intro g n hf hg
    cases g with
    | zero =>
      obtain rfl : n = 0 := by omega
      rfl
    | succ g =>
      unfold decF
      by_cases h : 9 < n
      · rw [if_pos h, if_pos h, ih g (n / 10) (by omega) (by omega)]
      · rw [if_neg h, if_neg h]
theorem decL_small {n : Nat} (h : n ≤ 9) : decL n = [digB n] := by
  unfold decL
  cases n with
  | zero => rfl
  | succ n => unfold decF; rw [if_neg (by omega)]
theorem decL_big {n : Nat} (h : 9 < n) : decL n = decL (n / 10) ++ [digB n] := by
  unfold decL
  cases n with
  | zero => omega
  | succ n =>
    conv => lhs; unfold decF
    rw [if_pos h, decF_same n _ _ (by omega) (Nat.le_refl _)]
def isDig (c : UInt8) : Bool := decide (48 ≤ c.toNat) && decide (c.toNat ≤ 57)
theorem digB_val (n : Nat) : (digB n).toNat = 48 + n % 10 := by
  unfold digB
  rw [UInt8.toNat_ofNat']
  omega
theorem digB_dig (n : Nat) : isDig (digB n) = true := by
  unfold isDig
  rw [digB_val]
  simp; omega
theorem dec_ind {P : Nat → Prop} (h0 : ∀ n, n ≤ 9 → P n) (h1 : ∀ n, 9 < n → P (n / 10) → P n) : ∀ n, P n := by
  intro n
  induction n using Nat.strongRecOn with
  | ind n ih =>
    by_cases h : 9 < n
    · exact h1 n h (ih (n / 10) (by omega))
    · exact h0 n (by omega)
theorem decL_digs (n : Nat) : ∀ c ∈ decL n, isDig c = true := by
  induction n using dec_ind with
  | h0 n h => rw [decL_small h]; intro c hc; simp at hc; rw [hc]; exact digB_dig n
  | h1 n h ih =>
    rw [decL_big h]
    intro c hc
    rw [List.mem_append] at hc
    rcases hc with hc | hc
    · exact ih c hc
    · simp at hc; rw [hc]; exact digB_dig n
theorem decL_ne (n : Nat) : decL n ≠ [] := by
  by_cases h : 9 < n
  · rw [decL_big h]; simp
  · rw [decL_small (by omega)]; simp
/-- What digits say. -/
def valL (l : List UInt8) : Nat := l.foldl (fun n c => 10 * n + (c.toNat - 48)) 0
theorem valL_snoc (l : List UInt8) (c : UInt8) : valL (l ++ [c]) = 10 * valL l + (c.toNat - 48) := by
  unfold valL; rw [List.foldl_append]; rfl
theorem decL_val (n : Nat) : valL (decL n) = n := by
  induction n using dec_ind with
  | h0 n h =>
    rw [decL_small h]
    show 10 * 0 + ((digB n).toNat - 48) = n
    rw [digB_val]; omega
  | h1 n h ih =>
    rw [decL_big h, valL_snoc, ih, digB_val]; omega
theorem decL_head {n : Nat} (h : 0 < n) : ∃ c r, decL n = c :: r ∧ c ≠ 48 := by
  induction n using dec_ind with
  | h0 n h9 =>
    rw [decL_small h9]
    refine ⟨_, _, rfl, fun hc => ?_⟩
    have := digB_val n
    rw [hc] at this
    simp at this; omega
  | h1 n h9 ih =>
    obtain ⟨c, r, h1, h2⟩ := ih (by omega)
    rw [decL_big h9, h1]
    exact ⟨c, r ++ [digB n], rfl, h2⟩
theorem decL_len : ∀ (k n : Nat), n < 10 ^ (k + 1) → (decL n).length ≤ k + 1 := by
  intro k
  induction k with
  | zero => intro n h; rw [decL_small (by omega)]; simp
  | succ k ih =>
    intro n h
    by_cases h9 : 9 < n
    · have := ih (n / 10) (by rw [Nat.pow_succ] at h; omega)
      rw [decL_big h9, List.length_append, List.length_singleton]; omega
    · rw [decL_small (by omega)]; simp
/-- What Num tells of a text. -/
def numS (l : List UInt8) (most : Nat) : Int :=
  if l = [] ∨ 10 < l.length ∨ (l.head? = some 48 ∧ 1 < l.length) ∨ l.all isDig = false ∨ most < valL l then -1 else (valL l : Int)
theorem numS_dec {n most : Nat} (h : n ≤ most) (h10 : n < 10000000000) : numS (decL n) most = (n : Int) := by
  unfold numS
  rw [if_neg, decL_val]
  rintro (h1 | h1 | h1 | h1 | h1)
  · exact decL_ne n h1
  · have := decL_len 9 n (by simpa using h10); omega
  · by_cases h0 : 0 < n
    · obtain ⟨c, r, h2, h3⟩ := decL_head h0
      rw [h2] at h1
      simp at h1
      exact h3 h1.1
    · obtain rfl : n = 0 := by omega
      rw [decL_small (by omega)] at h1
      simp at h1
  · rw [List.all_eq_false] at h1
    obtain ⟨c, hc, hd⟩ := h1
    exact hd (decL_digs n c hc)
  · rw [decL_val] at h1; omega
/-- A length, cut. -/
def cut32 (n : Int) : Nat := (max 0 (min n 32)).toNat
theorem cut32_le (n : Int) : cut32 n ≤ 32 := by unfold cut32; omega
theorem cut32_of {n : Nat} (h : n ≤ 32) : cut32 (n : Int) = n := by unfold cut32; omega
def maskS (a n : Nat) : Nat := a / 2 ^ (32 - n) * 2 ^ (32 - n)
theorem maskS_lt {a n : Nat} (h : a < 4294967296) : maskS a n < 4294967296 := Nat.lt_of_le_of_lt (Nat.div_mul_le_self _ _) h
theorem maskS_zero {a : Nat} (h : a < 4294967296) : maskS a 0 = 0 := by
  unfold maskS
  rw [show 32 - 0 = 32 from rfl, Nat.div_eq_of_lt (by simpa using h), Nat.zero_mul]
/-- Are the first bits the same? -/
def inS (a : Nat) (n : Int) (b : Nat) : Bool := a / 2 ^ (32 - cut32 n) == b / 2 ^ (32 - cut32 n)
theorem half_step (a j : Nat) : a / 2 ^ j = 2 * (a / 2 ^ (j + 1)) + a / 2 ^ j % 2 := by
  rw [Nat.pow_succ, ← Nat.div_div_eq_div_mul]; omega
theorem same_step {a b j : Nat} (h : a / 2 ^ (j + 1) = b / 2 ^ (j + 1)) : a / 2 ^ j = b / 2 ^ j ↔ a / 2 ^ j % 2 = b / 2 ^ j % 2 := by
  have h1 := half_step a j
  have h2 := half_step b j
  omega
theorem same_less {a b j k : Nat} (hk : j ≤ k) (h : a / 2 ^ j = b / 2 ^ j) : a / 2 ^ k = b / 2 ^ k := by
  obtain ⟨d, rfl⟩ : ∃ d, k = j + d := ⟨k - j, by omega⟩
  rw [Nat.pow_add, ← Nat.div_div_eq_div_mul, ← Nat.div_div_eq_div_mul, h]
/-- Texts between marks. -/
def isMark (c : UInt8) : Bool := c == 46 || c == 47
def cutL : List UInt8 → List UInt8 → List (List UInt8)
  | cur, [] => [cur]
  | cur, c :: r => if isMark c then cur :: cutL [] r else cutL (cur ++ [c]) r
def readNums : List (List UInt8) → Option (Nat × Nat)
  | [a, b, c, d, n] =>
    if numS a 255 < 0 ∨ numS b 255 < 0 ∨ numS c 255 < 0 ∨ numS d 255 < 0 ∨ numS n 32 < 0 then none
    else some (maskS ((numS a 255).toNat * 16777216 + (numS b 255).toNat * 65536 + (numS c 255).toNat * 256 + (numS d 255).toNat) (numS n 32).toNat, (numS n 32).toNat)
  | _ => none
/-- What Read tells. -/
def readS (l : List UInt8) : Option (Nat × Nat) := if l.filter isMark = [46, 46, 46, 47] then readNums (cutL [] l) else none
/-- What Show tells. -/
def showS (a : Nat) (n : Int) : List UInt8 :=
  decL (maskS a (cut32 n) / 16777216) ++ [46] ++ decL (maskS a (cut32 n) / 65536 % 256) ++ [46] ++ decL (maskS a (cut32 n) / 256 % 256) ++ [46] ++ decL (maskS a (cut32 n) % 256) ++ [47] ++ decL (cut32 n)
theorem cutL_digs (d : List UInt8) (h : ∀ c ∈ d, isDig c = true) : ∀ (cur r : List UInt8), cutL cur (d ++ r) = cutL (cur ++ d) r := by
  induction d with
  | nil => intro cur r; simp
  | cons c d ih =>
    intro cur r
    have hm : isMark c = false := by
      have h1 := h c (by simp)
      unfold isDig at h1
      unfold isMark
      simp only [Bool.and_eq_true, decide_eq_true_eq] at h1
      rw [Bool.or_eq_false_iff]
      constructor <;> (rw [beq_eq_false_iff_ne]; intro hc; rw [hc] at h1; simp at h1)
    rw [List.cons_append, cutL, hm]
    simp only [Bool.false_eq_true, if_false]
    rw [ih (fun c hc => h c (by simp [hc])), List.append_assoc]; rfl
theorem filter_digs (d : List UInt8) (h : ∀ c ∈ d, isDig c = true) : d.filter isMark = [] := by
  rw [List.filter_eq_nil_iff]
  intro c hc hm
  have h1 := h c hc
  unfold isDig at h1
  unfold isMark at hm
  simp only [Bool.and_eq_true, decide_eq_true_eq] at h1
  simp only [Bool.or_eq_true, beq_iff_eq] at hm
  rcases hm with rfl | rfl <;> simp at h1
theorem cutL_mark (cur r : List UInt8) {c : UInt8} (h : isMark c = true) : cutL cur (c :: r) = cur :: cutL [] r := by
  rw [cutL, h]; rfl
theorem read_show {a : Nat} {n : Nat} (ha : a < 4294967296) (hn : n ≤ 32) : readS (showS a (n : Int)) = some (maskS a n, n) := by
  have hm := maskS_lt (n := n) ha
  unfold showS
  rw [cut32_of hn]
  generalize hx : maskS a n = x at hm
  have e : (((decL (x / 16777216) ++ [46] ++ decL (x / 65536 % 256) ++ [46] ++ decL (x / 256 % 256) ++ [46] ++ decL (x % 256) ++ [47] ++ decL n) : List UInt8)) = decL (x / 16777216) ++ (46 :: (decL (x / 65536 % 256) ++ (46 :: (decL (x / 256 % 256) ++ (46 :: (decL (x % 256) ++ (47 :: (decL n ++ []))))))) ) := by simp
  rw [e]
  unfold readS
  rw [if_pos]
  · simp only [cutL_digs _ (decL_digs _), List.nil_append, cutL_mark _ _ (show isMark 46 = true by decide), cutL_mark _ _ (show isMark 47 = true by decide)]
    rw [cutL, readNums]
    rw [numS_dec (show x / 16777216 ≤ 255 by omega) (by omega), numS_dec (show x / 65536 % 256 ≤ 255 by omega) (by omega), numS_dec (show x / 256 % 256 ≤ 255 by omega) (by omega), numS_dec (show x % 256 ≤ 255 by omega) (by omega), numS_dec hn (by omega)]
    rw [if_neg (by omega)]
    simp only [Int.toNat_natCast]
    have hs : x / 16777216 * 16777216 + x / 65536 % 256 * 65536 + x / 256 % 256 * 256 + x % 256 = x := by omega
    rw [hs]
    have hmm : maskS x n = x := by
      rw [← hx]
      unfold maskS
      rw [Nat.mul_div_cancel _ (Nat.two_pow_pos _)]
    rw [hmm]
  · simp only [List.filter_append, List.filter_cons, filter_digs _ (decL_digs _), List.nil_append, List.filter_nil]
    rfl
end Go.Proofs.Ythoblabimkfjpaa
