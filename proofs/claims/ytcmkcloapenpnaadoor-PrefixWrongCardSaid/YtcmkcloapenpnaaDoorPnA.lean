/- Landed prefix, plainly: numbers as strconv writes and reads them, texts cut mark by mark, masks. -/
import Derived.Test.YtcmkcloapenpnaaDoorPfA
import Derived.Lib.AtoiAll
import Derived.Lib.ItoaNum
import Derived.Lib.Bytealg
namespace Go.Proofs.YtcmkcloapenpnaaDoor
open Go.RowKit
set_option maxHeartbeats 3200000
set_option maxRecDepth 100000
theorem lib_dec (n : Nat) : Lib.decDigits n = decL n := by
  induction n using dec_ind with
  | h0 n h =>
    rw [decL_small h, Lib.decDigits, dif_pos (by omega)]
    unfold digB
    rw [Nat.mod_eq_of_lt (by omega)]
  | h1 n h ih =>
    rw [decL_big h, Lib.decDigits, dif_neg (by omega), ih]; rfl
theorem itoa_nat (n : Nat) : Lib.itoa (n : Int) = decL n := by
  unfold Lib.itoa
  rw [if_neg (by omega), Int.toNat_natCast, lib_dec]
theorem fold_le : ∀ (l : List UInt8) (acc : Nat), acc ≤ l.foldl (fun n c => 10 * n + (c.toNat - 48)) acc
  | [], _ => Nat.le_refl _
  | c :: r, acc => by
    have := fold_le r (10 * acc + (c.toNat - 48))
    rw [List.foldl_cons]
    omega
theorem pu_digs : ∀ (l : List UInt8) (acc : Nat), (∀ c ∈ l, isDig c = true) → l.foldl (fun n c => 10 * n + (c.toNat - 48)) acc < 1844674407370955162 → Lib.parseUint10 acc l = .ok (l.foldl (fun n c => 10 * n + (c.toNat - 48)) acc)
  | [], _, _, _ => rfl
  | c :: r, acc, hd, hl => by
    have hc := hd c (by simp)
    unfold isDig at hc
    simp only [Bool.and_eq_true, decide_eq_true_eq] at hc
    rw [List.foldl_cons] at hl ⊢
    have h1 := fold_le r (10 * acc + (c.toNat - 48))
    rw [Lib.parseUint10, if_pos hc, if_neg (by omega), if_neg (by omega), show acc * 10 + (c.toNat - 48) = 10 * acc + (c.toNat - 48) by omega]
    exact pu_digs r _ (fun x hx => hd x (by simp [hx])) hl
theorem atoi_dec (n : Nat) (hn : n < 1844674407370955162) : Lib.atoiAll (decL n) = .ok (n : Int) := by
  have hv : (decL n).foldl (fun n c => 10 * n + (c.toNat - 48)) 0 = n := decL_val n
  have hm : Lib.parseMag (decL n) = .ok n := by
    unfold Lib.parseMag
    rw [if_neg (decL_ne n), pu_digs (decL n) 0 (decL_digs n) (by rw [hv]; exact hn), hv]
  obtain ⟨c, r, h⟩ : ∃ c r, decL n = c :: r := by
    cases h : decL n with
    | nil => exact absurd h (decL_ne n)
    | cons c r => exact ⟨c, r, rfl⟩
  have hc := decL_digs n c (by rw [h]; simp)
  unfold isDig at hc
  simp only [Bool.and_eq_true, decide_eq_true_eq] at hc
  rw [h] at hm ⊢
  unfold Lib.atoiAll
  simp only
  rw [if_neg (by omega), hm]
  simp only
  rw [if_neg (by omega), if_neg (by omega), if_neg (by omega)]
theorem dec_inv (l : List UInt8) (hne : l ≠ []) (hd : ∀ c ∈ l, isDig c = true) (hz : l.head? = some 48 → l.length = 1) : l = decL (valL l) := by
  induction h : l.length generalizing l with
  | zero => exact absurd (List.length_eq_zero_iff.1 h) hne
  | succ k ih =>
    obtain ⟨r, c, rfl⟩ : ∃ r c, l = r ++ [c] := ⟨l.dropLast, l.getLast hne, by rw [List.dropLast_concat_getLast]⟩
    have hc : isDig c = true := hd c (by simp)
    unfold isDig at hc
    simp only [Bool.and_eq_true, decide_eq_true_eq] at hc
    have hcl : c.toNat - 48 ≤ 9 := by omega
    have hc48 : 48 ≤ c.toNat := hc.1
    have hcb : ∀ m : Nat, m % 10 = c.toNat - 48 → digB m = c := fun m hm => by
      apply UInt8.toNat_inj.1
      rw [digB_val, hm]; omega
    rw [valL_snoc]
    by_cases hr : r = []
    · subst hr
      have e0 : 10 * valL [] + (c.toNat - 48) = c.toNat - 48 := by show 10 * 0 + _ = _; omega
      rw [e0, decL_small hcl, hcb (c.toNat - 48) (Nat.mod_eq_of_lt (by omega))]; rfl
    · have hl : r.length = k := by simp at h; omega
      have hh : r.head? = (r ++ [c]).head? := by cases r with
        | nil => exact absurd rfl hr
        | cons a t => rfl
      have h0 : r.head? ≠ some 48 := fun he => by
        have h1 := hz (hh ▸ he)
        have h2 : 0 < r.length := List.length_pos_iff.2 hr
        rw [List.length_append, List.length_singleton] at h1
        omega
      have hi := ih r hr (fun x hx => hd x (by simp [hx])) (fun he => absurd he h0) hl
      have hp : valL r ≠ 0 := fun hv => by
        rw [hv, decL_small (by omega)] at hi
        rw [hi] at h0
        exact h0 rfl
      rw [decL_big (by omega), show (10 * valL r + (c.toNat - 48)) / 10 = valL r by omega, ← hi, hcb _ (by omega)]
theorem numS_inv {l : List UInt8} {most : Nat} (h : 0 ≤ numS l most) : ∃ n : Nat, numS l most = (n : Int) ∧ n ≤ most ∧ l = decL n := by
  unfold numS at h ⊢
  by_cases hc : l = [] ∨ 10 < l.length ∨ (l.head? = some 48 ∧ 1 < l.length) ∨ l.all isDig = false ∨ most < valL l
  · rw [if_pos hc] at h; omega
  · rw [if_neg hc]
    simp only [not_or, not_and, Nat.not_lt, Bool.not_eq_false] at hc
    obtain ⟨c1, c2, c3, c4, c5⟩ := hc
    refine ⟨_, rfl, c5, dec_inv l c1 (List.all_eq_true.1 c4) fun he => ?_⟩
    have := c3 he
    have : 0 < l.length := List.length_pos_iff.2 c1
    omega
theorem numS_neg {l : List UInt8} {most : Nat} (h : ¬ 0 ≤ numS l most) : numS l most = -1 := by
  unfold numS at h ⊢
  by_cases hc : l = [] ∨ 10 < l.length ∨ (l.head? = some 48 ∧ 1 < l.length) ∨ l.all isDig = false ∨ most < valL l
  · rw [if_pos hc]
  · rw [if_neg hc] at h; omega
/-- What number tells. -/
def numR (l : List UInt8) (most : Nat) : Value := if numS l most < 0 then .tuple #[.int .i64 0, .bool false] else .tuple #[.int .i64 (numS l most), .bool true]
theorem numR_bad {l : List UInt8} {most : Nat} (h : ∀ n : Nat, n ≤ most → l ≠ decL n) : numR l most = .tuple #[.int .i64 0, .bool false] := by
  unfold numR
  by_cases hc : 0 ≤ numS l most
  · obtain ⟨n, _, h2, h3⟩ := numS_inv hc
    exact absurd h3 (h n h2)
  · rw [if_pos (by omega)]
theorem numR_good {most n : Nat} (h : n ≤ most) (hm : most ≤ 2147483647) : numR (decL n) most = .tuple #[.int .i64 (n : Int), .bool true] := by
  unfold numR
  rw [numS_dec h (by omega), if_neg (by omega)]
/-- A text cut at its first mark. -/
def cutA (c : UInt8) : List UInt8 → List UInt8 × List UInt8
  | [] => ([], [])
  | b :: l => if b = c then ([], l) else (b :: (cutA c l).1, (cutA c l).2)
theorem cutA_index (c : UInt8) (l : List UInt8) : (Lib.indexByte l c = -1 ∧ cutA c l = (l, [])) ∨ ∃ k : Nat, k < l.length ∧ Lib.indexByte l c = (k : Int) ∧ cutA c l = (l.take k, l.drop (k + 1)) := by
  induction l with
  | nil => exact Or.inl ⟨rfl, rfl⟩
  | cons b l ih =>
    unfold Lib.indexByte cutA
    by_cases hb : b = c
    · refine Or.inr ⟨0, by simp, ?_, ?_⟩
      · rw [if_pos (by simp [hb])]; rfl
      · rw [if_pos hb]; rfl
    · rw [if_neg (by simp [hb]), if_neg hb]
      rcases ih with ⟨h1, h2⟩ | ⟨k, h1, h2, h3⟩
      · left; rw [h1, h2]; exact ⟨rfl, rfl⟩
      · right
        refine ⟨k + 1, by simp; omega, ?_, ?_⟩
        · rw [h2, if_neg (by simp only [beq_iff_eq]; omega)]; rfl
        · rw [h3]; rfl
theorem cutA_len (c : UInt8) (l : List UInt8) : (cutA c l).1.length ≤ l.length ∧ (cutA c l).2.length ≤ l.length := by
  rcases cutA_index c l with ⟨_, h⟩ | ⟨k, hk, _, h⟩
  · rw [h]; simp
  · rw [h]; simp; omega
/-- What Read tells, mark by mark: what the numbers read so far make (none: one was none), and what is left. -/
def stepR (x : Option (Nat × List UInt8)) (c : UInt8) : Option (Nat × List UInt8) :=
  x.bind fun p => if numS (cutA c p.2).1 255 < 0 then none else some (p.1 * 256 + (numS (cutA c p.2).1 255).toNat, (cutA c p.2).2)
def endR (x : Option (Nat × List UInt8)) : Option (Nat × Nat) :=
  x.bind fun p => if numS p.2 32 < 0 then none else some (maskS p.1 (numS p.2 32).toNat, (numS p.2 32).toNat)
def readT (l : List UInt8) : Option (Nat × Nat) := endR ([46, 46, 46, 47].foldl stepR (some (0, l)))
theorem cutA_split (c : UInt8) (l : List UInt8) : (l = (cutA c l).1 ∧ (cutA c l).2 = []) ∨ l = (cutA c l).1 ++ c :: (cutA c l).2 := by
  induction l with
  | nil => exact Or.inl ⟨rfl, rfl⟩
  | cons b l ih =>
    unfold cutA
    by_cases hb : b = c
    · rw [if_pos hb]; right; simp [hb]
    · rw [if_neg hb]
      rcases ih with ⟨h1, h2⟩ | h1
      · left
        dsimp only
        rw [← h1]; exact ⟨rfl, h2⟩
      · right
        dsimp only
        rw [List.cons_append, ← h1]
theorem cutA_pre (c : UInt8) (d r : List UInt8) (h : c ∉ d) : cutA c (d ++ c :: r) = (d, r) := by
  induction d with
  | nil => rw [List.nil_append, cutA, if_pos rfl]
  | cons b d ih =>
    have h1 : ¬ b = c := fun he => h (by simp [he])
    rw [List.cons_append, cutA, if_neg h1, ih (fun hc => h (by simp [hc]))]
theorem dig_not {c : UInt8} (hc : isDig c = false) (n : Nat) : c ∉ decL n := fun h => by rw [decL_digs n c h] at hc; cases hc
theorem numS_nil (most : Nat) : numS [] most < 0 := by unfold numS; rw [if_pos (Or.inl rfl)]; omega
theorem stepR_some {x : Option (Nat × List UInt8)} {c : UInt8} {v : Nat} {r : List UInt8} (h : stepR x c = some (v, r)) : ∃ u l n, x = some (u, l) ∧ n ≤ 255 ∧ v = u * 256 + n ∧ (l = decL n ++ c :: r ∨ (l = decL n ∧ r = [])) := by
  unfold stepR at h
  cases x with
  | none => simp at h
  | some p =>
    obtain ⟨u, l⟩ := p
    simp only [Option.bind_some] at h
    by_cases hc : numS (cutA c l).1 255 < 0
    · rw [if_pos hc] at h; cases h
    · rw [if_neg hc] at h
      simp only [Option.some.injEq, Prod.mk.injEq] at h
      obtain ⟨n, e1, e2, e3⟩ := numS_inv (l := (cutA c l).1) (most := 255) (by omega)
      refine ⟨u, l, n, rfl, e2, ?_, ?_⟩
      · rw [← h.1, e1, Int.toNat_natCast]
      · rcases cutA_split c l with ⟨g1, g2⟩ | g1
        · right; exact ⟨by rw [g1, e3], by rw [← h.2, g2]⟩
        · left
          rw [e3, h.2] at g1
          exact g1
theorem stepR_dec {u n : Nat} {c : UInt8} {r : List UInt8} (hn : n ≤ 255) (hc : isDig c = false) : stepR (some (u, decL n ++ c :: r)) c = some (u * 256 + n, r) := by
  unfold stepR
  simp only [Option.bind_some]
  rw [cutA_pre c _ r (dig_not hc n), numS_dec hn (by omega), if_neg (by omega), Int.toNat_natCast]
theorem stepR_nil (u : Nat) (c : UInt8) : stepR (some (u, [])) c = none := by
  unfold stepR
  simp only [Option.bind_some]
  exact if_pos (numS_nil 255)
/-- The texts that are prefixes. -/
def prefL (a b c d n : Nat) : List UInt8 := decL a ++ 46 :: (decL b ++ 46 :: (decL c ++ 46 :: (decL d ++ 47 :: decL n)))
theorem stepR_none (c : UInt8) : stepR none c = none := rfl
theorem readT_pref {a b c d n : Nat} (ha : a ≤ 255) (hb : b ≤ 255) (hc : c ≤ 255) (hd : d ≤ 255) (hn : n ≤ 32) : readT (prefL a b c d n) = some (maskS (a * 16777216 + b * 65536 + c * 256 + d) n, n) := by
  unfold readT prefL
  simp only [List.foldl_cons, List.foldl_nil]
  rw [stepR_dec ha (by decide), stepR_dec hb (by decide), stepR_dec hc (by decide), stepR_dec hd (by decide)]
  unfold endR
  simp only [Option.bind_some]
  rw [numS_dec hn (by omega), if_neg (by omega), Int.toNat_natCast]
  rw [show (((0 * 256 + a) * 256 + b) * 256 + c) * 256 + d = a * 16777216 + b * 65536 + c * 256 + d by omega]
theorem readT_some {l : List UInt8} {x : Nat × Nat} (h : readT l = some x) : ∃ a b c d n, a ≤ 255 ∧ b ≤ 255 ∧ c ≤ 255 ∧ d ≤ 255 ∧ n ≤ 32 ∧ l = prefL a b c d n := by
  unfold readT at h
  simp only [List.foldl_cons, List.foldl_nil] at h
  obtain ⟨p, hp⟩ : ∃ p, stepR (stepR (stepR (stepR (some (0, l)) 46) 46) 46) 47 = p := ⟨_, rfl⟩
  rw [hp] at h
  cases p with
  | none => simp [endR] at h
  | some p =>
    obtain ⟨v, r⟩ := p
    unfold endR at h
    simp only [Option.bind_some] at h
    by_cases hc : numS r 32 < 0
    · rw [if_pos hc] at h; cases h
    · obtain ⟨n, _, hn, rfl⟩ := numS_inv (l := r) (most := 32) (by omega)
      obtain ⟨u4, l4, d, e4, hd, _, f4⟩ := stepR_some hp
      obtain ⟨u3, l3, c, e3, hc', _, f3⟩ := stepR_some e4
      obtain ⟨u2, l2, b, e2, hb, _, f2⟩ := stepR_some e3
      obtain ⟨u1, l1, a, e1, ha, _, f1⟩ := stepR_some e2
      simp only [Option.some.injEq, Prod.mk.injEq] at e1
      refine ⟨a, b, c, d, n, ha, hb, hc', hd, hn, ?_⟩
      have g4 : l4 = decL d ++ 47 :: decL n := by
        rcases f4 with f4 | ⟨_, f4⟩
        · exact f4
        · exact absurd f4 (decL_ne n)
      have g3 : l3 = decL c ++ 46 :: l4 := by
        rcases f3 with f3 | ⟨_, f3⟩
        · exact f3
        · exact absurd (g4.symm.trans f3) (by simp)
      have g2 : l2 = decL b ++ 46 :: l3 := by
        rcases f2 with f2 | ⟨_, f2⟩
        · exact f2
        · exact absurd (g3.symm.trans f2) (by simp)
      have g1 : l1 = decL a ++ 46 :: l2 := by
        rcases f1 with f1 | ⟨_, f1⟩
        · exact f1
        · exact absurd (g2.symm.trans f1) (by simp)
      rw [e1.2, g1, g2, g3, g4]; rfl
theorem readS_pref {a b c d n : Nat} (ha : a ≤ 255) (hb : b ≤ 255) (hc : c ≤ 255) (hd : d ≤ 255) (hn : n ≤ 32) : readS (prefL a b c d n) = some (maskS (a * 16777216 + b * 65536 + c * 256 + d) n, n) := by
  unfold readS prefL
  rw [if_pos]
  · simp only [cutL_digs _ (decL_digs _), List.nil_append, cutL_mark _ _ (show isMark 46 = true by decide), cutL_mark _ _ (show isMark 47 = true by decide)]
    have e := cutL_digs _ (decL_digs n) [] []
    rw [List.append_nil, List.nil_append] at e
    rw [e, cutL, readNums, numS_dec ha (by omega), numS_dec hb (by omega), numS_dec hc (by omega), numS_dec hd (by omega), numS_dec hn (by omega), if_neg (by omega)]
    simp only [Int.toNat_natCast]
  · simp only [List.filter_append, List.filter_cons, filter_digs _ (decL_digs _), List.nil_append]
    rfl
def joinM : List (List UInt8) → List UInt8 → List UInt8
  | [], _ => []
  | p :: _, [] => p
  | p :: ps, m :: ms => p ++ m :: joinM ps ms
theorem cutL_join : ∀ (l cur : List UInt8), joinM (cutL cur l) (l.filter isMark) = cur ++ l := by
  intro l
  induction l with
  | nil => intro cur; simp [cutL, joinM]
  | cons c l ih =>
    intro cur
    unfold cutL
    by_cases h : isMark c = true
    · rw [if_pos h, List.filter_cons_of_pos h, joinM, ih]; rfl
    · rw [if_neg h, List.filter_cons_of_neg h, ih, List.append_assoc]; rfl
theorem readS_some {l : List UInt8} {x : Nat × Nat} (h : readS l = some x) : ∃ a b c d n, a ≤ 255 ∧ b ≤ 255 ∧ c ≤ 255 ∧ d ≤ 255 ∧ n ≤ 32 ∧ l = prefL a b c d n := by
  unfold readS at h
  by_cases hf : l.filter isMark = [46, 46, 46, 47]
  · rw [if_pos hf] at h
    have hj := cutL_join l []
    rw [hf, List.nil_append] at hj
    unfold readNums at h
    split at h
    · rename_i p q r s t e
      rw [e] at hj
      by_cases hc : numS p 255 < 0 ∨ numS q 255 < 0 ∨ numS r 255 < 0 ∨ numS s 255 < 0 ∨ numS t 32 < 0
      · rw [if_pos hc] at h; cases h
      · simp only [not_or] at hc
        obtain ⟨h1, h2, h3, h4, h5⟩ := hc
        obtain ⟨a, _, ha, rfl⟩ := numS_inv (l := p) (most := 255) (by omega)
        obtain ⟨b, _, hb, rfl⟩ := numS_inv (l := q) (most := 255) (by omega)
        obtain ⟨c, _, hc, rfl⟩ := numS_inv (l := r) (most := 255) (by omega)
        obtain ⟨d, _, hd, rfl⟩ := numS_inv (l := s) (most := 255) (by omega)
        obtain ⟨n, _, hn, rfl⟩ := numS_inv (l := t) (most := 32) (by omega)
        exact ⟨a, b, c, d, n, ha, hb, hc, hd, hn, hj.symm⟩
    · cases h
  · rw [if_neg hf] at h; cases h
theorem readT_eq (l : List UInt8) : readT l = readS l := by
  cases h : readT l with
  | some x =>
    obtain ⟨a, b, c, d, n, ha, hb, hc, hd, hn, rfl⟩ := readT_some h
    rw [← h, readT_pref ha hb hc hd hn, readS_pref ha hb hc hd hn]
  | none =>
    cases g : readS l with
    | none => rfl
    | some x =>
      obtain ⟨a, b, c, d, n, ha, hb, hc, hd, hn, rfl⟩ := readS_some g
      rw [readT_pref ha hb hc hd hn] at h; cases h
/-- A mask as a shift makes it. -/
theorem mask_and (a k : Nat) (ha : a < 4294967296) (hk : k ≤ 32) : a &&& (4294967295 * 2 ^ k % 4294967296) = a / 2 ^ k * 2 ^ k := by
  have e1 : 4294967295 * 2 ^ k % 4294967296 = (2 ^ (32 - k) - 1) <<< k := by
    have : ∀ k, k ≤ 32 → 4294967295 * 2 ^ k % 4294967296 = (2 ^ (32 - k) - 1) * 2 ^ k := by decide
    rw [Nat.shiftLeft_eq]; exact this k hk
  rw [e1, ← Nat.shiftRight_eq_div_pow, ← Nat.shiftLeft_eq]
  apply Nat.eq_of_testBit_eq
  intro i
  rw [Nat.testBit_and, Nat.testBit_shiftLeft, Nat.testBit_shiftLeft, Nat.testBit_shiftRight, Nat.testBit_two_pow_sub_one]
  by_cases h1 : k ≤ i
  · rw [show k + (i - k) = i by omega]
    by_cases h2 : i < 32
    · simp [h1, show i - k < 32 - k by omega]
    · have : a.testBit i = false := Nat.testBit_lt_two_pow (Nat.lt_of_lt_of_le ha (by have := Nat.pow_le_pow_right (n := 2) (by decide) (show 32 ≤ i by omega); omega))
      simp [this]
  · simp [h1]
end Go.Proofs.YtcmkcloapenpnaaDoor
