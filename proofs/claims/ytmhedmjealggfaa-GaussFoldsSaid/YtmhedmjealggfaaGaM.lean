import Derived.Test.YtmhedmjealggfaaGaK
import Derived.Outline
namespace Go.Proofs.Ytmhedmjealggfaa
open Go.RowKit
open Fl (fl)
set_option maxHeartbeats 1600000
set_option maxRecDepth 100000

/-- The word of n + 1/2, as Go adds it. -/
def half (n : Int) : Nat := (floatBits .add .f64 (fl n) 4602678819172646912).getD 0
theorem half_some (n : Int) (h : n.natAbs < 9007199254740992) : floatBits .add .f64 (fl n) 4602678819172646912 = some (half n) := by
  obtain ⟨s, q, h1, _, _⟩ := Fl.rep_fl n h
  have h2 : Ieee.double.read 4602678819172646912 = .number false 4503599627370496 (-53) := by decide
  have h3 : ∃ r, floatBits .add .f64 (fl n) 4602678819172646912 = some r := by
    show ∃ r, Ieee.double.add (fl n) 4602678819172646912 = some r
    unfold Ieee.Format.add
    rw [h1, h2]
    exact ⟨_, rfl⟩
  obtain ⟨r, hr⟩ := h3
  unfold half
  rw [hr]
  rfl
/-- The words that a part of a number may be in a law: a whole number's, or that of one with a half. -/
def Part (p : Nat) : Prop := (∃ n : Int, -9223372036854775808 ≤ n ∧ n ≤ 9223372036854775807 ∧ p = floatOfInt .f64 n) ∨ ∃ n : Int, 0 ≤ n ∧ n ≤ 65520 ∧ p = half n
/-- .. that are no whole number from 0 to 65520. -/
def Off (p : Nat) : Prop := (∃ n : Int, -9223372036854775808 ≤ n ∧ n ≤ 9223372036854775807 ∧ (n < 0 ∨ 65520 < n) ∧ p = floatOfInt .f64 n) ∨ ∃ n : Int, 0 ≤ n ∧ n ≤ 65520 ∧ p = half n
def MulNone (f : FuncId) : Prop := ∀ (p q r s : Nat), Part p → Part q → Part r → Part s → (Off p ∨ Off q ∨ Off r ∨ Off s) → ∀ (w : World),
  Calls Try.prog f #[.complex .f64 p q, .complex .f64 r s] w fun e w' => e = .returned (.complex .f64 0 0) ∧ Below w.heap.size w w'
theorem wf_i64 {a : Int} (h : (Lit.int .i64 a).wf = true) : -9223372036854775808 ≤ a ∧ a ≤ 9223372036854775807 := by
  simp only [Lit.wf, Bool.and_eq_true, decide_eq_true_eq] at h
  have h1 : IntKind.i64.min = -9223372036854775808 := rfl
  have h2 : IntKind.i64.max = 9223372036854775807 := rfl
  rw [h1, h2] at h
  exact h
def I64 (a : Int) : Prop := -9223372036854775808 ≤ a ∧ a ≤ 9223372036854775807

theorem mul_out (hF : FoldSpec 18) (hM : MulSpec 21) (hN : MulNone 21) (a b c d : Int) (ia : I64 a) (ib : I64 b) (ic : I64 c) (id : I64 d) (h : ¬(0 ≤ a ∧ a ≤ 65520 ∧ 0 ≤ b ∧ b ≤ 65520 ∧ 0 ≤ c ∧ c ≤ 65520 ∧ 0 ≤ d ∧ d ≤ 65520)) (w : World) :
    Calls Try.prog 7 #[.int .i64 a, .int .i64 b, .int .i64 c, .int .i64 d] w fun e w' => e = .returned (.bool true) ∧ Below w.heap.size w w' := by
  have HL := hid (fun w => alive3 hF hM w)
  have pa : Part (floatOfInt .f64 a) := .inl ⟨a, ia.1, ia.2, rfl⟩
  have pb : Part (floatOfInt .f64 b) := .inl ⟨b, ib.1, ib.2, rfl⟩
  have pc : Part (floatOfInt .f64 c) := .inl ⟨c, ic.1, ic.2, rfl⟩
  have pd : Part (floatOfInt .f64 d) := .inl ⟨d, id.1, id.2, rfl⟩
  have ho : Off (floatOfInt .f64 a) ∨ Off (floatOfInt .f64 b) ∨ Off (floatOfInt .f64 c) ∨ Off (floatOfInt .f64 d) := by
    by_cases h1 : 0 ≤ a ∧ a ≤ 65520
    · by_cases h2 : 0 ≤ b ∧ b ≤ 65520
      · by_cases h3 : 0 ≤ c ∧ c ≤ 65520
        · exact .inr (.inr (.inr (.inl ⟨d, id.1, id.2, by omega, rfl⟩)))
        · exact .inr (.inr (.inl (.inl ⟨c, ic.1, ic.2, by omega, rfl⟩)))
      · exact .inr (.inl (.inl ⟨b, ib.1, ib.2, by omega, rfl⟩))
    · exact .inl (.inl ⟨a, ia.1, ia.2, by omega, rfl⟩)
  have HC := hid (hN _ _ _ _ pa pb pc pd ho)
  have o0 : FloatKind.f64.format.order 0 0 = some .eq := by decide
  clear hF hM hN ia ib ic id pa pb pc pd ho
  have hb := four_bad h
  clear h
  have hb' := hid hb
  clear hb
  rcases hb'.out with h1 | ⟨h1, h2⟩ | ⟨h1, h2, h3⟩ | ⟨h1, h2, h3, h4⟩ | ⟨h1, h2, h3, h4, h5⟩ | ⟨h1, h2, h3, h4, h5, h6⟩ | ⟨h1, h2, h3, h4, h5, h6, h7⟩ | ⟨h1, h2, h3, h4, h5, h6, h7, h8⟩ <;>
  · go_enter Try.func7, Try.ntmps7
    go_wp2_with (go_at_call 16; (with_reducible refine (HL.out _).mono ?_); rintro e' w1 ⟨rfl, hb1⟩)
    refine (HC.out _).mono ?_
    rintro e' w2 ⟨rfl, hb2⟩
    go_wp2_with fail
    go_ret
    exact ⟨rfl, hb1.trans (hb2.mono hb1.size)⟩

theorem prod_bd {a b : Int} (h1 : 0 ≤ a) (h2 : a ≤ 65520) (h3 : 0 ≤ b) (h4 : b ≤ 65520) : 0 ≤ a * b ∧ a * b ≤ 4292870400 := by
  refine ⟨Int.mul_nonneg h1 h3, ?_⟩
  have := Int.mul_le_mul h2 h4 h3 (by omega)
  omega
theorem re_mod (x y : Int) : ((x - y).tmod 65521 + 65521) % 65521 = (x - y) % 65521 := by
  rcases Int.lt_or_le (x - y) 0 with h | h
  · have : (x - y).tmod 65521 = -((-(x - y)) % 65521) := by
      rw [← Int.neg_neg (x - y), Int.neg_tmod, Int.tmod_eq_emod_of_nonneg (by omega)]
      simp
    rw [this]
    omega
  · rw [Int.tmod_eq_emod_of_nonneg h]
    omega
theorem tmod_bd (x : Int) : -65521 < x.tmod 65521 ∧ x.tmod 65521 < 65521 := by
  rcases Int.lt_or_le x 0 with h | h
  · have : x.tmod 65521 = -((-x) % 65521) := by
      rw [← Int.neg_neg x, Int.neg_tmod, Int.tmod_eq_emod_of_nonneg (by omega)]
      simp
    omega
  · rw [Int.tmod_eq_emod_of_nonneg h]
    omega
theorem mul_in (hF : FoldSpec 18) (hM : MulSpec 21) (hN : MulNone 21) (a b c d : Int) (h : 0 ≤ a ∧ a ≤ 65520 ∧ 0 ≤ b ∧ b ≤ 65520 ∧ 0 ≤ c ∧ c ≤ 65520 ∧ 0 ≤ d ∧ d ≤ 65520) (w : World) :
    Calls Try.prog 7 #[.int .i64 a, .int .i64 b, .int .i64 c, .int .i64 d] w fun e w' => e = .returned (.bool true) ∧ Below w.heap.size w w' := by
  have HL := hid (fun w => alive3 hF hM w)
  obtain ⟨h1, h2, h3, h4, h5, h6, h7, h8⟩ := h
  have t1 : decide (a < 0) = false := by simp; omega
  have t2 : decide (65520 < a) = false := by simp; omega
  have t3 : decide (b < 0) = false := by simp; omega
  have t4 : decide (65520 < b) = false := by simp; omega
  have t5 : decide (c < 0) = false := by simp; omega
  have t6 : decide (65520 < c) = false := by simp; omega
  have t7 : decide (d < 0) = false := by simp; omega
  have t8 : decide (65520 < d) = false := by simp; omega
  have X : InZ (a, b) := ⟨h1, h2, h3, h4⟩
  have Y : InZ (c, d) := ⟨h5, h6, h7, h8⟩
  have fa := floatOfInt_fl a (by omega)
  have fb := floatOfInt_fl b (by omega)
  have fc := floatOfInt_fl c (by omega)
  have fd := floatOfInt_fl d (by omega)
  have ph : Part (half a) := .inr ⟨a, h1, h2, rfl⟩
  have pb : Part (fl b) := .inl ⟨b, by omega, by omega, fb.symm⟩
  have pc : Part (fl c) := .inl ⟨c, by omega, by omega, fc.symm⟩
  have pd : Part (fl d) := .inl ⟨d, by omega, by omega, fd.symm⟩
  have C2 := hid (hN _ _ _ _ ph pb pc pd (.inl (.inr ⟨a, h1, h2, rfl⟩)))
  obtain ⟨bac, bac'⟩ := prod_bd h1 h2 h5 h6
  obtain ⟨bbd, bbd'⟩ := prod_bd h3 h4 h7 h8
  obtain ⟨bad, bad'⟩ := prod_bd h1 h2 h7 h8
  obtain ⟨bbc, bbc'⟩ := prod_bd h3 h4 h5 h6
  have hre := re_mod (a * c) (b * d)
  have C1 : Hid (∀ w, Calls Try.prog 21 #[.complex .f64 (fl a) (fl b), .complex .f64 (fl c) (fl d)] w fun e w' => e = .returned (.complex .f64 (fl ((a * c - b * d) % 65521)) (fl ((a * d + b * c) % 65521))) ∧ Below w.heap.size w w') := fun w => hM (a, b) (c, d) X Y w
  have C3 : Hid (∀ w, Calls Try.prog 21 #[.complex .f64 (fl c) (fl d), .complex .f64 (fl a) (fl b)] w fun e w' => e = .returned (.complex .f64 (fl ((a * c - b * d) % 65521)) (fl ((a * d + b * c) % 65521))) ∧ Below w.heap.size w w') := by
    intro w
    have := hM (c, d) (a, b) Y X w
    rwa [mulZ_comm] at this
  have hhalf : ∀ W, (binOp .add 43 (.float .f64 (fl a)) (.float .f64 4602678819172646912)).run Try.prog W = .ok (.float .f64 (half a)) W := fun W => run_float_arith W .add 43 .f64 _ _ _ (half_some a (by omega))
  clear hF hM hN X Y ph pb pc pd
  generalize g1 : a * c = m1 at *
  generalize g2 : b * d = m2 at *
  generalize g3 : a * d = m3 at *
  generalize g4 : b * c = m4 at *
  have hr0 := tmod_bd (m1 - m2)
  generalize g5 : (m1 - m2).tmod 65521 = r0 at *
  obtain ⟨hr1, hr2⟩ := hr0
  have fre := floatOfInt_fl ((m1 - m2) % 65521) (by omega)
  have fim := floatOfInt_fl ((m3 + m4) % 65521) (by omega)
  have ore := ord_same ((m1 - m2) % 65521) (by omega)
  have oim := ord_same ((m3 + m4) % 65521) (by omega)
  have o0 : FloatKind.f64.format.order 0 0 = some .eq := by decide
  go_enter Try.func7, Try.ntmps7
  go_wp2_with (go_at_call 16; (with_reducible refine (HL.out _).mono ?_); rintro e' w1 ⟨rfl, hb1⟩)
  refine (C1.out _).mono ?_
  rintro e' w2 ⟨rfl, hb2⟩
  go_wp2_with fail
  refine (C2.out _).mono ?_
  rintro e' w3 ⟨rfl, hb3⟩
  go_wp2_with fail
  refine (C3.out _).mono ?_
  rintro e' w4 ⟨rfl, hb4⟩
  go_wp2_with fail
  go_ret
  exact ⟨rfl, bel_step hb4 (bel_step hb3 (bel_step hb2 hb1))⟩
theorem mul_any (hF : FoldSpec 18) (hM : MulSpec 21) (hN : MulNone 21) (a b c d : Int) (ia : I64 a) (ib : I64 b) (ic : I64 c) (id : I64 d) (w : World) :
    Calls Try.prog 7 #[.int .i64 a, .int .i64 b, .int .i64 c, .int .i64 d] w fun e w' => e = .returned (.bool true) ∧ Below w.heap.size w w' := by
  by_cases h : 0 ≤ a ∧ a ≤ 65520 ∧ 0 ≤ b ∧ b ≤ 65520 ∧ 0 ≤ c ∧ c ≤ 65520 ∧ 0 ≤ d ∧ d ≤ 65520
  · exact mul_in hF hM hN a b c d h w
  · exact mul_out hF hM hN a b c d ia ib ic id h w
end Go.Proofs.Ytmhedmjealggfaa
