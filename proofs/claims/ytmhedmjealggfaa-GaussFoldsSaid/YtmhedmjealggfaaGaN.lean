import Derived.Test.YtmhedmjealggfaaGaM
import Derived.Test.YtmhedmjealggfaaGaFm
import Derived.Test.YtmhedmjealggfaaPkP
import Derived.Laws.Externs
namespace Go.Proofs.Ytmhedmjealggfaa
open Go.RowKit
open Fl (fl)
set_option maxHeartbeats 1600000
set_option maxRecDepth 100000
theorem toI (n : String) (way : Ieee.Toward) (x : Nat) (s : Bool) (m : Nat) (i : Int) (h : FloatKind.f64.decode x = .number s m i) :
    Extern.MathFloor.toIntegral n way #[.float .f64 x] = pure (.float .f64 (FloatKind.f64.encode ((Ieee.Datum.number s m i).integral way))) := by
  have key : ∃ f : Bool → Nat → Sem Value, Extern.MathFloor.toIntegral n way #[.float .f64 x] = (match FloatKind.f64.decode x with
      | .nan s t => f s t
      | d => pure (.float .f64 (FloatKind.f64.encode (d.integral way)))) := ⟨_, rfl⟩
  obtain ⟨f, e⟩ := key
  rw [e, h]
theorem run_arch (x : Nat) (s : Bool) (m : Nat) (i : Int) (h : Ieee.double.read x = .number s m i) (w : World) :
    (callFunc 30 #[.float .f64 x]).run Try.prog w = .ok (.value (.float .f64 (Ieee.double.write ((Ieee.Datum.number s m i).integral .down)))) w := by
  rw [run_callFunc_extern (e := Extern.MathFloor.toIntegral "math.archFloor" .down) (P := Try.prog) (f := 30) (fn := Try.f30) (by kernel_rfl) (by kernel_rfl) (by kernel_rfl) (by kernel_rfl) (by kernel_rfl)]
  rw [toI _ _ _ _ _ _ h]
  rfl
theorem floor_at (x y : Nat) (h : ∀ W, (callFunc 30 #[.float .f64 x]).run Try.prog W = .ok (.value (.float .f64 y)) W) (w : World) : Calls Try.prog 29 #[.float .f64 x] w fun e w' => e = .returned (.float .f64 y) ∧ w = w' := by
  go_enter Try.func29, Try.ntmps29
  go_wp2_with fail
  go_ret
  exact ⟨rfl, rfl⟩
theorem floor_fl (n : Int) (h0 : 0 ≤ n) (h1 : n ≤ 65520) (w : World) : Calls Try.prog 29 #[.float .f64 (fl n)] w fun e w' => e = .returned (.float .f64 (fl n)) ∧ w = w' := by
  refine floor_at _ _ (fun W => ?_) w
  obtain ⟨s, q, e, s1, s2⟩ := Fl.rep_fl n (by omega)
  have hs : s = false := by
    by_cases hn : 0 < n
    · exact s2 hn
    · have : n = 0 := by omega
      subst this
      have e' : Ieee.double.read (fl 0) = .number false 0 (-1074) := by decide
      rw [e'] at e
      injection e with e1
      exact e1.symm
  rw [run_arch _ _ _ _ e, Fl.floor_whole n s q h0 h1 hs]
theorem floor_half (n : Int) (h0 : 0 ≤ n) (h1 : n ≤ 65520) (w : World) : Calls Try.prog 29 #[.float .f64 (half n)] w fun e w' => e = .returned (.float .f64 (fl n)) ∧ w = w' := by
  refine floor_at _ _ (fun W => ?_) w
  obtain ⟨r, e1, q, e2⟩ := Fl.read_add_half n h0 h1
  have hr : half n = r := by
    have := half_some n (by omega)
    have e1' : floatBits .add .f64 (fl n) 4602678819172646912 = some r := e1
    rw [e1'] at this
    exact (Option.some.inj this).symm
  rw [hr, run_arch _ _ _ _ e2, Fl.floor_half n q h0 h1]

/-! ### order -/
theorem fl65521 : fl 65521 = 4679237951253643264 := by decide
theorem ord_in (n : Int) (h0 : 0 ≤ n) (h1 : n ≤ 65520) : (FloatKind.f64.format.order 0 (fl n) = some .lt ∨ FloatKind.f64.format.order 0 (fl n) = some .eq) ∧ FloatKind.f64.format.order (fl n) 4679237951253643264 = some .lt := by
  have e1 := Fl.order_fl 0 n (by omega) (by omega)
  have e2 := Fl.order_fl n 65521 (by omega) (by omega)
  rw [fl65521] at e2
  rw [fl0] at e1
  refine ⟨?_, ?_⟩
  · show Ieee.double.order _ _ = _ ∨ Ieee.double.order _ _ = _
    rw [e1]
    show some (compareOfLessAndEq _ _) = _ ∨ some (compareOfLessAndEq _ _) = _
    unfold compareOfLessAndEq
    by_cases h : 0 < n
    · left; rw [if_pos h]
    · right; rw [if_neg h, if_pos (by omega)]
  · show Ieee.double.order _ _ = _
    rw [e2]
    show some (compareOfLessAndEq _ _) = _
    unfold compareOfLessAndEq
    rw [if_pos (by omega)]
theorem rep2_half (n : Int) (h0 : 0 ≤ n) (h1 : n ≤ 65520) : Fl.Rep2 (Ieee.double.read (half n)) (2 * n + 1) := by
  obtain ⟨r, e1, q, e2⟩ := Fl.read_add_half n h0 h1
  have hr : half n = r := by
    have := half_some n (by omega)
    have e1' : floatBits .add .f64 (fl n) 4602678819172646912 = some r := e1
    rw [e1'] at this
    exact (Option.some.inj this).symm
  rw [hr]
  exact ⟨false, q, e2, by omega, fun _ => rfl⟩
theorem small52 (n : Int) (h0 : 0 ≤ n) (h1 : n ≤ 65521) : n.natAbs < 2 ^ 52 := by
  have : n.natAbs < 4503599627370496 := by omega
  exact this
theorem ord_half (n : Int) (h0 : 0 ≤ n) (h1 : n ≤ 65520) : FloatKind.f64.format.order 0 (half n) = some .lt ∧ FloatKind.f64.format.order (half n) 4679237951253643264 = some .lt ∧ FloatKind.f64.format.order (half n) (fl n) = some .gt := by
  have H := rep2_half n h0 h1
  have e1 := Fl.order_rep2 (Fl.rep2_fl 0 (by decide)) H
  have e2 := Fl.order_rep2 H (Fl.rep2_fl 65521 (by decide))
  have e3 := Fl.order_rep2 H (Fl.rep2_fl n (small52 n h0 (by omega)))
  rw [fl65521] at e2
  rw [fl0] at e1
  refine ⟨e1.trans ?_, e2.trans ?_, e3.trans ?_⟩
  · show some (compareOfLessAndEq _ _) = _
    unfold compareOfLessAndEq
    rw [if_pos (by omega)]
  · show some (compareOfLessAndEq _ _) = _
    unfold compareOfLessAndEq
    rw [if_pos (by omega)]
  · show some (compareOfLessAndEq _ _) = _
    unfold compareOfLessAndEq
    rw [if_neg (by omega), if_neg (by omega)]
/-- A whole number below 0 is below 0; one above 65520 is above 0 and not below 65521. -/
theorem ord_low (n : Int) (h : -9223372036854775808 ≤ n) (h1 : n < 0) : FloatKind.f64.format.order 0 (floatOfInt .f64 n) = some .gt := by
  by_cases hs : n.natAbs < 9007199254740992
  · rw [floatOfInt_fl n hs]
    have e1 := Fl.order_fl 0 n (by omega) hs
    rw [fl0] at e1
    refine Eq.trans (show _ = Ieee.double.order 0 (fl n) from rfl) (e1.trans ?_)
    show some (compareOfLessAndEq _ _) = _
    unfold compareOfLessAndEq
    rw [if_neg (by omega), if_neg (by omega)]
  · have hb : (2 : Nat) ^ 63 = 9223372036854775808 := by decide
    obtain ⟨m, p, e, hm⟩ := Fl.read_big true n.natAbs (by omega) (by omega)
    have : floatOfInt .f64 n = Ieee.double.write (.number true n.natAbs 0) := by
      show Ieee.double.write (.number (decide (n < 0)) n.natAbs 0) = _
      rw [decide_eq_true h1]
    rw [this]
    have := Fl.order_zero_big true m p hm
    rw [fl0, ← e] at this
    exact this
theorem ord_high (n : Int) (h : n ≤ 9223372036854775807) (h1 : 65520 < n) : FloatKind.f64.format.order 0 (floatOfInt .f64 n) = some .lt ∧ (FloatKind.f64.format.order (floatOfInt .f64 n) 4679237951253643264 = some .gt ∨ FloatKind.f64.format.order (floatOfInt .f64 n) 4679237951253643264 = some .eq) := by
  by_cases hs : n.natAbs < 9007199254740992
  · rw [floatOfInt_fl n hs]
    have e1 := Fl.order_fl 0 n (by omega) hs
    have e2 := Fl.order_fl n 65521 hs (by omega)
    rw [fl0] at e1
    rw [fl65521] at e2
    refine ⟨Eq.trans (show _ = Ieee.double.order 0 (fl n) from rfl) (e1.trans ?_), ?_⟩
    · show some (compareOfLessAndEq _ _) = _
      unfold compareOfLessAndEq
      rw [if_pos (by omega)]
    · show Ieee.double.order _ _ = _ ∨ Ieee.double.order _ _ = _
      rw [e2]
      show some (compareOfLessAndEq _ _) = _ ∨ some (compareOfLessAndEq _ _) = _
      unfold compareOfLessAndEq
      rw [if_neg (by omega)]
      by_cases h : n = 65521
      · right; rw [if_pos h]
      · left; rw [if_neg h]
  · have hb : (2 : Nat) ^ 63 = 9223372036854775808 := by decide
    obtain ⟨m, p, e, hm⟩ := Fl.read_big false n.natAbs (by omega) (by omega)
    have : floatOfInt .f64 n = Ieee.double.write (.number false n.natAbs 0) := by
      show Ieee.double.write (.number (decide (n < 0)) n.natAbs 0) = _
      rw [decide_eq_false (by omega)]
    rw [this]
    have g1 := Fl.order_zero_big false m p hm
    rw [fl0, ← e] at g1
    have g2 := Fl.order_big_top m p hm
    rw [fl65521, ← e] at g2
    exact ⟨g1, .inl g2⟩

/-! ### isResidue, isWhole -/
theorem isRes_in (n : Int) (h0 : 0 ≤ n) (h1 : n ≤ 65520) (w : World) : Calls Try.prog 28 #[.float .f64 (fl n)] w fun e w' => e = .returned (.bool true) ∧ w = w' := by
  obtain ⟨o1, o2⟩ := ord_in n h0 h1
  have o3 := ord_same n (by omega)
  have HC := hid (fun w => floor_fl n h0 h1 w)
  rcases o1 with o1 | o1 <;>
  · go_enter Try.func28, Try.ntmps28
    go_wp2_with (go_at_call 29; refine (HC.out _).mono ?_; rintro e' w1 ⟨rfl, rfl⟩)
    go_ret
    exact ⟨rfl, rfl⟩
theorem isRes_off (p : Nat) (hp : Off p) (w : World) : Calls Try.prog 28 #[.float .f64 p] w fun e w' => e = .returned (.bool false) ∧ w = w' := by
  rcases hp with ⟨n, hl, hh, hr, rfl⟩ | ⟨n, h0, h1, rfl⟩
  · rcases hr with hr | hr
    · have o1 := ord_low n hl hr
      go_enter Try.func28, Try.ntmps28
      go_wp2_with fail
      go_ret
      exact ⟨rfl, rfl⟩
    · obtain ⟨o1, o2⟩ := ord_high n hh hr
      rcases o2 with o2 | o2 <;>
      · go_enter Try.func28, Try.ntmps28
        go_wp2_with fail
        go_ret
        exact ⟨rfl, rfl⟩
  · obtain ⟨o1, o2, o3⟩ := ord_half n h0 h1
    have HC := hid (fun w => floor_half n h0 h1 w)
    go_enter Try.func28, Try.ntmps28
    go_wp2_with (go_at_call 29; refine (HC.out _).mono ?_; rintro e' w1 ⟨rfl, rfl⟩)
    go_ret
    exact ⟨rfl, rfl⟩
/-- A part is in its bounds, or off. -/
theorem part_cases {p : Nat} (h : Part p) : (∃ n : Int, 0 ≤ n ∧ n ≤ 65520 ∧ p = fl n) ∨ Off p := by
  rcases h with ⟨n, hl, hh, rfl⟩ | h
  · by_cases hn : 0 ≤ n ∧ n ≤ 65520
    · exact .inl ⟨n, hn.1, hn.2, floatOfInt_fl n (by omega)⟩
    · exact .inr (.inl ⟨n, hl, hh, by omega, rfl⟩)
  · exact .inr (.inr h)
theorem isWhole_in (x y : Int) (h : InZ (x, y)) (w : World) : Calls Try.prog 26 #[.complex .f64 (fl x) (fl y)] w fun e w' => e = .returned (.bool true) ∧ w = w' := by
  obtain ⟨h1, h2, h3, h4⟩ := h
  have HX := hid (fun w => isRes_in x h1 h2 w)
  have HY := hid (fun w => isRes_in y h3 h4 w)
  go_enter Try.func26, Try.ntmps26
  go_wp2_with fail
  refine (HX.out _).mono ?_
  rintro e' w1 ⟨rfl, rfl⟩
  go_wp2_with fail
  refine (HY.out _).mono ?_
  rintro e' w1 ⟨rfl, rfl⟩
  go_wp2_with fail
  go_ret
  exact ⟨rfl, rfl⟩
theorem isWhole_off (p q : Nat) (hp : Part p) (_ : Part q) (h : Off p ∨ Off q) (w : World) : Calls Try.prog 26 #[.complex .f64 p q] w fun e w' => e = .returned (.bool false) ∧ w = w' := by
  by_cases hp' : Off p
  · have HX := hid (fun w => isRes_off p hp' w)
    clear hp h hp'
    go_enter Try.func26, Try.ntmps26
    go_wp2_with fail
    refine (HX.out _).mono ?_
    rintro e' w1 ⟨rfl, rfl⟩
    go_wp2_with fail
    go_ret
    exact ⟨rfl, rfl⟩
  · obtain ⟨n, h0, h1, rfl⟩ := (part_cases hp).resolve_right hp'
    have HX := hid (fun w => isRes_in n h0 h1 w)
    have HY := hid (fun w => isRes_off q (h.resolve_left hp') w)
    clear hp h hp'
    go_enter Try.func26, Try.ntmps26
    go_wp2_with fail
    refine (HX.out _).mono ?_
    rintro e' w1 ⟨rfl, rfl⟩
    go_wp2_with fail
    refine (HY.out _).mono ?_
    rintro e' w1 ⟨rfl, rfl⟩
    go_wp2_with fail
    go_ret
    exact ⟨rfl, rfl⟩
/-! ### residue, reduce -/
theorem conv_fl64 (n : Int) (h : n.natAbs < 9007199254740992) (W : World) : (convert 43 2 (.float .f64 (fl n))).run Try.prog W = .ok (.int .i64 n) W := by
  refine run_convert_float_int W 43 2 .f64 .i64 (fl n) n (by kernel_rfl) Try.underlying2 ?_
  unfold floatToIntVal
  rw [show FloatKind.f64.decode (fl n) = Ieee.double.read (fl n) from rfl, Fl.toInt_fl n h]
  have h1 : IntKind.i64.min = -9223372036854775808 := rfl
  have h2 : IntKind.i64.max = 9223372036854775807 := rfl
  rw [h1, h2]
  simp only
  rw [if_pos (by omega)]
theorem res_any (n : Int) (h : n.natAbs < 9007199254740992) (w : World) : Calls Try.prog 27 #[.float .f64 (fl n)] w fun e w' => e = .returned (.float .f64 (fl (n % 65521))) ∧ w = w' := by
  have hc := fun W => conv_fl64 n h W
  obtain ⟨b1, b2⟩ := tmod_bd n
  have ff := floatOfInt_fl (n % 65521) (by omega)
  have hm : n.tmod 65521 = n % 65521 ∨ n.tmod 65521 + 65521 = n % 65521 := by
    rcases Int.lt_or_le n 0 with g | g
    · have e : n.tmod 65521 = -((-n) % 65521) := by
        rw [← Int.neg_neg n, Int.neg_tmod, Int.tmod_eq_emod_of_nonneg (by omega)]
        simp
      omega
    · left; exact Int.tmod_eq_emod_of_nonneg g
  generalize g5 : n.tmod 65521 = r0 at *
  have hm0 : 0 ≤ n % 65521 ∧ n % 65521 < 65521 := by omega
  generalize n % 65521 = m at *
  by_cases hr : r0 < 0
  · have t1 : decide (r0 < 0) = true := by simpa using hr
    obtain rfl : r0 + 65521 = m := by omega
    clear hm
    go_enter Try.func27, Try.ntmps27
    go_wp2_with fail
    go_ret
    exact ⟨rfl, rfl⟩
  · have t1 : decide (r0 < 0) = false := by simpa using hr
    obtain rfl : r0 = m := by omega
    clear hm
    go_enter Try.func27, Try.ntmps27
    go_wp2_with fail
    go_ret
    exact ⟨rfl, rfl⟩
theorem reduce_any (a b : Int) (ha : a.natAbs < 9007199254740992) (hb : b.natAbs < 9007199254740992) (w : World) : Calls Try.prog 25 #[.complex .f64 (fl a) (fl b)] w fun e w' => e = .returned (.complex .f64 (fl (a % 65521)) (fl (b % 65521))) ∧ w = w' := by
  have HX := hid (fun w => res_any a ha w)
  have HY := hid (fun w => res_any b hb w)
  clear ha hb
  go_enter Try.func25, Try.ntmps25
  go_wp2_with fail
  refine (HX.out _).mono ?_
  rintro e' w1 ⟨rfl, rfl⟩
  go_wp2_with fail
  refine (HY.out _).mono ?_
  rintro e' w1 ⟨rfl, rfl⟩
  go_wp2_with fail
  go_ret
  exact ⟨rfl, rfl⟩
theorem run_fa (op : BinOp) (x y r : Nat) (h : floatBits op .f64 x y = some r) (W : World) : (Op.Complex.arith op .f64 x y).run Try.prog W = .ok r W := by
  have h' := run_float_arith (P := Try.prog) W op 0 .f64 x y r h
  unfold floatBits at h
  cases op <;> simp only at h <;> first | (cases h; done) | skip
  all_goals
    simp only [binOp, ne_eq, not_true_eq_false, if_false] at h'
    simp [Op.Complex.arith, h']
theorem run_cmul (a b c d : Int) (h1 : 0 ≤ a ∧ a ≤ 65520 ∧ 0 ≤ b ∧ b ≤ 65520) (h2 : 0 ≤ c ∧ c ≤ 65520 ∧ 0 ≤ d ∧ d ≤ 65520) (W : World) :
    (binOp .mul 41 (.complex .f64 (fl a) (fl b)) (.complex .f64 (fl c) (fl d))).run Try.prog W = .ok (.complex .f64 (fl (a * c - b * d)) (fl (a * d + b * c))) W := by
  obtain ⟨a0, a1, b0, b1⟩ := h1
  obtain ⟨c0, c1, d0, d1⟩ := h2
  obtain ⟨bac, bac'⟩ := prod_bd a0 a1 c0 c1
  obtain ⟨bbd, bbd'⟩ := prod_bd b0 b1 d0 d1
  obtain ⟨bad, bad'⟩ := prod_bd a0 a1 d0 d1
  obtain ⟨bbc, bbc'⟩ := prod_bd b0 b1 c0 c1
  have m1 : floatBits .mul .f64 (fl a) (fl c) = some (fl (a * c)) := Fl.mul_fl a c (by omega) (by omega) (by omega) a0 c0
  have m2 : floatBits .mul .f64 (fl b) (fl d) = some (fl (b * d)) := Fl.mul_fl b d (by omega) (by omega) (by omega) b0 d0
  have m3 : floatBits .mul .f64 (fl a) (fl d) = some (fl (a * d)) := Fl.mul_fl a d (by omega) (by omega) (by omega) a0 d0
  have m4 : floatBits .mul .f64 (fl b) (fl c) = some (fl (b * c)) := Fl.mul_fl b c (by omega) (by omega) (by omega) b0 c0
  have m5 : floatBits .sub .f64 (fl (a * c)) (fl (b * d)) = some (fl (a * c - b * d)) := Fl.sub_fl _ _ (by omega) (by omega) (by omega)
  have m6 : floatBits .add .f64 (fl (a * d)) (fl (b * c)) = some (fl (a * d + b * c)) := Fl.add_fl _ _ (by omega) (by omega) (by omega)
  simp [binOp, Op.complexOp, Op.Complex.product, Op.Complex.conv, Op.Complex.mul, Op.Complex.sub, Op.Complex.add, run_fa _ _ _ _ m1, run_fa _ _ _ _ m2, run_fa _ _ _ _ m3, run_fa _ _ _ _ m4, run_fa _ _ _ _ m5, run_fa _ _ _ _ m6]
theorem run_cadd (a b c d : Int) (h1 : a.natAbs < 100000) (h2 : b.natAbs < 100000) (h3 : c.natAbs < 100000) (h4 : d.natAbs < 100000) (W : World) :
    (binOp .add 41 (.complex .f64 (fl a) (fl b)) (.complex .f64 (fl c) (fl d))).run Try.prog W = .ok (.complex .f64 (fl (a + c)) (fl (b + d))) W := by
  have m5 : floatBits .add .f64 (fl a) (fl c) = some (fl (a + c)) := Fl.add_fl _ _ (by omega) (by omega) (by omega)
  have m6 : floatBits .add .f64 (fl b) (fl d) = some (fl (b + d)) := Fl.add_fl _ _ (by omega) (by omega) (by omega)
  simp [binOp, Op.complexOp, run_fa _ _ _ _ m5, run_fa _ _ _ _ m6]

/-! ### Mul -/
theorem mul_spec : MulSpec 21 := by
  intro x y hx hy w
  obtain ⟨a, b⟩ := x
  obtain ⟨c, d⟩ := y
  have h1 := hx
  have h2 := hy
  simp only [InZ] at h1 h2
  have HX := hid (fun w => isWhole_in a b hx w)
  have HY := hid (fun w => isWhole_in c d hy w)
  obtain ⟨a0, a1, b0, b1⟩ := h1
  obtain ⟨c0, c1, d0, d1⟩ := h2
  obtain ⟨bac, bac'⟩ := prod_bd a0 a1 c0 c1
  obtain ⟨bbd, bbd'⟩ := prod_bd b0 b1 d0 d1
  obtain ⟨bad, bad'⟩ := prod_bd a0 a1 d0 d1
  obtain ⟨bbc, bbc'⟩ := prod_bd b0 b1 c0 c1
  have HR := hid (fun w => reduce_any (a * c - b * d) (a * d + b * c) (by omega) (by omega) w)
  have hm := fun W => run_cmul a b c d ⟨a0, a1, b0, b1⟩ ⟨c0, c1, d0, d1⟩ W
  have HE : Hid (mulZ (a, b) (c, d) = ((a * c - b * d) % 65521, (a * d + b * c) % 65521)) := rfl
  clear hx hy a0 a1 b0 b1 c0 c1 d0 d1 bac bac' bbd bbd' bad bad' bbc bbc'
  go_enter Try.func21, Try.ntmps21
  go_wp2_with fail
  refine (HX.out _).mono ?_
  rintro e' w1 ⟨rfl, rfl⟩
  go_wp2_with fail
  refine (HY.out _).mono ?_
  rintro e' w1 ⟨rfl, rfl⟩
  go_wp2_with fail
  refine (HR.out _).mono ?_
  rintro e' w1 ⟨rfl, rfl⟩
  go_wp2_with fail
  go_ret
  exact ⟨by rw [HE.out]; rfl, Below.refl _ _⟩
theorem mul_none : MulNone 21 := by
  intro p q r s hp hq hr hs ho w
  by_cases h1 : Off p ∨ Off q
  · have HX := hid (fun w => isWhole_off p q hp hq h1 w)
    clear hp hq hr hs ho h1
    go_enter Try.func21, Try.ntmps21
    go_wp2_with fail
    refine (HX.out _).mono ?_
    rintro e' w1 ⟨rfl, rfl⟩
    go_wp2_with fail
    go_ret
    exact ⟨rfl, Below.refl _ _⟩
  · obtain ⟨n, n0, n1, rfl⟩ := (part_cases hp).resolve_right (fun h => h1 (.inl h))
    obtain ⟨m, m0, m1, rfl⟩ := (part_cases hq).resolve_right (fun h => h1 (.inr h))
    have h2 : Off r ∨ Off s := by
      rcases ho with h | h | h | h
      · exact absurd (.inl h) h1
      · exact absurd (.inr h) h1
      · exact .inl h
      · exact .inr h
    have HX := hid (fun w => isWhole_in n m ⟨n0, n1, m0, m1⟩ w)
    have HY := hid (fun w => isWhole_off r s hr hs h2 w)
    clear hp hq hr hs ho h1 h2
    go_enter Try.func21, Try.ntmps21
    go_wp2_with fail
    refine (HX.out _).mono ?_
    rintro e' w1 ⟨rfl, rfl⟩
    go_wp2_with fail
    refine (HY.out _).mono ?_
    rintro e' w1 ⟨rfl, rfl⟩
    go_wp2_with fail
    go_ret
    exact ⟨rfl, Below.refl _ _⟩

/-! ### Fold, Hash -/
theorem fold_step_eq (z : Int × Int) (c : UInt8) (h : 0 ≤ z.1 ∧ z.1 < 65521 ∧ 0 ≤ z.2 ∧ z.2 < 65521) :
    foldStep z c = (((mulZ z (3, 2)).1 + (c.toNat : Int)) % 65521, ((mulZ z (3, 2)).2 + 1) % 65521) := by
  obtain ⟨x, y⟩ := z
  simp only [foldStep, mulZ] at *
  refine Prod.ext ?_ ?_ <;> simp only <;> omega
theorem fold_spec : FoldSpec 18 := by
  intro A n c bs w hr hn
  have Hl := hid hr.1
  have HC := hid hr.2
  have HM := hid mul_spec
  clear hr
  go_enter Try.func18, Try.ntmps18
  go_wp2_with fail
  go_loopw [3, 8] (fun x i wr => ∃ (k : Nat) (u v : Int), k ≤ n ∧ i = .int .i64 k ∧ x = .complex .f64 (fl u) (fl v) ∧ Hid (foldZ (bs.take k) = (u, v)) ∧ Below w.heap.size w wr) (fun _ i _ => n - (intOf i).toNat)
  case atStart => exact ⟨0, 1, 0, Nat.zero_le _, rfl, by rw [fl1, fl0], rfl, Below.refl _ _⟩
  case round =>
    obtain ⟨k, u, v, hk, rfl, rfl, HF, hbel⟩ := hrel
    have hrg := foldZ_range (bs.take k)
    rw [HF.out] at hrg
    obtain ⟨r1, r2, r3, r4⟩ := hrg
    simp only at r1 r2 r3 r4
    by_cases hlt : k < n
    · obtain ⟨b, off, rfl, hb, hc⟩ := HC.out (by omega)
      obtain ⟨x, hx⟩ : ∃ x, bs[k]? = some x := ⟨bs[k]'(by rw [Hl.out]; omega), List.getElem?_eq_getElem _⟩
      have c0 := (hbel.cell (p := ⟨b, off + k, none⟩) hb).trans (hc _ _ hx)
      have hxr : x.toNat < 256 := UInt8.toNat_lt x
      have HS := hid ((foldZ_take hx).trans (fold_step_eq _ x (foldZ_range _)))
      have hmm : 0 ≤ (mulZ (u, v) (3, 2)).1 ∧ (mulZ (u, v) (3, 2)).1 < 65521 ∧ 0 ≤ (mulZ (u, v) (3, 2)).2 ∧ (mulZ (u, v) (3, 2)).2 < 65521 := by simp only [mulZ]; omega
      have H1 : Hid (∀ w, Calls Try.prog 21 #[.complex .f64 (fl u) (fl v), .complex .f64 4613937818241073152 4611686018427387904] w fun e w' => e = .returned (.complex .f64 (fl (mulZ (u, v) (3, 2)).1) (fl (mulZ (u, v) (3, 2)).2)) ∧ Below w.heap.size w w') := by
        intro w
        have := HM.out (u, v) (3, 2) ⟨r1, by omega, r3, by omega⟩ ⟨by decide, by decide, by decide, by decide⟩ w
        simp only [fl2, fl3] at this
        exact this
      generalize hz : mulZ (u, v) (3, 2) = z at *
      obtain ⟨zr, zi⟩ := z
      simp only at hmm
      have ha := fun W => run_cadd zr zi (x.toNat : Int) 1 (by omega) (by omega) (by omega) (by omega) W
      rw [fl1] at ha
      have hcv : floatOfInt .f64 (x.toNat : Int) = fl (x.toNat : Int) := floatOfInt_fl _ (by omega)
      have HR := hid (fun w => reduce_any (zr + (x.toNat : Int)) (zi + 1) (by omega) (by omega) w)
      have HZ := hid hz
      clear hz hmm hc hx
      go_wp2_with fail
      refine (H1.out _).mono ?_
      rintro e' w1 ⟨rfl, hb1⟩
      go_wp2_with fail
      refine (HR.out _).mono ?_
      rintro e' w2 ⟨rfl, rfl⟩
      go_wp2_with fail
      go_roundw
      case rel => exact ⟨k + 1, _, _, by omega, by go_num, rfl, by rw [HS.out, HF.out, HZ.out]; rfl, bel_step hb1 hbel⟩
      case measure => simp [intOf]; omega
    · obtain rfl : k = n := by omega
      go_wp2_with fail
      go_ret
      have := HF.out
      rw [List.take_of_length_le (by rw [Hl.out]; omega)] at this
      refine ⟨?_, hbel⟩
      rw [this]
      rfl
theorem hash_spec : HashSpec 19 := by
  intro t hf w
  have HF := hid hf
  clear hf
  go_enter Try.func19, Try.ntmps19
  go_wp2_with fail
  refine (bytes_all t HF.out _).mono ?_
  rintro e' w1 ⟨A, c, rfl, _, hr, hb1⟩
  have hlen : t.bytes.length ≤ 1100 := by
    cases h : t.ok with
    | true => rw [bytes_len h]; omega
    | false => rw [bytes_no h]; simp
  have HC := hid (fold_spec A _ c t.bytes w1 hr hlen)
  have hg := foldZ_range t.bytes
  have HH : Hid (hashOf t = 7 * (foldZ t.bytes).1 + (foldZ t.bytes).2) := rfl
  clear hr hlen
  generalize foldZ t.bytes = z at *
  obtain ⟨u, v⟩ := z
  simp only at hg
  obtain ⟨g1, g2, g3, g4⟩ := hg
  have kx := fun W => conv_fl u (by omega) W
  have ky := fun W => conv_fl v (by omega) W
  go_wp2_with fail
  refine HC.out.mono ?_
  rintro e' w2 ⟨rfl, hb2⟩
  go_wp2_with fail
  go_ret
  refine ⟨by rw [HH.out]; rfl, ?_⟩
  exact ((Below.refl _ _).alloc (Nat.le_refl _) _).trans ((hb1.trans (hb2.mono hb1.size)).mono (by simp))
theorem u8_byte {a : Int} (h : (Lit.int .u8 a).wf = true) : ∃ x : UInt8, a = (x.toNat : Int) := by
  simp only [Lit.wf, Bool.and_eq_true, decide_eq_true_eq] at h
  have h1 : IntKind.u8.min = 0 := rfl
  have h2 : IntKind.u8.max = 255 := rfl
  rw [h1, h2] at h
  refine ⟨byt a, ?_⟩
  have := byt_val a
  omega
end Go.Proofs.Ytmhedmjealggfaa
