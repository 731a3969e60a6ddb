import Derived.Test.YtmhedmjealggfaaGaJ
namespace Go.Proofs.Ytmhedmjealggfaa
open Go.RowKit
open Fl (fl)
set_option maxHeartbeats 1600000
set_option maxRecDepth 100000

theorem mod_sub (u v c d : Int) : (u % 65521 * c - v % 65521 * d) % 65521 = (u * c - v * d) % 65521 := by
  rw [Int.sub_emod, Int.mul_emod, Int.emod_emod, ← Int.mul_emod, Int.mul_emod (v % 65521), Int.emod_emod, ← Int.mul_emod, ← Int.sub_emod]
theorem mod_add (u v c d : Int) : (u % 65521 * c + v % 65521 * d) % 65521 = (u * c + v * d) % 65521 := by
  rw [Int.add_emod, Int.mul_emod, Int.emod_emod, ← Int.mul_emod, Int.mul_emod (v % 65521), Int.emod_emod, ← Int.mul_emod, ← Int.add_emod]
theorem mulZ_comm (x y : Int × Int) : mulZ x y = mulZ y x := by
  unfold mulZ
  rw [Int.mul_comm x.1 y.1, Int.mul_comm x.2 y.2, Int.mul_comm x.1 y.2, Int.mul_comm x.2 y.1, Int.add_comm]
theorem mulZ_assoc (x y z : Int × Int) : mulZ (mulZ x y) z = mulZ x (mulZ y z) := by
  rw [mulZ_comm x (mulZ y z)]
  obtain ⟨a, b⟩ := x
  obtain ⟨c, d⟩ := y
  obtain ⟨e, f⟩ := z
  unfold mulZ
  simp only
  rw [mod_sub, mod_add, mod_sub, mod_add]
  congr 2
  · simp only [Int.sub_mul, Int.add_mul]
    simp only [Int.mul_comm, Int.mul_left_comm]
    omega
  · simp only [Int.sub_mul, Int.add_mul]
    simp only [Int.mul_comm, Int.mul_left_comm]
    omega
theorem mulZ_one (x : Int × Int) (h : InZ x) : mulZ x (1, 0) = x := by
  obtain ⟨a, b⟩ := x
  unfold InZ at h
  unfold mulZ
  simp only at *
  rw [Prod.mk.injEq]
  omega
theorem mulZ_zero (x : Int × Int) : mulZ x (0, 0) = (0, 0) := by unfold mulZ; simp
theorem mulZ_four (x : Int × Int) (h : InZ x) : mulZ (mulZ (mulZ (mulZ x (0, 1)) (0, 1)) (0, 1)) (0, 1) = x := by
  rw [mulZ_assoc, mulZ_assoc, mulZ_assoc, show mulZ (0, 1) (mulZ (0, 1) (mulZ (0, 1) (0, 1))) = (1, 0) from by decide, mulZ_one x h]
theorem four_bad {a b c d : Int} (h : ¬(0 ≤ a ∧ a ≤ 65520 ∧ 0 ≤ b ∧ b ≤ 65520 ∧ 0 ≤ c ∧ c ≤ 65520 ∧ 0 ≤ d ∧ d ≤ 65520)) :
    decide (a < 0) = true ∨ (decide (a < 0) = false ∧ decide (65520 < a) = true) ∨ (decide (a < 0) = false ∧ decide (65520 < a) = false ∧ decide (b < 0) = true) ∨
    (decide (a < 0) = false ∧ decide (65520 < a) = false ∧ decide (b < 0) = false ∧ decide (65520 < b) = true) ∨
    (decide (a < 0) = false ∧ decide (65520 < a) = false ∧ decide (b < 0) = false ∧ decide (65520 < b) = false ∧ decide (c < 0) = true) ∨
    (decide (a < 0) = false ∧ decide (65520 < a) = false ∧ decide (b < 0) = false ∧ decide (65520 < b) = false ∧ decide (c < 0) = false ∧ decide (65520 < c) = true) ∨
    (decide (a < 0) = false ∧ decide (65520 < a) = false ∧ decide (b < 0) = false ∧ decide (65520 < b) = false ∧ decide (c < 0) = false ∧ decide (65520 < c) = false ∧ decide (d < 0) = true) ∨
    (decide (a < 0) = false ∧ decide (65520 < a) = false ∧ decide (b < 0) = false ∧ decide (65520 < b) = false ∧ decide (c < 0) = false ∧ decide (65520 < c) = false ∧ decide (d < 0) = false ∧ decide (65520 < d) = true) := by
  simp only [decide_eq_true_eq, decide_eq_false_iff_not]
  omega
theorem turns_out (hF : FoldSpec 18) (hM : MulSpec 21) (a b c d : Int) (h : ¬(0 ≤ a ∧ a ≤ 65520 ∧ 0 ≤ b ∧ b ≤ 65520 ∧ 0 ≤ c ∧ c ≤ 65520 ∧ 0 ≤ d ∧ d ≤ 65520)) (w : World) :
    Calls Try.prog 9 #[.int .i64 a, .int .i64 b, .int .i64 c, .int .i64 d] w fun e w' => e = .returned (.bool true) ∧ Below w.heap.size w w' := by
  have HL := hid (fun w => alive3 hF hM w)
  clear hF hM
  have hb := four_bad h
  clear h
  rcases hb with h1 | ⟨h1, h2⟩ | ⟨h1, h2, h3⟩ | ⟨h1, h2, h3, h4⟩ | ⟨h1, h2, h3, h4, h5⟩ | ⟨h1, h2, h3, h4, h5, h6⟩ | ⟨h1, h2, h3, h4, h5, h6, h7⟩ | ⟨h1, h2, h3, h4, h5, h6, h7, h8⟩ <;>
  · go_enter Try.func9, Try.ntmps9
    go_wp2_with (go_at_call 16; (with_reducible refine (HL.out _).mono ?_); rintro e' w1 ⟨rfl, hb1⟩)
    go_ret
    exact ⟨rfl, hb1⟩
/-- Mul by a number written out. -/
theorem mul_lit {f : FuncId} (hM : MulSpec f) (x : Int × Int) (hx : InZ x) (y z : Int × Int) (hy : InZ y) (hz : mulZ x y = z) (p q : Nat) (hp : fl y.1 = p) (hq : fl y.2 = q) (w : World) :
    Calls Try.prog f #[.complex .f64 (fl x.1) (fl x.2), .complex .f64 p q] w fun e w' => e = .returned (.complex .f64 (fl z.1) (fl z.2)) ∧ Below w.heap.size w w' := by
  subst hz hp hq
  exact hM x y hx hy w
theorem turns_in (hF : FoldSpec 18) (hM : MulSpec 21) (a b c d : Int) (h : 0 ≤ a ∧ a ≤ 65520 ∧ 0 ≤ b ∧ b ≤ 65520 ∧ 0 ≤ c ∧ c ≤ 65520 ∧ 0 ≤ d ∧ d ≤ 65520) (w : World) :
    Calls Try.prog 9 #[.int .i64 a, .int .i64 b, .int .i64 c, .int .i64 d] w fun e w' => e = .returned (.bool true) ∧ Below w.heap.size w w' := by
  have HL := hid (fun w => alive3 hF hM w)
  obtain ⟨h1, h2, h3, h4, h5, h6, h7, h8⟩ := h
  have t1 : decide (a < 0) = false := by simp; omega
  have t2 : decide (65520 < a) = false := by simp; omega
  have t3 : decide (b < 0) = false := by simp; omega
  have t4 : decide (65520 < b) = false := by simp; omega
  have t5 : decide (c < 0) = false := by simp; omega
  have t6 : decide (65520 < c) = false := by simp; omega
  have t7 : decide (d < 0) = false := by simp; omega
  have t8 : decide (65520 < d) = false := by simp; omega
  have X : InZ (a, b) := ⟨h1, h2, h3, h4⟩
  have Y : InZ (c, d) := ⟨h5, h6, h7, h8⟩
  have I1 : InZ (0, 1) := ⟨by decide, by decide, by decide, by decide⟩
  obtain ⟨z1, hz1⟩ : ∃ z, mulZ (a, b) (0, 1) = z := ⟨_, rfl⟩
  obtain ⟨z2, hz2⟩ : ∃ z, mulZ z1 (0, 1) = z := ⟨_, rfl⟩
  obtain ⟨z3, hz3⟩ : ∃ z, mulZ z2 (0, 1) = z := ⟨_, rfl⟩
  have hz4 : mulZ z3 (0, 1) = (a, b) := by rw [← hz3, ← hz2, ← hz1]; exact mulZ_four _ X
  obtain ⟨p, hp⟩ : ∃ z, mulZ (a, b) (c, d) = z := ⟨_, rfl⟩
  obtain ⟨r, hr⟩ : ∃ z, mulZ p (c, d) = z := ⟨_, rfl⟩
  obtain ⟨s, hs⟩ : ∃ z, mulZ (c, d) (c, d) = z := ⟨_, rfl⟩
  have hrs : mulZ (a, b) s = r := by rw [← hr, ← hs, ← hp, mulZ_assoc]
  have Z1 : InZ z1 := hz1 ▸ mulZ_in _ _
  have Z2 : InZ z2 := hz2 ▸ mulZ_in _ _
  have Z3 : InZ z3 := hz3 ▸ mulZ_in _ _
  have P : InZ p := hp ▸ mulZ_in _ _
  have R : InZ r := hr ▸ mulZ_in _ _
  have S : InZ s := hs ▸ mulZ_in _ _
  have C1 := hid (fun w => mul_lit hM _ X _ _ I1 hz1 0 4607182418800017408 fl0 fl1 w)
  have C2 := hid (fun w => mul_lit hM _ Z1 _ _ I1 hz2 0 4607182418800017408 fl0 fl1 w)
  have C3 := hid (fun w => mul_lit hM _ Z2 _ _ I1 hz3 0 4607182418800017408 fl0 fl1 w)
  have C4 := hid (fun w => mul_lit hM _ Z3 _ _ I1 hz4 0 4607182418800017408 fl0 fl1 w)
  have C5 := hid (fun w => mul_lit hM _ X (1, 0) _ ⟨by decide, by decide, by decide, by decide⟩ (mulZ_one _ X) 4607182418800017408 0 fl1 fl0 w)
  have C6 := hid (fun w => mul_lit hM _ X (0, 0) (0, 0) ⟨by decide, by decide, by decide, by decide⟩ (mulZ_zero _) 0 0 fl0 fl0 w)
  have C7 := hid (fun w => mul_lit hM _ X _ _ Y hp _ _ rfl rfl w)
  have C8 := hid (fun w => mul_lit hM _ P _ _ Y hr _ _ rfl rfl w)
  have C9 := hid (fun w => mul_lit hM _ Y _ _ Y hs _ _ rfl rfl w)
  have C10 := hid (fun w => mul_lit hM _ X _ _ S hrs _ _ rfl rfl w)
  have fa := floatOfInt_fl a (by omega)
  have fb := floatOfInt_fl b (by omega)
  have fc := floatOfInt_fl c (by omega)
  have fd := floatOfInt_fl d (by omega)
  have oa := ord_same a (by omega)
  have ob := ord_same b (by omega)
  have o1 := ord_same r.1 (nat_of r R).1
  have o2 := ord_same r.2 (nat_of r R).2
  have o0 : FloatKind.f64.format.order 0 0 = some .eq := by decide
  have f0 := fl0
  clear hF hM hz1 hz2 hz3 hz4 hp hr hs hrs X Y I1 Z1 Z2 Z3 P R S
  go_enter Try.func9, Try.ntmps9
  go_wp2_with (go_at_call 16; (with_reducible refine (HL.out _).mono ?_); rintro e' w1 ⟨rfl, hb1⟩)
  refine wp_loop_rounds 5 ?_
  rw [rounds_succ]
  go_wp2_with fail
  refine (C1.out _).mono ?_
  rintro e' w2 ⟨rfl, hb2⟩
  go_wp2_with fail
  rw [rounds_succ]
  go_wp2_with fail
  refine (C2.out _).mono ?_
  rintro e' w3 ⟨rfl, hb3⟩
  go_wp2_with fail
  rw [rounds_succ]
  go_wp2_with fail
  refine (C3.out _).mono ?_
  rintro e' w4 ⟨rfl, hb4⟩
  go_wp2_with fail
  rw [rounds_succ]
  go_wp2_with fail
  refine (C4.out _).mono ?_
  rintro e' w5 ⟨rfl, hb5⟩
  go_wp2_with fail
  rw [rounds_succ]
  go_wp2_with fail
  refine (C5.out _).mono ?_
  rintro e' w6 ⟨rfl, hb6⟩
  go_wp2_with fail
  refine (C6.out _).mono ?_
  rintro e' w7 ⟨rfl, hb7⟩
  go_wp2_with fail
  refine (C7.out _).mono ?_
  rintro e' w8 ⟨rfl, hb8⟩
  go_wp2_with fail
  refine (C8.out _).mono ?_
  rintro e' w9 ⟨rfl, hb9⟩
  go_wp2_with fail
  refine (C9.out _).mono ?_
  rintro e' w10 ⟨rfl, hb10⟩
  go_wp2_with fail
  refine (C10.out _).mono ?_
  rintro e' w11 ⟨rfl, hb11⟩
  go_wp2_with fail
  go_ret
  exact ⟨rfl, bel_step hb11 (bel_step hb10 (bel_step hb9 (bel_step hb8 (bel_step hb7 (bel_step hb6 (bel_step hb5 (bel_step hb4 (bel_step hb3 (bel_step hb2 hb1)))))))))⟩
theorem turns_any (hF : FoldSpec 18) (hM : MulSpec 21) (a b c d : Int) (w : World) :
    Calls Try.prog 9 #[.int .i64 a, .int .i64 b, .int .i64 c, .int .i64 d] w fun e w' => e = .returned (.bool true) ∧ Below w.heap.size w w' := by
  by_cases h : 0 ≤ a ∧ a ≤ 65520 ∧ 0 ≤ b ∧ b ≤ 65520 ∧ 0 ≤ c ∧ c ≤ 65520 ∧ 0 ≤ d ∧ d ≤ 65520
  · exact turns_in hF hM a b c d h w
  · exact turns_out hF hM a b c d h w
end Go.Proofs.Ytmhedmjealggfaa
