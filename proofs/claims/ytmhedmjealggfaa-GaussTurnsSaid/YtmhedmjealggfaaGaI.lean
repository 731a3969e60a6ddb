import Derived.Test.YtmhedmjealggfaaGaH
import Derived.Test.YtmhedmjealggfaaPkG
import Derived.Deep.RegionWith
import Derived.Deep.DeepCutAuto
import Derived.Laws.Cover3
import Derived.Laws.Cover2
import Derived.Laws.FloatArith
import Derived.Outline
namespace Go.Proofs.Ytmhedmjealggfaa
open Go.RowKit
open Fl (fl)
set_option maxHeartbeats 1600000
set_option maxRecDepth 100000

theorem fl0 : fl 0 = 0 := by decide
theorem fl1 : fl 1 = 4607182418800017408 := by decide
theorem fl2 : fl 2 = 4611686018427387904 := by decide
theorem fl3 : fl 3 = 4613937818241073152 := by decide
theorem fl8 : fl 8 = 4620693217682128896 := by decide
theorem fl65517 : fl 65517 = 4679237401497829376 := by decide
theorem ord_same (n : Int) (h : n.natAbs < 9007199254740992) : FloatKind.f64.format.order (fl n) (fl n) = some .eq := by
  have := Fl.order_fl n n h h
  show Ieee.double.order _ _ = _
  rw [this]
  simp [compare, compareOfLessAndEq]
theorem fold_nil {f : FuncId} (hF : FoldSpec f) (w : World) : Calls Try.prog f #[.slice none 0 0] w fun e w' => e = .returned (.complex .f64 4607182418800017408 0) ∧ Below w.heap.size w w' := by
  have := hF none 0 0 [] w (rbyt_nil _ _ _) (by omega)
  rw [show foldZ [] = (1, 0) from rfl] at this
  simp only [fl0, fl1] at this
  exact this
theorem fold_five {f : FuncId} (hF : FoldSpec f) (w : World) : Calls Try.prog f #[.slice (some ⟨w.heap.size, 0, none⟩) 1 1] (w.alloc (.cells #[.int .u8 5] 5)) fun e w' => e = .returned (.complex .f64 4620693217682128896 4613937818241073152) ∧ Below w.heap.size w w' := by
  have hr : RByt (w.alloc (.cells #[.int .u8 5] 5)) (w.alloc (.cells #[.int .u8 5] 5)).heap.size (some ⟨w.heap.size, 0, none⟩) 1 [5] := by
    refine ⟨rfl, fun _ => ⟨_, _, rfl, by simp, fun i x hx => ?_⟩⟩
    cases i with
    | succ i => simp at hx
    | zero =>
      simp at hx; subst hx
      rw [cell_of_row _ _ _ _ _ _ (heap_alloc_new w _)]
      rfl
  have := hF _ _ 1 [5] _ hr (by omega)
  rw [show foldZ [5] = (8, 3) from by decide] at this
  simp only [fl8, fl3] at this
  exact this.mono fun e w' ⟨h1, h2⟩ => ⟨h1, ((Below.refl _ w).alloc (Nat.le_refl _) _).trans (h2.mono (by simp))⟩
theorem mul_two {f : FuncId} (hM : MulSpec f) (w : World) : Calls Try.prog f #[.complex .f64 0 4611686018427387904, .complex .f64 0 4611686018427387904] w fun e w' => e = .returned (.complex .f64 4679237401497829376 0) ∧ Below w.heap.size w w' := by
  have := hM (0, 2) (0, 2) ⟨by decide, by decide, by decide, by decide⟩ ⟨by decide, by decide, by decide, by decide⟩ w
  rw [show mulZ (0, 2) (0, 2) = (65517, 0) from by decide] at this
  simp only [fl0, fl2, fl65517] at this
  exact this
theorem alive3 (hF : FoldSpec 18) (hM : MulSpec 21) (w : World) : Calls Try.prog 16 #[] w fun e w' => e = .returned (.bool true) ∧ Below w.heap.size w w' := by
  have H1 := hid (fun w => fold_nil hF w)
  have H2 := hid (fun w => fold_five hF w)
  have H3 := hid (fun w => mul_two hM w)
  clear hF hM
  have o0 : FloatKind.f64.format.order 0 0 = some .eq := by decide
  have o1 : FloatKind.f64.format.order 4607182418800017408 4607182418800017408 = some .eq := by decide
  have o8 : FloatKind.f64.format.order 4620693217682128896 4620693217682128896 = some .eq := by decide
  have o3 : FloatKind.f64.format.order 4613937818241073152 4613937818241073152 = some .eq := by decide
  have o5 : FloatKind.f64.format.order 4679237401497829376 4679237401497829376 = some .eq := by decide
  go_enter Try.func16, Try.ntmps16
  go_wp2_with fail
  refine (H1.out _).mono ?_
  rintro e' w1 ⟨rfl, hb1⟩
  go_wp2_with fail
  refine (H2.out _).mono ?_
  rintro e' w2 ⟨rfl, hb2⟩
  go_wp2_with fail
  refine (H3.out _).mono ?_
  rintro e' w3 ⟨rfl, hb3⟩
  go_wp2_with fail
  go_ret
  have h12 := hb1.trans (hb2.mono hb1.size)
  exact ⟨rfl, h12.trans (hb3.mono h12.size)⟩

/-- A whole number's word, converted to int: itself. -/
theorem conv_fl (n : Int) (h : n.natAbs < 9007199254740992) (W : World) : (convert 43 3 (.float .f64 (fl n))).run Try.prog W = .ok (.int .i64 n) W := by
  refine run_convert_float_int W 43 3 .f64 .i64 (fl n) n (by kernel_rfl) Try.underlying3 ?_
  unfold floatToIntVal
  rw [show FloatKind.f64.decode (fl n) = Ieee.double.read (fl n) from rfl, Fl.toInt_fl n h]
  have h1 : IntKind.i64.min = -9223372036854775808 := rfl
  have h2 : IntKind.i64.max = 9223372036854775807 := rfl
  rw [h1, h2]
  simp only
  rw [if_pos (by omega)]
theorem floatOfInt_fl (n : Int) (h : n.natAbs < 9007199254740992) : floatOfInt .f64 n = fl n := Fl.flAny_eq n h

theorem folds_in (hF : FoldSpec 18) (hM : MulSpec 21) (hH : HashSpec 19) (t : Tup) (hf : t.fits) (A : Option Addr) (n c : Nat) (bs : List UInt8) (w : World) (hr : RByt w w.heap.size A n bs) (hA : A = none → n = 0 ∧ c = 0) (h : n ≤ 1000) :
    Calls Try.prog 6 #[.slice A n c, .agg #[.int .u32 t.src, .int .u32 t.dst, .int .i64 t.pro, .int .i64 t.sp, .int .i64 t.dp]] w fun e w' => e = .returned (.bool true) ∧ Below w.heap.size w w' := by
  have HL := hid (fun w => alive3 hF hM w)
  have HF := hid hF; have HH := hid hH; have HT := hid hf; have HI := hid hr; have HN := hid hA
  obtain ⟨i5, hi, hz0, hz1, hz2⟩ := info_parts Try.info5
  have Ai := hid hi; have Az0 := hid hz0; have Az1 := hid hz1; have Az2 := hid hz2
  clear hi hz0 hz1 hz2 hF hM hH hA hr hf
  have t1 : decide ((1000 : Int) < n) = false := by simp; omega
  obtain ⟨w0, hW⟩ : ∃ w0, w0 = w.alloc (.cells #[.int .u32 t.src, .int .u32 t.dst, .int .i64 t.pro, .int .i64 t.sp, .int .i64 t.dp] 24) := ⟨_, rfl⟩
  have hb0 : Below w.heap.size w w0 := by rw [hW]; exact (Below.refl _ _).alloc (Nat.le_refl _) _
  have hs0 : w.heap.size < w0.heap.size := by rw [hW]; simp
  have cc : w0.cell? ⟨w.heap.size, 0, none⟩ = some (.int .u32 t.src) ∧ w0.cell? ⟨w.heap.size, 1, none⟩ = some (.int .u32 t.dst) ∧ w0.cell? ⟨w.heap.size, 2, none⟩ = some (.int .i64 t.pro) ∧ w0.cell? ⟨w.heap.size, 3, none⟩ = some (.int .i64 t.sp) ∧ w0.cell? ⟨w.heap.size, 4, none⟩ = some (.int .i64 t.dp) := by rw [hW]; simp [go_sem]
  have HC := hid cc
  have HW := hid hW
  clear hW cc
  go_enter Try.func6, Try.ntmps6
  go_wp2_with fail
  rw [← HW.out]
  refine (HL.out _).mono ?_
  rintro e' w1 ⟨rfl, hb1⟩
  have h01 := hb0.trans (hb1.mono (by omega))
  have hs1 : w.heap.size < w1.heap.size := by have := hb1.size; omega
  have HR := hid (refFold_any A n c bs w1 ((HI.out.below h01).more h01.size) (by unfold maxLen; omega))
  have HZ := hid (foldZ_range bs)
  go_wp2_with fail
  refine HR.out.mono ?_
  rintro e' w2 ⟨rfl, hb2⟩
  have h02 := h01.trans (hb2.mono h01.size)
  have HI2 := hid ((HI.out.below h02).more h02.size)
  go_wp2_with (at_builtin; refine wpList_copy rfl (.const (.slice none 0 0)) (.tmp 23) 25 rfl w2.heap.size 5 i5 (.int .u8 0) 1 1 Try.underlying25 Ai.out Az0.out Az1.out Az2.out rfl (by decide) rfl A n c (bcells bs) rfl HN.out (by rw [bcells_len, HI2.out.1]; omega) (byt_src' HI2.out) (bcells_one _) (by unfold maxLen; omega) (by omega) (Nat.le_refl _) ?_; intro v3 w3 hown3 hb3)
  obtain ⟨A3, c3, rfl, hr3⟩ := own_byt hown3
  have h03 := h02.trans (hb3.mono h02.size)
  have HR3 := hid (HF.out A3 n c3 bs w3 hr3 (by omega))
  clear hown3 hr3
  refine HR3.out.mono ?_
  rintro e' w4 ⟨rfl, hb4⟩
  have h04 := h03.trans (hb4.mono h03.size)
  have hs4 : w.heap.size < w4.heap.size := by have := hb2.size; have := hb3.size; have := hb4.size; omega
  have hb14 : Below w0.heap.size w0 w4 := ((hb1.trans (hb2.mono hb1.size)).trans (hb3.mono (by have := hb1.size; have := hb2.size; omega))).trans (hb4.mono (by have := hb1.size; have := hb2.size; have := hb3.size; omega))
  obtain ⟨q0, q1, q2, q3, q4⟩ := HC.out
  obtain ⟨d0, d1, d2, d3, d4⟩ := tup_at hb14 hs0 q0 q1 q2 q3 q4
  clear q0 q1 q2 q3 q4
  have kx := fun W => conv_fl (foldZ bs).1 (by have := HZ.out; omega) W
  have ky := fun W => conv_fl (foldZ bs).2 (by have := HZ.out; omega) W
  have allT : ∀ w', Below w4.heap.size w4 w' → w'.cell? ⟨w.heap.size, 0, none⟩ = some (.int .u32 t.src) ∧ w'.cell? ⟨w.heap.size, 1, none⟩ = some (.int .u32 t.dst) ∧ w'.cell? ⟨w.heap.size, 2, none⟩ = some (.int .i64 t.pro) ∧ w'.cell? ⟨w.heap.size, 3, none⟩ = some (.int .i64 t.sp) ∧ w'.cell? ⟨w.heap.size, 4, none⟩ = some (.int .i64 t.dp) := fun w' hb => tup_at hb hs4 d0 d1 d2 d3 d4
  have AllT := hid allT
  have hbr := Below.refl w4.heap.size w4
  clear allT
  go_upto_region 6 with fail
  go_cut [4] (fun s wx => s = .bool true ∧ Below w4.heap.size w4 wx)
  case first =>
    go_region_with (first
      | (go_at_call 19; refine (HH.out t HT.out _).mono ?_; rintro e' w5 ⟨rfl, hb5⟩; have hq5 : Below w4.heap.size w4 w5 := bel_step hb5 (by first | exact hq6.drew | exact hq6 | exact hbr.drew | exact hbr); obtain ⟨x0, x1, x2, x3, x4⟩ := AllT.out _ hq5)
      | (go_at_call 20; refine (refHash_any t HT.out _).mono ?_; rintro e' w6 ⟨rfl, hb6⟩; have hq6 : Below w4.heap.size w4 w6 := bel_step hb6 (by first | exact hq5.drew | exact hq5 | exact hbr.drew | exact hbr); obtain ⟨y0, y1, y2, y3, y4⟩ := AllT.out _ hq6))
    all_goals (go_wp2_with fail; go_meet; exact ⟨rfl, by repeat (first | exact hq5 | exact hq6 | apply Below.drew)⟩)
  case rest =>
    obtain ⟨rfl, hcb⟩ := hcut
    go_wp2_with fail
    go_ret
    exact ⟨rfl, h04.trans (hcb.mono h04.size)⟩
theorem folds_out (hF : FoldSpec 18) (hM : MulSpec 21) (v : Value) (hv : ∃ a b p q r : Value, v = .agg #[a, b, p, q, r]) (A : Option Addr) (n c : Nat) (h : 1000 < n) (w : World) :
    Calls Try.prog 6 #[.slice A n c, v] w fun e w' => e = .returned (.bool true) ∧ Below w.heap.size w w' := by
  have HL := hid (fun w => alive3 hF hM w)
  clear hF hM
  obtain ⟨a, b, p, q, r, rfl⟩ := hv
  have t1 : decide ((1000 : Int) < n) = true := by simp; omega
  go_enter Try.func6, Try.ntmps6
  go_wp2_with (go_at_call 16; (with_reducible refine (HL.out _).mono ?_); rintro e' w1 ⟨rfl, hb1⟩)
  go_ret
  exact ⟨rfl, (((Below.refl _ _).alloc (Nat.le_refl _) _).trans (hb1.mono (by simp)))⟩
theorem folds_any (hF : FoldSpec 18) (hM : MulSpec 21) (hH : HashSpec 19) (t : Tup) (hf : t.fits) (A : Option Addr) (n c : Nat) (bs : List UInt8) (w : World) (hr : RByt w w.heap.size A n bs) (hA : A = none → n = 0 ∧ c = 0) :
    Calls Try.prog 6 #[.slice A n c, .agg #[.int .u32 t.src, .int .u32 t.dst, .int .i64 t.pro, .int .i64 t.sp, .int .i64 t.dp]] w fun e w' => e = .returned (.bool true) ∧ Below w.heap.size w w' := by
  by_cases h : 1000 < n
  · exact folds_out hF hM _ ⟨_, _, _, _, _, rfl⟩ A n c h w
  · exact folds_in hF hM hH t hf A n c bs w hr hA (by omega)
end Go.Proofs.Ytmhedmjealggfaa
