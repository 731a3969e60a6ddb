/- PrefixBack. -/
import Derived.Test.YtcmkcloapenpnaaDoorPfF
namespace Go.Proofs.YtcmkcloapenpnaaDoor
open Go.RowKit
set_option maxHeartbeats 12800000
set_option maxRecDepth 100000
theorem mask_div (a n : Nat) : maskS a n / 2 ^ (32 - n) = a / 2 ^ (32 - n) := by
  unfold maskS
  rw [Nat.mul_div_cancel _ (Nat.two_pow_pos _)]
theorem mask_high {a n j : Nat} (h : 32 - n ≤ j) : maskS a n / 2 ^ j = a / 2 ^ j := by
  obtain ⟨d, rfl⟩ : ∃ d, j = 32 - n + d := ⟨j - (32 - n), by omega⟩
  rw [Nat.pow_add, ← Nat.div_div_eq_div_mul, ← Nat.div_div_eq_div_mul, mask_div]
theorem mask_low {a n j : Nat} (h : j < 32 - n) : maskS a n / 2 ^ j % 2 = 0 := by
  obtain ⟨d, hd⟩ : ∃ d, 32 - n = j + (d + 1) := ⟨32 - n - j - 1, by omega⟩
  unfold maskS
  rw [hd]
  generalize a / 2 ^ (j + (d + 1)) = q
  rw [Nat.pow_add, ← Nat.mul_assoc, Nat.mul_right_comm, Nat.mul_div_cancel _ (Nat.two_pow_pos _), Nat.pow_succ, ← Nat.mul_assoc, Nat.mul_mod_left]
theorem flip_low {a j k : Nat} (h : j < k) : (a ^^^ 2 ^ j) / 2 ^ k = a / 2 ^ k := by
  rw [← Nat.shiftRight_eq_div_pow, ← Nat.shiftRight_eq_div_pow, Nat.shiftRight_xor_distrib]
  have : 2 ^ j >>> k = 0 := by rw [Nat.shiftRight_eq_div_pow, Nat.div_eq_of_lt (Nat.pow_lt_pow_right (by decide) h)]
  rw [this, Nat.xor_zero]
theorem flip_high {a j k : Nat} (h : k ≤ j) : (a ^^^ 2 ^ j) / 2 ^ k ≠ a / 2 ^ k := by
  rw [← Nat.shiftRight_eq_div_pow, ← Nat.shiftRight_eq_div_pow, Nat.shiftRight_xor_distrib]
  obtain ⟨d, rfl⟩ : ∃ d, j = k + d := ⟨j - k, by omega⟩
  have h1 : 2 ^ (k + d) >>> k = 2 ^ d := by rw [Nat.shiftRight_eq_div_pow, Nat.pow_add, Nat.mul_div_cancel_left _ (Nat.two_pow_pos _)]
  rw [h1]
  intro h2
  have h3 := congrArg (fun x => Nat.testBit x d) h2
  simp only [Nat.testBit_xor, Nat.testBit_two_pow_self] at h3
  cases hx : (a >>> k).testBit d <;> simp [hx] at h3
theorem flip_lt {a j : Nat} (ha : a < 4294967296) (hj : j < 32) : a ^^^ 2 ^ j < 4294967296 := by
  have h1 : 2 ^ j < 2 ^ 32 := Nat.pow_lt_pow_right (by decide) hj
  have := Nat.xor_lt_two_pow (x := a) (y := 2 ^ j) (n := 32) (by omega) h1
  omega
theorem in_flip {a n j : Nat} (hn : n ≤ 32) : inS (maskS a n) (n : Int) (a ^^^ 2 ^ j) = decide (j < 32 - n) := by
  unfold inS
  rw [cut32_of hn, mask_div]
  by_cases h : j < 32 - n
  · rw [flip_low h, decide_eq_true h]; simp
  · rw [decide_eq_false h, beq_eq_false_iff_ne]
    exact fun hh => flip_high (show 32 - n ≤ j by omega) hh.symm
theorem in_self {a n : Nat} (hn : n ≤ 32) : inS (maskS a n) (n : Int) a = true := by
  unfold inS
  rw [cut32_of hn, mask_div]; simp
theorem showS_len {a : Nat} (n : Int) (ha : a < 4294967296) : (showS a n).length ≤ 19 := by
  have hm := maskS_lt (n := cut32 n) ha
  have hc := cut32_le n
  unfold showS
  have l1 := decL_len 2 (maskS a (cut32 n) / 16777216) (by omega)
  have l2 := decL_len 2 (maskS a (cut32 n) / 65536 % 256) (by omega)
  have l3 := decL_len 2 (maskS a (cut32 n) / 256 % 256) (by omega)
  have l4 := decL_len 2 (maskS a (cut32 n) % 256) (by omega)
  have l5 := decL_len 1 (cut32 n) (by omega)
  simp only [List.length_append, List.length_singleton]
  omega
theorem pow_wrap {j : Nat} (hj : j < 32) : IntKind.u32.wrap (2 ^ j) = ((2 ^ j : Nat) : Int) := by
  have h1 : 2 ^ j < 2 ^ 32 := Nat.pow_lt_pow_right (by decide) hj
  rw [show ((2 : Int) ^ j) = ((2 ^ j : Nat) : Int) from by push_cast; rfl, IntKind.wrap_u32]
  generalize 2 ^ j = p at h1 ⊢
  omega
theorem back_not {L : World → Prop} (h : PrefSpec L 10 12 14 16) (a : Nat) (n : Int) (w : World) (hL : L w) (hn : ¬(0 ≤ n ∧ n ≤ 32)) :
    Calls Tryd.prog 4 #[.int .u32 (a : Int), .int .i64 n] w fun e w' => e = .returned (.bool true) ∧ Below w.heap.size w w' := by
  have HA := hid (alive_any h w hL)
  clear h
  by_cases c1 : n < 0
  · have t1 : decide (n < 0) = true := decide_eq_true c1
    clear c1 hn
    go_enter Tryd.func4, Tryd.ntmps4
    go_wp2_with (go_at_call 9; (with_reducible refine HA.out.mono ?_); rintro e' w1 ⟨rfl, hb1⟩)
    go_ret
    exact ⟨rfl, hb1⟩
  · have t1 : decide (n < 0) = false := decide_eq_false c1
    have t2 : decide ((32 : Int) < n) = true := decide_eq_true (by omega)
    clear c1 hn
    go_enter Tryd.func4, Tryd.ntmps4
    go_wp2_with (go_at_call 9; (with_reducible refine HA.out.mono ?_); rintro e' w1 ⟨rfl, hb1⟩)
    go_ret
    exact ⟨rfl, hb1⟩
theorem back_in {L : World → Prop} (h : PrefSpec L 10 12 14 16) (a n : Nat) (w : World) (hL : L w) (ha : a < 4294967296) (hn : n ≤ 32) :
    Calls Tryd.prog 4 #[.int .u32 (a : Int), .int .i64 (n : Int)] w fun e w' => e = .returned (.bool true) ∧ Below w.heap.size w w' := by
  have HK := hid (fun W hb => h.on w W hL hb)
  have HA := hid (alive_any h w hL)
  have t1 : decide ((n : Int) < 0) = false := decide_eq_false (by omega)
  have t2 : decide ((32 : Int) < (n : Int)) = false := decide_eq_false (by omega)
  have hM := maskS_lt (n := n) ha
  have hlen := showS_len (n : Int) ha
  have HS := hid (fun W hW => h.shows a (n : Int) W hW ha (by omega))
  have HR := hid (fun W hW => h.read (showS a (n : Int)) W hW (by omega))
  simp only [read_show ha hn, readV] at HR
  have HI := hid (fun (b : Nat) (hb : b < 4294967296) W => h.ins (maskS a n) (n : Int) b W hM hb (by omega))
  have HI0 : Hid (∀ W : World, Calls Tryd.prog 14 #[.agg #[.int .u32 (maskS a n : Int), .int .i64 (n : Int)], .int .u32 (a : Int)] W fun e w' => e = .returned (.bool true) ∧ Below W.heap.size W w') := fun W => by
    have := HI.out a ha W
    rw [in_self hn] at this
    exact this
  have HI1 : Hid (∀ (j : Nat), j < 32 → ∀ W : World, Calls Tryd.prog 14 #[.agg #[.int .u32 (maskS a n : Int), .int .i64 (n : Int)], .int .u32 ((a ^^^ 2 ^ j : Nat) : Int)] W fun e w' => e = .returned (.bool (decide (j < 32 - n))) ∧ Below W.heap.size W w') := fun j hj W => by
    have := HI.out (a ^^^ 2 ^ j) (flip_lt ha hj) W
    rw [in_flip hn] at this
    exact this
  have HB1 := hid (fun j => bit_of a j ha)
  have HB2 := hid (fun j => bit_of (maskS a n) j hM)
  have HH := hid (fun j (hj : 32 - n ≤ j) => mask_high (a := a) hj)
  have HL := hid (fun j (hj : j < 32 - n) => mask_low (a := a) hj)
  obtain ⟨M, hMM⟩ : ∃ M, maskS a n = M := ⟨_, rfl⟩
  obtain ⟨S, hSS⟩ : ∃ S, showS a (n : Int) = S := ⟨_, rfl⟩
  simp only [hMM, hSS] at HS HR HI0 HI1 HB2 HH HL
  clear HI hMM hSS hlen hM h
  go_enter Tryd.func4, Tryd.ntmps4
  go_wp2_with (first
    | (go_at_call 9; (with_reducible refine HA.out.mono ?_); rintro e' w1 ⟨rfl, hb1⟩)
    | (go_at_call 12; (with_reducible refine (HS.out _ (HK.out _ hb1)).mono ?_); rintro e' w2 ⟨rfl, hb2⟩)
    | (go_at_call 10; (with_reducible refine (HR.out _ (HK.out _ (hb1.trans (hb2.mono hb1.size)))).mono ?_); rintro e' w3 ⟨rfl, hb3⟩)
    | (go_at_call 14; (with_reducible refine (HI0.out _).mono ?_); rintro e' w4 ⟨rfl, hb4⟩; have hx4 := box_below (heap_alloc_new w3 (.cells #[.int .u32 (M : Int), .int .i64 (n : Int)] 24)) hb4 (by simp)))
  have hb13 : Below w.heap.size w w3 := hb1.trans ((hb2.trans (hb3.mono hb2.size)).mono hb1.size)
  have hb14 : Hid (Below w.heap.size w w4) := (hb13.trans (((Below.refl w3.heap.size w3).alloc (Nat.le_refl _) (.cells #[.int .u32 (M : Int), .int .i64 (n : Int)] 24)).mono hb13.size)).trans (hb4.mono (by have := hb13.size; simp; omega))
  have HX4 := hid hx4
  obtain ⟨B, hB⟩ : ∃ B, w3.heap.size = B := ⟨_, rfl⟩
  rw [hB] at HX4
  simp only [hB]
  clear hB hx4 hb13 hb4 hb3 hb2 hb1
  go_loopw [8] (fun i wr => ∃ k : Nat, k ≤ 32 ∧ i = .int .i64 k ∧ Hid (wr.heap[B]? = some (.cells #[.int .u32 (M : Int), .int .i64 (n : Int)] 24 (0, 0))) ∧ Hid (Below w.heap.size w wr)) (fun i _ => 32 - (intOf i).toNat)
  case atStart => exact ⟨0, Nat.zero_le _, rfl, HX4, hb14⟩
  case round =>
    obtain ⟨k, hk, rfl, HX, HB⟩ := hrel
    obtain ⟨x0, x1, _⟩ := box_cells HX.out
    have hBl : B < wr.heap.size := (Array.getElem?_eq_some_iff.1 HX.out).1
    by_cases hlt : k < 32
    · have d1 : decide ((k : Int) < 32) = true := decide_eq_true (by omega)
      obtain ⟨j, hj⟩ : ∃ j, 31 - k = j := ⟨_, rfl⟩
      have e1 : IntKind.i64.wrap (31 - (k : Int)) = (j : Int) := by rw [IntKind.wrap_i64]; omega
      have e2 : IntKind.u64.wrap (j : Int) = (j : Int) := by rw [IntKind.wrap_u64]; omega
      have e3 : min j 32 = j := by omega
      have q1 := HB1.out j
      have q2 := HB2.out j
      have hp : 2 ^ j < 4294967296 := by have : 2 ^ j < 2 ^ 32 := Nat.pow_lt_pow_right (by decide) (by omega); omega
      have HIj := hid (HI1.out j (by omega))
      have ex : bits .xor .u32 (a : Int) ((2 : Int) ^ j) = ((a ^^^ 2 ^ j : Nat) : Int) := by
        rw [show ((2 : Int) ^ j) = ((2 ^ j : Nat) : Int) from by push_cast; rfl]; exact u32_xor_nat a (2 ^ j) ha hp
      have epw := pow_wrap (j := j) (by omega)
      by_cases hin : n ≤ k
      · have d2 : decide ((n : Int) ≤ (k : Int)) = true := decide_eq_true (by omega)
        have z1 := HL.out j (by omega)
        rw [z1] at q2
        rw [decide_eq_true (show j < 32 - n by omega)] at HIj
        clear hp hj
        go_wp2_with (go_at_call 14; (with_reducible refine (HIj.out _).mono ?_); rintro e' w5 ⟨rfl, hb5⟩)
        have hb6 := HB.out.trans (hb5.mono HB.out.size)
        have hx6 := box_below HX.out hb5 hBl
        clear e1
        go_roundw
        case rel => exact ⟨k + 1, by omega, by go_num, hx6, hb6⟩
        case measure => simp [intOf]; omega
      · have d2 : decide ((n : Int) ≤ (k : Int)) = false := decide_eq_false (by omega)
        have z1 := HH.out j (by omega)
        rw [z1] at q2
        rw [decide_eq_false (show ¬j < 32 - n by omega)] at HIj
        clear hp hj
        go_wp2_with (go_at_call 14; (with_reducible refine (HIj.out _).mono ?_); rintro e' w5 ⟨rfl, hb5⟩)
        have hb6 := HB.out.trans (hb5.mono HB.out.size)
        have hx6 := box_below HX.out hb5 hBl
        clear e1
        go_roundw
        case rel => exact ⟨k + 1, by omega, by go_num, hx6, hb6⟩
        case measure => simp [intOf]; omega
    · obtain rfl : k = 32 := by omega
      go_wp2_with fail
      go_ret
      exact ⟨rfl, HB.out⟩
theorem back_any {L : World → Prop} (h : PrefSpec L 10 12 14 16) (a : Nat) (n : Int) (w : World) (hL : L w) (ha : a < 4294967296) :
    Calls Tryd.prog 4 #[.int .u32 (a : Int), .int .i64 n] w fun e w' => e = .returned (.bool true) ∧ Below w.heap.size w w' := by
  by_cases hn : 0 ≤ n ∧ n ≤ 32
  · obtain ⟨N, rfl⟩ := Int.eq_ofNat_of_zero_le hn.1
    exact back_in h a N w hL ha (by omega)
  · exact back_not h a n w hL hn
end Go.Proofs.YtcmkcloapenpnaaDoor
