/- waymarkref11.Dec, ShowPrefix. -/
import Derived.Test.YtcmkcloapenpnaaDoorPfB
import Derived.Test.YtcmkcloapenpnaaDoorWdT
namespace Go.Proofs.YtcmkcloapenpnaaDoor
open Go.RowKit
set_option maxHeartbeats 6400000
set_option maxRecDepth 100000
theorem dig_slice (n : Nat) (h : n ≤ 9) : (ByteArray.mk #[48, 49, 50, 51, 52, 53, 54, 55, 56, 57]).extract n (n + 1) = txt [digB n] := by
  rcases (show n = 0 ∨ n = 1 ∨ n = 2 ∨ n = 3 ∨ n = 4 ∨ n = 5 ∨ n = 6 ∨ n = 7 ∨ n = 8 ∨ n = 9 by omega) with rfl | rfl | rfl | rfl | rfl | rfl | rfl | rfl | rfl | rfl <;> decide
theorem run_dig (n : Nat) (h : n ≤ 9) (W : World) : (Instr.slice 9 (.string ⟨#[48, 49, 50, 51, 52, 53, 54, 55, 56, 57]⟩) (some (.int .i64 (n : Int))) (some (.int .i64 ((n : Int) + 1))) none).run Tryd.prog W = .ok (.string (txt [digB n])) W := by
  rw [run_slice_string W 9 _ .i64 .i64 _ _ Tryd.underlying9 (by omega) (by omega) (by show _ ≤ (10 : Int); omega)]
  rw [Int.toNat_natCast, show ((n : Int) + 1).toNat = n + 1 by omega, dig_slice n h]
theorem dig_mod (n : Nat) : digB (n % 10) = digB n := by unfold digB; rw [Nat.mod_mod]
theorem dec_any : ∀ (n : Nat), n < 9223372036854775808 → ∀ w : World, Calls Tryd.prog 31 #[.int .i64 (n : Int)] w fun e w' => e = .returned (.string (txt (decL n))) ∧ w = w' := by
  intro n
  induction n using dec_ind with
  | h0 n h9 =>
    intro hn w
    have HV := hid (decL_small h9)
    have HD := run_dig n h9
    have t0 : decide ((9 : Int) < (n : Int)) = false := decide_eq_false (by omega)
    have e0 : (n : Int).tmod 10 = (n : Int) := by rw [Int.tmod_eq_emod_of_nonneg (by omega)]; omega
    have e1 : IntKind.i64.wrap ((n : Int) + 1) = (n : Int) + 1 := by rw [IntKind.wrap_i64]; omega
    go_enter Tryd.func31, Tryd.ntmps31
    go_wp2_with fail
    go_ret
    exact ⟨by rw [HV.out]; rfl, rfl⟩
  | h1 n h9 ih =>
    intro hn w
    have hr : n % 10 ≤ 9 := by omega
    have HV := hid (decL_big h9)
    obtain ⟨q, hq⟩ : ∃ q, n / 10 = q := ⟨_, rfl⟩
    have HI := hid (ih (by omega))
    rw [hq] at HI HV
    have hlen := decL_len 18 q (by rw [← hq]; omega)
    have HD := run_dig (n % 10) hr
    rw [dig_mod] at HD
    have HC := run_cat (decL q) [digB n] (by simp; omega)
    obtain ⟨r, hr2⟩ : ∃ r, n % 10 = r := ⟨_, rfl⟩
    rw [hr2] at HD
    have t0 : decide ((9 : Int) < (n : Int)) = true := decide_eq_true (by omega)
    have e0 : (n : Int).tmod 10 = (r : Int) := by rw [Int.tmod_eq_emod_of_nonneg (by omega)]; omega
    have e2 : (n : Int).tdiv 10 = (q : Int) := by rw [Int.tdiv_eq_ediv_of_nonneg (by omega)]; omega
    have e1 : IntKind.i64.wrap ((r : Int) + 1) = (r : Int) + 1 := by rw [IntKind.wrap_i64]; omega
    have e3 : IntKind.i64.wrap (q : Int) = (q : Int) := by rw [IntKind.wrap_i64]; omega
    clear ih hq hr2 hlen
    go_enter Tryd.func31, Tryd.ntmps31
    go_wp2_with (go_at_call 31; (with_reducible refine (HI.out _).mono ?_); rintro _ _ ⟨rfl, rfl⟩)
    go_ret
    exact ⟨by rw [HV.out]; rfl, rfl⟩
theorem show_any (a : Nat) (n : Int) (w : World) (ha : a < 4294967296) :
    Calls Tryd.prog 13 #[.agg #[.int .u32 (a : Int), .int .i64 n]] w fun e w' => e = .returned (.string (txt (showS a n))) ∧ Below w.heap.size w w' := by
  obtain ⟨c, hc⟩ : ∃ c, cut32 n = c := ⟨_, rfl⟩
  have hc32 : c ≤ 32 := by rw [← hc]; exact cut32_le n
  have HC := hid (fun w' => cut32_any n w')
  rw [hc] at HC
  have HMk := hid (fun w' => mask_any a c w' ha hc32)
  have hx := maskS_lt (n := c) ha
  have HV : Hid (showS a n = decL (maskS a c / 16777216) ++ [46] ++ decL (maskS a c / 65536 % 256) ++ [46] ++ decL (maskS a c / 256 % 256) ++ [46] ++ decL (maskS a c % 256) ++ [47] ++ decL c) := by show _ = _; unfold showS; rw [hc]
  obtain ⟨x, hxx⟩ : ∃ x, maskS a c = x := ⟨_, rfl⟩
  rw [hxx] at HMk hx HV
  obtain ⟨n1, h1⟩ : ∃ n, x / 16777216 = n := ⟨_, rfl⟩
  obtain ⟨n2, h2⟩ : ∃ n, x / 65536 % 256 = n := ⟨_, rfl⟩
  obtain ⟨n3, h3⟩ : ∃ n, x / 256 % 256 = n := ⟨_, rfl⟩
  obtain ⟨n4, h4⟩ : ∃ n, x % 256 = n := ⟨_, rfl⟩
  rw [h1, h2, h3, h4] at HV
  have E1 : Hid ((x : Int) / 16777216 = (n1 : Int)) := by show _ = _; omega
  have E2 : Hid (bits .and .u32 ((x : Int) / 65536) 255 = (n2 : Int)) := by show _ = _; rw [u32_mask 8 (by omega) 255 (by decide) _ (by omega) (by omega)]; omega
  have E3 : Hid (bits .and .u32 ((x : Int) / 256) 255 = (n3 : Int)) := by show _ = _; rw [u32_mask 8 (by omega) 255 (by decide) _ (by omega) (by omega)]; omega
  have E4 : Hid (bits .and .u32 (x : Int) 255 = (n4 : Int)) := by show _ = _; rw [u32_mask 8 (by omega) 255 (by decide) _ (by omega) (by omega)]; omega
  have D1 := hid (dec_any n1 (by omega))
  have D2 := hid (dec_any n2 (by omega))
  have D3 := hid (dec_any n3 (by omega))
  have D4 := hid (dec_any n4 (by omega))
  have D5 := hid (dec_any c (by omega))
  have l1 := decL_len 2 n1 (by omega)
  have l2 := decL_len 2 n2 (by omega)
  have l3 := decL_len 2 n3 (by omega)
  have l4 := decL_len 2 n4 (by omega)
  have l5 := decL_len 2 c (by omega)
  have r1 := run_mark (decL n1) 46 (by omega)
  have b1 : (decL n1 ++ [46]).length ≤ 4 := by simp; omega
  obtain ⟨s1, hs1⟩ : ∃ s, decL n1 ++ [46] = s := ⟨_, rfl⟩
  rw [hs1] at r1 b1 HV
  have r2 := run_cat (s1) (decL n2) (by omega)
  have b2 : (s1 ++ decL n2).length ≤ 7 := by simp; omega
  obtain ⟨s2, hs2⟩ : ∃ s, s1 ++ decL n2 = s := ⟨_, rfl⟩
  rw [hs2] at r2 b2 HV
  have r3 := run_mark (s2) 46 (by omega)
  have b3 : (s2 ++ [46]).length ≤ 8 := by simp; omega
  obtain ⟨s3, hs3⟩ : ∃ s, s2 ++ [46] = s := ⟨_, rfl⟩
  rw [hs3] at r3 b3 HV
  have r4 := run_cat (s3) (decL n3) (by omega)
  have b4 : (s3 ++ decL n3).length ≤ 11 := by simp; omega
  obtain ⟨s4, hs4⟩ : ∃ s, s3 ++ decL n3 = s := ⟨_, rfl⟩
  rw [hs4] at r4 b4 HV
  have r5 := run_mark (s4) 46 (by omega)
  have b5 : (s4 ++ [46]).length ≤ 12 := by simp; omega
  obtain ⟨s5, hs5⟩ : ∃ s, s4 ++ [46] = s := ⟨_, rfl⟩
  rw [hs5] at r5 b5 HV
  have r6 := run_cat (s5) (decL n4) (by omega)
  have b6 : (s5 ++ decL n4).length ≤ 15 := by simp; omega
  obtain ⟨s6, hs6⟩ : ∃ s, s5 ++ decL n4 = s := ⟨_, rfl⟩
  rw [hs6] at r6 b6 HV
  have r7 := run_mark (s6) 47 (by omega)
  have b7 : (s6 ++ [47]).length ≤ 16 := by simp; omega
  obtain ⟨s7, hs7⟩ : ∃ s, s6 ++ [47] = s := ⟨_, rfl⟩
  rw [hs7] at r7 b7 HV
  have r8 := run_cat (s7) (decL c) (by omega)
  have b8 : (s7 ++ decL c).length ≤ 19 := by simp; omega
  obtain ⟨s8, hs8⟩ : ∃ s, s7 ++ decL c = s := ⟨_, rfl⟩
  rw [hs8] at r8 b8 HV
  have HB0 : Hid (Below w.heap.size w (w.alloc (.cells #[.int .u32 (a : Int), .int .i64 n] 24))) := Below.alloc (Below.refl _ _) (Nat.le_refl _) _
  have f1 : wrap64 (n1 : Int) = (n1 : Int) := IntWalk.wrap64_in _ (by omega)
  have f2 : wrap64 (n2 : Int) = (n2 : Int) := IntWalk.wrap64_in _ (by omega)
  have f3 : wrap64 (n3 : Int) = (n3 : Int) := IntWalk.wrap64_in _ (by omega)
  have f4 : wrap64 (n4 : Int) = (n4 : Int) := IntWalk.wrap64_in _ (by omega)
  have e1 := E1.out
  have e2 := E2.out
  have e3 := E3.out
  have e4 := E4.out
  clear hc hxx h1 h2 h3 h4 l1 l2 l3 l4 l5 hx b1 b2 b3 b4 b5 b6 b7 b8 hs1 hs2 hs3 hs4 hs5 hs6 hs7 hs8
  go_enter Tryd.func13, Tryd.ntmps13
  go_wp2_with (first
    | (go_at_call 30; (with_reducible refine (HC.out _).mono ?_); rintro _ _ ⟨rfl, rfl⟩)
    | (go_at_call 27; (with_reducible refine (HMk.out _).mono ?_); rintro _ _ ⟨rfl, rfl⟩)
    | (go_at_call 31; (first | with_reducible refine (D1.out _).mono ?_ | with_reducible refine (D2.out _).mono ?_ | with_reducible refine (D3.out _).mono ?_ | with_reducible refine (D4.out _).mono ?_ | with_reducible refine (D5.out _).mono ?_); rintro _ _ ⟨rfl, rfl⟩))
  go_ret
  exact ⟨by rw [HV.out]; rfl, HB0.out⟩
end Go.Proofs.YtcmkcloapenpnaaDoor
