/- Cut out of PfB. -/
import Derived.Test.YtcmkcloapenpnaaGreatDoorPfA
import Derived.Test.YtcmkcloapenpnaaGreatDoorWdT
import Derived.Laws.Shifts
namespace Go.Proofs.YtcmkcloapenpnaaGreatDoor
open Go.RowKit
set_option maxHeartbeats 12800000
set_option maxRecDepth 100000
theorem cut32_any (n : Int) (w : World) : Calls Tryz.prog 51 #[.int .i64 n, .int .i64 0, .int .i64 32] w fun e w' => e = .returned (.int .i64 (cut32 n : Int)) ∧ w = w' := by
  by_cases h1 : n < 0
  · have t1 : decide (n < 0) = true := decide_eq_true h1
    have HV : Hid ((cut32 n : Int) = 0) := by show _ = _; unfold cut32; omega
    clear h1
    go_enter Tryz.func51, Tryz.ntmps51
    go_wp2_with fail
    go_ret
    exact ⟨by rw [HV.out]; rfl, rfl⟩
  · have t1 : decide (n < 0) = false := decide_eq_false h1
    by_cases h2 : 32 < n
    · have t2 : decide ((32 : Int) < n) = true := decide_eq_true h2
      have HV : Hid ((cut32 n : Int) = 32) := by show _ = _; unfold cut32; omega
      clear h1 h2
      go_enter Tryz.func51, Tryz.ntmps51
      go_wp2_with fail
      go_ret
      exact ⟨by rw [HV.out]; rfl, rfl⟩
    · have t2 : decide ((32 : Int) < n) = false := decide_eq_false h2
      have HV : Hid ((cut32 n : Int) = n) := by show _ = _; unfold cut32; omega
      clear h1 h2
      go_enter Tryz.func51, Tryz.ntmps51
      go_wp2_with fail
      go_ret
      exact ⟨by rw [HV.out]; rfl, rfl⟩
theorem bit_of (a j : Nat) (ha : a < 4294967296) : bits .and .u32 ((a : Int) / 2 ^ j) 1 = ((a / 2 ^ j % 2 : Nat) : Int) := by
  rw [show ((a : Int) / 2 ^ j) = ((a / 2 ^ j : Nat) : Int) from by push_cast; rfl]
  have h1 : a / 2 ^ j < 4294967296 := Nat.lt_of_le_of_lt (Nat.div_le_self _ _) ha
  have h2 := u32_and_nat (a / 2 ^ j) 1 h1 (by decide)
  rw [show ((1 : Nat) : Int) = 1 from rfl] at h2
  rw [h2, Nat.and_one_is_mod]
theorem shift_back (a k : Nat) (h : a < 4294967296) : (a : Int) / 2 ^ k * 2 ^ k % 4294967296 = ((a / 2 ^ k * 2 ^ k : Nat) : Int) := by
  have h1 : a / 2 ^ k * 2 ^ k < 4294967296 := Nat.lt_of_le_of_lt (Nat.div_mul_le_self _ _) h
  rw [show ((a : Int) / 2 ^ k * 2 ^ k) = ((a / 2 ^ k * 2 ^ k : Nat) : Int) from by push_cast; rfl]
  generalize a / 2 ^ k * 2 ^ k = x at h1 ⊢
  omega
theorem mask_any (a n : Nat) (w : World) (ha : a < 4294967296) (hn : n ≤ 32) : Calls Tryz.prog 52 #[.int .u32 (a : Int), .int .i64 (n : Int)] w fun e w' => e = .returned (.int .u32 (maskS a n : Int)) ∧ w = w' := by
  by_cases h0 : n = 0
  · subst h0
    have HV := hid (maskS_zero ha)
    go_enter Tryz.func52, Tryz.ntmps52
    go_wp2_with fail
    go_ret
    exact ⟨by rw [HV.out]; rfl, rfl⟩
  · have t0 : decide (n = 0) = false := decide_eq_false h0
    obtain ⟨k, hk⟩ : ∃ k, 32 - n = k := ⟨_, rfl⟩
    have e1 : IntKind.i64.wrap (32 - (n : Int)) = (k : Int) := by rw [IntKind.wrap_i64]; omega
    have e2 : IntKind.u64.wrap (k : Int) = (k : Int) := by rw [IntKind.wrap_u64]; omega
    have e3 : min k 32 = k := by omega
    have HV : Hid (maskS a n = a / 2 ^ k * 2 ^ k) := by show _ = _; unfold maskS; rw [hk]
    have HW := hid (shift_back a k ha)
    clear hk h0
    go_enter Tryz.func52, Tryz.ntmps52
    go_wp2_with fail
    go_ret
    exact ⟨by rw [HV.out, ← HW.out]; rfl, rfl⟩
/-- Does a match take a flow? -/
structure Mat where
  sa : Nat
  sl : Int
  da : Nat
  dl : Int
  pr : Int
  sp : Int
  dp : Int
structure Flw where
  s : Nat
  d : Nat
  p : Int
  sp : Int
  dp : Int
def anyB (m t : Int) : Bool := m == 0 || m == t
def matchS (m : Mat) (t : Flw) : Bool := inS m.sa m.sl t.s && inS m.da m.dl t.d && anyB m.pr t.p && anyB m.sp t.sp && anyB m.dp t.dp
end Go.Proofs.YtcmkcloapenpnaaGreatDoor
