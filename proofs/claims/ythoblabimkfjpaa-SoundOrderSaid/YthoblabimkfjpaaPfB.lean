/- Cut out of PfB. -/
import Derived.Test.YthoblabimkfjpaaPfA
import Derived.Laws.Shifts
namespace Go.Proofs.Ythoblabimkfjpaa
open Go.RowKit
set_option maxHeartbeats 12800000
set_option maxRecDepth 100000
theorem bit_of (a j : Nat) (ha : a < 4294967296) : bits .and .u32 ((a : Int) / 2 ^ j) 1 = ((a / 2 ^ j % 2 : Nat) : Int) := by
  rw [show ((a : Int) / 2 ^ j) = ((a / 2 ^ j : Nat) : Int) from by push_cast; rfl]
  have h1 : a / 2 ^ j < 4294967296 := Nat.lt_of_le_of_lt (Nat.div_le_self _ _) ha
  have h2 := u32_and_nat (a / 2 ^ j) 1 h1 (by decide)
  rw [show ((1 : Nat) : Int) = 1 from rfl] at h2
  rw [h2, Nat.and_one_is_mod]
theorem shift_back (a k : Nat) (h : a < 4294967296) : (a : Int) / 2 ^ k * 2 ^ k % 4294967296 = ((a / 2 ^ k * 2 ^ k : Nat) : Int) := by
  have h1 : a / 2 ^ k * 2 ^ k < 4294967296 := Nat.lt_of_le_of_lt (Nat.div_mul_le_self _ _) h
  rw [show ((a : Int) / 2 ^ k * 2 ^ k) = ((a / 2 ^ k * 2 ^ k : Nat) : Int) from by push_cast; rfl]
  generalize a / 2 ^ k * 2 ^ k = x at h1 ⊢
  omega
/-- Does a match take a flow? -/
structure Mat where
  sa : Nat
  sl : Int
  da : Nat
  dl : Int
  pr : Int
  sp : Int
  dp : Int
structure Flw where
  s : Nat
  d : Nat
  p : Int
  sp : Int
  dp : Int
def anyB (m t : Int) : Bool := m == 0 || m == t
def matchS (m : Mat) (t : Flw) : Bool := inS m.sa m.sl t.s && inS m.da m.dl t.d && anyB m.pr t.p && anyB m.sp t.sp && anyB m.dp t.dp
end Go.Proofs.Ythoblabimkfjpaa
