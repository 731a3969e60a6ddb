/- Three ways to sum: how many, the fewest, the most. -/
import Derived.Test.YtcjilpgblbnebaaDkA
namespace Go.Proofs.Ytcjilpgblbnebaa
open Go.RowKit
set_option maxHeartbeats 3200000
set_option maxRecDepth 100000
def natR : SR Nat := ⟨(· + ·), (· * ·), 0, 1, Nat.add_comm, Nat.add_assoc, Nat.zero_add, Nat.mul_assoc, Nat.mul_add, Nat.add_mul, Nat.zero_mul, Nat.mul_zero, Nat.one_mul, Nat.mul_one⟩
def minO : Option Nat → Option Nat → Option Nat
  | none, b => b
  | some a, none => some a
  | some a, some b => some (min a b)
def maxO : Option Nat → Option Nat → Option Nat
  | none, b => b
  | some a, none => some a
  | some a, some b => some (max a b)
def addO : Option Nat → Option Nat → Option Nat
  | some a, some b => some (a + b)
  | _, _ => none
def minR : SR (Option Nat) := by
  refine ⟨minO, addO, none, some 0, ?_, ?_, ?_, ?_, ?_, ?_, ?_, ?_, ?_, ?_⟩ <;> intro a <;> (try intro b) <;> (try intro c) <;> cases a <;> (try cases b) <;> (try cases c) <;> simp [minO, addO] <;> omega
def maxR : SR (Option Nat) := by
  refine ⟨maxO, addO, none, some 0, ?_, ?_, ?_, ?_, ?_, ?_, ?_, ?_, ?_, ?_⟩ <;> intro a <;> (try intro b) <;> (try intro c) <;> cases a <;> (try cases b) <;> (try cases c) <;> simp [maxO, addO] <;> omega
end Go.Proofs.Ytcjilpgblbnebaa
