import Derived.Test.YtmhedmjealggfaaPkC
namespace Go.Proofs.Ytmhedmjealggfaa
open Go.RowKit
set_option maxHeartbeats 1600000
set_option maxRecDepth 100000
theorem within_any (n m : Int) (w : World) : Calls Try.prog 22 #[.int .i64 n, .int .i64 m] w fun e w' => e = .returned (.bool (decide (0 ≤ n) && decide (n ≤ m))) ∧ w' = w := by
  by_cases h : 0 ≤ n
  · have h1 : decide (0 ≤ n) = true := by simpa using h
    go_enter Try.func22, Try.ntmps22
    go_wp2_with fail
    go_ret
    exact ⟨by simp [h], rfl⟩
  · have h1 : decide (0 ≤ n) = false := by simpa using h
    clear h
    go_enter Try.func22, Try.ntmps22
    go_wp2_with fail
    go_ret
    exact ⟨by simp [h1], rfl⟩
theorem within_yes (n m : Int) (w : World) (h : 0 ≤ n) (h' : n ≤ m) : Calls Try.prog 22 #[.int .i64 n, .int .i64 m] w fun e w' => e = .returned (.bool true) ∧ w = w' :=
  (within_any n m w).mono fun _ _ ⟨h1, h2⟩ => ⟨by rw [h1]; simp [h, h'], h2.symm⟩
theorem within_no (n m : Int) (w : World) (h : ¬(0 ≤ n ∧ n ≤ m)) : Calls Try.prog 22 #[.int .i64 n, .int .i64 m] w fun e w' => e = .returned (.bool false) ∧ w = w' :=
  (within_any n m w).mono fun _ _ ⟨h1, h2⟩ => ⟨by rw [h1]; congr 2; rw [← Bool.decide_and]; exact decide_eq_false h, h2.symm⟩
theorem write1 (g off c : Nat) (x : Int) (w : World) (_ : 0 ≤ x) (_ : x < 4294967296) (c0 : w.cell? ⟨g, off, none⟩ = some (.int .u8 0)) (f0 : w.frozen? ⟨g, off, none⟩ = false) :
    Calls Try.prog 23 #[.slice (some ⟨g, off, none⟩) 1 c, .int .u32 x] w fun e w' => e = .returned (.tuple #[]) ∧ w' = (w.setCell ⟨g, off, none⟩ (.int .u8 (x % 256))) := by
  go_enter Try.func23, Try.ntmps23
  go_wp2_with fail
  refine wp_loop_rounds 2 ?_
  rw [rounds_succ]
  go_wp2_with fail
  rw [rounds_succ]
  go_wp2_with fail
  go_end0
  exact ⟨rfl, by simp⟩
theorem write2 (g off c : Nat) (x : Int) (w : World) (_ : 0 ≤ x) (_ : x < 4294967296) (c0 : w.cell? ⟨g, off, none⟩ = some (.int .u8 0)) (f0 : w.frozen? ⟨g, off, none⟩ = false)
    (c1 : w.cell? ⟨g, off + 1, none⟩ = some (.int .u8 0)) (f1 : w.frozen? ⟨g, off + 1, none⟩ = false) :
    Calls Try.prog 23 #[.slice (some ⟨g, off, none⟩) 2 c, .int .u32 x] w fun e w' => e = .returned (.tuple #[]) ∧ w' = ((w.setCell ⟨g, off + 1, none⟩ (.int .u8 (x % 256))).setCell ⟨g, off, none⟩ (.int .u8 (x / 256 % 256))) := by
  go_enter Try.func23, Try.ntmps23
  go_wp2_with fail
  refine wp_loop_rounds 3 ?_
  rw [rounds_succ]
  go_wp2_with fail
  rw [rounds_succ]
  go_wp2_with fail
  rw [rounds_succ]
  go_wp2_with fail
  go_end0
  exact ⟨rfl, by simp⟩
theorem write4 (g off c : Nat) (x : Int) (w : World) (_ : 0 ≤ x) (_ : x < 4294967296) (c0 : w.cell? ⟨g, off, none⟩ = some (.int .u8 0)) (f0 : w.frozen? ⟨g, off, none⟩ = false)
    (c1 : w.cell? ⟨g, off + 1, none⟩ = some (.int .u8 0)) (f1 : w.frozen? ⟨g, off + 1, none⟩ = false) (c2 : w.cell? ⟨g, off + 2, none⟩ = some (.int .u8 0)) (f2 : w.frozen? ⟨g, off + 2, none⟩ = false)
    (c3 : w.cell? ⟨g, off + 3, none⟩ = some (.int .u8 0)) (f3 : w.frozen? ⟨g, off + 3, none⟩ = false) :
    Calls Try.prog 23 #[.slice (some ⟨g, off, none⟩) 4 c, .int .u32 x] w fun e w' => e = .returned (.tuple #[]) ∧ w' =
      ((((w.setCell ⟨g, off + 3, none⟩ (.int .u8 (x % 256))).setCell ⟨g, off + 2, none⟩ (.int .u8 (x / 256 % 256))).setCell ⟨g, off + 1, none⟩ (.int .u8 (x / 256 / 256 % 256))).setCell ⟨g, off, none⟩ (.int .u8 (x / 256 / 256 / 256))) := by
  go_enter Try.func23, Try.ntmps23
  go_wp2_with fail
  refine wp_loop_rounds 5 ?_
  rw [rounds_succ]
  go_wp2_with fail
  rw [rounds_succ]
  go_wp2_with fail
  rw [rounds_succ]
  go_wp2_with fail
  rw [rounds_succ]
  go_wp2_with fail
  rw [rounds_succ]
  go_wp2_with fail
  go_end0
  exact ⟨rfl, rfl⟩
theorem number1 (g off c : Nat) (x : UInt8) (w : World) (c0 : w.cell? ⟨g, off, none⟩ = some (.int .u8 (x.toNat : Int))) :
    Calls Try.prog 24 #[.slice (some ⟨g, off, none⟩) 1 c] w fun e w' => e = .returned (.int .u32 (x.toNat : Int)) ∧ w' = w := by
  have y0 : x.toNat < 256 := UInt8.toNat_lt x
  obtain ⟨z0, _, _, _⟩ := or_steps x x x x
  go_enter Try.func24, Try.ntmps24
  go_wp2_with fail
  refine wp_loop_rounds 2 ?_
  rw [rounds_succ]
  go_wp2_with fail
  rw [rounds_succ]
  go_wp2_with fail
  go_ret
  exact ⟨rfl, rfl⟩
theorem or_two32 (a b : UInt8) : bits .or .u32 ((a.toNat : Int) * 256) (b.toNat : Int) = be2 a b := by
  have := UInt8.toNat_lt a; have := UInt8.toNat_lt b
  rw [shl8_or _ _ (by omega) (by omega) (by omega) (by omega)]; rfl
theorem number2 (g off c : Nat) (x y : UInt8) (w : World) (c0 : w.cell? ⟨g, off, none⟩ = some (.int .u8 (x.toNat : Int))) (c1 : w.cell? ⟨g, off + 1, none⟩ = some (.int .u8 (y.toNat : Int))) :
    Calls Try.prog 24 #[.slice (some ⟨g, off, none⟩) 2 c] w fun e w' => e = .returned (.int .u32 (be2 x y)) ∧ w' = w := by
  have y0 : x.toNat < 256 := UInt8.toNat_lt x
  have y1 : y.toNat < 256 := UInt8.toNat_lt y
  obtain ⟨z0, _, _, _⟩ := or_steps x x x x
  have z1 := or_two32 x y
  go_enter Try.func24, Try.ntmps24
  go_wp2_with fail
  refine wp_loop_rounds 3 ?_
  rw [rounds_succ]
  go_wp2_with fail
  rw [rounds_succ]
  go_wp2_with fail
  rw [rounds_succ]
  go_wp2_with fail
  go_ret
  exact ⟨rfl, rfl⟩
theorem number4 (g off c : Nat) (x0 x1 x2 x3 : UInt8) (w : World) (c0 : w.cell? ⟨g, off, none⟩ = some (.int .u8 (x0.toNat : Int))) (c1 : w.cell? ⟨g, off + 1, none⟩ = some (.int .u8 (x1.toNat : Int)))
    (c2 : w.cell? ⟨g, off + 2, none⟩ = some (.int .u8 (x2.toNat : Int))) (c3 : w.cell? ⟨g, off + 3, none⟩ = some (.int .u8 (x3.toNat : Int))) :
    Calls Try.prog 24 #[.slice (some ⟨g, off, none⟩) 4 c] w fun e w' => e = .returned (.int .u32 (be4 x0 x1 x2 x3)) ∧ w' = w := by
  have y0 : x0.toNat < 256 := UInt8.toNat_lt x0
  have y1 : x1.toNat < 256 := UInt8.toNat_lt x1
  have y2 : x2.toNat < 256 := UInt8.toNat_lt x2
  have y3 : x3.toNat < 256 := UInt8.toNat_lt x3
  obtain ⟨z0, z1, z2, z3⟩ := or_steps x0 x1 x2 x3
  go_enter Try.func24, Try.ntmps24
  go_wp2_with fail
  refine wp_loop_rounds 5 ?_
  rw [rounds_succ]
  go_wp2_with fail
  rw [rounds_succ]
  go_wp2_with fail
  rw [rounds_succ]
  go_wp2_with fail
  rw [rounds_succ]
  go_wp2_with fail
  rw [rounds_succ]
  go_wp2_with fail
  go_ret
  exact ⟨rfl, rfl⟩
end Go.Proofs.Ytmhedmjealggfaa
