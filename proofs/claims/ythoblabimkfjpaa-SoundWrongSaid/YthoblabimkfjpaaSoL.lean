/- SoundWrong, plainly: five rules, one of them wrong. -/
import Derived.Test.YthoblabimkfjpaaSoJ
namespace Go.Proofs.Ythoblabimkfjpaa
open Go.RowKit
set_option maxHeartbeats 6400000
set_option maxRecDepth 100000
def rl5 (c : UInt8) : Rul := { noRul with name := [c], x := { noWnt with too := 1 } }
def nm5 : List UInt8 := [97, 98, 99, 100, 101]
def b5 : List (Rul × WSl) := nm5.map fun c => (rl5 c, slN)
def chg (k : Nat) (r : Rul) : Rul :=
  match k with
  | 0 => { r with name := [65] }
  | 1 => { r with name := [] }
  | 2 => { r with x := { r.x with too := 3 } }
  | 3 => { r with x := { r.x with via := [-1] } }
  | 4 => { r with x := { r.x with lks := [1] } }
  | 5 => { r with x := { r.x with cls := [63] } }
  | 6 => { r with pri := -1 }
  | 7 => { r with m := { r.m with pr := 256 } }
  | 8 => { r with m := { r.m with sl := 33 } }
  | _ => { r with x := { r.x with via := [0, 0, 0, 0, 0] } }
def er14 : List Int := [3, 3, 4, 4, 5, 1, 1, 1, 1, 6]
theorem wr_all : ∀ k, k < 10 → ∀ j, j < 5 → checkRS 3 [⟨0, 1, 1, 0⟩] ((b5.map (·.1)).set j (chg k (rl5 (nm5.getD j 0)))) = ((j : Int), er14.getD k 0) := by decide +kernel
theorem rrow_set {qs : List (Rul × WSl)} {j f : Nat} {u : Value} {q q' : Rul × WSl} (hq : qs[j]? = some q) (hf : f < 17) (h : (rarr q.1 q.2).toList.set f u = (rarr q'.1 q'.2).toList) : (rrow qs).set (j * 17 + f) u = rrow (qs.set j q') := by
  induction qs generalizing j with
  | nil => simp at hq
  | cons p qs ih =>
    have e : ∀ (p : Rul × WSl) (l : List (Rul × WSl)), rrow (p :: l) = (rarr p.1 p.2).toList ++ rrow l := fun p l => by unfold rrow; rw [List.flatMap_cons]
    have hl : (rarr p.1 p.2).toList.length = 17 := rfl
    cases j with
    | zero =>
      simp only [List.getElem?_cons_zero, Option.some.injEq] at hq
      subst hq
      rw [List.set_cons_zero, e, e, List.set_append_left _ _ (by rw [hl]; omega), Nat.zero_mul, Nat.zero_add, h]
    | succ j =>
      rw [List.getElem?_cons_succ] at hq
      rw [List.set_cons_succ, e, e, List.set_append_right _ _ (by rw [hl]; omega), hl, show (j + 1) * 17 + f - 17 = j * 17 + f by omega, ih hq]
theorem b5_at {j : Nat} (h : j < 5) : b5[j]? = some (rl5 (nm5.getD j 0), slN) := by
  have : j = 0 ∨ j = 1 ∨ j = 2 ∨ j = 3 ∨ j = 4 := by omega
  rcases this with rfl | rfl | rfl | rfl | rfl <;> rfl
theorem nm5_at {j : Nat} (h : j < 5) : nm5[j]? = some (nm5.getD j 0) := by
  have : j = 0 ∨ j = 1 ∨ j = 2 ∨ j = 3 ∨ j = 4 := by omega
  rcases this with rfl | rfl | rfl | rfl | rfl <;> rfl
theorem b5_set_map (k j : Nat) (y : WSl) : (b5.set j (chg k (rl5 (nm5.getD j 0)), y)).map (·.1) = (b5.map (·.1)).set j (chg k (rl5 (nm5.getD j 0))) := by rw [List.map_set]
theorem b5_snoc {i : Nat} (h : i < 5) : rrow (b5.take (i + 1)) = rrow (b5.take i) ++ (rarr (rl5 (nm5.getD i 0)) slN).toList := by
  rw [List.take_add_one, b5_at h]
  show rrow (b5.take i ++ [_]) = _
  rw [rrow_app, rrow_one]
/-- What the changed rule is like: short, and its numbers of a machine's size. -/
theorem chg_rng {k : Nat} (h : k < 10) (c : UInt8) : RRng (chg k (rl5 c)) ∧ (chg k (rl5 c)).name.length ≤ 100 ∧ ((chg k (rl5 c)).x.bnd = 0) := by
  have : k = 0 ∨ k = 1 ∨ k = 2 ∨ k = 3 ∨ k = 4 ∨ k = 5 ∨ k = 6 ∨ k = 7 ∨ k = 8 ∨ k = 9 := by omega
  rcases this with rfl | rfl | rfl | rfl | rfl | rfl | rfl | rfl | rfl | rfl <;>
    exact ⟨⟨by simp [chg, rl5], by simp [I64, chg, rl5, noRul], by simp [I64, chg, rl5, noRul, noWnt], by simp [I64, chg, rl5, noRul, noWnt], by simp [chg, rl5, noRul, noMat], by simp [chg, rl5, noRul, noMat], by simp [I64, chg, rl5, noRul, noMat], by simp [I64, chg, rl5, noRul, noMat], by simp [I64, chg, rl5, noRul, noMat], by simp [I64, chg, rl5, noRul, noMat], by simp [I64, chg, rl5, noRul, noMat]⟩, by simp [chg, rl5], rfl⟩
theorem rl5_rng (c : UInt8) : RRng (rl5 c) := ⟨by simp [rl5], by simp [I64, rl5, noRul], by simp [I64, rl5, noRul, noWnt], by simp [I64, rl5, noRul, noWnt], by simp [rl5, noRul, noMat], by simp [rl5, noRul, noMat], by simp [I64, rl5, noRul, noMat], by simp [I64, rl5, noRul, noMat], by simp [I64, rl5, noRul, noMat], by simp [I64, rl5, noRul, noMat], by simp [I64, rl5, noRul, noMat]⟩
theorem b5_mem {q : Rul × WSl} (h : q ∈ b5) : ∃ c, q = (rl5 c, slN) := by
  obtain ⟨c, _, rfl⟩ := List.mem_map.1 h
  exact ⟨c, rfl⟩
theorem mem_set {α : Type} {l : List α} {j : Nat} {q x : α} (h : x ∈ l.set j q) : x ∈ l ∨ x = q := List.mem_or_eq_of_mem_set h
/-- What Check tells of them, wherever they lie. -/
theorem wrong_check (h : SoundSpec 16 20) {k j : Nat} (hk : k < 10) (hj : j < 5) (y : WSl) (hy : y.nv ≤ 100 ∧ y.nn ≤ 100 ∧ y.nl ≤ 100 ∧ y.nc ≤ 100) (W : World) (Al A : Option Addr) (c : Nat)
    (hr : RLnk W W.heap.size Al 1 [⟨0, 1, 1, 0⟩]) (hA : Al ≠ none) (hq : RRul W A 5 c (b5.set j (chg k (rl5 (nm5.getD j 0)), y))) :
    Calls Try.prog 16 #[.agg #[.int .i64 3, .slice Al 1 1], .slice A 5 c] W fun e w' => e = .returned (.tuple #[.int .i64 (j : Int), .int .i64 (er14.getD k 0)]) ∧ Below W.heap.size W w' := by
  have h0 := h.check 3 Al 1 1 [⟨0, 1, 1, 0⟩] A 5 c _ W ⟨hr, by omega, by omega, fun h => absurd h hA, by omega, by omega⟩ hq (by omega) (by
    intro q hm
    rcases mem_set hm with h1 | rfl
    · obtain ⟨c, rfl⟩ := b5_mem h1; exact rl5_rng c
    · exact (chg_rng hk _).1) (by
    intro q hm
    rcases mem_set hm with h1 | rfl
    · obtain ⟨c, rfl⟩ := b5_mem h1; simp [rl5]
    · exact (chg_rng hk _).2.1) (by
    intro q hm
    rcases mem_set hm with h1 | rfl
    · obtain ⟨c, rfl⟩ := b5_mem h1; simp [slN]
    · exact hy)
  rw [b5_set_map, wr_all k hk j hj] at h0
  exact h0
/-- The row, one of its rules changed, as rules. -/
theorem wrong_row {W : World} {base g c k j : Nat} {y : WSl} (ho : W.ownsRow base 58 17 (.slice (some ⟨g, 0, none⟩) 5 c) 5 (rrow (b5.set j (chg k (rl5 (nm5.getD j 0)), y)))) (hw : WArg W (chg k (rl5 (nm5.getD j 0))).x y) :
    RRul W (some ⟨g, 0, none⟩) 5 c (b5.set j (chg k (rl5 (nm5.getD j 0)), y)) := by
  have hl : (b5.set j (chg k (rl5 (nm5.getD j 0)), y)).length = 5 := by rw [List.length_set]; rfl
  have := own_rrul (A := some ⟨g, 0, none⟩) (c := c) (qs := b5.set j (chg k (rl5 (nm5.getD j 0)), y)) (w := W) (base := base) (by rw [hl]; exact ho) (by
    intro q hm
    rcases mem_set hm with h1 | rfl
    · obtain ⟨c, rfl⟩ := b5_mem h1; exact warg0 _ _ rfl rfl rfl rfl (by simp [rl5, noRul, noWnt])
    · exact hw)
  rw [hl] at this
  exact this
end Go.Proofs.Ythoblabimkfjpaa
