/- Pairs: rows of [2]int. -/
import Derived.Test.YtmnlbefmgolciaaWdB
import Derived.Laws.StructEq
namespace Go.Proofs.Ytmnlbefmgolciaa
open Go.RowKit
set_option maxHeartbeats 1600000
set_option maxRecDepth 100000
def pcells (l : List (Int × Int)) : List Value := l.flatMap fun p => [.int .i64 p.1, .int .i64 p.2]
theorem pcells_app (a b : List (Int × Int)) : pcells (a ++ b) = pcells a ++ pcells b := List.flatMap_append
theorem pcells_len (l : List (Int × Int)) : (pcells l).length = l.length * 2 := by
  induction l with
  | nil => rfl
  | cons e r ih => simp only [pcells, List.flatMap_cons, List.length_append, List.length_cons] at *; rw [ih]; simp; omega
theorem pcells_one (l : List (Int × Int)) : ∀ u ∈ pcells l, u.oneCell' = true := by
  intro u hu
  simp only [pcells, List.mem_flatMap] at hu
  obtain ⟨e, _, hu⟩ := hu
  simp at hu
  rcases hu with rfl | rfl <;> rfl
theorem pcells_at {l : List (Int × Int)} {i : Nat} {e : Int × Int} (h : l[i]? = some e) : (pcells l)[i * 2]? = some (.int .i64 e.1) ∧ (pcells l)[i * 2 + 1]? = some (.int .i64 e.2) := by
  induction l generalizing i with
  | nil => simp at h
  | cons a r ih =>
    simp only [pcells, List.flatMap_cons]
    cases i with
    | zero => simp at h; subst h; simp
    | succ i =>
      have := ih (i := i) (by simpa using h)
      rw [List.getElem?_append_right (by simp; omega), List.getElem?_append_right (by simp; omega)]
      rw [show (i + 1) * 2 - [Value.int .i64 a.1, .int .i64 a.2].length = i * 2 by simp; omega, show (i + 1) * 2 + 1 - [Value.int .i64 a.1, .int .i64 a.2].length = i * 2 + 1 by simp; omega]
      exact this

theorem pair_row (a b : Int) : #[Value.int .i64 a, .int .i64 b] = (pcells [(a, b)]).toArray := rfl
/-- A slice value reads as the pairs l below block B. -/
def RPr (w : World) (B : Nat) (A : Option Addr) (n : Nat) (l : List (Int × Int)) : Prop :=
  l.length = n ∧ (0 < n → ∃ b off, A = some ⟨b, off, none⟩ ∧ b < B ∧ ∀ (i : Nat) (e : Int × Int), l[i]? = some e → w.cell? ⟨b, off + i * 2, none⟩ = some (.int .i64 e.1) ∧ w.cell? ⟨b, off + i * 2 + 1, none⟩ = some (.int .i64 e.2))
theorem RPr.below {w w' : World} {B n : Nat} {A : Option Addr} {l : List (Int × Int)} (h : RPr w B A n l) (hb : Below B w w') : RPr w' B A n l := by
  refine ⟨h.1, fun hn => ?_⟩
  obtain ⟨b, off, hA, hB, hc⟩ := h.2 hn
  refine ⟨b, off, hA, hB, fun i e he => ?_⟩
  obtain ⟨h1, h2⟩ := hc i e he
  exact ⟨(hb.cell (p := ⟨b, _, none⟩) hB).trans h1, (hb.cell (p := ⟨b, _, none⟩) hB).trans h2⟩
theorem RPr.more {w : World} {B B' n : Nat} {A : Option Addr} {l : List (Int × Int)} (h : RPr w B A n l) (hB : B ≤ B') : RPr w B' A n l := by
  refine ⟨h.1, fun hn => ?_⟩
  obtain ⟨b, off, hA, hb, hc⟩ := h.2 hn
  exact ⟨b, off, hA, by omega, hc⟩
theorem own_pairs {w : World} {base : Nat} {v : Value} {l : List (Int × Int)} (h : w.ownsRow base 32 2 v l.length (pcells l)) : ∃ A cap, v = .slice A l.length cap ∧ RPr w w.heap.size A l.length l := by
  rcases Nat.eq_zero_or_pos l.length with h0 | h0
  · rcases h.2 with ⟨rfl, h1⟩ | ⟨g, cap, cur, rfl, _⟩
    · exact ⟨none, 0, by rw [h0], rfl, fun h => by omega⟩
    · exact ⟨_, cap, rfl, rfl, fun h => by omega⟩
  · obtain ⟨g, cap, rfl, _, hlt⟩ := h.form h0
    refine ⟨_, cap, rfl, rfl, fun _ => ⟨g, 0, rfl, hlt, fun i e he => ?_⟩⟩
    obtain ⟨h1, h2⟩ := pcells_at he
    have k1 := h.cells (g := g) rfl _ _ h1
    have k2 := h.cells (g := g) rfl _ _ h2
    rw [Go.WideShapes.add_plain] at k1 k2
    exact ⟨k1, by rw [Nat.add_assoc]; exact k2⟩
theorem eq2_run (w : World) (a b c d : Int) : (Op.equalIn 10000 32 (.agg #[.int .i64 a, .int .i64 b]) (.agg #[.int .i64 c, .int .i64 d])).run Try.prog w = .ok ((a == c) && (b == d)) w := by
  obtain ⟨i, hi, _⟩ := info_parts (show (Try.prog.info? 3).map (fun i => (i.zero, i.size, i.bytes)) = some (some (.int .i64 0), 1, 8) by kernel_rfl)
  rw [show (10000 : Nat) = 9999 + 1 from rfl, run_equalIn_array w 9999 (e := 3) (n := 2) (i := i) _ _ (by kernel_rfl) hi, show Try.prog.cellsOf 3 = 1 by kernel_rfl]
  have hp : ∀ (cs : Array Value) (off : Nat) (v : Value), cs[off]? = some v → (part 3 cs off).run Try.prog w = .ok v w := by
    intro cs off v h
    simp [part, isAgg, run_underlying Try.underlying3, h]
  have he : ∀ x y : Int, (Op.equalIn 9999 3 (.int .i64 x) (.int .i64 y)).run Try.prog w = .ok (x == y) w := fun x y => run_equalIn_int w 9998 3 .i64 .i64 x y Try.underlying3
  rw [show List.range 2 = [0, 1] from rfl]
  simp only [Op.eqItems, Sem.run_bind]
  rw [hp _ _ (.int .i64 a) rfl, Result.andThen_ok, hp _ _ (.int .i64 c) rfl, Result.andThen_ok, he, Result.andThen_ok]
  cases h1 : (a == c) with
  | false => simp
  | true =>
    simp only [Bool.not_true, Bool.false_eq_true, if_false, Sem.run_bind, Bool.true_and]
    rw [hp _ _ (.int .i64 b) rfl, Result.andThen_ok, hp _ _ (.int .i64 d) rfl, Result.andThen_ok, he, Result.andThen_ok]
    cases h2 : (b == d) <;> simp
theorem neq2_run (w : World) (a b c d : Int) : (binOp .neq 32 (.agg #[.int .i64 a, .int .i64 b]) (.agg #[.int .i64 c, .int .i64 d])).run Try.prog w = .ok (.bool (!((a == c) && (b == d)))) w := by
  rw [run_neq_struct, eq2_run]; rfl
theorem eql2_run (w : World) (a b c d : Int) : (binOp .eql 32 (.agg #[.int .i64 a, .int .i64 b]) (.agg #[.int .i64 c, .int .i64 d])).run Try.prog w = .ok (.bool ((a == c) && (b == d))) w := by
  rw [run_eql_struct, eq2_run]; rfl
end Go.Proofs.Ytmnlbefmgolciaa
