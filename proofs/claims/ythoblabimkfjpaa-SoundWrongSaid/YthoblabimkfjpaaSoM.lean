/- SoundWrong: a rule changed in its row. -/
import Derived.Test.YthoblabimkfjpaaSoL
namespace Go.Proofs.Ythoblabimkfjpaa
open Go.RowKit
set_option maxHeartbeats 12800000
set_option maxRecDepth 100000
theorem row_cell {W : World} {base g c n j f : Nat} {qs : List (Rul × WSl)} {q : Rul × WSl} {v : Value} (ho : W.ownsRow base 58 17 (.slice (some ⟨g, 0, none⟩) n c) n (rrow qs)) (hq : qs[j]? = some q) (hv : (rarr q.1 q.2)[f]? = some v) : W.cell? ⟨g, j * 17 + f, none⟩ = some v := by
  have h1 := ho.cells (g := g) rfl _ _ (rrow_at hq hv)
  rw [Go.WideShapes.add_plain, Nat.zero_add] at h1
  exact h1
theorem row_put {W : World} {base g c n j f : Nat} {qs : List (Rul × WSl)} {q q' : Rul × WSl} {u : Value} (ho : W.ownsRow base 58 17 (.slice (some ⟨g, 0, none⟩) n c) n (rrow qs)) (hq : qs[j]? = some q) (hf : f < 17) (h : (rarr q.1 q.2).toList.set f u = (rarr q'.1 q'.2).toList) :
    (W.setCell ⟨g, j * 17 + f, none⟩ u).ownsRow base 58 17 (.slice (some ⟨g, 0, none⟩) n c) n (rrow (qs.set j q')) := by
  have h1 := (ho.stored (j * 17 + f) u).1
  rwa [rrow_set hq hf h] at h1
theorem row_form {W : World} {base : Nat} {v : Value} {L : List (Rul × WSl)} {n : Nat} (h : W.ownsRow base 58 17 v n (rrow L)) (h0 : 0 < n) : ∃ g c, v = .slice (some ⟨g, 0, none⟩) n c ∧ g < W.heap.size ∧ base ≤ g := by
  rcases h.2 with ⟨_, h1⟩ | ⟨g, cap, cur, he, hg, hh, _⟩
  · omega
  · exact ⟨g, cap, he, pst_lt hh, hg⟩
theorem chg_bnd {k : Nat} (h : k < 10) (c : UInt8) : -9223372036854775808 ≤ (chg k (rl5 c)).x.bnd ∧ (chg k (rl5 c)).x.bnd ≤ 9223372036854775807 := by
  rw [(chg_rng h c).2.2]; omega
theorem rl5_cells (c : UInt8) : (#[.string (txt [c]), .int .i64 0, .int .u32 0, .int .i64 0, .int .u32 0, .int .i64 0, .int .i64 0, .int .i64 0, .int .i64 0, .int .i64 0, .int .i64 1, .int .i64 0, .slice none 0 0, .slice none 0 0, .slice none 0 0, .slice none 0 0, .bool false] : Array Value) = (rarr (rl5 c) slN).toList.toArray := by rfl
theorem rl5_one (c : UInt8) : ∀ u ∈ (rarr (rl5 c) slN).toList, u.oneCell' = true := by simp [rarr, Value.oneCell']
theorem made5 : (madeCells (Value.int .i64 0).cells (5 * 1)).toList = icells [0, 0, 0, 0, 0] := by
  rw [Nat.mul_one, show (Value.int .i64 0).cells = #[Value.int .i64 0] from rfl, toList_madeCells_one]
  rfl
theorem size_set (W : World) (p : Addr) (u : Value) : (W.setCell p u).heap.size = W.heap.size := by simp
theorem cell_other {W : World} {g o b i : Nat} {u : Value} (h : b ≠ g) : (W.setCell ⟨g, o, none⟩ u).cell? ⟨b, i, none⟩ = W.cell? ⟨b, i, none⟩ := World.cell?_setCell_far _ _ _ _ (fun e => h e.symm)
theorem lits_new {W : World} {g o : Nat} {u : Value} {l : List Int} {cs : Array Value} (hc : cs = (l.map fun x => Value.int .i64 x).toArray) : ∀ (i : Nat) (x : Int), l[i]? = some x → ((W.setCell ⟨g, o, none⟩ u).alloc (.cells cs 3)).cell? ⟨W.heap.size, 0 + i, none⟩ = some (.int .i64 x) := by
  intro i x hx
  have h1 := new_row (w := W.setCell ⟨g, o, none⟩ u) (t := 3) hc i (.int .i64 x) (by rw [List.getElem?_map, hx]; rfl)
  rw [Go.WideShapes.add_plain, size_set] at h1
  exact h1
theorem larg_lit {W : World} {g o m : Nat} {u : Value} {l : List Int} {cs : Array Value} (hc : cs = (l.map fun x => Value.int .i64 x).toArray) (_hg : g < W.heap.size) (hm : l.length = m) (hmx : m ≤ 10) (hr : ∀ x ∈ l, -100 ≤ x ∧ x ≤ 100) :
    LArg ((W.setCell ⟨g, o, none⟩ u).alloc (.cells cs 3)) (some ⟨W.heap.size, 0, none⟩) m m l :=
  ⟨⟨hm, fun _ => ⟨W.heap.size, 0, rfl, by rw [size_alloc_eq, size_set]; exact Nat.lt_succ_self _, lits_new hc⟩⟩, Nat.le_refl _, fun h => (by cases h), by unfold maxLen; omega, fun x hx => by have := hr x hx; omega⟩
end Go.Proofs.Ythoblabimkfjpaa
