/- Rows of bools and of numbers as arguments; a row of numbers that a call writes; IsDown, Node. -/
import Derived.Test.YtjblhajmnlcfaaaSpA
import Derived.Deep.Slices
import Derived.Deep.Grids
import Derived.ChangeSame
import Derived.ChangeOld
import Derived.OpenShut
namespace Go.Proofs.Ytjblhajmnlcfaaa
open Go.RowKit Go.ChangeShapes Go.WideShapes Go.Deep
set_option maxHeartbeats 3200000
set_option maxRecDepth 100000
/-- A slice value reads as the bools l below block B. -/
def RBl (w : World) (B : Nat) (A : Option Addr) (n : Nat) (l : List Bool) : Prop :=
  l.length = n ∧ (0 < n → ∃ b off, A = some ⟨b, off, none⟩ ∧ b < B ∧ ∀ (i : Nat) (x : Bool), l[i]? = some x → w.cell? ⟨b, off + i, none⟩ = some (.bool x))
theorem RBl.below {w w' : World} {B n : Nat} {A : Option Addr} {l : List Bool} (h : RBl w B A n l) (hb : Below B w w') : RBl w' B A n l := by
  refine ⟨h.1, fun hn => ?_⟩
  obtain ⟨b, off, hA, hB, hc⟩ := h.2 hn
  exact ⟨b, off, hA, hB, fun i e he => (hb.cell (p := ⟨b, _, none⟩) hB).trans (hc i e he)⟩
theorem RBl.more {w : World} {B B' n : Nat} {A : Option Addr} {l : List Bool} (h : RBl w B A n l) (hB : B ≤ B') : RBl w B' A n l := by
  refine ⟨h.1, fun hn => ?_⟩
  obtain ⟨b, off, hA, hb, hc⟩ := h.2 hn
  exact ⟨b, off, hA, by omega, hc⟩
theorem RBl.on {a b : World} {A : Option Addr} {n : Nat} {l : List Bool} (h : RBl a a.heap.size A n l) (hb : Below a.heap.size a b) : RBl b b.heap.size A n l := (h.below hb).more hb.size
theorem open_nms {H : Type} {enc : TypeId × Value → H} {w : World} {A : Option Addr} {len cap : Nat} {d : DataW H} {p : List MemPlace}
    (h : DataW.Trod enc Try.prog w 0 (fun _ => true) true 40 (.slice A len cap) d p) : ∃ l : List Int, RInt w w.heap.size A len l ∧ (∀ x ∈ l, -9223372036854775808 ≤ x ∧ x ≤ 9223372036854775807) ∧ len ≤ maxLen ∧ (A = none → len = 0 ∧ cap = 0) ∧ len ≤ cap := by
  obtain ⟨fuel, hf⟩ := h
  rcases open_ints Try.underlying40 Try.underlying3 (by kernel_rfl) hf with ⟨hcs, _⟩ | ⟨a, len, c, zs, hcs, _, hl, hm, hz, _, hcell, hwz⟩
  · simp [Value.cells] at hcs
    obtain ⟨rfl, rfl, rfl⟩ := hcs
    exact ⟨[], ⟨rfl, fun h => by omega⟩, by simp, by unfold maxLen; omega, fun _ => ⟨rfl, rfl⟩, Nat.le_refl _⟩
  · simp [Value.cells] at hcs
    obtain ⟨rfl, rfl, rfl⟩ := hcs
    simp only [if_true] at hz
    have hw : ∀ x ∈ zs, -9223372036854775808 ≤ x ∧ x ≤ 9223372036854775807 := by
      intro x hx
      have hw := hwz x hx
      simp only [Lit.wf, Bool.and_eq_true, decide_eq_true_eq] at hw
      have h1 : IntKind.i64.min = -9223372036854775808 := rfl
      have h2 : IntKind.i64.max = 9223372036854775807 := rfl
      rw [h1, h2] at hw
      exact hw
    refine ⟨zs.take len, ⟨by rw [List.length_take]; omega, fun hn => ?_⟩, fun x hx => hw x (List.mem_of_mem_take hx), by omega, fun h => (by cases h), hl⟩
    have hsp : a.spot = none := by
      have := World.cell?_spot (hcell 0 (by omega))
      simpa [Addr.add] using this
    obtain ⟨b, off, spot⟩ := a
    subst hsp
    have hb := cell_lt (hcell 0 (by omega))
    rw [Go.WideShapes.add_plain] at hb
    refine ⟨b, off, rfl, hb, fun i x hx => ?_⟩
    rw [List.getElem?_take] at hx
    split at hx
    · have := hcell i (by have := (List.getElem?_eq_some_iff.1 hx).1; omega)
      rw [Go.WideShapes.add_plain] at this
      rw [this, List.getD_eq_getElem?_getD, hx]; rfl
    · cases hx
/-- Block G is the row d. -/
def IRow (w : World) (G : Nat) (d : List Int) : Prop := w.heap[G]? = some (.cells (icells d).toArray 3 (0, 0))
theorem IRow.lt {w : World} {G : Nat} {d : List Int} (h : IRow w G d) : G < w.heap.size := by
  rcases Nat.lt_or_ge G w.heap.size with h1 | h1
  · exact h1
  · have h2 : w.heap[G]? = _ := h
    rw [Array.getElem?_eq_none h1] at h2; cases h2
theorem IRow.cell {w : World} {G i : Nat} {x : Int} {d : List Int} (h : IRow w G d) (hx : d[i]? = some x) : w.cell? ⟨G, i, none⟩ = some (.int .i64 x) := by
  rw [cell_of_row _ _ _ _ _ _ h]
  simp [icells, hx]
theorem IRow.frozen {w : World} {G : Nat} {d : List Int} (h : IRow w G d) (i : Nat) : w.frozen? ⟨G, i, none⟩ = false := frozen_of_row _ _ _ _ _ h
theorem IRow.on {w w' : World} {G : Nat} {d : List Int} (h : IRow w G d) (hb : Below w.heap.size w w') : IRow w' G d := box_below h hb h.lt
theorem IRow.set {w : World} {G i : Nat} {d : List Int} (h : IRow w G d) (x : Int) : IRow (w.setCell ⟨G, i, none⟩ (.int .i64 x)) G (d.set i x) := by
  have h1 := heap_setCell_same w G i _ _ (.int .i64 x) h
  unfold IRow
  rw [h1]
  simp [icells, List.map_set]
theorem IRow.drewN {w : World} {G : Nat} {d : List Int} (h : IRow w G d) (k : Nat) : IRow (w.drewN k) G d := h
theorem IRow.made {w : World} {base G N : Nat} (h : w.ownsRow base 3 1 (.slice (some ⟨G, 0, none⟩) N N) N (madeCells (Value.int .i64 0).cells (N * 1)).toList) : IRow w G (List.replicate N 0) := by
  rcases h.2 with ⟨h1, _⟩ | ⟨g, cap, cur, h1, _, hg, _, _, h4, h5⟩
  · cases h1
  · simp only [Value.slice.injEq, Option.some.injEq, Addr.mk.injEq] at h1
    obtain ⟨⟨rfl, _⟩, _, rfl⟩ := h1
    have h6 : cur.toList = List.replicate N (Value.int .i64 0) := by
      rw [List.take_of_length_le (by simp; omega)] at h5
      rw [h5, Nat.mul_one, show (Value.int .i64 0).cells = #[Value.int .i64 0] from rfl, toList_madeCells_one]
    unfold IRow
    rw [hg]
    have h7 : cur = (icells (List.replicate N 0)).toArray := by
      rw [← Array.toArray_toList (xs := cur), h6]
      simp [icells]
    rw [h7]
theorem IRow.owned {w : World} {base G N : Nat} {d : List Int} (h : IRow w G d) (hl : d.length = N) (hb : base ≤ G) (hN : N ≤ maxLen) : w.ownsRow base 3 1 (.slice (some ⟨G, 0, none⟩) N N) N (icells d) := by
  refine ⟨by rw [icells_len, hl, Nat.mul_one], .inr ⟨G, N, _, rfl, hb, h, Nat.le_refl _, hN, by simp [icells, hl], ?_⟩⟩
  rw [List.take_of_length_le (by simp [icells, hl])]
/-- The potential of block G. -/
def potW (w : World) (G : Nat) : Nat := match w.heap[G]? with
  | some (.cells cs _ _) => sumP (cs.toList.map intOf)
  | _ => 0
theorem IRow.pot {w : World} {G : Nat} {d : List Int} (h : IRow w G d) : potW w G = sumP d := by
  have h' : w.heap[G]? = some (.cells (icells d).toArray 3 (0, 0)) := h
  unfold potW
  rw [h']
  simp only [icells, List.map_map]
  congr 1
  exact (List.map_congr_left (fun x _ => rfl)).trans (List.map_id _)
end Go.Proofs.Ytjblhajmnlcfaaa
