/- Rows of bools that a call makes and writes; how edges are told by their nodes. -/
import Derived.Test.YtljgoffolbplfaaGrJ
import Derived.OwnWalk
import Derived.Laws.MakeOwn
namespace Go.Proofs.Ytljgoffolbplfaa
open Go.RowKit
set_option maxHeartbeats 1600000
set_option maxRecDepth 100000
/-- Block G is a row of N bools: H. -/
def BRow (w : World) (G N : Nat) (H : Nat → Bool) : Prop := ∃ cs : Array Value, w.heap[G]? = some (.cells cs 4 (0, 0)) ∧ cs.size = N ∧ ∀ e, e < N → cs[e]? = some (.bool (H e))
theorem BRow.lt {w : World} {G N : Nat} {H : Nat → Bool} (h : BRow w G N H) : G < w.heap.size := by
  obtain ⟨cs, hb, _⟩ := h
  rcases Nat.lt_or_ge G w.heap.size with h1 | h1
  · exact h1
  · rw [Array.getElem?_eq_none h1] at hb; cases hb
theorem BRow.cell {w : World} {G N e : Nat} {H : Nat → Bool} (h : BRow w G N H) (he : e < N) : w.cell? ⟨G, e, none⟩ = some (.bool (H e)) := by
  obtain ⟨cs, hb, _, hc⟩ := h
  rw [cell_of_row _ _ _ _ _ _ hb]
  exact hc e he
theorem BRow.frozen {w : World} {G N : Nat} {H : Nat → Bool} (h : BRow w G N H) (e : Nat) : w.frozen? ⟨G, e, none⟩ = false := by
  obtain ⟨cs, hb, _⟩ := h
  exact frozen_of_row _ _ _ _ _ hb
theorem BRow.below {w w' : World} {G N k : Nat} {H : Nat → Bool} (h : BRow w G N H) (hb : Below k w w') (hk : G < k) : BRow w' G N H := by
  obtain ⟨cs, h1, h2⟩ := h
  exact ⟨cs, box_below h1 hb hk, h2⟩
theorem BRow.on {w w' : World} {G N : Nat} {H : Nat → Bool} (h : BRow w G N H) (hb : Below w.heap.size w w') : BRow w' G N H := h.below hb h.lt
theorem BRow.congr {w : World} {G N : Nat} {H H' : Nat → Bool} (h : BRow w G N H) (he : ∀ e, e < N → H' e = H e) : BRow w G N H' := by
  obtain ⟨cs, h1, h2, h3⟩ := h
  exact ⟨cs, h1, h2, fun e hl => by rw [h3 e hl, he e hl]⟩
theorem BRow.set {w : World} {G N e : Nat} {H : Nat → Bool} (h : BRow w G N H) (b : Bool) : BRow (w.setCell ⟨G, e, none⟩ (.bool b)) G N (fun j => if j = e then b else H j) := by
  obtain ⟨cs, h1, h2, h3⟩ := h
  refine ⟨_, heap_setCell_same w G e cs _ _ h1, by simpa using h2, fun j hj => ?_⟩
  rw [Array.getElem?_setIfInBounds]
  by_cases hje : e = j
  · subst hje; simp [h2, hj]
  · rw [if_neg hje, h3 j hj]
    show some (Value.bool (H j)) = some (Value.bool (if j = e then b else H j))
    rw [if_neg (fun h => hje h.symm)]
theorem BRow.drewN {w : World} {G N : Nat} {H : Nat → Bool} (h : BRow w G N H) (k : Nat) : BRow (w.drewN k) G N H := h
theorem BRow.made {w : World} {base G N : Nat} (h : w.ownsRow base 4 1 (.slice (some ⟨G, 0, none⟩) N N) N (madeCells (Value.bool false).cells (N * 1)).toList) : BRow w G N (fun _ => false) := by
  rcases h.2 with ⟨h1, _⟩ | ⟨g, cap, cur, h1, _, hg, _, _, h4, h5⟩
  · cases h1
  · simp only [Value.slice.injEq, Option.some.injEq, Addr.mk.injEq] at h1
    obtain ⟨⟨rfl, _⟩, _, rfl⟩ := h1
    refine ⟨cur, hg, by omega, fun e he => ?_⟩
    have h6 : cur.toList = List.replicate N (Value.bool false) := by
      rw [List.take_of_length_le (by simp; omega)] at h5
      rw [h5, Nat.mul_one, show (Value.bool false).cells = #[Value.bool false] from rfl, toList_madeCells_one]
    rw [← Array.getElem?_toList, h6]
    simp [he]
theorem own_shape {w : World} {base e size n : Nat} {v : Value} {xs : List Value} (h : w.ownsRow base e size v n xs) : ∃ A c, v = .slice A n c := by
  rcases h.2 with ⟨rfl, rfl⟩ | ⟨g, cap, cur, rfl, _⟩
  · exact ⟨_, _, rfl⟩
  · exact ⟨_, _, rfl⟩
theorem Held.set {w w' : World} {nd : Int} {A : Option Addr} {n c G j : Nat} {u : Value} (h : Held w nd A n c w') (hG : w.heap.size < G) : Held w nd A n c (w'.setCell ⟨G, j, none⟩ u) :=
  ⟨h.1.setCell (by show _ ≤ G; omega) u, (heap_setCell_other _ _ _ _ (by show _ ≠ G; omega)).trans h.2⟩

/-- Where an edge begins. -/
def frm (l : List Lnk) (e : Nat) : Int := (endsS l (e : Int)).1
/-- How many of the first N edges begin at a node below i. -/
def cntB (l : List Lnk) (i : Int) : Nat → Nat
  | 0 => 0
  | N + 1 => cntB l i N + if frm l N < i then 1 else 0
theorem cntB_succ (l : List Lnk) (i : Int) (N : Nat) : cntB l (i + 1) N = cntB l i N + (outS l i N).length := by
  induction N with
  | zero => rfl
  | succ N ih =>
    rw [outS_succ, List.length_append]
    simp only [cntB, ih]
    have hf : (endsS l (N : Int)).1 = frm l N := rfl
    rw [hf]
    rcases (show frm l N < i ∨ frm l N = i ∨ i < frm l N by omega) with h | h | h
    · rw [if_pos (by omega), if_pos h, if_neg (by omega)]; simp; omega
    · rw [if_pos (by omega), if_neg (by omega), if_pos h]; simp; omega
    · rw [if_neg (by omega), if_neg (by omega), if_neg (by omega)]; simp
theorem cntB_le (l : List Lnk) (i : Int) (N : Nat) : cntB l i N ≤ N := by
  induction N with
  | zero => exact Nat.le_refl _
  | succ N ih => simp only [cntB]; split <;> omega
theorem cntB_zero {l : List Lnk} {i : Int} {N : Nat} (h : ∀ e, e < N → i ≤ frm l e) : cntB l i N = 0 := by
  induction N with
  | zero => rfl
  | succ N ih => simp only [cntB]; rw [ih (fun e he => h e (by omega)), if_neg (by have := h N (by omega); omega)]
theorem cntB_all {l : List Lnk} {i : Int} {N : Nat} (h : ∀ e, e < N → frm l e < i) : cntB l i N = N := by
  induction N with
  | zero => rfl
  | succ N ih => simp only [cntB]; rw [ih (fun e he => h e (by omega)), if_pos (h N (by omega))]
theorem outS_none {l : List Lnk} {i : Int} {N : Nat} (h : ∀ e, e < N → frm l e ≠ i) : outS l i N = [] := by
  rcases List.eq_nil_or_concat (outS l i N) with h0 | ⟨r, x, h0⟩
  · exact h0
  · have : x ∈ outS l i N := by rw [h0]; simp
    obtain ⟨e, he, _, hf⟩ := mem_outS.1 this
    exact absurd hf (h e he)
theorem outS_sorted (l : List Lnk) (i : Int) (N : Nat) : (outS l i N).Pairwise (· < ·) := by
  unfold outS
  refine List.Pairwise.filter _ ?_
  exact List.pairwise_map.2 (List.Pairwise.imp (fun {a b} h => by omega) List.pairwise_lt_range)
theorem sorted_at {L : List Int} (h : L.Pairwise (· < ·)) {i j : Nat} {x y : Int} (hi : L[i]? = some x) (hj : L[j]? = some y) (hij : i < j) : x < y := by
  obtain ⟨h1, rfl⟩ := List.getElem?_eq_some_iff.1 hi
  obtain ⟨h2, rfl⟩ := List.getElem?_eq_some_iff.1 hj
  exact List.pairwise_iff_getElem.1 h i j h1 h2 hij
theorem sorted_not_before {L : List Int} (h : L.Pairwise (· < ·)) {k : Nat} {x : Int} (hk : L[k]? = some x) : x ∉ L.take k := by
  intro hm
  obtain ⟨j, hj, hx⟩ := List.getElem_of_mem hm
  rw [List.length_take] at hj
  have h1 : L[j]? = some x := by
    rw [List.getElem_take] at hx
    rw [List.getElem?_eq_getElem (by omega), hx]
  have := sorted_at h h1 hk (by omega)
  omega
theorem chk_all {nd : Int} {l : List Lnk} {i : Nat} (h : (chk nd l i).2 = 0) : ∀ x ∈ l, lnkErr nd x = 0 := by
  induction l generalizing i with
  | nil => intro x hx; cases hx
  | cons a r ih =>
    simp only [chk] at h
    split at h
    · intro x hx
      rcases List.mem_cons.1 hx with rfl | hx
      · assumption
      · exact ih h x hx
    · exact absurd h ‹_›
theorem frm_range {nd : Int} {l : List Lnk} (h : (chk nd l 0).2 = 0) {e : Nat} (he : e < 2 * l.length) : 0 ≤ frm l e ∧ frm l e < nd := by
  obtain ⟨x, hx⟩ : ∃ x, l[e / 2]? = some x := ⟨l[e / 2]'(by omega), List.getElem?_eq_getElem _⟩
  have h1 := chk_all h x (List.mem_of_getElem? hx)
  have h2 := endsS_some hx
  unfold lnkErr at h1
  split at h1
  · rename_i h3
    unfold frm
    rw [h2]
    split
    · exact ⟨h3.1, h3.2.1⟩
    · exact ⟨h3.2.2.1, h3.2.2.2.1⟩
  · cases h1
/-- What the next edge of a node's row is. -/
theorem row_next {l : List Lnk} {i : Int} {N k : Nat} {x : Int} (h : (outS l i N)[k]? = some x) : ∃ e : Nat, x = (e : Int) ∧ e < N ∧ frm l e = i ∧ (e : Int) ∉ (outS l i N).take k := by
  obtain ⟨e, he, rfl, hf⟩ := mem_outS.1 (List.mem_of_getElem? h)
  exact ⟨e, rfl, he, hf, sorted_not_before (outS_sorted l i N) h⟩
/-- What is marked: the edges of the nodes below i, and the first k of node i. -/
def marks (l : List Lnk) (i : Int) (N k : Nat) (e : Nat) : Bool := decide (frm l e < i) || decide ((e : Int) ∈ (outS l i N).take k)
theorem marks_new {l : List Lnk} {i : Int} {N k e : Nat} (hf : frm l e = i) (hm : (e : Int) ∉ (outS l i N).take k) : marks l i N k e = false := by
  simp [marks, hf, hm]
theorem marks_step {l : List Lnk} {i : Int} {N k e : Nat} (h : (outS l i N)[k]? = some (e : Int)) (j : Nat) : marks l i N (k + 1) j = if j = e then true else marks l i N k j := by
  unfold marks
  have h1 := mem_take_succ (k := (j : Int)) h
  by_cases hj : j = e
  · subst hj
    rw [if_pos rfl, decide_eq_true (h1.2 (.inr rfl))]; simp
  · rw [if_neg hj]
    congr 1
    rw [decide_eq_decide, h1]
    exact ⟨fun h => h.elim id (fun h => absurd h (by omega)), .inl⟩
theorem marks_end {l : List Lnk} {i : Int} {N m j : Nat} (hm : (outS l i N).length = m) (hj : j < N) : marks l (i + 1) N 0 j = marks l i N m j := by
  unfold marks
  rw [List.take_zero, List.take_of_length_le (show (outS l i N).length ≤ m by omega)]
  by_cases h : frm l j = i
  · rw [decide_eq_true (by omega), decide_eq_true (mem_outS.2 ⟨j, hj, rfl, h⟩)]; simp
  · have hn : (j : Int) ∉ outS l i N := by
      intro hmem
      obtain ⟨e, _, he, hf⟩ := mem_outS.1 hmem
      have : e = j := by omega
      subst this
      exact h hf
    rw [decide_eq_false hn]
    simp
    omega
theorem marks_zero {l : List Lnk} {N j : Nat} (h : 0 ≤ frm l j) : marks l 0 N 0 j = false := by
  simp [marks]; omega
end Go.Proofs.Ytljgoffolbplfaa
