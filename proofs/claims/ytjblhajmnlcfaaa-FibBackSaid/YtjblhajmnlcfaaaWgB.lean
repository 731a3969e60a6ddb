/- Graphs: plain lemmas, rows of links, of ints, of bools that a call made. -/
import Derived.Test.YtjblhajmnlcfaaaWgA
import Derived.OwnWalk
import Derived.Laws.BitsAllLaws
import Derived.Laws.MakeOwn
namespace Go.Proofs.Ytjblhajmnlcfaaa
open Go.RowKit
set_option maxHeartbeats 6400000
set_option maxRecDepth 100000
theorem wf_i64 {a : Int} (h : (Lit.int .i64 a).wf = true) : -9223372036854775808 ≤ a ∧ a ≤ 9223372036854775807 := by
  simp only [Lit.wf, Bool.and_eq_true, decide_eq_true_eq] at h
  have h1 : IntKind.i64.min = -9223372036854775808 := rfl
  have h2 : IntKind.i64.max = 9223372036854775807 := rfl
  rw [h1, h2] at h
  exact h
theorem endsS_none {l : List Lnk} {e : Nat} (h : l.length ≤ e / 2) : endsS l e = (0, 0, false) := by
  unfold endsS
  rw [if_neg (by omega), show (Int.toNat (e : Int)) = e by omega, List.getElem?_eq_none h]
theorem endsS_some {l : List Lnk} {e : Nat} {x : Lnk} (h : l[e / 2]? = some x) : endsS l e = if e % 2 = 0 then (x.a, x.b, true) else (x.b, x.a, true) := by
  unfold endsS
  rw [if_neg (by omega), show (Int.toNat (e : Int)) = e by omega, h]
  simp only
  by_cases h2 : e % 2 = 0
  · rw [if_pos h2, if_pos (by omega)]
  · rw [if_neg h2, if_neg (by omega)]
theorem nat_xor_one (e : Nat) : e ^^^ 1 = if e % 2 = 0 then e + 1 else e - 1 := by
  have h1 : (e ^^^ 1) / 2 = e / 2 := by rw [Nat.xor_div_two]; simp
  have h2 : (e ^^^ 1) % 2 = 1 ↔ ¬(e % 2 = 1 ↔ 1 % 2 = 1) := Nat.xor_mod_two_eq_one
  split <;> omega
theorem xor_one (e : Nat) (h : e < 9223372036854775808) : bits .xor .i64 (e : Int) 1 = if e % 2 = 0 then (e : Int) + 1 else (e : Int) - 1 := by
  have hx : e ^^^ 1 < 2 ^ 63 := Nat.xor_lt_two_pow (by omega) (by omega)
  have h1 : bits .xor .i64 (e : Int) ((1 : Nat) : Int) = ((e ^^^ 1 : Nat) : Int) := by
    show IntKind.i64.wrap ((BitVec.ofInt 64 (e : Int) ^^^ BitVec.ofInt 64 ((1 : Nat) : Int)).toNat : Int) = _
    rw [BitVec.toNat_xor, ofInt_u64 e (by omega), ofInt_u64 1 (by omega), IntKind.wrap_i64]
    omega
  refine h1.trans ?_
  rw [nat_xor_one]
  split <;> omega
theorem below_drewN {B n : Nat} {a w : World} (h : Below B a w) : Below B a (w.drewN n) := ⟨h.os, h.tape, h.output, h.size, h.block⟩
theorem checkS_ok {nd : Int} {l : List Lnk} (h : (checkS nd l).2 = 0) : l.length ≤ 120 ∧ 1 ≤ nd ∧ nd ≤ 40 ∧ (chk nd l 0).2 = 0 := by
  unfold checkS at h
  split at h
  · simp at h
  · split at h
    · simp at h
    · exact ⟨by omega, by omega, by omega, h⟩
theorem ways_facts {l : List Lnk} {k : Nat} (h : k < 2 * l.length) : ∃ (a b : Int) (r : Nat), endsS l (k : Int) = (a, b, true) ∧ endsS l (r : Int) = (b, a, true) ∧ backS (k : Int) = (r : Int) ∧ backS (r : Int) = (k : Int) ∧ r / 2 = k / 2 := by
  obtain ⟨x, hx⟩ : ∃ x, l[k / 2]? = some x := ⟨l[k / 2]'(by omega), List.getElem?_eq_getElem _⟩
  have h1 := endsS_some hx
  rcases Nat.mod_two_eq_zero_or_one k with hm | hm
  · have hq : (k + 1) / 2 = k / 2 := by omega
    have h2 := endsS_some (e := k + 1) (hq ▸ hx)
    rw [if_pos hm] at h1
    rw [if_neg (by omega)] at h2
    refine ⟨_, _, k + 1, h1, h2, ?_, ?_, hq⟩
    · unfold backS; rw [if_neg (by omega), if_pos (by omega)]; omega
    · unfold backS; rw [if_neg (by omega), if_neg (by omega)]; omega
  · obtain ⟨j, rfl⟩ : ∃ j, k = j + 1 := ⟨k - 1, by omega⟩
    have hq : j / 2 = (j + 1) / 2 := by omega
    have h2 := endsS_some (e := j) (by rw [hq]; exact hx)
    rw [if_neg (by omega)] at h1
    rw [if_pos (by omega)] at h2
    refine ⟨_, _, j, h1, h2, ?_, ?_, hq⟩
    · unfold backS; rw [if_neg (by omega), if_neg (by omega)]; omega
    · unfold backS; rw [if_neg (by omega), if_pos (by omega)]; omega
theorem mem_outS {l : List Lnk} {node : Int} {m : Nat} {x : Int} : x ∈ outS l node m ↔ ∃ i : Nat, i < m ∧ x = (i : Int) ∧ (endsS l (i : Int)).1 = node := by
  unfold outS
  simp only [List.mem_filter, List.mem_map, List.mem_range, beq_iff_eq]
  constructor
  · rintro ⟨⟨i, hi, rfl⟩, h⟩; exact ⟨i, hi, rfl, h⟩
  · rintro ⟨i, hi, rfl, h⟩; exact ⟨⟨i, hi, rfl⟩, h⟩
theorem mem_take_succ {L : List Int} {j : Nat} {x k : Int} (h : L[j]? = some x) : k ∈ L.take (j + 1) ↔ k ∈ L.take j ∨ x = k := by
  obtain ⟨hj, hx⟩ := List.getElem?_eq_some_iff.1 h
  rw [List.take_succ_eq_append_getElem hj, List.mem_append, hx]
  simp [eq_comm]
theorem not_mem_step {p q r : Prop} (h : p ↔ q ∨ r) (hq : false = true ↔ q) (hr : ¬r) : false = true ↔ p := by
  rw [h]
  constructor
  · intro h; cases h
  · rintro (h | h)
    · exact hq.2 h
    · exact absurd h hr
theorem rlnk_new (w : World) (x : Lnk) : RLnk (w.alloc (.cells #[.int .i64 x.a, .int .i64 x.b, .int .i64 x.m, .int .i64 x.c] 42)) (w.heap.size + 1) (some ⟨w.heap.size, 0, none⟩) 1 [x] := by
  refine ⟨rfl, fun _ => ⟨w.heap.size, 0, rfl, by omega, fun i e he => ?_⟩⟩
  have hi : i = 0 := by
    have := (List.getElem?_eq_some_iff.1 he).1
    simp at this; omega
  subst hi
  simp at he
  subst he
  have h := heap_alloc_new w (.cells #[.int .i64 x.a, .int .i64 x.b, .int .i64 x.m, .int .i64 x.c] 42)
  refine ⟨?_, ?_, ?_, ?_⟩ <;> (rw [cell_of_row _ _ _ _ _ _ h]; rfl)
theorem rlnk_block {w : World} {b : Nat} {x : Lnk} (h : w.heap[b]? = some (.cells #[.int .i64 x.a, .int .i64 x.b, .int .i64 x.m, .int .i64 x.c] 42 (0, 0))) : RLnk w w.heap.size (some ⟨b, 0, none⟩) 1 [x] := by
  have hlt : b < w.heap.size := by
    rcases Nat.lt_or_ge b w.heap.size with h1 | h1
    · exact h1
    · rw [Array.getElem?_eq_none h1] at h; cases h
  refine ⟨rfl, fun _ => ⟨b, 0, rfl, hlt, fun i e he => ?_⟩⟩
  have hi : i = 0 := by
    have := (List.getElem?_eq_some_iff.1 he).1
    simp at this; omega
  subst hi
  simp at he
  subst he
  refine ⟨?_, ?_, ?_, ?_⟩ <;> (rw [cell_of_row _ _ _ _ _ _ h]; rfl)
theorem size_alloc_eq (w : World) (o : Obj) : (w.alloc o).heap.size = w.heap.size + 1 := by simp
theorem int_row (x : Int) : #[Value.int .i64 x] = (icells [x]).toArray := rfl
theorem RInt.on {a b : World} {A : Option Addr} {n : Nat} {l : List Int} (h : RInt a a.heap.size A n l) (hb : Below a.heap.size a b) : RInt b b.heap.size A n l := (h.below hb).more hb.size
theorem own_shape {w : World} {base e size n : Nat} {v : Value} {xs : List Value} (h : w.ownsRow base e size v n xs) : ∃ A c, v = .slice A n c := by
  rcases h.2 with ⟨rfl, rfl⟩ | ⟨g, cap, cur, rfl, _⟩
  · exact ⟨_, _, rfl⟩
  · exact ⟨_, _, rfl⟩
theorem own_form {w : World} {base e size n : Nat} {v : Value} {xs : List Value} (h : w.ownsRow base e size v n xs) : ∃ A c, v = .slice A n c := by
  rcases h.2 with ⟨rfl, rfl⟩ | ⟨g, cap, cur, rfl, _⟩
  · exact ⟨_, _, rfl⟩
  · exact ⟨_, _, rfl⟩
theorem own_ri {w : World} {base m c : Nat} {A : Option Addr} {l : List Int} (h : w.ownsRow base 3 1 (.slice A m c) m (icells l)) (hl : l.length = m) : RInt w w.heap.size A m l := by
  obtain ⟨A', cap', hv, _, hr⟩ := own_ints h hl
  simp only [Value.slice.injEq] at hv
  obtain ⟨rfl, _, _⟩ := hv
  exact hr
def lcells (l : List Lnk) : List Value := l.flatMap fun x => [.int .i64 x.a, .int .i64 x.b, .int .i64 x.m, .int .i64 x.c]
theorem lcells_app (a b : List Lnk) : lcells (a ++ b) = lcells a ++ lcells b := List.flatMap_append
theorem lcells_one (l : List Lnk) : ∀ u ∈ lcells l, u.oneCell' = true := by
  intro u hu
  simp only [lcells, List.mem_flatMap] at hu
  obtain ⟨e, _, hu⟩ := hu
  simp at hu
  rcases hu with rfl | rfl | rfl | rfl <;> rfl
theorem lcells_at {l : List Lnk} {i : Nat} {e : Lnk} (h : l[i]? = some e) : (lcells l)[i * 4]? = some (.int .i64 e.a) ∧ (lcells l)[i * 4 + 1]? = some (.int .i64 e.b) ∧ (lcells l)[i * 4 + 2]? = some (.int .i64 e.m) ∧ (lcells l)[i * 4 + 3]? = some (.int .i64 e.c) := by
  induction l generalizing i with
  | nil => simp at h
  | cons a r ih =>
    simp only [lcells, List.flatMap_cons]
    cases i with
    | zero => simp at h; subst h; simp
    | succ i =>
      have := ih (i := i) (by simpa using h)
      rw [List.getElem?_append_right (by simp; omega), List.getElem?_append_right (by simp; omega), List.getElem?_append_right (by simp; omega), List.getElem?_append_right (by simp; omega)]
      have hl : [Value.int .i64 a.a, .int .i64 a.b, .int .i64 a.m, .int .i64 a.c].length = 4 := rfl
      rw [hl, show (i + 1) * 4 - 4 = i * 4 by omega, show (i + 1) * 4 + 1 - 4 = i * 4 + 1 by omega, show (i + 1) * 4 + 2 - 4 = i * 4 + 2 by omega, show (i + 1) * 4 + 3 - 4 = i * 4 + 3 by omega]
      exact this
theorem own_lnks {w : World} {base m : Nat} {v : Value} {l : List Lnk} (h : w.ownsRow base 42 4 v m (lcells l)) (hl : l.length = m) : ∃ A cap, v = .slice A m cap ∧ m ≤ cap ∧ RLnk w w.heap.size A m l := by
  subst hl
  rcases h.2 with ⟨rfl, h1⟩ | ⟨g, cap, cur, rfl, _, hg, h2, _⟩
  · exact ⟨none, 0, by rw [h1], by omega, rfl, fun h => by omega⟩
  refine ⟨_, cap, rfl, h2, rfl, fun _ => ⟨g, 0, rfl, ?_, fun i e he => ?_⟩⟩
  · rcases Nat.lt_or_ge g w.heap.size with hlt | hge
    · exact hlt
    · rw [Array.getElem?_eq_none hge] at hg; cases hg
  obtain ⟨h1, h2, h3, h4⟩ := lcells_at he
  have k1 := h.cells (g := g) rfl _ _ h1
  have k2 := h.cells (g := g) rfl _ _ h2
  have k3 := h.cells (g := g) rfl _ _ h3
  have k4 := h.cells (g := g) rfl _ _ h4
  rw [Go.WideShapes.add_plain] at k1 k2 k3 k4
  exact ⟨k1, by rw [Nat.add_assoc]; exact k2, by rw [Nat.add_assoc]; exact k3, by rw [Nat.add_assoc]; exact k4⟩
theorem chk_rep {nd : Int} {x : Lnk} (h : lnkErr nd x = 0) (k i : Nat) : chk nd (List.replicate k x) i = (-1, 0) := by
  induction k generalizing i with
  | zero => rfl
  | succ k ih => rw [List.replicate_succ]; simp only [chk]; rw [if_pos h]; exact ih (i + 1)
theorem rep_len (k : Nat) (x : Lnk) : (List.replicate k x).length = k := List.length_replicate
theorem box_app {wr w4 : World} {B base e s n : Nat} {v : Value} {xs : List Value} {o X : Obj} (hbox : wr.heap[B]? = some X) (hB : B < base) (hown : wr.ownsRow base e s v n xs) (hg : (wr.alloc o).grownBy w4 v.ownBlock) : w4.heap[B]? = some X := by
  have hlt : B < wr.heap.size := by
    rcases Nat.lt_or_ge B wr.heap.size with h1 | h1
    · exact h1
    · rw [Array.getElem?_eq_none h1] at hbox; cases hbox
  refine (hg.block B (by simp; omega) (fun h => ?_)).trans (((Below.alloc (Below.refl wr.heap.size wr) (Nat.le_refl _) o).block B hlt).trans hbox)
  have := (hown.lt B h.symm).1
  omega
theorem below_app {w1 wr w4 : World} {base e s n : Nat} {v : Value} {xs : List Value} {o : Obj} (h : Below w1.heap.size w1 wr) (hb : w1.heap.size ≤ base) (hown : wr.ownsRow base e s v n xs) (hg : (wr.alloc o).grownBy w4 v.ownBlock) : Below w1.heap.size w1 w4 :=
  Below.grown (h.alloc h.size o) hg (by have := h.size; simp; omega) (fun q hq => Nat.le_trans hb (hown.lt q hq).1)
/-- Block G is a row of N bools: H. -/
def BRow (w : World) (G N : Nat) (H : Nat → Bool) : Prop := ∃ cs : Array Value, w.heap[G]? = some (.cells cs 4 (0, 0)) ∧ cs.size = N ∧ ∀ e, e < N → cs[e]? = some (.bool (H e))
theorem BRow.lt {w : World} {G N : Nat} {H : Nat → Bool} (h : BRow w G N H) : G < w.heap.size := by
  obtain ⟨cs, hb, _⟩ := h
  rcases Nat.lt_or_ge G w.heap.size with h1 | h1
  · exact h1
  · rw [Array.getElem?_eq_none h1] at hb; cases hb
theorem BRow.cell {w : World} {G N e : Nat} {H : Nat → Bool} (h : BRow w G N H) (he : e < N) : w.cell? ⟨G, e, none⟩ = some (.bool (H e)) := by
  obtain ⟨cs, hb, _, hc⟩ := h
  rw [cell_of_row _ _ _ _ _ _ hb]
  exact hc e he
theorem BRow.frozen {w : World} {G N : Nat} {H : Nat → Bool} (h : BRow w G N H) (e : Nat) : w.frozen? ⟨G, e, none⟩ = false := by
  obtain ⟨cs, hb, _⟩ := h
  exact frozen_of_row _ _ _ _ _ hb
theorem BRow.below {w w' : World} {G N k : Nat} {H : Nat → Bool} (h : BRow w G N H) (hb : Below k w w') (hk : G < k) : BRow w' G N H := by
  obtain ⟨cs, h1, h2⟩ := h
  exact ⟨cs, box_below h1 hb hk, h2⟩
theorem BRow.on {w w' : World} {G N : Nat} {H : Nat → Bool} (h : BRow w G N H) (hb : Below w.heap.size w w') : BRow w' G N H := h.below hb h.lt
theorem BRow.congr {w : World} {G N : Nat} {H H' : Nat → Bool} (h : BRow w G N H) (he : ∀ e, e < N → H' e = H e) : BRow w G N H' := by
  obtain ⟨cs, h1, h2, h3⟩ := h
  exact ⟨cs, h1, h2, fun e hl => by rw [h3 e hl, he e hl]⟩
theorem BRow.set {w : World} {G N e : Nat} {H : Nat → Bool} (h : BRow w G N H) (b : Bool) : BRow (w.setCell ⟨G, e, none⟩ (.bool b)) G N (fun j => if j = e then b else H j) := by
  obtain ⟨cs, h1, h2, h3⟩ := h
  refine ⟨_, heap_setCell_same w G e cs _ _ h1, by simpa using h2, fun j hj => ?_⟩
  rw [Array.getElem?_setIfInBounds]
  by_cases hje : e = j
  · subst hje; simp [h2, hj]
  · rw [if_neg hje, h3 j hj]
    show some (Value.bool (H j)) = some (Value.bool (if j = e then b else H j))
    rw [if_neg (fun h => hje h.symm)]
theorem BRow.drewN {w : World} {G N : Nat} {H : Nat → Bool} (h : BRow w G N H) (k : Nat) : BRow (w.drewN k) G N H := h
theorem BRow.made {w : World} {base G N : Nat} (h : w.ownsRow base 4 1 (.slice (some ⟨G, 0, none⟩) N N) N (madeCells (Value.bool false).cells (N * 1)).toList) : BRow w G N (fun _ => false) := by
  rcases h.2 with ⟨h1, _⟩ | ⟨g, cap, cur, h1, _, hg, _, _, h4, h5⟩
  · cases h1
  · simp only [Value.slice.injEq, Option.some.injEq, Addr.mk.injEq] at h1
    obtain ⟨⟨rfl, _⟩, _, rfl⟩ := h1
    refine ⟨cur, hg, by omega, fun e he => ?_⟩
    have h6 : cur.toList = List.replicate N (Value.bool false) := by
      rw [List.take_of_length_le (by simp; omega)] at h5
      rw [h5, Nat.mul_one, show (Value.bool false).cells = #[Value.bool false] from rfl, toList_madeCells_one]
    rw [← Array.getElem?_toList, h6]
    simp [he]
/-- Where an edge begins. -/
def frm (l : List Lnk) (e : Nat) : Int := (endsS l (e : Int)).1
/-- How many of the first N edges begin at a node below i. -/
def cntB (l : List Lnk) (i : Int) : Nat → Nat
  | 0 => 0
  | N + 1 => cntB l i N + if frm l N < i then 1 else 0
theorem cntB_succ (l : List Lnk) (i : Int) (N : Nat) : cntB l (i + 1) N = cntB l i N + (outS l i N).length := by
  induction N with
  | zero => rfl
  | succ N ih =>
    rw [outS_succ, List.length_append]
    simp only [cntB, ih]
    have hf : (endsS l (N : Int)).1 = frm l N := rfl
    rw [hf]
    rcases (show frm l N < i ∨ frm l N = i ∨ i < frm l N by omega) with h | h | h
    · rw [if_pos (by omega), if_pos h, if_neg (by omega)]; simp; omega
    · rw [if_pos (by omega), if_neg (by omega), if_pos h]; simp; omega
    · rw [if_neg (by omega), if_neg (by omega), if_neg (by omega)]; simp
theorem cntB_le (l : List Lnk) (i : Int) (N : Nat) : cntB l i N ≤ N := by
  induction N with
  | zero => exact Nat.le_refl _
  | succ N ih => simp only [cntB]; split <;> omega
theorem cntB_zero {l : List Lnk} {i : Int} {N : Nat} (h : ∀ e, e < N → i ≤ frm l e) : cntB l i N = 0 := by
  induction N with
  | zero => rfl
  | succ N ih => simp only [cntB]; rw [ih (fun e he => h e (by omega)), if_neg (by have := h N (by omega); omega)]
theorem cntB_all {l : List Lnk} {i : Int} {N : Nat} (h : ∀ e, e < N → frm l e < i) : cntB l i N = N := by
  induction N with
  | zero => rfl
  | succ N ih => simp only [cntB]; rw [ih (fun e he => h e (by omega)), if_pos (h N (by omega))]
theorem outS_none {l : List Lnk} {i : Int} {N : Nat} (h : ∀ e, e < N → frm l e ≠ i) : outS l i N = [] := by
  rcases List.eq_nil_or_concat (outS l i N) with h0 | ⟨r, x, h0⟩
  · exact h0
  · have : x ∈ outS l i N := by rw [h0]; simp
    obtain ⟨e, he, _, hf⟩ := mem_outS.1 this
    exact absurd hf (h e he)
theorem outS_sorted (l : List Lnk) (i : Int) (N : Nat) : (outS l i N).Pairwise (· < ·) := by
  unfold outS
  refine List.Pairwise.filter _ ?_
  exact List.pairwise_map.2 (List.Pairwise.imp (fun {a b} h => by omega) List.pairwise_lt_range)
theorem sorted_at {L : List Int} (h : L.Pairwise (· < ·)) {i j : Nat} {x y : Int} (hi : L[i]? = some x) (hj : L[j]? = some y) (hij : i < j) : x < y := by
  obtain ⟨h1, rfl⟩ := List.getElem?_eq_some_iff.1 hi
  obtain ⟨h2, rfl⟩ := List.getElem?_eq_some_iff.1 hj
  exact List.pairwise_iff_getElem.1 h i j h1 h2 hij
theorem sorted_not_before {L : List Int} (h : L.Pairwise (· < ·)) {k : Nat} {x : Int} (hk : L[k]? = some x) : x ∉ L.take k := by
  intro hm
  obtain ⟨j, hj, hx⟩ := List.getElem_of_mem hm
  rw [List.length_take] at hj
  have h1 : L[j]? = some x := by
    rw [List.getElem_take] at hx
    rw [List.getElem?_eq_getElem (by omega), hx]
  have := sorted_at h h1 hk (by omega)
  omega
theorem chk_all {nd : Int} {l : List Lnk} {i : Nat} (h : (chk nd l i).2 = 0) : ∀ x ∈ l, lnkErr nd x = 0 := by
  induction l generalizing i with
  | nil => intro x hx; cases hx
  | cons a r ih =>
    simp only [chk] at h
    split at h
    · intro x hx
      rcases List.mem_cons.1 hx with rfl | hx
      · assumption
      · exact ih h x hx
    · exact absurd h ‹_›
theorem frm_range {nd : Int} {l : List Lnk} (h : (chk nd l 0).2 = 0) {e : Nat} (he : e < 2 * l.length) : 0 ≤ frm l e ∧ frm l e < nd := by
  obtain ⟨x, hx⟩ : ∃ x, l[e / 2]? = some x := ⟨l[e / 2]'(by omega), List.getElem?_eq_getElem _⟩
  have h1 := chk_all h x (List.mem_of_getElem? hx)
  have h2 := endsS_some hx
  unfold lnkErr at h1
  split at h1
  · rename_i h3
    unfold frm
    rw [h2]
    split
    · exact ⟨h3.1, h3.2.1⟩
    · exact ⟨h3.2.2.1, h3.2.2.2.1⟩
  · cases h1
/-- What the next edge of a node's row is. -/
theorem row_next {l : List Lnk} {i : Int} {N k : Nat} {x : Int} (h : (outS l i N)[k]? = some x) : ∃ e : Nat, x = (e : Int) ∧ e < N ∧ frm l e = i ∧ (e : Int) ∉ (outS l i N).take k := by
  obtain ⟨e, he, rfl, hf⟩ := mem_outS.1 (List.mem_of_getElem? h)
  exact ⟨e, rfl, he, hf, sorted_not_before (outS_sorted l i N) h⟩
/-- What is marked: the edges of the nodes below i, and the first k of node i. -/
def marks (l : List Lnk) (i : Int) (N k : Nat) (e : Nat) : Bool := decide (frm l e < i) || decide ((e : Int) ∈ (outS l i N).take k)
theorem marks_new {l : List Lnk} {i : Int} {N k e : Nat} (hf : frm l e = i) (hm : (e : Int) ∉ (outS l i N).take k) : marks l i N k e = false := by
  simp [marks, hf, hm]
theorem marks_step {l : List Lnk} {i : Int} {N k e : Nat} (h : (outS l i N)[k]? = some (e : Int)) (j : Nat) : marks l i N (k + 1) j = if j = e then true else marks l i N k j := by
  unfold marks
  have h1 := mem_take_succ (k := (j : Int)) h
  by_cases hj : j = e
  · subst hj
    rw [if_pos rfl, decide_eq_true (h1.2 (.inr rfl))]; simp
  · rw [if_neg hj]
    congr 1
    rw [decide_eq_decide, h1]
    exact ⟨fun h => h.elim id (fun h => absurd h (by omega)), .inl⟩
theorem marks_end {l : List Lnk} {i : Int} {N m j : Nat} (hm : (outS l i N).length = m) (hj : j < N) : marks l (i + 1) N 0 j = marks l i N m j := by
  unfold marks
  rw [List.take_zero, List.take_of_length_le (show (outS l i N).length ≤ m by omega)]
  by_cases h : frm l j = i
  · rw [decide_eq_true (by omega), decide_eq_true (mem_outS.2 ⟨j, hj, rfl, h⟩)]; simp
  · have hn : (j : Int) ∉ outS l i N := by
      intro hmem
      obtain ⟨e, _, he, hf⟩ := mem_outS.1 hmem
      have : e = j := by omega
      subst this
      exact h hf
    rw [decide_eq_false hn]
    simp
    omega
theorem marks_zero {l : List Lnk} {N j : Nat} (h : 0 ≤ frm l j) : marks l 0 N 0 j = false := by
  simp [marks]; omega
end Go.Proofs.Ytjblhajmnlcfaaa
