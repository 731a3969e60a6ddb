/- What a call of a law holds: the box of the graph stays. -/
import Derived.Test.YtjblhajmnlcfaaaWgB
namespace Go.Proofs.Ytjblhajmnlcfaaa
open Go.RowKit
set_option maxHeartbeats 6400000
set_option maxRecDepth 100000
/-- What Out answers. -/
def OutAns (l : List Lnk) (node : Int) (w : World) (e : Ending) (w' : World) : Prop :=
  ∃ v, e = .returned v ∧ w'.ownsRow w.heap.size 3 1 v (outS l node (2 * l.length)).length (icells (outS l node (2 * l.length))) ∧ Below w.heap.size w w'
/-- The links read as before below w's end, and the graph's box stands. -/
def Held (w : World) (nd : Int) (A : Option Addr) (n c : Nat) (w' : World) : Prop :=
  Below w.heap.size w w' ∧ w'.heap[w.heap.size]? = some (.cells #[.int .i64 nd, .slice A n c] 24 (0, 0))
theorem Held.start (w : World) (nd : Int) (A : Option Addr) (n c : Nat) : Held w nd A n c (w.alloc (.cells #[.int .i64 nd, .slice A n c] 24)) :=
  ⟨Below.alloc (Below.refl _ _) (Nat.le_refl _) _, heap_alloc_new w _⟩
theorem Held.lt {w w' : World} {nd : Int} {A : Option Addr} {n c : Nat} (h : Held w nd A n c w') : w.heap.size < w'.heap.size := by
  rcases Nat.lt_or_ge w.heap.size w'.heap.size with h1 | h1
  · exact h1
  · have := h.2; rw [Array.getElem?_eq_none h1] at this; cases this
theorem Held.next {w w' w'' : World} {nd : Int} {A : Option Addr} {n c : Nat} (h : Held w nd A n c w') (hb : Below w'.heap.size w' w'') : Held w nd A n c w'' :=
  ⟨h.1.trans (hb.mono h.1.size), box_below h.2 hb h.lt⟩
theorem Held.drewN {w w' : World} {nd : Int} {A : Option Addr} {n c : Nat} (h : Held w nd A n c w') (k : Nat) : Held w nd A n c (w'.drewN k) := ⟨below_drewN h.1, h.2⟩
theorem Held.drew {w w' : World} {nd : Int} {A : Option Addr} {n c : Nat} (h : Held w nd A n c w') : Held w nd A n c w'.drew := ⟨h.1.drew, h.2⟩
theorem Held.cells {w w' : World} {nd : Int} {A : Option Addr} {n c : Nat} (h : Held w nd A n c w') : w'.cell? ⟨w.heap.size, 0, none⟩ = some (.int .i64 nd) ∧ w'.cell? ⟨w.heap.size, 1, none⟩ = some (.slice A n c) :=
  ⟨(box_cells h.2).1, (box_cells h.2).2.1⟩
theorem Held.on {w w' : World} {nd : Int} {A A' : Option Addr} {n c n' : Nat} {l : List Lnk} (h : Held w nd A n c w') (hr : RLnk w w.heap.size A' n' l) : RLnk w' w'.heap.size A' n' l := hr.on h.1
theorem Held.calls {w : World} {nd : Int} {A : Option Addr} {n c : Nat} {f : Nat} {args : Array Value} {R : Ending → Prop} {w' : World} (h : Held w nd A n c w') (hc : Calls Try.prog f args w' fun e w'' => R e ∧ Below w'.heap.size w' w'') :
    Calls Try.prog f args w' fun e w'' => R e ∧ Held w nd A n c w'' := hc.mono fun _ _ ⟨h1, h2⟩ => ⟨h1, h.next h2⟩
/-- What a slice of numbers that a call made holds. -/
theorem held_out {w : World} {nd : Int} {A : Option Addr} {n c : Nat} {f : Nat} {args : Array Value} {l : List Lnk} {node : Int} {w' : World} (h : Held w nd A n c w') (hc : Calls Try.prog f args w' (OutAns l node w')) :
    Calls Try.prog f args w' fun e w'' => ∃ A' c', e = .returned (.slice A' (outS l node (2 * l.length)).length c') ∧ RInt w'' w''.heap.size A' (outS l node (2 * l.length)).length (outS l node (2 * l.length)) ∧ Below w'.heap.size w' w'' ∧ Held w nd A n c w'' := by
  refine hc.mono ?_
  rintro e' w'' ⟨v, rfl, hown, hb⟩
  obtain ⟨A', c', rfl, _, hr⟩ := own_ints hown rfl
  exact ⟨A', c', rfl, hr, hb, h.next hb⟩
theorem Held.set {w w' : World} {nd : Int} {A : Option Addr} {n c G j : Nat} {u : Value} (h : Held w nd A n c w') (hG : w.heap.size < G) : Held w nd A n c (w'.setCell ⟨G, j, none⟩ u) :=
  ⟨h.1.setCell (by show _ ≤ G; omega) u, (heap_setCell_other _ _ _ _ (by show _ ≠ G; omega)).trans h.2⟩

end Go.Proofs.Ytjblhajmnlcfaaa
