/- waymarkref1.Next. -/
import Derived.Test.YtabgbhkpeeibaaaSpC
import Derived.Deep.RegionHeld3
namespace Go.Proofs.Ytabgbhkpeeibaaa
open Go.RowKit
set_option maxHeartbeats 6400000
set_option maxRecDepth 100000
/-- Does an edge lead on? -/
def onS (l : List Lnk) (dn : List Bool) (to : List Int) (node : Int) (e : Int) : Bool := !isDn dn (e.toNat / 2) && decide (0 ≤ dAt to (tov l e.toNat)) && (dAt to node - dAt to (tov l e.toNat) == met l e.toNat)
/-- What Next answers. -/
def nextS (nd : Int) (l : List Lnk) (dn : List Bool) (to : List Int) (node : Int) : List Int :=
  if (checkS nd l).2 = 0 ∧ (to.length : Int) = nd ∧ 0 ≤ node ∧ node < nd ∧ 0 < dAt to node then (outS l node (2 * l.length)).filter (onS l dn to node) else []
theorem refNext_not (nd : Int) (A : Option Addr) (n c : Nat) (l : List Lnk) (Ad : Option Addr) (n' c' : Nat) (dn : List Bool) (At : Option Addr) (n2 c2 : Nat) (to : List Int) (s : Int) (w : World) (hr : RLnk w w.heap.size A n l) (ht : RInt w w.heap.size At n2 to)
    (h : ¬((checkS nd l).2 = 0 ∧ (to.length : Int) = nd ∧ 0 ≤ s ∧ s < nd ∧ 0 < dAt to s)) :
    Calls Try.prog 44 #[.agg #[.int .i64 nd, .slice A n c], .slice Ad n' c', .slice At n2 c2, .int .i64 s] w (IntAns (nextS nd l dn to s) w) := by
  have Q : nextS nd l dn to s = [] := by unfold nextS; rw [if_neg h]
  rw [Q]
  have hS := Held.start w nd A n c
  have HK' := hid (fun (w' : World) (h : Held w nd A n c w') => h.calls (refCheck_any nd A n c l w' (h.on hr)))
  have HNd := hid (fun (w' : World) (h : Held w nd A n c w') => h.calls (node_any nd A n c s w'))
  obtain ⟨k1, hk1⟩ : ∃ k1, (checkS nd l).1 = k1 := ⟨_, rfl⟩
  obtain ⟨g0, g1⟩ := hS.cells
  have hlen := ht.1
  by_cases h2 : (checkS nd l).2 = 0
  · rw [hk1, h2] at HK'
    have tE : ((0 : Int) != 0) = false := by decide
    by_cases h3 : (n2 : Int) = nd
    · have t3 : ((n2 : Int) != nd) = false := by simpa using h3
      by_cases h4 : 0 ≤ s ∧ s < nd
      · have hb : (decide (0 ≤ s) && decide (s < nd)) = true := by simp [h4]
        rw [hb] at HNd
        obtain ⟨v, rfl⟩ := Int.eq_ofNat_of_zero_le h4.1
        have hv : v < n2 := by omega
        obtain ⟨bt, ot, rfl, hbt, hct⟩ := ht.2 (by omega)
        have ct := hct v _ (dAt_get (by omega))
        obtain ⟨x, hx⟩ : ∃ x, dAt to (v : Int) = x := ⟨_, rfl⟩
        rw [hx] at ct
        have t5 : decide (x ≤ 0) = true := by rw [← hx]; simp; omega
        have CT := hid (fun (w' : World) (h' : Held w nd A n c w') => (h'.1.cell (p := ⟨bt, ot + v, none⟩) hbt).trans ct)
        clear hr h h2 hk1 hb Q h4 ht hct hx h3 hlen ct
        go_enter Try.func44, Try.ntmps44
        go_wp2_with (first
          | (go_at_call 24; (with_reducible refine (HK'.out _ hS).mono ?_); rintro e' w1 ⟨rfl, h1⟩; obtain ⟨g2, g3⟩ := h1.cells)
          | (go_at_call 36; (with_reducible refine (HNd.out _ h1).mono ?_); rintro e' w2 ⟨rfl, h3⟩; obtain ⟨g4, g5⟩ := h3.cells; have cc := CT.out _ h3))
        go_ret
        exact ⟨_, rfl, World.ownsRow_nil _ _ _ _, h3.1⟩
      · have hb : (decide (0 ≤ s) && decide (s < nd)) = false := by
          rcases (show ¬(0 ≤ s) ∨ ¬(s < nd) by omega) with h5 | h5 <;> simp [h5]
        rw [hb] at HNd
        clear hr h h2 hk1 hb Q h4 ht h3 hlen
        go_enter Try.func44, Try.ntmps44
        go_wp2_with (first
          | (go_at_call 24; (with_reducible refine (HK'.out _ hS).mono ?_); rintro e' w1 ⟨rfl, h1⟩; obtain ⟨g2, g3⟩ := h1.cells)
          | (go_at_call 36; (with_reducible refine (HNd.out _ h1).mono ?_); rintro e' w2 ⟨rfl, h3⟩; obtain ⟨g4, g5⟩ := h3.cells))
        go_ret
        exact ⟨_, rfl, World.ownsRow_nil _ _ _ _, h3.1⟩
    · have t3 : ((n2 : Int) != nd) = true := by simpa using h3
      clear hr h h2 hk1 Q ht h3 hlen
      go_enter Try.func44, Try.ntmps44
      go_wp2_with (first
        | (go_at_call 24; (with_reducible refine (HK'.out _ hS).mono ?_); rintro e' w1 ⟨rfl, h1⟩; obtain ⟨g2, g3⟩ := h1.cells))
      go_ret
      exact ⟨_, rfl, World.ownsRow_nil _ _ _ _, h1.1⟩
  · obtain ⟨k2, hk2⟩ : ∃ k2, (checkS nd l).2 = k2 := ⟨_, rfl⟩
    rw [hk1, hk2] at HK'
    have t1 : (k2 != 0) = true := by rw [← hk2]; simpa using h2
    clear hr h h2 hk1 hk2 Q ht hlen
    go_enter Try.func44, Try.ntmps44
    go_wp2_with (first
      | (go_at_call 24; (with_reducible refine (HK'.out _ hS).mono ?_); rintro e' w1 ⟨rfl, h1⟩; obtain ⟨g2, g3⟩ := h1.cells))
    go_ret
    exact ⟨_, rfl, World.ownsRow_nil _ _ _ _, h1.1⟩
end Go.Proofs.Ytabgbhkpeeibaaa
