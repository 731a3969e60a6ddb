/- What the laws ask of package fib; alive; FibTells. -/
import Derived.Test.YtjblhajmnlcfaaaFiD
namespace Go.Proofs.Ytjblhajmnlcfaaa
open Go.RowKit
set_option maxHeartbeats 6400000
set_option maxRecDepth 100000
def J64 (a : Int) : Prop := -9223372036854775808 ≤ a ∧ a ≤ 9223372036854775807
/-- What Stack answers, where it lies and who made it apart. -/
def EnAns (L : List En) (w : World) (e : Ending) (w' : World) : Prop := ∃ A c, e = .returned (.slice A L.length c) ∧ (L.length ≤ c ∧ (A = none → L.length = 0 ∧ c = 0)) ∧ REn w' w'.heap.size A L.length L ∧ Below w.heap.size w w'
def SgAns (o : Option (List Sg)) (w : World) (e : Ending) (w' : World) : Prop := ∃ A c, e = .returned (.tuple #[.slice A (o.getD []).length c, .bool o.isSome]) ∧ RSeg w' w'.heap.size A (o.getD []).length (o.getD []) ∧ Below w.heap.size w w'
structure FibSpec (fLabel fSeg fStack fSegs : Nat) : Prop where
  label : ∀ (s : Sg) (w : World), J64 s.too → Calls Try.prog fLabel #[.agg #[.bool s.edge, .int .i64 s.too]] w fun e w' => e = .returned (.int .i64 (labelS s)) ∧ Below w.heap.size w w'
  seg : ∀ (nd : Int) (A : Option Addr) (n c : Nat) (l : List Lnk) (x : Int) (w : World), GArg w nd A n c l → J64 x → Calls Try.prog fSeg #[.agg #[.int .i64 nd, .slice A n c], .int .i64 x] w fun e w' => e = .returned (segV (segOf (checkS nd l).2 nd n x)) ∧ Below w.heap.size w w'
  stack : ∀ (A : Option Addr) (n c : Nat) (l : List Sg) (ttl : Int) (w : World), RSeg w w.heap.size A n l → n ≤ 40 → n ≤ c → (A = none → n = 0 ∧ c = 0) → (∀ s ∈ l, J64 s.too) → J64 ttl → Calls Try.prog fStack #[.slice A n c, .int .i64 ttl] w (EnAns (stackS l ttl) w)
  segs : ∀ (nd : Int) (A : Option Addr) (n c : Nat) (l : List Lnk) (A2 : Option Addr) (n2 c2 : Nat) (es : List En) (w : World), GArg w nd A n c l → REn w w.heap.size A2 n2 es → n2 ≤ 40 → n2 ≤ c2 → (A2 = none → n2 = 0 ∧ c2 = 0) → (∀ e ∈ es, J64 e.lab) → Calls Try.prog fSegs #[.agg #[.int .i64 nd, .slice A n c], .slice A2 n2 c2] w (SgAns (segsS (segOf (checkS nd l).2 nd n) es) w)
theorem own_none {w : World} {base e k n c : Nat} {A : Option Addr} {xs : List Value} (h : w.ownsRow base e k (.slice A n c) n xs) : A = none → n = 0 ∧ c = 0 := by
  rintro rfl
  rcases h.2 with ⟨h1, rfl⟩ | ⟨g, cap, cur, h1, _⟩
  · simp only [Value.slice.injEq] at h1
    exact ⟨rfl, h1.2.2⟩
  · simp at h1
theorem refStack_ans (A : Option Addr) (n c : Nat) (l : List Sg) (ttl : Int) (w : World) (h : RSeg w w.heap.size A n l) (hn : n ≤ 1000000) : Calls Try.prog 9 #[.slice A n c, .int .i64 ttl] w (EnAns (stackS l ttl) w) := by
  refine (refStack_any A n c l ttl w h hn).mono ?_
  rintro e w' ⟨v, rfl, ho, hb⟩
  obtain ⟨A', c', rfl, hc, hr⟩ := own_ens ho rfl
  exact ⟨A', c', rfl, ⟨hc, own_none ho⟩, hr, hb⟩
theorem refSegs_ans (nd : Int) (A : Option Addr) (n c : Nat) (l : List Lnk) (A2 : Option Addr) (n2 c2 : Nat) (es : List En) (w : World) (hr : RLnk w w.heap.size A n l) (hn : n ≤ 1000000) (h2 : REn w w.heap.size A2 n2 es) (hn2 : n2 ≤ 1000000) :
    Calls Try.prog 11 #[.agg #[.int .i64 nd, .slice A n c], .slice A2 n2 c2] w (SgAns (segsS (segOf (checkS nd l).2 nd n) es) w) := by
  refine (refSegs_any nd A n c l A2 n2 c2 es w hr hn h2 hn2).mono ?_
  rintro e w' ⟨v, rfl, ho, hb⟩
  obtain ⟨A', c', rfl, -, hr⟩ := own_segs ho rfl
  exact ⟨A', c', rfl, hr, hb⟩
theorem lnk_one (w : World) : RLnk (w.alloc (.cells #[.int .i64 0, .int .i64 1, .int .i64 1, .int .i64 0] 42)) (w.alloc (.cells #[.int .i64 0, .int .i64 1, .int .i64 1, .int .i64 0] 42)).heap.size (some ⟨w.heap.size, 0, none⟩) 1 [⟨0, 1, 1, 0⟩] := by
  refine ⟨rfl, fun _ => ⟨w.heap.size, 0, rfl, by simp, fun i e he => ?_⟩⟩
  have hi : i = 0 := by
    have := (List.getElem?_eq_some_iff.1 he).1
    simp at this; omega
  subst hi
  simp only [List.getElem?_cons_zero, Option.some.injEq] at he
  subst he
  have hg := heap_alloc_new w (.cells #[.int .i64 0, .int .i64 1, .int .i64 1, .int .i64 0] 42)
  refine ⟨?_, ?_, ?_, ?_⟩ <;> (rw [cell_of_row _ _ _ _ _ _ hg]; rfl)
theorem alive19 (h : FibSpec 12 6 8 10) (w : World) : Calls Try.prog 5 #[] w fun e w' => e = .returned (.bool true) ∧ Below w.heap.size w w' := by
  have H1 : Hid (∀ W : World, Calls Try.prog 6 #[.agg #[.int .i64 4, .slice (some ⟨W.heap.size, 0, none⟩) 1 1], .int .i64 24001] (W.alloc (.cells #[.int .i64 0, .int .i64 1, .int .i64 1, .int .i64 0] 42)) fun e w' => e = .returned (.tuple #[.agg #[.bool true, .int .i64 1], .bool true]) ∧ Below W.heap.size W w') := fun W => by
    refine (h.seg 4 (some ⟨W.heap.size, 0, none⟩) 1 1 [⟨0, 1, 1, 0⟩] 24001 _ ⟨lnk_one W, by omega, by omega, fun h => (by cases h), by omega, by omega⟩ (by unfold J64; omega)).mono ?_
    rintro e w' ⟨he, hb⟩
    have hv : segOf (checkS 4 [⟨0, 1, 1, 0⟩]).2 4 1 24001 = some ⟨true, 1⟩ := by rfl
    rw [hv] at he
    exact ⟨he, (Below.alloc (Below.refl _ _) (Nat.le_refl _) _).trans (hb.mono (by simp))⟩
  have H2 : Hid (∀ W : World, Calls Try.prog 12 #[.agg #[.bool false, .int .i64 3]] W fun e w' => e = .returned (.int .i64 16003) ∧ Below W.heap.size W w') := fun W => h.label ⟨false, 3⟩ W (by unfold J64; decide)
  have hq : ∀ W : World, (binOp .eql 26 (.agg #[.bool true, .int .i64 1]) (.agg #[.bool true, .int .i64 1])).run Try.prog W = .ok (.bool true) W := fun W => seg_eq ⟨true, 1⟩ ⟨true, 1⟩ W
  clear h
  go_enter Try.func5, Try.ntmps5
  go_wp2_with (first
    | (go_at_call 6; (with_reducible refine (H1.out _).mono ?_); rintro e' w1 ⟨rfl, hb1⟩)
    | (go_at_call 12; (with_reducible refine (H2.out _).mono ?_); rintro e' w2 ⟨rfl, hb2⟩; have hX := box_below (heap_alloc_new w1 (.cells #[.bool true, .int .i64 1] 26)) hb2 (by simp); obtain ⟨c0, c1, cf⟩ := box_cells hX))
  go_ret
  exact ⟨rfl, (hb1.alloc hb1.size _).trans (hb2.mono (by have := hb1.size; simp; omega))⟩
end Go.Proofs.Ytjblhajmnlcfaaa
