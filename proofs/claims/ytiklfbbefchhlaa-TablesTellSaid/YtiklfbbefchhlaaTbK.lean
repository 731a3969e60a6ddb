/- TablesTell. -/
import Derived.Test.YtiklfbbefchhlaaTbI
namespace Go.Proofs.Ytiklfbbefchhlaa
open Go.RowKit
set_option maxHeartbeats 6400000
set_option maxRecDepth 100000
theorem new_ref {TabAt : World → Addr → Nat → List Lnk → Prop} (hk : ∀ (w w' : World) (p : Addr) (N : Nat) (l : List Lnk), TabAt w p N l → Below w.heap.size w w' → TabAt w' p N l) {N : Nat} {A : Option Addr} {n c : Nat} {l : List Lnk} {p : Addr} {w w' : World} (hg : GAny w (N : Int) A n c l) (h0 : (checkS (N : Int) l).2 = 0) (h : HeldT TabAt w (N : Int) A n c p N l w') :
    Calls Try.prog 8 #[.agg #[.int .i64 (N : Int), .slice A n c]] w' fun e w'' => ∃ p', e = .returned (.tuple #[.pointer (some p'), .int .i64 0]) ∧ HeldT TabAt w (N : Int) A n c p N l w'' ∧ RefAt w'' p' N l := by
  refine (refOps.new (N : Int) A n c l w' (hg.on h.held.1)).mono ?_
  rintro e' w'' ⟨hb, h1⟩
  rcases h1 with ⟨_, p', M, hM, rfl, ht⟩ | ⟨h1, _⟩
  · obtain rfl : M = N := by omega
    exact ⟨p', rfl, h.next hk hb, ht⟩
  · exact absurd h0 h1
theorem graph_hq {TabAt : World → Addr → Nat → List Lnk → Prop} {fGraph : Nat} (hk : ∀ (w w' : World) (p : Addr) (N : Nat) (l : List Lnk), TabAt w p N l → Below w.heap.size w w' → TabAt w' p N l) (hgr : GraphOps TabAt fGraph) {N : Nat} {A : Option Addr} {n c : Nat} {l : List Lnk} {p p' : Addr} {w w' : World} (hok : GOk N l) (hl : l.length = n) (h : HeldT TabAt w (N : Int) A n c p N l w') (hr : RefAt w' p' N l) :
    Calls Try.prog fGraph #[.pointer (some p)] w' fun e w4 => ∃ Ag cg, e = .returned (.agg #[.int .i64 (N : Int), .slice Ag n cg]) ∧
      HQ TabAt w N A n c l p p' w4.heap.size Ag cg (w4.alloc (.cells #[.int .i64 (N : Int), .slice Ag n cg] 24)) := by
  refine (hgr w' p N l h.tab hok).mono ?_
  rintro e' w4 ⟨Ag, cg, rfl, hrl, hb⟩
  rw [hl] at hrl ⊢
  have hb5 : Below w4.heap.size w4 (w4.alloc (.cells #[.int .i64 (N : Int), .slice Ag n cg] 24)) :=
    (Below.refl _ _).alloc (Nat.le_refl _) _
  exact ⟨Ag, cg, rfl, (h.held.next hb).next hb5, hk _ _ _ _ _ (hk _ _ _ _ _ h.tab hb) hb5, refAt_keep _ _ _ _ _ (refAt_keep _ _ _ _ _ hr hb) hb5, heap_alloc_new w4 _, hrl.on hb5⟩
theorem dist_hq {TabAt : World → Addr → Nat → List Lnk → Prop} {fNew fDist fNext : Nat} (ho : TabOps TabAt fNew fDist fNext) {N : Nat} {A : Option Addr} {n c : Nat} {l : List Lnk} {p p' : Addr} {BX : Nat} {Ag : Option Addr} {cg : Nat} {w : World} (hok : GOk N l) (a b : Int) (ha : In64 a) (hb : In64 b) (w' : World) (h : HQ TabAt w N A n c l p p' BX Ag cg w') :
    (Calls Try.prog fDist #[.pointer (some p), .int .i64 a, .int .i64 b] w' fun e w'' => e = .returned (.int .i64 (distT N l a b)) ∧ HQ TabAt w N A n c l p p' BX Ag cg w'') ∧
    (Calls Try.prog 12 #[.pointer (some p'), .int .i64 a, .int .i64 b] w' fun e w'' => e = .returned (.int .i64 (distT N l a b)) ∧ HQ TabAt w N A n c l p p' BX Ag cg w'') :=
  ⟨(ho.dist w' p N l a b h.tab hok ha hb).mono fun _ _ h1 => ⟨h1.1, h.next ho.keep h1.2⟩, (refOps.dist w' p' N l a b h.ref hok ha hb).mono fun _ _ h1 => ⟨h1.1, h.next ho.keep h1.2⟩⟩
theorem next_hq {TabAt : World → Addr → Nat → List Lnk → Prop} {fNew fDist fNext : Nat} (ho : TabOps TabAt fNew fDist fNext) {N : Nat} {A : Option Addr} {n c : Nat} {l : List Lnk} {p p' : Addr} {BX : Nat} {Ag : Option Addr} {cg : Nat} {w : World} (hok : GOk N l) (a b : Int) (ha : In64 a) (hb : In64 b) (w' : World) (h : HQ TabAt w N A n c l p p' BX Ag cg w') :
    (Calls Try.prog fNext #[.pointer (some p), .int .i64 a, .int .i64 b] w' fun e w'' => ∃ A4 c4, e = .returned (.slice A4 (nextT N l a b).length c4) ∧ RInt w'' w''.heap.size A4 (nextT N l a b).length (nextT N l a b) ∧ Below w'.heap.size w' w'' ∧ HQ TabAt w N A n c l p p' BX Ag cg w'') ∧
    (Calls Try.prog 15 #[.pointer (some p'), .int .i64 a, .int .i64 b] w' fun e w'' => ∃ A4 c4, e = .returned (.slice A4 (nextT N l a b).length c4) ∧ RInt w'' w''.heap.size A4 (nextT N l a b).length (nextT N l a b) ∧ Below w'.heap.size w' w'' ∧ HQ TabAt w N A n c l p p' BX Ag cg w'') :=
  ⟨(ho.next w' p N l a b h.tab hok ha hb).mono fun _ _ ⟨A4, c4, h1, h2, h3⟩ => ⟨A4, c4, h1, h2, h3, h.next ho.keep h3⟩, (refOps.next w' p' N l a b h.ref hok ha hb).mono fun _ _ ⟨A4, c4, h1, h2, h3⟩ => ⟨A4, c4, h1, h2, h3, h.next ho.keep h3⟩⟩
theorem tell_not (h : TabSpec 7 10 11 14) (nd : Int) (A : Option Addr) (n c : Nat) (l : List Lnk) (a b : Int) (w : World) (hg : GAny w nd A n c l) (hn : 40 < n ∨ (checkS nd l).2 ≠ 0) :
    Calls Try.prog 3 #[.agg #[.int .i64 nd, .slice A n c], .int .i64 a, .int .i64 b] w fun e w' => e = .returned (.bool true) ∧ Below w.heap.size w w' := by
  have HA := hid (fun (w' : World) (hh : Held w nd A n c w') => hh.calls (alive_any h w'))
  obtain ⟨TabAt, ho, _⟩ := h
  have hS := Held.start w nd A n c
  obtain ⟨g0, g1⟩ := hS.cells
  have HNum := hid num_any
  by_cases h4 : 40 < n
  · have t0 : decide ((40 : Int) < (n : Int)) = true := by simp; omega
    have t0' : decide (40 < n) = true := by simp; omega
    clear hg hn h4 ho
    go_enter Try.func3, Try.ntmps3
    go_wp2_with (go_at_call 6; (with_reducible refine (HA.out _ hS).mono ?_); rintro e' w1 ⟨rfl, h1⟩; obtain ⟨g2, g3⟩ := h1.cells)
    go_ret
    exact ⟨rfl, h1.1⟩
  · have h0 : (checkS nd l).2 ≠ 0 := by rcases hn with h5 | h5; omega; exact h5
    have HN := hid (fun (w' : World) (hh : Held w nd A n c w') => (new_held ho hg hh).2 h0)
    have HR := hid (fun (w' : World) (hh : Held w nd A n c w') => (new_held refOps hg hh).2 h0)
    obtain ⟨k, hk⟩ : ∃ k, (checkS nd l).2 = k := ⟨_, rfl⟩
    rw [hk] at HN HR h0
    have t1 : (k != 0) = true := by simpa using h0
    have t2 : (k != k) = false := by simp
    have t0 : decide ((40 : Int) < (n : Int)) = false := by simp; omega
    have t0' : decide (40 < n) = false := by simp; omega
    clear hk h0 hg h4 hn ho
    go_enter Try.func3, Try.ntmps3
    go_wp2_with (first
      | (go_at_call 6; (with_reducible refine (HA.out _ hS).mono ?_); rintro e' w1 ⟨rfl, h1⟩; obtain ⟨g2, g3⟩ := h1.cells)
      | (go_at_call 7; (with_reducible refine (HN.out _ h1).mono ?_); rintro e' w2 ⟨rfl, h2⟩; obtain ⟨g4, g5⟩ := h2.cells)
      | (go_at_call 8; (with_reducible refine (HR.out _ h2).mono ?_); rintro e' w3 ⟨rfl, h3⟩; obtain ⟨g6, g7⟩ := h3.cells)
      | (go_at_call 9; (with_reducible refine (HNum.out _ _).mono ?_); rintro _ _ ⟨rfl, rfl⟩))
    go_ret
    exact ⟨rfl, h3.1⟩
end Go.Proofs.Ytiklfbbefchhlaa
