/- TablesMeet. -/
import Derived.Test.YtiklfbbefchhlaaTbB
import Derived.Test.YtiklfbbefchhlaaWgC
namespace Go.Proofs.Ytiklfbbefchhlaa
open Go.RowKit
set_option maxHeartbeats 3200000
set_option maxRecDepth 100000
/-- What a law holds while it calls: the graph's box, and the tables. -/
structure HeldT (TabAt : World → Addr → Nat → List Lnk → Prop) (w : World) (nd : Int) (A : Option Addr) (n c : Nat) (p : Addr) (N : Nat) (l : List Lnk) (w' : World) : Prop where
  held : Held w nd A n c w'
  tab : TabAt w' p N l
theorem HeldT.next {TabAt : World → Addr → Nat → List Lnk → Prop} (hk : ∀ (w w' : World) (p : Addr) (N : Nat) (l : List Lnk), TabAt w p N l → Below w.heap.size w w' → TabAt w' p N l) {w w' w'' : World} {nd : Int} {A : Option Addr} {n c : Nat} {p : Addr} {N : Nat} {l : List Lnk} (h : HeldT TabAt w nd A n c p N l w') (hb : Below w'.heap.size w' w'') : HeldT TabAt w nd A n c p N l w'' :=
  ⟨h.held.next hb, hk _ _ _ _ _ h.tab hb⟩
theorem new_held {TabAt : World → Addr → Nat → List Lnk → Prop} {fNew fDist fNext : Nat} (ho : TabOps TabAt fNew fDist fNext) {nd : Int} {A : Option Addr} {n c : Nat} {l : List Lnk} {w w' : World} (hg : GAny w nd A n c l) (h : Held w nd A n c w') :
    ((checkS nd l).2 = 0 → ∃ N : Nat, nd = (N : Int) ∧ GOk N l ∧ Calls Try.prog fNew #[.agg #[.int .i64 nd, .slice A n c]] w' fun e w'' => ∃ p, e = .returned (.tuple #[.pointer (some p), .int .i64 0]) ∧ HeldT TabAt w nd A n c p N l w'') ∧
    ((checkS nd l).2 ≠ 0 → Calls Try.prog fNew #[.agg #[.int .i64 nd, .slice A n c]] w' fun e w'' => e = .returned (.tuple #[.pointer none, .int .i64 (checkS nd l).2]) ∧ Held w nd A n c w'') := by
  have hn := ho.new nd A n c l w' (hg.on h.1)
  refine ⟨fun h0 => ?_, fun h0 => ?_⟩
  · obtain ⟨_, h2, _, _⟩ := checkS_ok h0
    obtain ⟨N, rfl⟩ := Int.eq_ofNat_of_zero_le (show 0 ≤ nd by omega)
    refine ⟨N, rfl, gok_of h0, hn.mono ?_⟩
    rintro e' w'' ⟨hb, h1⟩
    rcases h1 with ⟨_, p, M, hM, rfl, ht⟩ | ⟨h1, _⟩
    · obtain rfl : M = N := by omega
      exact ⟨p, rfl, h.next hb, ht⟩
    · exact absurd h0 h1
  · refine hn.mono ?_
    rintro e' w'' ⟨hb, h1⟩
    rcases h1 with ⟨h1, _⟩ | ⟨_, rfl⟩
    · exact absurd h1 h0
    · exact ⟨rfl, h.next hb⟩
theorem meet_any (h : TabSpec 7 10 11 14) (nd : Int) (A : Option Addr) (n c : Nat) (l : List Lnk) (a b d : Int) (w : World) (hg : GAny w nd A n c l) (ha : In64 a) (hb : In64 b) (hd : In64 d) :
    Calls Try.prog 4 #[.agg #[.int .i64 nd, .slice A n c], .int .i64 a, .int .i64 b, .int .i64 d] w fun e w' => e = .returned (.bool true) ∧ Below w.heap.size w w' := by
  have HA := hid (fun (w' : World) (hh : Held w nd A n c w') => hh.calls (alive_any h w'))
  obtain ⟨TabAt, ho, _⟩ := h
  have hS := Held.start w nd A n c
  obtain ⟨g0, g1⟩ := hS.cells
  have HNum := hid num_any
  have hl := hg.row.1
  by_cases h0 : (checkS nd l).2 = 0
  · obtain ⟨h1, _⟩ := checkS_ok h0
    have HN := hid (fun (w' : World) (hh : Held w nd A n c w') => (new_held ho hg hh).1 h0)
    obtain ⟨N, rfl⟩ : ∃ N : Nat, nd = (N : Int) := by obtain ⟨_, h2, _, _⟩ := checkS_ok h0; exact Int.eq_ofNat_of_zero_le (by omega)
    have hok := gok_of h0
    have HN2 := hid (fun (w' : World) (hh : Held w (N : Int) A n c w') => show Calls Try.prog 7 #[.agg #[.int .i64 (N : Int), .slice A n c]] w' fun e w'' => ∃ p, e = .returned (.tuple #[.pointer (some p), .int .i64 0]) ∧ HeldT TabAt w (N : Int) A n c p N l w'' by
      obtain ⟨M, hM, _, hc⟩ := HN.out w' hh
      obtain rfl : N = M := by omega
      exact hc)
    have HD := hid (fun (a b : Int) (ha : In64 a) (hb : In64 b) (p : Addr) (w' : World) (hh : HeldT TabAt w (N : Int) A n c p N l w') => (ho.dist w' p N l a b hh.tab hok ha hb).mono (fun e w'' h => (⟨h.1, hh.next ho.keep h.2⟩ : _ ∧ HeldT TabAt w (N : Int) A n c p N l w'')))
    have r1 := distT_range hok a b
    have r2 := distT_range hok b d
    have r3 := distT_range hok a d
    have t1 := distT_tri hok (a := a) (b := b) (c := d)
    have HD1 := hid (HD.out a b ha hb)
    have HD2 := hid (HD.out b d hb hd)
    have HD3 := hid (HD.out a d ha hd)
    have HD4 := hid (HD.out b a hb ha)
    rw [distT_sym hok b a] at HD4
    obtain ⟨x, hx⟩ : ∃ x, distT N l a b = x := ⟨_, rfl⟩
    obtain ⟨y, hy⟩ : ∃ y, distT N l b d = y := ⟨_, rfl⟩
    obtain ⟨z, hz⟩ : ∃ z, distT N l a d = z := ⟨_, rfl⟩
    rw [hx] at HD1 HD4 r1 t1
    rw [hy] at HD2 r2 t1
    rw [hz] at HD3 r3 t1
    have hw : IntKind.i64.wrap (x + y) = x + y := by rw [IntKind.wrap_i64]; omega
    have t0 : decide ((130 : Int) < (n : Int)) = false := by simp; omega
    have t0' : decide (130 < n) = false := by simp; omega
    have s1 : (x == x) = true := by simp
    clear HN HD hx hy hz ho hg h0 hl hok
    by_cases c1 : 0 ≤ x
    · have d1 : decide (0 ≤ x) = true := by simpa using c1
      by_cases c2 : 0 ≤ y
      · have d2 : decide (0 ≤ y) = true := by simpa using c2
        have d3 : decide (z < 0) = false := by have := t1 c1 c2; simp; omega
        have d4 : decide (x + y < z) = false := by have := t1 c1 c2; simp; omega
        clear t1 c1 c2 h1
        go_enter Try.func4, Try.ntmps4
        go_wp2_with (first
          | (go_at_call 6; (with_reducible refine (HA.out _ hS).mono ?_); rintro e' w1 ⟨rfl, h1⟩; obtain ⟨g2, g3⟩ := h1.cells)
          | (go_at_call 7; (with_reducible refine (HN2.out _ h1).mono ?_); rintro e' w2 ⟨p, rfl, h2⟩; obtain ⟨g4, g5⟩ := h2.held.cells)
          | (go_at_call 9; (with_reducible refine (HNum.out _ _).mono ?_); rintro _ _ ⟨rfl, rfl⟩)
          | (go_at_call 11; (with_reducible refine (HD1.out _ _ h2).mono ?_); rintro e' w3 ⟨rfl, h3⟩)
          | (go_at_call 11; (with_reducible refine (HD2.out _ _ h3).mono ?_); rintro e' w4 ⟨rfl, h4⟩)
          | (go_at_call 11; (with_reducible refine (HD3.out _ _ h4).mono ?_); rintro e' w5 ⟨rfl, h5⟩)
          | (go_at_call 11; (with_reducible refine (HD4.out _ _ h5).mono ?_); rintro e' w6 ⟨rfl, h6⟩))
        go_ret
        exact ⟨rfl, h6.held.1⟩
      · have d2 : decide (0 ≤ y) = false := by simpa using c2
        clear t1 c1 c2 h1
        go_enter Try.func4, Try.ntmps4
        go_wp2_with (first
          | (go_at_call 6; (with_reducible refine (HA.out _ hS).mono ?_); rintro e' w1 ⟨rfl, h1⟩; obtain ⟨g2, g3⟩ := h1.cells)
          | (go_at_call 7; (with_reducible refine (HN2.out _ h1).mono ?_); rintro e' w2 ⟨p, rfl, h2⟩; obtain ⟨g4, g5⟩ := h2.held.cells)
          | (go_at_call 9; (with_reducible refine (HNum.out _ _).mono ?_); rintro _ _ ⟨rfl, rfl⟩)
          | (go_at_call 11; (with_reducible refine (HD1.out _ _ h2).mono ?_); rintro e' w3 ⟨rfl, h3⟩)
          | (go_at_call 11; (with_reducible refine (HD2.out _ _ h3).mono ?_); rintro e' w4 ⟨rfl, h4⟩)
          | (go_at_call 11; (with_reducible refine (HD3.out _ _ h4).mono ?_); rintro e' w5 ⟨rfl, h5⟩)
          | (go_at_call 11; (with_reducible refine (HD4.out _ _ h5).mono ?_); rintro e' w6 ⟨rfl, h6⟩))
        go_ret
        exact ⟨rfl, h6.held.1⟩
    · have d1 : decide (0 ≤ x) = false := by simpa using c1
      clear t1 c1 h1
      go_enter Try.func4, Try.ntmps4
      go_wp2_with (first
        | (go_at_call 6; (with_reducible refine (HA.out _ hS).mono ?_); rintro e' w1 ⟨rfl, h1⟩; obtain ⟨g2, g3⟩ := h1.cells)
        | (go_at_call 7; (with_reducible refine (HN2.out _ h1).mono ?_); rintro e' w2 ⟨p, rfl, h2⟩; obtain ⟨g4, g5⟩ := h2.held.cells)
        | (go_at_call 9; (with_reducible refine (HNum.out _ _).mono ?_); rintro _ _ ⟨rfl, rfl⟩)
        | (go_at_call 11; (with_reducible refine (HD1.out _ _ h2).mono ?_); rintro e' w3 ⟨rfl, h3⟩)
        | (go_at_call 11; (with_reducible refine (HD2.out _ _ h3).mono ?_); rintro e' w4 ⟨rfl, h4⟩)
        | (go_at_call 11; (with_reducible refine (HD3.out _ _ h4).mono ?_); rintro e' w5 ⟨rfl, h5⟩)
        | (go_at_call 11; (with_reducible refine (HD4.out _ _ h5).mono ?_); rintro e' w6 ⟨rfl, h6⟩))
      go_ret
      exact ⟨rfl, h6.held.1⟩
  · have HN := hid (fun (w' : World) (hh : Held w nd A n c w') => (new_held ho hg hh).2 h0)
    obtain ⟨k, hk⟩ : ∃ k, (checkS nd l).2 = k := ⟨_, rfl⟩
    rw [hk] at HN h0
    have t1 : (k != 0) = true := by simpa using h0
    by_cases hn : 130 < n
    · have t0 : decide ((130 : Int) < (n : Int)) = true := by simp; omega
      have t0' : decide (130 < n) = true := by simp; omega
      clear hk h0 hg hl hn ho
      go_enter Try.func4, Try.ntmps4
      go_wp2_with (first
        | (go_at_call 6; (with_reducible refine (HA.out _ hS).mono ?_); rintro e' w1 ⟨rfl, h1⟩; obtain ⟨g2, g3⟩ := h1.cells)
        | (go_at_call 7; (with_reducible refine (HN.out _ h1).mono ?_); rintro e' w2 ⟨rfl, h2⟩; obtain ⟨g4, g5⟩ := h2.cells))
      go_ret
      exact ⟨rfl, h2.1⟩
    · have t0 : decide ((130 : Int) < (n : Int)) = false := by simp; omega
      have t0' : decide (130 < n) = false := by simp; omega
      clear hk h0 hg hl hn ho
      go_enter Try.func4, Try.ntmps4
      go_wp2_with (first
        | (go_at_call 6; (with_reducible refine (HA.out _ hS).mono ?_); rintro e' w1 ⟨rfl, h1⟩; obtain ⟨g2, g3⟩ := h1.cells)
        | (go_at_call 7; (with_reducible refine (HN.out _ h1).mono ?_); rintro e' w2 ⟨rfl, h2⟩; obtain ⟨g4, g5⟩ := h2.cells)
        | (go_at_call 9; (with_reducible refine (HNum.out _ _).mono ?_); rintro _ _ ⟨rfl, rfl⟩))
      go_ret
      exact ⟨rfl, h2.1⟩
end Go.Proofs.Ytiklfbbefchhlaa
