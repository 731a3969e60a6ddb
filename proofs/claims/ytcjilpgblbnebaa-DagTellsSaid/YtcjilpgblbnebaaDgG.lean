/- DagTells. -/
import Derived.Test.YtcjilpgblbnebaaDgF
namespace Go.Proofs.Ytcjilpgblbnebaa
open Go.RowKit
set_option maxHeartbeats 12800000
set_option maxRecDepth 100000
theorem tells_out (h : DagSpec 10 9 12) (nd : Int) (A : Option Addr) (n c : Nat) (Ad : Option Addr) (n' c' : Nat) (s t : Int) (w : World) (hh : 60 < n ∨ 200 < n') :
    Calls Try.prog 3 #[.agg #[.int .i64 nd, .slice A n c], .slice Ad n' c', .int .i64 s, .int .i64 t] w fun e w' => e = .returned (.bool true) ∧ Below w.heap.size w w' := by
  have HA := hid (fun (w' : World) (hh : Held w nd A n c w') => hh.calls (alive_any h w'))
  have hS := Held.start w nd A n c
  obtain ⟨g0, g1⟩ := hS.cells
  by_cases h4 : 60 < n
  · have t0 : decide ((60 : Int) < (n : Int)) = true := by simp; omega
    have t0' : decide (60 < n) = true := by simp; omega
    clear hh h4 h
    go_enter Try.func3, Try.ntmps3
    go_wp2_with (go_at_call 7; (with_reducible refine (HA.out _ hS).mono ?_); rintro e' w1 ⟨rfl, h1⟩; obtain ⟨g2, g3⟩ := h1.cells)
    go_ret
    exact ⟨rfl, h1.1⟩
  · have t0 : decide ((60 : Int) < (n : Int)) = false := by simp; omega
    have t0' : decide (60 < n) = false := by simp; omega
    have t1 : decide ((200 : Int) < (n' : Int)) = true := by simp; omega
    have t1' : decide (200 < n') = true := by simp; omega
    clear hh h4 h
    go_enter Try.func3, Try.ntmps3
    go_wp2_with (go_at_call 7; (with_reducible refine (HA.out _ hS).mono ?_); rintro e' w1 ⟨rfl, h1⟩; obtain ⟨g2, g3⟩ := h1.cells)
    go_ret
    exact ⟨rfl, h1.1⟩
theorem tells_in (h : DagSpec 10 9 12) (nd : Int) (A : Option Addr) (n c : Nat) (l : List Lnk) (Ad : Option Addr) (n' c' : Nat) (dn : List Bool) (s t : Int) (w : World) (hg : GArg w nd A n c l) (hd : DArg w Ad n' c' dn) (hn : n ≤ 60) (hs : In64 s) (ht : In64 t) :
    Calls Try.prog 3 #[.agg #[.int .i64 nd, .slice A n c], .slice Ad n' c', .int .i64 s, .int .i64 t] w fun e w' => e = .returned (.bool true) ∧ Below w.heap.size w w' := by
  have HA := hid (fun (w' : World) (hh : Held w nd A n c w') => hh.calls (alive_any h w'))
  have hS := Held.start w nd A n c
  obtain ⟨g0, g1⟩ := hS.cells
  have HW := hid (fun (w' : World) (hh : Held w nd A n c w') => hh.calls (refWays_any nd A n c l Ad n' c' dn s t w' (hg.on hh.1) (hd.on hh.1) hs ht))
  have HH := hid (fun (w' : World) (hh : Held w nd A n c w') => hh.calls (h.hops nd A n c l Ad n' c' dn s t w' (hg.on hh.1) (hd.on hh.1) hs ht))
  have HC := hid (fun (w' : World) (hh : Held w nd A n c w') => hh.calls (h.count nd A n c l Ad n' c' dn s t w' (hg.on hh.1) (hd.on hh.1) hs ht))
  have hlen := usesS_len nd l dn s t
  have hll := hg.row.1
  obtain ⟨L, hL⟩ : ∃ L, usesS nd l dn s t = L := ⟨_, rfl⟩
  obtain ⟨m, hm⟩ : ∃ m, L.length = m := ⟨_, rfl⟩
  rw [hL, hm] at hlen
  have HU : Hid (∀ w', Held w nd A n c w' → Calls Try.prog 12 #[.agg #[.int .i64 nd, .slice A n c], .slice Ad n' c', .int .i64 s, .int .i64 t] w' fun e w'' => ∃ A5 c5, e = .returned (.slice A5 m c5) ∧ RInt w'' w''.heap.size A5 m L ∧ Below w'.heap.size w' w'' ∧ Held w nd A n c w'') := by
    intro w' hh
    have h1 := h.uses nd A n c l Ad n' c' dn s t w' (hg.on hh.1) (hd.on hh.1) hs ht
    rw [hL] at h1
    unfold RowAns at h1
    rw [hm] at h1
    exact h1.mono fun _ _ ⟨A5, c5, e1, e2, e3⟩ => ⟨A5, c5, e1, e2, e3, hh.next e3⟩
  have HR : Hid (∀ w', Held w nd A n c w' → Calls Try.prog 13 #[.agg #[.int .i64 nd, .slice A n c], .slice Ad n' c', .int .i64 s, .int .i64 t] w' fun e w'' => ∃ A5 c5, e = .returned (.slice A5 m c5) ∧ RInt w'' w''.heap.size A5 m L ∧ Below w'.heap.size w' w'' ∧ Held w nd A n c w'') := by
    intro w' hh
    refine (refUses_any nd A n c l Ad n' c' dn s t w' (hg.on hh.1) (hd.on hh.1) hs ht).mono ?_
    rintro e' w'' ⟨v, rfl, hown, hb⟩
    rw [hL, hm] at hown
    obtain ⟨A5, c5, rfl, _, hr⟩ := own_ints hown hm
    exact ⟨A5, c5, rfl, hr, hb, hh.next hb⟩
  have HSm := hid (fun (A1 A2 : Option Addr) (c1 c2 : Nat) (w' : World) (h1 : RInt w' w'.heap.size A1 m L) (h2 : RInt w' w'.heap.size A2 m L) => same_any A1 A2 m c1 c2 L w' h1 h2 (by omega))
  obtain ⟨y, hy⟩ : ∃ y, waysS nd l dn s t = y := ⟨_, rfl⟩
  obtain ⟨y1, y2, y3, y4⟩ := y
  rw [hy] at HW
  simp only [hy] at HH HC
  have t0 : decide ((60 : Int) < (n : Int)) = false := by simp; omega
  have t0' : decide (60 < n) = false := by simp; omega
  have hn2 := hd.len
  have t1 : decide ((200 : Int) < (n' : Int)) = false := by simp; omega
  have t1' : decide (200 < n') = false := by simp; omega
  have u1 : ((y1 : Int) == (y1 : Int)) = true := by simp
  have u2 : ((y2 : Int) == (y2 : Int)) = true := by simp
  have u3 : ((y3 : Int) == (y3 : Int)) = true := by simp
  have u4 : (y4 == y4) = true := by simp
  clear h hg hd hlen hL hm hy hs ht
  go_enter Try.func3, Try.ntmps3
  go_wp2_with (first
    | (go_at_call 7; (with_reducible refine (HA.out _ hS).mono ?_); rintro e' w1 ⟨rfl, h1⟩; obtain ⟨g2, g3⟩ := h1.cells)
    | (go_at_call 8; (with_reducible refine (HW.out _ h1).mono ?_); rintro e' w2 ⟨rfl, h2⟩; obtain ⟨g4, g5⟩ := h2.cells)
    | (go_at_call 9; (with_reducible refine (HH.out _ h2).mono ?_); rintro e' w3 ⟨rfl, h3⟩; obtain ⟨g6, g7⟩ := h3.cells))
  have h3d := h3.drew
  obtain ⟨k0, k1⟩ := h3d.cells
  clear g0 g1 g2 g3 g4 g5 g6 g7
  go_region_held3 (fun w' => w'.cell? ⟨w.heap.size, 0, none⟩ = some (.int .i64 nd) ∧ w'.cell? ⟨w.heap.size, 1, none⟩ = some (.slice A n c))
    (first
      | go_keep
      | exact h7.cells
      | exact h6.cells
      | exact h5.cells
      | exact h4.cells)
    (first
      | (go_at_call 10; (with_reducible refine (HC.out _ h3d).mono ?_); rintro e' w4 ⟨rfl, h4⟩)
      | (go_at_call 12; (with_reducible refine (HU.out _ h4).mono ?_); rintro e' w5 ⟨A5, c5, rfl, r5, b5, h5⟩; have R5 := hid r5; clear r5)
      | (go_at_call 13; (with_reducible refine (HR.out _ h5).mono ?_); rintro e' w6 ⟨A6, c6, rfl, r6, b6, h6⟩; have R6 := hid r6; have R56 := hid (R5.out.on b6); clear r6)
      | (go_at_call 11; (with_reducible refine (HSm.out A5 A6 c5 c6 _ R56.out R6.out).mono ?_); rintro e' w7 ⟨rfl, b7⟩; have h7 := h6.next b7))
  go_wp2_with fail
  go_ret
  exact ⟨rfl, h7.1⟩
theorem dtells_any (h : DagSpec 10 9 12) (nd : Int) (A : Option Addr) (n c : Nat) (l : List Lnk) (Ad : Option Addr) (n' c' : Nat) (dn : List Bool) (s t : Int) (w : World) (hr : RLnk w w.heap.size A n l) (hc : n ≤ c) (hA : A = none → n = 0 ∧ c = 0) (hd : RBl w w.heap.size Ad n' dn) (hc' : n' ≤ c') (hA' : Ad = none → n' = 0 ∧ c' = 0) (hr1 : -9223372036854775808 ≤ nd ∧ nd ≤ 9223372036854775807) (hs : In64 s) (ht : In64 t) :
    Calls Try.prog 3 #[.agg #[.int .i64 nd, .slice A n c], .slice Ad n' c', .int .i64 s, .int .i64 t] w fun e w' => e = .returned (.bool true) ∧ Below w.heap.size w w' := by
  by_cases hh : 60 < n ∨ 200 < n'
  · exact tells_out h nd A n c Ad n' c' s t w hh
  · exact tells_in h nd A n c l Ad n' c' dn s t w ⟨hr, by omega, hc, hA, hr1.1, hr1.2⟩ ⟨hd, by omega, hc', hA'⟩ (by omega) hs ht
end Go.Proofs.Ytcjilpgblbnebaa
