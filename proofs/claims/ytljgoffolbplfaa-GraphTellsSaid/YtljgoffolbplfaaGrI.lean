/- GraphTells. -/
import Derived.Test.YtljgoffolbplfaaGrH
import Derived.Deep.RegionHeld3
namespace Go.Proofs.Ytljgoffolbplfaa
open Go.RowKit
set_option maxHeartbeats 6400000
set_option maxRecDepth 100000
theorem tells_out (nd : Int) (A : Option Addr) (n c : Nat) (edge node : Int) (w : World) (h : 130 < n) :
    Calls Try.prog 3 #[.agg #[.int .i64 nd, .slice A n c], .int .i64 edge, .int .i64 node] w fun e w' => e = .returned (.bool true) ∧ Below w.heap.size w w' := by
  have t : decide ((130 : Int) < (n : Int)) = true := by simp; omega
  clear h
  have hS := Held.start w nd A n c
  have HA := hid (fun (w' : World) (h : Held w nd A n c w') => h.calls (alive_any w'))
  go_enter Try.func3, Try.ntmps3
  go_wp2_with (go_at_call 14; (with_reducible refine (HA.out _ hS).mono ?_); rintro e' w1 ⟨rfl, h1⟩; obtain ⟨g0, g1⟩ := h1.cells)
  go_ret
  exact ⟨rfl, h1.1⟩
theorem tells_in (nd : Int) (A : Option Addr) (n c : Nat) (l : List Lnk) (edge node : Int) (w : World) (hr : RLnk w w.heap.size A n l) (h : n ≤ 130) (he : edge ≤ 9223372036854775807) :
    Calls Try.prog 3 #[.agg #[.int .i64 nd, .slice A n c], .int .i64 edge, .int .i64 node] w fun e w' => e = .returned (.bool true) ∧ Below w.heap.size w w' := by
  have t : decide ((130 : Int) < (n : Int)) = false := by simp; omega
  have hS := Held.start w nd A n c
  have HA := hid (fun (w' : World) (h : Held w nd A n c w') => h.calls (alive_any w'))
  have HK := hid (fun (w' : World) (h : Held w nd A n c w') => h.calls (check_any nd A n c l w' (h.on hr)))
  have HK' := hid (fun (w' : World) (h : Held w nd A n c w') => h.calls (refCheck_any nd A n c l w' (h.on hr)))
  have HE := hid (fun (w' : World) (h' : Held w nd A n c w') => h'.calls (ends_any nd A n c l edge w' (h'.on hr) (by omega) he))
  have HE' := hid (fun (w' : World) (h' : Held w nd A n c w') => h'.calls (refEnds_any nd A n c l edge w' (h'.on hr) (by omega) he))
  have HO := hid (fun (w' : World) (h' : Held w nd A n c w') => held_out h' (out_any nd A n c l node w' (h'.on hr) (by omega)))
  have HO' := hid (fun (w' : World) (h' : Held w nd A n c w') => held_out h' (refOut_any nd A n c l node w' (h'.on hr) (by omega)))
  have HB := hid (fun (w' : World) => back_any edge w' he)
  have HB' := hid (fun (w' : World) => refBack_any edge w' he)
  have hm := outS_len l node (2 * l.length)
  rw [hr.1] at hm
  have hl := hr.1
  obtain ⟨k1, hk1⟩ : ∃ k1, (checkS nd l).1 = k1 := ⟨_, rfl⟩
  obtain ⟨k2, hk2⟩ : ∃ k2, (checkS nd l).2 = k2 := ⟨_, rfl⟩
  obtain ⟨e1, he1⟩ : ∃ e1, (endsS l edge).1 = e1 := ⟨_, rfl⟩
  obtain ⟨e2, he2⟩ : ∃ e2, (endsS l edge).2.1 = e2 := ⟨_, rfl⟩
  obtain ⟨e3, he3⟩ : ∃ e3, (endsS l edge).2.2 = e3 := ⟨_, rfl⟩
  obtain ⟨q, hq⟩ : ∃ q, backS edge = q := ⟨_, rfl⟩
  obtain ⟨L, hL⟩ : ∃ L, outS l node (2 * l.length) = L := ⟨_, rfl⟩
  obtain ⟨m, hM⟩ : ∃ m, L.length = m := ⟨_, rfl⟩
  rw [hl] at hL
  simp only [hl, hL, hM, hk1, hk2, he1, he2, he3, hq] at HK HK' HE HE' HO HO' HB HB' hm
  have HN := hid (fun w => num_any k2 w)
  have HSm := hid (fun (A1 A2 : Option Addr) (c1 c2 : Nat) (w' : World) (h1 : RInt w' w'.heap.size A1 m L) (h2 : RInt w' w'.heap.size A2 m L) => same_any A1 A2 m c1 c2 L w' h1 h2 (by omega))
  have s1 : (k1 == k1) = true := by simp
  have s2 : (k2 == k2) = true := by simp
  have s3 : (e1 == e1) = true := by simp
  have s4 : (e2 == e2) = true := by simp
  have s5 : (e3 == e3) = true := by simp
  have s6 : (q == q) = true := by simp
  clear hr he hl hk1 hk2 he1 he2 he3 hq hL hM
  go_enter Try.func3, Try.ntmps3
  go_wp2_with (first
    | (go_at_call 14; (with_reducible refine (HA.out _ hS).mono ?_); rintro e' w1 ⟨rfl, h1⟩; obtain ⟨g0, g1⟩ := h1.cells)
    | (go_at_call 15; (with_reducible refine (HK.out _ h1).mono ?_); rintro e' w2 ⟨rfl, h2⟩; obtain ⟨g2, g3⟩ := h2.cells)
    | (go_at_call 16; (with_reducible refine (HK'.out _ h2).mono ?_); rintro e' w3 ⟨rfl, h3⟩; obtain ⟨g4, g5⟩ := h3.cells)
    | (go_at_call 17; (with_reducible refine (HE.out _ h3).mono ?_); rintro e' w4 ⟨rfl, h4⟩; obtain ⟨g6, g7⟩ := h4.cells)
    | (go_at_call 18; (with_reducible refine (HE'.out _ h4).mono ?_); rintro e' w5 ⟨rfl, h5⟩; obtain ⟨g8, g9⟩ := h5.cells))
  have h6 := h5.drew
  go_region_held3 (fun w' => w'.cell? ⟨w.heap.size, 0, none⟩ = some (.int .i64 nd) ∧ w'.cell? ⟨w.heap.size, 1, none⟩ = some (.slice A n c))
    (first
      | go_keep
      | exact h9.cells
      | exact h8.cells
      | exact h7.cells)
    (first
      | (go_at_call 19; (with_reducible refine (HN.out _).mono ?_); rintro _ _ ⟨rfl, rfl⟩)
      | (go_at_call 21; (with_reducible refine (HO.out _ h6).mono ?_); rintro e' w7 ⟨A7, c7, rfl, hi7, hb7, h7⟩)
      | (go_at_call 22; (with_reducible refine (HO'.out _ h7).mono ?_); rintro e' w8 ⟨A8, c8, rfl, hi8, hb8, h8⟩)
      | (go_at_call 20; (with_reducible refine (HSm.out A7 A8 c7 c8 _ (hi7.on hb8) hi8).mono ?_); rintro e' w9 ⟨rfl, hb9⟩; have h9 := h8.next hb9)
      | (go_at_call 23; (with_reducible refine (HB.out _).mono ?_); rintro _ _ ⟨rfl, rfl⟩)
      | (go_at_call 24; (with_reducible refine (HB'.out _).mono ?_); rintro _ _ ⟨rfl, rfl⟩))
  go_wp2_with fail
  go_ret
  exact ⟨rfl, h9.1⟩
theorem tells_any (nd : Int) (A : Option Addr) (n c : Nat) (l : List Lnk) (edge node : Int) (w : World) (hr : RLnk w w.heap.size A n l) (he : edge ≤ 9223372036854775807) :
    Calls Try.prog 3 #[.agg #[.int .i64 nd, .slice A n c], .int .i64 edge, .int .i64 node] w fun e w' => e = .returned (.bool true) ∧ Below w.heap.size w w' := by
  by_cases h : 130 < n
  · exact tells_out nd A n c edge node w h
  · exact tells_in nd A n c l edge node w hr (by omega) he
end Go.Proofs.Ytljgoffolbplfaa
