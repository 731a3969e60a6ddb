/- alive. -/
import Derived.Test.YtljgoffolbplfaaGrC
import Derived.Test.YtljgoffolbplfaaGrF
namespace Go.Proofs.Ytljgoffolbplfaa
open Go.RowKit
set_option maxHeartbeats 6400000
set_option maxRecDepth 100000
theorem rlnk_new (w : World) (x : Lnk) : RLnk (w.alloc (.cells #[.int .i64 x.a, .int .i64 x.b, .int .i64 x.m, .int .i64 x.c] 41)) (w.heap.size + 1) (some ⟨w.heap.size, 0, none⟩) 1 [x] := by
  refine ⟨rfl, fun _ => ⟨w.heap.size, 0, rfl, by omega, fun i e he => ?_⟩⟩
  have hi : i = 0 := by
    have := (List.getElem?_eq_some_iff.1 he).1
    simp at this; omega
  subst hi
  simp at he
  subst he
  have h := heap_alloc_new w (.cells #[.int .i64 x.a, .int .i64 x.b, .int .i64 x.m, .int .i64 x.c] 41)
  refine ⟨?_, ?_, ?_, ?_⟩ <;> (rw [cell_of_row _ _ _ _ _ _ h]; rfl)
theorem check_one (w : World) : Calls Try.prog 15 #[.agg #[.int .i64 1, .slice none 0 0]] w fun e w' => e = .returned (.tuple #[.int .i64 (-1), .int .i64 0]) ∧ Below w.heap.size w w' :=
  check_any 1 none 0 0 [] w ⟨rfl, fun h => by omega⟩
theorem ends_one (A : Option Addr) (c : Nat) (w : World) (h : RLnk w w.heap.size A 1 [⟨0, 1, 3, 0⟩]) : Calls Try.prog 17 #[.agg #[.int .i64 2, .slice A 1 c], .int .i64 1] w fun e w' => e = .returned (.tuple #[.int .i64 1, .int .i64 0, .bool true]) ∧ Below w.heap.size w w' :=
  ends_any 2 A 1 c [⟨0, 1, 3, 0⟩] 1 w h (by omega) (by omega)
theorem out_one (A : Option Addr) (c : Nat) (w : World) (h : RLnk w w.heap.size A 1 [⟨0, 1, 3, 0⟩]) : Calls Try.prog 21 #[.agg #[.int .i64 2, .slice A 1 c], .int .i64 0] w fun e w' => (∃ A' c', e = .returned (.slice A' 1 c')) ∧ Below w.heap.size w w' := by
  refine (out_any 2 A 1 c [⟨0, 1, 3, 0⟩] 0 w h (by omega)).mono ?_
  rintro e' w' ⟨v, rfl, hown, hb⟩
  obtain ⟨A', c', rfl, _⟩ := own_ints (l := outS [⟨0, 1, 3, 0⟩] 0 2) (m := 1) hown (by decide)
  exact ⟨⟨A', c', rfl⟩, hb⟩
theorem size_alloc_eq (w : World) (o : Obj) : (w.alloc o).heap.size = w.heap.size + 1 := by simp
theorem alive_any (w : World) : Calls Try.prog 14 #[] w fun e w' => e = .returned (.bool true) ∧ Below w.heap.size w w' := by
  have H1 := hid (fun w => check_one w)
  have HE := hid (fun (A : Option Addr) (c : Nat) (w : World) (h : RLnk w w.heap.size A 1 [⟨0, 1, 3, 0⟩]) => ends_one A c w h)
  have HO := hid (fun (A : Option Addr) (c : Nat) (w : World) (h : RLnk w w.heap.size A 1 [⟨0, 1, 3, 0⟩]) => out_one A c w h)
  have HB : Hid (∀ w, Calls Try.prog 23 #[.int .i64 0] w fun x w' => x = .returned (.int .i64 1) ∧ w = w') := fun w => back_any 0 w (by omega)
  have HN := hid (fun w => num_any 0 w)
  go_enter Try.func14, Try.ntmps14
  go_wp2_with (first
    | (go_at_call 15; (with_reducible refine (H1.out _).mono ?_); rintro e' w1 ⟨rfl, hb1⟩; have hb1s := hb1.size)
    | (go_at_call 17; have hx := ((rlnk_new w1 ⟨0, 1, 3, 0⟩).below (B := w1.heap.size + 1) (Below.alloc (Below.refl _ _) (by simp) (.cells #[.int .i64 2, .slice (some ⟨w1.heap.size, 0, none⟩) 1 1] 24))).more (B' := ((w1.alloc (.cells #[.int .i64 0, .int .i64 1, .int .i64 3, .int .i64 0] 41)).alloc (.cells #[.int .i64 2, .slice (some ⟨w1.heap.size, 0, none⟩) 1 1] 24)).heap.size) (by simp); (with_reducible refine (HE.out _ _ _ hx).mono ?_); rintro e' w2 ⟨rfl, hb2⟩; obtain ⟨g0, g1, _⟩ := box_cells (box_below (heap_alloc_new _ _) hb2 (by simp)); simp only [size_alloc_eq] at g0 g1; have hr2 := hx.on hb2; have hb2' := hb1.trans (((Below.alloc (Below.alloc (Below.refl w1.heap.size w1) (Nat.le_refl _) _) (by simp) _).trans (hb2.mono (by simp; omega))).mono hb1s))
    | (go_at_call 21; (with_reducible refine (HO.out _ _ _ hr2).mono ?_); rintro e' w3 ⟨⟨A', c', rfl⟩, hb3⟩; have hb3' := hb2'.trans (hb3.mono hb2'.size))
    | (go_at_call 23; (with_reducible refine (HB.out _).mono ?_); rintro _ _ ⟨rfl, rfl⟩)
    | (go_at_call 19; (with_reducible refine (HN.out _).mono ?_); rintro _ _ ⟨rfl, rfl⟩))
  go_ret
  exact ⟨rfl, hb3'⟩
end Go.Proofs.Ytljgoffolbplfaa
