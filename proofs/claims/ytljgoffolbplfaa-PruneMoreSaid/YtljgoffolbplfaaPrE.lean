/- alive, PruneTells. -/
import Derived.Test.YtljgoffolbplfaaPrD
namespace Go.Proofs.Ytljgoffolbplfaa
open Go.RowKit
set_option maxHeartbeats 6400000
set_option maxRecDepth 100000
theorem ints_new (w : World) (a : Int) : RInt (w.alloc (.cells #[.int .i64 a] 3)) (w.heap.size + 1) (some ⟨w.heap.size, 0, none⟩) 1 [a] := by
  refine ⟨rfl, fun _ => ⟨w.heap.size, 0, rfl, by omega, fun i e he => ?_⟩⟩
  have hi : i = 0 := by
    have := (List.getElem?_eq_some_iff.1 he).1
    simp at this; omega
  subst hi
  simp at he
  subst he
  rw [cell_of_row _ _ _ _ _ _ (heap_alloc_new w (.cells #[.int .i64 a] 3))]
  rfl
theorem alive_any (hR : RightSpec 35) (hD : DownSpec 38) (w : World) : Calls Try.prog 32 #[] w fun e w' => e = .returned (.bool true) ∧ Below w.heap.size w w' := by
  have H0 : Hid (∀ w, Calls Try.prog 38 #[.agg #[.int .i64 1, .slice none 0 0], .agg #[.int .i64 0, .int .i64 0, .int .i64 0, .slice none 0 0, .slice none 0 0, .slice none 0 0, .slice none 0 0], .slice none 0 0] w fun e w' => ∃ A c, e = .returned (.slice A 0 c) ∧ (RBl w' w'.heap.size A 0 [] ∧ 0 ≤ c ∧ (A = none → 0 = 0 ∧ c = 0)) ∧ Below w.heap.size w w') := fun w =>
    bls_out (by decide) (hD 1 none 0 0 [] ⟨0, 0, 0, [], [], [], []⟩ ⟨none, 0, 0, none, 0, 0, none, 0, 0, none, 0, 0⟩ none 0 0 [] w ⟨⟨rfl, fun h => by omega⟩, by omega, by omega, fun _ => ⟨rfl, rfl⟩, by omega, by omega⟩ ⟨larg_nil w, larg_nil w, larg_nil w, larg_nil w, by decide, by decide⟩ (DArg.nil w) (by decide) (by decide) (by decide) (by decide))
  have H1 : Hid (∀ (A A' : Option Addr) (w : World), RLnk w w.heap.size A 1 [⟨0, 1, 7, 3⟩] → A ≠ none → RInt w w.heap.size A' 1 [3] → A' ≠ none → Calls Try.prog 38 #[.agg #[.int .i64 2, .slice A 1 1], .agg #[.int .i64 0, .int .i64 1, .int .i64 0, .slice none 0 0, .slice none 0 0, .slice none 0 0, .slice A' 1 1], .slice none 0 0] w fun e w' => ∃ A c, e = .returned (.slice A 1 c) ∧ (RBl w' w'.heap.size A 1 [true] ∧ 1 ≤ c ∧ (A = none → 1 = 0 ∧ c = 0)) ∧ Below w.heap.size w w') := fun A A' w hr hA hr' hA' =>
    bls_out (L := [true]) rfl (hD 2 A 1 1 [⟨0, 1, 7, 3⟩] ⟨0, 1, 0, [], [], [], [3]⟩ ⟨none, 0, 0, none, 0, 0, none, 0, 0, A', 1, 1⟩ none 0 0 [] w ⟨hr, by omega, by omega, fun h => absurd h hA, by omega, by omega⟩ ⟨larg_nil w, larg_nil w, larg_nil w, ⟨hr', Nat.le_refl 1, fun h => absurd h hA', by show 1 ≤ maxLen; unfold maxLen; omega, by simp⟩, by decide, by decide⟩ (DArg.nil w) (by simp) (by simp) (by simp) (by simp))
  have H2 : Hid (∀ (A : Option Addr) (w : World), RLnk w w.heap.size A 1 [⟨0, 1, 7, 3⟩] → A ≠ none → Calls Try.prog 35 #[.agg #[.int .i64 2, .slice A 1 1], .agg #[.int .i64 0, .int .i64 1, .int .i64 0, .slice none 0 0, .slice none 0 0, .slice none 0 0, .slice none 0 0]] w fun e w' => e = .returned (.int .i64 0) ∧ Below w.heap.size w w') := fun A w hr hA =>
    hR 2 A 1 1 [⟨0, 1, 7, 3⟩] ⟨0, 1, 0, [], [], [], []⟩ ⟨none, 0, 0, none, 0, 0, none, 0, 0, none, 0, 0⟩ w ⟨hr, by omega, by omega, fun h => absurd h hA, by omega, by omega⟩ ⟨larg_nil w, larg_nil w, larg_nil w, larg_nil w, by decide, by decide⟩ (by simp) (by simp) (by simp) (by simp)
  have HN := hid (fun w => num_any 0 w)
  have hx0 := (rlnk_new w ⟨0, 1, 7, 3⟩).below (B := w.heap.size + 1) (Below.alloc (Below.refl _ _) (by simp) (.cells #[.int .i64 2, .slice (some ⟨w.heap.size, 0, none⟩) 1 1] 24))
  obtain ⟨wb, hwb⟩ : ∃ wb, (w.alloc (.cells #[.int .i64 0, .int .i64 1, .int .i64 7, .int .i64 3] 41)).alloc (.cells #[.int .i64 2, .slice (some ⟨w.heap.size, 0, none⟩) 1 1] 24) = wb := ⟨_, rfl⟩
  have hwbs : wb.heap.size = w.heap.size + 2 := by rw [← hwb]; simp
  have hbox : wb.heap[w.heap.size + 1]? = some (.cells #[.int .i64 2, .slice (some ⟨w.heap.size, 0, none⟩) 1 1] 24 (0, 0)) := by
    have := heap_alloc_new (w.alloc (.cells #[.int .i64 0, .int .i64 1, .int .i64 7, .int .i64 3] 41)) (.cells #[.int .i64 2, .slice (some ⟨w.heap.size, 0, none⟩) 1 1] 24)
    rw [hwb] at this
    simpa using this
  have hb0 : Below w.heap.size w wb := by rw [← hwb]; exact (Below.alloc (Below.refl _ _) (Nat.le_refl _) _).alloc (by simp) _
  obtain ⟨g0, g1, _⟩ := box_cells hbox
  rw [show (⟨0, 1, 7, 3⟩ : Lnk).a = 0 from rfl, show (⟨0, 1, 7, 3⟩ : Lnk).b = 1 from rfl, show (⟨0, 1, 7, 3⟩ : Lnk).m = 7 from rfl, show (⟨0, 1, 7, 3⟩ : Lnk).c = 3 from rfl, hwb] at hx0
  have Hx := hid hx0
  have Hbox := hid hbox
  have Hb0 := hid hb0
  have HBa : Hid (Below wb.heap.size wb (wb.alloc (.cells #[.int .i64 3] 3))) := Below.alloc (Below.refl _ _) (Nat.le_refl _) _
  have HI : Hid (RInt (wb.alloc (.cells #[.int .i64 3] 3)) (wb.alloc (.cells #[.int .i64 3] 3)).heap.size (some ⟨w.heap.size + 2, 0, none⟩) 1 [3]) := by
    have h1 := (ints_new wb 3).more (B' := (wb.alloc (.cells #[.int .i64 3] 3)).heap.size) (by simp)
    rw [hwbs] at h1
    exact h1
  have HD1 := hid (H1.out (some ⟨w.heap.size, 0, none⟩) (some ⟨w.heap.size + 2, 0, none⟩) _ ((Hx.out.below (HBa.out.mono (by omega))).more (by simp; omega)) (by simp) HI.out (by simp))
  clear hR hD hx0 hbox hb0
  go_enter Try.func32, Try.ntmps32
  go_wp2_with (first
    | (go_at_call 38; (with_reducible refine HD1.out.mono ?_); rintro e' w2 ⟨A2, c2, rfl, hr2, hb2⟩; have hb02 := HBa.out.trans (hb2.mono (by simp)); have HX2 := hid (box_below Hbox.out hb02 (by omega)); obtain ⟨q0, q1, _⟩ := box_cells HX2.out; have HR2 := hid hr2.1; clear hr2)
    | (go_at_call 38; (with_reducible refine (H0.out _).mono ?_); rintro e' w3 ⟨A3, c3, rfl, _, hb3⟩; have hb03 := hb02.trans (hb3.mono hb02.size); have HX3 := hid (box_below Hbox.out hb03 (by omega)); obtain ⟨q2, q3, _⟩ := box_cells HX3.out; obtain ⟨bT, oT, rfl, hlT, hcT⟩ := (HR2.out.below hb3).2 (by omega); have cT := hcT 0 true rfl; (rw [Nat.add_zero] at cT); clear hcT; have HD3 := hid (H2.out _ w3 ((Hx.out.below (hb03.mono (by omega))).more (by have := hb03.size; omega)) (by simp)))
    | (go_at_call 35; (with_reducible refine HD3.out.mono ?_); rintro e' w4 ⟨rfl, hb4⟩)
    | (go_at_call 34; (with_reducible refine (HN.out _).mono ?_); rintro _ _ ⟨rfl, rfl⟩))
  go_ret
  exact ⟨rfl, Hb0.out.trans ((hb03.trans (hb4.mono hb03.size)).mono (by omega))⟩
end Go.Proofs.Ytljgoffolbplfaa
