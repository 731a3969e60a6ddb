/- waymarkref1.CopyGraph. -/
import Derived.Test.YtiklfbbefchhlaaTbE
namespace Go.Proofs.Ytiklfbbefchhlaa
open Go.RowKit
set_option maxHeartbeats 6400000
set_option maxRecDepth 100000
theorem lcells_len (l : List Lnk) : (lcells l).length = l.length * 4 := by
  induction l with
  | nil => rfl
  | cons x r ih => simp only [lcells, List.flatMap_cons, List.length_append, List.length_cons, List.length_nil] at *; omega
theorem lcells_get {l : List Lnk} {j : Nat} {u : Value} (h : (lcells l)[j]? = some u) : ∃ i e, l[i]? = some e ∧ ((j = i * 4 ∧ u = .int .i64 e.a) ∨ (j = i * 4 + 1 ∧ u = .int .i64 e.b) ∨ (j = i * 4 + 2 ∧ u = .int .i64 e.m) ∨ (j = i * 4 + 3 ∧ u = .int .i64 e.c)) := by
  have hj : j < (lcells l).length := (List.getElem?_eq_some_iff.1 h).1
  rw [lcells_len] at hj
  have he : l[j / 4]? = some (l[j / 4]'(by omega)) := List.getElem?_eq_getElem (by omega)
  obtain ⟨h0, h1, h2, h3⟩ := lcells_at he
  refine ⟨j / 4, _, he, ?_⟩
  rcases (show j % 4 = 0 ∨ j % 4 = 1 ∨ j % 4 = 2 ∨ j % 4 = 3 by omega) with hm | hm | hm | hm
  · rw [show j / 4 * 4 = j by omega, h] at h0
    exact .inl ⟨by omega, by simpa using h0⟩
  · rw [show j / 4 * 4 + 1 = j by omega, h] at h1
    exact .inr (.inl ⟨by omega, by simpa using h1⟩)
  · rw [show j / 4 * 4 + 2 = j by omega, h] at h2
    exact .inr (.inr (.inl ⟨by omega, by simpa using h2⟩))
  · rw [show j / 4 * 4 + 3 = j by omega, h] at h3
    exact .inr (.inr (.inr ⟨by omega, by simpa using h3⟩))
theorem lnks_src {w : World} {B n : Nat} {A : Option Addr} {l : List Lnk} (h : RLnk w B A n l) : ∀ ad, A = some ad → ∀ (j : Nat) (u : Value), (lcells l)[j]? = some u → w.cell? (ad.add j) = some u := by
  intro ad hA j u hu
  obtain ⟨i, e, he, hj⟩ := lcells_get hu
  have hi : i < l.length := (List.getElem?_eq_some_iff.1 he).1
  obtain ⟨b, off, hb, _, hc⟩ := h.2 (by rw [← h.1]; omega)
  rw [hA] at hb
  injection hb with hb
  subst hb
  obtain ⟨h0, h1, h2, h3⟩ := hc i e he
  rw [Go.WideShapes.add_plain]
  rcases hj with ⟨rfl, rfl⟩ | ⟨rfl, rfl⟩ | ⟨rfl, rfl⟩ | ⟨rfl, rfl⟩
  · exact h0
  · exact h1
  · exact h2
  · exact h3
theorem box2_new {w w3 : World} {o1 : Obj} {cs : Array Value} {t : TypeId} (hb : Below ((w.alloc o1).alloc (.cells cs t)).heap.size ((w.alloc o1).alloc (.cells cs t)) w3) : w3.heap[w.heap.size + 1]? = some (.cells cs t (0, 0)) := by
  have h := box_below (heap_alloc_new (w.alloc o1) (.cells cs t)) hb (by simp)
  have e : (w.alloc o1).heap.size = w.heap.size + 1 := by simp
  rw [e] at h
  exact h
theorem box2_kept {w3 : World} {B : Nat} {o : Obj} {u : Value} (h : w3.heap[B + 1]? = some o) : (w3.setCell ⟨B, 1, none⟩ u).heap[B + 1]? = some o := (heap_setCell_other _ _ _ _ (by show _ ≠ B; omega)).trans h
theorem copy_any (nd : Int) (A : Option Addr) (n c : Nat) (l : List Lnk) (w : World) (hr : RLnk w w.heap.size A n l) (hn : n ≤ 1000) (hA : A = none → n = 0 ∧ c = 0) :
    Calls Try.prog 21 #[.agg #[.int .i64 nd, .slice A n c]] w fun e w' => ∃ A' c', e = .returned (.agg #[.int .i64 nd, .slice A' n c']) ∧ w'.ownsRow w.heap.size 40 4 (.slice A' n c') n (lcells l) ∧ Below w.heap.size w w' := by
  obtain ⟨i5, hi, hz0, hz1, hz2⟩ := info_parts (show (Try.prog.info? 40).map (fun i => (i.zero, i.size, i.bytes)) = some (some (.agg #[.int .i64 0, .int .i64 0, .int .i64 0, .int .i64 0]), 4, 32) by kernel_rfl)
  have Ai := hid hi; have Az0 := hid hz0; have Az1 := hid hz1; have Az2 := hid hz2
  clear hi hz0 hz1 hz2
  have hS := Held.start w nd A n c
  have hl := hr.1
  have HR := hid hr
  have HA := hid hA
  have b2 : Below w.heap.size w ((w.alloc (.cells #[.int .i64 nd, .slice A n c] 24)).alloc (.cells #[.int .i64 0, .slice none 0 0] 24)) := (hS.1).alloc (by simp) _
  have h2 := hS.next ((Below.refl _ _).alloc (Nat.le_refl _) (.cells #[.int .i64 0, .slice none 0 0] 24))
  obtain ⟨g0, g1⟩ := h2.cells
  clear hr hA
  go_enter Try.func21, Try.ntmps21
  go_wp2_with (at_builtin; refine wpList_copy rfl (.const (.slice none 0 0)) (.tmp 4) 22 rfl (w.heap.size + 2) 40 i5 (.agg #[.int .i64 0, .int .i64 0, .int .i64 0, .int .i64 0]) 4 32 Try.underlying22 Ai.out Az0.out Az1.out Az2.out rfl (by decide) rfl A n c (lcells l) rfl HA.out (by rw [lcells_len, hl]) (lnks_src (HR.out.below b2)) (lcells_one _) (by unfold maxLen; omega) (by omega) (by simp) ?_; intro v3 w3 hown3 hb3; obtain ⟨A3, c3, rfl, hle, hr3⟩ := own_lnks hown3 hl; obtain ⟨q0, q1, q2⟩ := box_cells (h2.next hb3).2; have f1 := q2 1; have hX := box2_new hb3; have hX1 := box2_kept (u := .slice A3 n c3) hX; obtain ⟨r0, r1, r2⟩ := box_cells hX1; have e0 := r2 0; obtain ⟨p0, p1, p2⟩ := box_cells (box_set0 (u := .int .i64 nd) hX1); have e1 := p2 1; have HO3 := hid hown3; have HX1 := hid hX1; have B3 := hid (b2.trans (hb3.mono b2.size)); clear hown3 hr3 q2 r2 p2 hX hX1)
  have hg := box_set1 (u := .slice A3 n c3) (box_set0 (u := .int .i64 nd) HX1.out)
  try simp only [Exit.inBlock, Exit.then]
  refine bodyPost_ret (results_cell_row (p := 2) (fn := Try.f21) rfl _ _ _ _ _ _ _ rfl hg Try.underlying24 rfl (by kernel_rfl)) rfl ?_
  exact ⟨A3, c3, rfl, own_mono (own_set (own_set (own_set HO3.out (by show w.heap.size < w.heap.size + 2; omega) _) (by show w.heap.size + 1 < w.heap.size + 2; omega) _) (by show w.heap.size + 1 < w.heap.size + 2; omega) _) (by omega), ((B3.out.setCell (Nat.le_refl _) _).setCell (by show _ ≤ _ + 1; omega) _).setCell (by show _ ≤ _ + 1; omega) _⟩
end Go.Proofs.Ytiklfbbefchhlaa
