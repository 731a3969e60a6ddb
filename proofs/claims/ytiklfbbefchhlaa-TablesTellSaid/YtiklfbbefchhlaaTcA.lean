/- tables: slices.Clone of links and of numbers; clone. -/
import Derived.Test.YtiklfbbefchhlaaTbH
import Derived.Lib.SliceRun
namespace Go.Proofs.Ytiklfbbefchhlaa
open Go.RowKit
set_option maxHeartbeats 6400000
set_option maxRecDepth 100000
theorem ints_src {w : World} {B n : Nat} {A : Option Addr} {l : List Int} (h : RInt w B A n l) : ∀ ad, A = some ad → ∀ (j : Nat) (u : Value), (icells l)[j]? = some u → w.cell? (ad.add j) = some u := by
  intro ad hA j u hu
  simp only [icells, List.getElem?_map, Option.map_eq_some_iff] at hu
  obtain ⟨x, hx, rfl⟩ := hu
  have hj : j < l.length := (List.getElem?_eq_some_iff.1 hx).1
  obtain ⟨b, off, hb, _, hc⟩ := h.2 (by rw [← h.1]; omega)
  rw [hA] at hb
  injection hb with hb
  subst hb
  rw [Go.WideShapes.add_plain]
  exact hc j x hx
theorem eq_nil_ints (a : Option Addr) (n c n' c' : Nat) (w : World) : (binOp .eql 37 (.slice a n c) (.slice none n' c')).run Try.prog w = .ok (.bool a.isNone) w := Lib.run_eql_slice_nil w _ _ a n c n' c' Try.underlying37
theorem eq_nil_lnks (a : Option Addr) (n c n' c' : Nat) (w : World) : (binOp .eql 22 (.slice a n c) (.slice none n' c')).run Try.prog w = .ok (.bool a.isNone) w := Lib.run_eql_slice_nil w _ _ a n c n' c' Try.underlying22
theorem alloc_cell {w : World} {p : Addr} {v : Value} (o : Obj) (h : w.cell? p = some v) : (w.alloc o).cell? p = some v := Lib.cell?_alloc_some _ h
theorem cloneInts_any (A : Option Addr) (n c : Nat) (L : List Int) (w : World) (hr : RInt w w.heap.size A n L) (hn : n ≤ 1000) (hA : A = none → n = 0 ∧ c = 0) :
    Calls Try.prog 25 #[.slice A n c] w (IntAns L w) := by
  obtain ⟨i5, hi, hz0, hz1, hz2⟩ := info_parts (show (Try.prog.info? 3).map (fun i => (i.zero, i.size, i.bytes)) = some (some (.int .i64 0), 1, 8) by kernel_rfl)
  have Ai := hid hi; have Az0 := hid hz0; have Az1 := hid hz1; have Az2 := hid hz2
  clear hi hz0 hz1 hz2
  have hl := hr.1
  have HR := hid (ints_src hr)
  have q := eq_nil_ints
  have HA := hid hA
  clear hr hA
  cases A with
  | none =>
    obtain ⟨rfl, rfl⟩ := HA.out rfl
    obtain rfl : L = [] := List.length_eq_zero_iff.1 hl
    clear HR HA Ai Az0 Az1 Az2
    go_enter Try.func25, Try.ntmps25
    go_wp2_with fail
    go_ret
    exact ⟨_, rfl, World.ownsRow_nil _ _ _ _, Below.refl _ _⟩
  | some ad =>
    go_enter Try.func25, Try.ntmps25
    go_wp2_with (at_builtin; refine wpList_append_own _ rfl _ _ 37 rfl w.heap.size 3 i5 (.int .i64 0) 1 8 Try.underlying37 Ai.out Az0.out Az1.out Az2.out rfl (by decide) _ _ _ rfl (World.ownsRow_made w #[] 0 (Nat.le_refl _) (Nat.zero_le _) (by simp)) ad n c (icells L) rfl (by rw [icells_len]; omega) (fun j u hj => alloc_cell _ (HR.out ad rfl j u hj)) (icells_one _) (by unfold maxLen; omega) (by omega) (by simp) ?_; intro v3 w3 hown3 hg3 _; have HO3 := hid hown3; have HG3 := hid hg3; clear hown3 hg3)
    go_ret
    refine ⟨v3, rfl, ?_, ((Below.refl _ w).alloc (Nat.le_refl _) _).grown HG3.out (by simp) (fun k hk => by have hk' : some w.heap.size = some k := hk; injection hk' with hk'; omega)⟩
    have := HO3.out
    rw [Nat.zero_add, List.nil_append, ← hl] at this
    exact this
theorem cloneLnks_any (A : Option Addr) (n c : Nat) (l : List Lnk) (w : World) (hr : RLnk w w.heap.size A n l) (hn : n ≤ 1000) (hA : A = none → n = 0 ∧ c = 0) :
    Calls Try.prog 29 #[.slice A n c] w fun e w' => ∃ A' c', e = .returned (.slice A' n c') ∧ w'.ownsRow w.heap.size 40 4 (.slice A' n c') n (lcells l) ∧ Below w.heap.size w w' := by
  obtain ⟨i5, hi, hz0, hz1, hz2⟩ := info_parts (show (Try.prog.info? 40).map (fun i => (i.zero, i.size, i.bytes)) = some (some (.agg #[.int .i64 0, .int .i64 0, .int .i64 0, .int .i64 0]), 4, 32) by kernel_rfl)
  have Ai := hid hi; have Az0 := hid hz0; have Az1 := hid hz1; have Az2 := hid hz2
  clear hi hz0 hz1 hz2
  have hl := hr.1
  have HR := hid (lnks_src hr)
  have q := eq_nil_lnks
  have HA := hid hA
  clear hr hA
  cases A with
  | none =>
    obtain ⟨rfl, rfl⟩ := HA.out rfl
    obtain rfl : l = [] := List.length_eq_zero_iff.1 hl
    clear HR HA Ai Az0 Az1 Az2
    go_enter Try.func29, Try.ntmps29
    go_wp2_with fail
    go_ret
    exact ⟨_, _, rfl, World.ownsRow_nil _ _ _ _, Below.refl _ _⟩
  | some ad =>
    go_enter Try.func29, Try.ntmps29
    go_wp2_with (at_builtin; refine wpList_append_own _ rfl _ _ 22 rfl w.heap.size 40 i5 (.agg #[.int .i64 0, .int .i64 0, .int .i64 0, .int .i64 0]) 4 32 Try.underlying22 Ai.out Az0.out Az1.out Az2.out rfl (by decide) _ _ _ rfl (World.ownsRow_made w #[] 0 (Nat.le_refl _) (Nat.zero_le _) (by simp)) ad n c (lcells l) rfl (by rw [lcells_len, hl]) (fun j u hj => alloc_cell _ (HR.out ad rfl j u hj)) (lcells_one _) (by unfold maxLen; omega) (by omega) (by simp) ?_; intro v3 w3 hown3 hg3 _; rw [Nat.zero_add, List.nil_append] at hown3; obtain ⟨A3, c3, rfl⟩ := own_form hown3; have HO3 := hid hown3; have HG3 := hid hg3; clear hown3 hg3)
    go_ret
    exact ⟨A3, c3, rfl, HO3.out, ((Below.refl _ w).alloc (Nat.le_refl _) _).grown HG3.out (by simp) (fun k hk => by have hk' : some w.heap.size = some k := hk; injection hk' with hk'; omega)⟩
theorem clone_any (nd : Int) (A : Option Addr) (n c : Nat) (l : List Lnk) (w : World) (hr : RLnk w w.heap.size A n l) (hn : n ≤ 1000) (hA : A = none → n = 0 ∧ c = 0) :
    Calls Try.prog 18 #[.agg #[.int .i64 nd, .slice A n c]] w fun e w' => ∃ A' c', e = .returned (.agg #[.int .i64 nd, .slice A' n c']) ∧ w'.ownsRow w.heap.size 40 4 (.slice A' n c') n (lcells l) ∧ Below w.heap.size w w' := by
  have hS := Held.start w nd A n c
  have h2 := (hS.next ((Below.refl _ _).alloc (Nat.le_refl _) (.cells #[.int .i64 0, .slice none 0 0] 24))).drew
  have hX0 : ((w.alloc (.cells #[.int .i64 nd, .slice A n c] 24)).alloc (.cells #[.int .i64 0, .slice none 0 0] 24)).drew.heap[w.heap.size + 1]? = some (.cells #[.int .i64 0, .slice none 0 0] 24 (0, 0)) := by
    have := heap_alloc_new (w.alloc (.cells #[.int .i64 nd, .slice A n c] 24)) (.cells #[.int .i64 0, .slice none 0 0] 24)
    rw [show (w.alloc (.cells #[.int .i64 nd, .slice A n c] 24)).heap.size = w.heap.size + 1 by simp] at this
    exact this
  have hsz : ((w.alloc (.cells #[.int .i64 nd, .slice A n c] 24)).alloc (.cells #[.int .i64 0, .slice none 0 0] 24)).drew.heap.size = w.heap.size + 2 := by simp
  have HC := hid (cloneLnks_any A n c l _ (h2.on hr) hn hA)
  obtain ⟨g0, g1⟩ := h2.cells
  have H2 := hid h2
  have HX0 := hid hX0
  have Hsz := hid hsz
  clear hr hA hS h2 hX0 hsz
  go_enter Try.func18, Try.ntmps18
  go_wp2_with fail
  go_region_law (first
    | (go_simp; go_at_call 29; (with_reducible refine HC.out.mono ?_); rintro e' w5 ⟨A5, c5, rfl, hown5, hb5⟩; have HO5 := hid hown5; have HB5 := hid hb5; have h5 := H2.out.next hb5; obtain ⟨c0, c1⟩ := h5.cells; have HX5 := hid (box_below HX0.out hb5 (by rw [Hsz.out]; omega)); obtain ⟨_, _, q2⟩ := box_cells HX5.out; have f1 := q2 0; have f2 := q2 1; clear q2 hown5 hb5))
  all_goals
    go_wp2_with fail
    have hg := box_set1 (u := .slice A5 n c5) (box_set0 (u := .int .i64 nd) HX5.out)
    try simp only [Exit.inBlock, Exit.then]
    refine bodyPost_ret (results_cell_row (p := 2) (fn := Try.f18) rfl _ _ _ _ _ _ _ rfl hg Try.underlying24 rfl (by kernel_rfl)) rfl ?_
    have ho := HO5.out
    rw [Hsz.out] at ho
    exact ⟨A5, c5, rfl, own_mono (own_set (own_set ho (by show w.heap.size + 1 < w.heap.size + 2; omega) _) (by show w.heap.size + 1 < w.heap.size + 2; omega) _) (by omega), (h5.1.setCell (by show _ ≤ _ + 1; omega) _).setCell (by show _ ≤ _ + 1; omega) _⟩
end Go.Proofs.Ytiklfbbefchhlaa
