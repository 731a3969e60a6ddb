/- Merged: TcA TcB TcC TcD. -/
import Derived.Test.YtkemcgbedapkcaaG09
import Derived.Test.YtkemcgbedapkcaaG05
import Derived.Lib.SliceRun
import Derived.Test.YtkemcgbedapkcaaG19
/- tables: slices.Clone of links and of numbers; clone. -/
namespace Go.Proofs.Ytkemcgbedapkcaa
open Go.RowKit
set_option maxHeartbeats 6400000
set_option maxRecDepth 100000
theorem eq_nil_ints (a : Option Addr) (n c n' c' : Nat) (w : World) : (binOp .eql 40 (.slice a n c) (.slice none n' c')).run Try.prog w = .ok (.bool a.isNone) w := Lib.run_eql_slice_nil w _ _ a n c n' c' Try.underlying40
theorem eq_nil_lnks (a : Option Addr) (n c n' c' : Nat) (w : World) : (binOp .eql 22 (.slice a n c) (.slice none n' c')).run Try.prog w = .ok (.bool a.isNone) w := Lib.run_eql_slice_nil w _ _ a n c n' c' Try.underlying22
theorem alloc_cell {w : World} {p : Addr} {v : Value} (o : Obj) (h : w.cell? p = some v) : (w.alloc o).cell? p = some v := Lib.cell?_alloc_some _ h
theorem cloneInts_any (A : Option Addr) (n c : Nat) (L : List Int) (w : World) (hr : RInt w w.heap.size A n L) (hn : n ≤ 1000) (hA : A = none → n = 0 ∧ c = 0) :
    Calls Try.prog 96 #[.slice A n c] w (IntAns L w) := by
  obtain ⟨i5, hi, hz0, hz1, hz2⟩ := info_parts (show (Try.prog.info? 3).map (fun i => (i.zero, i.size, i.bytes)) = some (some (.int .i64 0), 1, 8) by kernel_rfl)
  have Ai := hid hi; have Az0 := hid hz0; have Az1 := hid hz1; have Az2 := hid hz2
  clear hi hz0 hz1 hz2
  have hl := hr.1
  have HR := hid (ints_src hr)
  have q := eq_nil_ints
  have HA := hid hA
  clear hr hA
  cases A with
  | none =>
    obtain ⟨rfl, rfl⟩ := HA.out rfl
    obtain rfl : L = [] := List.length_eq_zero_iff.1 hl
    clear HR HA Ai Az0 Az1 Az2
    go_enter Try.func96, Try.ntmps96
    go_wp2_with fail
    go_ret
    exact ⟨_, rfl, World.ownsRow_nil _ _ _ _, Below.refl _ _⟩
  | some ad =>
    go_enter Try.func96, Try.ntmps96
    go_wp2_with (at_builtin; refine wpList_append_own _ rfl _ _ 40 rfl w.heap.size 3 i5 (.int .i64 0) 1 8 Try.underlying40 Ai.out Az0.out Az1.out Az2.out rfl (by decide) _ _ _ rfl (World.ownsRow_made w #[] 0 (Nat.le_refl _) (Nat.zero_le _) (by simp)) ad n c (icells L) rfl (by rw [icells_len]; omega) (fun j u hj => alloc_cell _ (HR.out ad rfl j u hj)) (icells_one _) (by unfold maxLen; omega) (by omega) (by simp) ?_; intro v3 w3 hown3 hg3 _; have HO3 := hid hown3; have HG3 := hid hg3; clear hown3 hg3)
    go_ret
    refine ⟨v3, rfl, ?_, ((Below.refl _ w).alloc (Nat.le_refl _) _).grown HG3.out (by simp) (fun k hk => by have hk' : some w.heap.size = some k := hk; injection hk' with hk'; omega)⟩
    have := HO3.out
    rw [Nat.zero_add, List.nil_append, ← hl] at this
    exact this
theorem cloneLnks_any (A : Option Addr) (n c : Nat) (l : List Lnk) (w : World) (hr : RLnk w w.heap.size A n l) (hn : n ≤ 1000) (hA : A = none → n = 0 ∧ c = 0) :
    Calls Try.prog 42 #[.slice A n c] w fun e w' => ∃ A' c', e = .returned (.slice A' n c') ∧ w'.ownsRow w.heap.size 49 4 (.slice A' n c') n (lcells l) ∧ Below w.heap.size w w' := by
  obtain ⟨i5, hi, hz0, hz1, hz2⟩ := info_parts (show (Try.prog.info? 49).map (fun i => (i.zero, i.size, i.bytes)) = some (some (.agg #[.int .i64 0, .int .i64 0, .int .i64 0, .int .i64 0]), 4, 32) by kernel_rfl)
  have Ai := hid hi; have Az0 := hid hz0; have Az1 := hid hz1; have Az2 := hid hz2
  clear hi hz0 hz1 hz2
  have hl := hr.1
  have HR := hid (lnks_src hr)
  have q := eq_nil_lnks
  have HA := hid hA
  clear hr hA
  cases A with
  | none =>
    obtain ⟨rfl, rfl⟩ := HA.out rfl
    obtain rfl : l = [] := List.length_eq_zero_iff.1 hl
    clear HR HA Ai Az0 Az1 Az2
    go_enter Try.func42, Try.ntmps42
    go_wp2_with fail
    go_ret
    exact ⟨_, _, rfl, World.ownsRow_nil _ _ _ _, Below.refl _ _⟩
  | some ad =>
    go_enter Try.func42, Try.ntmps42
    go_wp2_with (at_builtin; refine wpList_append_own _ rfl _ _ 22 rfl w.heap.size 49 i5 (.agg #[.int .i64 0, .int .i64 0, .int .i64 0, .int .i64 0]) 4 32 Try.underlying22 Ai.out Az0.out Az1.out Az2.out rfl (by decide) _ _ _ rfl (World.ownsRow_made w #[] 0 (Nat.le_refl _) (Nat.zero_le _) (by simp)) ad n c (lcells l) rfl (by rw [lcells_len, hl]) (fun j u hj => alloc_cell _ (HR.out ad rfl j u hj)) (lcells_one _) (by unfold maxLen; omega) (by omega) (by simp) ?_; intro v3 w3 hown3 hg3 _; rw [Nat.zero_add, List.nil_append] at hown3; obtain ⟨A3, c3, rfl⟩ := own_form hown3; have HO3 := hid hown3; have HG3 := hid hg3; clear hown3 hg3)
    go_ret
    exact ⟨A3, c3, rfl, HO3.out, ((Below.refl _ w).alloc (Nat.le_refl _) _).grown HG3.out (by simp) (fun k hk => by have hk' : some w.heap.size = some k := hk; injection hk' with hk'; omega)⟩
theorem clone_any (nd : Int) (A : Option Addr) (n c : Nat) (l : List Lnk) (w : World) (hr : RLnk w w.heap.size A n l) (hn : n ≤ 1000) (hA : A = none → n = 0 ∧ c = 0) :
    Calls Try.prog 27 #[.agg #[.int .i64 nd, .slice A n c]] w fun e w' => ∃ A' c', e = .returned (.agg #[.int .i64 nd, .slice A' n c']) ∧ w'.ownsRow w.heap.size 49 4 (.slice A' n c') n (lcells l) ∧ Below w.heap.size w w' := by
  have hS := Held.start w nd A n c
  have h2 := (hS.next ((Below.refl _ _).alloc (Nat.le_refl _) (.cells #[.int .i64 0, .slice none 0 0] 24))).drew
  have hX0 : ((w.alloc (.cells #[.int .i64 nd, .slice A n c] 24)).alloc (.cells #[.int .i64 0, .slice none 0 0] 24)).drew.heap[w.heap.size + 1]? = some (.cells #[.int .i64 0, .slice none 0 0] 24 (0, 0)) := by
    have := heap_alloc_new (w.alloc (.cells #[.int .i64 nd, .slice A n c] 24)) (.cells #[.int .i64 0, .slice none 0 0] 24)
    rw [show (w.alloc (.cells #[.int .i64 nd, .slice A n c] 24)).heap.size = w.heap.size + 1 by simp] at this
    exact this
  have hsz : ((w.alloc (.cells #[.int .i64 nd, .slice A n c] 24)).alloc (.cells #[.int .i64 0, .slice none 0 0] 24)).drew.heap.size = w.heap.size + 2 := by simp
  have HC := hid (cloneLnks_any A n c l _ (h2.on hr) hn hA)
  obtain ⟨g0, g1⟩ := h2.cells
  have H2 := hid h2
  have HX0 := hid hX0
  have Hsz := hid hsz
  clear hr hA hS h2 hX0 hsz
  go_enter Try.func27, Try.ntmps27
  go_wp2_with fail
  go_region_law (first
    | (go_simp; go_at_call 42; (with_reducible refine HC.out.mono ?_); rintro e' w5 ⟨A5, c5, rfl, hown5, hb5⟩; have HO5 := hid hown5; have HB5 := hid hb5; have h5 := H2.out.next hb5; obtain ⟨c0, c1⟩ := h5.cells; have HX5 := hid (box_below HX0.out hb5 (by rw [Hsz.out]; omega)); obtain ⟨_, _, q2⟩ := box_cells HX5.out; have f1 := q2 0; have f2 := q2 1; clear q2 hown5 hb5))
  all_goals
    go_wp2_with fail
    have hg := box_set1 (u := .slice A5 n c5) (box_set0 (u := .int .i64 nd) HX5.out)
    try simp only [Exit.inBlock, Exit.then]
    refine bodyPost_ret (results_cell_row (p := 2) (fn := Try.f27) rfl _ _ _ _ _ _ _ rfl hg Try.underlying24 rfl (by kernel_rfl)) rfl ?_
    have ho := HO5.out
    rw [Hsz.out] at ho
    exact ⟨A5, c5, rfl, own_mono (own_set (own_set ho (by show w.heap.size + 1 < w.heap.size + 2; omega) _) (by show w.heap.size + 1 < w.heap.size + 2; omega) _) (by omega), (h5.1.setCell (by show _ ≤ _ + 1; omega) _).setCell (by show _ ≤ _ + 1; omega) _⟩
end Go.Proofs.Ytkemcgbedapkcaa

/- tables.waysTo. -/
namespace Go.Proofs.Ytkemcgbedapkcaa
open Go.RowKit
set_option maxHeartbeats 6400000
set_option maxRecDepth 100000
/-- Each value reads as the edges that go on from its node. -/
def Rows2 (w : World) (N : Nat) (l : List Lnk) (i : Nat) (vs : List Value) : Prop := ∀ (j : Nat) (v : Value), vs[j]? = some v → w.ownsRow 0 3 1 v (nextS (N : Int) l [] (distS N l [] i) (j : Int)).length (icells (nextS (N : Int) l [] (distS N l [] i) (j : Int)))
theorem Rows2.below {w w' : World} {N i : Nat} {l : List Lnk} {vs : List Value} (h : Rows2 w N l i vs) (hb : Below w.heap.size w w') : Rows2 w' N l i vs := fun j v hv => own_below (h j v hv) hb
theorem Rows2.app {w : World} {N i k : Nat} {l : List Lnk} {vs : List Value} {v : Value} (h : Rows2 w N l i vs) (hk : vs.length = k) (hv : w.ownsRow 0 3 1 v (nextS (N : Int) l [] (distS N l [] i) (k : Int)).length (icells (nextS (N : Int) l [] (distS N l [] i) (k : Int)))) : Rows2 w N l i (vs ++ [v]) := by
  intro j u hu
  rcases Nat.lt_or_ge j vs.length with hi | hi
  · rw [List.getElem?_append_left hi] at hu
    exact h j u hu
  · rw [List.getElem?_append_right hi] at hu
    have : j = vs.length := by
      have := (List.getElem?_eq_some_iff.1 hu).1
      simp at this; omega
    subst this
    simp at hu
    subst hu
    rw [hk]
    exact hv
/-- What waysTo holds while it fills. -/
structure WTs (w : World) (N : Nat) (A : Option Addr) (n c : Nat) (l : List Lnk) (i BW : Nat) (vL vD : Value) (k : Nat) (vs : List Value) (w' : World) : Prop where
  box : w'.heap[BW]? = some (.cells #[vL, vD] 76 (0, 0))
  res : w'.heap[w.heap.size + 1]? = some (.cells #[.slice none 0 0, .slice none 0 0] 76 (0, 0))
  held : Held w (N : Int) A n c w'
  len : w'.ownsRow 0 3 1 vL N (icells (distS N l [] i))
  own : w'.ownsRow (BW + 1) 40 1 vD k vs
  rows : Rows2 w' N l i vs
  lt : w.heap.size + 1 < BW
theorem WTs.next {w w' w'' : World} {N : Nat} {A : Option Addr} {n c : Nat} {l : List Lnk} {i BW : Nat} {vL vD : Value} {k : Nat} {vs : List Value} (h : WTs w N A n c l i BW vL vD k vs w') (hb : Below w'.heap.size w' w'') : WTs w N A n c l i BW vL vD k vs w'' :=
  ⟨box_below h.box hb (heap_lt h.box), box_below h.res hb (heap_lt h.res), h.held.next hb, own_below h.len hb, own_below h.own hb, h.rows.below hb, h.lt⟩
theorem WTs.drew {w w' : World} {N : Nat} {A : Option Addr} {n c : Nat} {l : List Lnk} {i BW : Nat} {vL vD : Value} {k : Nat} {vs : List Value} (h : WTs w N A n c l i BW vL vD k vs w') : WTs w N A n c l i BW vL vD k vs w'.drew := h.next ((Below.refl _ _).drew)
/-- One row more, and the box stored. -/
theorem WTs.put {w w5 w6 : World} {N : Nat} {A : Option Addr} {n c : Nat} {l : List Lnk} {i BW : Nat} {vL vD v5 : Value} {k : Nat} {vs : List Value} {o : Obj} {v6 : Value} (h : WTs w N A n c l i BW vL vD k vs w5) (hk : vs.length = k) (hv : w5.ownsRow 0 3 1 v5 (nextS (N : Int) l [] (distS N l [] i) (k : Int)).length (icells (nextS (N : Int) l [] (distS N l [] i) (k : Int))))
    (h6 : w6.ownsRow (BW + 1) 40 1 v6 (k + 1) (vs ++ [v5])) (hg : (w5.alloc o).grownBy w6 vD.ownBlock) : WTs w N A n c l i BW vL v6 (k + 1) (vs ++ [v5]) (w6.setCell ⟨BW, 1, none⟩ v6) := by
  have hb6 := box_app h.box (by omega) h.own hg
  have ha : ∀ {b e s m : Nat} {v : Value} {xs : List Value}, w5.ownsRow b e s v m xs → e ≠ 40 → w6.ownsRow b e s v m xs := by
    intro b e s m v xs ho he
    have ho1 := ho.alloc (w := w5) o
    have ho2 := h.own.alloc (w := w5) o
    exact ho1.kept hg ((own_apart ho1 ho2 he).imp id id)
  refine ⟨box_set1 hb6, ?_, ?_, ?_, ?_, ?_, h.lt⟩
  · exact (heap_setCell_other _ _ _ _ (by have := h.lt; show _ ≠ BW; omega)).trans (box_app h.res (by have := h.lt; omega) h.own hg)
  · refine ⟨(below_app h.held.1 (by have := h.lt; omega) h.own hg).setCell (by have := h.lt; show _ ≤ BW; omega) _, (heap_setCell_other _ _ _ _ (by have := h.lt; show _ ≠ BW; omega)).trans ?_⟩
    exact box_app h.held.2 (by have := h.lt; omega) h.own hg
  · exact own_box (ha h.len (by decide)) hb6 (by decide)
  · exact own_box h6 hb6 (by decide)
  · have h7 : Rows2 w6 N l i (vs ++ [v5]) := Rows2.app (fun j v hv => ha (h.rows j v hv) (by decide)) hk (ha hv (by decide))
    exact fun j v hv => own_box (h7 j v hv) hb6 (by decide)
/-- What waysTo answers: a row of lengths, a row of rows of edges. -/
def WayAns (N : Nat) (l : List Lnk) (i : Nat) (w : World) (e : Ending) (w' : World) : Prop :=
  ∃ A1 c1 A2 c2 vs, e = .returned (.agg #[.slice A1 N c1, .slice A2 N c2]) ∧ w'.ownsRow 0 3 1 (.slice A1 N c1) N (icells (distS N l [] i)) ∧ w'.ownsRow 0 40 1 (.slice A2 N c2) N vs ∧ Rows2 w' N l i vs ∧ Below w.heap.size w w'
theorem waysTo_any (N : Nat) (A : Option Addr) (n c : Nat) (l : List Lnk) (i : Nat) (w : World) (hg : GArg w (N : Int) A n c l) (h : (checkS (N : Int) l).2 = 0) (hi : i < N) :
    Calls Try.prog 28 #[.agg #[.int .i64 (N : Int), .slice A n c], .int .i64 (i : Int)] w (WayAns N l i w) := by
  have hok := gok_of h
  have hN : N ≤ 40 := hok.2.2.1
  have hS := Held.start w (N : Int) A n c
  have h2 := hS.next ((Below.refl _ _).alloc (Nat.le_refl _) (.cells #[.slice none 0 0, .slice none 0 0] 76))
  have hX0 : ((w.alloc (.cells #[.int .i64 (N : Int), .slice A n c] 24)).alloc (.cells #[.slice none 0 0, .slice none 0 0] 76)).heap[w.heap.size + 1]? = some (.cells #[.slice none 0 0, .slice none 0 0] 76 (0, 0)) := by
    have := heap_alloc_new (w.alloc (.cells #[.int .i64 (N : Int), .slice A n c] 24)) (.cells #[.slice none 0 0, .slice none 0 0] 76)
    rw [show (w.alloc (.cells #[.int .i64 (N : Int), .slice A n c] 24)).heap.size = w.heap.size + 1 by simp] at this
    exact this
  have hdl := (dist_ok (dn := []) hok hi).len
  have HT := hid (show Calls Try.prog 43 #[.agg #[.int .i64 (N : Int), .slice A n c], .slice none 0 0, .int .i64 (i : Int)] ((w.alloc (.cells #[.int .i64 (N : Int), .slice A n c] 24)).alloc (.cells #[.slice none 0 0, .slice none 0 0] 76)) fun e w'' => ∃ A5 c5, e = .returned (.slice A5 N c5) ∧ w''.ownsRow 0 3 1 (.slice A5 N c5) N (icells (distS N l [] i)) ∧ Below ((w.alloc (.cells #[.int .i64 (N : Int), .slice A n c] 24)).alloc (.cells #[.slice none 0 0, .slice none 0 0] 76)).heap.size ((w.alloc (.cells #[.int .i64 (N : Int), .slice A n c] 24)).alloc (.cells #[.slice none 0 0, .slice none 0 0] 76)) w'' by
    have hf := to_spec (N : Int) A n c l none 0 0 [] (i : Int) _ (hg.on h2.1) (DArg.nil _) (by omega) (by omega)
    have Q : fromS (N : Int) l [] (i : Int) = distS N l [] i := by unfold fromS; rw [if_pos ⟨h, by omega, by omega⟩]; rfl
    rw [Q] at hf
    refine hf.mono ?_
    rintro e' w'' ⟨v, rfl, hown, hb⟩
    rw [hdl] at hown
    obtain ⟨A5, c5, rfl⟩ := own_form hown
    exact ⟨A5, c5, rfl, own_mono hown (Nat.zero_le _), hb⟩)
  have HX := hid (fun (j : Nat) (hj : j < N) (AL : Option Addr) (cL : Nat) (w' : World) (hh : Held w (N : Int) A n c w') (hL : w'.ownsRow 0 3 1 (.slice AL N cL) N (icells (distS N l [] i))) => show Calls Try.prog 44 #[.agg #[.int .i64 (N : Int), .slice A n c], .slice none 0 0, .slice AL N cL, .int .i64 (j : Int)] w' fun e w'' => ∃ A5 m5 c5, e = .returned (.slice A5 m5 c5) ∧ w''.ownsRow 0 3 1 (.slice A5 m5 c5) (nextS (N : Int) l [] (distS N l [] i) (j : Int)).length (icells (nextS (N : Int) l [] (distS N l [] i) (j : Int))) ∧ Below w'.heap.size w' w'' by
    refine (next_spec (N : Int) A n c l none 0 0 [] AL N cL (distS N l [] i) (j : Int) w' (hg.on hh.1) (DArg.nil w') (own_targ hL hdl (by omega) (fun x hx => by
        obtain ⟨i', hi', rfl⟩ := List.getElem_of_mem hx
        have e := dAt_get hi'
        rw [List.getElem?_eq_getElem hi'] at e
        injection e with e
        rw [e]
        have h1 := (dist_ok (dn := []) hok hi).low i' (by omega)
        have h2 := dist_top (dn := []) hok hi (v := i') (by omega)
        omega)) (by omega) (by omega)).mono ?_
    rintro e' w'' ⟨v, rfl, hown, hb⟩
    obtain ⟨A5, c5, rfl⟩ := own_form hown
    exact ⟨A5, _, c5, rfl, own_mono hown (Nat.zero_le _), hb⟩)
  obtain ⟨i5, hi5, hz0, hz1, hz2⟩ := info_parts (show (Try.prog.info? 40).map (fun i => (i.zero, i.size, i.bytes)) = some (some (.slice none 0 0), 1, 24) by kernel_rfl)
  have Ai := hid hi5; have Az0 := hid hz0; have Az1 := hid hz1; have Az2 := hid hz2
  obtain ⟨g0, g1⟩ := h2.cells
  have HX0 := hid hX0
  have H2 := hid h2
  clear hi5 hz0 hz1 hz2 hg h hX0 hS h2 hok hdl
  go_enter Try.func28, Try.ntmps28
  go_wp2_with (go_at_call 43; (with_reducible refine HT.out.mono ?_); rintro e' w2 ⟨AL, cL, rfl, hown2, hb2⟩; have HO2 := hid hown2; have h2 := H2.out.next hb2; have HX2 := hid (box_below HX0.out hb2 (heap_lt HX0.out)); have hb3 := (Below.refl w2.heap.size w2).alloc (Nat.le_refl _) (.cells #[.slice AL N cL, .slice none 0 0] 76); obtain ⟨c0, c1⟩ := h2.cells; obtain ⟨c3, c4⟩ := (h2.next hb3).cells; have H2' := hid h2; have HB3 := hid hb3; clear hown2 hb2 hb3 h2)
  obtain ⟨BW, hBW⟩ : ∃ BW, w2.heap.size = BW := ⟨_, rfl⟩
  obtain ⟨w3, hw3⟩ : ∃ w3, w2.alloc (.cells #[.slice AL N cL, .slice none 0 0] 76) = w3 := ⟨_, rfl⟩
  have HS0 : Hid (WTs w N A n c l i BW (.slice AL N cL) (.slice none 0 0) 0 [] w3) := by
    have hb3 := HB3.out
    rw [hw3, hBW] at hb3
    rw [← hBW] at hb3
    refine ⟨?_, box_below HX2.out hb3 (heap_lt HX2.out), H2'.out.next hb3, own_below HO2.out hb3, World.ownsRow_nil _ _ _ _, fun j v hv => by simp at hv, ?_⟩
    · rw [← hw3, ← hBW]; exact heap_alloc_new w2 _
    · rw [← hBW]; exact heap_lt HX2.out
  simp only [hBW, hw3]
  clear hBW hw3 c0 c1 c3 c4 g0 g1 HB3 H2' HX2 HO2 HX0 H2 HT
  go_loopw [13] (fun iv wr => ∃ (k : Nat) (vD : Value) (vs : List Value), k ≤ N ∧ iv = .int .i64 k ∧ Hid (WTs w N A n c l i BW (.slice AL N cL) vD k vs wr)) (fun iv _ => N - (intOf iv).toNat)
  case atStart => exact ⟨0, _, [], Nat.zero_le _, rfl, HS0⟩
  case round =>
    obtain ⟨k, vD, vs, hk, rfl, HSt⟩ := hrel
    by_cases hlt : k < N
    · have HXk := hid (HX.out k hlt AL cL)
      have Hvs : Hid (vs.length = k) := by show _ = _; have := HSt.out.own.1; omega
      have stD := HSt.out.drew
      have HSD := hid stD
      obtain ⟨d0, d1⟩ := stD.held.cells
      obtain ⟨e1, e2, _⟩ := box_cells stD.box
      clear stD
      go_wp2_with fail
      go_region_law (first
        | (go_simp; go_at_call 44; (with_reducible refine (HXk.out _ HSD.out.held HSD.out.len).mono ?_); rintro e' w5 ⟨A5, m5, c5, rfl, hown5, hb5⟩; have st5 := HSD.out.next hb5; have HS5 := hid st5; have HO5 := hid st5.own; have HV5 := hid hown5; obtain ⟨q1, q2, _⟩ := box_cells st5.box; obtain ⟨q3, q4⟩ := st5.held.cells; have hl5 := heap_lt st5.box; clear hown5 st5)
        | ((refine step_append_some (by rfl) (.tmp 17) (.tmp 23) 60 (by rfl) (BW + 1) 40 i5 (.slice none 0 0) 1 24 Try.underlying60 Ai.out Az0.out Az1.out Az2.out rfl (by decide) vD k vs (by go_simp) (HO5.out.alloc _) ⟨w5.heap.size, 0, none⟩ 1 1 [.slice A5 m5 c5] (by go_simp) (by rfl) (new_row (by rfl)) (by simp [Value.oneCell']) (by unfold maxLen; omega) (by omega) (by simp; omega) ?_; intro A6 c6 w6 hown6 hg6; have HO6 := hid hown6; have HG6 := hid hg6; have hX6 := box_app HS5.out.box (by omega) HO5.out hg6; obtain ⟨p1, p2, pf⟩ := box_cells hX6; have f6 := pf 1; clear hown6 hX6 pf)))
      all_goals
        have HNx := hid (WTs.put HS5.out Hvs.out HV5.out HO6.out HG6.out)
        go_wp2_with fail
        go_roundw
        case rel => exact ⟨k + 1, _, _, by omega, by go_num, HNx⟩
        case measure => simp [intOf]; omega
    · obtain rfl : N = k := by omega
      obtain ⟨A2, c2, hv⟩ := own_form HSt.out.own
      subst hv
      obtain ⟨x1, x2, _⟩ := box_cells HSt.out.box
      obtain ⟨y1, y2, yf⟩ := box_cells HSt.out.res
      have yf0 := yf 0
      have yf1 := yf 1
      obtain ⟨z0, z1⟩ := HSt.out.held.cells
      clear yf HX
      go_wp2_with fail
      have hg := box_set1 (u := .slice A2 N c2) (box_set0 (u := .slice AL N cL) HSt.out.res)
      try simp only [Exit.inBlock, Exit.then]
      refine bodyPost_ret (results_cell_row (p := 4) (fn := Try.f28) rfl _ _ _ _ _ _ _ rfl hg Try.underlying76 rfl (by kernel_rfl)) rfl ?_
      have hb1 := box_set0 (u := Value.slice AL N cL) HSt.out.res
      have hS := HSt.out
      have hlt := hS.lt
      refine ⟨AL, cL, A2, c2, vs, rfl, own_box (own_box hS.len hS.res (by decide)) hb1 (by decide), own_box (own_box (own_mono hS.own (Nat.zero_le _)) hS.res (by decide)) hb1 (by decide), fun j v hv => own_box (own_box (hS.rows j v hv) hS.res (by decide)) hb1 (by decide), ?_⟩
      exact (hS.held.1.setCell (by show _ ≤ _ + 1; omega) _).setCell (by show _ ≤ _ + 1; omega) _
end Go.Proofs.Ytkemcgbedapkcaa

/- tables.New. -/
namespace Go.Proofs.Ytkemcgbedapkcaa
open Go.RowKit
set_option maxHeartbeats 6400000
set_option maxRecDepth 100000
def wcells (ps : List (Value × Value)) : List Value := ps.flatMap fun p => [p.1, p.2]
theorem wcells_app (a b : List (Value × Value)) : wcells (a ++ b) = wcells a ++ wcells b := List.flatMap_append
theorem wcells_len (ps : List (Value × Value)) : (wcells ps).length = ps.length * 2 := by
  induction ps with
  | nil => rfl
  | cons x r ih => simp only [wcells, List.flatMap_cons, List.length_append, List.length_cons, List.length_nil] at *; omega
theorem wcells_at {ps : List (Value × Value)} {i : Nat} {p : Value × Value} (h : ps[i]? = some p) : (wcells ps)[i * 2]? = some p.1 ∧ (wcells ps)[i * 2 + 1]? = some p.2 := by
  induction ps generalizing i with
  | nil => simp at h
  | cons x r ih =>
    cases i with
    | zero => simp at h; subst h; exact ⟨rfl, rfl⟩
    | succ i =>
      simp at h
      obtain ⟨h1, h2⟩ := ih h
      refine ⟨?_, ?_⟩
      · rw [show (i + 1) * 2 = i * 2 + 2 by omega]; exact h1
      · rw [show (i + 1) * 2 + 1 = i * 2 + 1 + 2 by omega]; exact h2
/-- What stands for a node: its row of lengths, its row of rows of edges. -/
def Way1 (w : World) (N : Nat) (l : List Lnk) (i : Nat) (v1 v2 : Value) : Prop := ∃ vs, w.ownsRow 0 3 1 v1 N (icells (distS N l [] i)) ∧ w.ownsRow 0 40 1 v2 N vs ∧ Rows2 w N l i vs
theorem Way1.below {w w' : World} {N i : Nat} {l : List Lnk} {v1 v2 : Value} (h : Way1 w N l i v1 v2) (hb : Below w.heap.size w w') : Way1 w' N l i v1 v2 := by
  obtain ⟨vs, h1, h2, h3⟩ := h
  exact ⟨vs, own_below h1 hb, own_below h2 hb, h3.below hb⟩
theorem Way1.same {w w' : World} {N i : Nat} {l : List Lnk} {v1 v2 : Value} (h : Way1 w N l i v1 v2) (ha : ∀ {b e s m : Nat} {v : Value} {xs : List Value}, w.ownsRow b e s v m xs → e ≠ 76 → w'.ownsRow b e s v m xs) : Way1 w' N l i v1 v2 := by
  obtain ⟨vs, h1, h2, h3⟩ := h
  exact ⟨vs, ha h1 (by decide), ha h2 (by decide), fun j v hv => ha (h3 j v hv) (by decide)⟩
theorem Way1.box {w : World} {N i B j : Nat} {l : List Lnk} {v1 v2 u : Value} {c : Array Value} {fz : Nat × Nat} (h : Way1 w N l i v1 v2) (ho : w.heap[B]? = some (.cells c 74 fz)) : Way1 (w.setCell ⟨B, j, none⟩ u) N l i v1 v2 := by
  obtain ⟨vs, h1, h2, h3⟩ := h
  exact ⟨vs, own_box h1 ho (by decide), own_box h2 ho (by decide), fun j v hv => own_box (h3 j v hv) ho (by decide)⟩
def Rows3 (w : World) (N : Nat) (l : List Lnk) (ps : List (Value × Value)) : Prop := ∀ (i : Nat) (p : Value × Value), ps[i]? = some p → Way1 w N l i p.1 p.2
theorem Rows3.app {w : World} {N k : Nat} {l : List Lnk} {ps : List (Value × Value)} {v1 v2 : Value} (h : Rows3 w N l ps) (hk : ps.length = k) (hv : Way1 w N l k v1 v2) : Rows3 w N l (ps ++ [(v1, v2)]) := by
  intro j u hu
  rcases Nat.lt_or_ge j ps.length with hi | hi
  · rw [List.getElem?_append_left hi] at hu
    exact h j u hu
  · rw [List.getElem?_append_right hi] at hu
    have : j = ps.length := by
      have := (List.getElem?_eq_some_iff.1 hu).1
      simp at this; omega
    subst this
    simp at hu
    subst hu
    rw [hk]
    exact hv
/-- What New holds while it fills. -/
structure TTs (w : World) (N : Nat) (A : Option Addr) (n c : Nat) (l : List Lnk) (BT : Nat) (A' : Option Addr) (c' : Nat) (vT : Value) (k : Nat) (ps : List (Value × Value)) (w' : World) : Prop where
  box : w'.heap[BT]? = some (.cells #[.int .i64 (N : Int), .slice A' n c', vT] 74 (0, 0))
  held : Held w (N : Int) A n c w'
  lnk : w'.ownsRow 0 49 4 (.slice A' n c') n (lcells l)
  own : w'.ownsRow (BT + 1) 76 2 vT k (wcells ps)
  rows : Rows3 w' N l ps
  lt : w.heap.size < BT
theorem TTs.next {w w' w'' : World} {N : Nat} {A : Option Addr} {n c : Nat} {l : List Lnk} {BT : Nat} {A' : Option Addr} {c' : Nat} {vT : Value} {k : Nat} {ps : List (Value × Value)} (h : TTs w N A n c l BT A' c' vT k ps w') (hb : Below w'.heap.size w' w'') : TTs w N A n c l BT A' c' vT k ps w'' :=
  ⟨box_below h.box hb (heap_lt h.box), h.held.next hb, own_below h.lnk hb, own_below h.own hb, fun i p hp => (h.rows i p hp).below hb, h.lt⟩
theorem TTs.drew {w w' : World} {N : Nat} {A : Option Addr} {n c : Nat} {l : List Lnk} {BT : Nat} {A' : Option Addr} {c' : Nat} {vT : Value} {k : Nat} {ps : List (Value × Value)} (h : TTs w N A n c l BT A' c' vT k ps w') : TTs w N A n c l BT A' c' vT k ps w'.drew := h.next ((Below.refl _ _).drew)
/-- One node more, and the box stored. -/
theorem TTs.put {w w5 w6 : World} {N : Nat} {A : Option Addr} {n c : Nat} {l : List Lnk} {BT : Nat} {A' : Option Addr} {c' : Nat} {vT v1 v2 : Value} {k : Nat} {ps : List (Value × Value)} {o : Obj} {v6 : Value} (h : TTs w N A n c l BT A' c' vT k ps w5) (hk : ps.length = k) (hv : Way1 w5 N l k v1 v2)
    (h6 : w6.ownsRow (BT + 1) 76 2 v6 (k + 1) (wcells ps ++ [v1, v2])) (hg : (w5.alloc o).grownBy w6 vT.ownBlock) : TTs w N A n c l BT A' c' v6 (k + 1) (ps ++ [(v1, v2)]) (w6.setCell ⟨BT, 2, none⟩ v6) := by
  have hb6 := box_app h.box (by omega) h.own hg
  have ha : ∀ {b e s m : Nat} {v : Value} {xs : List Value}, w5.ownsRow b e s v m xs → e ≠ 76 → w6.ownsRow b e s v m xs := by
    intro b e s m v xs ho he
    have ho1 := ho.alloc (w := w5) o
    have ho2 := h.own.alloc (w := w5) o
    exact ho1.kept hg ((own_apart ho1 ho2 he).imp id id)
  refine ⟨box3_set2 hb6, ?_, ?_, ?_, ?_, h.lt⟩
  · refine ⟨(below_app h.held.1 (by have := h.lt; omega) h.own hg).setCell (by have := h.lt; show _ ≤ BT; omega) _, (heap_setCell_other _ _ _ _ (by have := h.lt; show _ ≠ BT; omega)).trans ?_⟩
    exact box_app h.held.2 (by have := h.lt; omega) h.own hg
  · exact own_box (ha h.lnk (by decide)) hb6 (by decide)
  · rw [wcells_app]; exact own_box h6 hb6 (by decide)
  · have h7 : Rows3 w6 N l (ps ++ [(v1, v2)]) := Rows3.app (fun i p hp => (h.rows i p hp).same ha) hk (hv.same ha)
    exact fun i p hp => (h7 i p hp).box hb6
theorem new_not (nd : Int) (A : Option Addr) (n c : Nat) (l : List Lnk) (w : World) (hr : RLnk w w.heap.size A n l) (h : (checkS nd l).2 ≠ 0) :
    Calls Try.prog 16 #[.agg #[.int .i64 nd, .slice A n c]] w fun e w' => e = .returned (.tuple #[.pointer none, .int .i64 (checkS nd l).2]) ∧ Below w.heap.size w w' := by
  have hS := Held.start w nd A n c
  have HK := hid (fun (w' : World) (h : Held w nd A n c w') => h.calls (check_any nd A n c l w' (h.on hr)))
  obtain ⟨g0, g1⟩ := hS.cells
  obtain ⟨k1, hk1⟩ : ∃ k1, (checkS nd l).1 = k1 := ⟨_, rfl⟩
  obtain ⟨k2, hk2⟩ : ∃ k2, (checkS nd l).2 = k2 := ⟨_, rfl⟩
  rw [hk1, hk2] at HK
  rw [hk2] at h ⊢
  have t1 : (k2 != 0) = true := by simpa using h
  clear hr h hk1 hk2
  go_enter Try.func16, Try.ntmps16
  go_wp2_with (go_at_call 26; (with_reducible refine (HK.out _ hS).mono ?_); rintro e' w1 ⟨rfl, h1⟩; obtain ⟨g2, g3⟩ := h1.cells)
  go_ret2
  exact ⟨rfl, h1.1⟩
theorem new_in (N : Nat) (A : Option Addr) (n c : Nat) (l : List Lnk) (w : World) (hg : GArg w (N : Int) A n c l) (h : (checkS (N : Int) l).2 = 0) :
    Calls Try.prog 16 #[.agg #[.int .i64 (N : Int), .slice A n c]] w fun e w' => ∃ BT A' c' vT ps, e = .returned (.tuple #[.pointer (some ⟨BT, 0, none⟩), .int .i64 0]) ∧ TTs w N A n c l BT A' c' vT N ps w' := by
  have hok := gok_of h
  have hN : N ≤ 40 := hok.2.2.1
  have hl := hg.row.1
  have hn : n ≤ 120 := by rw [← hl]; exact hok.1
  have hS := Held.start w (N : Int) A n c
  have HK := hid (fun (w' : World) (h : Held w (N : Int) A n c w') => h.calls (check_any (N : Int) A n c l w' (h.on hg.row)))
  obtain ⟨k1, hk1⟩ : ∃ k1, (checkS (N : Int) l).1 = k1 := ⟨_, rfl⟩
  rw [hk1, h] at HK
  obtain ⟨g0, g1⟩ := hS.cells
  have HC := hid (fun (w' : World) (h : Held w (N : Int) A n c w') => clone_any (N : Int) A n c l w' (h.on hg.row) (by omega) hg.non)
  have HF := hid (fun (i : Nat) (hi : i < N) (A' : Option Addr) (c' : Nat) (w' : World) (hh : w'.ownsRow 0 49 4 (.slice A' n c') n (lcells l)) => waysTo_any N A' n c' l i w' (own_garg hh hl hok) h hi)
  obtain ⟨i5, hi, hz0, hz1, hz2⟩ := info_parts (show (Try.prog.info? 76).map (fun i => (i.zero, i.size, i.bytes)) = some (some (.agg #[.slice none 0 0, .slice none 0 0]), 2, 48) by kernel_rfl)
  have Ai := hid hi; have Az0 := hid hz0; have Az1 := hid hz1; have Az2 := hid hz2
  have tE : ((0 : Int) != 0) = false := by decide
  clear hi hz0 hz1 hz2 hg h hk1 hok
  go_enter Try.func16, Try.ntmps16
  go_wp2_with (first
    | (go_at_call 26; (with_reducible refine (HK.out _ hS).mono ?_); rintro e' w1 ⟨rfl, h1⟩; obtain ⟨g2, g3⟩ := h1.cells)
    | (go_at_call 27; (with_reducible refine (HC.out _ h1).mono ?_); rintro e' w2 ⟨A', c', rfl, hown2, hb2⟩; have HO2 := hid hown2; have h2 := h1.next hb2; have hb3 := (Below.refl w2.heap.size w2).alloc (Nat.le_refl _) (.cells #[.int .i64 (N : Int), .slice A' n c', .slice none 0 0] 74); obtain ⟨c3, c4⟩ := (h2.next hb3).cells; clear hown2 hb3))
  obtain ⟨BT, hBT⟩ : ∃ BT, w2.heap.size = BT := ⟨_, rfl⟩
  obtain ⟨w3, hw3⟩ : ∃ w3, w2.alloc (.cells #[.int .i64 (N : Int), .slice A' n c', .slice none 0 0] 74) = w3 := ⟨_, rfl⟩
  have HS0 : Hid (TTs w N A n c l BT A' c' (.slice none 0 0) 0 [] w3) := by
    rw [← hw3, ← hBT]
    have hb3 : Below w2.heap.size w2 (w2.alloc (.cells #[.int .i64 (N : Int), .slice A' n c', .slice none 0 0] 74)) := (Below.refl _ _).alloc (Nat.le_refl _) _
    exact ⟨heap_alloc_new w2 _, h2.next hb3, own_mono (own_below HO2.out hb3) (Nat.zero_le _), World.ownsRow_nil _ _ _ _, fun i v hv => by simp at hv, h2.lt⟩
  simp only [hBT, hw3]
  clear hBT hw3 g0 g1 g2 g3 c3 c4 h1 h2 hS HC HK HO2
  go_loopw [22] (fun i wr => ∃ (k : Nat) (vT : Value) (ps : List (Value × Value)), k ≤ N ∧ i = .int .i64 k ∧ Hid (TTs w N A n c l BT A' c' vT k ps wr)) (fun i _ => N - (intOf i).toNat)
  case atStart => exact ⟨0, _, [], Nat.zero_le _, rfl, HS0⟩
  case round =>
    obtain ⟨k, vT, ps, hk, rfl, HSt⟩ := hrel
    obtain ⟨z0, z1⟩ := HSt.out.held.cells
    by_cases hlt : k < N
    · have HFk := hid (HF.out k hlt A' c')
      have Hvs : Hid (ps.length = k) := by show _ = _; have := HSt.out.own.1; rw [wcells_len] at this; omega
      have stD := HSt.out.drew
      have HSD := hid stD
      obtain ⟨d0, d1, d2, _⟩ := box3_cells stD.box
      clear stD
      go_wp2_with fail
      go_region_law (first
        | (go_simp; go_at_call 28; (with_reducible refine (HFk.out _ HSD.out.lnk).mono ?_); rintro e' w5 ⟨A5, c5, A6, c6, vs, rfl, hown5, hown6, hrows, hb5⟩; have st5 := HSD.out.next hb5; have HS5 := hid st5; have HO5 := hid st5.own; have HV5 := hid (show Way1 w5 N l k _ _ from ⟨vs, hown5, hown6, hrows⟩); obtain ⟨q0, q1, q2, _⟩ := box3_cells st5.box; have hl5 := heap_lt st5.box; clear hown5 hown6 hrows st5)
        | ((refine step_append_some (by rfl) (.tmp 29) (.tmp 36) 72 (by rfl) (BT + 1) 76 i5 (.agg #[.slice none 0 0, .slice none 0 0]) 2 48 Try.underlying72 Ai.out Az0.out Az1.out Az2.out rfl (by decide) vT k (wcells ps) (by go_simp) (HO5.out.alloc _) ⟨w5.heap.size, 0, none⟩ 1 1 [.slice A5 N c5, .slice A6 N c6] (by go_simp) (by rfl) (new_row (by rfl)) (by simp [Value.oneCell']) (by unfold maxLen; omega) (by omega) (by simp; omega) ?_; intro A7 c7 w6 hown6 hg6; have HO6 := hid hown6; have HG6 := hid hg6; have hX6 := box_app HS5.out.box (by omega) HO5.out hg6; obtain ⟨_, _, p2, pf⟩ := box3_cells hX6; have f6 := pf 2; clear hown6 hX6 pf)))
      all_goals
        have HNx := hid (TTs.put HS5.out Hvs.out HV5.out HO6.out HG6.out)
        go_wp2_with fail
        go_roundw
        case rel => exact ⟨k + 1, _, _, by omega, by go_num, HNx⟩
        case measure => simp [intOf]; omega
    · obtain rfl : N = k := by omega
      go_wp2_with fail
      go_ret2
      exact ⟨BT, A', c', vT, ps, rfl, HSt.out⟩
end Go.Proofs.Ytkemcgbedapkcaa

/- Cut out of TcD. -/
namespace Go.Proofs.Ytkemcgbedapkcaa
open Go.RowKit
set_option maxHeartbeats 12800000
set_option maxRecDepth 100000
/-- What lies behind a pair of tables. -/
structure TAt (BT : Nat) (A' : Option Addr) (n c' : Nat) (A7 : Option Addr) (c7 : Nat) (ps : List (Value × Value)) (N : Nat) (l : List Lnk) (w : World) : Prop where
  box : w.heap[BT]? = some (.cells #[.int .i64 (N : Int), .slice A' n c', .slice A7 N c7] 74 (0, 0))
  lnk : w.ownsRow 0 49 4 (.slice A' n c') n (lcells l)
  own : w.ownsRow 0 76 2 (.slice A7 N c7) N (wcells ps)
  rows : Rows3 w N l ps
  len : l.length = n
theorem TAt.on {BT : Nat} {A' : Option Addr} {n c' : Nat} {A7 : Option Addr} {c7 : Nat} {ps : List (Value × Value)} {N : Nat} {l : List Lnk} {w w' : World} (h : TAt BT A' n c' A7 c7 ps N l w) (hb : Below w.heap.size w w') : TAt BT A' n c' A7 c7 ps N l w' :=
  ⟨box_below h.box hb (heap_lt h.box), own_below h.lnk hb, own_below h.own hb, fun i p hp => (h.rows i p hp).below hb, h.len⟩
def TabAt (w : World) (p : Addr) (N : Nat) (l : List Lnk) : Prop := ∃ BT A' n c' A7 c7 ps, p = ⟨BT, 0, none⟩ ∧ TAt BT A' n c' A7 c7 ps N l w
theorem tabAt_keep (w w' : World) (p : Addr) (N : Nat) (l : List Lnk) (h : TabAt w p N l) (hb : Below w.heap.size w w') : TabAt w' p N l := by
  obtain ⟨BT, A', n, c', A7, c7, ps, hp, h⟩ := h
  exact ⟨BT, A', n, c', A7, c7, ps, hp, h.on hb⟩
theorem new_any (nd : Int) (A : Option Addr) (n c : Nat) (l : List Lnk) (w : World) (hg : GAny w nd A n c l) : Calls Try.prog 16 #[.agg #[.int .i64 nd, .slice A n c]] w (NewAns TabAt nd l w) := by
  by_cases h : (checkS nd l).2 = 0
  · obtain ⟨h1, h2, _, _⟩ := checkS_ok h
    obtain ⟨N, rfl⟩ := Int.eq_ofNat_of_zero_le (show 0 ≤ nd by omega)
    have hl := hg.row.1
    refine (new_in N A n c l w ⟨hg.row, by omega, hg.cap, hg.non, hg.lo, hg.hi⟩ h).mono ?_
    rintro e' w' ⟨BT, A', c', vT, ps, rfl, hs⟩
    obtain ⟨A7, c7, rfl⟩ := own_form hs.own
    exact ⟨hs.held.1, .inl ⟨h, _, N, rfl, rfl, BT, A', n, c', A7, c7, ps, rfl, hs.box, hs.lnk, own_mono hs.own (Nat.zero_le _), hs.rows, hl⟩⟩
  · refine (new_not nd A n c l w hg.row h).mono ?_
    rintro e' w' ⟨rfl, hb⟩
    exact ⟨hb, .inr ⟨h, rfl⟩⟩
theorem hasNode2_any (BT N : Nat) (x0 x1 : Value) (A7 : Option Addr) (c7 : Nat) (v : Int) (w : World) (h : w.heap[BT]? = some (.cells #[x0, x1, .slice A7 N c7] 74 (0, 0))) :
    Calls Try.prog 95 #[.pointer (some ⟨BT, 0, none⟩), .int .i64 v] w fun e w' => e = .returned (.bool (decide (0 ≤ v ∧ v < N))) ∧ w = w' := by
  obtain ⟨c0, c1, c2, _⟩ := box3_cells h
  clear h
  by_cases h0 : 0 ≤ v
  · have t1 : decide (0 ≤ v) = true := by simpa using h0
    by_cases h1 : v < N
    · have t2 : decide (v < (N : Int)) = true := by simpa using h1
      have Q : decide (0 ≤ v ∧ v < N) = true := by simp [h0, h1]
      rw [Q]
      clear h0 h1 Q
      go_enter Try.func95, Try.ntmps95
      go_wp2_with fail
      go_ret
      exact ⟨rfl, rfl⟩
    · have t2 : decide (v < (N : Int)) = false := by simpa using h1
      have Q : decide (0 ≤ v ∧ v < N) = false := by simp [h0, h1]
      rw [Q]
      clear h0 h1 Q
      go_enter Try.func95, Try.ntmps95
      go_wp2_with fail
      go_ret
      exact ⟨rfl, rfl⟩
  · have t1 : decide (0 ≤ v) = false := by simpa using h0
    have Q : decide (0 ≤ v ∧ v < N) = false := by simp [h0]
    rw [Q]
    clear h0 Q
    go_enter Try.func95, Try.ntmps95
    go_wp2_with fail
    go_ret
    exact ⟨rfl, rfl⟩
/-- Where a pair's two rows stand. -/
theorem TAt.at {BT : Nat} {A' : Option Addr} {n c' : Nat} {A7 : Option Addr} {c7 : Nat} {ps : List (Value × Value)} {N : Nat} {l : List Lnk} {w : World} (h : TAt BT A' n c' A7 c7 ps N l w) {j : Nat} (hj : j < N) :
    ∃ g v1 v2, A7 = some ⟨g, 0, none⟩ ∧ g < w.heap.size ∧ w.cell? ⟨g, j * 2, none⟩ = some v1 ∧ w.cell? ⟨g, j * 2 + 1, none⟩ = some v2 ∧ Way1 w N l j v1 v2 := by
  have hlen := h.own.1
  rw [wcells_len] at hlen
  have hp : ps[j]? = some (ps[j]'(by omega)) := List.getElem?_eq_getElem _
  obtain ⟨k1, k2⟩ := wcells_at hp
  have hw := h.rows j _ hp
  rcases h.own.2 with ⟨h1, h2⟩ | ⟨g, cap, cur, h1, _, hg, _, _⟩
  · omega
  · simp only [Value.slice.injEq] at h1
    obtain ⟨rfl, _, rfl⟩ := h1
    have q1 := h.own.cells (g := g) rfl _ _ k1
    have q2 := h.own.cells (g := g) rfl _ _ k2
    rw [Go.WideShapes.add_plain, Nat.zero_add] at q1 q2
    exact ⟨g, _, _, rfl, heap_lt hg, q1, q2, hw⟩
theorem next2_any (BT : Nat) (A' : Option Addr) (n c' : Nat) (A7 : Option Addr) (c7 : Nat) (ps : List (Value × Value)) (N : Nat) (l : List Lnk) (a b : Int) (w : World) (h : TAt BT A' n c' A7 c7 ps N l w) (hok : GOk N l) :
    Calls Try.prog 89 #[.pointer (some ⟨BT, 0, none⟩), .int .i64 a, .int .i64 b] w (RowAns (nextT N l a b) w) := by
  obtain ⟨c0, c1, c2, _⟩ := box3_cells h.box
  have HNa := hid (hasNode2_any BT N _ _ A7 c7 a w h.box)
  have HNb := hid (hasNode2_any BT N _ _ A7 c7 b w h.box)
  by_cases ha : 0 ≤ a ∧ a < N
  · rw [decide_eq_true ha] at HNa
    by_cases hb : 0 ≤ b ∧ b < N
    · rw [decide_eq_true hb] at HNb
      obtain ⟨A0, rfl⟩ := Int.eq_ofNat_of_zero_le ha.1
      obtain ⟨B0, rfl⟩ := Int.eq_ofNat_of_zero_le hb.1
      have hA0 : A0 < N := by omega
      have hB0 : B0 < N := by omega
      have Q : nextT N l (A0 : Int) (B0 : Int) = nextS (N : Int) l [] (distS N l [] B0) (A0 : Int) := by unfold nextT; rw [if_pos hb, Int.toNat_natCast]
      have hL := nextT_len N l (A0 : Int) (B0 : Int)
      rw [Q] at hL ⊢
      obtain ⟨g, v1, v2, rfl, hg, cg1, cg2, vs, _, ho2, hr2⟩ := h.at hB0
      obtain ⟨va, hva⟩ : ∃ va, vs[A0]? = some va := ⟨vs[A0]'(by have := ho2.1; omega), List.getElem?_eq_getElem _⟩
      obtain ⟨g2, cap2, rfl, hg2, cg3⟩ := own_row_at ho2 hva
      have hrow := hr2 A0 va hva
      obtain ⟨L, hLe⟩ : ∃ L, nextS (N : Int) l [] (distS N l [] B0) (A0 : Int) = L := ⟨_, rfl⟩
      rw [hLe] at hrow hL ⊢
      obtain ⟨Aa, ca, rfl, _, hr⟩ := own_ints hrow rfl
      have hn5 := hok.1
      have HC := hid (cloneInts_any Aa L.length ca L w hr (by omega) (fun hA => by
        subst hA
        rcases hrow.2 with ⟨h1, h2⟩ | ⟨g, cap, cur, h1, _⟩
        · simp only [Value.slice.injEq] at h1; exact ⟨h2, h1.2.2⟩
        · simp at h1))
      clear h ha hb ho2 hr2 hva hrow hr hLe Q hL hn5
      go_enter Try.func89, Try.ntmps89
      go_wp2_with (first
        | (go_at_call 95; (with_reducible refine HNa.out.mono ?_); rintro _ _ ⟨rfl, rfl⟩)
        | (go_at_call 95; (with_reducible refine HNb.out.mono ?_); rintro _ _ ⟨rfl, rfl⟩)
        | (go_at_call 96; (with_reducible refine HC.out.mono ?_); rintro e' w3 ⟨v3, rfl, hown3, hb3⟩; have HO3 := hid hown3; have HB3 := hid hb3; clear hown3 hb3))
      go_ret
      obtain ⟨A3, c3, rfl, _, hr3⟩ := own_ints HO3.out rfl
      exact ⟨A3, c3, rfl, hr3, HB3.out⟩
    · rw [decide_eq_false hb] at HNb
      have Q : nextT N l a b = [] := by unfold nextT; rw [if_neg (by omega)]
      rw [Q]
      clear h ha hb Q
      go_enter Try.func89, Try.ntmps89
      go_wp2_with (first
        | (go_at_call 95; (with_reducible refine HNa.out.mono ?_); rintro _ _ ⟨rfl, rfl⟩)
        | (go_at_call 95; (with_reducible refine HNb.out.mono ?_); rintro _ _ ⟨rfl, rfl⟩))
      go_ret
      exact ⟨none, 0, rfl, ⟨rfl, fun h => by simp at h⟩, Below.refl _ _⟩
  · rw [decide_eq_false ha] at HNa
    have Q : nextT N l a b = [] := by
      unfold nextT nextS
      split
      · rw [if_neg (fun hh => ha ⟨hh.2.2.1, hh.2.2.2.1⟩)]
      · rfl
    rw [Q]
    clear h ha Q
    go_enter Try.func89, Try.ntmps89
    go_wp2_with (go_at_call 95; (with_reducible refine HNa.out.mono ?_); rintro _ _ ⟨rfl, rfl⟩)
    go_ret
    exact ⟨none, 0, rfl, ⟨rfl, fun h => by simp at h⟩, Below.refl _ _⟩
theorem graph_any (BT : Nat) (A' : Option Addr) (n c' : Nat) (A7 : Option Addr) (c7 : Nat) (ps : List (Value × Value)) (N : Nat) (l : List Lnk) (w : World) (h : TAt BT A' n c' A7 c7 ps N l w) (hok : GOk N l) :
    Calls Try.prog 19 #[.pointer (some ⟨BT, 0, none⟩)] w fun e w' => ∃ A c, e = .returned (.agg #[.int .i64 (N : Int), .slice A l.length c]) ∧ RLnk w' w'.heap.size A l.length l ∧ Below w.heap.size w w' := by
  have hb0 : Below w.heap.size w (w.alloc (.cells #[.int .i64 0, .slice none 0 0] 24)) := (Below.refl _ _).alloc (Nat.le_refl _) _
  have h1 := h.on hb0
  have hga := own_garg h1.lnk h1.len hok
  have hn := hok.1
  have hl := h.len
  have HC := hid (clone_any (N : Int) A' n c' l _ hga.row (by omega) hga.non)
  obtain ⟨c0, c1, c2, _⟩ := box3_cells h1.box
  have HX0 := hid (heap_alloc_new w (.cells #[.int .i64 0, .slice none 0 0] 24))
  have HB0 := hid hb0
  rw [hl]
  have Hl := hid hl
  clear h h1 hga hok hb0 hn hl
  go_enter Try.func19, Try.ntmps19
  go_wp2_with (go_at_call 27; (with_reducible refine HC.out.mono ?_); rintro e' w2 ⟨A2, c3, rfl, hown2, hb2⟩; have HO2 := hid hown2; have HX2 := hid (box_below HX0.out hb2 (heap_lt HX0.out)); have HB2 := hid (HB0.out.trans (hb2.mono HB0.out.size)); obtain ⟨q0, q1, qf⟩ := box_cells HX2.out; have f0 := qf 0; have f1 := qf 1; clear hown2 hb2 qf)
  have hg := box_set1 (u := .slice A2 n c3) (box_set0 (u := .int .i64 (N : Int)) HX2.out)
  try simp only [Exit.inBlock, Exit.then]
  refine bodyPost_ret (results_cell_row (p := 2) (fn := Try.f19) rfl _ _ _ _ _ _ _ rfl hg Try.underlying24 rfl (by kernel_rfl)) rfl ?_
  have ho : ((w2.setCell ⟨w.heap.size, 0, none⟩ (.int .i64 (N : Int))).setCell ⟨w.heap.size, 1, none⟩ (.slice A2 n c3)).ownsRow 0 49 4 (.slice A2 n c3) n (lcells l) := own_box (own_box (own_mono HO2.out (Nat.zero_le _)) HX2.out (by decide)) (box_set0 (u := .int .i64 (N : Int)) HX2.out) (by decide)
  obtain ⟨A9, c9, he, _, hr⟩ := own_lnks ho Hl.out
  simp only [Value.slice.injEq] at he
  obtain ⟨rfl, _, rfl⟩ := he
  exact ⟨A2, c3, rfl, hr, (HB2.out.setCell (Nat.le_refl _) _).setCell (Nat.le_refl _) _⟩
end Go.Proofs.Ytkemcgbedapkcaa
