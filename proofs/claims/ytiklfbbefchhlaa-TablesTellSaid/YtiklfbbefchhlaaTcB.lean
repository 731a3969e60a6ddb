/- tables.waysTo. -/
import Derived.Test.YtiklfbbefchhlaaTcA
import Derived.Test.YtiklfbbefchhlaaDjF
namespace Go.Proofs.Ytiklfbbefchhlaa
open Go.RowKit
set_option maxHeartbeats 6400000
set_option maxRecDepth 100000
/-- Each value reads as the edges that go on from its node. -/
def Rows2 (w : World) (N : Nat) (l : List Lnk) (i : Nat) (vs : List Value) : Prop := ∀ (j : Nat) (v : Value), vs[j]? = some v → w.ownsRow 0 3 1 v (nextS (N : Int) l [] (distS N l [] i) (j : Int)).length (icells (nextS (N : Int) l [] (distS N l [] i) (j : Int)))
theorem Rows2.below {w w' : World} {N i : Nat} {l : List Lnk} {vs : List Value} (h : Rows2 w N l i vs) (hb : Below w.heap.size w w') : Rows2 w' N l i vs := fun j v hv => own_below (h j v hv) hb
theorem Rows2.app {w : World} {N i k : Nat} {l : List Lnk} {vs : List Value} {v : Value} (h : Rows2 w N l i vs) (hk : vs.length = k) (hv : w.ownsRow 0 3 1 v (nextS (N : Int) l [] (distS N l [] i) (k : Int)).length (icells (nextS (N : Int) l [] (distS N l [] i) (k : Int)))) : Rows2 w N l i (vs ++ [v]) := by
  intro j u hu
  rcases Nat.lt_or_ge j vs.length with hi | hi
  · rw [List.getElem?_append_left hi] at hu
    exact h j u hu
  · rw [List.getElem?_append_right hi] at hu
    have : j = vs.length := by
      have := (List.getElem?_eq_some_iff.1 hu).1
      simp at this; omega
    subst this
    simp at hu
    subst hu
    rw [hk]
    exact hv
/-- What waysTo holds while it fills. -/
structure WTs (w : World) (N : Nat) (A : Option Addr) (n c : Nat) (l : List Lnk) (i BW : Nat) (vL vD : Value) (k : Nat) (vs : List Value) (w' : World) : Prop where
  box : w'.heap[BW]? = some (.cells #[vL, vD] 53 (0, 0))
  res : w'.heap[w.heap.size + 1]? = some (.cells #[.slice none 0 0, .slice none 0 0] 53 (0, 0))
  held : Held w (N : Int) A n c w'
  len : w'.ownsRow 0 3 1 vL N (icells (distS N l [] i))
  own : w'.ownsRow (BW + 1) 37 1 vD k vs
  rows : Rows2 w' N l i vs
  lt : w.heap.size + 1 < BW
theorem WTs.next {w w' w'' : World} {N : Nat} {A : Option Addr} {n c : Nat} {l : List Lnk} {i BW : Nat} {vL vD : Value} {k : Nat} {vs : List Value} (h : WTs w N A n c l i BW vL vD k vs w') (hb : Below w'.heap.size w' w'') : WTs w N A n c l i BW vL vD k vs w'' :=
  ⟨box_below h.box hb (heap_lt h.box), box_below h.res hb (heap_lt h.res), h.held.next hb, own_below h.len hb, own_below h.own hb, h.rows.below hb, h.lt⟩
theorem WTs.drew {w w' : World} {N : Nat} {A : Option Addr} {n c : Nat} {l : List Lnk} {i BW : Nat} {vL vD : Value} {k : Nat} {vs : List Value} (h : WTs w N A n c l i BW vL vD k vs w') : WTs w N A n c l i BW vL vD k vs w'.drew := h.next ((Below.refl _ _).drew)
/-- One row more, and the box stored. -/
theorem WTs.put {w w5 w6 : World} {N : Nat} {A : Option Addr} {n c : Nat} {l : List Lnk} {i BW : Nat} {vL vD v5 : Value} {k : Nat} {vs : List Value} {o : Obj} {v6 : Value} (h : WTs w N A n c l i BW vL vD k vs w5) (hk : vs.length = k) (hv : w5.ownsRow 0 3 1 v5 (nextS (N : Int) l [] (distS N l [] i) (k : Int)).length (icells (nextS (N : Int) l [] (distS N l [] i) (k : Int))))
    (h6 : w6.ownsRow (BW + 1) 37 1 v6 (k + 1) (vs ++ [v5])) (hg : (w5.alloc o).grownBy w6 vD.ownBlock) : WTs w N A n c l i BW vL v6 (k + 1) (vs ++ [v5]) (w6.setCell ⟨BW, 1, none⟩ v6) := by
  have hb6 := box_app h.box (by omega) h.own hg
  have ha : ∀ {b e s m : Nat} {v : Value} {xs : List Value}, w5.ownsRow b e s v m xs → e ≠ 37 → w6.ownsRow b e s v m xs := by
    intro b e s m v xs ho he
    have ho1 := ho.alloc (w := w5) o
    have ho2 := h.own.alloc (w := w5) o
    exact ho1.kept hg ((own_apart ho1 ho2 he).imp id id)
  refine ⟨box_set1 hb6, ?_, ?_, ?_, ?_, ?_, h.lt⟩
  · exact (heap_setCell_other _ _ _ _ (by have := h.lt; show _ ≠ BW; omega)).trans (box_app h.res (by have := h.lt; omega) h.own hg)
  · refine ⟨(below_app h.held.1 (by have := h.lt; omega) h.own hg).setCell (by have := h.lt; show _ ≤ BW; omega) _, (heap_setCell_other _ _ _ _ (by have := h.lt; show _ ≠ BW; omega)).trans ?_⟩
    exact box_app h.held.2 (by have := h.lt; omega) h.own hg
  · exact own_box (ha h.len (by decide)) hb6 (by decide)
  · exact own_box h6 hb6 (by decide)
  · have h7 : Rows2 w6 N l i (vs ++ [v5]) := Rows2.app (fun j v hv => ha (h.rows j v hv) (by decide)) hk (ha hv (by decide))
    exact fun j v hv => own_box (h7 j v hv) hb6 (by decide)
/-- What waysTo answers: a row of lengths, a row of rows of edges. -/
def WayAns (N : Nat) (l : List Lnk) (i : Nat) (w : World) (e : Ending) (w' : World) : Prop :=
  ∃ A1 c1 A2 c2 vs, e = .returned (.agg #[.slice A1 N c1, .slice A2 N c2]) ∧ w'.ownsRow 0 3 1 (.slice A1 N c1) N (icells (distS N l [] i)) ∧ w'.ownsRow 0 37 1 (.slice A2 N c2) N vs ∧ Rows2 w' N l i vs ∧ Below w.heap.size w w'
theorem waysTo_any (N : Nat) (A : Option Addr) (n c : Nat) (l : List Lnk) (i : Nat) (w : World) (hg : GArg w (N : Int) A n c l) (h : (checkS (N : Int) l).2 = 0) (hi : i < N) :
    Calls Try.prog 19 #[.agg #[.int .i64 (N : Int), .slice A n c], .int .i64 (i : Int)] w (WayAns N l i w) := by
  have hok := gok_of h
  have hN : N ≤ 40 := hok.2.2.1
  have hS := Held.start w (N : Int) A n c
  have h2 := hS.next ((Below.refl _ _).alloc (Nat.le_refl _) (.cells #[.slice none 0 0, .slice none 0 0] 53))
  have hX0 : ((w.alloc (.cells #[.int .i64 (N : Int), .slice A n c] 24)).alloc (.cells #[.slice none 0 0, .slice none 0 0] 53)).heap[w.heap.size + 1]? = some (.cells #[.slice none 0 0, .slice none 0 0] 53 (0, 0)) := by
    have := heap_alloc_new (w.alloc (.cells #[.int .i64 (N : Int), .slice A n c] 24)) (.cells #[.slice none 0 0, .slice none 0 0] 53)
    rw [show (w.alloc (.cells #[.int .i64 (N : Int), .slice A n c] 24)).heap.size = w.heap.size + 1 by simp] at this
    exact this
  have hdl := (dist_ok (dn := []) hok hi).len
  have HT := hid (show Calls Try.prog 30 #[.agg #[.int .i64 (N : Int), .slice A n c], .slice none 0 0, .int .i64 (i : Int)] ((w.alloc (.cells #[.int .i64 (N : Int), .slice A n c] 24)).alloc (.cells #[.slice none 0 0, .slice none 0 0] 53)) fun e w'' => ∃ A5 c5, e = .returned (.slice A5 N c5) ∧ w''.ownsRow 0 3 1 (.slice A5 N c5) N (icells (distS N l [] i)) ∧ Below ((w.alloc (.cells #[.int .i64 (N : Int), .slice A n c] 24)).alloc (.cells #[.slice none 0 0, .slice none 0 0] 53)).heap.size ((w.alloc (.cells #[.int .i64 (N : Int), .slice A n c] 24)).alloc (.cells #[.slice none 0 0, .slice none 0 0] 53)) w'' by
    have hf := to_spec (N : Int) A n c l none 0 0 [] (i : Int) _ (hg.on h2.1) (DArg.nil _) (by omega) (by omega)
    have Q : fromS (N : Int) l [] (i : Int) = distS N l [] i := by unfold fromS; rw [if_pos ⟨h, by omega, by omega⟩]; rfl
    rw [Q] at hf
    refine hf.mono ?_
    rintro e' w'' ⟨v, rfl, hown, hb⟩
    rw [hdl] at hown
    obtain ⟨A5, c5, rfl⟩ := own_form hown
    exact ⟨A5, c5, rfl, own_mono hown (Nat.zero_le _), hb⟩)
  have HX := hid (fun (j : Nat) (hj : j < N) (AL : Option Addr) (cL : Nat) (w' : World) (hh : Held w (N : Int) A n c w') (hL : w'.ownsRow 0 3 1 (.slice AL N cL) N (icells (distS N l [] i))) => show Calls Try.prog 31 #[.agg #[.int .i64 (N : Int), .slice A n c], .slice none 0 0, .slice AL N cL, .int .i64 (j : Int)] w' fun e w'' => ∃ A5 m5 c5, e = .returned (.slice A5 m5 c5) ∧ w''.ownsRow 0 3 1 (.slice A5 m5 c5) (nextS (N : Int) l [] (distS N l [] i) (j : Int)).length (icells (nextS (N : Int) l [] (distS N l [] i) (j : Int))) ∧ Below w'.heap.size w' w'' by
    refine (next_spec (N : Int) A n c l none 0 0 [] AL N cL (distS N l [] i) (j : Int) w' (hg.on hh.1) (DArg.nil w') (own_targ hL hdl (by omega) (fun x hx => by
        obtain ⟨i', hi', rfl⟩ := List.getElem_of_mem hx
        have e := dAt_get hi'
        rw [List.getElem?_eq_getElem hi'] at e
        injection e with e
        rw [e]
        have h1 := (dist_ok (dn := []) hok hi).low i' (by omega)
        have h2 := dist_top (dn := []) hok hi (v := i') (by omega)
        omega)) (by omega) (by omega)).mono ?_
    rintro e' w'' ⟨v, rfl, hown, hb⟩
    obtain ⟨A5, c5, rfl⟩ := own_form hown
    exact ⟨A5, _, c5, rfl, own_mono hown (Nat.zero_le _), hb⟩)
  obtain ⟨i5, hi5, hz0, hz1, hz2⟩ := info_parts (show (Try.prog.info? 37).map (fun i => (i.zero, i.size, i.bytes)) = some (some (.slice none 0 0), 1, 24) by kernel_rfl)
  have Ai := hid hi5; have Az0 := hid hz0; have Az1 := hid hz1; have Az2 := hid hz2
  obtain ⟨g0, g1⟩ := h2.cells
  have HX0 := hid hX0
  have H2 := hid h2
  clear hi5 hz0 hz1 hz2 hg h hX0 hS h2 hok hdl
  go_enter Try.func19, Try.ntmps19
  go_wp2_with (go_at_call 30; (with_reducible refine HT.out.mono ?_); rintro e' w2 ⟨AL, cL, rfl, hown2, hb2⟩; have HO2 := hid hown2; have h2 := H2.out.next hb2; have HX2 := hid (box_below HX0.out hb2 (heap_lt HX0.out)); have hb3 := (Below.refl w2.heap.size w2).alloc (Nat.le_refl _) (.cells #[.slice AL N cL, .slice none 0 0] 53); obtain ⟨c0, c1⟩ := h2.cells; obtain ⟨c3, c4⟩ := (h2.next hb3).cells; have H2' := hid h2; have HB3 := hid hb3; clear hown2 hb2 hb3 h2)
  obtain ⟨BW, hBW⟩ : ∃ BW, w2.heap.size = BW := ⟨_, rfl⟩
  obtain ⟨w3, hw3⟩ : ∃ w3, w2.alloc (.cells #[.slice AL N cL, .slice none 0 0] 53) = w3 := ⟨_, rfl⟩
  have HS0 : Hid (WTs w N A n c l i BW (.slice AL N cL) (.slice none 0 0) 0 [] w3) := by
    have hb3 := HB3.out
    rw [hw3, hBW] at hb3
    rw [← hBW] at hb3
    refine ⟨?_, box_below HX2.out hb3 (heap_lt HX2.out), H2'.out.next hb3, own_below HO2.out hb3, World.ownsRow_nil _ _ _ _, fun j v hv => by simp at hv, ?_⟩
    · rw [← hw3, ← hBW]; exact heap_alloc_new w2 _
    · rw [← hBW]; exact heap_lt HX2.out
  simp only [hBW, hw3]
  clear hBW hw3 c0 c1 c3 c4 g0 g1 HB3 H2' HX2 HO2 HX0 H2 HT
  go_loopw [13] (fun iv wr => ∃ (k : Nat) (vD : Value) (vs : List Value), k ≤ N ∧ iv = .int .i64 k ∧ Hid (WTs w N A n c l i BW (.slice AL N cL) vD k vs wr)) (fun iv _ => N - (intOf iv).toNat)
  case atStart => exact ⟨0, _, [], Nat.zero_le _, rfl, HS0⟩
  case round =>
    obtain ⟨k, vD, vs, hk, rfl, HSt⟩ := hrel
    by_cases hlt : k < N
    · have HXk := hid (HX.out k hlt AL cL)
      have Hvs : Hid (vs.length = k) := by show _ = _; have := HSt.out.own.1; omega
      have stD := HSt.out.drew
      have HSD := hid stD
      obtain ⟨d0, d1⟩ := stD.held.cells
      obtain ⟨e1, e2, _⟩ := box_cells stD.box
      clear stD
      go_wp2_with fail
      go_region_law (first
        | (go_simp; go_at_call 31; (with_reducible refine (HXk.out _ HSD.out.held HSD.out.len).mono ?_); rintro e' w5 ⟨A5, m5, c5, rfl, hown5, hb5⟩; have st5 := HSD.out.next hb5; have HS5 := hid st5; have HO5 := hid st5.own; have HV5 := hid hown5; obtain ⟨q1, q2, _⟩ := box_cells st5.box; obtain ⟨q3, q4⟩ := st5.held.cells; have hl5 := heap_lt st5.box; clear hown5 st5)
        | ((refine step_append_some (by rfl) (.tmp 17) (.tmp 23) 51 (by rfl) (BW + 1) 37 i5 (.slice none 0 0) 1 24 Try.underlying51 Ai.out Az0.out Az1.out Az2.out rfl (by decide) vD k vs (by go_simp) (HO5.out.alloc _) ⟨w5.heap.size, 0, none⟩ 1 1 [.slice A5 m5 c5] (by go_simp) (by rfl) (new_row (by rfl)) (by simp [Value.oneCell']) (by unfold maxLen; omega) (by omega) (by simp; omega) ?_; intro A6 c6 w6 hown6 hg6; have HO6 := hid hown6; have HG6 := hid hg6; have hX6 := box_app HS5.out.box (by omega) HO5.out hg6; obtain ⟨p1, p2, pf⟩ := box_cells hX6; have f6 := pf 1; clear hown6 hX6 pf)))
      all_goals
        have HNx := hid (WTs.put HS5.out Hvs.out HV5.out HO6.out HG6.out)
        go_wp2_with fail
        go_roundw
        case rel => exact ⟨k + 1, _, _, by omega, by go_num, HNx⟩
        case measure => simp [intOf]; omega
    · obtain rfl : N = k := by omega
      obtain ⟨A2, c2, hv⟩ := own_form HSt.out.own
      subst hv
      obtain ⟨x1, x2, _⟩ := box_cells HSt.out.box
      obtain ⟨y1, y2, yf⟩ := box_cells HSt.out.res
      have yf0 := yf 0
      have yf1 := yf 1
      obtain ⟨z0, z1⟩ := HSt.out.held.cells
      clear yf HX
      go_wp2_with fail
      have hg := box_set1 (u := .slice A2 N c2) (box_set0 (u := .slice AL N cL) HSt.out.res)
      try simp only [Exit.inBlock, Exit.then]
      refine bodyPost_ret (results_cell_row (p := 4) (fn := Try.f19) rfl _ _ _ _ _ _ _ rfl hg Try.underlying53 rfl (by kernel_rfl)) rfl ?_
      have hb1 := box_set0 (u := Value.slice AL N cL) HSt.out.res
      have hS := HSt.out
      have hlt := hS.lt
      refine ⟨AL, cL, A2, c2, vs, rfl, own_box (own_box hS.len hS.res (by decide)) hb1 (by decide), own_box (own_box (own_mono hS.own (Nat.zero_le _)) hS.res (by decide)) hb1 (by decide), fun j v hv => own_box (own_box (hS.rows j v hv) hS.res (by decide)) hb1 (by decide), ?_⟩
      exact (hS.held.1.setCell (by show _ ≤ _ + 1; omega) _).setCell (by show _ ≤ _ + 1; omega) _
end Go.Proofs.Ytiklfbbefchhlaa
