/- waymarkref1.NewTables. -/
import Derived.Test.YtiklfbbefchhlaaTbC
import Derived.Test.YtiklfbbefchhlaaRfA
import Derived.Deep.RegionLaw
namespace Go.Proofs.Ytiklfbbefchhlaa
open Go.RowKit
set_option maxHeartbeats 6400000
set_option maxRecDepth 100000
/-- Each value reads as its node's row of lengths. -/
def Rows1 (w : World) (N : Nat) (l : List Lnk) (vs : List Value) : Prop := ∀ (i : Nat) (v : Value), vs[i]? = some v → w.ownsRow 0 3 1 v N (icells (distS N l [] i))
theorem Rows1.below {w w' : World} {N : Nat} {l : List Lnk} {vs : List Value} (h : Rows1 w N l vs) (hb : Below w.heap.size w w') : Rows1 w' N l vs := fun i v hv => own_below (h i v hv) hb
theorem Rows1.app {w : World} {N k : Nat} {l : List Lnk} {vs : List Value} {v : Value} (h : Rows1 w N l vs) (hk : vs.length = k) (hv : w.ownsRow 0 3 1 v N (icells (distS N l [] k))) : Rows1 w N l (vs ++ [v]) := by
  intro i u hu
  rcases Nat.lt_or_ge i vs.length with hi | hi
  · rw [List.getElem?_append_left hi] at hu
    exact h i u hu
  · rw [List.getElem?_append_right hi] at hu
    have : i = vs.length := by
      have := (List.getElem?_eq_some_iff.1 hu).1
      simp at this; omega
    subst this
    simp at hu
    subst hu
    rw [hk]
    exact hv
/-- What New holds while it fills. -/
structure NTs (w : World) (N : Nat) (A : Option Addr) (n c : Nat) (l : List Lnk) (BT : Nat) (A' : Option Addr) (c' : Nat) (vD : Value) (k : Nat) (vs : List Value) (w' : World) : Prop where
  box : w'.heap[BT]? = some (.cells #[.int .i64 (N : Int), .slice A' n c', vD] 58 (0, 0))
  held : Held w (N : Int) A n c w'
  lnk : w'.ownsRow 0 40 4 (.slice A' n c') n (lcells l)
  own : w'.ownsRow (BT + 1) 37 1 vD k vs
  rows : Rows1 w' N l vs
  lt : w.heap.size < BT
theorem NTs.lt2 {w w' : World} {N : Nat} {A : Option Addr} {n c : Nat} {l : List Lnk} {BT : Nat} {A' : Option Addr} {c' : Nat} {vD : Value} {k : Nat} {vs : List Value} (h : NTs w N A n c l BT A' c' vD k vs w') : BT < w'.heap.size := by
  rcases Nat.lt_or_ge BT w'.heap.size with h1 | h1
  · exact h1
  · have h2 := h.box
    rw [Array.getElem?_eq_none h1] at h2; cases h2
theorem NTs.next {w w' w'' : World} {N : Nat} {A : Option Addr} {n c : Nat} {l : List Lnk} {BT : Nat} {A' : Option Addr} {c' : Nat} {vD : Value} {k : Nat} {vs : List Value} (h : NTs w N A n c l BT A' c' vD k vs w') (hb : Below w'.heap.size w' w'') : NTs w N A n c l BT A' c' vD k vs w'' :=
  ⟨box_below h.box hb h.lt2, h.held.next hb, own_below h.lnk hb, own_below h.own hb, h.rows.below hb, h.lt⟩
theorem NTs.drew {w w' : World} {N : Nat} {A : Option Addr} {n c : Nat} {l : List Lnk} {BT : Nat} {A' : Option Addr} {c' : Nat} {vD : Value} {k : Nat} {vs : List Value} (h : NTs w N A n c l BT A' c' vD k vs w') : NTs w N A n c l BT A' c' vD k vs w'.drew := h.next ((Below.refl _ _).drew)
theorem box3_cells {w : World} {B : Nat} {x0 x1 x2 : Value} {T : TypeId} (h : w.heap[B]? = some (.cells #[x0, x1, x2] T (0, 0))) : w.cell? ⟨B, 0, none⟩ = some x0 ∧ w.cell? ⟨B, 1, none⟩ = some x1 ∧ w.cell? ⟨B, 2, none⟩ = some x2 ∧ ∀ j, w.frozen? ⟨B, j, none⟩ = false :=
  ⟨by rw [cell_of_row _ _ _ _ _ _ h]; rfl, by rw [cell_of_row _ _ _ _ _ _ h]; rfl, by rw [cell_of_row _ _ _ _ _ _ h]; rfl, fun j => frozen_of_row _ _ _ _ _ h⟩
theorem box3_set2 {w : World} {B : Nat} {x0 x1 x2 u : Value} {T : TypeId} (h : w.heap[B]? = some (.cells #[x0, x1, x2] T (0, 0))) : (w.setCell ⟨B, 2, none⟩ u).heap[B]? = some (.cells #[x0, x1, u] T (0, 0)) := heap_setCell_same w B 2 _ T u h
theorem own_box {w : World} {base e size n B j : Nat} {v : Value} {xs : List Value} {t : TypeId} {c : Array Value} {fz : Nat × Nat} {u : Value} (hown : w.ownsRow base e size v n xs) (ho : w.heap[B]? = some (.cells c t fz)) (he : e ≠ t) : (w.setCell ⟨B, j, none⟩ u).ownsRow base e size v n xs := by
  have hgb : w.grownBy (w.setCell ⟨B, j, none⟩ u) (some B) := ⟨rfl, rfl, rfl, by simp [World.setCell], fun k _ hne => heap_setCell_other w ⟨B, j, none⟩ k u (fun e => hne (by rw [e]))⟩
  refine hown.kept hgb ?_
  rcases hown.2 with ⟨rfl, _⟩ | ⟨g, cap, cur, rfl, _, hg, _⟩
  · exact .inl rfl
  · refine .inr ?_
    simp only [Value.ownBlock, ne_eq, Option.some.injEq]
    rintro rfl
    rw [ho] at hg
    simp at hg
    exact he hg.2.1.symm
/-- One row more, and the box stored. -/
theorem NTs.put {w w5 w6 : World} {N : Nat} {A : Option Addr} {n c : Nat} {l : List Lnk} {BT : Nat} {A' : Option Addr} {c' : Nat} {vD v5 : Value} {k : Nat} {vs : List Value} {o : Obj} {v6 : Value} (h : NTs w N A n c l BT A' c' vD k vs w5) (hk : vs.length = k) (hv : w5.ownsRow 0 3 1 v5 N (icells (distS N l [] k)))
    (h6 : w6.ownsRow (BT + 1) 37 1 v6 (k + 1) (vs ++ [v5])) (hg : (w5.alloc o).grownBy w6 vD.ownBlock) : NTs w N A n c l BT A' c' v6 (k + 1) (vs ++ [v5]) (w6.setCell ⟨BT, 2, none⟩ v6) := by
  have hb6 := box_app h.box (by omega) h.own hg
  have ha : ∀ {b e s m : Nat} {v : Value} {xs : List Value}, w5.ownsRow b e s v m xs → e ≠ 37 → w6.ownsRow b e s v m xs := by
    intro b e s m v xs ho he
    have ho1 := ho.alloc (w := w5) o
    have ho2 := h.own.alloc (w := w5) o
    exact ho1.kept hg ((own_apart ho1 ho2 he).imp id id)
  refine ⟨box3_set2 hb6, ?_, ?_, ?_, ?_, h.lt⟩
  · refine ⟨(below_app h.held.1 (by have := h.lt; omega) h.own hg).setCell (by have := h.lt; show _ ≤ BT; omega) _, (heap_setCell_other _ _ _ _ (by have := h.lt; show _ ≠ BT; omega)).trans ?_⟩
    exact box_app h.held.2 (by have := h.lt; omega) h.own hg
  · exact own_box (ha h.lnk (by decide)) hb6 (by decide)
  · exact own_box h6 hb6 (by decide)
  · have h7 : Rows1 w6 N l (vs ++ [v5]) := Rows1.app (fun i v hv => ha (h.rows i v hv) (by decide)) hk (ha hv (by decide))
    exact fun i v hv => own_box (h7 i v hv) hb6 (by decide)
theorem newTables_not (nd : Int) (A : Option Addr) (n c : Nat) (l : List Lnk) (w : World) (hr : RLnk w w.heap.size A n l) (h : (checkS nd l).2 ≠ 0) :
    Calls Try.prog 8 #[.agg #[.int .i64 nd, .slice A n c]] w fun e w' => e = .returned (.tuple #[.pointer none, .int .i64 (checkS nd l).2]) ∧ Below w.heap.size w w' := by
  have hS := Held.start w nd A n c
  have HK := hid (fun (w' : World) (h : Held w nd A n c w') => h.calls (refCheck_any nd A n c l w' (h.on hr)))
  obtain ⟨g0, g1⟩ := hS.cells
  obtain ⟨k1, hk1⟩ : ∃ k1, (checkS nd l).1 = k1 := ⟨_, rfl⟩
  obtain ⟨k2, hk2⟩ : ∃ k2, (checkS nd l).2 = k2 := ⟨_, rfl⟩
  rw [hk1, hk2] at HK
  rw [hk2] at h ⊢
  have t1 : (k2 != 0) = true := by simpa using h
  clear hr h hk1 hk2
  go_enter Try.func8, Try.ntmps8
  go_wp2_with (go_at_call 20; (with_reducible refine (HK.out _ hS).mono ?_); rintro e' w1 ⟨rfl, h1⟩; obtain ⟨g2, g3⟩ := h1.cells)
  go_ret2
  exact ⟨rfl, h1.1⟩
theorem newTables_in (N : Nat) (A : Option Addr) (n c : Nat) (l : List Lnk) (w : World) (hg : GArg w (N : Int) A n c l) (h : (checkS (N : Int) l).2 = 0) :
    Calls Try.prog 8 #[.agg #[.int .i64 (N : Int), .slice A n c]] w fun e w' => ∃ BT A' c' vD vs, e = .returned (.tuple #[.pointer (some ⟨BT, 0, none⟩), .int .i64 0]) ∧ NTs w N A n c l BT A' c' vD N vs w' := by
  have hok := gok_of h
  have hN : N ≤ 40 := hok.2.2.1
  have hl := hg.row.1
  have hn : n ≤ 120 := by rw [← hl]; exact hok.1
  have hS := Held.start w (N : Int) A n c
  have HK := hid (fun (w' : World) (h : Held w (N : Int) A n c w') => h.calls (refCheck_any (N : Int) A n c l w' (h.on hg.row)))
  obtain ⟨k1, hk1⟩ : ∃ k1, (checkS (N : Int) l).1 = k1 := ⟨_, rfl⟩
  rw [hk1, h] at HK
  obtain ⟨g0, g1⟩ := hS.cells
  have HC := hid (fun (w' : World) (h : Held w (N : Int) A n c w') => copy_any (N : Int) A n c l w' (h.on hg.row) (by omega) hg.non)
  have HF := hid (fun (i : Nat) (hi : i < N) (w' : World) (hh : Held w (N : Int) A n c w') => show Calls Try.prog 22 #[.agg #[.int .i64 (N : Int), .slice A n c], .slice none 0 0, .int .i64 (i : Int)] w' fun e w'' => ∃ A5 c5, e = .returned (.slice A5 N c5) ∧ w''.ownsRow 0 3 1 (.slice A5 N c5) N (icells (distS N l [] i)) ∧ Below w'.heap.size w' w'' by
    have hf := refFrom_spec (N : Int) A n c l none 0 0 [] (i : Int) w' (hg.on hh.1) (DArg.nil w') (by omega) (by omega)
    have Q : fromS (N : Int) l [] (i : Int) = distS N l [] i := by unfold fromS; rw [if_pos ⟨h, by omega, by omega⟩]; rfl
    rw [Q] at hf
    refine hf.mono ?_
    rintro e' w'' ⟨v, rfl, hown, hb⟩
    rw [(dist_ok (dn := []) hok hi).len] at hown
    obtain ⟨A5, c5, rfl⟩ := own_form hown
    exact ⟨A5, c5, rfl, own_mono hown (Nat.zero_le _), hb⟩)
  obtain ⟨i5, hi, hz0, hz1, hz2⟩ := info_parts (show (Try.prog.info? 37).map (fun i => (i.zero, i.size, i.bytes)) = some (some (.slice none 0 0), 1, 24) by kernel_rfl)
  have Ai := hid hi; have Az0 := hid hz0; have Az1 := hid hz1; have Az2 := hid hz2
  have tE : ((0 : Int) != 0) = false := by decide
  clear hi hz0 hz1 hz2 hg h hk1
  go_enter Try.func8, Try.ntmps8
  go_wp2_with (first
    | (go_at_call 20; (with_reducible refine (HK.out _ hS).mono ?_); rintro e' w1 ⟨rfl, h1⟩; obtain ⟨g2, g3⟩ := h1.cells)
    | (go_at_call 21; (with_reducible refine (HC.out _ h1).mono ?_); rintro e' w2 ⟨A', c', rfl, hown2, hb2⟩; have HO2 := hid hown2; have h2 := h1.next hb2; clear hown2))
  obtain ⟨BT, hBT⟩ : ∃ BT, w2.heap.size = BT := ⟨_, rfl⟩
  obtain ⟨w3, hw3⟩ : ∃ w3, w2.alloc (.cells #[.int .i64 (N : Int), .slice A' n c', .slice none 0 0] 58) = w3 := ⟨_, rfl⟩
  have HS0 : Hid (NTs w N A n c l BT A' c' (.slice none 0 0) 0 [] w3) := by
    rw [← hw3, ← hBT]
    have hb3 : Below w2.heap.size w2 (w2.alloc (.cells #[.int .i64 (N : Int), .slice A' n c', .slice none 0 0] 58)) := (Below.refl _ _).alloc (Nat.le_refl _) _
    exact ⟨heap_alloc_new w2 _, h2.next hb3, own_mono (own_below HO2.out hb3) (Nat.zero_le _), World.ownsRow_nil _ _ _ _, fun i v hv => by simp at hv, h2.lt⟩
  simp only [hBT, hw3]
  clear hBT hw3 g0 g1 g2 g3 h1 h2 hS HC HK HO2
  go_loopw [7] (fun i wr => ∃ (k : Nat) (vD : Value) (vs : List Value), k ≤ N ∧ i = .int .i64 k ∧ Hid (NTs w N A n c l BT A' c' vD k vs wr)) (fun i _ => N - (intOf i).toNat)
  case atStart => exact ⟨0, _, [], Nat.zero_le _, rfl, HS0⟩
  case round =>
    obtain ⟨k, vD, vs, hk, rfl, HSt⟩ := hrel
    obtain ⟨z0, z1⟩ := HSt.out.held.cells
    by_cases hlt : k < N
    · have HFk := hid (HF.out k hlt)
      have Hvs : Hid (vs.length = k) := by show _ = _; have := HSt.out.own.1; omega
      have stD := HSt.out.drew
      obtain ⟨d0, d1⟩ := stD.held.cells
      obtain ⟨_, _, e2, _⟩ := box3_cells stD.box
      go_wp2_with fail
      go_region_law (first
        | (go_simp; go_at_call 22; (with_reducible refine (HFk.out _ stD.held).mono ?_); rintro e' w5 ⟨A5, c5, rfl, hown5, hb5⟩; have st5 := stD.next hb5; have HS5 := hid st5; have HO5 := hid st5.own; have HV5 := hid hown5; obtain ⟨_, _, q2, _⟩ := box3_cells st5.box; have hl5 := st5.lt2; clear hown5 st5)
        | ((refine step_append_some (by rfl) (.tmp 30) (.tmp 34) 51 (by rfl) (BT + 1) 37 i5 (.slice none 0 0) 1 24 Try.underlying51 Ai.out Az0.out Az1.out Az2.out rfl (by decide) vD k vs (by go_simp) (HO5.out.alloc _) ⟨w5.heap.size, 0, none⟩ 1 1 [.slice A5 N c5] (by go_simp) (by rfl) (new_row (by rfl)) (by simp [Value.oneCell']) (by unfold maxLen; omega) (by omega) (by simp; omega) ?_; intro A6 c6 w6 hown6 hg6; have HO6 := hid hown6; have HG6 := hid hg6; have hX6 := box_app HS5.out.box (by omega) HO5.out hg6; obtain ⟨_, _, p2, pf⟩ := box3_cells hX6; have f6 := pf 2; have HX6 := hid hX6; clear hown6 hX6 pf)))
      all_goals
        have HNx := hid (NTs.put HS5.out Hvs.out HV5.out HO6.out HG6.out)
        go_wp2_with fail
        go_roundw
        case rel => exact ⟨k + 1, _, _, by omega, by go_num, HNx⟩
        case measure => simp [intOf]; omega
    · obtain rfl : N = k := by omega
      go_wp2_with fail
      go_ret2
      exact ⟨BT, A', c', vD, vs, rfl, HSt.out⟩
end Go.Proofs.Ytiklfbbefchhlaa
