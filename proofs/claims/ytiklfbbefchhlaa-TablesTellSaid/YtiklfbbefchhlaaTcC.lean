/- tables.New. -/
import Derived.Test.YtiklfbbefchhlaaTcB
namespace Go.Proofs.Ytiklfbbefchhlaa
open Go.RowKit
set_option maxHeartbeats 6400000
set_option maxRecDepth 100000
def wcells (ps : List (Value × Value)) : List Value := ps.flatMap fun p => [p.1, p.2]
theorem wcells_app (a b : List (Value × Value)) : wcells (a ++ b) = wcells a ++ wcells b := List.flatMap_append
theorem wcells_len (ps : List (Value × Value)) : (wcells ps).length = ps.length * 2 := by
  induction ps with
  | nil => rfl
  | cons x r ih => simp only [wcells, List.flatMap_cons, List.length_append, List.length_cons, List.length_nil] at *; omega
theorem wcells_at {ps : List (Value × Value)} {i : Nat} {p : Value × Value} (h : ps[i]? = some p) : (wcells ps)[i * 2]? = some p.1 ∧ (wcells ps)[i * 2 + 1]? = some p.2 := by
  induction ps generalizing i with
  | nil => simp at h
  | cons x r ih =>
    cases i with
    | zero => simp at h; subst h; exact ⟨rfl, rfl⟩
    | succ i =>
      simp at h
      obtain ⟨h1, h2⟩ := ih h
      refine ⟨?_, ?_⟩
      · rw [show (i + 1) * 2 = i * 2 + 2 by omega]; exact h1
      · rw [show (i + 1) * 2 + 1 = i * 2 + 1 + 2 by omega]; exact h2
/-- What stands for a node: its row of lengths, its row of rows of edges. -/
def Way1 (w : World) (N : Nat) (l : List Lnk) (i : Nat) (v1 v2 : Value) : Prop := ∃ vs, w.ownsRow 0 3 1 v1 N (icells (distS N l [] i)) ∧ w.ownsRow 0 37 1 v2 N vs ∧ Rows2 w N l i vs
theorem Way1.below {w w' : World} {N i : Nat} {l : List Lnk} {v1 v2 : Value} (h : Way1 w N l i v1 v2) (hb : Below w.heap.size w w') : Way1 w' N l i v1 v2 := by
  obtain ⟨vs, h1, h2, h3⟩ := h
  exact ⟨vs, own_below h1 hb, own_below h2 hb, h3.below hb⟩
theorem Way1.same {w w' : World} {N i : Nat} {l : List Lnk} {v1 v2 : Value} (h : Way1 w N l i v1 v2) (ha : ∀ {b e s m : Nat} {v : Value} {xs : List Value}, w.ownsRow b e s v m xs → e ≠ 53 → w'.ownsRow b e s v m xs) : Way1 w' N l i v1 v2 := by
  obtain ⟨vs, h1, h2, h3⟩ := h
  exact ⟨vs, ha h1 (by decide), ha h2 (by decide), fun j v hv => ha (h3 j v hv) (by decide)⟩
theorem Way1.box {w : World} {N i B j : Nat} {l : List Lnk} {v1 v2 u : Value} {c : Array Value} {fz : Nat × Nat} (h : Way1 w N l i v1 v2) (ho : w.heap[B]? = some (.cells c 50 fz)) : Way1 (w.setCell ⟨B, j, none⟩ u) N l i v1 v2 := by
  obtain ⟨vs, h1, h2, h3⟩ := h
  exact ⟨vs, own_box h1 ho (by decide), own_box h2 ho (by decide), fun j v hv => own_box (h3 j v hv) ho (by decide)⟩
def Rows3 (w : World) (N : Nat) (l : List Lnk) (ps : List (Value × Value)) : Prop := ∀ (i : Nat) (p : Value × Value), ps[i]? = some p → Way1 w N l i p.1 p.2
theorem Rows3.app {w : World} {N k : Nat} {l : List Lnk} {ps : List (Value × Value)} {v1 v2 : Value} (h : Rows3 w N l ps) (hk : ps.length = k) (hv : Way1 w N l k v1 v2) : Rows3 w N l (ps ++ [(v1, v2)]) := by
  intro j u hu
  rcases Nat.lt_or_ge j ps.length with hi | hi
  · rw [List.getElem?_append_left hi] at hu
    exact h j u hu
  · rw [List.getElem?_append_right hi] at hu
    have : j = ps.length := by
      have := (List.getElem?_eq_some_iff.1 hu).1
      simp at this; omega
    subst this
    simp at hu
    subst hu
    rw [hk]
    exact hv
/-- What New holds while it fills. -/
structure TTs (w : World) (N : Nat) (A : Option Addr) (n c : Nat) (l : List Lnk) (BT : Nat) (A' : Option Addr) (c' : Nat) (vT : Value) (k : Nat) (ps : List (Value × Value)) (w' : World) : Prop where
  box : w'.heap[BT]? = some (.cells #[.int .i64 (N : Int), .slice A' n c', vT] 50 (0, 0))
  held : Held w (N : Int) A n c w'
  lnk : w'.ownsRow 0 40 4 (.slice A' n c') n (lcells l)
  own : w'.ownsRow (BT + 1) 53 2 vT k (wcells ps)
  rows : Rows3 w' N l ps
  lt : w.heap.size < BT
theorem TTs.next {w w' w'' : World} {N : Nat} {A : Option Addr} {n c : Nat} {l : List Lnk} {BT : Nat} {A' : Option Addr} {c' : Nat} {vT : Value} {k : Nat} {ps : List (Value × Value)} (h : TTs w N A n c l BT A' c' vT k ps w') (hb : Below w'.heap.size w' w'') : TTs w N A n c l BT A' c' vT k ps w'' :=
  ⟨box_below h.box hb (heap_lt h.box), h.held.next hb, own_below h.lnk hb, own_below h.own hb, fun i p hp => (h.rows i p hp).below hb, h.lt⟩
theorem TTs.drew {w w' : World} {N : Nat} {A : Option Addr} {n c : Nat} {l : List Lnk} {BT : Nat} {A' : Option Addr} {c' : Nat} {vT : Value} {k : Nat} {ps : List (Value × Value)} (h : TTs w N A n c l BT A' c' vT k ps w') : TTs w N A n c l BT A' c' vT k ps w'.drew := h.next ((Below.refl _ _).drew)
/-- One node more, and the box stored. -/
theorem TTs.put {w w5 w6 : World} {N : Nat} {A : Option Addr} {n c : Nat} {l : List Lnk} {BT : Nat} {A' : Option Addr} {c' : Nat} {vT v1 v2 : Value} {k : Nat} {ps : List (Value × Value)} {o : Obj} {v6 : Value} (h : TTs w N A n c l BT A' c' vT k ps w5) (hk : ps.length = k) (hv : Way1 w5 N l k v1 v2)
    (h6 : w6.ownsRow (BT + 1) 53 2 v6 (k + 1) (wcells ps ++ [v1, v2])) (hg : (w5.alloc o).grownBy w6 vT.ownBlock) : TTs w N A n c l BT A' c' v6 (k + 1) (ps ++ [(v1, v2)]) (w6.setCell ⟨BT, 2, none⟩ v6) := by
  have hb6 := box_app h.box (by omega) h.own hg
  have ha : ∀ {b e s m : Nat} {v : Value} {xs : List Value}, w5.ownsRow b e s v m xs → e ≠ 53 → w6.ownsRow b e s v m xs := by
    intro b e s m v xs ho he
    have ho1 := ho.alloc (w := w5) o
    have ho2 := h.own.alloc (w := w5) o
    exact ho1.kept hg ((own_apart ho1 ho2 he).imp id id)
  refine ⟨box3_set2 hb6, ?_, ?_, ?_, ?_, h.lt⟩
  · refine ⟨(below_app h.held.1 (by have := h.lt; omega) h.own hg).setCell (by have := h.lt; show _ ≤ BT; omega) _, (heap_setCell_other _ _ _ _ (by have := h.lt; show _ ≠ BT; omega)).trans ?_⟩
    exact box_app h.held.2 (by have := h.lt; omega) h.own hg
  · exact own_box (ha h.lnk (by decide)) hb6 (by decide)
  · rw [wcells_app]; exact own_box h6 hb6 (by decide)
  · have h7 : Rows3 w6 N l (ps ++ [(v1, v2)]) := Rows3.app (fun i p hp => (h.rows i p hp).same ha) hk (hv.same ha)
    exact fun i p hp => (h7 i p hp).box hb6
theorem new_not (nd : Int) (A : Option Addr) (n c : Nat) (l : List Lnk) (w : World) (hr : RLnk w w.heap.size A n l) (h : (checkS nd l).2 ≠ 0) :
    Calls Try.prog 7 #[.agg #[.int .i64 nd, .slice A n c]] w fun e w' => e = .returned (.tuple #[.pointer none, .int .i64 (checkS nd l).2]) ∧ Below w.heap.size w w' := by
  have hS := Held.start w nd A n c
  have HK := hid (fun (w' : World) (h : Held w nd A n c w') => h.calls (check_any nd A n c l w' (h.on hr)))
  obtain ⟨g0, g1⟩ := hS.cells
  obtain ⟨k1, hk1⟩ : ∃ k1, (checkS nd l).1 = k1 := ⟨_, rfl⟩
  obtain ⟨k2, hk2⟩ : ∃ k2, (checkS nd l).2 = k2 := ⟨_, rfl⟩
  rw [hk1, hk2] at HK
  rw [hk2] at h ⊢
  have t1 : (k2 != 0) = true := by simpa using h
  clear hr h hk1 hk2
  go_enter Try.func7, Try.ntmps7
  go_wp2_with (go_at_call 17; (with_reducible refine (HK.out _ hS).mono ?_); rintro e' w1 ⟨rfl, h1⟩; obtain ⟨g2, g3⟩ := h1.cells)
  go_ret2
  exact ⟨rfl, h1.1⟩
theorem new_in (N : Nat) (A : Option Addr) (n c : Nat) (l : List Lnk) (w : World) (hg : GArg w (N : Int) A n c l) (h : (checkS (N : Int) l).2 = 0) :
    Calls Try.prog 7 #[.agg #[.int .i64 (N : Int), .slice A n c]] w fun e w' => ∃ BT A' c' vT ps, e = .returned (.tuple #[.pointer (some ⟨BT, 0, none⟩), .int .i64 0]) ∧ TTs w N A n c l BT A' c' vT N ps w' := by
  have hok := gok_of h
  have hN : N ≤ 40 := hok.2.2.1
  have hl := hg.row.1
  have hn : n ≤ 120 := by rw [← hl]; exact hok.1
  have hS := Held.start w (N : Int) A n c
  have HK := hid (fun (w' : World) (h : Held w (N : Int) A n c w') => h.calls (check_any (N : Int) A n c l w' (h.on hg.row)))
  obtain ⟨k1, hk1⟩ : ∃ k1, (checkS (N : Int) l).1 = k1 := ⟨_, rfl⟩
  rw [hk1, h] at HK
  obtain ⟨g0, g1⟩ := hS.cells
  have HC := hid (fun (w' : World) (h : Held w (N : Int) A n c w') => clone_any (N : Int) A n c l w' (h.on hg.row) (by omega) hg.non)
  have HF := hid (fun (i : Nat) (hi : i < N) (A' : Option Addr) (c' : Nat) (w' : World) (hh : w'.ownsRow 0 40 4 (.slice A' n c') n (lcells l)) => waysTo_any N A' n c' l i w' (own_garg hh hl hok) h hi)
  obtain ⟨i5, hi, hz0, hz1, hz2⟩ := info_parts (show (Try.prog.info? 53).map (fun i => (i.zero, i.size, i.bytes)) = some (some (.agg #[.slice none 0 0, .slice none 0 0]), 2, 48) by kernel_rfl)
  have Ai := hid hi; have Az0 := hid hz0; have Az1 := hid hz1; have Az2 := hid hz2
  have tE : ((0 : Int) != 0) = false := by decide
  clear hi hz0 hz1 hz2 hg h hk1 hok
  go_enter Try.func7, Try.ntmps7
  go_wp2_with (first
    | (go_at_call 17; (with_reducible refine (HK.out _ hS).mono ?_); rintro e' w1 ⟨rfl, h1⟩; obtain ⟨g2, g3⟩ := h1.cells)
    | (go_at_call 18; (with_reducible refine (HC.out _ h1).mono ?_); rintro e' w2 ⟨A', c', rfl, hown2, hb2⟩; have HO2 := hid hown2; have h2 := h1.next hb2; have hb3 := (Below.refl w2.heap.size w2).alloc (Nat.le_refl _) (.cells #[.int .i64 (N : Int), .slice A' n c', .slice none 0 0] 50); obtain ⟨c3, c4⟩ := (h2.next hb3).cells; clear hown2 hb3))
  obtain ⟨BT, hBT⟩ : ∃ BT, w2.heap.size = BT := ⟨_, rfl⟩
  obtain ⟨w3, hw3⟩ : ∃ w3, w2.alloc (.cells #[.int .i64 (N : Int), .slice A' n c', .slice none 0 0] 50) = w3 := ⟨_, rfl⟩
  have HS0 : Hid (TTs w N A n c l BT A' c' (.slice none 0 0) 0 [] w3) := by
    rw [← hw3, ← hBT]
    have hb3 : Below w2.heap.size w2 (w2.alloc (.cells #[.int .i64 (N : Int), .slice A' n c', .slice none 0 0] 50)) := (Below.refl _ _).alloc (Nat.le_refl _) _
    exact ⟨heap_alloc_new w2 _, h2.next hb3, own_mono (own_below HO2.out hb3) (Nat.zero_le _), World.ownsRow_nil _ _ _ _, fun i v hv => by simp at hv, h2.lt⟩
  simp only [hBT, hw3]
  clear hBT hw3 g0 g1 g2 g3 c3 c4 h1 h2 hS HC HK HO2
  go_loopw [22] (fun i wr => ∃ (k : Nat) (vT : Value) (ps : List (Value × Value)), k ≤ N ∧ i = .int .i64 k ∧ Hid (TTs w N A n c l BT A' c' vT k ps wr)) (fun i _ => N - (intOf i).toNat)
  case atStart => exact ⟨0, _, [], Nat.zero_le _, rfl, HS0⟩
  case round =>
    obtain ⟨k, vT, ps, hk, rfl, HSt⟩ := hrel
    obtain ⟨z0, z1⟩ := HSt.out.held.cells
    by_cases hlt : k < N
    · have HFk := hid (HF.out k hlt A' c')
      have Hvs : Hid (ps.length = k) := by show _ = _; have := HSt.out.own.1; rw [wcells_len] at this; omega
      have stD := HSt.out.drew
      have HSD := hid stD
      obtain ⟨d0, d1, d2, _⟩ := box3_cells stD.box
      clear stD
      go_wp2_with fail
      go_region_law (first
        | (go_simp; go_at_call 19; (with_reducible refine (HFk.out _ HSD.out.lnk).mono ?_); rintro e' w5 ⟨A5, c5, A6, c6, vs, rfl, hown5, hown6, hrows, hb5⟩; have st5 := HSD.out.next hb5; have HS5 := hid st5; have HO5 := hid st5.own; have HV5 := hid (show Way1 w5 N l k _ _ from ⟨vs, hown5, hown6, hrows⟩); obtain ⟨q0, q1, q2, _⟩ := box3_cells st5.box; have hl5 := heap_lt st5.box; clear hown5 hown6 hrows st5)
        | ((refine step_append_some (by rfl) (.tmp 29) (.tmp 36) 48 (by rfl) (BT + 1) 53 i5 (.agg #[.slice none 0 0, .slice none 0 0]) 2 48 Try.underlying48 Ai.out Az0.out Az1.out Az2.out rfl (by decide) vT k (wcells ps) (by go_simp) (HO5.out.alloc _) ⟨w5.heap.size, 0, none⟩ 1 1 [.slice A5 N c5, .slice A6 N c6] (by go_simp) (by rfl) (new_row (by rfl)) (by simp [Value.oneCell']) (by unfold maxLen; omega) (by omega) (by simp; omega) ?_; intro A7 c7 w6 hown6 hg6; have HO6 := hid hown6; have HG6 := hid hg6; have hX6 := box_app HS5.out.box (by omega) HO5.out hg6; obtain ⟨_, _, p2, pf⟩ := box3_cells hX6; have f6 := pf 2; clear hown6 hX6 pf)))
      all_goals
        have HNx := hid (TTs.put HS5.out Hvs.out HV5.out HO6.out HG6.out)
        go_wp2_with fail
        go_roundw
        case rel => exact ⟨k + 1, _, _, by omega, by go_num, HNx⟩
        case measure => simp [intOf]; omega
    · obtain rfl : N = k := by omega
      go_wp2_with fail
      go_ret2
      exact ⟨BT, A', c', vT, ps, rfl, HSt.out⟩
end Go.Proofs.Ytiklfbbefchhlaa
