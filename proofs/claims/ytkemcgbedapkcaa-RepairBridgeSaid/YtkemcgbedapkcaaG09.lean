/- Merged: TbG TbH SgA SgB. -/
import Derived.Test.YtkemcgbedapkcaaG08
import Derived.Test.YtkemcgbedapkcaaG02
import Derived.Deep.RegionLaw
import Derived.Test.YtkemcgbedapkcaaG03
import Derived.Deep.RegionHeld3
import Derived.Test.YtkemcgbedapkcaaG01
import Derived.OwnWalk
import Derived.BigQuiet
/- waymarkref1.NewTables. -/
namespace Go.Proofs.Ytkemcgbedapkcaa
open Go.RowKit
set_option maxHeartbeats 6400000
set_option maxRecDepth 100000
/-- Each value reads as its node's row of lengths. -/
def Rows1 (w : World) (N : Nat) (l : List Lnk) (vs : List Value) : Prop := ∀ (i : Nat) (v : Value), vs[i]? = some v → w.ownsRow 0 3 1 v N (icells (distS N l [] i))
theorem Rows1.below {w w' : World} {N : Nat} {l : List Lnk} {vs : List Value} (h : Rows1 w N l vs) (hb : Below w.heap.size w w') : Rows1 w' N l vs := fun i v hv => own_below (h i v hv) hb
theorem Rows1.app {w : World} {N k : Nat} {l : List Lnk} {vs : List Value} {v : Value} (h : Rows1 w N l vs) (hk : vs.length = k) (hv : w.ownsRow 0 3 1 v N (icells (distS N l [] k))) : Rows1 w N l (vs ++ [v]) := by
  intro i u hu
  rcases Nat.lt_or_ge i vs.length with hi | hi
  · rw [List.getElem?_append_left hi] at hu
    exact h i u hu
  · rw [List.getElem?_append_right hi] at hu
    have : i = vs.length := by
      have := (List.getElem?_eq_some_iff.1 hu).1
      simp at this; omega
    subst this
    simp at hu
    subst hu
    rw [hk]
    exact hv
/-- What New holds while it fills. -/
structure NTs (w : World) (N : Nat) (A : Option Addr) (n c : Nat) (l : List Lnk) (BT : Nat) (A' : Option Addr) (c' : Nat) (vD : Value) (k : Nat) (vs : List Value) (w' : World) : Prop where
  box : w'.heap[BT]? = some (.cells #[.int .i64 (N : Int), .slice A' n c', vD] 62 (0, 0))
  held : Held w (N : Int) A n c w'
  lnk : w'.ownsRow 0 49 4 (.slice A' n c') n (lcells l)
  own : w'.ownsRow (BT + 1) 40 1 vD k vs
  rows : Rows1 w' N l vs
  lt : w.heap.size < BT
theorem NTs.lt2 {w w' : World} {N : Nat} {A : Option Addr} {n c : Nat} {l : List Lnk} {BT : Nat} {A' : Option Addr} {c' : Nat} {vD : Value} {k : Nat} {vs : List Value} (h : NTs w N A n c l BT A' c' vD k vs w') : BT < w'.heap.size := by
  rcases Nat.lt_or_ge BT w'.heap.size with h1 | h1
  · exact h1
  · have h2 := h.box
    rw [Array.getElem?_eq_none h1] at h2; cases h2
theorem NTs.next {w w' w'' : World} {N : Nat} {A : Option Addr} {n c : Nat} {l : List Lnk} {BT : Nat} {A' : Option Addr} {c' : Nat} {vD : Value} {k : Nat} {vs : List Value} (h : NTs w N A n c l BT A' c' vD k vs w') (hb : Below w'.heap.size w' w'') : NTs w N A n c l BT A' c' vD k vs w'' :=
  ⟨box_below h.box hb h.lt2, h.held.next hb, own_below h.lnk hb, own_below h.own hb, h.rows.below hb, h.lt⟩
theorem NTs.drew {w w' : World} {N : Nat} {A : Option Addr} {n c : Nat} {l : List Lnk} {BT : Nat} {A' : Option Addr} {c' : Nat} {vD : Value} {k : Nat} {vs : List Value} (h : NTs w N A n c l BT A' c' vD k vs w') : NTs w N A n c l BT A' c' vD k vs w'.drew := h.next ((Below.refl _ _).drew)
theorem box3_cells {w : World} {B : Nat} {x0 x1 x2 : Value} {T : TypeId} (h : w.heap[B]? = some (.cells #[x0, x1, x2] T (0, 0))) : w.cell? ⟨B, 0, none⟩ = some x0 ∧ w.cell? ⟨B, 1, none⟩ = some x1 ∧ w.cell? ⟨B, 2, none⟩ = some x2 ∧ ∀ j, w.frozen? ⟨B, j, none⟩ = false :=
  ⟨by rw [cell_of_row _ _ _ _ _ _ h]; rfl, by rw [cell_of_row _ _ _ _ _ _ h]; rfl, by rw [cell_of_row _ _ _ _ _ _ h]; rfl, fun j => frozen_of_row _ _ _ _ _ h⟩
theorem box3_set2 {w : World} {B : Nat} {x0 x1 x2 u : Value} {T : TypeId} (h : w.heap[B]? = some (.cells #[x0, x1, x2] T (0, 0))) : (w.setCell ⟨B, 2, none⟩ u).heap[B]? = some (.cells #[x0, x1, u] T (0, 0)) := heap_setCell_same w B 2 _ T u h
theorem own_box {w : World} {base e size n B j : Nat} {v : Value} {xs : List Value} {t : TypeId} {c : Array Value} {fz : Nat × Nat} {u : Value} (hown : w.ownsRow base e size v n xs) (ho : w.heap[B]? = some (.cells c t fz)) (he : e ≠ t) : (w.setCell ⟨B, j, none⟩ u).ownsRow base e size v n xs := by
  have hgb : w.grownBy (w.setCell ⟨B, j, none⟩ u) (some B) := ⟨rfl, rfl, rfl, by simp [World.setCell], fun k _ hne => heap_setCell_other w ⟨B, j, none⟩ k u (fun e => hne (by rw [e]))⟩
  refine hown.kept hgb ?_
  rcases hown.2 with ⟨rfl, _⟩ | ⟨g, cap, cur, rfl, _, hg, _⟩
  · exact .inl rfl
  · refine .inr ?_
    simp only [Value.ownBlock, ne_eq, Option.some.injEq]
    rintro rfl
    rw [ho] at hg
    simp at hg
    exact he hg.2.1.symm
/-- One row more, and the box stored. -/
theorem NTs.put {w w5 w6 : World} {N : Nat} {A : Option Addr} {n c : Nat} {l : List Lnk} {BT : Nat} {A' : Option Addr} {c' : Nat} {vD v5 : Value} {k : Nat} {vs : List Value} {o : Obj} {v6 : Value} (h : NTs w N A n c l BT A' c' vD k vs w5) (hk : vs.length = k) (hv : w5.ownsRow 0 3 1 v5 N (icells (distS N l [] k)))
    (h6 : w6.ownsRow (BT + 1) 40 1 v6 (k + 1) (vs ++ [v5])) (hg : (w5.alloc o).grownBy w6 vD.ownBlock) : NTs w N A n c l BT A' c' v6 (k + 1) (vs ++ [v5]) (w6.setCell ⟨BT, 2, none⟩ v6) := by
  have hb6 := box_app h.box (by omega) h.own hg
  have ha : ∀ {b e s m : Nat} {v : Value} {xs : List Value}, w5.ownsRow b e s v m xs → e ≠ 40 → w6.ownsRow b e s v m xs := by
    intro b e s m v xs ho he
    have ho1 := ho.alloc (w := w5) o
    have ho2 := h.own.alloc (w := w5) o
    exact ho1.kept hg ((own_apart ho1 ho2 he).imp id id)
  refine ⟨box3_set2 hb6, ?_, ?_, ?_, ?_, h.lt⟩
  · refine ⟨(below_app h.held.1 (by have := h.lt; omega) h.own hg).setCell (by have := h.lt; show _ ≤ BT; omega) _, (heap_setCell_other _ _ _ _ (by have := h.lt; show _ ≠ BT; omega)).trans ?_⟩
    exact box_app h.held.2 (by have := h.lt; omega) h.own hg
  · exact own_box (ha h.lnk (by decide)) hb6 (by decide)
  · exact own_box h6 hb6 (by decide)
  · have h7 : Rows1 w6 N l (vs ++ [v5]) := Rows1.app (fun i v hv => ha (h.rows i v hv) (by decide)) hk (ha hv (by decide))
    exact fun i v hv => own_box (h7 i v hv) hb6 (by decide)
theorem newTables_not (nd : Int) (A : Option Addr) (n c : Nat) (l : List Lnk) (w : World) (hr : RLnk w w.heap.size A n l) (h : (checkS nd l).2 ≠ 0) :
    Calls Try.prog 17 #[.agg #[.int .i64 nd, .slice A n c]] w fun e w' => e = .returned (.tuple #[.pointer none, .int .i64 (checkS nd l).2]) ∧ Below w.heap.size w w' := by
  have hS := Held.start w nd A n c
  have HK := hid (fun (w' : World) (h : Held w nd A n c w') => h.calls (refCheck_any nd A n c l w' (h.on hr)))
  obtain ⟨g0, g1⟩ := hS.cells
  obtain ⟨k1, hk1⟩ : ∃ k1, (checkS nd l).1 = k1 := ⟨_, rfl⟩
  obtain ⟨k2, hk2⟩ : ∃ k2, (checkS nd l).2 = k2 := ⟨_, rfl⟩
  rw [hk1, hk2] at HK
  rw [hk2] at h ⊢
  have t1 : (k2 != 0) = true := by simpa using h
  clear hr h hk1 hk2
  go_enter Try.func17, Try.ntmps17
  go_wp2_with (go_at_call 22; (with_reducible refine (HK.out _ hS).mono ?_); rintro e' w1 ⟨rfl, h1⟩; obtain ⟨g2, g3⟩ := h1.cells)
  go_ret2
  exact ⟨rfl, h1.1⟩
theorem newTables_in (N : Nat) (A : Option Addr) (n c : Nat) (l : List Lnk) (w : World) (hg : GArg w (N : Int) A n c l) (h : (checkS (N : Int) l).2 = 0) :
    Calls Try.prog 17 #[.agg #[.int .i64 (N : Int), .slice A n c]] w fun e w' => ∃ BT A' c' vD vs, e = .returned (.tuple #[.pointer (some ⟨BT, 0, none⟩), .int .i64 0]) ∧ NTs w N A n c l BT A' c' vD N vs w' := by
  have hok := gok_of h
  have hN : N ≤ 40 := hok.2.2.1
  have hl := hg.row.1
  have hn : n ≤ 120 := by rw [← hl]; exact hok.1
  have hS := Held.start w (N : Int) A n c
  have HK := hid (fun (w' : World) (h : Held w (N : Int) A n c w') => h.calls (refCheck_any (N : Int) A n c l w' (h.on hg.row)))
  obtain ⟨k1, hk1⟩ : ∃ k1, (checkS (N : Int) l).1 = k1 := ⟨_, rfl⟩
  rw [hk1, h] at HK
  obtain ⟨g0, g1⟩ := hS.cells
  have HC := hid (fun (w' : World) (h : Held w (N : Int) A n c w') => copy_any (N : Int) A n c l w' (h.on hg.row) (by omega) hg.non)
  have HF := hid (fun (i : Nat) (hi : i < N) (w' : World) (hh : Held w (N : Int) A n c w') => show Calls Try.prog 14 #[.agg #[.int .i64 (N : Int), .slice A n c], .slice none 0 0, .int .i64 (i : Int)] w' fun e w'' => ∃ A5 c5, e = .returned (.slice A5 N c5) ∧ w''.ownsRow 0 3 1 (.slice A5 N c5) N (icells (distS N l [] i)) ∧ Below w'.heap.size w' w'' by
    have hf := refFrom_spec (N : Int) A n c l none 0 0 [] (i : Int) w' (hg.on hh.1) (DArg.nil w') (by omega) (by omega)
    have Q : fromS (N : Int) l [] (i : Int) = distS N l [] i := by unfold fromS; rw [if_pos ⟨h, by omega, by omega⟩]; rfl
    rw [Q] at hf
    refine hf.mono ?_
    rintro e' w'' ⟨v, rfl, hown, hb⟩
    rw [(dist_ok (dn := []) hok hi).len] at hown
    obtain ⟨A5, c5, rfl⟩ := own_form hown
    exact ⟨A5, c5, rfl, own_mono hown (Nat.zero_le _), hb⟩)
  obtain ⟨i5, hi, hz0, hz1, hz2⟩ := info_parts (show (Try.prog.info? 40).map (fun i => (i.zero, i.size, i.bytes)) = some (some (.slice none 0 0), 1, 24) by kernel_rfl)
  have Ai := hid hi; have Az0 := hid hz0; have Az1 := hid hz1; have Az2 := hid hz2
  have tE : ((0 : Int) != 0) = false := by decide
  clear hi hz0 hz1 hz2 hg h hk1
  go_enter Try.func17, Try.ntmps17
  go_wp2_with (first
    | (go_at_call 22; (with_reducible refine (HK.out _ hS).mono ?_); rintro e' w1 ⟨rfl, h1⟩; obtain ⟨g2, g3⟩ := h1.cells)
    | (go_at_call 29; (with_reducible refine (HC.out _ h1).mono ?_); rintro e' w2 ⟨A', c', rfl, hown2, hb2⟩; have HO2 := hid hown2; have h2 := h1.next hb2; clear hown2))
  obtain ⟨BT, hBT⟩ : ∃ BT, w2.heap.size = BT := ⟨_, rfl⟩
  obtain ⟨w3, hw3⟩ : ∃ w3, w2.alloc (.cells #[.int .i64 (N : Int), .slice A' n c', .slice none 0 0] 62) = w3 := ⟨_, rfl⟩
  have HS0 : Hid (NTs w N A n c l BT A' c' (.slice none 0 0) 0 [] w3) := by
    rw [← hw3, ← hBT]
    have hb3 : Below w2.heap.size w2 (w2.alloc (.cells #[.int .i64 (N : Int), .slice A' n c', .slice none 0 0] 62)) := (Below.refl _ _).alloc (Nat.le_refl _) _
    exact ⟨heap_alloc_new w2 _, h2.next hb3, own_mono (own_below HO2.out hb3) (Nat.zero_le _), World.ownsRow_nil _ _ _ _, fun i v hv => by simp at hv, h2.lt⟩
  simp only [hBT, hw3]
  clear hBT hw3 g0 g1 g2 g3 h1 h2 hS HC HK HO2
  go_loopw [7] (fun i wr => ∃ (k : Nat) (vD : Value) (vs : List Value), k ≤ N ∧ i = .int .i64 k ∧ Hid (NTs w N A n c l BT A' c' vD k vs wr)) (fun i _ => N - (intOf i).toNat)
  case atStart => exact ⟨0, _, [], Nat.zero_le _, rfl, HS0⟩
  case round =>
    obtain ⟨k, vD, vs, hk, rfl, HSt⟩ := hrel
    obtain ⟨z0, z1⟩ := HSt.out.held.cells
    by_cases hlt : k < N
    · have HFk := hid (HF.out k hlt)
      have Hvs : Hid (vs.length = k) := by show _ = _; have := HSt.out.own.1; omega
      have stD := HSt.out.drew
      obtain ⟨d0, d1⟩ := stD.held.cells
      obtain ⟨_, _, e2, _⟩ := box3_cells stD.box
      go_wp2_with fail
      go_region_law (first
        | (go_simp; go_at_call 14; (with_reducible refine (HFk.out _ stD.held).mono ?_); rintro e' w5 ⟨A5, c5, rfl, hown5, hb5⟩; have st5 := stD.next hb5; have HS5 := hid st5; have HO5 := hid st5.own; have HV5 := hid hown5; obtain ⟨_, _, q2, _⟩ := box3_cells st5.box; have hl5 := st5.lt2; clear hown5 st5)
        | ((refine step_append_some (by rfl) (.tmp 30) (.tmp 34) 60 (by rfl) (BT + 1) 40 i5 (.slice none 0 0) 1 24 Try.underlying60 Ai.out Az0.out Az1.out Az2.out rfl (by decide) vD k vs (by go_simp) (HO5.out.alloc _) ⟨w5.heap.size, 0, none⟩ 1 1 [.slice A5 N c5] (by go_simp) (by rfl) (new_row (by rfl)) (by simp [Value.oneCell']) (by unfold maxLen; omega) (by omega) (by simp; omega) ?_; intro A6 c6 w6 hown6 hg6; have HO6 := hid hown6; have HG6 := hid hg6; have hX6 := box_app HS5.out.box (by omega) HO5.out hg6; obtain ⟨_, _, p2, pf⟩ := box3_cells hX6; have f6 := pf 2; have HX6 := hid hX6; clear hown6 hX6 pf)))
      all_goals
        have HNx := hid (NTs.put HS5.out Hvs.out HV5.out HO6.out HG6.out)
        go_wp2_with fail
        go_roundw
        case rel => exact ⟨k + 1, _, _, by omega, by go_num, HNx⟩
        case measure => simp [intOf]; omega
    · obtain rfl : N = k := by omega
      go_wp2_with fail
      go_ret2
      exact ⟨BT, A', c', vD, vs, rfl, HSt.out⟩
end Go.Proofs.Ytkemcgbedapkcaa

/- waymarkref1.Tables: Dist, Next; what New made stays. -/
namespace Go.Proofs.Ytkemcgbedapkcaa
open Go.RowKit
set_option maxHeartbeats 6400000
set_option maxRecDepth 100000
/-- What lies behind a pair of tables of the reference. -/
structure RAt (BT : Nat) (A' : Option Addr) (n c' : Nat) (vD : Value) (vs : List Value) (N : Nat) (l : List Lnk) (w : World) : Prop where
  box : w.heap[BT]? = some (.cells #[.int .i64 (N : Int), .slice A' n c', vD] 62 (0, 0))
  lnk : w.ownsRow 0 49 4 (.slice A' n c') n (lcells l)
  own : w.ownsRow 0 40 1 vD N vs
  rows : Rows1 w N l vs
  len : l.length = n
theorem RAt.lt {BT : Nat} {A' : Option Addr} {n c' : Nat} {vD : Value} {vs : List Value} {N : Nat} {l : List Lnk} {w : World} (h : RAt BT A' n c' vD vs N l w) : BT < w.heap.size := by
  rcases Nat.lt_or_ge BT w.heap.size with h1 | h1
  · exact h1
  · have h2 := h.box
    rw [Array.getElem?_eq_none h1] at h2; cases h2
theorem RAt.on {BT : Nat} {A' : Option Addr} {n c' : Nat} {vD : Value} {vs : List Value} {N : Nat} {l : List Lnk} {w w' : World} (h : RAt BT A' n c' vD vs N l w) (hb : Below w.heap.size w w') : RAt BT A' n c' vD vs N l w' :=
  ⟨box_below h.box hb h.lt, own_below h.lnk hb, own_below h.own hb, h.rows.below hb, h.len⟩
def RefAt (w : World) (p : Addr) (N : Nat) (l : List Lnk) : Prop := ∃ BT A' n c' vD vs, p = ⟨BT, 0, none⟩ ∧ RAt BT A' n c' vD vs N l w
theorem refAt_keep (w w' : World) (p : Addr) (N : Nat) (l : List Lnk) (h : RefAt w p N l) (hb : Below w.heap.size w w') : RefAt w' p N l := by
  obtain ⟨BT, A', n, c', vD, vs, hp, h⟩ := h
  exact ⟨BT, A', n, c', vD, vs, hp, h.on hb⟩
theorem refNew_any (nd : Int) (A : Option Addr) (n c : Nat) (l : List Lnk) (w : World) (hg : GAny w nd A n c l) : Calls Try.prog 17 #[.agg #[.int .i64 nd, .slice A n c]] w (NewAns RefAt nd l w) := by
  by_cases h : (checkS nd l).2 = 0
  · obtain ⟨h1, h2, _, _⟩ := checkS_ok h
    obtain ⟨N, rfl⟩ := Int.eq_ofNat_of_zero_le (show 0 ≤ nd by omega)
    have hl := hg.row.1
    refine (newTables_in N A n c l w ⟨hg.row, by omega, hg.cap, hg.non, hg.lo, hg.hi⟩ h).mono ?_
    rintro e' w' ⟨BT, A', c', vD, vs, rfl, hs⟩
    exact ⟨hs.held.1, .inl ⟨h, _, N, rfl, rfl, BT, A', n, c', vD, vs, rfl, hs.box, hs.lnk, own_mono hs.own (Nat.zero_le _), hs.rows, hl⟩⟩
  · refine (newTables_not nd A n c l w hg.row h).mono ?_
    rintro e' w' ⟨rfl, hb⟩
    exact ⟨hb, .inr ⟨h, rfl⟩⟩
theorem own_row_at {w : World} {base e N j : Nat} {v u : Value} {vs : List Value} (h : w.ownsRow base e 1 v N vs) (hj : vs[j]? = some u) : ∃ g cap, v = .slice (some ⟨g, 0, none⟩) N cap ∧ g < w.heap.size ∧ w.cell? ⟨g, j, none⟩ = some u := by
  rcases h.2 with ⟨rfl, h1⟩ | ⟨g, cap, cur, rfl, _, hg, _, _⟩
  · have := (List.getElem?_eq_some_iff.1 hj).1
    have h2 := h.1
    omega
  · have k1 := h.cells (g := g) rfl _ _ hj
    rw [Go.WideShapes.add_plain, Nat.zero_add] at k1
    refine ⟨g, cap, rfl, ?_, k1⟩
    rcases Nat.lt_or_ge g w.heap.size with hlt | hge
    · exact hlt
    · rw [Array.getElem?_eq_none hge] at hg; cases hg
theorem node_b {nd v : Int} : (decide (0 ≤ v) && decide (v < nd)) = decide (0 ≤ v ∧ v < nd) := by
  by_cases h : 0 ≤ v <;> simp [h]
theorem own_targ {w : World} {base m c : Nat} {A : Option Addr} {l : List Int} (h : w.ownsRow base 3 1 (.slice A m c) m (icells l)) (hl : l.length = m) (hm : m ≤ 60) (hs : ∀ x ∈ l, -1099511627776 ≤ x ∧ x ≤ 1099511627776) : TArg w A m c l := by
  refine ⟨own_ri h hl, hm, ?_, ?_, hs⟩
  · rcases h.2 with ⟨h1, h2⟩ | ⟨g, cap, cur, h1, _, _, h2, _⟩
    · omega
    · simp only [Value.slice.injEq] at h1; omega
  · intro hA
    subst hA
    rcases h.2 with ⟨h1, h2⟩ | ⟨g, cap, cur, h1, _⟩
    · simp only [Value.slice.injEq] at h1; exact ⟨h2, h1.2.2⟩
    · simp at h1
theorem own_garg {w : World} {A' : Option Addr} {n c' N : Nat} {l : List Lnk} (h : w.ownsRow 0 49 4 (.slice A' n c') n (lcells l)) (hl : l.length = n) (hok : GOk N l) : GArg w (N : Int) A' n c' l := by
  obtain ⟨A2, c2, he, hle, hr⟩ := own_lnks h hl
  simp only [Value.slice.injEq] at he
  obtain ⟨rfl, _, rfl⟩ := he
  have h1 := hok.1
  have h2 := hok.2.2.1
  refine ⟨hr, by omega, hle, fun hA => ?_, by omega, by omega⟩
  subst hA
  rcases h.2 with ⟨h1, h2⟩ | ⟨g, cap, cur, h1, _⟩
  · simp only [Value.slice.injEq] at h1; exact ⟨h2, h1.2.2⟩
  · simp at h1
theorem refTNext_any (BT : Nat) (A' : Option Addr) (n c' : Nat) (vD : Value) (vs : List Value) (N : Nat) (l : List Lnk) (a b : Int) (w : World) (h : RAt BT A' n c' vD vs N l w) (hok : GOk N l) (hia : In64 a) :
    Calls Try.prog 15 #[.pointer (some ⟨BT, 0, none⟩), .int .i64 a, .int .i64 b] w (RowAns (nextT N l a b) w) := by
  obtain ⟨c0, c1, c2, _⟩ := box3_cells h.box
  have HNa := hid (node_any (N : Int) A' n c' a w)
  have HNb := hid (fun w' => node_any (N : Int) A' n c' b w')
  rw [node_b] at HNa
  simp only [node_b] at HNb
  have HKp := hid (fun (w' : World) (hb : Below w.heap.size w w') => box3_cells (h.on hb).box)
  by_cases ha : 0 ≤ a ∧ a < N
  · rw [decide_eq_true ha] at HNa
    by_cases hb : 0 ≤ b ∧ b < N
    · simp only [decide_eq_true hb] at HNb
      obtain ⟨B0, rfl⟩ := Int.eq_ofNat_of_zero_le hb.1
      have hB0 : B0 < N := by omega
      have Q : nextT N l a (B0 : Int) = nextS (N : Int) l [] (distS N l [] B0) a := by unfold nextT; rw [if_pos hb, Int.toNat_natCast]
      rw [Q]
      obtain ⟨va, hva⟩ : ∃ va, vs[B0]? = some va := ⟨vs[B0]'(by have := h.own.1; omega), List.getElem?_eq_getElem _⟩
      obtain ⟨g, cap, rfl, hg, cg⟩ := own_row_at h.own hva
      have hrow := h.rows B0 va hva
      have hdl := (dist_ok (dn := []) hok hB0).len
      obtain ⟨Aa, ca, rfl, _, hr⟩ := own_ints hrow hdl
      have HX := hid (fun (w' : World) (hb : Below w.heap.size w w') => refNext_spec (N : Int) A' n c' l none 0 0 [] Aa N ca (distS N l [] B0) a w' (own_garg (h.on hb).lnk h.len hok) (DArg.nil w') (own_targ ((h.on hb).rows B0 _ hva) hdl (by have := hok.2.2.1; omega) (fun x hx => by
        obtain ⟨i, hi, rfl⟩ := List.getElem_of_mem hx
        have e := dAt_get hi
        rw [List.getElem?_eq_getElem hi] at e
        injection e with e
        rw [e]
        have h1 := (dist_ok (dn := []) hok hB0).low i (by omega)
        have h2 := dist_top (dn := []) hok hB0 (v := i) (by omega)
        omega)) hia.1 hia.2)
      have HFc := hid (fun (w' : World) (hb : Below w.heap.size w w') => (hb.cell (p := ⟨g, B0, none⟩) hg).trans cg)
      obtain ⟨L, hL⟩ : ∃ L, nextS (N : Int) l [] (distS N l [] B0) a = L := ⟨_, rfl⟩
      rw [hL] at HX ⊢
      clear h ha hb hva hrow hr cg hL Q hdl
      go_enter Try.func15, Try.ntmps15
      go_wp2_with (first
        | (go_at_call 23; (with_reducible refine HNa.out.mono ?_); rintro e' w1 ⟨rfl, hb1⟩; obtain ⟨d0, d1, d2, _⟩ := HKp.out _ hb1)
        | (go_at_call 23; (with_reducible refine (HNb.out _).mono ?_); rintro e' w2 ⟨rfl, hb2⟩; have hb12 : Below w.heap.size w w2 := hb1.trans (hb2.mono hb1.size)))
      have hbD : Below w.heap.size w w2.drew := hb12.drew
      obtain ⟨e0, e1, e2, _⟩ := HKp.out _ hbD
      have x1 := HFc.out _ hbD
      have HXD := hid (HX.out _ hbD)
      clear d0 d1 d2 c0 c1 c2
      go_region_held3 (fun w' => w'.cell? ⟨BT, 0, none⟩ = some (.int .i64 (N : Int)) ∧ w'.cell? ⟨BT, 1, none⟩ = some (.slice A' n c') ∧ w'.cell? ⟨BT, 2, none⟩ = some (.slice (some ⟨g, 0, none⟩) N cap) ∧ w'.cell? ⟨g, B0, none⟩ = some (.slice Aa N ca))
        (first
          | go_keep
          | exact s3)
        (first
          | (go_at_call 25; (with_reducible refine HXD.out.mono ?_); rintro e' w3 ⟨v3, rfl, hown3, hb3⟩; have hb13 : Below w.heap.size w w3 := hbD.trans (hb3.mono hbD.size); have s3 := And.intro (HKp.out _ hb13).1 (And.intro (HKp.out _ hb13).2.1 (And.intro (HKp.out _ hb13).2.2.1 (HFc.out _ hb13))); have HO3 := hid hown3; clear hown3))
      go_wp2_with fail
      go_ret
      obtain ⟨A3, c3, rfl, _, hr3⟩ := own_ints HO3.out rfl
      exact ⟨A3, c3, rfl, hr3, hb13⟩
    · simp only [decide_eq_false hb] at HNb
      have Q : nextT N l a b = [] := by unfold nextT; rw [if_neg (by omega)]
      rw [Q]
      clear h ha hb Q
      go_enter Try.func15, Try.ntmps15
      go_wp2_with (first
        | (go_at_call 23; (with_reducible refine HNa.out.mono ?_); rintro e' w1 ⟨rfl, hb1⟩; obtain ⟨d0, d1, d2, _⟩ := HKp.out _ hb1)
        | (go_at_call 23; (with_reducible refine (HNb.out _).mono ?_); rintro e' w2 ⟨rfl, hb2⟩; have hb12 : Below w.heap.size w w2 := hb1.trans (hb2.mono hb1.size)))
      go_ret
      exact ⟨none, 0, rfl, ⟨rfl, fun h => by simp at h⟩, hb12⟩
  · rw [decide_eq_false ha] at HNa
    have Q : nextT N l a b = [] := by
      unfold nextT nextS
      split
      · rw [if_neg (fun hh => ha ⟨hh.2.2.1, hh.2.2.2.1⟩)]
      · rfl
    rw [Q]
    clear h ha Q
    go_enter Try.func15, Try.ntmps15
    go_wp2_with (go_at_call 23; (with_reducible refine HNa.out.mono ?_); rintro e' w1 ⟨rfl, hb1⟩)
    go_ret
    exact ⟨none, 0, rfl, ⟨rfl, fun h => by simp at h⟩, hb1⟩
end Go.Proofs.Ytkemcgbedapkcaa

/- Segments: as data, rows of them; SameSegs. -/
namespace Go.Proofs.Ytkemcgbedapkcaa
open Go.RowKit
set_option maxHeartbeats 6400000
set_option maxRecDepth 100000
structure Sg where
  edge : Bool
  too : Int
def noSg : Sg := ⟨false, 0⟩
def scells2 (l : List Sg) : List Value := l.flatMap fun s => [.bool s.edge, .int .i64 s.too]
theorem scells2_app (a b : List Sg) : scells2 (a ++ b) = scells2 a ++ scells2 b := List.flatMap_append
theorem scells2_len (l : List Sg) : (scells2 l).length = l.length * 2 := by
  induction l with
  | nil => rfl
  | cons t l ih =>
    have h : scells2 (t :: l) = [.bool t.edge, .int .i64 t.too] ++ scells2 l := rfl
    rw [h, List.length_append, ih]
    simp only [List.length_cons, List.length_nil]; omega
theorem scells2_one (l : List Sg) : ∀ u ∈ scells2 l, u.oneCell' = true := by
  intro u hu
  simp only [scells2, List.mem_flatMap] at hu
  obtain ⟨t, _, hu⟩ := hu
  simp only [List.mem_cons, List.not_mem_nil, or_false] at hu
  rcases hu with rfl | rfl <;> rfl
theorem scells2_at {l : List Sg} {i : Nat} {t : Sg} (h : l[i]? = some t) : (scells2 l)[i * 2]? = some (.bool t.edge) ∧ (scells2 l)[i * 2 + 1]? = some (.int .i64 t.too) := by
  obtain ⟨hi, ht⟩ := List.getElem?_eq_some_iff.1 h
  have e : l = l.take i ++ t :: l.drop (i + 1) := by
    have := List.take_append_drop i l
    rw [List.drop_eq_getElem_cons hi, ht] at this
    exact this.symm
  have hl : (scells2 (l.take i)).length = i * 2 := by rw [scells2_len, List.length_take]; congr 1; omega
  have hx : scells2 l = scells2 (l.take i) ++ ([.bool t.edge, .int .i64 t.too] ++ scells2 (l.drop (i + 1))) := by
    conv => lhs; rw [e]
    rw [scells2_app]; rfl
  rw [hx]
  refine ⟨?_, ?_⟩
  · rw [List.getElem?_append_right (by omega), hl, show i * 2 - i * 2 = 0 by omega]; rfl
  · rw [List.getElem?_append_right (by omega), hl, show i * 2 + 1 - i * 2 = 1 by omega]; rfl
/-- A row of segments. -/
def RSeg (w : World) (B : Nat) (A : Option Addr) (n : Nat) (l : List Sg) : Prop :=
  l.length = n ∧ (0 < n → ∃ b off, A = some ⟨b, off, none⟩ ∧ b < B ∧ ∀ (i : Nat) (t : Sg), l[i]? = some t → w.cell? ⟨b, off + i * 2, none⟩ = some (.bool t.edge) ∧ w.cell? ⟨b, off + i * 2 + 1, none⟩ = some (.int .i64 t.too))
theorem RSeg.on {a b : World} {A : Option Addr} {n : Nat} {l : List Sg} (h : RSeg a a.heap.size A n l) (hb : Below a.heap.size a b) : RSeg b b.heap.size A n l := by
  refine ⟨h.1, fun hn => ?_⟩
  obtain ⟨c, off, hA, hc, hx⟩ := h.2 hn
  refine ⟨c, off, hA, Nat.lt_of_lt_of_le hc hb.size, fun i t ht => ?_⟩
  obtain ⟨h1, h2⟩ := hx i t ht
  exact ⟨(hb.cell (p := ⟨c, _, none⟩) hc).trans h1, (hb.cell (p := ⟨c, _, none⟩) hc).trans h2⟩
theorem own_segs {w : World} {base m : Nat} {v : Value} {l : List Sg} (h : w.ownsRow base 46 2 v m (scells2 l)) (hl : l.length = m) : ∃ A cap, v = .slice A m cap ∧ m ≤ cap ∧ RSeg w w.heap.size A m l := by
  subst hl
  rcases Nat.eq_zero_or_pos l.length with h0 | h0
  · rcases h.2 with ⟨rfl, h1⟩ | ⟨g, cap, cur, rfl, _, _, h2, _⟩
    · exact ⟨none, 0, by rw [h0], by omega, rfl, fun h => by omega⟩
    · exact ⟨_, cap, rfl, by omega, rfl, fun h => by omega⟩
  · rcases h.2 with ⟨_, h1⟩ | ⟨g, cap, cur, rfl, _, hg, h2, _⟩
    · omega
    refine ⟨_, cap, rfl, h2, rfl, fun _ => ⟨g, 0, rfl, ?_, fun i e he => ?_⟩⟩
    · rcases Nat.lt_or_ge g w.heap.size with hlt | hge
      · exact hlt
      · rw [Array.getElem?_eq_none hge] at hg; cases hg
    obtain ⟨c0, c1⟩ := scells2_at he
    have k0 := h.cells (g := g) rfl (i * 2) _ c0
    have k1 := h.cells (g := g) rfl (i * 2 + 1) _ c1
    rw [Go.WideShapes.add_plain] at k0 k1
    exact ⟨k0, k1⟩
theorem seg_stood : Try.prog.stoodInHeld 46 = false := by kernel_rfl
theorem seg_eq (s s' : Sg) (W : World) : (binOp .eql 46 (.agg #[.bool s.edge, .int .i64 s.too]) (.agg #[.bool s'.edge, .int .i64 s'.too])).run Try.prog W = .ok (.bool (s.edge == s'.edge && s.too == s'.too)) W := by
  rw [run_eql_struct, run_equalIn_agg W 9999 46 _ _ (by simp [Program.fieldsOf, Try.underlying46]) seg_stood]
  cases h1 : (s.edge == s'.edge) <;> cases h2 : (s.too == s'.too) <;> simp [Program.fieldsOf, Try.underlying46, Op.eqFields, part, go_sem, h1, h2]
theorem seg_ne (s s' : Sg) (W : World) : (binOp .neq 46 (.agg #[.bool s.edge, .int .i64 s.too]) (.agg #[.bool s'.edge, .int .i64 s'.too])).run Try.prog W = .ok (.bool (!(s.edge == s'.edge && s.too == s'.too))) W := by
  rw [run_neq_struct, run_equalIn_agg W 9999 46 _ _ (by simp [Program.fieldsOf, Try.underlying46]) seg_stood]
  cases h1 : (s.edge == s'.edge) <;> cases h2 : (s.too == s'.too) <;> simp [Program.fieldsOf, Try.underlying46, Op.eqFields, part, go_sem, h1, h2]
end Go.Proofs.Ytkemcgbedapkcaa

/- SameSegs of rows that are the same. -/
namespace Go.Proofs.Ytkemcgbedapkcaa
open Go.RowKit
set_option maxHeartbeats 6400000
set_option maxRecDepth 100000
theorem sameSegs_any (A A' : Option Addr) (n c c' : Nat) (l : List Sg) (w : World) (h : RSeg w w.heap.size A n l) (h' : RSeg w w.heap.size A' n l) (hn : n * 16 ≤ 140737488355328) :
    Calls Try.prog 11 #[.slice A n c, .slice A' n c'] w fun e w' => e = .returned (.bool true) ∧ Below w.heap.size w w' := by
  have H1 := hid h
  have H2 := hid h'
  have t0 : ((n : Int) != (n : Int)) = false := by simp
  clear h h'
  go_enter Try.func11, Try.ntmps11
  go_wp2_with fail
  go_loopw [5] (fun iv wr => ∃ k : Nat, k ≤ n ∧ iv = .int .i64 k ∧ Hid (Below w.heap.size w wr)) (fun iv _ => n - (intOf iv).toNat)
  case atStart => exact ⟨0, Nat.zero_le _, rfl, Below.refl _ _⟩
  case round =>
    obtain ⟨k, hk, rfl, HB⟩ := hrel
    by_cases hlt : k < n
    · obtain ⟨s, hs⟩ : ∃ s, l[k]? = some s := ⟨l[k]'(by rw [H1.out.1]; exact hlt), List.getElem?_eq_getElem _⟩
      obtain ⟨b, off, rfl, hbl, hc⟩ := H1.out.2 (by omega)
      obtain ⟨b', off', rfl, hbl', hc'⟩ := H2.out.2 (by omega)
      have c0 := (HB.out.cell (p := ⟨b, off + k * 2, none⟩) hbl).trans (hc k s hs).1
      have c1 := (HB.out.cell (p := ⟨b, off + k * 2 + 1, none⟩) hbl).trans (hc k s hs).2
      have d0 := (HB.out.cell (p := ⟨b', off' + k * 2, none⟩) hbl').trans (hc' k s hs).1
      have d1 := (HB.out.cell (p := ⟨b', off' + k * 2 + 1, none⟩) hbl').trans (hc' k s hs).2
      have hne : ∀ W : World, (binOp .neq 46 (.agg #[.bool s.edge, .int .i64 s.too]) (.agg #[.bool s.edge, .int .i64 s.too])).run Try.prog W = .ok (.bool false) W := fun W => by rw [seg_ne]; simp
      have t1 : decide ((k : Int) < (n : Int)) = true := decide_eq_true (by omega)
      have t2 : decide (k < n) = true := decide_eq_true hlt
      have i0 : (0 : Int) ≤ (k : Int) := by omega
      have i1 : (k : Int) < (n : Int) := by omega
      have ewk : IntKind.i64.wrap ((k : Int) + 1) = (k : Int) + 1 := by rw [IntKind.wrap_i64]; omega
      obtain ⟨se, hse⟩ : ∃ se, s.edge = se := ⟨_, rfl⟩
      obtain ⟨st, hst⟩ : ∃ st, s.too = st := ⟨_, rfl⟩
      rw [hse] at c0 d0 hne
      rw [hst] at c1 d1 hne
      clear hs hc hc' hse hst
      go_wp2_with fail
      go_big_quiet (fail)
      go_wp2_with fail
      go_roundw
      case rel => exact ⟨k + 1, by omega, by go_num, ⟨HB.out.os, HB.out.tape, HB.out.output, HB.out.size, HB.out.block⟩⟩
      case measure => simp [intOf]; omega
    · obtain rfl : k = n := by omega
      have t1 : decide ((k : Int) < (k : Int)) = false := decide_eq_false (by omega)
      have t2 : decide (k < k) = false := decide_eq_false (by omega)
      go_wp2_with fail
      go_ret
      exact ⟨rfl, HB.out⟩
end Go.Proofs.Ytkemcgbedapkcaa
