/- tables: hasNode, Graph, Dist, Next; what the laws ask of the package. -/
import Derived.Test.YtiklfbbefchhlaaTcC
namespace Go.Proofs.Ytiklfbbefchhlaa
open Go.RowKit
set_option maxHeartbeats 6400000
set_option maxRecDepth 100000
/-- What lies behind a pair of tables. -/
structure TAt (BT : Nat) (A' : Option Addr) (n c' : Nat) (A7 : Option Addr) (c7 : Nat) (ps : List (Value × Value)) (N : Nat) (l : List Lnk) (w : World) : Prop where
  box : w.heap[BT]? = some (.cells #[.int .i64 (N : Int), .slice A' n c', .slice A7 N c7] 50 (0, 0))
  lnk : w.ownsRow 0 40 4 (.slice A' n c') n (lcells l)
  own : w.ownsRow 0 53 2 (.slice A7 N c7) N (wcells ps)
  rows : Rows3 w N l ps
  len : l.length = n
theorem TAt.on {BT : Nat} {A' : Option Addr} {n c' : Nat} {A7 : Option Addr} {c7 : Nat} {ps : List (Value × Value)} {N : Nat} {l : List Lnk} {w w' : World} (h : TAt BT A' n c' A7 c7 ps N l w) (hb : Below w.heap.size w w') : TAt BT A' n c' A7 c7 ps N l w' :=
  ⟨box_below h.box hb (heap_lt h.box), own_below h.lnk hb, own_below h.own hb, fun i p hp => (h.rows i p hp).below hb, h.len⟩
def TabAt (w : World) (p : Addr) (N : Nat) (l : List Lnk) : Prop := ∃ BT A' n c' A7 c7 ps, p = ⟨BT, 0, none⟩ ∧ TAt BT A' n c' A7 c7 ps N l w
theorem tabAt_keep (w w' : World) (p : Addr) (N : Nat) (l : List Lnk) (h : TabAt w p N l) (hb : Below w.heap.size w w') : TabAt w' p N l := by
  obtain ⟨BT, A', n, c', A7, c7, ps, hp, h⟩ := h
  exact ⟨BT, A', n, c', A7, c7, ps, hp, h.on hb⟩
theorem new_any (nd : Int) (A : Option Addr) (n c : Nat) (l : List Lnk) (w : World) (hg : GAny w nd A n c l) : Calls Try.prog 7 #[.agg #[.int .i64 nd, .slice A n c]] w (NewAns TabAt nd l w) := by
  by_cases h : (checkS nd l).2 = 0
  · obtain ⟨h1, h2, _, _⟩ := checkS_ok h
    obtain ⟨N, rfl⟩ := Int.eq_ofNat_of_zero_le (show 0 ≤ nd by omega)
    have hl := hg.row.1
    refine (new_in N A n c l w ⟨hg.row, by omega, hg.cap, hg.non, hg.lo, hg.hi⟩ h).mono ?_
    rintro e' w' ⟨BT, A', c', vT, ps, rfl, hs⟩
    obtain ⟨A7, c7, rfl⟩ := own_form hs.own
    exact ⟨hs.held.1, .inl ⟨h, _, N, rfl, rfl, BT, A', n, c', A7, c7, ps, rfl, hs.box, hs.lnk, own_mono hs.own (Nat.zero_le _), hs.rows, hl⟩⟩
  · refine (new_not nd A n c l w hg.row h).mono ?_
    rintro e' w' ⟨rfl, hb⟩
    exact ⟨hb, .inr ⟨h, rfl⟩⟩
theorem hasNode2_any (BT N : Nat) (x0 x1 : Value) (A7 : Option Addr) (c7 : Nat) (v : Int) (w : World) (h : w.heap[BT]? = some (.cells #[x0, x1, .slice A7 N c7] 50 (0, 0))) :
    Calls Try.prog 23 #[.pointer (some ⟨BT, 0, none⟩), .int .i64 v] w fun e w' => e = .returned (.bool (decide (0 ≤ v ∧ v < N))) ∧ w = w' := by
  obtain ⟨c0, c1, c2, _⟩ := box3_cells h
  clear h
  by_cases h0 : 0 ≤ v
  · have t1 : decide (0 ≤ v) = true := by simpa using h0
    by_cases h1 : v < N
    · have t2 : decide (v < (N : Int)) = true := by simpa using h1
      have Q : decide (0 ≤ v ∧ v < N) = true := by simp [h0, h1]
      rw [Q]
      clear h0 h1 Q
      go_enter Try.func23, Try.ntmps23
      go_wp2_with fail
      go_ret
      exact ⟨rfl, rfl⟩
    · have t2 : decide (v < (N : Int)) = false := by simpa using h1
      have Q : decide (0 ≤ v ∧ v < N) = false := by simp [h0, h1]
      rw [Q]
      clear h0 h1 Q
      go_enter Try.func23, Try.ntmps23
      go_wp2_with fail
      go_ret
      exact ⟨rfl, rfl⟩
  · have t1 : decide (0 ≤ v) = false := by simpa using h0
    have Q : decide (0 ≤ v ∧ v < N) = false := by simp [h0]
    rw [Q]
    clear h0 Q
    go_enter Try.func23, Try.ntmps23
    go_wp2_with fail
    go_ret
    exact ⟨rfl, rfl⟩
/-- Where a pair's two rows stand. -/
theorem TAt.at {BT : Nat} {A' : Option Addr} {n c' : Nat} {A7 : Option Addr} {c7 : Nat} {ps : List (Value × Value)} {N : Nat} {l : List Lnk} {w : World} (h : TAt BT A' n c' A7 c7 ps N l w) {j : Nat} (hj : j < N) :
    ∃ g v1 v2, A7 = some ⟨g, 0, none⟩ ∧ g < w.heap.size ∧ w.cell? ⟨g, j * 2, none⟩ = some v1 ∧ w.cell? ⟨g, j * 2 + 1, none⟩ = some v2 ∧ Way1 w N l j v1 v2 := by
  have hlen := h.own.1
  rw [wcells_len] at hlen
  have hp : ps[j]? = some (ps[j]'(by omega)) := List.getElem?_eq_getElem _
  obtain ⟨k1, k2⟩ := wcells_at hp
  have hw := h.rows j _ hp
  rcases h.own.2 with ⟨h1, h2⟩ | ⟨g, cap, cur, h1, _, hg, _, _⟩
  · omega
  · simp only [Value.slice.injEq] at h1
    obtain ⟨rfl, _, rfl⟩ := h1
    have q1 := h.own.cells (g := g) rfl _ _ k1
    have q2 := h.own.cells (g := g) rfl _ _ k2
    rw [Go.WideShapes.add_plain, Nat.zero_add] at q1 q2
    exact ⟨g, _, _, rfl, heap_lt hg, q1, q2, hw⟩
theorem dist_any (BT : Nat) (A' : Option Addr) (n c' : Nat) (A7 : Option Addr) (c7 : Nat) (ps : List (Value × Value)) (N : Nat) (l : List Lnk) (a b : Int) (w : World) (h : TAt BT A' n c' A7 c7 ps N l w) (hok : GOk N l) :
    Calls Try.prog 11 #[.pointer (some ⟨BT, 0, none⟩), .int .i64 a, .int .i64 b] w fun e w' => e = .returned (.int .i64 (distT N l a b)) ∧ Below w.heap.size w w' := by
  obtain ⟨c0, c1, c2, _⟩ := box3_cells h.box
  have HNa := hid (hasNode2_any BT N _ _ A7 c7 a w h.box)
  have HNb := hid (hasNode2_any BT N _ _ A7 c7 b w h.box)
  by_cases ha : 0 ≤ a ∧ a < N
  · rw [decide_eq_true ha] at HNa
    by_cases hb : 0 ≤ b ∧ b < N
    · rw [decide_eq_true hb] at HNb
      obtain ⟨A0, rfl⟩ := Int.eq_ofNat_of_zero_le ha.1
      obtain ⟨B0, rfl⟩ := Int.eq_ofNat_of_zero_le hb.1
      have hA0 : A0 < N := by omega
      have hB0 : B0 < N := by omega
      rw [distT_sym hok, distT_in hB0 hA0]
      obtain ⟨g, v1, v2, rfl, hg, cg1, cg2, vs, ho1, _, _⟩ := h.at hB0
      obtain ⟨Aa, ca, rfl, _, hr⟩ := own_ints ho1 (dist_ok (dn := []) hok hB0).len
      obtain ⟨b7, o7, rfl, hb7, hc7⟩ := hr.2 (by omega)
      have cd := hc7 A0 _ (dAt_get (by rw [hr.1]; exact hA0))
      obtain ⟨x, hx⟩ : ∃ x, dAt (distS N l [] B0) (A0 : Int) = x := ⟨_, rfl⟩
      rw [hx] at cd ⊢
      clear h ha hb ho1 hr hc7 hx cg2
      go_enter Try.func11, Try.ntmps11
      go_wp2_with (first
        | (go_at_call 23; (with_reducible refine HNa.out.mono ?_); rintro _ _ ⟨rfl, rfl⟩)
        | (go_at_call 23; (with_reducible refine HNb.out.mono ?_); rintro _ _ ⟨rfl, rfl⟩))
      go_ret
      exact ⟨rfl, Below.refl _ _⟩
    · rw [decide_eq_false hb] at HNb
      have Q : distT N l a b = -1 := by unfold distT; rw [if_neg (by omega)]
      rw [Q]
      clear h ha hb Q
      go_enter Try.func11, Try.ntmps11
      go_wp2_with (first
        | (go_at_call 23; (with_reducible refine HNa.out.mono ?_); rintro _ _ ⟨rfl, rfl⟩)
        | (go_at_call 23; (with_reducible refine HNb.out.mono ?_); rintro _ _ ⟨rfl, rfl⟩))
      go_ret
      exact ⟨rfl, Below.refl _ _⟩
  · rw [decide_eq_false ha] at HNa
    have Q : distT N l a b = -1 := by unfold distT; rw [if_neg (by omega)]
    rw [Q]
    clear h ha Q
    go_enter Try.func11, Try.ntmps11
    go_wp2_with (go_at_call 23; (with_reducible refine HNa.out.mono ?_); rintro _ _ ⟨rfl, rfl⟩)
    go_ret
    exact ⟨rfl, Below.refl _ _⟩
theorem next2_any (BT : Nat) (A' : Option Addr) (n c' : Nat) (A7 : Option Addr) (c7 : Nat) (ps : List (Value × Value)) (N : Nat) (l : List Lnk) (a b : Int) (w : World) (h : TAt BT A' n c' A7 c7 ps N l w) (hok : GOk N l) :
    Calls Try.prog 14 #[.pointer (some ⟨BT, 0, none⟩), .int .i64 a, .int .i64 b] w (RowAns (nextT N l a b) w) := by
  obtain ⟨c0, c1, c2, _⟩ := box3_cells h.box
  have HNa := hid (hasNode2_any BT N _ _ A7 c7 a w h.box)
  have HNb := hid (hasNode2_any BT N _ _ A7 c7 b w h.box)
  by_cases ha : 0 ≤ a ∧ a < N
  · rw [decide_eq_true ha] at HNa
    by_cases hb : 0 ≤ b ∧ b < N
    · rw [decide_eq_true hb] at HNb
      obtain ⟨A0, rfl⟩ := Int.eq_ofNat_of_zero_le ha.1
      obtain ⟨B0, rfl⟩ := Int.eq_ofNat_of_zero_le hb.1
      have hA0 : A0 < N := by omega
      have hB0 : B0 < N := by omega
      have Q : nextT N l (A0 : Int) (B0 : Int) = nextS (N : Int) l [] (distS N l [] B0) (A0 : Int) := by unfold nextT; rw [if_pos hb, Int.toNat_natCast]
      have hL := nextT_len N l (A0 : Int) (B0 : Int)
      rw [Q] at hL ⊢
      obtain ⟨g, v1, v2, rfl, hg, cg1, cg2, vs, _, ho2, hr2⟩ := h.at hB0
      obtain ⟨va, hva⟩ : ∃ va, vs[A0]? = some va := ⟨vs[A0]'(by have := ho2.1; omega), List.getElem?_eq_getElem _⟩
      obtain ⟨g2, cap2, rfl, hg2, cg3⟩ := own_row_at ho2 hva
      have hrow := hr2 A0 va hva
      obtain ⟨L, hLe⟩ : ∃ L, nextS (N : Int) l [] (distS N l [] B0) (A0 : Int) = L := ⟨_, rfl⟩
      rw [hLe] at hrow hL ⊢
      obtain ⟨Aa, ca, rfl, _, hr⟩ := own_ints hrow rfl
      have hn5 := hok.1
      have HC := hid (cloneInts_any Aa L.length ca L w hr (by omega) (fun hA => by
        subst hA
        rcases hrow.2 with ⟨h1, h2⟩ | ⟨g, cap, cur, h1, _⟩
        · simp only [Value.slice.injEq] at h1; exact ⟨h2, h1.2.2⟩
        · simp at h1))
      clear h ha hb ho2 hr2 hva hrow hr hLe Q hL hn5
      go_enter Try.func14, Try.ntmps14
      go_wp2_with (first
        | (go_at_call 23; (with_reducible refine HNa.out.mono ?_); rintro _ _ ⟨rfl, rfl⟩)
        | (go_at_call 23; (with_reducible refine HNb.out.mono ?_); rintro _ _ ⟨rfl, rfl⟩)
        | (go_at_call 25; (with_reducible refine HC.out.mono ?_); rintro e' w3 ⟨v3, rfl, hown3, hb3⟩; have HO3 := hid hown3; have HB3 := hid hb3; clear hown3 hb3))
      go_ret
      obtain ⟨A3, c3, rfl, _, hr3⟩ := own_ints HO3.out rfl
      exact ⟨A3, c3, rfl, hr3, HB3.out⟩
    · rw [decide_eq_false hb] at HNb
      have Q : nextT N l a b = [] := by unfold nextT; rw [if_neg (by omega)]
      rw [Q]
      clear h ha hb Q
      go_enter Try.func14, Try.ntmps14
      go_wp2_with (first
        | (go_at_call 23; (with_reducible refine HNa.out.mono ?_); rintro _ _ ⟨rfl, rfl⟩)
        | (go_at_call 23; (with_reducible refine HNb.out.mono ?_); rintro _ _ ⟨rfl, rfl⟩))
      go_ret
      exact ⟨none, 0, rfl, ⟨rfl, fun h => by simp at h⟩, Below.refl _ _⟩
  · rw [decide_eq_false ha] at HNa
    have Q : nextT N l a b = [] := by
      unfold nextT nextS
      split
      · rw [if_neg (fun hh => ha ⟨hh.2.2.1, hh.2.2.2.1⟩)]
      · rfl
    rw [Q]
    clear h ha Q
    go_enter Try.func14, Try.ntmps14
    go_wp2_with (go_at_call 23; (with_reducible refine HNa.out.mono ?_); rintro _ _ ⟨rfl, rfl⟩)
    go_ret
    exact ⟨none, 0, rfl, ⟨rfl, fun h => by simp at h⟩, Below.refl _ _⟩
theorem graph_any (BT : Nat) (A' : Option Addr) (n c' : Nat) (A7 : Option Addr) (c7 : Nat) (ps : List (Value × Value)) (N : Nat) (l : List Lnk) (w : World) (h : TAt BT A' n c' A7 c7 ps N l w) (hok : GOk N l) :
    Calls Try.prog 10 #[.pointer (some ⟨BT, 0, none⟩)] w fun e w' => ∃ A c, e = .returned (.agg #[.int .i64 (N : Int), .slice A l.length c]) ∧ RLnk w' w'.heap.size A l.length l ∧ Below w.heap.size w w' := by
  have hb0 : Below w.heap.size w (w.alloc (.cells #[.int .i64 0, .slice none 0 0] 24)) := (Below.refl _ _).alloc (Nat.le_refl _) _
  have h1 := h.on hb0
  have hga := own_garg h1.lnk h1.len hok
  have hn := hok.1
  have hl := h.len
  have HC := hid (clone_any (N : Int) A' n c' l _ hga.row (by omega) hga.non)
  obtain ⟨c0, c1, c2, _⟩ := box3_cells h1.box
  have HX0 := hid (heap_alloc_new w (.cells #[.int .i64 0, .slice none 0 0] 24))
  have HB0 := hid hb0
  rw [hl]
  have Hl := hid hl
  clear h h1 hga hok hb0 hn hl
  go_enter Try.func10, Try.ntmps10
  go_wp2_with (go_at_call 18; (with_reducible refine HC.out.mono ?_); rintro e' w2 ⟨A2, c3, rfl, hown2, hb2⟩; have HO2 := hid hown2; have HX2 := hid (box_below HX0.out hb2 (heap_lt HX0.out)); have HB2 := hid (HB0.out.trans (hb2.mono HB0.out.size)); obtain ⟨q0, q1, qf⟩ := box_cells HX2.out; have f0 := qf 0; have f1 := qf 1; clear hown2 hb2 qf)
  have hg := box_set1 (u := .slice A2 n c3) (box_set0 (u := .int .i64 (N : Int)) HX2.out)
  try simp only [Exit.inBlock, Exit.then]
  refine bodyPost_ret (results_cell_row (p := 2) (fn := Try.f10) rfl _ _ _ _ _ _ _ rfl hg Try.underlying24 rfl (by kernel_rfl)) rfl ?_
  have ho : ((w2.setCell ⟨w.heap.size, 0, none⟩ (.int .i64 (N : Int))).setCell ⟨w.heap.size, 1, none⟩ (.slice A2 n c3)).ownsRow 0 40 4 (.slice A2 n c3) n (lcells l) := own_box (own_box (own_mono HO2.out (Nat.zero_le _)) HX2.out (by decide)) (box_set0 (u := .int .i64 (N : Int)) HX2.out) (by decide)
  obtain ⟨A9, c9, he, _, hr⟩ := own_lnks ho Hl.out
  simp only [Value.slice.injEq] at he
  obtain ⟨rfl, _, rfl⟩ := he
  exact ⟨A2, c3, rfl, hr, (HB2.out.setCell (Nat.le_refl _) _).setCell (Nat.le_refl _) _⟩
theorem tab_spec : TabSpec 7 10 11 14 := by
  refine ⟨TabAt, ⟨tabAt_keep, new_any, ?_, ?_⟩, ?_⟩
  · rintro w p N l a b ⟨BT, A', n, c', A7, c7, ps, rfl, h⟩ hok _ _
    exact dist_any BT A' n c' A7 c7 ps N l a b w h hok
  · rintro w p N l a b ⟨BT, A', n, c', A7, c7, ps, rfl, h⟩ hok _ _
    exact next2_any BT A' n c' A7 c7 ps N l a b w h hok
  · rintro w p N l ⟨BT, A', n, c', A7, c7, ps, rfl, h⟩ hok
    exact graph_any BT A' n c' A7 c7 ps N l w h hok
end Go.Proofs.Ytiklfbbefchhlaa
