/- waymarkref1.Tables: Dist, Next; what New made stays. -/
import Derived.Test.YtiklfbbefchhlaaTbG
import Derived.Test.YtiklfbbefchhlaaSpE
import Derived.Deep.RegionHeld3
namespace Go.Proofs.Ytiklfbbefchhlaa
open Go.RowKit
set_option maxHeartbeats 6400000
set_option maxRecDepth 100000
/-- What lies behind a pair of tables of the reference. -/
structure RAt (BT : Nat) (A' : Option Addr) (n c' : Nat) (vD : Value) (vs : List Value) (N : Nat) (l : List Lnk) (w : World) : Prop where
  box : w.heap[BT]? = some (.cells #[.int .i64 (N : Int), .slice A' n c', vD] 58 (0, 0))
  lnk : w.ownsRow 0 40 4 (.slice A' n c') n (lcells l)
  own : w.ownsRow 0 37 1 vD N vs
  rows : Rows1 w N l vs
  len : l.length = n
theorem RAt.lt {BT : Nat} {A' : Option Addr} {n c' : Nat} {vD : Value} {vs : List Value} {N : Nat} {l : List Lnk} {w : World} (h : RAt BT A' n c' vD vs N l w) : BT < w.heap.size := by
  rcases Nat.lt_or_ge BT w.heap.size with h1 | h1
  · exact h1
  · have h2 := h.box
    rw [Array.getElem?_eq_none h1] at h2; cases h2
theorem RAt.on {BT : Nat} {A' : Option Addr} {n c' : Nat} {vD : Value} {vs : List Value} {N : Nat} {l : List Lnk} {w w' : World} (h : RAt BT A' n c' vD vs N l w) (hb : Below w.heap.size w w') : RAt BT A' n c' vD vs N l w' :=
  ⟨box_below h.box hb h.lt, own_below h.lnk hb, own_below h.own hb, h.rows.below hb, h.len⟩
def RefAt (w : World) (p : Addr) (N : Nat) (l : List Lnk) : Prop := ∃ BT A' n c' vD vs, p = ⟨BT, 0, none⟩ ∧ RAt BT A' n c' vD vs N l w
theorem refAt_keep (w w' : World) (p : Addr) (N : Nat) (l : List Lnk) (h : RefAt w p N l) (hb : Below w.heap.size w w') : RefAt w' p N l := by
  obtain ⟨BT, A', n, c', vD, vs, hp, h⟩ := h
  exact ⟨BT, A', n, c', vD, vs, hp, h.on hb⟩
theorem refNew_any (nd : Int) (A : Option Addr) (n c : Nat) (l : List Lnk) (w : World) (hg : GAny w nd A n c l) : Calls Try.prog 8 #[.agg #[.int .i64 nd, .slice A n c]] w (NewAns RefAt nd l w) := by
  by_cases h : (checkS nd l).2 = 0
  · obtain ⟨h1, h2, _, _⟩ := checkS_ok h
    obtain ⟨N, rfl⟩ := Int.eq_ofNat_of_zero_le (show 0 ≤ nd by omega)
    have hl := hg.row.1
    refine (newTables_in N A n c l w ⟨hg.row, by omega, hg.cap, hg.non, hg.lo, hg.hi⟩ h).mono ?_
    rintro e' w' ⟨BT, A', c', vD, vs, rfl, hs⟩
    exact ⟨hs.held.1, .inl ⟨h, _, N, rfl, rfl, BT, A', n, c', vD, vs, rfl, hs.box, hs.lnk, own_mono hs.own (Nat.zero_le _), hs.rows, hl⟩⟩
  · refine (newTables_not nd A n c l w hg.row h).mono ?_
    rintro e' w' ⟨rfl, hb⟩
    exact ⟨hb, .inr ⟨h, rfl⟩⟩
theorem own_row_at {w : World} {base e N j : Nat} {v u : Value} {vs : List Value} (h : w.ownsRow base e 1 v N vs) (hj : vs[j]? = some u) : ∃ g cap, v = .slice (some ⟨g, 0, none⟩) N cap ∧ g < w.heap.size ∧ w.cell? ⟨g, j, none⟩ = some u := by
  rcases h.2 with ⟨rfl, h1⟩ | ⟨g, cap, cur, rfl, _, hg, _, _⟩
  · have := (List.getElem?_eq_some_iff.1 hj).1
    have h2 := h.1
    omega
  · have k1 := h.cells (g := g) rfl _ _ hj
    rw [Go.WideShapes.add_plain, Nat.zero_add] at k1
    refine ⟨g, cap, rfl, ?_, k1⟩
    rcases Nat.lt_or_ge g w.heap.size with hlt | hge
    · exact hlt
    · rw [Array.getElem?_eq_none hge] at hg; cases hg
theorem node_b {nd v : Int} : (decide (0 ≤ v) && decide (v < nd)) = decide (0 ≤ v ∧ v < nd) := by
  by_cases h : 0 ≤ v <;> simp [h]
theorem refDist_any (BT : Nat) (A' : Option Addr) (n c' : Nat) (vD : Value) (vs : List Value) (N : Nat) (l : List Lnk) (a b : Int) (w : World) (h : RAt BT A' n c' vD vs N l w) (hok : GOk N l) :
    Calls Try.prog 12 #[.pointer (some ⟨BT, 0, none⟩), .int .i64 a, .int .i64 b] w fun e w' => e = .returned (.int .i64 (distT N l a b)) ∧ Below w.heap.size w w' := by
  obtain ⟨c0, c1, c2, _⟩ := box3_cells h.box
  have HNa := hid (node_any (N : Int) A' n c' a w)
  have HNb := hid (fun w' => node_any (N : Int) A' n c' b w')
  rw [node_b] at HNa
  simp only [node_b] at HNb
  have HKp := hid (fun (w' : World) (hb : Below w.heap.size w w') => box3_cells (h.on hb).box)
  by_cases ha : 0 ≤ a ∧ a < N
  · rw [decide_eq_true ha] at HNa
    by_cases hb : 0 ≤ b ∧ b < N
    · simp only [decide_eq_true hb] at HNb
      obtain ⟨A0, rfl⟩ := Int.eq_ofNat_of_zero_le ha.1
      obtain ⟨B0, rfl⟩ := Int.eq_ofNat_of_zero_le hb.1
      have hA0 : A0 < N := by omega
      have hB0 : B0 < N := by omega
      rw [distT_in hA0 hB0]
      obtain ⟨va, hva⟩ : ∃ va, vs[A0]? = some va := ⟨vs[A0]'(by have := h.own.1; omega), List.getElem?_eq_getElem _⟩
      obtain ⟨g, cap, rfl, hg, cg⟩ := own_row_at h.own hva
      have hrow := h.rows A0 va hva
      obtain ⟨Aa, ca, rfl, _, hr⟩ := own_ints hrow (dist_ok (dn := []) hok hA0).len
      obtain ⟨b7, o7, rfl, hb7, hc7⟩ := hr.2 (by omega)
      have cd := hc7 B0 _ (dAt_get (by rw [hr.1]; exact hB0))
      have HFc := hid (fun (w' : World) (hb : Below w.heap.size w w') => (⟨(hb.cell (p := ⟨g, A0, none⟩) hg).trans cg, (hb.cell (p := ⟨b7, o7 + B0, none⟩) hb7).trans cd⟩ : w'.cell? ⟨g, A0, none⟩ = _ ∧ w'.cell? ⟨b7, o7 + B0, none⟩ = _))
      obtain ⟨x, hx⟩ : ∃ x, dAt (distS N l [] A0) (B0 : Int) = x := ⟨_, rfl⟩
      rw [hx] at HFc ⊢
      clear h ha hb hva hrow hr hc7 cd cg hx
      go_enter Try.func12, Try.ntmps12
      go_wp2_with (first
        | (go_at_call 24; (with_reducible refine HNa.out.mono ?_); rintro e' w1 ⟨rfl, hb1⟩; obtain ⟨d0, d1, d2, _⟩ := HKp.out _ hb1)
        | (go_at_call 24; (with_reducible refine (HNb.out _).mono ?_); rintro e' w2 ⟨rfl, hb2⟩; have hb12 : Below w.heap.size w w2 := hb1.trans (hb2.mono hb1.size); obtain ⟨e0, e1, e2, _⟩ := HKp.out _ hb12; obtain ⟨x1, x2⟩ := HFc.out _ hb12))
      go_ret
      exact ⟨rfl, hb12⟩
    · simp only [decide_eq_false hb] at HNb
      have Q : distT N l a b = -1 := by unfold distT; rw [if_neg (by omega)]
      rw [Q]
      clear h ha hb Q
      go_enter Try.func12, Try.ntmps12
      go_wp2_with (first
        | (go_at_call 24; (with_reducible refine HNa.out.mono ?_); rintro e' w1 ⟨rfl, hb1⟩; obtain ⟨d0, d1, d2, _⟩ := HKp.out _ hb1)
        | (go_at_call 24; (with_reducible refine (HNb.out _).mono ?_); rintro e' w2 ⟨rfl, hb2⟩; have hb12 : Below w.heap.size w w2 := hb1.trans (hb2.mono hb1.size)))
      go_ret
      exact ⟨rfl, hb12⟩
  · rw [decide_eq_false ha] at HNa
    have Q : distT N l a b = -1 := by unfold distT; rw [if_neg (by omega)]
    rw [Q]
    clear h ha Q
    go_enter Try.func12, Try.ntmps12
    go_wp2_with (go_at_call 24; (with_reducible refine HNa.out.mono ?_); rintro e' w1 ⟨rfl, hb1⟩)
    go_ret
    exact ⟨rfl, hb1⟩
theorem own_targ {w : World} {base m c : Nat} {A : Option Addr} {l : List Int} (h : w.ownsRow base 3 1 (.slice A m c) m (icells l)) (hl : l.length = m) (hm : m ≤ 60) (hs : ∀ x ∈ l, -1099511627776 ≤ x ∧ x ≤ 1099511627776) : TArg w A m c l := by
  refine ⟨own_ri h hl, hm, ?_, ?_, hs⟩
  · rcases h.2 with ⟨h1, h2⟩ | ⟨g, cap, cur, h1, _, _, h2, _⟩
    · omega
    · simp only [Value.slice.injEq] at h1; omega
  · intro hA
    subst hA
    rcases h.2 with ⟨h1, h2⟩ | ⟨g, cap, cur, h1, _⟩
    · simp only [Value.slice.injEq] at h1; exact ⟨h2, h1.2.2⟩
    · simp at h1
theorem own_garg {w : World} {A' : Option Addr} {n c' N : Nat} {l : List Lnk} (h : w.ownsRow 0 40 4 (.slice A' n c') n (lcells l)) (hl : l.length = n) (hok : GOk N l) : GArg w (N : Int) A' n c' l := by
  obtain ⟨A2, c2, he, hle, hr⟩ := own_lnks h hl
  simp only [Value.slice.injEq] at he
  obtain ⟨rfl, _, rfl⟩ := he
  have h1 := hok.1
  have h2 := hok.2.2.1
  refine ⟨hr, by omega, hle, fun hA => ?_, by omega, by omega⟩
  subst hA
  rcases h.2 with ⟨h1, h2⟩ | ⟨g, cap, cur, h1, _⟩
  · simp only [Value.slice.injEq] at h1; exact ⟨h2, h1.2.2⟩
  · simp at h1
theorem refTNext_any (BT : Nat) (A' : Option Addr) (n c' : Nat) (vD : Value) (vs : List Value) (N : Nat) (l : List Lnk) (a b : Int) (w : World) (h : RAt BT A' n c' vD vs N l w) (hok : GOk N l) (hia : In64 a) :
    Calls Try.prog 15 #[.pointer (some ⟨BT, 0, none⟩), .int .i64 a, .int .i64 b] w (RowAns (nextT N l a b) w) := by
  obtain ⟨c0, c1, c2, _⟩ := box3_cells h.box
  have HNa := hid (node_any (N : Int) A' n c' a w)
  have HNb := hid (fun w' => node_any (N : Int) A' n c' b w')
  rw [node_b] at HNa
  simp only [node_b] at HNb
  have HKp := hid (fun (w' : World) (hb : Below w.heap.size w w') => box3_cells (h.on hb).box)
  by_cases ha : 0 ≤ a ∧ a < N
  · rw [decide_eq_true ha] at HNa
    by_cases hb : 0 ≤ b ∧ b < N
    · simp only [decide_eq_true hb] at HNb
      obtain ⟨B0, rfl⟩ := Int.eq_ofNat_of_zero_le hb.1
      have hB0 : B0 < N := by omega
      have Q : nextT N l a (B0 : Int) = nextS (N : Int) l [] (distS N l [] B0) a := by unfold nextT; rw [if_pos hb, Int.toNat_natCast]
      rw [Q]
      obtain ⟨va, hva⟩ : ∃ va, vs[B0]? = some va := ⟨vs[B0]'(by have := h.own.1; omega), List.getElem?_eq_getElem _⟩
      obtain ⟨g, cap, rfl, hg, cg⟩ := own_row_at h.own hva
      have hrow := h.rows B0 va hva
      have hdl := (dist_ok (dn := []) hok hB0).len
      obtain ⟨Aa, ca, rfl, _, hr⟩ := own_ints hrow hdl
      have HX := hid (fun (w' : World) (hb : Below w.heap.size w w') => refNext_spec (N : Int) A' n c' l none 0 0 [] Aa N ca (distS N l [] B0) a w' (own_garg (h.on hb).lnk h.len hok) (DArg.nil w') (own_targ ((h.on hb).rows B0 _ hva) hdl (by have := hok.2.2.1; omega) (fun x hx => by
        obtain ⟨i, hi, rfl⟩ := List.getElem_of_mem hx
        have e := dAt_get hi
        rw [List.getElem?_eq_getElem hi] at e
        injection e with e
        rw [e]
        have h1 := (dist_ok (dn := []) hok hB0).low i (by omega)
        have h2 := dist_top (dn := []) hok hB0 (v := i) (by omega)
        omega)) hia.1 hia.2)
      have HFc := hid (fun (w' : World) (hb : Below w.heap.size w w') => (hb.cell (p := ⟨g, B0, none⟩) hg).trans cg)
      obtain ⟨L, hL⟩ : ∃ L, nextS (N : Int) l [] (distS N l [] B0) a = L := ⟨_, rfl⟩
      rw [hL] at HX ⊢
      clear h ha hb hva hrow hr cg hL Q hdl
      go_enter Try.func15, Try.ntmps15
      go_wp2_with (first
        | (go_at_call 24; (with_reducible refine HNa.out.mono ?_); rintro e' w1 ⟨rfl, hb1⟩; obtain ⟨d0, d1, d2, _⟩ := HKp.out _ hb1)
        | (go_at_call 24; (with_reducible refine (HNb.out _).mono ?_); rintro e' w2 ⟨rfl, hb2⟩; have hb12 : Below w.heap.size w w2 := hb1.trans (hb2.mono hb1.size)))
      have hbD : Below w.heap.size w w2.drew := hb12.drew
      obtain ⟨e0, e1, e2, _⟩ := HKp.out _ hbD
      have x1 := HFc.out _ hbD
      have HXD := hid (HX.out _ hbD)
      clear d0 d1 d2 c0 c1 c2
      go_region_held3 (fun w' => w'.cell? ⟨BT, 0, none⟩ = some (.int .i64 (N : Int)) ∧ w'.cell? ⟨BT, 1, none⟩ = some (.slice A' n c') ∧ w'.cell? ⟨BT, 2, none⟩ = some (.slice (some ⟨g, 0, none⟩) N cap) ∧ w'.cell? ⟨g, B0, none⟩ = some (.slice Aa N ca))
        (first
          | go_keep
          | exact s3)
        (first
          | (go_at_call 26; (with_reducible refine HXD.out.mono ?_); rintro e' w3 ⟨v3, rfl, hown3, hb3⟩; have hb13 : Below w.heap.size w w3 := hbD.trans (hb3.mono hbD.size); have s3 := And.intro (HKp.out _ hb13).1 (And.intro (HKp.out _ hb13).2.1 (And.intro (HKp.out _ hb13).2.2.1 (HFc.out _ hb13))); have HO3 := hid hown3; clear hown3))
      go_wp2_with fail
      go_ret
      obtain ⟨A3, c3, rfl, _, hr3⟩ := own_ints HO3.out rfl
      exact ⟨A3, c3, rfl, hr3, hb13⟩
    · simp only [decide_eq_false hb] at HNb
      have Q : nextT N l a b = [] := by unfold nextT; rw [if_neg (by omega)]
      rw [Q]
      clear h ha hb Q
      go_enter Try.func15, Try.ntmps15
      go_wp2_with (first
        | (go_at_call 24; (with_reducible refine HNa.out.mono ?_); rintro e' w1 ⟨rfl, hb1⟩; obtain ⟨d0, d1, d2, _⟩ := HKp.out _ hb1)
        | (go_at_call 24; (with_reducible refine (HNb.out _).mono ?_); rintro e' w2 ⟨rfl, hb2⟩; have hb12 : Below w.heap.size w w2 := hb1.trans (hb2.mono hb1.size)))
      go_ret
      exact ⟨none, 0, rfl, ⟨rfl, fun h => by simp at h⟩, hb12⟩
  · rw [decide_eq_false ha] at HNa
    have Q : nextT N l a b = [] := by
      unfold nextT nextS
      split
      · rw [if_neg (fun hh => ha ⟨hh.2.2.1, hh.2.2.2.1⟩)]
      · rfl
    rw [Q]
    clear h ha Q
    go_enter Try.func15, Try.ntmps15
    go_wp2_with (go_at_call 24; (with_reducible refine HNa.out.mono ?_); rintro e' w1 ⟨rfl, hb1⟩)
    go_ret
    exact ⟨none, 0, rfl, ⟨rfl, fun h => by simp at h⟩, hb1⟩
theorem refOps : TabOps RefAt 8 12 15 where
  keep := refAt_keep
  new := refNew_any
  dist := by
    rintro w p N l a b ⟨BT, A', n, c', vD, vs, rfl, h⟩ hok _ _
    exact refDist_any BT A' n c' vD vs N l a b w h hok
  next := by
    rintro w p N l a b ⟨BT, A', n, c', vD, vs, rfl, h⟩ hok ha _
    exact refTNext_any BT A' n c' vD vs N l a b w h hok ha
end Go.Proofs.Ytiklfbbefchhlaa
