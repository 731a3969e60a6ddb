/- Merged: CqZ CrA CrB CrC CrE. -/
import Derived.Test.YtkemcgbedapkcaaG16
import Derived.Test.YtkemcgbedapkcaaG10
import Derived.OneCell
import Derived.Deep.DeepCutAuto
/- The reference's Compile: its rows. -/
namespace Go.Proofs.Ytkemcgbedapkcaa
open Go.RowKit
set_option maxHeartbeats 6400000
set_option maxRecDepth 100000
/-! ### States as cells -/
def pcells (L : List (Int × Int)) : List Value := L.flatMap fun p => [.int .i64 p.1, .int .i64 p.2]
theorem pcells_app (a b : List (Int × Int)) : pcells (a ++ b) = pcells a ++ pcells b := List.flatMap_append
theorem pcells_len (L : List (Int × Int)) : (pcells L).length = L.length * 2 := by
  induction L with
  | nil => rfl
  | cons t L ih => simp only [pcells, List.flatMap_cons, List.length_append, List.length_cons, List.length_nil] at *; omega
theorem pcells_one (L : List (Int × Int)) : ∀ u ∈ pcells L, u.oneCell' = true := by
  intro u hu
  simp only [pcells, List.mem_flatMap] at hu
  obtain ⟨t, _, hu⟩ := hu
  simp at hu
  rcases hu with rfl | rfl <;> rfl
theorem pcells_at {L : List (Int × Int)} {i : Nat} {t : Int × Int} (h : L[i]? = some t) : (pcells L)[i * 2]? = some (.int .i64 t.1) ∧ (pcells L)[i * 2 + 1]? = some (.int .i64 t.2) := by
  obtain ⟨hi, ht⟩ := List.getElem?_eq_some_iff.1 h
  have e : L = L.take i ++ t :: L.drop (i + 1) := by
    have := List.take_append_drop i L
    rw [List.drop_eq_getElem_cons hi, ht] at this
    exact this.symm
  rw [e, pcells_app]
  have hl : (pcells (L.take i)).length = i * 2 := by rw [pcells_len, List.length_take]; omega
  constructor
  · rw [List.getElem?_append_right (by omega), hl, Nat.sub_self]; rfl
  · rw [List.getElem?_append_right (by omega), hl, Nat.add_sub_cancel_left]; rfl
theorem own_pcell {W : World} {base M cs g : Nat} {L : List (Int × Int)} (h : W.ownsRow base 92 2 (.slice (some ⟨g, 0, none⟩) M cs) M (pcells L)) {i : Nat} {t : Int × Int} (ht : L[i]? = some t) : W.cell? ⟨g, i * 2, none⟩ = some (.int .i64 t.1) ∧ W.cell? ⟨g, i * 2 + 1, none⟩ = some (.int .i64 t.2) := by
  obtain ⟨h1, h2⟩ := pcells_at ht
  have c1 := h.cells (g := g) rfl _ _ h1
  have c2 := h.cells (g := g) rfl _ _ h2
  rw [Go.WideShapes.add_plain, Nat.zero_add] at c1 c2
  exact ⟨c1, c2⟩
/-- A block of ints, whole. -/
def IBlk (W : World) (r : Nat) (row : List Int) : Prop := W.heap[r]? = some (.cells (icells row).toArray 3 (0, 0))
theorem IBlk.cell {W : World} {r : Nat} {row : List Int} (h : IBlk W r row) {i : Nat} {v : Int} (hv : row[i]? = some v) : W.cell? ⟨r, i, none⟩ = some (.int .i64 v) := by
  unfold IBlk at h
  rw [cell_of_row _ _ _ _ _ _ h]
  simp [icells, hv]
theorem IBlk.frozen {W : World} {r : Nat} {row : List Int} (h : IBlk W r row) (i : Nat) : W.frozen? ⟨r, i, none⟩ = false := frozen_of_row _ _ _ _ _ h
theorem IBlk.lt {W : World} {r : Nat} {row : List Int} (h : IBlk W r row) : r < W.heap.size := blk_lt h
theorem IBlk.next {W W' : World} {r : Nat} {row : List Int} (h : IBlk W r row) (hb : Below W.heap.size W W') : IBlk W' r row := box_below h hb (blk_lt h)
theorem IBlk.set {W : World} {r : Nat} {row : List Int} (h : IBlk W r row) (i : Nat) (v : Int) : IBlk (W.setCell ⟨r, i, none⟩ (.int .i64 v)) r (row.set i v) := by
  have := heap_setCell_same W r i _ 3 (.int .i64 v) h
  unfold IBlk
  rw [this]
  congr 2
  simp [icells]
theorem IBlk.other {W : World} {r b j : Nat} {row : List Int} {u : Value} (h : IBlk W r row) (hb : b ≠ r) : IBlk (W.setCell ⟨b, j, none⟩ u) r row := (heap_setCell_other W ⟨b, j, none⟩ r u (fun e => hb e.symm)).trans h
theorem IBlk.grown {W W' : World} {r : Nat} {row : List Int} {base e s n : Nat} {v : Value} {xs : List Value} (h : IBlk W r row) (ho : W.ownsRow base e s v n xs) (hg : W.grownBy W' v.ownBlock) (he : e ≠ 3) : IBlk W' r row :=
  (hg.block r (blk_lt h) (own_ne ho h he)).trans h
/-- What Compile holds: the states, the rows so far. -/
structure CTb (w0 : World) (K : Nat) (sts : List (Int × Int)) (M : Nat) (Ds : Option Addr) (cs : Nat) (R : List (List Int)) (i : Nat) (Dt : Option Addr) (ct : Nat) (rs : List Nat) (W : World) : Prop where
  bel : Below w0.heap.size w0 W
  st : W.ownsRow w0.heap.size 92 2 (.slice Ds M cs) M (pcells sts)
  tt : W.ownsRow w0.heap.size 40 1 (.slice Dt i ct) i (rs.map fun r => .slice (some ⟨r, 0, none⟩) K K)
  rows : ∀ (j r : Nat) (row : List Int), rs[j]? = some r → R[j]? = some row → IBlk W r row
  base : ∀ r ∈ rs, w0.heap.size ≤ r ∧ r < W.heap.size
section
variable {w0 : World} {K : Nat} {sts : List (Int × Int)} {M : Nat} {Ds : Option Addr} {cs : Nat} {R : List (List Int)} {i : Nat} {Dt : Option Addr} {ct : Nat} {rs : List Nat} {W W' : World}
theorem CTb.lens (h : CTb w0 K sts M Ds cs R i Dt ct rs W) : sts.length = M ∧ rs.length = i := by
  have h1 := h.st.1
  have h2 := h.tt.1
  rw [pcells_len] at h1
  rw [List.length_map] at h2
  omega
theorem CTb.next (h : CTb w0 K sts M Ds cs R i Dt ct rs W) (hb : Below W.heap.size W W') : CTb w0 K sts M Ds cs R i Dt ct rs W' :=
  ⟨h.bel.trans (hb.mono h.bel.size), own_below h.st hb, own_below h.tt hb, fun j r row h1 h2 => (h.rows j r row h1 h2).next hb, fun r hr => ⟨(h.base r hr).1, Nat.lt_of_lt_of_le (h.base r hr).2 hb.size⟩⟩
/-- A store into a row of its own. -/
theorem CTb.setRow (h : CTb w0 K sts M Ds cs R i Dt ct rs W) {r0 j : Nat} {row : List Int} {u : Value} (hr : IBlk W r0 row) (h0 : w0.heap.size ≤ r0) (hne : r0 ∉ rs) : CTb w0 K sts M Ds cs R i Dt ct rs (W.setCell ⟨r0, j, none⟩ u) :=
  ⟨h.bel.setCell h0 _, own_box h.st hr (by decide), own_box h.tt hr (by decide), fun j2 r row2 h1 h2 => (h.rows j2 r row2 h1 h2).other (fun e => hne (e ▸ List.mem_of_getElem? h1)), fun r hr => ⟨(h.base r hr).1, by simpa using (h.base r hr).2⟩⟩
/-- A store into a state's box. -/
theorem CTb.setBox (h : CTb w0 K sts M Ds cs R i Dt ct rs W) {bn j : Nat} {a b : Value} {u : Value} (hr : W.heap[bn]? = some (.cells #[a, b] 92 (0, 0))) (h0 : w0.heap.size ≤ bn) (hne : (Value.slice Ds M cs).ownBlock ≠ some bn) : CTb w0 K sts M Ds cs R i Dt ct rs (W.setCell ⟨bn, j, none⟩ u) := by
  refine ⟨h.bel.setCell h0 _, ownsRow_setCell_other h.st hne u, own_box h.tt hr (by decide), fun j2 r row2 h1 h2 => (h.rows j2 r row2 h1 h2).other (fun e => ?_), fun r hr => ⟨(h.base r hr).1, by simpa using (h.base r hr).2⟩⟩
  have h3 := h.rows j2 r row2 h1 h2
  subst e
  unfold IBlk at h3
  rw [hr] at h3
  simp at h3
/-- One state more. -/
theorem CTb.addS (h : CTb w0 K sts M Ds cs R i Dt ct rs W) {o : Obj} {p : Int × Int} {D : Option Addr} {c : Nat} (hown : W'.ownsRow w0.heap.size 92 2 (.slice D (M + 1) c) (M + 1) (pcells sts ++ pcells [p])) (hg : (W.alloc o).grownBy W' (Value.slice Ds M cs).ownBlock) : CTb w0 K (sts ++ [p]) (M + 1) D c R i Dt ct rs W' := by
  have ha := h.next (W' := W.alloc o) ((Below.refl _ _).alloc (Nat.le_refl _) _)
  refine ⟨Below.grown ha.bel hg ha.bel.size (fun q hq => (ha.st.lt q hq).1), by rw [pcells_app]; exact hown, ha.tt.kept hg ((own_apart ha.tt ha.st (by decide)).imp id id), fun j r row h1 h2 => (ha.rows j r row h1 h2).grown ha.st hg (by decide), fun r hr => ⟨(ha.base r hr).1, Nat.lt_of_lt_of_le (ha.base r hr).2 hg.size⟩⟩
/-- One row more. -/
theorem CTb.addT (h : CTb w0 K sts M Ds cs R i Dt ct rs W) {o : Obj} {r0 : Nat} {row : List Int} {D : Option Addr} {c : Nat} (hr : IBlk W r0 row) (h0 : w0.heap.size ≤ r0) (hR : R.length = i)
    (hown : W'.ownsRow w0.heap.size 40 1 (.slice D (i + 1) c) (i + 1) ((rs.map fun r => .slice (some ⟨r, 0, none⟩) K K) ++ [.slice (some ⟨r0, 0, none⟩) K K])) (hg : (W.alloc o).grownBy W' (Value.slice Dt i ct).ownBlock) : CTb w0 K sts M Ds cs (R ++ [row]) (i + 1) D c (rs ++ [r0]) W' := by
  have hbA : Below W.heap.size W (W.alloc o) := (Below.refl _ _).alloc (Nat.le_refl _) _
  have ha := h.next hbA
  have hra := (hr.next hbA).grown ha.tt hg (by decide)
  have hl := h.lens.2
  refine ⟨Below.grown ha.bel hg ha.bel.size (fun q hq => (ha.tt.lt q hq).1), ha.st.kept hg ((own_apart ha.st ha.tt (by decide)).imp id id), by rw [List.map_append]; exact hown, fun j r row2 h1 h2 => ?_, fun r hr2 => ?_⟩
  · rcases Nat.lt_or_ge j i with hj | hj
    · rw [List.getElem?_append_left (by omega)] at h1 h2
      exact (ha.rows j r row2 h1 h2).grown ha.tt hg (by decide)
    · rw [List.getElem?_append_right (by omega)] at h1 h2
      have h3 := (List.getElem?_eq_some_iff.1 h1).1
      simp only [List.length_cons, List.length_nil] at h3
      have e1 : j - rs.length = 0 := by omega
      have e2 : j - R.length = 0 := by omega
      rw [e1] at h1
      rw [e2] at h2
      simp at h1 h2
      subst h1 h2
      exact hra
  · rcases List.mem_append.1 hr2 with hm | hm
    · exact ⟨(ha.base r hm).1, Nat.lt_of_lt_of_le (ha.base r hm).2 hg.size⟩
    · rw [List.mem_singleton] at hm
      subst hm
      exact ⟨h0, hra.lt⟩
theorem CTb.fresh (h : CTb w0 K sts M Ds cs R i Dt ct rs W) : W.heap.size ∉ rs := fun hm => by have := (h.base _ hm).2; omega
theorem CTb.start {s : Int × Int} {W : World} (hw : w0 = W) : CTb w0 K [s] 1 (some ⟨W.heap.size, 0, none⟩) 1 [] 0 none 0 [] (W.alloc (.cells #[.int .i64 s.1, .int .i64 s.2] 92)) := by
  subst hw
  exact ⟨(Below.refl _ _).alloc (Nat.le_refl _) _, ⟨rfl, .inr ⟨_, 1, _, rfl, Nat.le_refl _, heap_alloc_new _ _, Nat.le_refl _, by decide, rfl, rfl⟩⟩, World.ownsRow_nil _ _ _ _, fun j r row h1 => by simp at h1, fun r hr => by cases hr⟩
end
end Go.Proofs.Ytkemcgbedapkcaa

/- The reference's Compile: what its rows say, plainly. -/
namespace Go.Proofs.Ytkemcgbedapkcaa
open Go.RowKit
set_option maxHeartbeats 6400000
set_option maxRecDepth 100000
section
variable (N : Nat) (l : List Lnk) (x : Wnt) (gn : List Bool)
/-- A row's number k: where segment k leads from p. -/
def RowAt (sts : List (Int × Int)) (p : Int × Int) (row : List Int) (k : Nat) : Prop := ∃ s, (segsS N l)[k]? = some s ∧ ((segO N l x gn p s.edge s.too = none ∧ row[k]? = some (-1)) ∨ ∃ (j : Nat) (q : Int × Int), segO N l x gn p s.edge s.too = some q ∧ sts[j]? = some q ∧ row[k]? = some (j : Int))
def RowPart (sts : List (Int × Int)) (p : Int × Int) (row : List Int) (k : Nat) : Prop := row.length = (segsS N l).length ∧ ∀ k', k' < k → RowAt N l x gn sts p row k'
structure GoodC (sts : List (Int × Int)) (R : List (List Int)) (i : Nat) : Prop where
  nd : sts.Nodup
  rng : ∀ p ∈ sts, InS N x p
  zero : sts[0]? = some (startS x)
  len : R.length = i
  rows : ∀ (j : Nat) (row : List Int), R[j]? = some row → ∃ p, sts[j]? = some p ∧ RowPart N l x gn sts p row (segsS N l).length
variable {N l x gn}
theorem RowAt.more {sts : List (Int × Int)} {p : Int × Int} {row : List Int} {k : Nat} (h : RowAt N l x gn sts p row k) (t : List (Int × Int)) : RowAt N l x gn (sts ++ t) p row k := by
  obtain ⟨s, hs, h1 | ⟨j, q, h1, h2, h3⟩⟩ := h
  · exact ⟨s, hs, .inl h1⟩
  · exact ⟨s, hs, .inr ⟨j, q, h1, by rw [List.getElem?_append_left (List.getElem?_eq_some_iff.1 h2).1]; exact h2, h3⟩⟩
theorem RowPart.more {sts : List (Int × Int)} {p : Int × Int} {row : List Int} {k : Nat} (h : RowPart N l x gn sts p row k) (t : List (Int × Int)) : RowPart N l x gn (sts ++ t) p row k := ⟨h.1, fun k' hk => (h.2 k' hk).more t⟩
theorem RowPart.set {sts : List (Int × Int)} {p : Int × Int} {row : List Int} {k : Nat} (h : RowPart N l x gn sts p row k) (v : Int) : RowPart N l x gn sts p (row.set k v) k := by
  refine ⟨by rw [List.length_set]; exact h.1, fun k' hk => ?_⟩
  obtain ⟨s, hs, h1 | ⟨j, q, h1, h2, h3⟩⟩ := h.2 k' hk
  · exact ⟨s, hs, .inl ⟨h1.1, by rw [List.getElem?_set_ne (by omega)]; exact h1.2⟩⟩
  · exact ⟨s, hs, .inr ⟨j, q, h1, h2, by rw [List.getElem?_set_ne (by omega)]; exact h3⟩⟩
theorem RowPart.none {sts : List (Int × Int)} {p : Int × Int} {row : List Int} {k : Nat} {s : Sg} (h : RowPart N l x gn sts p row k) (hs : (segsS N l)[k]? = some s) (h0 : segO N l x gn p s.edge s.too = none) : RowPart N l x gn sts p (row.set k (-1)) (k + 1) := by
  have hk := (List.getElem?_eq_some_iff.1 hs).1
  refine ⟨(h.set (-1)).1, fun k' hk' => ?_⟩
  rcases Nat.lt_or_ge k' k with h1 | h1
  · exact (h.set (-1)).2 k' h1
  · obtain rfl : k' = k := by omega
    exact ⟨s, hs, .inl ⟨h0, by rw [List.getElem?_set_self (by rw [h.1]; exact hk)]⟩⟩
theorem RowPart.some {sts : List (Int × Int)} {p q : Int × Int} {row : List Int} {k j : Nat} {s : Sg} (h : RowPart N l x gn sts p row k) (hs : (segsS N l)[k]? = some s) (h0 : segO N l x gn p s.edge s.too = some q) (hj : sts[j]? = some q) (v : Int) : RowPart N l x gn sts p ((row.set k v).set k (j : Int)) (k + 1) := by
  have hk := (List.getElem?_eq_some_iff.1 hs).1
  have h2 := (h.set v).set (j : Int)
  refine ⟨h2.1, fun k' hk' => ?_⟩
  rcases Nat.lt_or_ge k' k with h1 | h1
  · exact h2.2 k' h1
  · obtain rfl : k' = k := by omega
    exact ⟨s, hs, .inr ⟨j, q, h0, hj, by rw [List.getElem?_set_self (by rw [List.length_set, h.1]; exact hk)]⟩⟩
theorem GoodC.more {sts : List (Int × Int)} {R : List (List Int)} {i : Nat} {q : Int × Int} (h : GoodC N l x gn sts R i) (hq : InS N x q) (hn : q ∉ sts) : GoodC N l x gn (sts ++ [q]) R i := by
  refine ⟨?_, fun p hp => ?_, ?_, h.len, fun j row hr => ?_⟩
  · rw [List.nodup_append]
    exact ⟨h.nd, List.nodup_cons.2 ⟨by simp, List.nodup_nil⟩, fun a ha b hb e => by rw [List.mem_singleton] at hb; exact hn (hb ▸ e ▸ ha)⟩
  · rcases List.mem_append.1 hp with hp | hp
    · exact h.rng p hp
    · rw [List.mem_singleton] at hp; exact hp ▸ hq
  · rw [List.getElem?_append_left (List.getElem?_eq_some_iff.1 h.zero).1]; exact h.zero
  · obtain ⟨p, h1, h2⟩ := h.rows j row hr
    exact ⟨p, by rw [List.getElem?_append_left (List.getElem?_eq_some_iff.1 h1).1]; exact h1, h2.more _⟩
theorem GoodC.add {sts : List (Int × Int)} {R : List (List Int)} {i : Nat} {p : Int × Int} {row : List Int} (h : GoodC N l x gn sts R i) (hp : sts[i]? = some p) (hr : RowPart N l x gn sts p row (segsS N l).length) : GoodC N l x gn sts (R ++ [row]) (i + 1) := by
  refine ⟨h.nd, h.rng, h.zero, by rw [List.length_append, h.len]; rfl, fun j row2 hr2 => ?_⟩
  rcases Nat.lt_or_ge j i with hj | hj
  · rw [List.getElem?_append_left (by rw [h.len]; exact hj)] at hr2
    exact h.rows j row2 hr2
  · rw [List.getElem?_append_right (by rw [h.len]; exact hj), h.len] at hr2
    have h3 := (List.getElem?_eq_some_iff.1 hr2).1
    simp only [List.length_cons, List.length_nil] at h3
    have e1 : j - i = 0 := by omega
    rw [e1] at hr2
    simp at hr2
    obtain rfl : j = i := by omega
    subst hr2
    exact ⟨p, hp, hr⟩
theorem GoodC.start (hr : rightS N l x = 0) : GoodC N l x gn [startS x] [] 0 :=
  ⟨List.nodup_cons.2 ⟨by simp, List.nodup_nil⟩, fun p hp => by rw [List.mem_singleton] at hp; exact hp ▸ startS_in hr, rfl, rfl, fun j row h => by simp at h⟩
theorem segsS_len : (segsS N l).length = N + 2 * l.length := by unfold segsS; simp
end
end Go.Proofs.Ytkemcgbedapkcaa

/- The reference's Cut. -/
namespace Go.Proofs.Ytkemcgbedapkcaa
open Go.RowKit
set_option maxHeartbeats 6400000
set_option maxRecDepth 100000
theorem cutR_any (d : Int) (w : World) : Calls Try.prog 32 #[.int .i64 d, .int .i64 0, .int .i64 10] w fun e w' => e = .returned (.int .i64 (cutD d : Int)) ∧ w' = w := by
  by_cases h0 : d < 0
  · have t1 : decide (d < 0) = true := decide_eq_true h0
    have HV : Hid ((cutD d : Int) = 0) := by show _ = _; unfold cutD; rw [if_pos h0]; rfl
    go_enter Try.func32, Try.ntmps32
    go_wp2_with fail
    go_ret
    exact ⟨by rw [HV.out]; rfl, rfl⟩
  · have t1 : decide (d < 0) = false := decide_eq_false h0
    by_cases h1 : 10 < d
    · have t2 : decide (10 < d) = true := decide_eq_true h1
      have HV : Hid ((cutD d : Int) = 10) := by show _ = _; unfold cutD; rw [if_neg h0, if_pos h1]; rfl
      go_enter Try.func32, Try.ntmps32
      go_wp2_with fail
      go_ret
      exact ⟨by rw [HV.out]; rfl, rfl⟩
    · have t2 : decide (10 < d) = false := decide_eq_false h1
      have HV : Hid ((cutD d : Int) = d) := by show _ = _; unfold cutD; rw [if_neg h0, if_neg h1]; omega
      go_enter Try.func32, Try.ntmps32
      go_wp2_with fail
      go_ret
      exact ⟨by rw [HV.out]; rfl, rfl⟩
end Go.Proofs.Ytkemcgbedapkcaa

/- waymarkref15.Compile. -/
namespace Go.Proofs.Ytkemcgbedapkcaa
open Go.RowKit
set_option maxHeartbeats 64000000
set_option maxRecDepth 100000
/-- A want's box. -/
def HeldV (w : World) (x : Wnt) (y : WSl) (w' : World) : Prop :=
  Below w.heap.size w w' ∧ w'.heap[w.heap.size]? = some (.cells #[.int .i64 x.frm, .int .i64 x.too, .int .i64 x.bnd, .slice y.av y.nv y.cv, .slice y.an y.nn y.cn, .slice y.al y.nl y.cl, .slice y.ac y.nc y.cc] 58 (0, 0))
theorem HeldV.start (w : World) (x : Wnt) (y : WSl) : HeldV w x y (w.alloc (.cells #[.int .i64 x.frm, .int .i64 x.too, .int .i64 x.bnd, .slice y.av y.nv y.cv, .slice y.an y.nn y.cn, .slice y.al y.nl y.cl, .slice y.ac y.nc y.cc] 58)) :=
  ⟨(Below.refl _ _).alloc (Nat.le_refl _) _, heap_alloc_new w _⟩
theorem HeldV.next {w w' w'' : World} {x : Wnt} {y : WSl} (h : HeldV w x y w') (hb : Below w'.heap.size w' w'') : HeldV w x y w'' := ⟨h.1.trans (hb.mono h.1.size), box_below h.2 hb (blk_lt h.2)⟩
theorem HeldV.lt {w w' : World} {x : Wnt} {y : WSl} (h : HeldV w x y w') : w.heap.size < w'.heap.size := blk_lt h.2
theorem tbox_cells {w : World} {B : Nat} {x0 x1 x2 : Value} {T : TypeId} (h : w.heap[B]? = some (.cells #[x0, x1, x2] T (0, 0))) : w.cell? ⟨B, 0, none⟩ = some x0 ∧ w.cell? ⟨B, 1, none⟩ = some x1 ∧ w.cell? ⟨B, 2, none⟩ = some x2 :=
  ⟨by rw [cell_of_row _ _ _ _ _ _ h]; rfl, by rw [cell_of_row _ _ _ _ _ _ h]; rfl, by rw [cell_of_row _ _ _ _ _ _ h]; rfl⟩
/-- What Compile answers. -/
def CompAns (N : Nat) (l : List Lnk) (x : Wnt) (dn : List Bool) (d : Int) (w : World) (e : Ending) (w' : World) : Prop :=
  ∃ (A : Option Addr) (c : Nat), e = .returned (.tuple #[.slice A (compS N l x dn d).1.length c, .int .i64 (compS N l x dn d).2]) ∧ RSeg w' w'.heap.size A (compS N l x dn d).1.length (compS N l x dn d).1 ∧ Below w.heap.size w w'
theorem comp_not (q N : Nat) (A' : Option Addr) (n c' : Nat) (vD : Value) (vs : List Value) (l : List Lnk) (x : Wnt) (y : WSl) (Ad : Option Addr) (n' cd : Nat) (dn : List Bool) (d : Int) (w : World) (ht : RAt q A' n c' vD vs N l w) (hok : GOk N l) (hw : WArg w x y) (hd : DArg w Ad n' cd dn) (h1 : y.nv ≤ 100) (h2 : y.nn ≤ 100) (h3 : y.nl ≤ 100) (h4 : y.nc ≤ 100) (hc : (costS N l x dn).2 ≠ 0) :
    Calls Try.prog 21 #[.pointer (some ⟨q, 0, none⟩), .agg #[.int .i64 x.frm, .int .i64 x.too, .int .i64 x.bnd, .slice y.av y.nv y.cv, .slice y.an y.nn y.cn, .slice y.al y.nl y.cl, .slice y.ac y.nc y.cc], .slice Ad n' cd, .int .i64 d] w (CompAns N l x dn d w) := by
  have hS := HeldV.start w x y
  have HT := hid (fun W (hh : HeldV w x y W) => ht.on hh.1)
  have HC := hid (fun W (hh : HeldV w x y W) => (refCost_spec (N : Int) A' n c' l x y Ad n' cd dn W (own_garg (ht.on hh.1).lnk ht.len hok) (hw.on hh.1) (hd.on hh.1) h1 h2 h3 h4).mono fun _ _ h => (⟨h.1, hh.next h.2⟩ : _ ∧ HeldV w x y _))
  have HV : Hid (compS N l x dn d = ([], (costS N l x dn).2)) := by show _ = _; unfold compS; rw [if_pos hc]
  obtain ⟨k1, hk1⟩ : ∃ k1, (costS N l x dn).1 = k1 := ⟨_, rfl⟩
  obtain ⟨k2, hk2⟩ : ∃ k2, (costS N l x dn).2 = k2 := ⟨_, rfl⟩
  rw [hk1, hk2] at HC
  rw [hk2] at hc HV
  have t1 : (k2 != 0) = true := bne_iff_ne.2 hc
  have HCu := hid (cutR_any d)
  have hSd := hS.next ((Below.refl _ _).drew)
  have HSd := hid hSd
  obtain ⟨g0, g1, g2⟩ := tbox_cells (HT.out _ hSd).box
  obtain ⟨v0, v1, v2, v3, v4, v5, v6⟩ := box7_cells hSd.2
  clear ht hw hd hok hk1 hk2 hc hS hSd
  go_enter Try.func21, Try.ntmps21
  go_wp2_with (go_at_call 32; (with_reducible refine (HCu.out _).mono ?_); rintro e' w1 ⟨rfl, rfl⟩)
  go_region_law (go_simp; go_at_call 33; (with_reducible refine (HC.out _ HSd.out).mono ?_); rintro e' w3 ⟨rfl, hh3⟩; have HH3 := hid hh3; clear hh3)
  all_goals
    go_wp2_with fail
    go_ret2
    exact ⟨none, 0, by rw [HV.out]; rfl, by rw [HV.out]; exact ⟨rfl, fun h => absurd h (Nat.lt_irrefl 0)⟩, HH3.out.1⟩
end Go.Proofs.Ytkemcgbedapkcaa

/- The reference's Compile: how many segments are left, plainly. -/
namespace Go.Proofs.Ytkemcgbedapkcaa
open Go.RowKit
set_option maxHeartbeats 6400000
set_option maxRecDepth 100000
section
variable (N : Nat) (l : List Lnk) (x : Wnt) (gn : List Bool)
noncomputable def qualS (m : Nat) (p : Int × Int) (s : Sg) : Bool := goB (fun q => decide (leastV N l x gn m q = (m : Int))) (segO N l x gn p s.edge s.too)
/-- All but number i: the ones ahead of it are a round further. -/
def LeftMid (m i : Nat) (sts : List (Int × Int)) (Lf : List Int) : Prop := Lf.length = sts.length ∧ ∀ (j : Nat) (q : Int × Int), sts[j]? = some q → j ≠ i → Lf[j]? = some (if j < i then leastV N l x gn (m + 1) q else leastV N l x gn m q)
/-- Those ahead of number i are a round further. -/
def LeftOk (m i : Nat) (sts : List (Int × Int)) (Lf : List Int) : Prop := Lf.length = sts.length ∧ ∀ (j : Nat) (q : Int × Int), sts[j]? = some q → Lf[j]? = some (if j < i then leastV N l x gn (m + 1) q else leastV N l x gn m q)
def LeftN (m : Nat) (sts : List (Int × Int)) (Lf : List Int) : Prop := Lf.length = sts.length ∧ ∀ (j : Nat) (q : Int × Int), sts[j]? = some q → Lf[j]? = some (leastV N l x gn m q)
def LeftZ (i : Nat) (sts : List (Int × Int)) (Lf : List Int) : Prop := Lf.length = sts.length ∧ ∀ (j : Nat) (q : Int × Int), sts[j]? = some q → j < i → Lf[j]? = some (leastV N l x gn 0 q)
variable {N l x gn}
theorem leastV_same {m : Nat} {q : Int × Int} : leastV N l x gn (m + 1) q = (m : Int) ↔ leastV N l x gn m q = (m : Int) := by
  rw [leastV_eq, leastV_eq]
  constructor
  · intro h
    obtain ⟨_, h2, h3⟩ := leastS_some h
    exact leastS_is (Nat.le_refl _) h2 h3
  · intro h
    exact leastS_up h (Nat.le_succ _)
theorem LeftN.ok {m : Nat} {sts : List (Int × Int)} {Lf : List Int} (h : LeftN N l x gn m sts Lf) : LeftOk N l x gn m 0 sts Lf :=
  ⟨h.1, fun j q hq => by rw [if_neg (Nat.not_lt_zero j)]; exact h.2 j q hq⟩
theorem LeftOk.next {m M : Nat} {sts : List (Int × Int)} {Lf : List Int} (h : LeftOk N l x gn m M sts Lf) (hM : sts.length = M) : LeftN N l x gn (m + 1) sts Lf :=
  ⟨h.1, fun j q hq => by rw [h.2 j q hq, if_pos (by rw [← hM]; exact (List.getElem?_eq_some_iff.1 hq).1)]⟩
theorem LeftOk.mid {m i : Nat} {sts : List (Int × Int)} {Lf : List Int} (h : LeftOk N l x gn m i sts Lf) : LeftMid N l x gn m i sts Lf := ⟨h.1, fun j q hq _ => h.2 j q hq⟩
theorem LeftMid.set {m i : Nat} {sts : List (Int × Int)} {Lf : List Int} (h : LeftMid N l x gn m i sts Lf) (v : Int) : LeftMid N l x gn m i sts (Lf.set i v) :=
  ⟨by rw [List.length_set]; exact h.1, fun j q hq hne => by rw [List.getElem?_set_ne (fun e => hne e.symm)]; exact h.2 j q hq hne⟩
theorem LeftMid.ok {m i : Nat} {sts : List (Int × Int)} {Lf : List Int} {p : Int × Int} (h : LeftMid N l x gn m i sts Lf) (hp : sts[i]? = some p) (hv : Lf[i]? = some (leastV N l x gn (m + 1) p)) : LeftOk N l x gn m (i + 1) sts Lf := by
  refine ⟨h.1, fun j q hq => ?_⟩
  by_cases hj : j = i
  · subst hj
    rw [hp] at hq
    cases hq
    rw [if_pos (Nat.lt_succ_self _)]
    exact hv
  · rw [h.2 j q hq hj]
    by_cases h1 : j < i
    · rw [if_pos h1, if_pos (by omega)]
    · rw [if_neg h1, if_neg (by omega)]
/-- Does segment k lead on? As the rows tell it. -/
theorem qual_row {m i k : Nat} {sts : List (Int × Int)} {Lf : List Int} {row : List Int} {p : Int × Int} {s : Sg} (hm : LeftMid N l x gn m i sts Lf) (hp : sts[i]? = some p) (hi : Lf[i]? = some (leastV N l x gn m p)) (hs : (segsS N l)[k]? = some s) (hr : RowAt N l x gn sts p row k) :
    (row[k]? = some (-1) ∧ qualS N l x gn m p s = false) ∨ ∃ (j : Nat) (v : Int), row[k]? = some (j : Int) ∧ j < sts.length ∧ Lf[j]? = some v ∧ qualS N l x gn m p s = (v == (m : Int)) := by
  obtain ⟨s', hs', h1⟩ := hr
  rw [hs] at hs'
  cases hs'
  rcases h1 with ⟨h1, h2⟩ | ⟨j, q, h1, h2, h3⟩
  · exact .inl ⟨h2, by unfold qualS; rw [h1]; rfl⟩
  · have hq : qualS N l x gn m p s = decide (leastV N l x gn m q = (m : Int)) := by unfold qualS; rw [h1]; rfl
    refine .inr ⟨j, _, h3, (List.getElem?_eq_some_iff.1 h2).1, List.getElem?_eq_getElem (by rw [hm.1]; exact (List.getElem?_eq_some_iff.1 h2).1), ?_⟩
    rw [hq]
    by_cases hj : j = i
    · subst hj
      rw [hp] at h2
      cases h2
      have h5 := List.getElem?_eq_some_iff.1 hi
      obtain ⟨h6, h7⟩ := h5
      rw [h7]
      rw [Bool.eq_iff_iff, decide_eq_true_iff, beq_iff_eq]
    · have h5 := hm.2 j q h2 hj
      obtain ⟨h6, h7⟩ := List.getElem?_eq_some_iff.1 h5
      rw [h7, Bool.eq_iff_iff, decide_eq_true_iff, beq_iff_eq]
      by_cases h8 : j < i
      · rw [if_pos h8]; exact leastV_same.symm
      · rw [if_neg h8]
theorem left_found {m : Nat} {p : Int × Int} {k : Nat} {s : Sg} (hv : leastV N l x gn m p < 0) (hs : (segsS N l)[k]? = some s) (hq : qualS N l x gn m p s = true) : leastV N l x gn (m + 1) p = ((m + 1 : Nat) : Int) := by
  have hq' : goB (fun q => decide (leastV N l x gn m q = (m : Int))) (segO N l x gn p s.edge s.too) = true := hq
  rw [leastV_new hv, if_pos (List.any_eq_true.2 ⟨s, List.mem_of_getElem? hs, hq'⟩)]
theorem left_lost {m : Nat} {p : Int × Int} (hv : leastV N l x gn m p < 0) (h : ∀ (k : Nat) (s : Sg), (segsS N l)[k]? = some s → qualS N l x gn m p s = false) : leastV N l x gn (m + 1) p = leastV N l x gn m p := by
  rw [leastV_new hv, if_neg, leastV_none (leastV_neg.1 hv)]
  intro hany
  obtain ⟨s, hs, hq⟩ := List.any_eq_true.1 hany
  obtain ⟨k, hk⟩ := List.getElem?_of_mem hs
  have : qualS N l x gn m p s = true := hq
  rw [h k s hk] at this
  cases this
theorem LeftZ.set {i : Nat} {sts : List (Int × Int)} {Lf : List Int} (h : LeftZ N l x gn i sts Lf) (v : Int) : LeftZ N l x gn i sts (Lf.set i v) :=
  ⟨by rw [List.length_set]; exact h.1, fun j q hq hlt => by rw [List.getElem?_set_ne (by omega)]; exact h.2 j q hq hlt⟩
theorem LeftZ.ok {i : Nat} {sts : List (Int × Int)} {Lf : List Int} {p : Int × Int} {v : Int} (h : LeftZ N l x gn i sts Lf) (hp : sts[i]? = some p) (hv : Lf[i]? = some v) (he : v = if p = goalS x then 0 else -1) : LeftZ N l x gn (i + 1) sts Lf := by
  refine ⟨h.1, fun j q hq hlt => ?_⟩
  by_cases hj : j = i
  · subst hj
    rw [hp] at hq
    cases hq
    rw [hv, he, leastV_zero]
  · exact h.2 j q hq (by omega)
theorem LeftZ.all {M : Nat} {sts : List (Int × Int)} {Lf : List Int} (h : LeftZ N l x gn M sts Lf) (hM : sts.length = M) : LeftN N l x gn 0 sts Lf :=
  ⟨h.1, fun j q hq => h.2 j q hq (by rw [← hM]; exact (List.getElem?_eq_some_iff.1 hq).1)⟩
/-- A step of the path: the first segment that leads on. -/
theorem path_step {d m : Nat} {p : Int × Int} (h : leastV N l x gn d p = ((m + 1 : Nat) : Int)) : ∃ (k : Nat) (s : Sg) (q : Int × Int), (segsS N l)[k]? = some s ∧ segO N l x gn p s.edge s.too = some q ∧ leastV N l x gn d q = (m : Int) ∧ pathS N l x gn (m + 1) p = s :: pathS N l x gn m q ∧ ∀ (k' : Nat) (s' : Sg), k' < k → (segsS N l)[k']? = some s' → goB (fun q => decide (leastV N l x gn d q = (m : Int))) (segO N l x gn p s'.edge s'.too) = false := by
  obtain ⟨s, q, hf, hq, hl, hp⟩ := path_first h
  rw [List.find?_eq_some_iff_append] at hf
  obtain ⟨_, L1, L2, he, ha⟩ := hf
  refine ⟨L1.length, s, q, by rw [he, List.getElem?_append_right (Nat.le_refl _), Nat.sub_self]; rfl, hq, hl, hp, fun k' s' hk hs' => ?_⟩
  rw [he, List.getElem?_append_left hk] at hs'
  simpa using ha s' (List.mem_of_getElem? hs')
/-- What the rows tell of a step. -/
theorem step_row {d m k : Nat} {sts : List (Int × Int)} {Lf row : List Int} {p : Int × Int} {s : Sg} (hL : LeftN N l x gn d sts Lf) (hs : (segsS N l)[k]? = some s) (hr : RowAt N l x gn sts p row k) :
    (row[k]? = some (-1) ∧ goB (fun q => decide (leastV N l x gn d q = (m : Int))) (segO N l x gn p s.edge s.too) = false) ∨ ∃ (j : Nat) (v : Int) (q : Int × Int), row[k]? = some (j : Int) ∧ j < sts.length ∧ Lf[j]? = some v ∧ sts[j]? = some q ∧ segO N l x gn p s.edge s.too = some q ∧ goB (fun q => decide (leastV N l x gn d q = (m : Int))) (segO N l x gn p s.edge s.too) = (v == (m : Int)) := by
  obtain ⟨s', hs', h1⟩ := hr
  rw [hs] at hs'
  cases hs'
  rcases h1 with ⟨h1, h2⟩ | ⟨j, q, h1, h2, h3⟩
  · exact .inl ⟨h2, by rw [h1]; rfl⟩
  · refine .inr ⟨j, leastV N l x gn d q, q, h3, (List.getElem?_eq_some_iff.1 h2).1, hL.2 j q h2, h2, h1, ?_⟩
    rw [h1]
    show decide _ = _
    rw [Bool.eq_iff_iff, decide_eq_true_iff, beq_iff_eq]
end
end Go.Proofs.Ytkemcgbedapkcaa
