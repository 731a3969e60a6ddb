/- Merged: CqC CqD CqE. -/
import Derived.Test.YtkemcgbedapkcaaG10
import Derived.Test.YtkemcgbedapkcaaG06
import Derived.Test.YtkemcgbedapkcaaG07
import Derived.Test.YtkemcgbedapkcaaG09
import Derived.StillTailTactics
import Derived.Shelf.RegionOpenPlain
import Derived.BigRegion
import Derived.Deep.RegionHeld3
/- The reference's (*reach).from: what lies behind it; what it has known. -/
namespace Go.Proofs.Ytkemcgbedapkcaa
open Go.RowKit
set_option maxHeartbeats 6400000
set_option maxRecDepth 100000
/-- What is known of each state: the rows of numbers (blocks kb), of states (blocks eb). -/
structure RcM (w0 : World) (base B KB EB : Nat) (kb eb : Nat → Nat) (cK cE po pt : Nat) (bt : Int) (N m : Nat) (K : Nat → Nat → Int) (D : Nat → Nat → Int × Int) (wx : World) : Prop where
  bel : Below w0.heap.size w0 wx
  box : wx.heap[B]? = some (.cells #[.pointer (some ⟨po, 0, none⟩), .pointer (some ⟨pt, 0, none⟩), .int .i64 bt, .slice (some ⟨KB, 0, none⟩) N cK, .slice (some ⟨EB, 0, none⟩) N cE] 123 (0, 0))
  krw : ∃ cs, wx.heap[KB]? = some (.cells cs 40 (0, 0)) ∧ ∀ v, v < N → cs[v]? = some (.slice (some ⟨kb v, 0, none⟩) m m)
  erw : ∃ cs, wx.heap[EB]? = some (.cells cs 94 (0, 0)) ∧ ∀ v, v < N → cs[v]? = some (.slice (some ⟨eb v, 0, none⟩) m m)
  kbk : ∀ v, v < N → ∃ cs, wx.heap[kb v]? = some (.cells cs 3 (0, 0)) ∧ ∀ k, k < m → cs[k]? = some (.int .i64 (K v k))
  ebk : ∀ v, v < N → ∃ cs, wx.heap[eb v]? = some (.cells cs 92 (0, 0)) ∧ ∀ k, k < m → cs[k * 2]? = some (.int .i64 (D v k).1) ∧ cs[k * 2 + 1]? = some (.int .i64 (D v k).2)
  kin : ∀ v u, v < N → u < N → kb v = kb u → v = u
  ein : ∀ v u, v < N → u < N → eb v = eb u → v = u
  lt : B < base ∧ KB < base ∧ EB < base ∧ ∀ v, v < N → kb v < base ∧ eb v < base
  old : w0.heap.size ≤ B ∧ w0.heap.size ≤ KB ∧ w0.heap.size ≤ EB ∧ ∀ v, v < N → w0.heap.size ≤ kb v ∧ w0.heap.size ≤ eb v
  sz : base ≤ wx.heap.size
section
variable {w0 : World} {base B KB EB : Nat} {kb eb : Nat → Nat} {cK cE po pt : Nat} {bt : Int} {N m : Nat} {K : Nat → Nat → Int} {D : Nat → Nat → Int × Int} {wx wy : World}
theorem RcM.on (h : RcM w0 base B KB EB kb eb cK cE po pt bt N m K D wx) (hb : Below wx.heap.size wx wy) : RcM w0 base B KB EB kb eb cK cE po pt bt N m K D wy := by
  have key : ∀ g o, wx.heap[g]? = some o → wy.heap[g]? = some o := fun g o hg => (hb.block g (blk_lt hg)).trans hg
  refine ⟨h.bel.trans (hb.mono h.bel.size), key _ _ h.box, ?_, ?_, fun v hv => ?_, fun v hv => ?_, h.kin, h.ein, h.lt, h.old, Nat.le_trans h.sz hb.size⟩
  · obtain ⟨cs, h1, h2⟩ := h.krw; exact ⟨cs, key _ _ h1, h2⟩
  · obtain ⟨cs, h1, h2⟩ := h.erw; exact ⟨cs, key _ _ h1, h2⟩
  · obtain ⟨cs, h1, h2⟩ := h.kbk v hv; exact ⟨cs, key _ _ h1, h2⟩
  · obtain ⟨cs, h1, h2⟩ := h.ebk v hv; exact ⟨cs, key _ _ h1, h2⟩
/-- A store into a block from base on. -/
theorem RcM.far (h : RcM w0 base B KB EB kb eb cK cE po pt bt N m K D wx) {g j : Nat} (hg : base ≤ g) (u : Value) : RcM w0 base B KB EB kb eb cK cE po pt bt N m K D (wx.setCell ⟨g, j, none⟩ u) := by
  have key : ∀ g' o, g' < base → wx.heap[g']? = some o → (wx.setCell ⟨g, j, none⟩ u).heap[g']? = some o := fun g' o hg' ho => (heap_setCell_other wx _ g' u (by show g' ≠ g; omega)).trans ho
  obtain ⟨l1, l2, l3, l4⟩ := h.lt
  refine ⟨h.bel.setCell (by show w0.heap.size ≤ g; have := h.old.1; omega) _, key _ _ l1 h.box, ?_, ?_, fun v hv => ?_, fun v hv => ?_, h.kin, h.ein, h.lt, h.old, by simpa using h.sz⟩
  · obtain ⟨cs, h1, h2⟩ := h.krw; exact ⟨cs, key _ _ l2 h1, h2⟩
  · obtain ⟨cs, h1, h2⟩ := h.erw; exact ⟨cs, key _ _ l3 h1, h2⟩
  · obtain ⟨cs, h1, h2⟩ := h.kbk v hv; exact ⟨cs, key _ _ (l4 v hv).1 h1, h2⟩
  · obtain ⟨cs, h1, h2⟩ := h.ebk v hv; exact ⟨cs, key _ _ (l4 v hv).2 h1, h2⟩
def updM {α : Type} (K : Nat → Nat → α) (v k : Nat) (x : α) : Nat → Nat → α := fun v' k' => if v' = v ∧ k' = k then x else K v' k'
theorem RcM.setK (h : RcM w0 base B KB EB kb eb cK cE po pt bt N m K D wx) {v k : Nat} (hv : v < N) (z : Int) : RcM w0 base B KB EB kb eb cK cE po pt bt N m (updM K v k z) D (wx.setCell ⟨kb v, k, none⟩ (.int .i64 z)) := by
  obtain ⟨cs0, g1, g2⟩ := h.kbk v hv
  have key : ∀ g' o, g' ≠ kb v → wx.heap[g']? = some o → (wx.setCell ⟨kb v, k, none⟩ (.int .i64 z)).heap[g']? = some o := fun g' o hg' ho => (heap_setCell_other wx _ g' _ hg').trans ho
  have ne : ∀ g' cs t, t ≠ 3 → wx.heap[g']? = some (.cells cs t (0, 0)) → g' ≠ kb v := fun g' cs t ht ho e => by
    subst e
    rw [g1] at ho
    simp at ho
    exact ht ho.2.symm
  refine ⟨h.bel.setCell (by show w0.heap.size ≤ kb v; exact (h.old.2.2.2 v hv).1) _, key _ _ (ne _ _ _ (by decide) h.box) h.box, ?_, ?_, fun u hu => ?_, fun u hu => ?_, h.kin, h.ein, h.lt, h.old, by simpa using h.sz⟩
  · obtain ⟨cs, h1, h2⟩ := h.krw; exact ⟨cs, key _ _ (ne _ _ _ (by decide) h1) h1, h2⟩
  · obtain ⟨cs, h1, h2⟩ := h.erw; exact ⟨cs, key _ _ (ne _ _ _ (by decide) h1) h1, h2⟩
  · by_cases e : u = v
    · subst e
      refine ⟨_, heap_setCell_same wx (kb u) k _ _ _ g1, fun j hj => ?_⟩
      have hjs : j < cs0.size := (Array.getElem?_eq_some_iff.1 (g2 j hj)).1
      rw [Array.getElem?_setIfInBounds]
      unfold updM
      by_cases hjk : k = j
      · subst hjk
        rw [if_pos rfl, if_pos hjs, if_pos ⟨rfl, rfl⟩]
      · rw [if_neg hjk, if_neg (fun c => hjk c.2.symm)]
        exact g2 j hj
    · obtain ⟨cs, h1, h2⟩ := h.kbk u hu
      refine ⟨cs, key _ _ (fun c => e (h.kin u v hu hv c)) h1, fun j hj => ?_⟩
      unfold updM
      rw [if_neg (fun c => e c.1)]
      exact h2 j hj
  · obtain ⟨cs, h1, h2⟩ := h.ebk u hu; exact ⟨cs, key _ _ (ne _ _ _ (by decide) h1) h1, h2⟩
theorem RcM.setD (h : RcM w0 base B KB EB kb eb cK cE po pt bt N m K D wx) {v k : Nat} (hv : v < N) (a b : Int) : RcM w0 base B KB EB kb eb cK cE po pt bt N m K (updM D v k (a, b)) ((wx.setCell ⟨eb v, k * 2, none⟩ (.int .i64 a)).setCell ⟨eb v, k * 2 + 1, none⟩ (.int .i64 b)) := by
  obtain ⟨cs0, g1, g2⟩ := h.ebk v hv
  have key : ∀ g' o, g' ≠ eb v → wx.heap[g']? = some o → ((wx.setCell ⟨eb v, k * 2, none⟩ (.int .i64 a)).setCell ⟨eb v, k * 2 + 1, none⟩ (.int .i64 b)).heap[g']? = some o := fun g' o hg' ho => ((heap_setCell_other _ _ g' _ hg').trans (heap_setCell_other wx _ g' _ hg')).trans ho
  have ne : ∀ g' cs t, t ≠ 92 → wx.heap[g']? = some (.cells cs t (0, 0)) → g' ≠ eb v := fun g' cs t ht ho e => by
    subst e
    rw [g1] at ho
    simp at ho
    exact ht ho.2.symm
  have hS := heap_setCell_same _ (eb v) (k * 2 + 1) _ _ (.int .i64 b) (heap_setCell_same wx (eb v) (k * 2) _ _ (.int .i64 a) g1)
  refine ⟨(h.bel.setCell (by show w0.heap.size ≤ eb v; exact (h.old.2.2.2 v hv).2) _).setCell (by show w0.heap.size ≤ eb v; exact (h.old.2.2.2 v hv).2) _, key _ _ (ne _ _ _ (by decide) h.box) h.box, ?_, ?_, fun u hu => ?_, fun u hu => ?_, h.kin, h.ein, h.lt, h.old, by simpa using h.sz⟩
  · obtain ⟨cs, h1, h2⟩ := h.krw; exact ⟨cs, key _ _ (ne _ _ _ (by decide) h1) h1, h2⟩
  · obtain ⟨cs, h1, h2⟩ := h.erw; exact ⟨cs, key _ _ (ne _ _ _ (by decide) h1) h1, h2⟩
  · obtain ⟨cs, h1, h2⟩ := h.kbk u hu; exact ⟨cs, key _ _ (ne _ _ _ (by decide) h1) h1, h2⟩
  · by_cases e : u = v
    · subst e
      refine ⟨_, hS, fun j hj => ?_⟩
      obtain ⟨p1, p2⟩ := g2 j hj
      have q1 : j * 2 < cs0.size := (Array.getElem?_eq_some_iff.1 p1).1
      have q2 : j * 2 + 1 < cs0.size := (Array.getElem?_eq_some_iff.1 p2).1
      simp only [Array.getElem?_setIfInBounds, Array.size_setIfInBounds]
      by_cases hjk : k = j
      · subst hjk
        have hU : updM D u k (a, b) u k = (a, b) := by unfold updM; rw [if_pos ⟨rfl, rfl⟩]
        rw [hU, if_neg (by omega), if_pos rfl, if_pos q1, if_pos rfl, if_pos q2]
        exact ⟨rfl, rfl⟩
      · have hU : updM D u k (a, b) u j = D u j := by unfold updM; rw [if_neg (fun c => hjk c.2.symm)]
        rw [hU, if_neg (by omega), if_neg (by omega), if_neg (by omega), if_neg (by omega)]
        exact ⟨p1, p2⟩
    · obtain ⟨cs, h1, h2⟩ := h.ebk u hu
      refine ⟨cs, key _ _ (fun c => e (h.ein u v hu hv c)) h1, fun j hj => ?_⟩
      unfold updM
      rw [if_neg (fun c => e c.1)]
      exact h2 j hj
/-- The cells that a call looks at. -/
theorem RcM.cells (h : RcM w0 base B KB EB kb eb cK cE po pt bt N m K D wx) {v k : Nat} (hv : v < N) (hk : k < m) :
    (wx.cell? ⟨B, 0, none⟩ = some (.pointer (some ⟨po, 0, none⟩)) ∧ wx.cell? ⟨B, 1, none⟩ = some (.pointer (some ⟨pt, 0, none⟩)) ∧ wx.cell? ⟨B, 2, none⟩ = some (.int .i64 bt) ∧ wx.cell? ⟨B, 3, none⟩ = some (.slice (some ⟨KB, 0, none⟩) N cK) ∧ wx.cell? ⟨B, 4, none⟩ = some (.slice (some ⟨EB, 0, none⟩) N cE)) ∧
    wx.cell? ⟨KB, v, none⟩ = some (.slice (some ⟨kb v, 0, none⟩) m m) ∧ wx.cell? ⟨EB, v, none⟩ = some (.slice (some ⟨eb v, 0, none⟩) m m) ∧
    wx.cell? ⟨kb v, k, none⟩ = some (.int .i64 (K v k)) ∧ wx.cell? ⟨eb v, k * 2, none⟩ = some (.int .i64 (D v k).1) ∧ wx.cell? ⟨eb v, k * 2 + 1, none⟩ = some (.int .i64 (D v k).2) ∧
    (∀ j, wx.frozen? ⟨kb v, j, none⟩ = false) ∧ (∀ j, wx.frozen? ⟨eb v, j, none⟩ = false) := by
  obtain ⟨b0, b1, b2, b3, b4, _⟩ := box5_cells h.box
  obtain ⟨c1, k1, k2⟩ := h.krw
  obtain ⟨c2, e1, e2⟩ := h.erw
  obtain ⟨c3, k3, k4⟩ := h.kbk v hv
  obtain ⟨c4, e3, e4⟩ := h.ebk v hv
  refine ⟨⟨b0, b1, b2, b3, b4⟩, ?_, ?_, ?_, ?_, ?_, fun j => frozen_of_row _ _ _ _ _ k3, fun j => frozen_of_row _ _ _ _ _ e3⟩
  · rw [cell_of_row _ _ _ _ _ _ k1]; exact k2 v hv
  · rw [cell_of_row _ _ _ _ _ _ e1]; exact e2 v hv
  · rw [cell_of_row _ _ _ _ _ _ k3]; exact k4 k hk
  · rw [cell_of_row _ _ _ _ _ _ e3]; exact (e4 k hk).1
  · rw [cell_of_row _ _ _ _ _ _ e3]; exact (e4 k hk).2
end
def GoodM (N m : Nat) (R : Int × Int → Option (Int × Int)) (K : Nat → Nat → Int) (D : Nat → Nat → Int × Int) : Prop :=
  ∀ v k, v < N → k < m → K v k = 0 ∨ (K v k = 1 ∧ R ((v : Int), (k : Int)) = some (D v k)) ∨ (K v k = 2 ∧ R ((v : Int), (k : Int)) = none)
/-- Blocks from base on stand. -/
def Kpb (base : Nat) (wx wy : World) : Prop := wx.heap.size ≤ wy.heap.size ∧ ∀ g, base ≤ g → g < wx.heap.size → wy.heap[g]? = wx.heap[g]?
theorem Kpb.refl (base : Nat) (wx : World) : Kpb base wx wx := ⟨Nat.le_refl _, fun _ _ _ => rfl⟩
theorem Kpb.trans {base : Nat} {a b c : World} (h : Kpb base a b) (h' : Kpb base b c) : Kpb base a c := ⟨Nat.le_trans h.1 h'.1, fun g h1 h2 => (h'.2 g h1 (Nat.lt_of_lt_of_le h2 h.1)).trans (h.2 g h1 h2)⟩
theorem Kpb.of {base : Nat} {a b : World} (h : Below a.heap.size a b) : Kpb base a b := ⟨h.size, fun g _ h2 => h.block g h2⟩
theorem Kpb.set {base : Nat} {a b : World} (h : Kpb base a b) {g j : Nat} (hg : g < base ∨ a.heap.size ≤ g) (u : Value) : Kpb base a (b.setCell ⟨g, j, none⟩ u) :=
  ⟨by simpa using h.1, fun g' h1 h2 => (heap_setCell_other b _ g' u (by show g' ≠ g; omega)).trans (h.2 g' h1 h2)⟩
end Go.Proofs.Ytkemcgbedapkcaa

/- The reference's (*reach).from: there already; known already. -/
namespace Go.Proofs.Ytkemcgbedapkcaa
open Go.RowKit
set_option maxHeartbeats 6400000
set_option maxRecDepth 100000
/-- What a call of from answers. -/
def FromAns (w0 : World) (base B KB EB : Nat) (kb eb : Nat → Nat) (cK cE po pt : Nat) (bt : Int) (N m : Nat) (R : Int × Int → Option (Int × Int)) (v k : Int) (wx : World) (e : Ending) (w' : World) : Prop :=
  ∃ (K' : Nat → Nat → Int) (D' : Nat → Nat → Int × Int) (a b : Int) (ok : Bool), e = .returned (.tuple #[.agg #[.int .i64 a, .int .i64 b], .bool ok]) ∧ R (v, k) = (if ok = true then some (a, b) else none) ∧
    RcM w0 base B KB EB kb eb cK cE po pt bt N m K' D' w' ∧ GoodM N m R K' D' ∧ Kpb base wx w'
section
variable {w0 : World} {base B KB EB : Nat} {kb eb : Nat → Nat} {cK cE po pt : Nat} {bt : Int} {N m : Nat} {K : Nat → Nat → Int} {D : Nat → Nat → Int × Int} {wx : World} {R : Int × Int → Option (Int × Int)}
/-- The two boxes of a call. -/
structure FBx (w : World) (base : Nat) (v k a b : Int) (wx : World) : Prop where
  at_ : wx.heap[w.heap.size]? = some (.cells #[.int .i64 v, .int .i64 k] 92 (0, 0))
  res : wx.heap[w.heap.size + 1]? = some (.cells #[.int .i64 a, .int .i64 b] 92 (0, 0))
  kp : Kpb base w wx
theorem fbx_start (w : World) (v k : Int) : FBx w base v k 0 0 ((w.alloc (.cells #[.int .i64 v, .int .i64 k] 92)).alloc (.cells #[.int .i64 0, .int .i64 0] 92)) := by
  have h1 : (w.alloc (.cells #[.int .i64 v, .int .i64 k] 92)).heap[w.heap.size]? = _ := heap_alloc_new w _
  refine ⟨box_below h1 (Below.alloc (Below.refl _ _) (Nat.le_refl _) _) (blk_lt h1), ?_, Kpb.of ((Below.refl _ _).alloc (Nat.le_refl _) _ |>.alloc (by simp) _)⟩
  have := heap_alloc_new (w.alloc (.cells #[.int .i64 v, .int .i64 k] 92)) (.cells #[.int .i64 0, .int .i64 0] 92)
  rw [show (w.alloc (.cells #[.int .i64 v, .int .i64 k] 92)).heap.size = w.heap.size + 1 by simp] at this
  exact this
theorem FBx.on {w : World} {v k a b : Int} {wy : World} (h : FBx w base v k a b wx) (hb : Below wx.heap.size wx wy) : FBx w base v k a b wy :=
  ⟨(hb.block _ (blk_lt h.at_)).trans h.at_, (hb.block _ (blk_lt h.res)).trans h.res, h.kp.trans (Kpb.of hb)⟩
theorem FBx.kpb {w : World} {v k a b : Int} {wy : World} (h : FBx w base v k a b wx) (hw : base ≤ w.heap.size) (hb : Kpb base wx wy) : FBx w base v k a b wy :=
  ⟨(hb.2 _ hw (blk_lt h.at_)).trans h.at_, (hb.2 _ (by omega) (blk_lt h.res)).trans h.res, h.kp.trans hb⟩
theorem FBx.put {w : World} {v k a b : Int} (h : FBx w base v k a b wx) (a' b' : Int) : FBx w base v k a' b' ((wx.setCell ⟨w.heap.size + 1, 0, none⟩ (.int .i64 a')).setCell ⟨w.heap.size + 1, 1, none⟩ (.int .i64 b')) := by
  have h1 := heap_setCell_same wx (w.heap.size + 1) 0 _ _ (.int .i64 a') h.res
  have h2 := heap_setCell_same _ (w.heap.size + 1) 1 _ _ (.int .i64 b') h1
  refine ⟨?_, h2, (h.kp.set (Or.inr (by omega)) _).set (Or.inr (by omega)) _⟩
  exact ((heap_setCell_other _ _ _ _ (by show w.heap.size ≠ w.heap.size + 1; omega)).trans (heap_setCell_other wx _ _ _ (by show w.heap.size ≠ w.heap.size + 1; omega))).trans h.at_
theorem FBx.cells {w : World} {v k a b : Int} (h : FBx w base v k a b wx) : wx.cell? ⟨w.heap.size, 0, none⟩ = some (.int .i64 v) ∧ wx.cell? ⟨w.heap.size, 1, none⟩ = some (.int .i64 k) ∧ (∀ j, wx.frozen? ⟨w.heap.size + 1, j, none⟩ = false) ∧ wx.cell? ⟨w.heap.size + 1, 0, none⟩ = some (.int .i64 a) ∧ wx.cell? ⟨w.heap.size + 1, 1, none⟩ = some (.int .i64 b) :=
  ⟨by rw [cell_of_row _ _ _ _ _ _ h.at_]; rfl, by rw [cell_of_row _ _ _ _ _ _ h.at_]; rfl, fun j => frozen_of_row _ _ _ _ _ h.res, by rw [cell_of_row _ _ _ _ _ _ h.res]; rfl, by rw [cell_of_row _ _ _ _ _ _ h.res]; rfl⟩
theorem from_here (v k : Nat) (w : World) (h : RcM w0 base B KB EB kb eb cK cE po pt bt N m K D w) (hg : GoodM N m R K D) (hv : v < N) (hk : k < m) (hvb : (v : Int) = bt) (hR : R ((v : Int), (k : Int)) = some ((v : Int), (k : Int))) :
    Calls Try.prog 57 #[.pointer (some ⟨B, 0, none⟩), .agg #[.int .i64 v, .int .i64 k]] w (FromAns w0 base B KB EB kb eb cK cE po pt bt N m R v k w) := by
  have F0 := fbx_start (base := base) w v k
  obtain ⟨w2, hw2⟩ : ∃ w2, (w.alloc (.cells #[.int .i64 v, .int .i64 k] 92)).alloc (.cells #[.int .i64 0, .int .i64 0] 92) = w2 := ⟨_, rfl⟩
  have hb2 : Below w.heap.size w w2 := by rw [← hw2]; exact ((Below.refl _ _).alloc (Nat.le_refl _) _).alloc (by simp) _
  rw [hw2] at F0
  have M2 := h.on hb2
  obtain ⟨⟨b0, b1, b2, b3, b4⟩, _⟩ := M2.cells hv hk
  obtain ⟨c0, c1, c2, _⟩ := F0.cells
  have t1 : ((v : Int) == bt) = true := by simpa using hvb
  have HM := hid (And.intro h.sz (And.intro M2 (And.intro hg (And.intro F0 hR))))
  clear h hg F0 M2 hR hb2 hvb
  go_enter Try.func57, Try.ntmps57
  go_upto_region 1 with fail
  try simp only [hw2]
  clear hw2
  go_big_quiet (fail)
  go_wp2_with fail
  obtain ⟨s1, M, hgd, F, hR⟩ := HM
  have M3 := M.on (Below.drewN' w2 nq)
  have F3 := (F.on (Below.drewN' w2 nq)).put v k
  refine bodyPost_ret (results_cellrow_tmp (p := 4) (u := 5) (fn := Try.f57) rfl _ _ _ _ _ _ _ rfl F3.res Try.underlying92 rfl (by kernel_rfl)) rfl ?_
  exact ⟨K, D, v, k, true, rfl, hR, (M3.far (by omega) _).far (by omega) _, hgd, F3.kp⟩
theorem from_kept (v k : Nat) (w : World) (h : RcM w0 base B KB EB kb eb cK cE po pt bt N m K D w) (hg : GoodM N m R K D) (hv : v < N) (hk : k < m) (hvb : (v : Int) ≠ bt) (hK : K v k ≠ 0) :
    Calls Try.prog 57 #[.pointer (some ⟨B, 0, none⟩), .agg #[.int .i64 v, .int .i64 k]] w (FromAns w0 base B KB EB kb eb cK cE po pt bt N m R v k w) := by
  have F0 := fbx_start (base := base) w v k
  obtain ⟨w2, hw2⟩ : ∃ w2, (w.alloc (.cells #[.int .i64 v, .int .i64 k] 92)).alloc (.cells #[.int .i64 0, .int .i64 0] 92) = w2 := ⟨_, rfl⟩
  have hb2 : Below w.heap.size w w2 := by rw [← hw2]; exact ((Below.refl _ _).alloc (Nat.le_refl _) _).alloc (by simp) _
  rw [hw2] at F0
  have M2 := h.on hb2
  obtain ⟨⟨b0, b1, b2, b3, b4⟩, _⟩ := M2.cells hv hk
  obtain ⟨c0, c1, c2, _⟩ := F0.cells
  have t1 : ((v : Int) == bt) = false := by simpa using hvb
  obtain ⟨z, hz⟩ : ∃ z, K v k = z := ⟨_, rfl⟩
  obtain ⟨da, hda⟩ : ∃ a, (D v k).1 = a := ⟨_, rfl⟩
  obtain ⟨db, hdb⟩ : ∃ a, (D v k).2 = a := ⟨_, rfl⟩
  have hzz : (z = 1 ∧ R ((v : Int), (k : Int)) = some (da, db)) ∨ (z = 2 ∧ R ((v : Int), (k : Int)) = none) := by
    rcases hg v k hv hk with h0 | ⟨h1, h2⟩ | ⟨h1, h2⟩
    · exact (hK h0).elim
    · exact Or.inl ⟨hz ▸ h1, by rw [h2, ← hda, ← hdb]⟩
    · exact Or.inr ⟨hz ▸ h1, h2⟩
  have t2 : decide (0 < z) = true := by rcases hzz with ⟨rfl, _⟩ | ⟨rfl, _⟩ <;> rfl
  have hR : R ((v : Int), (k : Int)) = if (z == 1) = true then some (da, db) else none := by rcases hzz with ⟨rfl, h2⟩ | ⟨rfl, h2⟩ <;> rw [h2] <;> rfl
  obtain ⟨zb, hzb⟩ : ∃ b, (z == 1) = b := ⟨_, rfl⟩
  rw [hzb] at hR
  have vN : (v : Int) < (N : Int) := by omega
  have kM : (k : Int) < (m : Int) := by omega
  have HM := hid (And.intro h.sz (And.intro M2 (And.intro hg (And.intro F0 hR))))
  have HV := hid (And.intro (And.intro hv hk) (And.intro hz (And.intro hda hdb)))
  clear h hg F0 M2 hR hb2 hvb hzz hK hz hda hdb
  go_enter Try.func57, Try.ntmps57
  go_upto_region 1 with fail
  try simp only [hw2]
  clear hw2
  go_big_quiet (fail)
  go_upto_region 3 with fail
  have M3 := HM.out.2.1.on (Below.drewN' w2 nq)
  have F3 := HM.out.2.2.2.1.on (Below.drewN' w2 nq)
  obtain ⟨w3, hw3⟩ : ∃ w3, w2.drewN nq = w3 := ⟨_, rfl⟩
  simp only [hw3]
  rw [hw3] at M3 F3
  obtain ⟨⟨x0, x1, x2, x3, x4⟩, x5, x6, x7, x8, x9, x10, x11⟩ := M3.cells HV.out.1.1 HV.out.1.2
  obtain ⟨y0, y1, y2, _⟩ := F3.cells
  rw [HV.out.2.1] at x7
  have HM3 := hid (And.intro M3 F3)
  clear b0 b1 b2 b3 b4 c0 c1 c2 hw3 M3 F3 nq
  go_big_quiet (fail)
  go_upto_region 4 with fail
  have M4 := HM3.out.1.on (Below.drewN' w3 nq)
  have F4 := HM3.out.2.on (Below.drewN' w3 nq)
  obtain ⟨w4, hw4⟩ : ∃ w4, w3.drewN nq = w4 := ⟨_, rfl⟩
  simp only [hw4]
  rw [hw4] at M4 F4
  clear x0 x1 x2 x3 x4 x5 x6 x7 x8 x9 x10 x11 y0 y1 y2 hw4 nq
  obtain ⟨⟨x0, x1, x2, x3, x4⟩, x5, x6, x7, x8, x9, x10, x11⟩ := M4.cells HV.out.1.1 HV.out.1.2
  obtain ⟨y0, y1, y2, y3, y4⟩ := F4.cells
  rw [HV.out.2.1] at x7
  rw [HV.out.2.2.1] at x8
  rw [HV.out.2.2.2] at x9
  have HM4 := hid (And.intro M4 F4)
  have M6 := (M4.far (g := w.heap.size + 1) (j := 0) (by have := HM.out.1; omega) (.int .i64 da)).far (g := w.heap.size + 1) (j := 1) (by have := HM.out.1; omega) (.int .i64 db)
  have F6 := F4.put da db
  obtain ⟨⟨p0, p1, p2, p3, p4⟩, p5, p6, p7, p8, p9, p10, p11⟩ := M6.cells HV.out.1.1 HV.out.1.2
  obtain ⟨r0, r1, r2, r3, r4⟩ := F6.cells
  rw [HV.out.2.1] at p7
  rw [HV.out.2.2.1] at p8
  rw [HV.out.2.2.2] at p9
  clear M4 F4 M6 F6
  have mixed : Try.prog.follows .mixedOrders = true := by kernel_rfl
  have f0 := y2 0
  have f1 := y2 1
  go_region_held3 (fun W => W.cell? ⟨w.heap.size, 0, none⟩ = some (.int .i64 (v : Int)) ∧ W.cell? ⟨w.heap.size, 1, none⟩ = some (.int .i64 (k : Int)) ∧ W.cell? ⟨B, 3, none⟩ = some (.slice (some ⟨KB, 0, none⟩) N cK) ∧ W.cell? ⟨B, 4, none⟩ = some (.slice (some ⟨EB, 0, none⟩) N cE) ∧ W.cell? ⟨KB, v, none⟩ = some (.slice (some ⟨kb v, 0, none⟩) m m) ∧ W.cell? ⟨EB, v, none⟩ = some (.slice (some ⟨eb v, 0, none⟩) m m) ∧ W.cell? ⟨kb v, k, none⟩ = some (.int .i64 z) ∧ W.cell? ⟨eb v, k * 2, none⟩ = some (.int .i64 da) ∧ W.cell? ⟨eb v, k * 2 + 1, none⟩ = some (.int .i64 db))
    (first | exact ⟨y0, y1, x3, x4, x5, x6, x7, x8, x9⟩ | exact ⟨r0, r1, p3, p4, p5, p6, p7, p8, p9⟩) (fail)
  all_goals go_wp2_with fail
  obtain ⟨s1, _, hgd, _, hR⟩ := HM
  have M5 := HM4.out.1.on (Below.drewN' w4 1)
  have F6 := (HM4.out.2.on (Below.drewN' w4 1)).put da db
  refine bodyPost_ret (results_cellrow_tmp (p := 4) (u := 5) (fn := Try.f57) rfl _ _ _ _ _ _ _ rfl F6.res Try.underlying92 rfl (by kernel_rfl)) rfl ?_
  exact ⟨K, D, da, db, zb, rfl, hR, (M5.far (by omega) _).far (by omega) _, hgd, F6.kp⟩
end
end Go.Proofs.Ytkemcgbedapkcaa

/- The reference's Next as a row of its own; what a round of (*reach).from keeps. -/
namespace Go.Proofs.Ytkemcgbedapkcaa
open Go.RowKit
set_option maxHeartbeats 6400000
set_option maxRecDepth 100000
theorem refTNext_own (BT : Nat) (A' : Option Addr) (n c' : Nat) (vD : Value) (vs : List Value) (N : Nat) (l : List Lnk) (a b : Int) (w : World) (h : RAt BT A' n c' vD vs N l w) (hok : GOk N l) (hia : In64 a) :
    Calls Try.prog 15 #[.pointer (some ⟨BT, 0, none⟩), .int .i64 a, .int .i64 b] w (IntAns (nextT N l a b) w) := by
  obtain ⟨c0, c1, c2, _⟩ := box3_cells h.box
  have HNa := hid (node_any (N : Int) A' n c' a w)
  have HNb := hid (fun w' => node_any (N : Int) A' n c' b w')
  rw [node_b] at HNa
  simp only [node_b] at HNb
  have HKp := hid (fun (w' : World) (hb : Below w.heap.size w w') => box3_cells (h.on hb).box)
  by_cases ha : 0 ≤ a ∧ a < N
  · rw [decide_eq_true ha] at HNa
    by_cases hb : 0 ≤ b ∧ b < N
    · simp only [decide_eq_true hb] at HNb
      obtain ⟨B0, rfl⟩ := Int.eq_ofNat_of_zero_le hb.1
      have hB0 : B0 < N := by omega
      have Q : nextT N l a (B0 : Int) = nextS (N : Int) l [] (distS N l [] B0) a := by unfold nextT; rw [if_pos hb, Int.toNat_natCast]
      rw [Q]
      obtain ⟨va, hva⟩ : ∃ va, vs[B0]? = some va := ⟨vs[B0]'(by have := h.own.1; omega), List.getElem?_eq_getElem _⟩
      obtain ⟨g, cap, rfl, hg, cg⟩ := own_row_at h.own hva
      have hrow := h.rows B0 va hva
      have hdl := (dist_ok (dn := []) hok hB0).len
      obtain ⟨Aa, ca, rfl, _, hr⟩ := own_ints hrow hdl
      have HX := hid (fun (w' : World) (hb : Below w.heap.size w w') => refNext_spec (N : Int) A' n c' l none 0 0 [] Aa N ca (distS N l [] B0) a w' (own_garg (h.on hb).lnk h.len hok) (DArg.nil w') (own_targ ((h.on hb).rows B0 _ hva) hdl (by have := hok.2.2.1; omega) (fun x hx => by
        obtain ⟨i, hi, rfl⟩ := List.getElem_of_mem hx
        have e := dAt_get hi
        rw [List.getElem?_eq_getElem hi] at e
        injection e with e
        rw [e]
        have h1 := (dist_ok (dn := []) hok hB0).low i (by omega)
        have h2 := dist_top (dn := []) hok hB0 (v := i) (by omega)
        omega)) hia.1 hia.2)
      have HFc := hid (fun (w' : World) (hb : Below w.heap.size w w') => (hb.cell (p := ⟨g, B0, none⟩) hg).trans cg)
      obtain ⟨L, hL⟩ : ∃ L, nextS (N : Int) l [] (distS N l [] B0) a = L := ⟨_, rfl⟩
      rw [hL] at HX ⊢
      clear h ha hb hva hrow hr cg hL Q hdl
      go_enter Try.func15, Try.ntmps15
      go_wp2_with (first
        | (go_at_call 23; (with_reducible refine HNa.out.mono ?_); rintro e' w1 ⟨rfl, hb1⟩; obtain ⟨d0, d1, d2, _⟩ := HKp.out _ hb1)
        | (go_at_call 23; (with_reducible refine (HNb.out _).mono ?_); rintro e' w2 ⟨rfl, hb2⟩; have hb12 : Below w.heap.size w w2 := hb1.trans (hb2.mono hb1.size)))
      have hbD : Below w.heap.size w w2.drew := hb12.drew
      obtain ⟨e0, e1, e2, _⟩ := HKp.out _ hbD
      have x1 := HFc.out _ hbD
      have HXD := hid (HX.out _ hbD)
      clear d0 d1 d2 c0 c1 c2
      go_region_held3 (fun w' => w'.cell? ⟨BT, 0, none⟩ = some (.int .i64 (N : Int)) ∧ w'.cell? ⟨BT, 1, none⟩ = some (.slice A' n c') ∧ w'.cell? ⟨BT, 2, none⟩ = some (.slice (some ⟨g, 0, none⟩) N cap) ∧ w'.cell? ⟨g, B0, none⟩ = some (.slice Aa N ca))
        (first
          | go_keep
          | exact s3)
        (first
          | (go_at_call 25; (with_reducible refine HXD.out.mono ?_); rintro e' w3 ⟨v3, rfl, hown3, hb3⟩; have hb13 : Below w.heap.size w w3 := hbD.trans (hb3.mono hbD.size); have s3 := And.intro (HKp.out _ hb13).1 (And.intro (HKp.out _ hb13).2.1 (And.intro (HKp.out _ hb13).2.2.1 (HFc.out _ hb13))); have HO3 := hid hown3; clear hown3))
      go_wp2_with fail
      go_ret
      exact ⟨_, rfl, own_mono HO3.out (by have := hbD.size; omega), hb13⟩
    · simp only [decide_eq_false hb] at HNb
      have Q : nextT N l a b = [] := by unfold nextT; rw [if_neg (by omega)]
      rw [Q]
      clear h ha hb Q
      go_enter Try.func15, Try.ntmps15
      go_wp2_with (first
        | (go_at_call 23; (with_reducible refine HNa.out.mono ?_); rintro e' w1 ⟨rfl, hb1⟩; obtain ⟨d0, d1, d2, _⟩ := HKp.out _ hb1)
        | (go_at_call 23; (with_reducible refine (HNb.out _).mono ?_); rintro e' w2 ⟨rfl, hb2⟩; have hb12 : Below w.heap.size w w2 := hb1.trans (hb2.mono hb1.size)))
      go_ret
      exact ⟨_, rfl, World.ownsRow_nil _ _ _ _, hb12⟩
  · rw [decide_eq_false ha] at HNa
    have Q : nextT N l a b = [] := by
      unfold nextT nextS
      split
      · rw [if_neg (fun hh => ha ⟨hh.2.2.1, hh.2.2.2.1⟩)]
      · rfl
    rw [Q]
    clear h ha Q
    go_enter Try.func15, Try.ntmps15
    go_wp2_with (go_at_call 23; (with_reducible refine HNa.out.mono ?_); rintro e' w1 ⟨rfl, hb1⟩)
    go_ret
    exact ⟨_, rfl, World.ownsRow_nil _ _ _ _, hb1⟩
theorem own_kpb {wx wy : World} {lo : Nat} {v : Value} {n : Nat} {xs : List Value} (h : wx.ownsRow lo 3 1 v n xs) (hk : ∀ g, lo ≤ g → g < wx.heap.size → wy.heap[g]? = wx.heap[g]?) : wy.ownsRow lo 3 1 v n xs := by
  refine ⟨h.1, ?_⟩
  rcases h.2 with h0 | ⟨g, cap, cur, h1, h2, h3, h4⟩
  · exact Or.inl h0
  · exact Or.inr ⟨g, cap, cur, h1, h2, (hk g h2 (blk_lt h3)).trans h3, h4⟩
/-- What a round keeps: what is known; the box of the answer so far (block E); the blocks from base up to E. -/
structure LpSt (w0 : World) (base B KB EB : Nat) (kb eb : Nat → Nat) (cK cE po pt : Nat) (bt : Int) (N m : Nat) (K : Nat → Nat → Int) (D : Nat → Nat → Int × Int) (wS : World) (E : Nat) (ea eb' : Int) (wr : World) : Prop where
  mem : RcM w0 base B KB EB kb eb cK cE po pt bt N m K D wr
  lt : E < wr.heap.size
  ebx : wr.heap[E]? = some (.cells #[.int .i64 ea, .int .i64 eb'] 92 (0, 0))
  kpl : ∀ g, base ≤ g → g < E → wr.heap[g]? = wS.heap[g]?
  bE : base ≤ E
section
variable {w0 : World} {base B KB EB : Nat} {kb eb : Nat → Nat} {cK cE po pt : Nat} {bt : Int} {N m : Nat} {K : Nat → Nat → Int} {D : Nat → Nat → Int × Int} {wS : World} {E : Nat} {ea eb' : Int} {wr wx : World}
theorem LpSt.on (h : LpSt w0 base B KB EB kb eb cK cE po pt bt N m K D wS E ea eb' wr) (hb : Below wr.heap.size wr wx) : LpSt w0 base B KB EB kb eb cK cE po pt bt N m K D wS E ea eb' wx :=
  ⟨h.mem.on hb, Nat.lt_of_lt_of_le h.lt hb.size, (hb.block E h.lt).trans h.ebx, fun g h1 h2 => (hb.block g (by have := h.lt; omega)).trans (h.kpl g h1 h2), h.bE⟩
theorem LpSt.call (h : LpSt w0 base B KB EB kb eb cK cE po pt bt N m K D wS E ea eb' wr) {K' : Nat → Nat → Int} {D' : Nat → Nat → Int × Int} (hm : RcM w0 base B KB EB kb eb cK cE po pt bt N m K' D' wx) (hk : Kpb base wr wx) : LpSt w0 base B KB EB kb eb cK cE po pt bt N m K' D' wS E ea eb' wx :=
  ⟨hm, Nat.lt_of_lt_of_le h.lt hk.1, (hk.2 E h.bE h.lt).trans h.ebx, fun g h1 h2 => (hk.2 g h1 (by have := h.lt; omega)).trans (h.kpl g h1 h2), h.bE⟩
theorem LpSt.far (h : LpSt w0 base B KB EB kb eb cK cE po pt bt N m K D wS E ea eb' wr) {g j : Nat} (hg : E < g) (u : Value) : LpSt w0 base B KB EB kb eb cK cE po pt bt N m K D wS E ea eb' (wr.setCell ⟨g, j, none⟩ u) :=
  ⟨h.mem.far (by have := h.bE; omega) u, by simpa using h.lt, (heap_setCell_other wr _ E u (by show E ≠ g; omega)).trans h.ebx, fun g' h1 h2 => (heap_setCell_other wr _ g' u (by show g' ≠ g; omega)).trans (h.kpl g' h1 h2), h.bE⟩
theorem LpSt.putE (h : LpSt w0 base B KB EB kb eb cK cE po pt bt N m K D wS E ea eb' wr) (a b : Int) : LpSt w0 base B KB EB kb eb cK cE po pt bt N m K D wS E a b ((wr.setCell ⟨E, 0, none⟩ (.int .i64 a)).setCell ⟨E, 1, none⟩ (.int .i64 b)) := by
  have h1 := heap_setCell_same wr E 0 _ _ (.int .i64 a) h.ebx
  have h2 := heap_setCell_same _ E 1 _ _ (.int .i64 b) h1
  exact ⟨(h.mem.far h.bE _).far h.bE _, by simpa using h.lt, h2, fun g' q1 q2 => ((heap_setCell_other _ _ g' _ (by show g' ≠ E; omega)).trans (heap_setCell_other wr _ g' _ (by show g' ≠ E; omega))).trans (h.kpl g' q1 q2), h.bE⟩
theorem LpSt.setK (h : LpSt w0 base B KB EB kb eb cK cE po pt bt N m K D wS E ea eb' wr) {v k : Nat} (hv : v < N) (z : Int) : LpSt w0 base B KB EB kb eb cK cE po pt bt N m (updM K v k z) D wS E ea eb' (wr.setCell ⟨kb v, k, none⟩ (.int .i64 z)) := by
  have hl := (h.mem.lt.2.2.2 v hv).1
  have hE := h.bE
  exact ⟨h.mem.setK hv z, by simpa using h.lt, (heap_setCell_other wr _ E _ (by show E ≠ kb v; omega)).trans h.ebx, fun g' q1 q2 => (heap_setCell_other wr _ g' _ (by show g' ≠ kb v; omega)).trans (h.kpl g' q1 q2), h.bE⟩
theorem LpSt.setD (h : LpSt w0 base B KB EB kb eb cK cE po pt bt N m K D wS E ea eb' wr) {v k : Nat} (hv : v < N) (a b : Int) : LpSt w0 base B KB EB kb eb cK cE po pt bt N m K (updM D v k (a, b)) wS E ea eb' ((wr.setCell ⟨eb v, k * 2, none⟩ (.int .i64 a)).setCell ⟨eb v, k * 2 + 1, none⟩ (.int .i64 b)) := by
  have hl := (h.mem.lt.2.2.2 v hv).2
  have hE := h.bE
  exact ⟨h.mem.setD hv a b, by simpa using h.lt, ((heap_setCell_other _ _ E _ (by show E ≠ eb v; omega)).trans (heap_setCell_other wr _ E _ (by show E ≠ eb v; omega))).trans h.ebx,
    fun g' q1 q2 => ((heap_setCell_other _ _ g' _ (by show g' ≠ eb v; omega)).trans (heap_setCell_other wr _ g' _ (by show g' ≠ eb v; omega))).trans (h.kpl g' q1 q2), h.bE⟩
/-- What lay between base and E when the loop began lies there still. -/
theorem LpSt.fbx (h : LpSt w0 base B KB EB kb eb cK cE po pt bt N m K D wS E ea eb' wr) {w : World} {v k a b : Int} (hS : FBx w base v k a b wS) (hw : base ≤ w.heap.size) (hE : w.heap.size + 1 < E) : FBx w base v k a b wr :=
  ⟨(h.kpl _ hw (by omega)).trans hS.at_, (h.kpl _ (by omega) (by omega)).trans hS.res, by have := h.lt; omega, fun g h1 h2 => (h.kpl g h1 (by omega)).trans (hS.kp.2 g h1 h2)⟩
theorem LpSt.own (h : LpSt w0 base B KB EB kb eb cK cE po pt bt N m K D wS E ea eb' wr) {lo : Nat} {v : Value} {n : Nat} {xs : List Value} (hS : wS.ownsRow lo 3 1 v n xs) (hl : base ≤ lo) (hE : ∀ g, v.ownBlock = some g → g < E) : wr.ownsRow lo 3 1 v n xs := by
  refine ⟨hS.1, ?_⟩
  rcases hS.2 with h0 | ⟨g, cap, cur, h1, h2, h3, h4⟩
  · exact Or.inl h0
  · subst h1
    exact Or.inr ⟨g, cap, cur, rfl, h2, (h.kpl g (by omega) (hE g rfl)).trans h3, h4⟩
theorem LpSt.ecells (h : LpSt w0 base B KB EB kb eb cK cE po pt bt N m K D wS E ea eb' wr) : wr.cell? ⟨E, 0, none⟩ = some (.int .i64 ea) ∧ wr.cell? ⟨E, 1, none⟩ = some (.int .i64 eb') ∧ ∀ j, wr.frozen? ⟨E, j, none⟩ = false :=
  ⟨by rw [cell_of_row _ _ _ _ _ _ h.ebx]; rfl, by rw [cell_of_row _ _ _ _ _ _ h.ebx]; rfl, fun j => frozen_of_row _ _ _ _ _ h.ebx⟩
end
end Go.Proofs.Ytkemcgbedapkcaa
