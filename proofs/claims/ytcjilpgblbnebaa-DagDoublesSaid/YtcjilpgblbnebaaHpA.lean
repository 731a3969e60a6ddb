/- Heaps as data: the tree of pairs, its order, how it lies in memory. -/
import Derived.Test.YtcjilpgblbnebaaWdA
namespace Go.Proofs.Ytcjilpgblbnebaa
open Go.RowKit
set_option maxHeartbeats 1600000
set_option maxRecDepth 100000

/-- A tree of pairs with its nodes' blocks. -/
inductive HT where
  | nil
  | node (b : Nat) (k v : Int) (m f : HT)
def HT.ptr : HT → Value
  | .nil => .pointer none
  | .node b _ _ _ _ => .pointer (some ⟨b, 0, none⟩)
def HT.cnt : HT → Nat
  | .nil => 0
  | .node _ _ _ m f => m.cnt + f.cnt + 1
def HT.all : HT → List (Int × Int)
  | .nil => []
  | .node _ k v m f => (k, v) :: (m.all ++ f.all)
/-- The nodes lie in w, each a block of its own. -/
def HT.In (w : World) : HT → Prop
  | .nil => True
  | .node b k v m f => w.heap[b]? = some (.cells #[.int .i64 k, .int .i64 v, .int .i64 (1 + (m.cnt : Int) + (f.cnt : Int)), m.ptr, f.ptr] 73 (0, 0)) ∧ m.In w ∧ f.In w
def le2 (p q : Int × Int) : Prop := p.1 < q.1 ∨ p.1 = q.1 ∧ p.2 ≤ q.2
theorem le2_trans {a b c : Int × Int} (h : le2 a b) (h' : le2 b c) : le2 a c := by unfold le2 at *; omega
theorem le2_anti {a b : Int × Int} (h : le2 a b) (h' : le2 b a) : a = b := by
  unfold le2 at *
  exact Prod.ext (by omega) (by omega)
theorem le2_refl (a : Int × Int) : le2 a a := .inr ⟨rfl, Int.le_refl _⟩
/-- The least pair stands at the root, of every part too. -/
def HT.Ord : HT → Prop
  | .nil => True
  | .node _ k v m f => (∀ p ∈ m.all ++ f.all, le2 (k, v) p) ∧ m.Ord ∧ f.Ord
theorem HT.len : ∀ T : HT, T.all.length = T.cnt
  | .nil => rfl
  | .node _ _ _ m f => by simp [HT.all, HT.cnt, HT.len m, HT.len f]
theorem HT.In.keep {w w' : World} (hk : ∀ (b : Nat) (c : Array Value), w.heap[b]? = some (.cells c 73 (0, 0)) → w'.heap[b]? = some (.cells c 73 (0, 0))) : ∀ {T : HT}, T.In w → T.In w'
  | .nil, _ => trivial
  | .node _ _ _ _ _, ⟨h, hm, hf⟩ => ⟨hk _ _ h, HT.In.keep hk hm, HT.In.keep hk hf⟩
theorem heap_lt {w : World} {b : Nat} {o : Obj} (h : w.heap[b]? = some o) : b < w.heap.size := (Array.getElem?_eq_some_iff.1 h).1
theorem HT.In.below {w w' : World} {T : HT} (h : T.In w) (hb : Below w.heap.size w w') : T.In w' := h.keep fun b _ h => (hb.block b (heap_lt h)).trans h
theorem HT.ptr_pointer (T : HT) : ∃ u, T.ptr = .pointer u := by cases T <;> exact ⟨_, rfl⟩
theorem node_cells {w : World} {b : Nat} {x0 x1 x2 x3 x4 : Value} {t : TypeId} (h : w.heap[b]? = some (.cells #[x0, x1, x2, x3, x4] t (0, 0))) :
    w.cell? ⟨b, 0, none⟩ = some x0 ∧ w.cell? ⟨b, 1, none⟩ = some x1 ∧ w.cell? ⟨b, 2, none⟩ = some x2 ∧ w.cell? ⟨b, 3, none⟩ = some x3 ∧ w.cell? ⟨b, 4, none⟩ = some x4 := by
  refine ⟨?_, ?_, ?_, ?_, ?_⟩ <;> (rw [cell_of_row _ _ _ _ _ _ h]; rfl)
/-- The tree behind a join of two. -/
def Joined (a b : HT) (w : World) (e : Ending) (w' : World) : Prop :=
  ∃ (T : HT) (u : Option Addr), e = .returned (.pointer u) ∧ T.ptr = .pointer u ∧ T.In w' ∧ T.Ord ∧ T.all.Perm (a.all ++ b.all) ∧ Below w.heap.size w w'
theorem perm_cnt {T : HT} {l : List (Int × Int)} (h : T.all.Perm l) : T.cnt = l.length := by rw [← HT.len, h.length_eq]
/-- The pair of a's root stands ahead of b's. -/
def bf (k v k' v' : Int) : Bool := if k ≠ k' then decide (k < k') else decide (v < v')
theorem bf_true {k v k' v' : Int} (h : bf k v k' v' = true) : le2 (k, v) (k', v') := by
  unfold bf at h
  split at h <;> simp at h <;> unfold le2 <;> simp <;> omega
theorem bf_false {k v k' v' : Int} (h : bf k v k' v' = false) : le2 (k', v') (k, v) := by
  unfold bf at h
  split at h <;> simp at h <;> unfold le2 <;> simp <;> omega
/-- A node over what was joined. -/
theorem ord_node {k v : Int} {m f b one other T : HT} (hm : one.Ord) (hT : T.Ord) (hmf : (m = one ∧ f = T) ∨ (m = T ∧ f = one)) (hall : T.all.Perm (other.all ++ b.all)) (h1 : ∀ p ∈ one.all ++ other.all, le2 (k, v) p) (h2 : ∀ p ∈ b.all, le2 (k, v) p) (c : Nat) :
    (HT.node c k v m f).Ord ∧ (HT.node c k v m f).all.Perm ((k, v) :: (one.all ++ other.all) ++ b.all) := by
  have hp : (m.all ++ f.all).Perm (one.all ++ T.all) := by
    rcases hmf with ⟨rfl, rfl⟩ | ⟨rfl, rfl⟩
    · exact List.Perm.refl _
    · exact List.perm_append_comm
  have hq : (m.all ++ f.all).Perm (one.all ++ (other.all ++ b.all)) := hp.trans (hall.append_left _)
  refine ⟨⟨fun p h => ?_, ?_⟩, ?_⟩
  · have := hq.mem_iff.1 h
    simp only [List.mem_append] at this
    rcases this with h | h | h
    · exact h1 p (by simp [h])
    · exact h1 p (by simp [h])
    · exact h2 p h
  · rcases hmf with ⟨rfl, rfl⟩ | ⟨rfl, rfl⟩
    · exact ⟨hm, hT⟩
    · exact ⟨hT, hm⟩
  · rw [List.cons_append, List.append_assoc]
    exact hq.cons _
theorem root_le {b : Nat} {k v : Int} {m f : HT} (h : (HT.node b k v m f).Ord) {p : Int × Int} (hp : p ∈ (HT.node b k v m f).all) : le2 (k, v) p := by
  simp only [HT.all, List.mem_cons] at hp
  rcases hp with rfl | hp
  · exact le2_refl _
  · exact h.1 p hp
end Go.Proofs.Ytcjilpgblbnebaa
