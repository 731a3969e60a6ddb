/- Cut out of HpA HpB HpC HpD. -/
import Derived.Test.YtabgbhkpeeibaaaWdA
import Derived.IntWalk
import Derived.Outline
import Derived.Deep.RegionHeld3
import Derived.Deep.RegionWith
import Derived.OwnWalk
namespace Go.Proofs.Ytabgbhkpeeibaaa
open Go.RowKit
set_option maxHeartbeats 12800000
set_option maxRecDepth 100000
/-- A tree of pairs with its nodes' blocks. -/
inductive HT where
  | nil
  | node (b : Nat) (k v : Int) (m f : HT)
def HT.ptr : HT → Value
  | .nil => .pointer none
  | .node b _ _ _ _ => .pointer (some ⟨b, 0, none⟩)
def HT.cnt : HT → Nat
  | .nil => 0
  | .node _ _ _ m f => m.cnt + f.cnt + 1
def HT.all : HT → List (Int × Int)
  | .nil => []
  | .node _ k v m f => (k, v) :: (m.all ++ f.all)
/-- The nodes lie in w, each a block of its own. -/
def HT.In (w : World) : HT → Prop
  | .nil => True
  | .node b k v m f => w.heap[b]? = some (.cells #[.int .i64 k, .int .i64 v, .int .i64 (1 + (m.cnt : Int) + (f.cnt : Int)), m.ptr, f.ptr] 101 (0, 0)) ∧ m.In w ∧ f.In w
def le2 (p q : Int × Int) : Prop := p.1 < q.1 ∨ p.1 = q.1 ∧ p.2 ≤ q.2
theorem le2_trans {a b c : Int × Int} (h : le2 a b) (h' : le2 b c) : le2 a c := by unfold le2 at *; omega
theorem le2_anti {a b : Int × Int} (h : le2 a b) (h' : le2 b a) : a = b := by
  unfold le2 at *
  exact Prod.ext (by omega) (by omega)
theorem le2_refl (a : Int × Int) : le2 a a := .inr ⟨rfl, Int.le_refl _⟩
/-- The least pair stands at the root, of every part too. -/
def HT.Ord : HT → Prop
  | .nil => True
  | .node _ k v m f => (∀ p ∈ m.all ++ f.all, le2 (k, v) p) ∧ m.Ord ∧ f.Ord
theorem HT.len : ∀ T : HT, T.all.length = T.cnt
  | .nil => rfl
  | .node _ _ _ m f => by simp [HT.all, HT.cnt, HT.len m, HT.len f]
theorem HT.In.keep {w w' : World} (hk : ∀ (b : Nat) (c : Array Value), w.heap[b]? = some (.cells c 101 (0, 0)) → w'.heap[b]? = some (.cells c 101 (0, 0))) : ∀ {T : HT}, T.In w → T.In w'
  | .nil, _ => trivial
  | .node _ _ _ _ _, ⟨h, hm, hf⟩ => ⟨hk _ _ h, HT.In.keep hk hm, HT.In.keep hk hf⟩
theorem heap_lt {w : World} {b : Nat} {o : Obj} (h : w.heap[b]? = some o) : b < w.heap.size := (Array.getElem?_eq_some_iff.1 h).1
theorem HT.In.below {w w' : World} {T : HT} (h : T.In w) (hb : Below w.heap.size w w') : T.In w' := h.keep fun b _ h => (hb.block b (heap_lt h)).trans h
theorem HT.ptr_pointer (T : HT) : ∃ u, T.ptr = .pointer u := by cases T <;> exact ⟨_, rfl⟩
theorem node_cells {w : World} {b : Nat} {x0 x1 x2 x3 x4 : Value} {t : TypeId} (h : w.heap[b]? = some (.cells #[x0, x1, x2, x3, x4] t (0, 0))) :
    w.cell? ⟨b, 0, none⟩ = some x0 ∧ w.cell? ⟨b, 1, none⟩ = some x1 ∧ w.cell? ⟨b, 2, none⟩ = some x2 ∧ w.cell? ⟨b, 3, none⟩ = some x3 ∧ w.cell? ⟨b, 4, none⟩ = some x4 := by
  refine ⟨?_, ?_, ?_, ?_, ?_⟩ <;> (rw [cell_of_row _ _ _ _ _ _ h]; rfl)
/-- The tree behind a join of two. -/
def Joined (a b : HT) (w : World) (e : Ending) (w' : World) : Prop :=
  ∃ (T : HT) (u : Option Addr), e = .returned (.pointer u) ∧ T.ptr = .pointer u ∧ T.In w' ∧ T.Ord ∧ T.all.Perm (a.all ++ b.all) ∧ Below w.heap.size w w'
theorem perm_cnt {T : HT} {l : List (Int × Int)} (h : T.all.Perm l) : T.cnt = l.length := by rw [← HT.len, h.length_eq]
/-- The pair of a's root stands ahead of b's. -/
def bf (k v k' v' : Int) : Bool := if k ≠ k' then decide (k < k') else decide (v < v')
theorem bf_true {k v k' v' : Int} (h : bf k v k' v' = true) : le2 (k, v) (k', v') := by
  unfold bf at h
  split at h <;> simp at h <;> unfold le2 <;> simp <;> omega
theorem bf_false {k v k' v' : Int} (h : bf k v k' v' = false) : le2 (k', v') (k, v) := by
  unfold bf at h
  split at h <;> simp at h <;> unfold le2 <;> simp <;> omega
/-- A node over what was joined. -/
theorem ord_node {k v : Int} {m f b one other T : HT} (hm : one.Ord) (hT : T.Ord) (hmf : (m = one ∧ f = T) ∨ (m = T ∧ f = one)) (hall : T.all.Perm (other.all ++ b.all)) (h1 : ∀ p ∈ one.all ++ other.all, le2 (k, v) p) (h2 : ∀ p ∈ b.all, le2 (k, v) p) (c : Nat) :
    (HT.node c k v m f).Ord ∧ (HT.node c k v m f).all.Perm ((k, v) :: (one.all ++ other.all) ++ b.all) := by
  have hp : (m.all ++ f.all).Perm (one.all ++ T.all) := by
    rcases hmf with ⟨rfl, rfl⟩ | ⟨rfl, rfl⟩
    · exact List.Perm.refl _
    · exact List.perm_append_comm
  have hq : (m.all ++ f.all).Perm (one.all ++ (other.all ++ b.all)) := hp.trans (hall.append_left _)
  refine ⟨⟨fun p h => ?_, ?_⟩, ?_⟩
  · have := hq.mem_iff.1 h
    simp only [List.mem_append] at this
    rcases this with h | h | h
    · exact h1 p (by simp [h])
    · exact h1 p (by simp [h])
    · exact h2 p h
  · rcases hmf with ⟨rfl, rfl⟩ | ⟨rfl, rfl⟩
    · exact ⟨hm, hT⟩
    · exact ⟨hT, hm⟩
  · rw [List.cons_append, List.append_assoc]
    exact hq.cons _
theorem root_le {b : Nat} {k v : Int} {m f : HT} (h : (HT.node b k v m f).Ord) {p : Int × Int} (hp : p ∈ (HT.node b k v m f).all) : le2 (k, v) p := by
  simp only [HT.all, List.mem_cons] at hp
  rcases hp with rfl | hp
  · exact le2_refl _
  · exact h.1 p hp
theorem count_any (T : HT) (w : World) (h : T.In w) : Calls Try.prog 70 #[T.ptr] w fun e w' => e = .returned (.int .i64 (T.cnt : Int)) ∧ w = w' := by
  cases T with
  | nil =>
    show Calls Try.prog 70 #[.pointer none] w _
    clear h
    go_enter Try.func70, Try.ntmps70
    go_wp2_with fail
    go_ret
    exact ⟨rfl, rfl⟩
  | node b k v m f =>
    obtain ⟨_, _, c2, _, _⟩ := node_cells h.1
    clear h
    have hc : ((HT.node b k v m f).cnt : Int) = 1 + (m.cnt : Int) + (f.cnt : Int) := by simp only [HT.cnt]; omega
    rw [hc]
    clear hc
    show Calls Try.prog 70 #[.pointer (some ⟨b, 0, none⟩)] w _
    go_enter Try.func70, Try.ntmps70
    go_wp2_with fail
    go_ret
    exact ⟨rfl, rfl⟩
theorem before_any (b c : Nat) (k v k' v' : Int) (m f m' f' : HT) (w : World) (h : (HT.node b k v m f).In w) (h' : (HT.node c k' v' m' f').In w) :
    Calls Try.prog 73 #[.pointer (some ⟨b, 0, none⟩), .pointer (some ⟨c, 0, none⟩)] w fun e w' => e = .returned (.bool (bf k v k' v')) ∧ Below w.heap.size w w' := by
  obtain ⟨a0, a1, _, _, _⟩ := node_cells h.1
  obtain ⟨b0, b1, _, _, _⟩ := node_cells h'.1
  clear h h'
  rcases (show (k != k') = true ∨ (k != k') = false by cases (k != k') <;> simp) with t | t
  · go_enter Try.func73, Try.ntmps73
    go_wp2_with fail
    go_big_quiet (fail)
    go_wp2_with fail
    go_big_quiet (fail)
    go_wp2_with fail
    go_ret
    refine ⟨ret_bool ?_, ⟨rfl, rfl, rfl, Nat.le_refl _, fun _ _ => rfl⟩⟩
    unfold bf
    rw [if_pos (by simpa using t)]
  · go_enter Try.func73, Try.ntmps73
    go_wp2_with fail
    go_big_quiet (fail)
    go_wp2_with fail
    go_big_quiet (fail)
    go_wp2_with fail
    go_ret
    refine ⟨ret_bool ?_, ⟨rfl, rfl, rfl, Nat.le_refl _, fun _ _ => rfl⟩⟩
    unfold bf
    rw [if_neg (by simpa using t)]
/-- A node made over two. -/
def NodeAns (k v : Int) (one other : HT) (w : World) (e : Ending) (w' : World) : Prop :=
  ∃ (b : Nat) (m f : HT), e = .returned (.pointer (some ⟨b, 0, none⟩)) ∧ (HT.node b k v m f).In w' ∧ ((m = one ∧ f = other) ∨ (m = other ∧ f = one)) ∧ Below w.heap.size w w'
theorem node_new (k v : Int) (m f : HT) (w : World) (hm : m.In w) (hf : f.In w) : (HT.node w.heap.size k v m f).In (w.alloc (.cells #[.int .i64 k, .int .i64 v, .int .i64 (1 + (m.cnt : Int) + (f.cnt : Int)), m.ptr, f.ptr] 101)) :=
  ⟨heap_alloc_new w _, hm.below ((Below.refl _ _).alloc (Nat.le_refl _) _), hf.below ((Below.refl _ _).alloc (Nat.le_refl _) _)⟩
theorem newNode_any (k v : Int) (one other : HT) (w : World) (h1 : one.In w) (h2 : other.In w) (hs : one.cnt + other.cnt ≤ 1000000) :
    Calls Try.prog 69 #[.int .i64 k, .int .i64 v, one.ptr, other.ptr] w (NodeAns k v one other w) := by
  have C1 := hid (count_any one w h1)
  have C2 := hid (count_any other w h2)
  have N1 := hid (node_new k v one other w h1 h2)
  have N2 := hid (node_new k v other one w h2 h1)
  obtain ⟨p, hp⟩ : ∃ p, one.cnt = p := ⟨_, rfl⟩
  obtain ⟨q, hq⟩ : ∃ q, other.cnt = q := ⟨_, rfl⟩
  obtain ⟨x, hx⟩ := one.ptr_pointer
  obtain ⟨y, hy⟩ := other.ptr_pointer
  rw [hp, hq] at hs
  rw [hp, hx] at C1
  rw [hq, hy] at C2
  rw [hp, hq, hx, hy] at N1 N2
  rw [hx, hy]
  clear hp hq hx hy h1 h2
  rcases (show decide (p < q) = true ∨ decide (p < q) = false by cases decide (p < q) <;> simp) with t | t
  · go_enter Try.func69, Try.ntmps69
    go_wp2_with (first
      | (go_at_call 70; (with_reducible refine C1.out.mono ?_); rintro e' w' ⟨rfl, rfl⟩)
      | (go_at_call 70; (with_reducible refine C2.out.mono ?_); rintro e' w' ⟨rfl, rfl⟩))
    go_ret
    exact ⟨_, _, _, rfl, N2.out, .inr ⟨rfl, rfl⟩, (Below.refl _ _).alloc (Nat.le_refl _) _⟩
  · go_enter Try.func69, Try.ntmps69
    go_wp2_with (first
      | (go_at_call 70; (with_reducible refine C1.out.mono ?_); rintro e' w' ⟨rfl, rfl⟩)
      | (go_at_call 70; (with_reducible refine C2.out.mono ?_); rintro e' w' ⟨rfl, rfl⟩))
    go_ret
    exact ⟨_, _, _, rfl, N1.out, .inl ⟨rfl, rfl⟩, (Below.refl _ _).alloc (Nat.le_refl _) _⟩
theorem bt {a b c : World} (h1 : Below a.heap.size a b) (h2 : Below b.heap.size b c) : Below a.heap.size a c := h1.trans (h2.mono h1.size)
/-- What is joined under a root that stands ahead. -/
theorem joined_node {c : Nat} {k v : Int} {m f b T a' b' : HT} {w w' w0 : World} {e : Ending} (ha : (HT.node c k v m f).Ord) (hT : T.Ord) (hall : T.all.Perm (f.all ++ b.all)) (hle : ∀ p ∈ b.all, le2 (k, v) p) (hw : Below w0.heap.size w0 w)
    (hp : ((HT.node c k v m f).all ++ b.all).Perm (a'.all ++ b'.all)) (h : NodeAns k v m T w e w') : Joined a' b' w0 e w' := by
  obtain ⟨g, m', f', rfl, hin, hor, hb⟩ := h
  obtain ⟨h1, h2⟩ := ord_node ha.2.1 hT hor hall ha.1 hle g
  exact ⟨_, _, rfl, rfl, hin, h1, h2.trans hp, bt hw hb⟩
theorem held4 {w w' : World} {c : Nat} {x0 x1 x3 x4 : Value} (hb : Below w.heap.size w w') (hc : c < w.heap.size) (h0 : w.cell? ⟨c, 0, none⟩ = some x0) (h1 : w.cell? ⟨c, 1, none⟩ = some x1) (h3 : w.cell? ⟨c, 3, none⟩ = some x3) (h4 : w.cell? ⟨c, 4, none⟩ = some x4) :
    w'.cell? ⟨c, 0, none⟩ = some x0 ∧ w'.cell? ⟨c, 1, none⟩ = some x1 ∧ w'.cell? ⟨c, 3, none⟩ = some x3 ∧ w'.cell? ⟨c, 4, none⟩ = some x4 :=
  ⟨(hb.cell (p := ⟨c, 0, none⟩) hc).trans h0, (hb.cell (p := ⟨c, 1, none⟩) hc).trans h1, (hb.cell (p := ⟨c, 3, none⟩) hc).trans h3, (hb.cell (p := ⟨c, 4, none⟩) hc).trans h4⟩
theorem node_ptr {k v : Int} {a b : HT} {w w' : World} {e : Ending} (h : NodeAns k v a b w e w') : ∃ g, e = .returned (.pointer (some ⟨g, 0, none⟩)) := by
  obtain ⟨g, _, _, h, _⟩ := h
  exact ⟨g, h⟩
theorem node_below {k v : Int} {a b : HT} {w w' : World} {e : Ending} (h : NodeAns k v a b w e w') : Below w.heap.size w w' := h.elim fun _ h => h.elim fun _ h => h.elim fun _ h => h.2.2.2
theorem join_cnt {c c' : Nat} {k v k' v' : Int} {m f m' f' T : HT} {n : Nat} (h : T.all.Perm (f.all ++ (HT.node c' k' v' m' f').all)) (hn : (HT.node c k v m f).cnt + (HT.node c' k' v' m' f').cnt ≤ n + 1) (hm : n + 1 ≤ 1000000) : m.cnt + T.cnt ≤ 1000000 := by
  have := perm_cnt h
  rw [List.length_append, HT.len, HT.len] at this
  simp only [HT.cnt] at *
  omega
theorem join_any (n : Nat) : ∀ (a b : HT) (w : World), a.cnt + b.cnt ≤ n → n ≤ 1000000 → a.In w → b.In w → a.Ord → b.Ord → Calls Try.prog 68 #[a.ptr, b.ptr] w (Joined a b w) := by
  induction n with
  | zero =>
    intro a b w h _ ha hb oa ob
    have hbn : b = .nil := by cases b with | nil => rfl | node => simp [HT.cnt] at h
    have han : a = .nil := by cases a with | nil => rfl | node => simp [HT.cnt] at h
    subst hbn han
    clear h ha hb oa ob
    show Calls Try.prog 68 #[.pointer none, .pointer none] w _
    go_enter Try.func68, Try.ntmps68
    go_wp2_with fail
    go_ret
    exact ⟨.nil, _, rfl, rfl, trivial, trivial, List.Perm.refl _, Below.refl _ _⟩
  | succ n ih =>
    intro a b w hn hm ha hb oa ob
    have IH := hid ih
    have Ha := hid ha; have Hb := hid hb; have Oa := hid oa; have Ob := hid ob
    have Hn := hid hn
    clear ih ha hb oa ob hn
    cases a with
    | nil =>
      obtain ⟨x, hx⟩ := b.ptr_pointer
      have Hx := hid hx
      rw [hx]
      clear hx
      show Calls Try.prog 68 #[.pointer none, .pointer x] w _
      go_enter Try.func68, Try.ntmps68
      go_wp2_with fail
      go_ret
      exact ⟨b, x, rfl, Hx.out, Hb.out, Ob.out, List.Perm.refl _, Below.refl _ _⟩
    | node c k v m f =>
      cases b with
      | nil =>
        show Calls Try.prog 68 #[.pointer (some ⟨c, 0, none⟩), .pointer none] w _
        go_enter Try.func68, Try.ntmps68
        go_wp2_with fail
        go_ret
        exact ⟨_, _, rfl, rfl, Ha.out, Oa.out, by simp [HT.all], Below.refl _ _⟩
      | node c' k' v' m' f' =>
        have HB := hid (before_any c' c k' v' k v m' f' m f w Hb.out Ha.out)
        show Calls Try.prog 68 #[.pointer (some ⟨c, 0, none⟩), .pointer (some ⟨c', 0, none⟩)] w _
        rcases hbf : bf k' v' k v with _ | _
        · rw [hbf] at HB
          have Hle : Hid (∀ p ∈ (HT.node c' k' v' m' f').all, le2 (k, v) p) := fun p hp => le2_trans (bf_false hbf) (root_le Ob.out hp)
          clear hbf
          go_enter Try.func68, Try.ntmps68
          go_wp2_with (go_at_call 73; (with_reducible refine HB.out.mono ?_); rintro e' w1 ⟨rfl, hb1⟩)
          have hd : Below w.heap.size w w1.drew := hb1.drew
          have h1 : (HT.node c k v m f).In w1.drew := Ha.out.below hd
          have h2 : (HT.node c' k' v' m' f').In w1.drew := Hb.out.below hd
          obtain ⟨c0, c1, _, c3, c4⟩ := node_cells h1.1
          have hcl := heap_lt h1.1
          have Hn2 := Hn
          obtain ⟨xm, hxm⟩ := m.ptr_pointer
          obtain ⟨xf, hxf⟩ := f.ptr_pointer
          have H1m := hid h1.2.1
          have HJ := hid (IH.out f (.node c' k' v' m' f') w1.drew (by have := Hn.out; simp only [HT.cnt] at this ⊢; omega) (by omega) h1.2.2 h2 Oa.out.2.2 Ob.out)
          rw [hxf] at HJ
          rw [HT.ptr] at HJ
          rw [hxm] at c3
          rw [hxf] at c4
          have Hxm := hid hxm
          clear h1 h2 hxm hxf
          go_region_held3 (fun w' => w'.cell? ⟨c, 0, none⟩ = some (.int .i64 k) ∧ w'.cell? ⟨c, 1, none⟩ = some (.int .i64 v) ∧ w'.cell? ⟨c, 3, none⟩ = some (.pointer xm) ∧ w'.cell? ⟨c, 4, none⟩ = some (.pointer xf))
            (first
              | go_keep
              | exact s4
              | exact s3)
            (first
              | (go_at_call 68; (with_reducible refine HJ.out.mono ?_); rintro e' w3 ⟨T, xt, rfl, hxt, hT, oT, pT, hb3⟩; have HPT := hid pT; have HOT := hid oT; have s3 := held4 hb3 hcl c0 c1 c3 c4; have HN := hid (newNode_any k v m T w3 (H1m.out.below hb3) hT (join_cnt pT Hn2.out hm)); rw [Hxm.out, hxt] at HN; clear pT oT hT hxt)
              | (go_at_call 69; (with_reducible refine HN.out.mono ?_); intro e' w5 hN; obtain ⟨g, rfl⟩ := node_ptr hN; have s4 := held4 (bt hb3 (node_below hN)) hcl c0 c1 c3 c4; have HN5 := hid hN; clear hN))
          go_wp2_with fail
          go_ret
          exact joined_node Oa.out HOT.out HPT.out Hle.out (bt hd hb3) (List.Perm.refl _) HN5.out
        · rw [hbf] at HB
          have Hle : Hid (∀ p ∈ (HT.node c k v m f).all, le2 (k', v') p) := fun p hp => le2_trans (bf_true hbf) (root_le Oa.out hp)
          clear hbf
          go_enter Try.func68, Try.ntmps68
          go_wp2_with (go_at_call 73; (with_reducible refine HB.out.mono ?_); rintro e' w1 ⟨rfl, hb1⟩)
          have hd : Below w.heap.size w w1.drew := hb1.drew
          have h1 : (HT.node c' k' v' m' f').In w1.drew := Hb.out.below hd
          have h2 : (HT.node c k v m f).In w1.drew := Ha.out.below hd
          obtain ⟨c0, c1, _, c3, c4⟩ := node_cells h1.1
          have hcl := heap_lt h1.1
          have Hn2 : Hid ((HT.node c' k' v' m' f').cnt + (HT.node c k v m f).cnt ≤ n + 1) := hid (by have := Hn.out; omega)
          obtain ⟨xm, hxm⟩ := m'.ptr_pointer
          obtain ⟨xf, hxf⟩ := f'.ptr_pointer
          have H1m := hid h1.2.1
          have HJ := hid (IH.out f' (.node c k v m f) w1.drew (by have := Hn.out; simp only [HT.cnt] at this ⊢; omega) (by omega) h1.2.2 h2 Ob.out.2.2 Oa.out)
          rw [hxf] at HJ
          rw [HT.ptr] at HJ
          rw [hxm] at c3
          rw [hxf] at c4
          have Hxm := hid hxm
          clear h1 h2 hxm hxf
          go_region_held3 (fun w' => w'.cell? ⟨c', 0, none⟩ = some (.int .i64 k') ∧ w'.cell? ⟨c', 1, none⟩ = some (.int .i64 v') ∧ w'.cell? ⟨c', 3, none⟩ = some (.pointer xm) ∧ w'.cell? ⟨c', 4, none⟩ = some (.pointer xf))
            (first
              | go_keep
              | exact s4
              | exact s3)
            (first
              | (go_at_call 68; (with_reducible refine HJ.out.mono ?_); rintro e' w3 ⟨T, xt, rfl, hxt, hT, oT, pT, hb3⟩; have HPT := hid pT; have HOT := hid oT; have s3 := held4 hb3 hcl c0 c1 c3 c4; have HN := hid (newNode_any k' v' m' T w3 (H1m.out.below hb3) hT (join_cnt pT Hn2.out hm)); rw [Hxm.out, hxt] at HN; clear pT oT hT hxt)
              | (go_at_call 69; (with_reducible refine HN.out.mono ?_); intro e' w5 hN; obtain ⟨g, rfl⟩ := node_ptr hN; have s4 := held4 (bt hb3 (node_below hN)) hcl c0 c1 c3 c4; have HN5 := hid hN; clear hN))
          go_wp2_with fail
          go_ret
          exact joined_node Ob.out HOT.out HPT.out Hle.out (bt hd hb3) List.perm_append_comm HN5.out
/-- The heap in block hb is the tree T. -/
def HeapAt (w : World) (hb : Nat) (T : HT) : Prop := w.heap[hb]? = some (.cells #[T.ptr] 88 (0, 0)) ∧ T.In w ∧ T.Ord
theorem box_one {w : World} {B : Nat} {x : Value} {T : TypeId} (h : w.heap[B]? = some (.cells #[x] T (0, 0))) : w.cell? ⟨B, 0, none⟩ = some x ∧ w.frozen? ⟨B, 0, none⟩ = false :=
  ⟨by rw [cell_of_row _ _ _ _ _ _ h]; rfl, frozen_of_row _ _ _ _ _ h⟩
theorem box_put {w : World} {B : Nat} {x u : Value} {T : TypeId} (h : w.heap[B]? = some (.cells #[x] T (0, 0))) : (w.setCell ⟨B, 0, none⟩ u).heap[B]? = some (.cells #[u] T (0, 0)) := heap_setCell_same w B 0 _ T u h
theorem box_at {w w' : World} {B k : Nat} {o : Obj} (h : w.heap[B]? = some o) (hb : Below k w w') (hk : B < k) : w'.heap[B]? = some o := (hb.block B hk).trans h
/-- A call that kept all but block hb, behind a store there. -/
theorem gb_put {w w1 : World} {B : Nat} {u : Value} (h : Below w.heap.size w w1) : w.grownBy (w1.setCell ⟨B, 0, none⟩ u) (some B) :=
  ⟨h.os, h.tape, h.output, Nat.le_trans h.size (by simp [World.setCell]), fun k hk hne => (Below.heap_setCell _ _ _ _ (fun e => hne (by rw [e]))).trans (h.block k hk)⟩
theorem in_put {w : World} {B : Nat} {x u : Value} {T : HT} (h : T.In w) (hB : w.heap[B]? = some (.cells #[x] 88 (0, 0))) : T.In (w.setCell ⟨B, 0, none⟩ u) := by
  refine h.keep fun b c hc => ?_
  rw [Below.heap_setCell _ _ _ _ ?_]
  · exact hc
  · rintro rfl
    rw [hB] at hc
    simp at hc
theorem undrew {w w' : World} (h : Below w.drew.heap.size w.drew w') : Below w.heap.size w w' := ⟨h.os, h.tape, h.output, h.size, h.block⟩
theorem len_any (hb : Nat) (T : HT) (w : World) (h : HeapAt w hb T) : Calls Try.prog 63 #[.pointer (some ⟨hb, 0, none⟩)] w fun e w' => e = .returned (.int .i64 (T.cnt : Int)) ∧ w = w' := by
  obtain ⟨c0, _⟩ := box_one h.1
  have C := hid (count_any T w h.2.1)
  obtain ⟨x, hx⟩ := T.ptr_pointer
  obtain ⟨p, hp⟩ : ∃ p, T.cnt = p := ⟨_, rfl⟩
  rw [hp] at C ⊢
  rw [hx] at c0 C
  clear h hx hp
  go_enter Try.func63, Try.ntmps63
  go_wp2_with (go_at_call 70; (with_reducible refine C.out.mono ?_); rintro e' w' ⟨rfl, rfl⟩)
  go_ret
  exact ⟨rfl, rfl⟩
def PushAns (hb : Nat) (k v : Int) (T : HT) (w : World) (e : Ending) (w' : World) : Prop :=
  e = .returned (.tuple #[]) ∧ ∃ T' : HT, HeapAt w' hb T' ∧ T'.all.Perm ((k, v) :: T.all) ∧ w.grownBy w' (some hb)
theorem node_one {k v : Int} {w w' : World} {e : Ending} (h : NodeAns k v .nil .nil w e w') : ∃ g, e = .returned (.pointer (some ⟨g, 0, none⟩)) ∧ (HT.node g k v .nil .nil).In w' ∧ Below w.heap.size w w' := by
  obtain ⟨g, m, f, rfl, h1, h2, h3⟩ := h
  rcases h2 with ⟨rfl, rfl⟩ | ⟨rfl, rfl⟩ <;> exact ⟨g, rfl, h1, h3⟩
theorem push_end {hb : Nat} {k v : Int} {T T' : HT} {g : Nat} {w w1 : World} {u : Option Addr} (hu : T'.ptr = .pointer u) (h0 : HeapAt w hb T) (hb1 : Below w.heap.size w w1) (h1 : T'.In w1) (h2 : T'.Ord) (h3 : T'.all.Perm (T.all ++ (HT.node g k v .nil .nil).all)) :
    PushAns hb k v T w (.returned (.tuple #[])) (w1.setCell ⟨hb, 0, none⟩ (.pointer u)) := by
  have h4 := box_at h0.1 hb1 (heap_lt h0.1)
  refine ⟨rfl, T', ⟨?_, in_put h1 h4, h2⟩, h3.trans ?_, gb_put hb1⟩
  · rw [hu]; exact box_put h4
  · simp only [HT.all, List.append_nil]
    exact List.perm_append_comm
theorem push_any (hb : Nat) (k v : Int) (T : HT) (w : World) (h : HeapAt w hb T) (hc : T.cnt ≤ 900000) : Calls Try.prog 62 #[.pointer (some ⟨hb, 0, none⟩), .int .i64 k, .int .i64 v] w (PushAns hb k v T w) := by
  have H := hid h
  have hlt := heap_lt h.1
  have Hc := hid hc
  obtain ⟨c0, f0⟩ := box_one h.1
  obtain ⟨x, hx⟩ := T.ptr_pointer
  rw [hx] at c0
  have Hx := hid hx
  have HN := hid (newNode_any k v .nil .nil w.drew trivial trivial (by simp [HT.cnt]))
  rw [HT.ptr] at HN
  clear h hc hx
  go_enter Try.func62, Try.ntmps62
  go_wp2_with fail
  go_region_with (first
    | (go_at_call 69; (with_reducible refine HN.out.mono ?_); intro e' w3 hN; obtain ⟨g, rfl, hg, hb3⟩ := node_one hN; have hb3' := undrew hb3; have c3 := (hb3'.cell (p := ⟨hb, 0, none⟩) hlt).trans c0; have hs3 := hb3'.size; have HJ := hid (join_any 1000000 T (.node g k v .nil .nil) w3 (by have := Hc.out; simp only [HT.cnt]; omega) (Nat.le_refl _) (H.out.2.1.below hb3') hg H.out.2.2 ⟨by simp [HT.all], trivial, trivial⟩); rw [Hx.out, HT.ptr] at HJ; clear hN hg hb3)
    | (go_at_call 68; (with_reducible refine HJ.out.mono ?_); rintro e' w5 ⟨T', u, rfl, hu, hT, oT, pT, hb5⟩; have hb5' := bt hb3' hb5; have c5 := (hb5'.cell (p := ⟨hb, 0, none⟩) hlt).trans c0; have f5 := (hb5'.frozen (p := ⟨hb, 0, none⟩) hlt).trans f0; have HE := hid (push_end hu H.out hb5' hT oT pT); clear hu hT oT pT))
  all_goals (go_wp2_with fail; go_end0; exact HE.out)
theorem pop_none (hb : Nat) (w : World) (h : HeapAt w hb .nil) : Calls Try.prog 64 #[.pointer (some ⟨hb, 0, none⟩)] w fun e w' => e = .returned (.tuple #[.int .i64 0, .int .i64 0, .bool false]) ∧ w = w' := by
  have HL : Hid (Calls Try.prog 63 #[.pointer (some ⟨hb, 0, none⟩)] w fun e w' => e = .returned (.int .i64 0) ∧ w = w') := hid (len_any hb .nil w h)
  clear h
  go_enter Try.func64, Try.ntmps64
  go_wp2_with (go_at_call 63; (with_reducible refine HL.out.mono ?_); rintro e' w' ⟨rfl, rfl⟩)
  go_ret3
  exact ⟨rfl, rfl⟩
def PopAns (hb : Nat) (k v : Int) (m f : HT) (w : World) (e : Ending) (w' : World) : Prop :=
  e = .returned (.tuple #[.int .i64 k, .int .i64 v, .bool true]) ∧ ∃ T' : HT, HeapAt w' hb T' ∧ T'.all.Perm (m.all ++ f.all) ∧ w.grownBy w' (some hb)
theorem HeapAt.drewN {w : World} {hb : Nat} {T : HT} (h : HeapAt w hb T) (n : Nat) : HeapAt (w.drewN n) hb T := ⟨h.1, HT.In.keep (w := w) (w' := w.drewN n) (fun _ _ h => h) h.2.1, h.2.2⟩
theorem PopAns.drewN {hb : Nat} {k v : Int} {m f : HT} {w w' : World} {e : Ending} (h : PopAns hb k v m f w e w') (n : Nat) : PopAns hb k v m f w e (w'.drewN n) := by
  obtain ⟨h1, T, h2, h3, h4⟩ := h
  exact ⟨h1, T, h2.drewN n, h3, ⟨h4.os, h4.tape, h4.output, h4.size, h4.block⟩⟩
theorem pop_end {hb b : Nat} {k v : Int} {m f T' : HT} {w w1 : World} {u : Option Addr} (hu : T'.ptr = .pointer u) (h0 : HeapAt w hb (.node b k v m f)) (hb1 : Below w.heap.size w w1) (h1 : T'.In w1) (h2 : T'.Ord) (h3 : T'.all.Perm (m.all ++ f.all)) :
    PopAns hb k v m f w (.returned (.tuple #[.int .i64 k, .int .i64 v, .bool true])) (w1.setCell ⟨hb, 0, none⟩ (.pointer u)) := by
  have h4 := box_at h0.1 hb1 (heap_lt h0.1)
  refine ⟨rfl, T', ⟨?_, in_put h1 h4, h2⟩, h3, gb_put hb1⟩
  rw [hu]; exact box_put h4
theorem pop_some (hb : Nat) (b : Nat) (k v : Int) (m f : HT) (w : World) (h : HeapAt w hb (.node b k v m f)) (hc : (HT.node b k v m f).cnt ≤ 900000) : Calls Try.prog 64 #[.pointer (some ⟨hb, 0, none⟩)] w (PopAns hb k v m f w) := by
  have H := hid h
  have hlt := heap_lt h.1
  have hbl := heap_lt h.2.1.1
  obtain ⟨c0, f0⟩ := box_one h.1
  rw [HT.ptr] at c0
  obtain ⟨d0, d1, _, d3, d4⟩ := node_cells h.2.1.1
  obtain ⟨xm, hxm⟩ := m.ptr_pointer
  obtain ⟨xf, hxf⟩ := f.ptr_pointer
  have hne : hb ≠ b := by
    rintro rfl
    have := h.1.symm.trans h.2.1.1
    simp at this
  have hne' : b ≠ hb := fun e => hne e.symm
  have HL := hid (len_any hb _ w h)
  obtain ⟨p, hp⟩ : ∃ p, (HT.node b k v m f).cnt = p := ⟨_, rfl⟩
  rw [hp] at HL
  have hp0 : ((p : Int) == 0) = false := by have : 0 < p := by rw [← hp, HT.cnt]; omega
                                            simp; omega
  have HJ := hid (join_any 1000000 m f w.drew (by simp only [HT.cnt] at hc; omega) (Nat.le_refl _) (HT.In.keep (w := w) (w' := w.drew) (fun _ _ h => h) h.2.1.2.1) (HT.In.keep (w := w) (w' := w.drew) (fun _ _ h => h) h.2.1.2.2) h.2.2.2.1 h.2.2.2.2)
  rw [hxm, hxf] at HJ
  rw [hxm] at d3
  rw [hxf] at d4
  clear h hc hxm hxf hp
  go_enter Try.func64, Try.ntmps64
  go_wp2_with (go_at_call 63; (with_reducible refine HL.out.mono ?_); rintro e' w' ⟨rfl, rfl⟩)
  go_region_with (go_at_call 68; (with_reducible refine HJ.out.mono ?_); rintro e' w5 ⟨T', u, rfl, hu, hT, oT, pT, hb5⟩; have hb5' := undrew hb5; have c5 := (hb5'.cell (p := ⟨hb, 0, none⟩) hlt).trans c0; have f5 := (hb5'.frozen (p := ⟨hb, 0, none⟩) hlt).trans f0; have d05 := (hb5'.cell (p := ⟨b, 0, none⟩) hbl).trans d0; have d15 := (hb5'.cell (p := ⟨b, 1, none⟩) hbl).trans d1; have HE := hid (pop_end (b := b) hu H.out hb5' hT oT pT); clear hu hT oT pT)
  all_goals (go_wp2_with fail; go_big_quiet (fail); go_wp2_with fail; go_ret3; exact HE.out.drewN _)
end Go.Proofs.Ytabgbhkpeeibaaa
