/- Merged: HqA RgA DqA. -/
import Derived.Test.YtkemcgbedapkcaaG01
import Derived.IntWalk
import Derived.Outline
import Derived.Deep.RegionHeld3
import Derived.Deep.RegionWith
import Derived.OwnWalk
import Derived.Test.YtkemcgbedapkcaaG02
import Derived.Laws.CopyOwn
import Derived.Deep.RegionLaw
/- Cut out of HpA HpB HpC HpD. -/
namespace Go.Proofs.Ytkemcgbedapkcaa
open Go.RowKit
set_option maxHeartbeats 12800000
set_option maxRecDepth 100000
/-- A tree of pairs with its nodes' blocks. -/
inductive HT where
  | nil
  | node (b : Nat) (k v : Int) (m f : HT)
def HT.ptr : HT → Value
  | .nil => .pointer none
  | .node b _ _ _ _ => .pointer (some ⟨b, 0, none⟩)
def HT.cnt : HT → Nat
  | .nil => 0
  | .node _ _ _ m f => m.cnt + f.cnt + 1
def HT.all : HT → List (Int × Int)
  | .nil => []
  | .node _ k v m f => (k, v) :: (m.all ++ f.all)
/-- The nodes lie in w, each a block of its own. -/
def HT.In (w : World) : HT → Prop
  | .nil => True
  | .node b k v m f => w.heap[b]? = some (.cells #[.int .i64 k, .int .i64 v, .int .i64 (1 + (m.cnt : Int) + (f.cnt : Int)), m.ptr, f.ptr] 161 (0, 0)) ∧ m.In w ∧ f.In w
def le2 (p q : Int × Int) : Prop := p.1 < q.1 ∨ p.1 = q.1 ∧ p.2 ≤ q.2
theorem le2_trans {a b c : Int × Int} (h : le2 a b) (h' : le2 b c) : le2 a c := by unfold le2 at *; omega
theorem le2_anti {a b : Int × Int} (h : le2 a b) (h' : le2 b a) : a = b := by
  unfold le2 at *
  exact Prod.ext (by omega) (by omega)
theorem le2_refl (a : Int × Int) : le2 a a := .inr ⟨rfl, Int.le_refl _⟩
/-- The least pair stands at the root, of every part too. -/
def HT.Ord : HT → Prop
  | .nil => True
  | .node _ k v m f => (∀ p ∈ m.all ++ f.all, le2 (k, v) p) ∧ m.Ord ∧ f.Ord
theorem HT.len : ∀ T : HT, T.all.length = T.cnt
  | .nil => rfl
  | .node _ _ _ m f => by simp [HT.all, HT.cnt, HT.len m, HT.len f]
theorem HT.In.keep {w w' : World} (hk : ∀ (b : Nat) (c : Array Value), w.heap[b]? = some (.cells c 161 (0, 0)) → w'.heap[b]? = some (.cells c 161 (0, 0))) : ∀ {T : HT}, T.In w → T.In w'
  | .nil, _ => trivial
  | .node _ _ _ _ _, ⟨h, hm, hf⟩ => ⟨hk _ _ h, HT.In.keep hk hm, HT.In.keep hk hf⟩
theorem heap_lt {w : World} {b : Nat} {o : Obj} (h : w.heap[b]? = some o) : b < w.heap.size := (Array.getElem?_eq_some_iff.1 h).1
theorem HT.In.below {w w' : World} {T : HT} (h : T.In w) (hb : Below w.heap.size w w') : T.In w' := h.keep fun b _ h => (hb.block b (heap_lt h)).trans h
theorem HT.ptr_pointer (T : HT) : ∃ u, T.ptr = .pointer u := by cases T <;> exact ⟨_, rfl⟩
theorem node_cells {w : World} {b : Nat} {x0 x1 x2 x3 x4 : Value} {t : TypeId} (h : w.heap[b]? = some (.cells #[x0, x1, x2, x3, x4] t (0, 0))) :
    w.cell? ⟨b, 0, none⟩ = some x0 ∧ w.cell? ⟨b, 1, none⟩ = some x1 ∧ w.cell? ⟨b, 2, none⟩ = some x2 ∧ w.cell? ⟨b, 3, none⟩ = some x3 ∧ w.cell? ⟨b, 4, none⟩ = some x4 := by
  refine ⟨?_, ?_, ?_, ?_, ?_⟩ <;> (rw [cell_of_row _ _ _ _ _ _ h]; rfl)
/-- The tree behind a join of two. -/
def Joined (a b : HT) (w : World) (e : Ending) (w' : World) : Prop :=
  ∃ (T : HT) (u : Option Addr), e = .returned (.pointer u) ∧ T.ptr = .pointer u ∧ T.In w' ∧ T.Ord ∧ T.all.Perm (a.all ++ b.all) ∧ Below w.heap.size w w'
theorem perm_cnt {T : HT} {l : List (Int × Int)} (h : T.all.Perm l) : T.cnt = l.length := by rw [← HT.len, h.length_eq]
/-- The pair of a's root stands ahead of b's. -/
def bf (k v k' v' : Int) : Bool := if k ≠ k' then decide (k < k') else decide (v < v')
theorem bf_true {k v k' v' : Int} (h : bf k v k' v' = true) : le2 (k, v) (k', v') := by
  unfold bf at h
  split at h <;> simp at h <;> unfold le2 <;> simp <;> omega
theorem bf_false {k v k' v' : Int} (h : bf k v k' v' = false) : le2 (k', v') (k, v) := by
  unfold bf at h
  split at h <;> simp at h <;> unfold le2 <;> simp <;> omega
/-- A node over what was joined. -/
theorem ord_node {k v : Int} {m f b one other T : HT} (hm : one.Ord) (hT : T.Ord) (hmf : (m = one ∧ f = T) ∨ (m = T ∧ f = one)) (hall : T.all.Perm (other.all ++ b.all)) (h1 : ∀ p ∈ one.all ++ other.all, le2 (k, v) p) (h2 : ∀ p ∈ b.all, le2 (k, v) p) (c : Nat) :
    (HT.node c k v m f).Ord ∧ (HT.node c k v m f).all.Perm ((k, v) :: (one.all ++ other.all) ++ b.all) := by
  have hp : (m.all ++ f.all).Perm (one.all ++ T.all) := by
    rcases hmf with ⟨rfl, rfl⟩ | ⟨rfl, rfl⟩
    · exact List.Perm.refl _
    · exact List.perm_append_comm
  have hq : (m.all ++ f.all).Perm (one.all ++ (other.all ++ b.all)) := hp.trans (hall.append_left _)
  refine ⟨⟨fun p h => ?_, ?_⟩, ?_⟩
  · have := hq.mem_iff.1 h
    simp only [List.mem_append] at this
    rcases this with h | h | h
    · exact h1 p (by simp [h])
    · exact h1 p (by simp [h])
    · exact h2 p h
  · rcases hmf with ⟨rfl, rfl⟩ | ⟨rfl, rfl⟩
    · exact ⟨hm, hT⟩
    · exact ⟨hT, hm⟩
  · rw [List.cons_append, List.append_assoc]
    exact hq.cons _
theorem root_le {b : Nat} {k v : Int} {m f : HT} (h : (HT.node b k v m f).Ord) {p : Int × Int} (hp : p ∈ (HT.node b k v m f).all) : le2 (k, v) p := by
  simp only [HT.all, List.mem_cons] at hp
  rcases hp with rfl | hp
  · exact le2_refl _
  · exact h.1 p hp
theorem count_any (T : HT) (w : World) (h : T.In w) : Calls Try.prog 86 #[T.ptr] w fun e w' => e = .returned (.int .i64 (T.cnt : Int)) ∧ w = w' := by
  cases T with
  | nil =>
    show Calls Try.prog 86 #[.pointer none] w _
    clear h
    go_enter Try.func86, Try.ntmps86
    go_wp2_with fail
    go_ret
    exact ⟨rfl, rfl⟩
  | node b k v m f =>
    obtain ⟨_, _, c2, _, _⟩ := node_cells h.1
    clear h
    have hc : ((HT.node b k v m f).cnt : Int) = 1 + (m.cnt : Int) + (f.cnt : Int) := by simp only [HT.cnt]; omega
    rw [hc]
    clear hc
    show Calls Try.prog 86 #[.pointer (some ⟨b, 0, none⟩)] w _
    go_enter Try.func86, Try.ntmps86
    go_wp2_with fail
    go_ret
    exact ⟨rfl, rfl⟩
theorem before_any (b c : Nat) (k v k' v' : Int) (m f m' f' : HT) (w : World) (h : (HT.node b k v m f).In w) (h' : (HT.node c k' v' m' f').In w) :
    Calls Try.prog 93 #[.pointer (some ⟨b, 0, none⟩), .pointer (some ⟨c, 0, none⟩)] w fun e w' => e = .returned (.bool (bf k v k' v')) ∧ Below w.heap.size w w' := by
  obtain ⟨a0, a1, _, _, _⟩ := node_cells h.1
  obtain ⟨b0, b1, _, _, _⟩ := node_cells h'.1
  clear h h'
  rcases (show (k != k') = true ∨ (k != k') = false by cases (k != k') <;> simp) with t | t
  · go_enter Try.func93, Try.ntmps93
    go_wp2_with fail
    go_big_quiet (fail)
    go_wp2_with fail
    go_big_quiet (fail)
    go_wp2_with fail
    go_ret
    refine ⟨ret_bool ?_, ⟨rfl, rfl, rfl, Nat.le_refl _, fun _ _ => rfl⟩⟩
    unfold bf
    rw [if_pos (by simpa using t)]
  · go_enter Try.func93, Try.ntmps93
    go_wp2_with fail
    go_big_quiet (fail)
    go_wp2_with fail
    go_big_quiet (fail)
    go_wp2_with fail
    go_ret
    refine ⟨ret_bool ?_, ⟨rfl, rfl, rfl, Nat.le_refl _, fun _ _ => rfl⟩⟩
    unfold bf
    rw [if_neg (by simpa using t)]
/-- A node made over two. -/
def NodeAns (k v : Int) (one other : HT) (w : World) (e : Ending) (w' : World) : Prop :=
  ∃ (b : Nat) (m f : HT), e = .returned (.pointer (some ⟨b, 0, none⟩)) ∧ (HT.node b k v m f).In w' ∧ ((m = one ∧ f = other) ∨ (m = other ∧ f = one)) ∧ Below w.heap.size w w'
theorem node_new (k v : Int) (m f : HT) (w : World) (hm : m.In w) (hf : f.In w) : (HT.node w.heap.size k v m f).In (w.alloc (.cells #[.int .i64 k, .int .i64 v, .int .i64 (1 + (m.cnt : Int) + (f.cnt : Int)), m.ptr, f.ptr] 161)) :=
  ⟨heap_alloc_new w _, hm.below ((Below.refl _ _).alloc (Nat.le_refl _) _), hf.below ((Below.refl _ _).alloc (Nat.le_refl _) _)⟩
theorem newNode_any (k v : Int) (one other : HT) (w : World) (h1 : one.In w) (h2 : other.In w) (hs : one.cnt + other.cnt ≤ 1000000) :
    Calls Try.prog 85 #[.int .i64 k, .int .i64 v, one.ptr, other.ptr] w (NodeAns k v one other w) := by
  have C1 := hid (count_any one w h1)
  have C2 := hid (count_any other w h2)
  have N1 := hid (node_new k v one other w h1 h2)
  have N2 := hid (node_new k v other one w h2 h1)
  obtain ⟨p, hp⟩ : ∃ p, one.cnt = p := ⟨_, rfl⟩
  obtain ⟨q, hq⟩ : ∃ q, other.cnt = q := ⟨_, rfl⟩
  obtain ⟨x, hx⟩ := one.ptr_pointer
  obtain ⟨y, hy⟩ := other.ptr_pointer
  rw [hp, hq] at hs
  rw [hp, hx] at C1
  rw [hq, hy] at C2
  rw [hp, hq, hx, hy] at N1 N2
  rw [hx, hy]
  clear hp hq hx hy h1 h2
  rcases (show decide (p < q) = true ∨ decide (p < q) = false by cases decide (p < q) <;> simp) with t | t
  · go_enter Try.func85, Try.ntmps85
    go_wp2_with (first
      | (go_at_call 86; (with_reducible refine C1.out.mono ?_); rintro e' w' ⟨rfl, rfl⟩)
      | (go_at_call 86; (with_reducible refine C2.out.mono ?_); rintro e' w' ⟨rfl, rfl⟩))
    go_ret
    exact ⟨_, _, _, rfl, N2.out, .inr ⟨rfl, rfl⟩, (Below.refl _ _).alloc (Nat.le_refl _) _⟩
  · go_enter Try.func85, Try.ntmps85
    go_wp2_with (first
      | (go_at_call 86; (with_reducible refine C1.out.mono ?_); rintro e' w' ⟨rfl, rfl⟩)
      | (go_at_call 86; (with_reducible refine C2.out.mono ?_); rintro e' w' ⟨rfl, rfl⟩))
    go_ret
    exact ⟨_, _, _, rfl, N1.out, .inl ⟨rfl, rfl⟩, (Below.refl _ _).alloc (Nat.le_refl _) _⟩
theorem bt {a b c : World} (h1 : Below a.heap.size a b) (h2 : Below b.heap.size b c) : Below a.heap.size a c := h1.trans (h2.mono h1.size)
/-- What is joined under a root that stands ahead. -/
theorem joined_node {c : Nat} {k v : Int} {m f b T a' b' : HT} {w w' w0 : World} {e : Ending} (ha : (HT.node c k v m f).Ord) (hT : T.Ord) (hall : T.all.Perm (f.all ++ b.all)) (hle : ∀ p ∈ b.all, le2 (k, v) p) (hw : Below w0.heap.size w0 w)
    (hp : ((HT.node c k v m f).all ++ b.all).Perm (a'.all ++ b'.all)) (h : NodeAns k v m T w e w') : Joined a' b' w0 e w' := by
  obtain ⟨g, m', f', rfl, hin, hor, hb⟩ := h
  obtain ⟨h1, h2⟩ := ord_node ha.2.1 hT hor hall ha.1 hle g
  exact ⟨_, _, rfl, rfl, hin, h1, h2.trans hp, bt hw hb⟩
theorem held4 {w w' : World} {c : Nat} {x0 x1 x3 x4 : Value} (hb : Below w.heap.size w w') (hc : c < w.heap.size) (h0 : w.cell? ⟨c, 0, none⟩ = some x0) (h1 : w.cell? ⟨c, 1, none⟩ = some x1) (h3 : w.cell? ⟨c, 3, none⟩ = some x3) (h4 : w.cell? ⟨c, 4, none⟩ = some x4) :
    w'.cell? ⟨c, 0, none⟩ = some x0 ∧ w'.cell? ⟨c, 1, none⟩ = some x1 ∧ w'.cell? ⟨c, 3, none⟩ = some x3 ∧ w'.cell? ⟨c, 4, none⟩ = some x4 :=
  ⟨(hb.cell (p := ⟨c, 0, none⟩) hc).trans h0, (hb.cell (p := ⟨c, 1, none⟩) hc).trans h1, (hb.cell (p := ⟨c, 3, none⟩) hc).trans h3, (hb.cell (p := ⟨c, 4, none⟩) hc).trans h4⟩
theorem node_ptr {k v : Int} {a b : HT} {w w' : World} {e : Ending} (h : NodeAns k v a b w e w') : ∃ g, e = .returned (.pointer (some ⟨g, 0, none⟩)) := by
  obtain ⟨g, _, _, h, _⟩ := h
  exact ⟨g, h⟩
theorem node_below {k v : Int} {a b : HT} {w w' : World} {e : Ending} (h : NodeAns k v a b w e w') : Below w.heap.size w w' := h.elim fun _ h => h.elim fun _ h => h.elim fun _ h => h.2.2.2
theorem join_cnt {c c' : Nat} {k v k' v' : Int} {m f m' f' T : HT} {n : Nat} (h : T.all.Perm (f.all ++ (HT.node c' k' v' m' f').all)) (hn : (HT.node c k v m f).cnt + (HT.node c' k' v' m' f').cnt ≤ n + 1) (hm : n + 1 ≤ 1000000) : m.cnt + T.cnt ≤ 1000000 := by
  have := perm_cnt h
  rw [List.length_append, HT.len, HT.len] at this
  simp only [HT.cnt] at *
  omega
theorem join_any (n : Nat) : ∀ (a b : HT) (w : World), a.cnt + b.cnt ≤ n → n ≤ 1000000 → a.In w → b.In w → a.Ord → b.Ord → Calls Try.prog 84 #[a.ptr, b.ptr] w (Joined a b w) := by
  induction n with
  | zero =>
    intro a b w h _ ha hb oa ob
    have hbn : b = .nil := by cases b with | nil => rfl | node => simp [HT.cnt] at h
    have han : a = .nil := by cases a with | nil => rfl | node => simp [HT.cnt] at h
    subst hbn han
    clear h ha hb oa ob
    show Calls Try.prog 84 #[.pointer none, .pointer none] w _
    go_enter Try.func84, Try.ntmps84
    go_wp2_with fail
    go_ret
    exact ⟨.nil, _, rfl, rfl, trivial, trivial, List.Perm.refl _, Below.refl _ _⟩
  | succ n ih =>
    intro a b w hn hm ha hb oa ob
    have IH := hid ih
    have Ha := hid ha; have Hb := hid hb; have Oa := hid oa; have Ob := hid ob
    have Hn := hid hn
    clear ih ha hb oa ob hn
    cases a with
    | nil =>
      obtain ⟨x, hx⟩ := b.ptr_pointer
      have Hx := hid hx
      rw [hx]
      clear hx
      show Calls Try.prog 84 #[.pointer none, .pointer x] w _
      go_enter Try.func84, Try.ntmps84
      go_wp2_with fail
      go_ret
      exact ⟨b, x, rfl, Hx.out, Hb.out, Ob.out, List.Perm.refl _, Below.refl _ _⟩
    | node c k v m f =>
      cases b with
      | nil =>
        show Calls Try.prog 84 #[.pointer (some ⟨c, 0, none⟩), .pointer none] w _
        go_enter Try.func84, Try.ntmps84
        go_wp2_with fail
        go_ret
        exact ⟨_, _, rfl, rfl, Ha.out, Oa.out, by simp [HT.all], Below.refl _ _⟩
      | node c' k' v' m' f' =>
        have HB := hid (before_any c' c k' v' k v m' f' m f w Hb.out Ha.out)
        show Calls Try.prog 84 #[.pointer (some ⟨c, 0, none⟩), .pointer (some ⟨c', 0, none⟩)] w _
        rcases hbf : bf k' v' k v with _ | _
        · rw [hbf] at HB
          have Hle : Hid (∀ p ∈ (HT.node c' k' v' m' f').all, le2 (k, v) p) := fun p hp => le2_trans (bf_false hbf) (root_le Ob.out hp)
          clear hbf
          go_enter Try.func84, Try.ntmps84
          go_wp2_with (go_at_call 93; (with_reducible refine HB.out.mono ?_); rintro e' w1 ⟨rfl, hb1⟩)
          have hd : Below w.heap.size w w1.drew := hb1.drew
          have h1 : (HT.node c k v m f).In w1.drew := Ha.out.below hd
          have h2 : (HT.node c' k' v' m' f').In w1.drew := Hb.out.below hd
          obtain ⟨c0, c1, _, c3, c4⟩ := node_cells h1.1
          have hcl := heap_lt h1.1
          have Hn2 := Hn
          obtain ⟨xm, hxm⟩ := m.ptr_pointer
          obtain ⟨xf, hxf⟩ := f.ptr_pointer
          have H1m := hid h1.2.1
          have HJ := hid (IH.out f (.node c' k' v' m' f') w1.drew (by have := Hn.out; simp only [HT.cnt] at this ⊢; omega) (by omega) h1.2.2 h2 Oa.out.2.2 Ob.out)
          rw [hxf] at HJ
          rw [HT.ptr] at HJ
          rw [hxm] at c3
          rw [hxf] at c4
          have Hxm := hid hxm
          clear h1 h2 hxm hxf
          go_region_held3 (fun w' => w'.cell? ⟨c, 0, none⟩ = some (.int .i64 k) ∧ w'.cell? ⟨c, 1, none⟩ = some (.int .i64 v) ∧ w'.cell? ⟨c, 3, none⟩ = some (.pointer xm) ∧ w'.cell? ⟨c, 4, none⟩ = some (.pointer xf))
            (first
              | go_keep
              | exact s4
              | exact s3)
            (first
              | (go_at_call 84; (with_reducible refine HJ.out.mono ?_); rintro e' w3 ⟨T, xt, rfl, hxt, hT, oT, pT, hb3⟩; have HPT := hid pT; have HOT := hid oT; have s3 := held4 hb3 hcl c0 c1 c3 c4; have HN := hid (newNode_any k v m T w3 (H1m.out.below hb3) hT (join_cnt pT Hn2.out hm)); rw [Hxm.out, hxt] at HN; clear pT oT hT hxt)
              | (go_at_call 85; (with_reducible refine HN.out.mono ?_); intro e' w5 hN; obtain ⟨g, rfl⟩ := node_ptr hN; have s4 := held4 (bt hb3 (node_below hN)) hcl c0 c1 c3 c4; have HN5 := hid hN; clear hN))
          go_wp2_with fail
          go_ret
          exact joined_node Oa.out HOT.out HPT.out Hle.out (bt hd hb3) (List.Perm.refl _) HN5.out
        · rw [hbf] at HB
          have Hle : Hid (∀ p ∈ (HT.node c k v m f).all, le2 (k', v') p) := fun p hp => le2_trans (bf_true hbf) (root_le Oa.out hp)
          clear hbf
          go_enter Try.func84, Try.ntmps84
          go_wp2_with (go_at_call 93; (with_reducible refine HB.out.mono ?_); rintro e' w1 ⟨rfl, hb1⟩)
          have hd : Below w.heap.size w w1.drew := hb1.drew
          have h1 : (HT.node c' k' v' m' f').In w1.drew := Hb.out.below hd
          have h2 : (HT.node c k v m f).In w1.drew := Ha.out.below hd
          obtain ⟨c0, c1, _, c3, c4⟩ := node_cells h1.1
          have hcl := heap_lt h1.1
          have Hn2 : Hid ((HT.node c' k' v' m' f').cnt + (HT.node c k v m f).cnt ≤ n + 1) := hid (by have := Hn.out; omega)
          obtain ⟨xm, hxm⟩ := m'.ptr_pointer
          obtain ⟨xf, hxf⟩ := f'.ptr_pointer
          have H1m := hid h1.2.1
          have HJ := hid (IH.out f' (.node c k v m f) w1.drew (by have := Hn.out; simp only [HT.cnt] at this ⊢; omega) (by omega) h1.2.2 h2 Ob.out.2.2 Oa.out)
          rw [hxf] at HJ
          rw [HT.ptr] at HJ
          rw [hxm] at c3
          rw [hxf] at c4
          have Hxm := hid hxm
          clear h1 h2 hxm hxf
          go_region_held3 (fun w' => w'.cell? ⟨c', 0, none⟩ = some (.int .i64 k') ∧ w'.cell? ⟨c', 1, none⟩ = some (.int .i64 v') ∧ w'.cell? ⟨c', 3, none⟩ = some (.pointer xm) ∧ w'.cell? ⟨c', 4, none⟩ = some (.pointer xf))
            (first
              | go_keep
              | exact s4
              | exact s3)
            (first
              | (go_at_call 84; (with_reducible refine HJ.out.mono ?_); rintro e' w3 ⟨T, xt, rfl, hxt, hT, oT, pT, hb3⟩; have HPT := hid pT; have HOT := hid oT; have s3 := held4 hb3 hcl c0 c1 c3 c4; have HN := hid (newNode_any k' v' m' T w3 (H1m.out.below hb3) hT (join_cnt pT Hn2.out hm)); rw [Hxm.out, hxt] at HN; clear pT oT hT hxt)
              | (go_at_call 85; (with_reducible refine HN.out.mono ?_); intro e' w5 hN; obtain ⟨g, rfl⟩ := node_ptr hN; have s4 := held4 (bt hb3 (node_below hN)) hcl c0 c1 c3 c4; have HN5 := hid hN; clear hN))
          go_wp2_with fail
          go_ret
          exact joined_node Ob.out HOT.out HPT.out Hle.out (bt hd hb3) List.perm_append_comm HN5.out
/-- The heap in block hb is the tree T. -/
def HeapAt (w : World) (hb : Nat) (T : HT) : Prop := w.heap[hb]? = some (.cells #[T.ptr] 142 (0, 0)) ∧ T.In w ∧ T.Ord
theorem box_one {w : World} {B : Nat} {x : Value} {T : TypeId} (h : w.heap[B]? = some (.cells #[x] T (0, 0))) : w.cell? ⟨B, 0, none⟩ = some x ∧ w.frozen? ⟨B, 0, none⟩ = false :=
  ⟨by rw [cell_of_row _ _ _ _ _ _ h]; rfl, frozen_of_row _ _ _ _ _ h⟩
theorem box_put {w : World} {B : Nat} {x u : Value} {T : TypeId} (h : w.heap[B]? = some (.cells #[x] T (0, 0))) : (w.setCell ⟨B, 0, none⟩ u).heap[B]? = some (.cells #[u] T (0, 0)) := heap_setCell_same w B 0 _ T u h
theorem box_at {w w' : World} {B k : Nat} {o : Obj} (h : w.heap[B]? = some o) (hb : Below k w w') (hk : B < k) : w'.heap[B]? = some o := (hb.block B hk).trans h
/-- A call that kept all but block hb, behind a store there. -/
theorem gb_put {w w1 : World} {B : Nat} {u : Value} (h : Below w.heap.size w w1) : w.grownBy (w1.setCell ⟨B, 0, none⟩ u) (some B) :=
  ⟨h.os, h.tape, h.output, Nat.le_trans h.size (by simp [World.setCell]), fun k hk hne => (Below.heap_setCell _ _ _ _ (fun e => hne (by rw [e]))).trans (h.block k hk)⟩
theorem in_put {w : World} {B : Nat} {x u : Value} {T : HT} (h : T.In w) (hB : w.heap[B]? = some (.cells #[x] 142 (0, 0))) : T.In (w.setCell ⟨B, 0, none⟩ u) := by
  refine h.keep fun b c hc => ?_
  rw [Below.heap_setCell _ _ _ _ ?_]
  · exact hc
  · rintro rfl
    rw [hB] at hc
    simp at hc
theorem undrew {w w' : World} (h : Below w.drew.heap.size w.drew w') : Below w.heap.size w w' := ⟨h.os, h.tape, h.output, h.size, h.block⟩
theorem len_any (hb : Nat) (T : HT) (w : World) (h : HeapAt w hb T) : Calls Try.prog 74 #[.pointer (some ⟨hb, 0, none⟩)] w fun e w' => e = .returned (.int .i64 (T.cnt : Int)) ∧ w = w' := by
  obtain ⟨c0, _⟩ := box_one h.1
  have C := hid (count_any T w h.2.1)
  obtain ⟨x, hx⟩ := T.ptr_pointer
  obtain ⟨p, hp⟩ : ∃ p, T.cnt = p := ⟨_, rfl⟩
  rw [hp] at C ⊢
  rw [hx] at c0 C
  clear h hx hp
  go_enter Try.func74, Try.ntmps74
  go_wp2_with (go_at_call 86; (with_reducible refine C.out.mono ?_); rintro e' w' ⟨rfl, rfl⟩)
  go_ret
  exact ⟨rfl, rfl⟩
def PushAns (hb : Nat) (k v : Int) (T : HT) (w : World) (e : Ending) (w' : World) : Prop :=
  e = .returned (.tuple #[]) ∧ ∃ T' : HT, HeapAt w' hb T' ∧ T'.all.Perm ((k, v) :: T.all) ∧ w.grownBy w' (some hb)
theorem node_one {k v : Int} {w w' : World} {e : Ending} (h : NodeAns k v .nil .nil w e w') : ∃ g, e = .returned (.pointer (some ⟨g, 0, none⟩)) ∧ (HT.node g k v .nil .nil).In w' ∧ Below w.heap.size w w' := by
  obtain ⟨g, m, f, rfl, h1, h2, h3⟩ := h
  rcases h2 with ⟨rfl, rfl⟩ | ⟨rfl, rfl⟩ <;> exact ⟨g, rfl, h1, h3⟩
theorem push_end {hb : Nat} {k v : Int} {T T' : HT} {g : Nat} {w w1 : World} {u : Option Addr} (hu : T'.ptr = .pointer u) (h0 : HeapAt w hb T) (hb1 : Below w.heap.size w w1) (h1 : T'.In w1) (h2 : T'.Ord) (h3 : T'.all.Perm (T.all ++ (HT.node g k v .nil .nil).all)) :
    PushAns hb k v T w (.returned (.tuple #[])) (w1.setCell ⟨hb, 0, none⟩ (.pointer u)) := by
  have h4 := box_at h0.1 hb1 (heap_lt h0.1)
  refine ⟨rfl, T', ⟨?_, in_put h1 h4, h2⟩, h3.trans ?_, gb_put hb1⟩
  · rw [hu]; exact box_put h4
  · simp only [HT.all, List.append_nil]
    exact List.perm_append_comm
theorem push_any (hb : Nat) (k v : Int) (T : HT) (w : World) (h : HeapAt w hb T) (hc : T.cnt ≤ 900000) : Calls Try.prog 73 #[.pointer (some ⟨hb, 0, none⟩), .int .i64 k, .int .i64 v] w (PushAns hb k v T w) := by
  have H := hid h
  have hlt := heap_lt h.1
  have Hc := hid hc
  obtain ⟨c0, f0⟩ := box_one h.1
  obtain ⟨x, hx⟩ := T.ptr_pointer
  rw [hx] at c0
  have Hx := hid hx
  have HN := hid (newNode_any k v .nil .nil w.drew trivial trivial (by simp [HT.cnt]))
  rw [HT.ptr] at HN
  clear h hc hx
  go_enter Try.func73, Try.ntmps73
  go_wp2_with fail
  go_region_with (first
    | (go_at_call 85; (with_reducible refine HN.out.mono ?_); intro e' w3 hN; obtain ⟨g, rfl, hg, hb3⟩ := node_one hN; have hb3' := undrew hb3; have c3 := (hb3'.cell (p := ⟨hb, 0, none⟩) hlt).trans c0; have hs3 := hb3'.size; have HJ := hid (join_any 1000000 T (.node g k v .nil .nil) w3 (by have := Hc.out; simp only [HT.cnt]; omega) (Nat.le_refl _) (H.out.2.1.below hb3') hg H.out.2.2 ⟨by simp [HT.all], trivial, trivial⟩); rw [Hx.out, HT.ptr] at HJ; clear hN hg hb3)
    | (go_at_call 84; (with_reducible refine HJ.out.mono ?_); rintro e' w5 ⟨T', u, rfl, hu, hT, oT, pT, hb5⟩; have hb5' := bt hb3' hb5; have c5 := (hb5'.cell (p := ⟨hb, 0, none⟩) hlt).trans c0; have f5 := (hb5'.frozen (p := ⟨hb, 0, none⟩) hlt).trans f0; have HE := hid (push_end hu H.out hb5' hT oT pT); clear hu hT oT pT))
  all_goals (go_wp2_with fail; go_end0; exact HE.out)
theorem pop_none (hb : Nat) (w : World) (h : HeapAt w hb .nil) : Calls Try.prog 75 #[.pointer (some ⟨hb, 0, none⟩)] w fun e w' => e = .returned (.tuple #[.int .i64 0, .int .i64 0, .bool false]) ∧ w = w' := by
  have HL : Hid (Calls Try.prog 74 #[.pointer (some ⟨hb, 0, none⟩)] w fun e w' => e = .returned (.int .i64 0) ∧ w = w') := hid (len_any hb .nil w h)
  clear h
  go_enter Try.func75, Try.ntmps75
  go_wp2_with (go_at_call 74; (with_reducible refine HL.out.mono ?_); rintro e' w' ⟨rfl, rfl⟩)
  go_ret3
  exact ⟨rfl, rfl⟩
def PopAns (hb : Nat) (k v : Int) (m f : HT) (w : World) (e : Ending) (w' : World) : Prop :=
  e = .returned (.tuple #[.int .i64 k, .int .i64 v, .bool true]) ∧ ∃ T' : HT, HeapAt w' hb T' ∧ T'.all.Perm (m.all ++ f.all) ∧ w.grownBy w' (some hb)
theorem HeapAt.drewN {w : World} {hb : Nat} {T : HT} (h : HeapAt w hb T) (n : Nat) : HeapAt (w.drewN n) hb T := ⟨h.1, HT.In.keep (w := w) (w' := w.drewN n) (fun _ _ h => h) h.2.1, h.2.2⟩
theorem PopAns.drewN {hb : Nat} {k v : Int} {m f : HT} {w w' : World} {e : Ending} (h : PopAns hb k v m f w e w') (n : Nat) : PopAns hb k v m f w e (w'.drewN n) := by
  obtain ⟨h1, T, h2, h3, h4⟩ := h
  exact ⟨h1, T, h2.drewN n, h3, ⟨h4.os, h4.tape, h4.output, h4.size, h4.block⟩⟩
theorem pop_end {hb b : Nat} {k v : Int} {m f T' : HT} {w w1 : World} {u : Option Addr} (hu : T'.ptr = .pointer u) (h0 : HeapAt w hb (.node b k v m f)) (hb1 : Below w.heap.size w w1) (h1 : T'.In w1) (h2 : T'.Ord) (h3 : T'.all.Perm (m.all ++ f.all)) :
    PopAns hb k v m f w (.returned (.tuple #[.int .i64 k, .int .i64 v, .bool true])) (w1.setCell ⟨hb, 0, none⟩ (.pointer u)) := by
  have h4 := box_at h0.1 hb1 (heap_lt h0.1)
  refine ⟨rfl, T', ⟨?_, in_put h1 h4, h2⟩, h3, gb_put hb1⟩
  rw [hu]; exact box_put h4
theorem pop_some (hb : Nat) (b : Nat) (k v : Int) (m f : HT) (w : World) (h : HeapAt w hb (.node b k v m f)) (hc : (HT.node b k v m f).cnt ≤ 900000) : Calls Try.prog 75 #[.pointer (some ⟨hb, 0, none⟩)] w (PopAns hb k v m f w) := by
  have H := hid h
  have hlt := heap_lt h.1
  have hbl := heap_lt h.2.1.1
  obtain ⟨c0, f0⟩ := box_one h.1
  rw [HT.ptr] at c0
  obtain ⟨d0, d1, _, d3, d4⟩ := node_cells h.2.1.1
  obtain ⟨xm, hxm⟩ := m.ptr_pointer
  obtain ⟨xf, hxf⟩ := f.ptr_pointer
  have hne : hb ≠ b := by
    rintro rfl
    have := h.1.symm.trans h.2.1.1
    simp at this
  have hne' : b ≠ hb := fun e => hne e.symm
  have HL := hid (len_any hb _ w h)
  obtain ⟨p, hp⟩ : ∃ p, (HT.node b k v m f).cnt = p := ⟨_, rfl⟩
  rw [hp] at HL
  have hp0 : ((p : Int) == 0) = false := by have : 0 < p := by rw [← hp, HT.cnt]; omega
                                            simp; omega
  have HJ := hid (join_any 1000000 m f w.drew (by simp only [HT.cnt] at hc; omega) (Nat.le_refl _) (HT.In.keep (w := w) (w' := w.drew) (fun _ _ h => h) h.2.1.2.1) (HT.In.keep (w := w) (w' := w.drew) (fun _ _ h => h) h.2.1.2.2) h.2.2.2.1 h.2.2.2.2)
  rw [hxm, hxf] at HJ
  rw [hxm] at d3
  rw [hxf] at d4
  clear h hc hxm hxf hp
  go_enter Try.func75, Try.ntmps75
  go_wp2_with (go_at_call 74; (with_reducible refine HL.out.mono ?_); rintro e' w' ⟨rfl, rfl⟩)
  go_region_with (go_at_call 84; (with_reducible refine HJ.out.mono ?_); rintro e' w5 ⟨T', u, rfl, hu, hT, oT, pT, hb5⟩; have hb5' := undrew hb5; have c5 := (hb5'.cell (p := ⟨hb, 0, none⟩) hlt).trans c0; have f5 := (hb5'.frozen (p := ⟨hb, 0, none⟩) hlt).trans f0; have d05 := (hb5'.cell (p := ⟨b, 0, none⟩) hbl).trans d0; have d15 := (hb5'.cell (p := ⟨b, 1, none⟩) hbl).trans d1; have HE := hid (pop_end (b := b) hu H.out hb5' hT oT pT); clear hu hT oT pT)
  all_goals (go_wp2_with fail; go_big_quiet (fail); go_wp2_with fail; go_ret3; exact HE.out.drewN _)
end Go.Proofs.Ytkemcgbedapkcaa

/- graph.Check, Ends, Out, Back. -/
namespace Go.Proofs.Ytkemcgbedapkcaa
open Go.RowKit
set_option maxHeartbeats 6400000
set_option maxRecDepth 100000
theorem isBelow_yes (n m : Int) (w : World) (h : 0 ≤ n) (h' : n < m) : Calls Try.prog 58 #[.int .i64 n, .int .i64 m] w fun e w' => e = .returned (.bool true) ∧ w = w' := by
  have t1 : decide (0 ≤ n) = true := by simpa using h
  have t2 : decide (n < m) = true := by simpa using h'
  clear h h'
  go_enter Try.func58, Try.ntmps58
  go_wp2_with fail
  go_ret
  exact ⟨rfl, rfl⟩
theorem isBelow_no (n m : Int) (w : World) (h : ¬(0 ≤ n ∧ n < m)) : Calls Try.prog 58 #[.int .i64 n, .int .i64 m] w fun e w' => e = .returned (.bool false) ∧ w = w' := by
  by_cases h0 : 0 ≤ n
  · have t1 : decide (0 ≤ n) = true := by simpa using h0
    have t2 : decide (n < m) = false := by simp; omega
    clear h h0
    go_enter Try.func58, Try.ntmps58
    go_wp2_with fail
    go_ret
    exact ⟨rfl, rfl⟩
  · have t1 : decide (0 ≤ n) = false := by simpa using h0
    clear h h0
    go_enter Try.func58, Try.ntmps58
    go_wp2_with fail
    go_ret
    exact ⟨rfl, rfl⟩
theorem checkLink_any (x : Lnk) (nd : Int) (w : World) : Calls Try.prog 41 #[.agg #[.int .i64 x.a, .int .i64 x.b, .int .i64 x.m, .int .i64 x.c], .int .i64 nd] w fun e w' => e = .returned (.int .i64 (lnkErr nd x)) ∧ Below w.heap.size w w' := by
  obtain ⟨a, b, m, c⟩ := x
  have b1 : Below w.heap.size w (w.alloc (.cells #[.int .i64 a, .int .i64 b, .int .i64 m, .int .i64 c] 49)) := Below.alloc (Below.refl _ _) (Nat.le_refl _) _
  by_cases ha : 0 ≤ a ∧ a < nd
  · have HA := hid (fun w => isBelow_yes a nd w ha.1 ha.2)
    by_cases hb : 0 ≤ b ∧ b < nd
    · have HB := hid (fun w => isBelow_yes b nd w hb.1 hb.2)
      by_cases hab : a = b
      · subst hab
        have Q : lnkErr nd ⟨a, a, m, c⟩ = 4 := by unfold lnkErr; rw [if_neg (by simp)]
        rw [Q]
        clear Q ha hb
        go_enter Try.func41, Try.ntmps41
        go_wp2_with (go_at_call 58; (with_reducible (first | refine (HA.out _).mono ?_ | refine (HB.out _).mono ?_)); rintro _ _ ⟨rfl, rfl⟩)
        go_ret
        exact ⟨rfl, b1⟩
      · have t1 : (a == b) = false := by simpa using hab
        by_cases hm1 : m < 1
        · have t2 : decide (m < 1) = true := by simpa using hm1
          have Q : lnkErr nd ⟨a, b, m, c⟩ = 1 := by unfold lnkErr; rw [if_pos (by simp; omega), if_neg (by simp; omega)]
          rw [Q]
          clear Q ha hb hab hm1
          go_enter Try.func41, Try.ntmps41
          go_wp2_with (go_at_call 58; (with_reducible (first | refine (HA.out _).mono ?_ | refine (HB.out _).mono ?_)); rintro _ _ ⟨rfl, rfl⟩)
          go_ret
          exact ⟨rfl, b1⟩
        · have t2 : decide (m < 1) = false := by simpa using hm1
          by_cases hm2 : 16777216 < m
          · have t3 : decide (16777216 < m) = true := by simpa using hm2
            have Q : lnkErr nd ⟨a, b, m, c⟩ = 1 := by unfold lnkErr; rw [if_pos (by simp; omega), if_neg (by simp; omega)]
            rw [Q]
            clear Q ha hb hab hm1 hm2
            go_enter Try.func41, Try.ntmps41
            go_wp2_with (go_at_call 58; (with_reducible (first | refine (HA.out _).mono ?_ | refine (HB.out _).mono ?_)); rintro _ _ ⟨rfl, rfl⟩)
            go_ret
            exact ⟨rfl, b1⟩
          · have t3 : decide (16777216 < m) = false := by simpa using hm2
            by_cases hc1 : c < 0
            · have t4 : decide (c < 0) = true := by simpa using hc1
              have Q : lnkErr nd ⟨a, b, m, c⟩ = 1 := by unfold lnkErr; rw [if_pos (by simp; omega), if_neg (by simp; omega)]
              rw [Q]
              clear Q ha hb hab hm1 hm2 hc1
              go_enter Try.func41, Try.ntmps41
              go_wp2_with (go_at_call 58; (with_reducible (first | refine (HA.out _).mono ?_ | refine (HB.out _).mono ?_)); rintro _ _ ⟨rfl, rfl⟩)
              go_ret
              exact ⟨rfl, b1⟩
            · have t4 : decide (c < 0) = false := by simpa using hc1
              by_cases hc2 : 62 < c
              · have t5 : decide (62 < c) = true := by simpa using hc2
                have Q : lnkErr nd ⟨a, b, m, c⟩ = 1 := by unfold lnkErr; rw [if_pos (by simp; omega), if_neg (by simp; omega)]
                rw [Q]
                clear Q ha hb hab hm1 hm2 hc1 hc2
                go_enter Try.func41, Try.ntmps41
                go_wp2_with (go_at_call 58; (with_reducible (first | refine (HA.out _).mono ?_ | refine (HB.out _).mono ?_)); rintro _ _ ⟨rfl, rfl⟩)
                go_ret
                exact ⟨rfl, b1⟩
              · have t5 : decide (62 < c) = false := by simpa using hc2
                have Q : lnkErr nd ⟨a, b, m, c⟩ = 0 := by unfold lnkErr; rw [if_pos (by simp; omega), if_pos (by simp; omega)]
                rw [Q]
                clear Q ha hb hab hm1 hm2 hc1 hc2
                go_enter Try.func41, Try.ntmps41
                go_wp2_with (go_at_call 58; (with_reducible (first | refine (HA.out _).mono ?_ | refine (HB.out _).mono ?_)); rintro _ _ ⟨rfl, rfl⟩)
                go_ret
                exact ⟨rfl, b1⟩
    · have HB := hid (fun w => isBelow_no b nd w hb)
      have Q : lnkErr nd ⟨a, b, m, c⟩ = 4 := by unfold lnkErr; rw [if_neg (by simp; omega)]
      rw [Q]
      clear Q ha hb
      go_enter Try.func41, Try.ntmps41
      go_wp2_with (go_at_call 58; (with_reducible (first | refine (HA.out _).mono ?_ | refine (HB.out _).mono ?_)); rintro _ _ ⟨rfl, rfl⟩)
      go_ret
      exact ⟨rfl, b1⟩
  · have HA := hid (fun w => isBelow_no a nd w ha)
    have Q : lnkErr nd ⟨a, b, m, c⟩ = 4 := by unfold lnkErr; rw [if_neg (by simp; omega)]
    rw [Q]
    clear Q ha
    go_enter Try.func41, Try.ntmps41
    go_wp2_with (go_at_call 58; (with_reducible refine (HA.out _).mono ?_); rintro _ _ ⟨rfl, rfl⟩)
    go_ret
    exact ⟨rfl, b1⟩
/-- What checkSizes answers. -/
def sizeErr (nd : Int) (n : Nat) : Int := if 120 < n then 6 else if nd < 1 ∨ 40 < nd then 1 else 0
theorem checkSizes_any (nd : Int) (A : Option Addr) (n c : Nat) (w : World) : Calls Try.prog 40 #[.agg #[.int .i64 nd, .slice A n c]] w fun e w' => e = .returned (.int .i64 (sizeErr nd n)) ∧ Below w.heap.size w w' := by
  have b1 : Below w.heap.size w (w.alloc (.cells #[.int .i64 nd, .slice A n c] 24)) := Below.alloc (Below.refl _ _) (Nat.le_refl _) _
  by_cases hn : 120 < n
  · have t1 : decide ((120 : Int) < (n : Int)) = true := by simp; omega
    have Q : sizeErr nd n = 6 := by unfold sizeErr; rw [if_pos hn]
    rw [Q]
    clear Q hn
    go_enter Try.func40, Try.ntmps40
    go_wp2_with fail
    go_ret
    exact ⟨rfl, b1⟩
  · have t1 : decide ((120 : Int) < (n : Int)) = false := by simp; omega
    by_cases h1 : nd < 1
    · have t2 : decide (nd < 1) = true := by simpa using h1
      have Q : sizeErr nd n = 1 := by unfold sizeErr; rw [if_neg hn, if_pos (.inl h1)]
      rw [Q]
      clear Q hn h1
      go_enter Try.func40, Try.ntmps40
      go_wp2_with fail
      go_ret
      exact ⟨rfl, b1⟩
    · have t2 : decide (nd < 1) = false := by simpa using h1
      by_cases h2 : 40 < nd
      · have t3 : decide (40 < nd) = true := by simpa using h2
        have Q : sizeErr nd n = 1 := by unfold sizeErr; rw [if_neg hn, if_pos (.inr h2)]
        rw [Q]
        clear Q hn h1 h2
        go_enter Try.func40, Try.ntmps40
        go_wp2_with fail
        go_ret
        exact ⟨rfl, b1⟩
      · have t3 : decide (40 < nd) = false := by simpa using h2
        have Q : sizeErr nd n = 0 := by unfold sizeErr; rw [if_neg hn, if_neg (by omega)]
        rw [Q]
        clear Q hn h1 h2
        go_enter Try.func40, Try.ntmps40
        go_wp2_with fail
        go_ret
        exact ⟨rfl, b1⟩
theorem check_any (nd : Int) (A : Option Addr) (n c : Nat) (l : List Lnk) (w : World) (hr : RLnk w w.heap.size A n l) : Calls Try.prog 26 #[.agg #[.int .i64 nd, .slice A n c]] w fun e w' => e = .returned (.tuple #[.int .i64 (checkS nd l).1, .int .i64 (checkS nd l).2]) ∧ Below w.heap.size w w' := by
  have HS := hid (fun w => checkSizes_any nd A n c w)
  have b1 : Below w.heap.size w (w.alloc (.cells #[.int .i64 nd, .slice A n c] 24)) := Below.alloc (Below.refl _ _) (Nat.le_refl _) _
  have hl := hr.1
  by_cases hs : sizeErr nd n = 0
  · have Q : checkS nd l = chk nd l 0 := by
      unfold sizeErr at hs; unfold checkS; rw [hl]
      split at hs
      · cases hs
      · split at hs
        · cases hs
        · rw [if_neg ‹_›, if_neg ‹_›]
    have hn : n ≤ 120 := by
      unfold sizeErr at hs
      split at hs
      · cases hs
      · omega
    rw [Q]
    have HR := hid hr
    rw [hs] at HS
    clear hr Q hs
    have HX := hid (fun x w => checkLink_any x nd w)
    go_enter Try.func26, Try.ntmps26
    go_wp2_with (go_at_call 40; (with_reducible refine (HS.out _).mono ?_); rintro e' w1 ⟨rfl, hb1⟩; have hb1' := b1.trans (hb1.mono (by simp)); obtain ⟨g0, g1, _⟩ := box_cells (box_below (heap_alloc_new w _) hb1 (by simp)))
    go_loopw [16] (fun i wr => ∃ (k : Nat), k ≤ n ∧ i = .int .i64 k ∧ Hid (chk nd l 0 = chk nd (l.drop k) k) ∧ Below w1.heap.size w1 wr) (fun i _ => n - (intOf i).toNat)
    case atStart => exact ⟨0, Nat.zero_le _, rfl, rfl, Below.refl _ _⟩
    case round =>
      obtain ⟨k, hk, rfl, HC, hbel⟩ := hrel
      have hs1 := hb1.size
      have hs := hbel.size
      simp at hs1
      have hlo : w.heap.size < wr.heap.size := by omega
      by_cases hlt : k < n
      · obtain ⟨x, hx⟩ : ∃ x, l[k]? = some x := ⟨l[k]'(by rw [hl]; omega), List.getElem?_eq_getElem _⟩
        obtain ⟨b, off, rfl, hb, hc⟩ := (HR.out.below (hb1'.trans (hbel.mono (by omega)))).2 (by omega)
        obtain ⟨c0, c1, c2, c3⟩ := hc k x hx
        have e0 := (hbel.cell (p := ⟨w.heap.size, 0, none⟩) (by show w.heap.size < _; omega)).trans g0
        have HQ := hid (HC.out.trans (chk_step hx))
        have HXx := hid (fun w => HX.out x w)
        clear hc hx
        by_cases hq : lnkErr nd x = 0
        · rw [hq] at HXx
          have HQ2 := hid (HQ.out.trans (if_pos hq))
          clear hq
          go_wp2_with (go_at_call 41; (with_reducible refine (HXx.out _).mono ?_); rintro e' w2 ⟨rfl, hb2⟩)
          go_roundw
          case rel => exact ⟨k + 1, by omega, by go_num, HQ2.out, hbel.trans ((Below.alloc (Below.refl _ _) (Nat.le_refl _) _).trans (hb2.mono (by simp)) |>.mono hs)⟩
          case measure => simp [intOf]; omega
        · have t : (lnkErr nd x != 0) = true := by simpa using hq
          have HQ2 := hid (HQ.out.trans (if_neg hq))
          obtain ⟨E, hE⟩ : ∃ E, lnkErr nd x = E := ⟨_, rfl⟩
          rw [hE] at HXx HQ2 t
          clear hE hq
          go_wp2_with (go_at_call 41; (with_reducible refine (HXx.out _).mono ?_); rintro e' w2 ⟨rfl, hb2⟩)
          go_ret2
          exact ⟨by rw [HQ2.out]; rfl, hb1'.trans ((hbel.trans ((Below.alloc (Below.refl _ _) (Nat.le_refl _) _).trans (hb2.mono (by simp)) |>.mono hs)).mono (by omega))⟩
      · obtain rfl : k = n := by omega
        have HQ2 : Hid (chk nd l 0 = (-1, 0)) := by
          show _ = _
          rw [HC.out, List.drop_of_length_le (by omega)]; rfl
        go_wp2_with fail
        go_ret2
        exact ⟨by rw [HQ2.out]; rfl, hb1'.trans (hbel.mono (by omega))⟩
  · have Q : checkS nd l = (-1, sizeErr nd n) := by
      unfold sizeErr at hs; unfold checkS sizeErr; rw [hl]
      split
      · rfl
      · rename_i h1
        rw [if_neg h1] at hs
        split
        · rfl
        · rename_i h2
          rw [if_neg h2] at hs
          exact absurd rfl hs
    have t : (sizeErr nd n != 0) = true := by simpa using hs
    obtain ⟨E, hE⟩ : ∃ E, sizeErr nd n = E := ⟨_, rfl⟩
    rw [hE] at HS Q t
    rw [Q]
    clear hE hs Q
    go_enter Try.func26, Try.ntmps26
    go_wp2_with (go_at_call 40; (with_reducible refine (HS.out _).mono ?_); rintro e' w1 ⟨rfl, hb1⟩)
    go_ret2
    exact ⟨rfl, b1.trans (hb1.mono (by simp))⟩
theorem ends_any (nd : Int) (A : Option Addr) (n c : Nat) (l : List Lnk) (e : Int) (w : World) (hr : RLnk w w.heap.size A n l) (hn : n ≤ 1000) (he : e ≤ 9223372036854775807) :
    Calls Try.prog 18 #[.agg #[.int .i64 nd, .slice A n c], .int .i64 e] w fun x w' => x = .returned (.tuple #[.int .i64 (endsS l e).1, .int .i64 (endsS l e).2.1, .bool (endsS l e).2.2]) ∧ Below w.heap.size w w' := by
  have b1 : Below w.heap.size w (w.alloc (.cells #[.int .i64 nd, .slice A n c] 24)) := Below.alloc (Below.refl _ _) (Nat.le_refl _) _
  have hl := hr.1
  by_cases h0 : e < 0
  · have t1 : decide (e < 0) = true := by simpa using h0
    have Q : endsS l e = (0, 0, false) := by unfold endsS; rw [if_pos h0]
    rw [Q]
    clear hr h0 Q hn hl
    go_enter Try.func18, Try.ntmps18
    go_wp2_with fail
    go_ret3
    exact ⟨rfl, b1⟩
  · have t1 : decide (e < 0) = false := by simpa using h0
    obtain ⟨k, rfl⟩ := Int.eq_ofNat_of_zero_le (Int.not_lt.1 h0)
    obtain ⟨q, hq⟩ : ∃ q, k / 2 = q := ⟨_, rfl⟩
    have d3 : wrap64 (q : Int) = (q : Int) := IntWalk.wrap64_in _ (by omega)
    have d1 : Int.tdiv (k : Int) 2 = (q : Int) := by rw [← hq]; rfl
    by_cases h1 : n ≤ q
    · have t2 : decide ((n : Int) ≤ (q : Int)) = true := by simpa using h1
      have Q : endsS l (k : Int) = (0, 0, false) := endsS_none (by omega)
      rw [Q]
      clear hr h0 Q hn hl hq
      go_enter Try.func18, Try.ntmps18
      go_wp2_with fail
      go_ret3
      exact ⟨rfl, b1⟩
    · have t2 : decide ((n : Int) ≤ (q : Int)) = false := by simp; omega
      obtain ⟨x, hx⟩ : ∃ x, l[q]? = some x := ⟨l[q]'(by omega), List.getElem?_eq_getElem _⟩
      have Q := endsS_some (hq ▸ hx : l[k / 2]? = some x)
      rw [Q]
      obtain ⟨b, off, rfl, hb, hc⟩ := hr.2 (by omega)
      obtain ⟨c0, c1, c2, c3⟩ := hc q x hx
      rcases Nat.mod_two_eq_zero_or_one k with hm | hm
      · have d2 : Int.tmod (k : Int) 2 = 0 := by have : Int.tmod (k : Int) 2 = ((k % 2 : Nat) : Int) := rfl; rw [this, hm]; rfl
        rw [if_pos hm]
        clear hc hx hr h0 Q hl hq hm
        go_enter Try.func18, Try.ntmps18
        go_wp2_with (go_big_quiet (fail))
        go_ret3
        exact ⟨rfl, below_drewN (b1.alloc (by simp) _)⟩
      · have d2 : Int.tmod (k : Int) 2 = 1 := by have : Int.tmod (k : Int) 2 = ((k % 2 : Nat) : Int) := rfl; rw [this, hm]; rfl
        rw [if_neg (by omega)]
        clear hc hx hr h0 Q hl hq hm
        go_enter Try.func18, Try.ntmps18
        go_wp2_with (go_big_quiet (fail))
        go_ret3
        exact ⟨rfl, below_drewN (b1.alloc (by simp) _)⟩
theorem out_any (nd : Int) (A : Option Addr) (n c : Nat) (l : List Lnk) (node : Int) (w : World) (hr : RLnk w w.heap.size A n l) (hn : n ≤ 1000) :
    Calls Try.prog 61 #[.agg #[.int .i64 nd, .slice A n c], .int .i64 node] w (OutAns l node w) := by
  have b1 : Below w.heap.size w (w.alloc (.cells #[.int .i64 nd, .slice A n c] 24)) := Below.alloc (Below.refl _ _) (Nat.le_refl _) _
  obtain ⟨i5, hi, hz0, hz1, hz2⟩ := info_parts (show (Try.prog.info? 3).map (fun i => (i.zero, i.size, i.bytes)) = some (some (.int .i64 0), 1, 8) by kernel_rfl)
  have Ai := hid hi; have Az0 := hid hz0; have Az1 := hid hz1; have Az2 := hid hz2
  clear hi hz0 hz1 hz2
  have hl := hr.1
  have HR := hid hr
  clear hr
  obtain ⟨g0, g1, _⟩ := box_cells (heap_alloc_new w (.cells #[.int .i64 nd, .slice A n c] 24))
  obtain ⟨w1, hw1⟩ : ∃ w1, w.alloc (.cells #[.int .i64 nd, .slice A n c] 24) = w1 := ⟨_, rfl⟩
  have hs1 : w1.heap.size = w.heap.size + 1 := by rw [← hw1]; simp
  rw [hw1] at b1 g0 g1
  go_enter Try.func61, Try.ntmps61
  go_wp2_with fail
  go_loopw [5, 14] (fun v i wr => ∃ (k : Nat), k ≤ 2 * n ∧ i = .int .i64 k ∧ wr.ownsRow w1.heap.size 3 1 v (outS l node k).length (icells (outS l node k)) ∧ Below w1.heap.size w1 wr) (fun _ i _ => 2 * n - (intOf i).toNat)
  case atStart => exact ⟨0, Nat.zero_le _, rfl, World.ownsRow_nil _ _ _ _, Below.refl _ _⟩
  case round =>
    obtain ⟨k, hk, rfl, hown, hbel⟩ := hrel
    have hs := hbel.size
    have hlo : w.heap.size < wr.heap.size := by omega
    have e0 := (hbel.cell (p := ⟨w.heap.size, 0, none⟩) (by show w.heap.size < _; omega)).trans g0
    have e1 := (hbel.cell (p := ⟨w.heap.size, 1, none⟩) (by show w.heap.size < _; omega)).trans g1
    have HO := hid hown
    have hkl := outS_len l node k
    have HL := hid hkl
    clear hown hkl
    have HB := hid hbel
    clear hbel
    by_cases hlt : k < 2 * n
    · have HE := hid (ends_any nd A n c l (k : Int) wr ((HR.out.below (b1.trans (HB.out.mono (by omega)))).more (by omega)) hn (by omega))
      have HQ := hid (outS_succ l node k)
      obtain ⟨F, hF⟩ : ∃ F, (endsS l (k : Int)).1 = F := ⟨_, rfl⟩
      rw [hF] at HE HQ
      clear hF
      by_cases hq : F = node
      · subst hq
        have HQ2 : Hid (outS l F (k + 1) = outS l F k ++ [(k : Int)]) := by show _ = _; rw [HQ.out, if_pos rfl]
        go_wp2_with (first
          | (go_at_call 18; (with_reducible refine HE.out.mono ?_); rintro e' w2 ⟨rfl, hb2⟩; have hs2 := hb2.size)
          | (at_builtin; refine wpList_append_own _ rfl (.tmp 27) (.tmp 29) 40 rfl w1.heap.size 3 i5 (.int .i64 0) 1 8 Try.underlying40 Ai.out Az0.out Az1.out Az2.out rfl (by decide) _ _ _ rfl ((own_below HO.out hb2).alloc _) ⟨w2.heap.size, 0, none⟩ 1 1 (icells [(k : Int)]) rfl rfl (new_row (int_row _)) (icells_one _) (by unfold maxLen; have := HL.out; omega) (by have := HL.out; omega) (by simp; omega) ?_; intro v4 w4 hown4 hg4 _; have hb4 : Below w1.heap.size w1 w4 := Below.grown ((HB.out.trans (hb2.mono hs)).alloc (by omega) _) hg4 (by simp; omega) (fun q hq => ((own_below HO.out hb2).lt q hq).1)))
        go_roundw
        case rel => exact ⟨k + 1, by omega, by go_num, by rw [HQ2.out, List.length_append, icells_app]; exact hown4, hb4⟩
        case measure => simp [intOf]; omega
      · have t : (F == node) = false := by simpa using hq
        have HQ2 : Hid (outS l node (k + 1) = outS l node k) := by show _ = _; rw [HQ.out, if_neg hq, List.append_nil]
        go_wp2_with (go_at_call 18; (with_reducible refine HE.out.mono ?_); rintro e' w2 ⟨rfl, hb2⟩)
        go_roundw
        case rel => exact ⟨k + 1, by omega, by go_num, by rw [HQ2.out]; exact own_below HO.out hb2, HB.out.trans (hb2.mono hs)⟩
        case measure => simp [intOf]; omega
    · obtain rfl : k = 2 * n := by omega
      go_wp2_with fail
      go_ret
      exact ⟨_, rfl, by rw [hl]; exact own_mono HO.out (by omega), b1.trans (HB.out.mono (by omega))⟩
end Go.Proofs.Ytkemcgbedapkcaa

/- Cut out of DjA DjB DjC. -/
namespace Go.Proofs.Ytkemcgbedapkcaa
open Go.RowKit
set_option maxHeartbeats 12800000
set_option maxRecDepth 100000
/-- d: what is settled; S: what waits; R: the edges that are still to be looked at. -/
structure DInv (nd : Nat) (l : List Lnk) (dn : List Bool) (s : Nat) (d : List Int) (S : List (Int × Int)) (R : List Int) : Prop where
  len : d.length = nd
  low : ∀ v : Nat, v < nd → -1 ≤ dAt d (v : Int)
  src : 0 ≤ dAt d (s : Int) → dAt d (s : Int) = 0
  via : ∀ v : Nat, v < nd → v ≠ s → 0 ≤ dAt d (v : Int) → ∃ k, k < 2 * l.length ∧ isDn dn (k / 2) = false ∧ tov l k = (v : Int) ∧ 0 ≤ dAt d (frm l k) ∧ dAt d (v : Int) = dAt d (frm l k) + met l k
  fst : dAt d (s : Int) < 0 → (0, (s : Int)) ∈ S ∧ ∀ v : Nat, v < nd → dAt d (v : Int) < 0
  wait : ∀ p ∈ S, ∃ b : Nat, b < nd ∧ p.2 = (b : Int) ∧ 0 ≤ p.1 ∧ p.1 ≤ (lab d : Int) * 16777216 ∧ (∀ v : Nat, v < nd → dAt d (v : Int) ≤ p.1) ∧
    (p = (0, (s : Int)) ∨ ∃ k, k < 2 * l.length ∧ isDn dn (k / 2) = false ∧ tov l k = (b : Int) ∧ 0 ≤ dAt d (frm l k) ∧ p.1 = dAt d (frm l k) + met l k)
  top : ∀ v : Nat, v < nd → 0 ≤ dAt d (v : Int) → dAt d (v : Int) + 16777216 ≤ (lab d : Int) * 16777216
  clo : ∀ k, k < 2 * l.length → isDn dn (k / 2) = false → 0 ≤ dAt d (frm l k) → (k : Int) ∉ R → (0 ≤ dAt d (tov l k) ∧ dAt d (tov l k) ≤ dAt d (frm l k) + met l k) ∨ (dAt d (frm l k) + met l k, tov l k) ∈ S
theorem dAt_rep (nd v : Nat) : dAt (List.replicate nd (-1 : Int)) (v : Int) = -1 := by
  unfold dAt
  rw [List.getD_eq_getElem?_getD, Int.toNat_natCast]
  rcases Nat.lt_or_ge v nd with h | h
  · rw [List.getElem?_replicate, if_pos h]; rfl
  · rw [List.getElem?_eq_none (by simpa using h)]; rfl
theorem lab_rep (nd : Nat) : lab (List.replicate nd (-1 : Int)) = 0 := by
  induction nd with
  | zero => rfl
  | succ n ih => rw [List.replicate_succ]; simp only [lab]; rw [ih]; rfl
theorem DInv.start {nd : Nat} {l : List Lnk} {dn : List Bool} {s : Nat} (hg : GOk nd l) (hs : s < nd) : DInv nd l dn s (List.replicate nd (-1)) [(0, (s : Int))] [] := by
  refine ⟨by simp, fun v _ => by rw [dAt_rep]; omega, fun h => by rw [dAt_rep] at h; omega, fun v _ _ h => by rw [dAt_rep] at h; omega, fun _ => ⟨by simp, fun v _ => by rw [dAt_rep]; omega⟩, fun p hp => ?_, fun v _ h => by rw [dAt_rep] at h; omega, fun k hk _ h => ?_⟩
  · simp only [List.mem_singleton] at hp
    subst hp
    exact ⟨s, hs, rfl, by simp, by rw [lab_rep]; simp, fun v _ => by rw [dAt_rep]; simp, .inl rfl⟩
  · obtain ⟨a, b, x, _, _, hf, _⟩ := edge_facts hg hk
    rw [hf, dAt_rep] at h; omega
theorem DInv.perm {nd : Nat} {l : List Lnk} {dn : List Bool} {s : Nat} {d : List Int} {S S' : List (Int × Int)} {R : List Int} (h : DInv nd l dn s d S R) (hp : S'.Perm S) : DInv nd l dn s d S' R :=
  ⟨h.len, h.low, h.src, h.via, fun h0 => ⟨hp.mem_iff.2 (h.fst h0).1, (h.fst h0).2⟩, fun p hm => h.wait p (hp.mem_iff.1 hm), h.top, fun k hk hu h0 hr => (h.clo k hk hu h0 hr).imp id (fun hm => hp.mem_iff.2 hm)⟩
theorem DInv.done {nd : Nat} {l : List Lnk} {dn : List Bool} {s : Nat} {d : List Int} (h : DInv nd l dn s d [] []) : DistOk nd l dn s d := by
  refine ⟨h.len, h.src ?_, h.low, fun k hk hu h0 => ?_, h.via⟩
  · rcases Int.lt_or_le (dAt d (s : Int)) 0 with h0 | h0
    · have := (h.fst h0).1; simp at this
    · exact h0
  · rcases h.clo k hk hu h0 (by simp) with h1 | h1
    · exact h1
    · simp at h1
/-- A node that has been settled comes up again. -/
theorem DInv.skip {nd : Nat} {l : List Lnk} {dn : List Bool} {s : Nat} {d : List Int} {S : List (Int × Int)} {x : Int} {b : Nat} (h : DInv nd l dn s d ((x, (b : Int)) :: S) []) (h0 : 0 ≤ dAt d (b : Int)) (hb : b < nd) : DInv nd l dn s d S [] := by
  have hw := h.wait (x, (b : Int)) (by simp)
  obtain ⟨_, _, _, _, _, hx, _⟩ := hw
  have hxb := hx b hb
  simp only at hxb
  refine ⟨h.len, h.low, h.src, h.via, fun hs => ?_, fun p hp => h.wait p (by simp [hp]), h.top, fun k hk hu hf hr => ?_⟩
  · have := (h.fst hs).2 b hb; omega
  · rcases h.clo k hk hu hf hr with h1 | h1
    · exact .inl h1
    · rcases List.mem_cons.1 h1 with h2 | h2
      · simp only [Prod.mk.injEq] at h2
        obtain ⟨h3, h4⟩ := h2
        rw [h4]
        exact .inl ⟨h0, by omega⟩
      · exact .inr h2
/-- A node is settled. -/
theorem DInv.take {nd : Nat} {l : List Lnk} {dn : List Bool} {s : Nat} {d : List Int} {S : List (Int × Int)} {x : Int} {b : Nat} (hg : GOk nd l) (h : DInv nd l dn s d ((x, (b : Int)) :: S) []) (h0 : dAt d (b : Int) < 0) (hb : b < nd) (hm : ∀ q ∈ S, x ≤ q.1) :
    DInv nd l dn s (d.set b x) S (outS l (b : Int) (2 * l.length)) ∧ 0 ≤ x ∧ x ≤ 671088640 ∧ lab (d.set b x) = lab d + 1 ∧ ∀ v : Nat, v < nd → dAt (d.set b x) (v : Int) ≤ x := by
  obtain ⟨b', _, hbb, hx0, hx1, hx2, hx3⟩ := h.wait (x, (b : Int)) (by simp)
  simp only at hbb hx0 hx1 hx2 hx3
  obtain rfl : b' = b := by omega
  have hbl : b' < d.length := by rw [h.len]; exact hb
  have hv : ∀ v : Nat, dAt (d.set b' x) (v : Int) = if v = b' then x else dAt d (v : Int) := fun v => dAt_set hbl
  have hlab : lab (d.set b' x) = lab d + 1 := by
    rw [lab_set (dAt_get hbl) hx0, if_pos h0]
  have hll := lab_le (d.set b' x)
  rw [List.length_set, h.len] at hll
  have hnd := hg.2.2.1
  -- an edge that leads here from a settled node
  have hsettled : ∀ {a : Nat}, a < nd → 0 ≤ dAt d (a : Int) → 0 ≤ dAt d (s : Int) := by
    intro a ha h1
    rcases Int.lt_or_le (dAt d (s : Int)) 0 with h2 | h2
    · have := (h.fst h2).2 a ha; omega
    · exact h2
  have hkeep : ∀ {a : Nat}, 0 ≤ dAt d (a : Int) → dAt (d.set b' x) (a : Int) = dAt d (a : Int) := by
    intro a h1
    rw [hv, if_neg (by rintro rfl; omega)]
  refine ⟨⟨by rw [List.length_set]; exact h.len, fun v hvn => ?_, fun hs => ?_, fun v hvn hvs hv0 => ?_, fun hs => ?_, fun p hp => ?_, fun v hvn hv0 => ?_, fun k hk hu hf hr => ?_⟩, hx0, by omega, hlab, fun v hvn => ?_⟩
  · rw [hv]; split; omega; exact h.low v hvn
  · rw [hv] at hs ⊢
    split
    · rename_i hsb
      subst hsb
      rcases hx3 with hx3 | ⟨k, hk, hu, ht, hf, he⟩
      · simp only [Prod.mk.injEq] at hx3; exact hx3.1
      · obtain ⟨a, _, _, _, _, hfa, _, _, ha, _⟩ := edge_facts hg hk
        rw [hfa] at hf
        have := hsettled ha hf; omega
    · rename_i hsb
      rw [if_neg hsb] at hs
      exact h.src hs
  · rw [hv] at hv0
    by_cases hvb : v = b'
    · subst hvb
      rw [hv, if_pos rfl]
      rcases hx3 with hx3 | ⟨k, hk, hu, ht, hf, he⟩
      · simp only [Prod.mk.injEq] at hx3; omega
      · obtain ⟨a, _, _, _, _, hfa, _, _, ha, _⟩ := edge_facts hg hk
        rw [hfa] at hf he
        refine ⟨k, hk, hu, ht, ?_, ?_⟩
        · rw [hfa, hkeep hf]; exact hf
        · rw [hfa, hkeep hf]; exact he
    · rw [if_neg hvb] at hv0
      rw [hv, if_neg hvb]
      obtain ⟨k, hk, hu, ht, hf, he⟩ := h.via v hvn hvs hv0
      obtain ⟨a, _, _, _, _, hfa, _, _, ha, _⟩ := edge_facts hg hk
      rw [hfa] at hf he
      refine ⟨k, hk, hu, ht, ?_, ?_⟩
      · rw [hfa, hkeep hf]; exact hf
      · rw [hfa, hkeep hf]; exact he
  · exfalso
    rw [hv] at hs
    by_cases hsb : s = b'
    · rw [if_pos hsb] at hs; omega
    · rw [if_neg hsb] at hs
      rcases hx3 with hx3 | ⟨k, hk, hu, ht, hf, he⟩
      · simp only [Prod.mk.injEq] at hx3; omega
      · obtain ⟨a, _, _, _, _, hfa, _, _, ha, _⟩ := edge_facts hg hk
        rw [hfa] at hf
        have := hsettled ha hf; omega
  · obtain ⟨c, hc, hpc, hp0, hp1, hp2, hp3⟩ := h.wait p (by simp [hp])
    have hxp := hm p hp
    refine ⟨c, hc, hpc, hp0, by rw [hlab]; omega, fun v hvn => ?_, ?_⟩
    · rw [hv]; split; exact hxp; exact hp2 v hvn
    · rcases hp3 with hp3 | ⟨k, hk, hu, ht, hf, he⟩
      · exact .inl hp3
      · obtain ⟨a, _, _, _, _, hfa, _, _, ha, _⟩ := edge_facts hg hk
        rw [hfa] at hf he
        refine .inr ⟨k, hk, hu, ht, ?_, ?_⟩
        · rw [hfa, hkeep hf]; exact hf
        · rw [hfa, hkeep hf]; exact he
  · rw [hv] at hv0 ⊢
    rw [hlab]
    split
    · omega
    · rename_i hvb
      rw [if_neg hvb] at hv0
      have := h.top v hvn hv0
      omega
  · obtain ⟨a, c, _, _, hends, hfa, hto, hme, ha, hc, _, hm1, _⟩ := edge_facts hg hk
    rw [hfa] at hf ⊢
    rw [hto]
    have hne : a ≠ b' := by
      rintro rfl
      exact hr (mem_outS.2 ⟨k, hk, rfl, by rw [hends]⟩)
    rw [hv a, if_neg hne] at hf ⊢
    have hq := h.clo k hk hu (by rw [hfa]; exact hf) (by simp)
    rw [hfa, hto] at hq
    rcases hq with ⟨h1, h2⟩ | h1
    · rw [hkeep h1]; exact .inl ⟨h1, h2⟩
    · rcases List.mem_cons.1 h1 with h2 | h2
      · simp only [Prod.mk.injEq] at h2
        obtain ⟨h3, h4⟩ := h2
        obtain rfl : c = b' := by omega
        rw [hv, if_pos rfl]
        exact .inl ⟨hx0, by omega⟩
      · exact .inr h2
  · rw [hv]; split; omega; exact hx2 v hvn
/-- An edge out of the node that has just been settled: its end waits from now on. -/
theorem DInv.edge {nd : Nat} {l : List Lnk} {dn : List Bool} {s : Nat} {d : List Int} {S : List (Int × Int)} {R : List Int} {k a b : Nat} {m x : Int} (h : DInv nd l dn s d S ((k : Int) :: R)) (hk : k < 2 * l.length) (hu : isDn dn (k / 2) = false)
    (hf : frm l k = (a : Int)) (ht : tov l k = (b : Int)) (hm : met l k = m) (ha : a < nd) (hb : b < nd) (hm1 : 1 ≤ m) (hm2 : m ≤ 16777216) (hx : dAt d (a : Int) = x) (h0 : 0 ≤ x) (hle : ∀ v : Nat, v < nd → dAt d (v : Int) ≤ x) : DInv nd l dn s d ((x + m, (b : Int)) :: S) R := by
  refine ⟨h.len, h.low, h.src, h.via, fun hs => ⟨by simp [(h.fst hs).1], (h.fst hs).2⟩, fun p hp => ?_, h.top, fun j hj hju hj0 hr => ?_⟩
  · rcases List.mem_cons.1 hp with rfl | hp
    · have := h.top a ha (by omega)
      exact ⟨b, hb, rfl, by simp only; omega, by simp only; omega, fun v hv => by have := hle v hv; simp only; omega, .inr ⟨k, hk, hu, ht, by rw [hf]; omega, by rw [hf, hx, hm]⟩⟩
    · exact h.wait p hp
  · by_cases hjk : j = k
    · subst hjk
      rw [hf, ht, hx, hm]
      exact .inr (by simp)
    · rcases h.clo j hj hju hj0 (by simp only [List.mem_cons, not_or]; exact ⟨by omega, hr⟩) with h1 | h1
      · exact .inl h1
      · exact .inr (by simp [h1])
theorem DInv.shut {nd : Nat} {l : List Lnk} {dn : List Bool} {s : Nat} {d : List Int} {S : List (Int × Int)} {R : List Int} {k : Nat} (h : DInv nd l dn s d S ((k : Int) :: R)) (hu : isDn dn (k / 2) = true) : DInv nd l dn s d S R := by
  refine ⟨h.len, h.low, h.src, h.via, h.fst, h.wait, h.top, fun j hj hju hj0 hr => ?_⟩
  by_cases hjk : j = k
  · subst hjk; rw [hu] at hju; cases hju
  · exact h.clo j hj hju hj0 (by simp only [List.mem_cons, not_or]; exact ⟨by omega, hr⟩)
theorem wraps_u64 (n : Int) (h₀ : 0 ≤ n) (h₁ : n < 2 ^ 64) : IntKind.u64.wrap n = n := by rw [IntKind.wrap_u64]; omega
theorem u64_mask (i : Nat) (hi : i ≤ 64) (m : Int) (hm : m = 2 ^ i - 1) (x : Int) (h₀ : 0 ≤ x) (h₁ : x < 18446744073709551616) : bits .and .u64 x m = x % 2 ^ i := by
  rw [hm]; exact bits_mask .u64 64 (by decide) wraps_u64 i hi x h₀ (by simpa using h₁)
theorem mul64_any (N : Nat) (hN : N ≤ 40) (w : World) : Calls Try.prog 92 #[.int .u64 1, .int .u64 (N : Int)] w fun e w' => e = .returned (.tuple #[.int .u64 0, .int .u64 (N : Int)]) ∧ w = w' := by
  have m0 : bits .and .u64 0 4294967295 = 0 := by rw [u64_mask 32 (by decide) _ (by decide) _ (by decide) (by decide)]; rfl
  have m1 : bits .and .u64 1 4294967295 = 1 := by rw [u64_mask 32 (by decide) _ (by decide) _ (by decide) (by decide)]; rfl
  have mN : bits .and .u64 (N : Int) 4294967295 = (N : Int) := by
    rw [u64_mask 32 (by decide) _ (by decide) _ (by omega) (by omega)]
    exact Int.emod_eq_of_lt (by omega) (by omega)
  have dN : (N : Int) / 4294967296 = 0 := Int.ediv_eq_zero_of_lt (by omega) (by omega)
  have wN : IntKind.u64.wrap (N : Int) = (N : Int) := wraps_u64 _ (by omega) (by omega)
  have w0 : IntKind.u64.wrap 0 = 0 := wraps_u64 _ (by omega) (by omega)
  go_enter Try.func92, Try.ntmps92
  go_wp2_with fail
  go_ret2
  exact ⟨rfl, rfl⟩
theorem mul_any (N : Nat) (hN : N ≤ 40) (w : World) : Calls Try.prog 83 #[.int .u64 1, .int .u64 (N : Int)] w fun e w' => e = .returned (.tuple #[.int .u64 0, .int .u64 (N : Int)]) ∧ w = w' := by
  have HM := hid (mul64_any N hN w)
  go_enter Try.func83, Try.ntmps83
  go_wp2_with (go_at_call 92; (with_reducible refine HM.out.mono ?_); rintro _ _ ⟨rfl, rfl⟩)
  go_ret2
  exact ⟨rfl, rfl⟩
/-- The row while it is filled. -/
def fil (x : Int) (N k : Nat) : List Int := List.replicate k x ++ List.replicate (N - k) 0
theorem fil_len {x : Int} {N k : Nat} (h : k ≤ N) : (fil x N k).length = N := by simp [fil]; omega
theorem fil_zero (x : Int) (N : Nat) : fil x N 0 = List.replicate N 0 := by simp [fil]
theorem fil_all (x : Int) (N : Nat) : fil x N N = List.replicate N x := by simp [fil]
theorem fil_splice {x : Int} {N k m : Nat} (h : k + m ≤ N) : splice (icells (fil x N k)) k (icells (List.replicate m x)) = icells (fil x N (k + m)) := by
  unfold splice icells fil
  rw [List.length_map, List.length_replicate, ← List.map_take, ← List.map_drop, ← List.map_append, ← List.map_append]
  congr 1
  rw [List.take_append_of_le_length (by simp), List.take_of_length_le (by simp), List.drop_append, List.drop_of_length_le (by simp), List.drop_replicate, List.length_replicate, List.nil_append, ← List.append_assoc, List.replicate_append_replicate]
  congr 2
  omega
theorem fil_get {x : Int} {N k j : Nat} (h : j < k) : (fil x N k)[j]? = some x := by
  unfold fil
  rw [List.getElem?_append_left (by simpa using h), List.getElem?_replicate, if_pos h]
theorem one_cells (l : List Int) : ∀ v ∈ icells l, v.oneCell' = true := by
  intro v hv
  simp only [icells, List.mem_map] at hv
  obtain ⟨_, _, rfl⟩ := hv
  rfl
theorem rep_src {w : World} {g : Nat} {x : Int} {m : Nat} (h : ∀ j, j < m → w.cell? ⟨g, j, none⟩ = some (.int .i64 x)) : ∀ j v, (icells (List.replicate m x))[j]? = some v → w.cell? ((⟨g, 0, none⟩ : Addr).add j) = some v := by
  intro j v hv
  rw [Go.WideShapes.add_plain, Nat.zero_add]
  simp only [icells, List.map_replicate, List.getElem?_replicate] at hv
  split at hv
  · rename_i hj
    rw [h j hj]
    exact hv
  · cases hv
theorem min_facts {k N : Nat} (h1 : 1 ≤ k) (h : k < N) : ∃ m, 1 ≤ m ∧ k + m ≤ N ∧ m ≤ k ∧ m = Nat.min k (N - k) := by
  rcases Nat.le_total k (N - k) with h2 | h2
  · exact ⟨k, h1, by omega, Nat.le_refl _, (Nat.min_eq_left h2).symm⟩
  · exact ⟨N - k, by omega, by omega, h2, (Nat.min_eq_right h2).symm⟩
theorem one_min {N : Nat} {x : Int} (h : 1 ≤ N) : (icells (List.replicate 1 x)).length = Nat.min 1 N := by
  rw [icells_len, List.length_replicate]
  exact (Nat.min_eq_left h).symm
theorem repeat_any (N b : Nat) (x : Int) (w : World) (hN0 : 1 ≤ N) (hN : N ≤ 40) (hb : b < w.heap.size) (hx : w.cell? ⟨b, 0, none⟩ = some (.int .i64 x)) :
    Calls Try.prog 72 #[.slice (some ⟨b, 0, none⟩) 1 1, .int .i64 (N : Int)] w fun e w' => ∃ G, e = .returned (.slice (some ⟨G, 0, none⟩) N N) ∧ w.heap.size ≤ G ∧ IRow w' G (List.replicate N x) ∧ Below w.heap.size w w' := by
  have HM := hid (mul_any N hN w)
  have t1 : decide ((N : Int) < 0) = false := by simp
  have t2 : decide ((9223372036854775807 : Int) < (N : Int)) = false := by simp; omega
  have wN : IntKind.u64.wrap (N : Int) = (N : Int) := wraps_u64 _ (by omega) (by omega)
  have wN' : IntKind.i64.wrap (N : Int) = (N : Int) := wraps_i64 _ (by omega) (by omega)
  obtain ⟨i5, hi, hz0, hz1, hz2⟩ := info_parts (show (Try.prog.info? 3).map (fun i => (i.zero, i.size, i.bytes)) = some (some (.int .i64 0), 1, 8) by kernel_rfl)
  have Ai := hid hi; have Az0 := hid hz0; have Az1 := hid hz1; have Az2 := hid hz2
  have Asz : Hid ((Try.prog.info? 3).map (·.size) = some 1) := by show _ = _; rw [hi]; simp [hz1]
  clear hi hz0 hz1 hz2
  have Hx := hid hx
  clear hx
  go_enter Try.func72, Try.ntmps72
  go_wp2_with (first
    | (go_at_call 83; (with_reducible refine HM.out.mono ?_); rintro _ _ ⟨rfl, rfl⟩)
    | (at_make; refine wpList_make_full _ rfl (.tmp 29) (.tmp 29) 40 rfl w.heap.size 3 i5 (.int .i64 0) 1 Try.underlying40 Ai.out Az0.out Az1.out _ _ _ _ N rfl rfl rfl rfl (by rw [Az2.out]; omega) (by unfold maxLen; omega) (Nat.le_refl _) ?_; intro w3 hown3 hg3; have HR3 := hid (IRow.made hown3); have b3 := grown_below hg3; clear hown3 hg3)
    | ((with_reducible refine wpList_copy_splice rfl (.tmp 31) (.tmp 32) 40 40 rfl 3 Try.underlying40 Asz.out (some ⟨w.heap.size, 0, none⟩) (some ⟨b, 0, none⟩) N N 1 1 rfl rfl w.heap.size 0 (icells (List.replicate N 0)) 3 ?c1 (icells (List.replicate 1 x)) ?c2 ?c3 ?c4 (one_cells _) w.heap.size w b3 (Nat.le_refl _) ?c5); (case c1 => exact HR3.out); (case c2 => exact one_min hN0); (case c3 => exact fun _ => ⟨rfl, _, rfl, rep_src (fun j hj => by obtain rfl : j = 0 := (by omega); exact (b3.cell (p := ⟨b, 0, none⟩) hb).trans Hx.out)⟩); (case c4 => simp [icells]; omega); intro w4 HR4 b4))
  have HI4 : Hid (IRow w4 w.heap.size (fil x N 1)) := by
    have := HR4.out
    rw [← fil_zero x N, fil_splice (by omega)] at this
    exact this
  clear HR3 HR4 b3
  go_loopw [8] (fun i wr => ∃ k : Nat, 1 ≤ k ∧ k ≤ N ∧ i = .int .i64 k ∧ Hid (IRow wr w.heap.size (fil x N k)) ∧ Below w.heap.size w wr) (fun i _ => N - (intOf i).toNat)
  case atStart => exact ⟨1, Nat.le_refl _, hN0, by simp [icells], HI4.out, b4⟩
  case round =>
    obtain ⟨k, hk1, hk, rfl, HI, hbw⟩ := hrel
    by_cases hlt : k < N
    · obtain ⟨m, hm0, hm1, hm2, hm3⟩ := min_facts hk1 hlt
      have Hm3 := hid hm3
      clear hm3
      have HS := hid (rep_src (w := wr) (g := w.heap.size) (x := x) (m := m) (fun j hj => HI.out.cell (fil_get (by omega))))
      have hif : (if N = k then (some ⟨w.heap.size, 0, none⟩ : Option Addr) else some ⟨w.heap.size, k, none⟩) = some ⟨w.heap.size, k, none⟩ := if_neg (by omega)
      have hnk : ¬N = k := by omega
      have HID : Hid (wr.drew.heap[w.heap.size]? = some (.cells (icells (fil x N k)).toArray 3 (0, 0))) := HI
      have hbd : Below w.heap.size w wr.drew := hbw.drew
      have HSD : Hid (∀ j v, (icells (List.replicate m x))[j]? = some v → wr.drew.cell? ((⟨w.heap.size, 0, none⟩ : Addr).add j) = some v) := HS
      go_wp2_with fail
      go_region_law (simp only [List.getElem_toArray, List.getElem_cons_succ, List.getElem_cons_zero]; refine step_copy_splice (by rfl) (.tmp 41) (.tmp 44) 40 40 (by rfl) 3 Try.underlying40 Asz.out (some ⟨w.heap.size, k, none⟩) (some ⟨w.heap.size, 0, none⟩) (N - k) (N - k) k N (by go_simp) (by go_simp) w.heap.size k (icells (fil x N k)) 3 HID.out (icells (List.replicate m x)) ?d2 ?d3 ?d4 (one_cells _) w.heap.size w hbd (Nat.le_refl _) ?d5; (case d2 => rw [icells_len, List.length_replicate]; exact Hm3.out); (case d3 => exact fun _ => ⟨rfl, _, rfl, HSD.out⟩); (case d4 => rw [icells_len, icells_len, List.length_replicate, fil_len hk]; exact hm1); intro w5 HR5 b5)
      have HI5 : Hid (IRow w5 w.heap.size (fil x N (k + m))) := by
        have := HR5.out
        rw [fil_splice hm1] at this
        exact this
      have hml : (icells (List.replicate m x)).length = m := by rw [icells_len, List.length_replicate]
      have hwk : IntKind.i64.wrap ((k : Int) + (m : Int)) = ((k + m : Nat) : Int) := by rw [wraps_i64 _ (by omega) (by omega)]; omega
      clear HI HID HR5
      simp only [List.getElem_toArray, List.getElem_cons_succ, List.getElem_cons_zero, Act.put, List.setIfInBounds_toArray, List.set_cons_succ, List.set_cons_zero]
      go_wp2_with fail
      go_roundw
      case rel => exact ⟨k + m, by omega, hm1, by rw [hml, hwk], HI5.out, b5⟩
      case measure => rw [hml, hwk]; clear hml hwk wN wN'; simp [intOf]; omega
    · obtain rfl : k = N := by omega
      go_wp2_with fail
      go_ret
      exact ⟨_, rfl, Nat.le_refl _, by rw [← fil_all]; exact HI.out, hbw⟩
theorem linkOf_any (k q : Nat) (hq : k / 2 = q) (hk : k ≤ 1000000) (w : World) : Calls Try.prog 76 #[.int .i64 (k : Int)] w fun e w' => e = .returned (.int .i64 (q : Int)) ∧ w = w' := by
  have d1 : Int.tdiv (k : Int) 2 = (q : Int) := by rw [← hq]; rfl
  have hq2 : q ≤ 1000000 := by omega
  clear hq hk
  go_enter Try.func76, Try.ntmps76
  go_wp2_with fail
  go_ret
  exact ⟨rfl, rfl⟩
theorem isDown2_any (A : Option Addr) (n c : Nat) (dn : List Bool) (k : Nat) (w : World) (hr : RBl w w.heap.size A n dn) (hk : k ≤ 1000000) : Calls Try.prog 62 #[.slice A n c, .int .i64 (k : Int)] w fun e w' => e = .returned (.bool (isDn dn (k / 2))) ∧ w = w' := by
  obtain ⟨i, hi⟩ : ∃ i, k / 2 = i := ⟨_, rfl⟩
  have HL := hid (linkOf_any k i hi (by omega))
  rw [hi]
  have hi2 : i ≤ 1000000 := by omega
  clear hi
  have hl := hr.1
  by_cases h : i < n
  · have t2 : decide (i < n) = true := by simpa using h
    have t2' : decide ((i : Int) < (n : Int)) = true := by simpa using h
    obtain ⟨x, hx⟩ : ∃ x, dn[i]? = some x := ⟨dn[i]'(by omega), List.getElem?_eq_getElem _⟩
    obtain ⟨b, off, rfl, hb, hc⟩ := hr.2 (by omega)
    have c0 := hc i x hx
    have Q : isDn dn i = x := by unfold isDn; rw [List.getD_eq_getElem?_getD, hx]; rfl
    rw [Q]
    clear hc hx hr Q
    go_enter Try.func62, Try.ntmps62
    go_wp2_with (go_at_call 76; (with_reducible refine (HL.out _).mono ?_); rintro _ _ ⟨rfl, rfl⟩)
    go_ret
    exact ⟨by simp, rfl⟩
  · have t2 : decide (i < n) = false := by simpa using h
    have t2' : decide ((i : Int) < (n : Int)) = false := by simp; omega
    have Q : isDn dn i = false := by unfold isDn; rw [List.getD_eq_getElem?_getD, List.getElem?_eq_none (by omega)]; rfl
    rw [Q]
    clear hr Q
    go_enter Try.func62, Try.ntmps62
    go_wp2_with (go_at_call 76; (with_reducible refine (HL.out _).mono ?_); rintro _ _ ⟨rfl, rfl⟩)
    go_ret
    exact ⟨by simp, rfl⟩
theorem metric_any (nd : Int) (A : Option Addr) (n c : Nat) (l : List Lnk) (k : Nat) (w : World) (hr : RLnk w w.heap.size A n l) (hk : k < 2 * n) (hn : n ≤ 1000) :
    Calls Try.prog 65 #[.agg #[.int .i64 nd, .slice A n c], .int .i64 (k : Int)] w fun e w' => e = .returned (.int .i64 (met l k)) ∧ Below w.heap.size w w' := by
  have b1 : Below w.heap.size w (w.alloc (.cells #[.int .i64 nd, .slice A n c] 24)) := Below.alloc (Below.refl _ _) (Nat.le_refl _) _
  obtain ⟨i, hi⟩ : ∃ i, k / 2 = i := ⟨_, rfl⟩
  have HL := hid (linkOf_any k i hi (by omega))
  have hin : i < n := by omega
  have hl := hr.1
  obtain ⟨x, hx⟩ : ∃ x, l[i]? = some x := ⟨l[i]'(by omega), List.getElem?_eq_getElem _⟩
  obtain ⟨b, off, rfl, hb, hc⟩ := hr.2 (by omega)
  have c0 := ((b1.cell (p := ⟨b, off + i * 4 + 2, none⟩) hb).trans (hc i x hx).2.2.1)
  have Q : met l k = x.m := by unfold met; rw [hi, List.getD_eq_getElem?_getD, hx]; rfl
  rw [Q]
  obtain ⟨m, hm⟩ : ∃ m, x.m = m := ⟨_, rfl⟩
  rw [hm] at c0 ⊢
  clear hc hx hr Q hi hk hm
  go_enter Try.func65, Try.ntmps65
  go_wp2_with fail
  go_big_quiet ((go_at_call 76; exact Calls.quiet_of_same ((HL.out _).mono fun e w' h => ⟨h.1, h.2.symm⟩)))
  go_wp2_with fail
  go_ret
  exact ⟨rfl, below_drewN b1⟩
theorem end_any (nd : Int) (A : Option Addr) (n c : Nat) (l : List Lnk) (k : Nat) (w : World) (hr : RLnk w w.heap.size A n l) (hk : k < 2 * n) (hn : n ≤ 1000) :
    Calls Try.prog 64 #[.agg #[.int .i64 nd, .slice A n c], .int .i64 (k : Int)] w fun e w' => e = .returned (.int .i64 (tov l k)) ∧ Below w.heap.size w w' := by
  have b1 : Below w.heap.size w (w.alloc (.cells #[.int .i64 nd, .slice A n c] 24)) := Below.alloc (Below.refl _ _) (Nat.le_refl _) _
  have HE := hid (ends_any nd A n c l (k : Int) _ (hr.on b1) hn (by omega))
  have Q : tov l k = (endsS l (k : Int)).2.1 := rfl
  rw [Q]
  obtain ⟨x, hx⟩ : ∃ x, (endsS l (k : Int)).1 = x := ⟨_, rfl⟩
  obtain ⟨y, hy⟩ : ∃ y, (endsS l (k : Int)).2.1 = y := ⟨_, rfl⟩
  obtain ⟨z, hz⟩ : ∃ z, (endsS l (k : Int)).2.2 = z := ⟨_, rfl⟩
  rw [hx, hy, hz] at HE
  rw [hy]
  clear hr hk Q hx hy hz
  go_enter Try.func64, Try.ntmps64
  go_wp2_with (go_at_call 18; (with_reducible refine HE.out.mono ?_); rintro _ w2 ⟨rfl, hb2⟩)
  go_ret
  exact ⟨rfl, b1.trans (hb2.mono (by simp))⟩
def isNextS (a b m : Int) : Bool := decide (0 < a ∧ 0 ≤ b ∧ a - b = m)
theorem isNext_any (a b m : Int) (w : World) (ha : -1099511627776 ≤ a ∧ a ≤ 1099511627776) (hb : -1099511627776 ≤ b ∧ b ≤ 1099511627776) : Calls Try.prog 63 #[.int .i64 a, .int .i64 b, .int .i64 m] w fun e w' => e = .returned (.bool (isNextS a b m)) ∧ w = w' := by
  obtain ⟨ha1, ha2⟩ := ha
  obtain ⟨hb1, hb2⟩ := hb
  have hw : IntKind.i64.wrap (a - b) = a - b := by rw [IntKind.wrap_i64]; omega
  by_cases h1 : 0 < a
  · have t1 : decide (0 < a) = true := by simpa using h1
    by_cases h2 : 0 ≤ b
    · have t2 : decide (0 ≤ b) = true := by simpa using h2
      have Q : isNextS a b m = (a - b == m) := by unfold isNextS; rw [Bool.eq_iff_iff]; simp [h1, h2]
      rw [Q]
      clear Q h1 h2
      go_enter Try.func63, Try.ntmps63
      go_wp2_with fail
      go_ret
      exact ⟨ret_bool (by simp), rfl⟩
    · have t2 : decide (0 ≤ b) = false := by simpa using h2
      have Q : isNextS a b m = false := by unfold isNextS; rw [decide_eq_false_iff_not]; omega
      rw [Q]
      clear Q h1 h2
      go_enter Try.func63, Try.ntmps63
      go_wp2_with fail
      go_ret
      exact ⟨rfl, rfl⟩
  · have t1 : decide (0 < a) = false := by simpa using h1
    have Q : isNextS a b m = false := by unfold isNextS; rw [decide_eq_false_iff_not]; omega
    rw [Q]
    clear Q h1
    go_enter Try.func63, Try.ntmps63
    go_wp2_with fail
    go_ret
    exact ⟨rfl, rfl⟩
def hasNodeS (nd : Int) (l : List Lnk) (v : Int) : Bool := decide ((checkS nd l).2 = 0 ∧ 0 ≤ v ∧ v < nd)
theorem hasNode_any (nd : Int) (A : Option Addr) (n c : Nat) (l : List Lnk) (v : Int) (w : World) (hr : RLnk w w.heap.size A n l) :
    Calls Try.prog 60 #[.agg #[.int .i64 nd, .slice A n c], .int .i64 v] w fun e w' => e = .returned (.bool (hasNodeS nd l v)) ∧ Below w.heap.size w w' := by
  have hS := Held.start w nd A n c
  have HK' := hid (fun (w' : World) (h : Held w nd A n c w') => h.calls (check_any nd A n c l w' (h.on hr)))
  obtain ⟨g0, g1⟩ := hS.cells
  obtain ⟨k1, hk1⟩ : ∃ k1, (checkS nd l).1 = k1 := ⟨_, rfl⟩
  obtain ⟨k2, hk2⟩ : ∃ k2, (checkS nd l).2 = k2 := ⟨_, rfl⟩
  have Q : hasNodeS nd l v = decide (k2 = 0 ∧ 0 ≤ v ∧ v < nd) := by unfold hasNodeS; rw [hk2]
  rw [hk1, hk2] at HK'
  rw [Q]
  clear hr hk1 hk2 Q
  by_cases h1 : k2 = 0
  · subst h1
    by_cases h2 : 0 ≤ v
    · have t2 : decide (0 ≤ v) = true := by simpa using h2
      have Q : decide ((0 : Int) = 0 ∧ 0 ≤ v ∧ v < nd) = decide (v < nd) := by simp [h2]
      rw [Q]
      clear Q h2
      go_enter Try.func60, Try.ntmps60
      go_wp2_with (go_at_call 26; (with_reducible refine (HK'.out _ hS).mono ?_); rintro _ w2 ⟨rfl, h2⟩; obtain ⟨g2, g3⟩ := h2.cells)
      go_ret
      exact ⟨by simp, h2.1⟩
    · have t2 : decide (0 ≤ v) = false := by simpa using h2
      have Q : decide ((0 : Int) = 0 ∧ 0 ≤ v ∧ v < nd) = false := by rw [decide_eq_false_iff_not]; omega
      rw [Q]
      clear Q h2
      go_enter Try.func60, Try.ntmps60
      go_wp2_with (go_at_call 26; (with_reducible refine (HK'.out _ hS).mono ?_); rintro _ w2 ⟨rfl, h2⟩; obtain ⟨g2, g3⟩ := h2.cells)
      go_ret
      exact ⟨by simp, h2.1⟩
  · have t1 : (k2 == 0) = false := by simpa using h1
    have Q : decide (k2 = 0 ∧ 0 ≤ v ∧ v < nd) = false := by rw [decide_eq_false_iff_not]; omega
    rw [Q]
    clear Q h1
    go_enter Try.func60, Try.ntmps60
    go_wp2_with (go_at_call 26; (with_reducible refine (HK'.out _ hS).mono ?_); rintro _ w2 ⟨rfl, h2⟩; obtain ⟨g2, g3⟩ := h2.cells)
    go_ret
    exact ⟨by simp, h2.1⟩
end Go.Proofs.Ytkemcgbedapkcaa
