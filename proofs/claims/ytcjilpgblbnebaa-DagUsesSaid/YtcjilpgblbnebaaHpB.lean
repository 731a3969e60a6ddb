/- heap.count, isBefore, newNode. -/
import Derived.Test.YtcjilpgblbnebaaHpA
import Derived.IntWalk
import Derived.Outline
namespace Go.Proofs.Ytcjilpgblbnebaa
open Go.RowKit
set_option maxHeartbeats 3200000
set_option maxRecDepth 100000
theorem count_any (T : HT) (w : World) (h : T.In w) : Calls Try.prog 38 #[T.ptr] w fun e w' => e = .returned (.int .i64 (T.cnt : Int)) ∧ w = w' := by
  cases T with
  | nil =>
    show Calls Try.prog 38 #[.pointer none] w _
    clear h
    go_enter Try.func38, Try.ntmps38
    go_wp2_with fail
    go_ret
    exact ⟨rfl, rfl⟩
  | node b k v m f =>
    obtain ⟨_, _, c2, _, _⟩ := node_cells h.1
    clear h
    have hc : ((HT.node b k v m f).cnt : Int) = 1 + (m.cnt : Int) + (f.cnt : Int) := by simp only [HT.cnt]; omega
    rw [hc]
    clear hc
    show Calls Try.prog 38 #[.pointer (some ⟨b, 0, none⟩)] w _
    go_enter Try.func38, Try.ntmps38
    go_wp2_with fail
    go_ret
    exact ⟨rfl, rfl⟩
theorem before_any (b c : Nat) (k v k' v' : Int) (m f m' f' : HT) (w : World) (h : (HT.node b k v m f).In w) (h' : (HT.node c k' v' m' f').In w) :
    Calls Try.prog 58 #[.pointer (some ⟨b, 0, none⟩), .pointer (some ⟨c, 0, none⟩)] w fun e w' => e = .returned (.bool (bf k v k' v')) ∧ Below w.heap.size w w' := by
  obtain ⟨a0, a1, _, _, _⟩ := node_cells h.1
  obtain ⟨b0, b1, _, _, _⟩ := node_cells h'.1
  clear h h'
  rcases (show (k != k') = true ∨ (k != k') = false by cases (k != k') <;> simp) with t | t
  · go_enter Try.func58, Try.ntmps58
    go_wp2_with fail
    go_big_quiet (fail)
    go_wp2_with fail
    go_big_quiet (fail)
    go_wp2_with fail
    go_ret
    refine ⟨ret_bool ?_, ⟨rfl, rfl, rfl, Nat.le_refl _, fun _ _ => rfl⟩⟩
    unfold bf
    rw [if_pos (by simpa using t)]
  · go_enter Try.func58, Try.ntmps58
    go_wp2_with fail
    go_big_quiet (fail)
    go_wp2_with fail
    go_big_quiet (fail)
    go_wp2_with fail
    go_ret
    refine ⟨ret_bool ?_, ⟨rfl, rfl, rfl, Nat.le_refl _, fun _ _ => rfl⟩⟩
    unfold bf
    rw [if_neg (by simpa using t)]
/-- A node made over two. -/
def NodeAns (k v : Int) (one other : HT) (w : World) (e : Ending) (w' : World) : Prop :=
  ∃ (b : Nat) (m f : HT), e = .returned (.pointer (some ⟨b, 0, none⟩)) ∧ (HT.node b k v m f).In w' ∧ ((m = one ∧ f = other) ∨ (m = other ∧ f = one)) ∧ Below w.heap.size w w'
theorem node_new (k v : Int) (m f : HT) (w : World) (hm : m.In w) (hf : f.In w) : (HT.node w.heap.size k v m f).In (w.alloc (.cells #[.int .i64 k, .int .i64 v, .int .i64 (1 + (m.cnt : Int) + (f.cnt : Int)), m.ptr, f.ptr] 73)) :=
  ⟨heap_alloc_new w _, hm.below ((Below.refl _ _).alloc (Nat.le_refl _) _), hf.below ((Below.refl _ _).alloc (Nat.le_refl _) _)⟩
theorem newNode_any (k v : Int) (one other : HT) (w : World) (h1 : one.In w) (h2 : other.In w) (hs : one.cnt + other.cnt ≤ 1000000) :
    Calls Try.prog 37 #[.int .i64 k, .int .i64 v, one.ptr, other.ptr] w (NodeAns k v one other w) := by
  have C1 := hid (count_any one w h1)
  have C2 := hid (count_any other w h2)
  have N1 := hid (node_new k v one other w h1 h2)
  have N2 := hid (node_new k v other one w h2 h1)
  obtain ⟨p, hp⟩ : ∃ p, one.cnt = p := ⟨_, rfl⟩
  obtain ⟨q, hq⟩ : ∃ q, other.cnt = q := ⟨_, rfl⟩
  obtain ⟨x, hx⟩ := one.ptr_pointer
  obtain ⟨y, hy⟩ := other.ptr_pointer
  rw [hp, hq] at hs
  rw [hp, hx] at C1
  rw [hq, hy] at C2
  rw [hp, hq, hx, hy] at N1 N2
  rw [hx, hy]
  clear hp hq hx hy h1 h2
  rcases (show decide (p < q) = true ∨ decide (p < q) = false by cases decide (p < q) <;> simp) with t | t
  · go_enter Try.func37, Try.ntmps37
    go_wp2_with (first
      | (go_at_call 38; (with_reducible refine C1.out.mono ?_); rintro e' w' ⟨rfl, rfl⟩)
      | (go_at_call 38; (with_reducible refine C2.out.mono ?_); rintro e' w' ⟨rfl, rfl⟩))
    go_ret
    exact ⟨_, _, _, rfl, N2.out, .inr ⟨rfl, rfl⟩, (Below.refl _ _).alloc (Nat.le_refl _) _⟩
  · go_enter Try.func37, Try.ntmps37
    go_wp2_with (first
      | (go_at_call 38; (with_reducible refine C1.out.mono ?_); rintro e' w' ⟨rfl, rfl⟩)
      | (go_at_call 38; (with_reducible refine C2.out.mono ?_); rintro e' w' ⟨rfl, rfl⟩))
    go_ret
    exact ⟨_, _, _, rfl, N1.out, .inl ⟨rfl, rfl⟩, (Below.refl _ _).alloc (Nat.le_refl _) _⟩
end Go.Proofs.Ytcjilpgblbnebaa
