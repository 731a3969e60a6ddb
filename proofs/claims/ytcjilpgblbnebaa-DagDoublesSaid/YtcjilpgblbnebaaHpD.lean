/- heap.Push, Pop, Len. -/
import Derived.Test.YtcjilpgblbnebaaHpC
import Derived.Deep.RegionWith
import Derived.OwnWalk
namespace Go.Proofs.Ytcjilpgblbnebaa
open Go.RowKit
set_option maxHeartbeats 3200000
set_option maxRecDepth 100000
/-- The heap in block hb is the tree T. -/
def HeapAt (w : World) (hb : Nat) (T : HT) : Prop := w.heap[hb]? = some (.cells #[T.ptr] 59 (0, 0)) ∧ T.In w ∧ T.Ord
theorem box_one {w : World} {B : Nat} {x : Value} {T : TypeId} (h : w.heap[B]? = some (.cells #[x] T (0, 0))) : w.cell? ⟨B, 0, none⟩ = some x ∧ w.frozen? ⟨B, 0, none⟩ = false :=
  ⟨by rw [cell_of_row _ _ _ _ _ _ h]; rfl, frozen_of_row _ _ _ _ _ h⟩
theorem box_put {w : World} {B : Nat} {x u : Value} {T : TypeId} (h : w.heap[B]? = some (.cells #[x] T (0, 0))) : (w.setCell ⟨B, 0, none⟩ u).heap[B]? = some (.cells #[u] T (0, 0)) := heap_setCell_same w B 0 _ T u h
theorem box_at {w w' : World} {B k : Nat} {o : Obj} (h : w.heap[B]? = some o) (hb : Below k w w') (hk : B < k) : w'.heap[B]? = some o := (hb.block B hk).trans h
/-- A call that kept all but block hb, behind a store there. -/
theorem gb_put {w w1 : World} {B : Nat} {u : Value} (h : Below w.heap.size w w1) : w.grownBy (w1.setCell ⟨B, 0, none⟩ u) (some B) :=
  ⟨h.os, h.tape, h.output, Nat.le_trans h.size (by simp [World.setCell]), fun k hk hne => (Below.heap_setCell _ _ _ _ (fun e => hne (by rw [e]))).trans (h.block k hk)⟩
theorem in_put {w : World} {B : Nat} {x u : Value} {T : HT} (h : T.In w) (hB : w.heap[B]? = some (.cells #[x] 59 (0, 0))) : T.In (w.setCell ⟨B, 0, none⟩ u) := by
  refine h.keep fun b c hc => ?_
  rw [Below.heap_setCell _ _ _ _ ?_]
  · exact hc
  · rintro rfl
    rw [hB] at hc
    simp at hc
theorem undrew {w w' : World} (h : Below w.drew.heap.size w.drew w') : Below w.heap.size w w' := ⟨h.os, h.tape, h.output, h.size, h.block⟩
theorem len_any (hb : Nat) (T : HT) (w : World) (h : HeapAt w hb T) : Calls Try.prog 27 #[.pointer (some ⟨hb, 0, none⟩)] w fun e w' => e = .returned (.int .i64 (T.cnt : Int)) ∧ w = w' := by
  obtain ⟨c0, _⟩ := box_one h.1
  have C := hid (count_any T w h.2.1)
  obtain ⟨x, hx⟩ := T.ptr_pointer
  obtain ⟨p, hp⟩ : ∃ p, T.cnt = p := ⟨_, rfl⟩
  rw [hp] at C ⊢
  rw [hx] at c0 C
  clear h hx hp
  go_enter Try.func27, Try.ntmps27
  go_wp2_with (go_at_call 38; (with_reducible refine C.out.mono ?_); rintro e' w' ⟨rfl, rfl⟩)
  go_ret
  exact ⟨rfl, rfl⟩
def PushAns (hb : Nat) (k v : Int) (T : HT) (w : World) (e : Ending) (w' : World) : Prop :=
  e = .returned (.tuple #[]) ∧ ∃ T' : HT, HeapAt w' hb T' ∧ T'.all.Perm ((k, v) :: T.all) ∧ w.grownBy w' (some hb)
theorem node_one {k v : Int} {w w' : World} {e : Ending} (h : NodeAns k v .nil .nil w e w') : ∃ g, e = .returned (.pointer (some ⟨g, 0, none⟩)) ∧ (HT.node g k v .nil .nil).In w' ∧ Below w.heap.size w w' := by
  obtain ⟨g, m, f, rfl, h1, h2, h3⟩ := h
  rcases h2 with ⟨rfl, rfl⟩ | ⟨rfl, rfl⟩ <;> exact ⟨g, rfl, h1, h3⟩
theorem push_end {hb : Nat} {k v : Int} {T T' : HT} {g : Nat} {w w1 : World} {u : Option Addr} (hu : T'.ptr = .pointer u) (h0 : HeapAt w hb T) (hb1 : Below w.heap.size w w1) (h1 : T'.In w1) (h2 : T'.Ord) (h3 : T'.all.Perm (T.all ++ (HT.node g k v .nil .nil).all)) :
    PushAns hb k v T w (.returned (.tuple #[])) (w1.setCell ⟨hb, 0, none⟩ (.pointer u)) := by
  have h4 := box_at h0.1 hb1 (heap_lt h0.1)
  refine ⟨rfl, T', ⟨?_, in_put h1 h4, h2⟩, h3.trans ?_, gb_put hb1⟩
  · rw [hu]; exact box_put h4
  · simp only [HT.all, List.append_nil]
    exact List.perm_append_comm
theorem push_any (hb : Nat) (k v : Int) (T : HT) (w : World) (h : HeapAt w hb T) (hc : T.cnt ≤ 900000) : Calls Try.prog 26 #[.pointer (some ⟨hb, 0, none⟩), .int .i64 k, .int .i64 v] w (PushAns hb k v T w) := by
  have H := hid h
  have hlt := heap_lt h.1
  have Hc := hid hc
  obtain ⟨c0, f0⟩ := box_one h.1
  obtain ⟨x, hx⟩ := T.ptr_pointer
  rw [hx] at c0
  have Hx := hid hx
  have HN := hid (newNode_any k v .nil .nil w.drew trivial trivial (by simp [HT.cnt]))
  rw [HT.ptr] at HN
  clear h hc hx
  go_enter Try.func26, Try.ntmps26
  go_wp2_with fail
  go_region_with (first
    | (go_at_call 37; (with_reducible refine HN.out.mono ?_); intro e' w3 hN; obtain ⟨g, rfl, hg, hb3⟩ := node_one hN; have hb3' := undrew hb3; have c3 := (hb3'.cell (p := ⟨hb, 0, none⟩) hlt).trans c0; have hs3 := hb3'.size; have HJ := hid (join_any 1000000 T (.node g k v .nil .nil) w3 (by have := Hc.out; simp only [HT.cnt]; omega) (Nat.le_refl _) (H.out.2.1.below hb3') hg H.out.2.2 ⟨by simp [HT.all], trivial, trivial⟩); rw [Hx.out, HT.ptr] at HJ; clear hN hg hb3)
    | (go_at_call 36; (with_reducible refine HJ.out.mono ?_); rintro e' w5 ⟨T', u, rfl, hu, hT, oT, pT, hb5⟩; have hb5' := bt hb3' hb5; have c5 := (hb5'.cell (p := ⟨hb, 0, none⟩) hlt).trans c0; have f5 := (hb5'.frozen (p := ⟨hb, 0, none⟩) hlt).trans f0; have HE := hid (push_end hu H.out hb5' hT oT pT); clear hu hT oT pT))
  all_goals (go_wp2_with fail; go_end0; exact HE.out)
theorem pop_none (hb : Nat) (w : World) (h : HeapAt w hb .nil) : Calls Try.prog 28 #[.pointer (some ⟨hb, 0, none⟩)] w fun e w' => e = .returned (.tuple #[.int .i64 0, .int .i64 0, .bool false]) ∧ w = w' := by
  have HL : Hid (Calls Try.prog 27 #[.pointer (some ⟨hb, 0, none⟩)] w fun e w' => e = .returned (.int .i64 0) ∧ w = w') := hid (len_any hb .nil w h)
  clear h
  go_enter Try.func28, Try.ntmps28
  go_wp2_with (go_at_call 27; (with_reducible refine HL.out.mono ?_); rintro e' w' ⟨rfl, rfl⟩)
  go_ret3
  exact ⟨rfl, rfl⟩
def PopAns (hb : Nat) (k v : Int) (m f : HT) (w : World) (e : Ending) (w' : World) : Prop :=
  e = .returned (.tuple #[.int .i64 k, .int .i64 v, .bool true]) ∧ ∃ T' : HT, HeapAt w' hb T' ∧ T'.all.Perm (m.all ++ f.all) ∧ w.grownBy w' (some hb)
theorem HeapAt.drewN {w : World} {hb : Nat} {T : HT} (h : HeapAt w hb T) (n : Nat) : HeapAt (w.drewN n) hb T := ⟨h.1, HT.In.keep (w := w) (w' := w.drewN n) (fun _ _ h => h) h.2.1, h.2.2⟩
theorem PopAns.drewN {hb : Nat} {k v : Int} {m f : HT} {w w' : World} {e : Ending} (h : PopAns hb k v m f w e w') (n : Nat) : PopAns hb k v m f w e (w'.drewN n) := by
  obtain ⟨h1, T, h2, h3, h4⟩ := h
  exact ⟨h1, T, h2.drewN n, h3, ⟨h4.os, h4.tape, h4.output, h4.size, h4.block⟩⟩
theorem pop_end {hb b : Nat} {k v : Int} {m f T' : HT} {w w1 : World} {u : Option Addr} (hu : T'.ptr = .pointer u) (h0 : HeapAt w hb (.node b k v m f)) (hb1 : Below w.heap.size w w1) (h1 : T'.In w1) (h2 : T'.Ord) (h3 : T'.all.Perm (m.all ++ f.all)) :
    PopAns hb k v m f w (.returned (.tuple #[.int .i64 k, .int .i64 v, .bool true])) (w1.setCell ⟨hb, 0, none⟩ (.pointer u)) := by
  have h4 := box_at h0.1 hb1 (heap_lt h0.1)
  refine ⟨rfl, T', ⟨?_, in_put h1 h4, h2⟩, h3, gb_put hb1⟩
  rw [hu]; exact box_put h4
theorem pop_some (hb : Nat) (b : Nat) (k v : Int) (m f : HT) (w : World) (h : HeapAt w hb (.node b k v m f)) (hc : (HT.node b k v m f).cnt ≤ 900000) : Calls Try.prog 28 #[.pointer (some ⟨hb, 0, none⟩)] w (PopAns hb k v m f w) := by
  have H := hid h
  have hlt := heap_lt h.1
  have hbl := heap_lt h.2.1.1
  obtain ⟨c0, f0⟩ := box_one h.1
  rw [HT.ptr] at c0
  obtain ⟨d0, d1, _, d3, d4⟩ := node_cells h.2.1.1
  obtain ⟨xm, hxm⟩ := m.ptr_pointer
  obtain ⟨xf, hxf⟩ := f.ptr_pointer
  have hne : hb ≠ b := by
    rintro rfl
    have := h.1.symm.trans h.2.1.1
    simp at this
  have hne' : b ≠ hb := fun e => hne e.symm
  have HL := hid (len_any hb _ w h)
  obtain ⟨p, hp⟩ : ∃ p, (HT.node b k v m f).cnt = p := ⟨_, rfl⟩
  rw [hp] at HL
  have hp0 : ((p : Int) == 0) = false := by have : 0 < p := by rw [← hp, HT.cnt]; omega
                                            simp; omega
  have HJ := hid (join_any 1000000 m f w.drew (by simp only [HT.cnt] at hc; omega) (Nat.le_refl _) (HT.In.keep (w := w) (w' := w.drew) (fun _ _ h => h) h.2.1.2.1) (HT.In.keep (w := w) (w' := w.drew) (fun _ _ h => h) h.2.1.2.2) h.2.2.2.1 h.2.2.2.2)
  rw [hxm, hxf] at HJ
  rw [hxm] at d3
  rw [hxf] at d4
  clear h hc hxm hxf hp
  go_enter Try.func28, Try.ntmps28
  go_wp2_with (go_at_call 27; (with_reducible refine HL.out.mono ?_); rintro e' w' ⟨rfl, rfl⟩)
  go_region_with (go_at_call 36; (with_reducible refine HJ.out.mono ?_); rintro e' w5 ⟨T', u, rfl, hu, hT, oT, pT, hb5⟩; have hb5' := undrew hb5; have c5 := (hb5'.cell (p := ⟨hb, 0, none⟩) hlt).trans c0; have f5 := (hb5'.frozen (p := ⟨hb, 0, none⟩) hlt).trans f0; have d05 := (hb5'.cell (p := ⟨b, 0, none⟩) hbl).trans d0; have d15 := (hb5'.cell (p := ⟨b, 1, none⟩) hbl).trans d1; have HE := hid (pop_end (b := b) hu H.out hb5' hT oT pT); clear hu hT oT pT)
  all_goals (go_wp2_with fail; go_big_quiet (fail); go_wp2_with fail; go_ret3; exact HE.out.drewN _)
end Go.Proofs.Ytcjilpgblbnebaa
