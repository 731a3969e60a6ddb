/- heap.join. -/
import Derived.Test.YtcjilpgblbnebaaHpB
import Derived.Deep.RegionHeld3
namespace Go.Proofs.Ytcjilpgblbnebaa
open Go.RowKit
set_option maxHeartbeats 3200000
set_option maxRecDepth 100000
theorem bt {a b c : World} (h1 : Below a.heap.size a b) (h2 : Below b.heap.size b c) : Below a.heap.size a c := h1.trans (h2.mono h1.size)
/-- What is joined under a root that stands ahead. -/
theorem joined_node {c : Nat} {k v : Int} {m f b T a' b' : HT} {w w' w0 : World} {e : Ending} (ha : (HT.node c k v m f).Ord) (hT : T.Ord) (hall : T.all.Perm (f.all ++ b.all)) (hle : ∀ p ∈ b.all, le2 (k, v) p) (hw : Below w0.heap.size w0 w)
    (hp : ((HT.node c k v m f).all ++ b.all).Perm (a'.all ++ b'.all)) (h : NodeAns k v m T w e w') : Joined a' b' w0 e w' := by
  obtain ⟨g, m', f', rfl, hin, hor, hb⟩ := h
  obtain ⟨h1, h2⟩ := ord_node ha.2.1 hT hor hall ha.1 hle g
  exact ⟨_, _, rfl, rfl, hin, h1, h2.trans hp, bt hw hb⟩
theorem held4 {w w' : World} {c : Nat} {x0 x1 x3 x4 : Value} (hb : Below w.heap.size w w') (hc : c < w.heap.size) (h0 : w.cell? ⟨c, 0, none⟩ = some x0) (h1 : w.cell? ⟨c, 1, none⟩ = some x1) (h3 : w.cell? ⟨c, 3, none⟩ = some x3) (h4 : w.cell? ⟨c, 4, none⟩ = some x4) :
    w'.cell? ⟨c, 0, none⟩ = some x0 ∧ w'.cell? ⟨c, 1, none⟩ = some x1 ∧ w'.cell? ⟨c, 3, none⟩ = some x3 ∧ w'.cell? ⟨c, 4, none⟩ = some x4 :=
  ⟨(hb.cell (p := ⟨c, 0, none⟩) hc).trans h0, (hb.cell (p := ⟨c, 1, none⟩) hc).trans h1, (hb.cell (p := ⟨c, 3, none⟩) hc).trans h3, (hb.cell (p := ⟨c, 4, none⟩) hc).trans h4⟩
theorem node_ptr {k v : Int} {a b : HT} {w w' : World} {e : Ending} (h : NodeAns k v a b w e w') : ∃ g, e = .returned (.pointer (some ⟨g, 0, none⟩)) := by
  obtain ⟨g, _, _, h, _⟩ := h
  exact ⟨g, h⟩
theorem node_below {k v : Int} {a b : HT} {w w' : World} {e : Ending} (h : NodeAns k v a b w e w') : Below w.heap.size w w' := h.elim fun _ h => h.elim fun _ h => h.elim fun _ h => h.2.2.2
theorem join_cnt {c c' : Nat} {k v k' v' : Int} {m f m' f' T : HT} {n : Nat} (h : T.all.Perm (f.all ++ (HT.node c' k' v' m' f').all)) (hn : (HT.node c k v m f).cnt + (HT.node c' k' v' m' f').cnt ≤ n + 1) (hm : n + 1 ≤ 1000000) : m.cnt + T.cnt ≤ 1000000 := by
  have := perm_cnt h
  rw [List.length_append, HT.len, HT.len] at this
  simp only [HT.cnt] at *
  omega
theorem join_any (n : Nat) : ∀ (a b : HT) (w : World), a.cnt + b.cnt ≤ n → n ≤ 1000000 → a.In w → b.In w → a.Ord → b.Ord → Calls Try.prog 36 #[a.ptr, b.ptr] w (Joined a b w) := by
  induction n with
  | zero =>
    intro a b w h _ ha hb oa ob
    have hbn : b = .nil := by cases b with | nil => rfl | node => simp [HT.cnt] at h
    have han : a = .nil := by cases a with | nil => rfl | node => simp [HT.cnt] at h
    subst hbn han
    clear h ha hb oa ob
    show Calls Try.prog 36 #[.pointer none, .pointer none] w _
    go_enter Try.func36, Try.ntmps36
    go_wp2_with fail
    go_ret
    exact ⟨.nil, _, rfl, rfl, trivial, trivial, List.Perm.refl _, Below.refl _ _⟩
  | succ n ih =>
    intro a b w hn hm ha hb oa ob
    have IH := hid ih
    have Ha := hid ha; have Hb := hid hb; have Oa := hid oa; have Ob := hid ob
    have Hn := hid hn
    clear ih ha hb oa ob hn
    cases a with
    | nil =>
      obtain ⟨x, hx⟩ := b.ptr_pointer
      have Hx := hid hx
      rw [hx]
      clear hx
      show Calls Try.prog 36 #[.pointer none, .pointer x] w _
      go_enter Try.func36, Try.ntmps36
      go_wp2_with fail
      go_ret
      exact ⟨b, x, rfl, Hx.out, Hb.out, Ob.out, List.Perm.refl _, Below.refl _ _⟩
    | node c k v m f =>
      cases b with
      | nil =>
        show Calls Try.prog 36 #[.pointer (some ⟨c, 0, none⟩), .pointer none] w _
        go_enter Try.func36, Try.ntmps36
        go_wp2_with fail
        go_ret
        exact ⟨_, _, rfl, rfl, Ha.out, Oa.out, by simp [HT.all], Below.refl _ _⟩
      | node c' k' v' m' f' =>
        have HB := hid (before_any c' c k' v' k v m' f' m f w Hb.out Ha.out)
        show Calls Try.prog 36 #[.pointer (some ⟨c, 0, none⟩), .pointer (some ⟨c', 0, none⟩)] w _
        rcases hbf : bf k' v' k v with _ | _
        · rw [hbf] at HB
          have Hle : Hid (∀ p ∈ (HT.node c' k' v' m' f').all, le2 (k, v) p) := fun p hp => le2_trans (bf_false hbf) (root_le Ob.out hp)
          clear hbf
          go_enter Try.func36, Try.ntmps36
          go_wp2_with (go_at_call 58; (with_reducible refine HB.out.mono ?_); rintro e' w1 ⟨rfl, hb1⟩)
          have hd : Below w.heap.size w w1.drew := hb1.drew
          have h1 : (HT.node c k v m f).In w1.drew := Ha.out.below hd
          have h2 : (HT.node c' k' v' m' f').In w1.drew := Hb.out.below hd
          obtain ⟨c0, c1, _, c3, c4⟩ := node_cells h1.1
          have hcl := heap_lt h1.1
          have Hn2 := Hn
          obtain ⟨xm, hxm⟩ := m.ptr_pointer
          obtain ⟨xf, hxf⟩ := f.ptr_pointer
          have H1m := hid h1.2.1
          have HJ := hid (IH.out f (.node c' k' v' m' f') w1.drew (by have := Hn.out; simp only [HT.cnt] at this ⊢; omega) (by omega) h1.2.2 h2 Oa.out.2.2 Ob.out)
          rw [hxf] at HJ
          rw [HT.ptr] at HJ
          rw [hxm] at c3
          rw [hxf] at c4
          have Hxm := hid hxm
          clear h1 h2 hxm hxf
          go_region_held3 (fun w' => w'.cell? ⟨c, 0, none⟩ = some (.int .i64 k) ∧ w'.cell? ⟨c, 1, none⟩ = some (.int .i64 v) ∧ w'.cell? ⟨c, 3, none⟩ = some (.pointer xm) ∧ w'.cell? ⟨c, 4, none⟩ = some (.pointer xf))
            (first
              | go_keep
              | exact s4
              | exact s3)
            (first
              | (go_at_call 36; (with_reducible refine HJ.out.mono ?_); rintro e' w3 ⟨T, xt, rfl, hxt, hT, oT, pT, hb3⟩; have HPT := hid pT; have HOT := hid oT; have s3 := held4 hb3 hcl c0 c1 c3 c4; have HN := hid (newNode_any k v m T w3 (H1m.out.below hb3) hT (join_cnt pT Hn2.out hm)); rw [Hxm.out, hxt] at HN; clear pT oT hT hxt)
              | (go_at_call 37; (with_reducible refine HN.out.mono ?_); intro e' w5 hN; obtain ⟨g, rfl⟩ := node_ptr hN; have s4 := held4 (bt hb3 (node_below hN)) hcl c0 c1 c3 c4; have HN5 := hid hN; clear hN))
          go_wp2_with fail
          go_ret
          exact joined_node Oa.out HOT.out HPT.out Hle.out (bt hd hb3) (List.Perm.refl _) HN5.out
        · rw [hbf] at HB
          have Hle : Hid (∀ p ∈ (HT.node c k v m f).all, le2 (k', v') p) := fun p hp => le2_trans (bf_true hbf) (root_le Oa.out hp)
          clear hbf
          go_enter Try.func36, Try.ntmps36
          go_wp2_with (go_at_call 58; (with_reducible refine HB.out.mono ?_); rintro e' w1 ⟨rfl, hb1⟩)
          have hd : Below w.heap.size w w1.drew := hb1.drew
          have h1 : (HT.node c' k' v' m' f').In w1.drew := Hb.out.below hd
          have h2 : (HT.node c k v m f).In w1.drew := Ha.out.below hd
          obtain ⟨c0, c1, _, c3, c4⟩ := node_cells h1.1
          have hcl := heap_lt h1.1
          have Hn2 : Hid ((HT.node c' k' v' m' f').cnt + (HT.node c k v m f).cnt ≤ n + 1) := hid (by have := Hn.out; omega)
          obtain ⟨xm, hxm⟩ := m'.ptr_pointer
          obtain ⟨xf, hxf⟩ := f'.ptr_pointer
          have H1m := hid h1.2.1
          have HJ := hid (IH.out f' (.node c k v m f) w1.drew (by have := Hn.out; simp only [HT.cnt] at this ⊢; omega) (by omega) h1.2.2 h2 Ob.out.2.2 Oa.out)
          rw [hxf] at HJ
          rw [HT.ptr] at HJ
          rw [hxm] at c3
          rw [hxf] at c4
          have Hxm := hid hxm
          clear h1 h2 hxm hxf
          go_region_held3 (fun w' => w'.cell? ⟨c', 0, none⟩ = some (.int .i64 k') ∧ w'.cell? ⟨c', 1, none⟩ = some (.int .i64 v') ∧ w'.cell? ⟨c', 3, none⟩ = some (.pointer xm) ∧ w'.cell? ⟨c', 4, none⟩ = some (.pointer xf))
            (first
              | go_keep
              | exact s4
              | exact s3)
            (first
              | (go_at_call 36; (with_reducible refine HJ.out.mono ?_); rintro e' w3 ⟨T, xt, rfl, hxt, hT, oT, pT, hb3⟩; have HPT := hid pT; have HOT := hid oT; have s3 := held4 hb3 hcl c0 c1 c3 c4; have HN := hid (newNode_any k' v' m' T w3 (H1m.out.below hb3) hT (join_cnt pT Hn2.out hm)); rw [Hxm.out, hxt] at HN; clear pT oT hT hxt)
              | (go_at_call 37; (with_reducible refine HN.out.mono ?_); intro e' w5 hN; obtain ⟨g, rfl⟩ := node_ptr hN; have s4 := held4 (bt hb3 (node_below hN)) hcl c0 c1 c3 c4; have HN5 := hid hN; clear hN))
          go_wp2_with fail
          go_ret
          exact joined_node Ob.out HOT.out HPT.out Hle.out (bt hd hb3) List.perm_append_comm HN5.out
end Go.Proofs.Ytcjilpgblbnebaa
