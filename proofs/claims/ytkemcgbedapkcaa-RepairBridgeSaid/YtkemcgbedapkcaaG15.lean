/- Merged: CqQ CqR CqS CqT CqU CqV. -/
import Derived.Test.YtkemcgbedapkcaaG12
import Derived.Test.YtkemcgbedapkcaaG13
import Derived.Deep.RegionHeld3
/- The reference's (*Opt).Seg: over an edge; where there is none. -/
namespace Go.Proofs.Ytkemcgbedapkcaa
open Go.RowKit
set_option maxHeartbeats 6400000
set_option maxRecDepth 100000
/-- The three boxes of a call of Seg: the state, the segment, what it answers. -/
def HeldS (w : World) (v k : Int) (e : Bool) (t : Int) (W : World) : Prop :=
  Below w.heap.size w W ∧ W.heap[w.heap.size]? = some (.cells #[.int .i64 v, .int .i64 k] 92 (0, 0)) ∧ W.heap[w.heap.size + 1]? = some (.cells #[.bool e, .int .i64 t] 46 (0, 0)) ∧ W.heap[w.heap.size + 1 + 1]? = some (.cells #[.int .i64 0, .int .i64 0] 92 (0, 0))
theorem HeldS.start (w : World) (v k : Int) (e : Bool) (t : Int) : HeldS w v k e t (((w.alloc (.cells #[.int .i64 v, .int .i64 k] 92)).alloc (.cells #[.bool e, .int .i64 t] 46)).alloc (.cells #[.int .i64 0, .int .i64 0] 92)) := by
  obtain ⟨w1, hw1⟩ : ∃ w1, w.alloc (.cells #[.int .i64 v, .int .i64 k] 92) = w1 := ⟨_, rfl⟩
  obtain ⟨w2, hw2⟩ : ∃ w2, w1.alloc (.cells #[.bool e, .int .i64 t] 46) = w2 := ⟨_, rfl⟩
  have s1 : w1.heap.size = w.heap.size + 1 := by rw [← hw1]; simp
  have s2 : w2.heap.size = w.heap.size + 2 := by rw [← hw2]; simp [s1]
  have h0 := heap_alloc_new w (.cells #[.int .i64 v, .int .i64 k] 92)
  rw [hw1] at h0
  have h1 := heap_alloc_new w1 (.cells #[.bool e, .int .i64 t] 46)
  rw [hw2, s1] at h1
  have h2 := heap_alloc_new w2 (.cells #[.int .i64 0, .int .i64 0] 92)
  rw [s2] at h2
  have h2 : (w2.alloc (.cells #[.int .i64 0, .int .i64 0] 92)).heap[w.heap.size + 1 + 1]? = _ := h2
  have b1 : Below w1.heap.size w1 w2 := hw2 ▸ (Below.refl _ _).alloc (Nat.le_refl _) _
  have b2 : Below w2.heap.size w2 (w2.alloc (.cells #[.int .i64 0, .int .i64 0] 92)) := (Below.refl _ _).alloc (Nat.le_refl _) _
  have b0 : Below w.heap.size w w1 := hw1 ▸ (Below.refl _ _).alloc (Nat.le_refl _) _
  rw [hw1, hw2]
  have h0' := box_below h0 b1 (blk_lt h0)
  exact ⟨(b0.trans (b1.mono (by omega))).trans (b2.mono (by omega)), box_below h0' b2 (blk_lt h0'), box_below h1 b2 (blk_lt h1), h2⟩
theorem HeldS.next {w W W' : World} {v k : Int} {e : Bool} {t : Int} (h : HeldS w v k e t W) (hb : Below W.heap.size W W') : HeldS w v k e t W' :=
  ⟨h.1.trans (hb.mono h.1.size), box_below h.2.1 hb (blk_lt h.2.1), box_below h.2.2.1 hb (blk_lt h.2.2.1), box_below h.2.2.2 hb (blk_lt h.2.2.2)⟩
theorem HeldS.drew {w W : World} {v k : Int} {e : Bool} {t : Int} (h : HeldS w v k e t W) : HeldS w v k e t W.drew := ⟨h.1.drew, h.2⟩
theorem HeldS.cells {w W : World} {v k : Int} {e : Bool} {t : Int} (h : HeldS w v k e t W) : W.cell? ⟨w.heap.size, 0, none⟩ = some (.int .i64 v) ∧ W.cell? ⟨w.heap.size, 1, none⟩ = some (.int .i64 k) ∧ W.cell? ⟨w.heap.size + 1, 0, none⟩ = some (.bool e) ∧ W.cell? ⟨w.heap.size + 1, 1, none⟩ = some (.int .i64 t) ∧ W.cell? ⟨w.heap.size + 1 + 1, 0, none⟩ = some (.int .i64 0) ∧ W.cell? ⟨w.heap.size + 1 + 1, 1, none⟩ = some (.int .i64 0) := by
  obtain ⟨_, h1, h2, h3⟩ := h
  refine ⟨?_, ?_, ?_, ?_, ?_, ?_⟩
  · rw [cell_of_row _ _ _ _ _ _ h1]; rfl
  · rw [cell_of_row _ _ _ _ _ _ h1]; rfl
  · rw [cell_of_row _ _ _ _ _ _ h2]; rfl
  · rw [cell_of_row _ _ _ _ _ _ h2]; rfl
  · rw [cell_of_row _ _ _ _ _ _ h3]; rfl
  · rw [cell_of_row _ _ _ _ _ _ h3]; rfl
theorem HeldS.put {w W : World} {v k a b : Int} {e : Bool} {t : Int} (h : HeldS w v k e t W) : Hid (((W.setCell ⟨w.heap.size + 1 + 1, 0, none⟩ (.int .i64 a)).setCell ⟨w.heap.size + 1 + 1, 1, none⟩ (.int .i64 b)).heap[w.heap.size + 1 + 1]? = some (.cells #[.int .i64 a, .int .i64 b] 92 (0, 0)) ∧ Below w.heap.size w ((W.setCell ⟨w.heap.size + 1 + 1, 0, none⟩ (.int .i64 a)).setCell ⟨w.heap.size + 1 + 1, 1, none⟩ (.int .i64 b))) :=
  ⟨box_set1 (box_set0 h.2.2.2), (h.1.setCell (by show w.heap.size ≤ w.heap.size + 1 + 1; omega) _).setCell (by show w.heap.size ≤ w.heap.size + 1 + 1; omega) _⟩
/-- What Seg answers. -/
def SegAns (o : Option (Int × Int)) (w : World) (e : Ending) (w' : World) : Prop :=
  (∃ (a b : Int) (ok : Bool), e = .returned (.tuple #[.agg #[.int .i64 a, .int .i64 b], .bool ok]) ∧ o = if ok = true then some (a, b) else none) ∧ Below w.heap.size w w'
theorem optAt_cells {nd : Int} {A : Option Addr} {n c : Nat} {l : List Lnk} {x : Wnt} {gn : List Bool} {B : Nat} {w : World} (h : OptAt nd A n c l x gn B w) : ∃ (Ap : Option Addr) (cp : Nat), w.cell? ⟨B, 0, none⟩ = some (.int .i64 nd) ∧ w.cell? ⟨B, 1, none⟩ = some (.slice A n c) ∧ w.cell? ⟨B, 2, none⟩ = some (.slice Ap (ptsS x).length cp) ∧ B < w.heap.size := by
  obtain ⟨Ap, cp, Ag, cg, vF, vs, h1, _⟩ := h
  obtain ⟨b0, b1, b2, _⟩ := box5_cells h1
  exact ⟨Ap, cp, b0, b1, b2, blk_lt h1⟩
theorem seg_over (nd : Int) (A : Option Addr) (n c : Nat) (l : List Lnk) (x : Wnt) (gn : List Bool) (B : Nat) (q : Nat) (v k t : Int) (w : World) (ho : OptAt nd A n c l x gn B w) (hg : GArg w nd A n c l) (hr0 : rightS nd l x = 0) (hv : In64 v) (hk : In64 k) (ht : In64 t) :
    Calls Try.prog 37 #[.pointer (some ⟨B, 0, none⟩), .pointer (some ⟨q, 0, none⟩), .agg #[.int .i64 v, .int .i64 k], .agg #[.bool true, .int .i64 t]] w (SegAns (stepO nd l x gn v k t) w) := by
  have hS := HeldS.start w v k true t
  have HSt := hid (show ∀ W, HeldS w v k true t W → Calls Try.prog 56 #[.pointer (some ⟨B, 0, none⟩), .agg #[.int .i64 v, .int .i64 k], .int .i64 t] W fun e w' => (∃ a b ok, e = .returned (.tuple #[.agg #[.int .i64 a, .int .i64 b], .bool ok]) ∧ Hid (stepO nd l x gn v k t = if ok = true then some (a, b) else none)) ∧ HeldS w v k true t w' from fun W hh => by
    refine (optStep_spec nd A n c l x gn B v k t W (ho.on hh.1) (hg.on hh.1) hr0 hv hk ht).mono ?_
    rintro e w' ⟨rfl, hb⟩
    refine ⟨?_, hh.next hb⟩
    cases stepO nd l x gn v k t with
    | none => exact ⟨0, 0, false, rfl, hid rfl⟩
    | some p => exact ⟨p.1, p.2, true, rfl, hid rfl⟩)
  obtain ⟨s0, s1, s2, s3, -, -⟩ := hS.cells
  obtain ⟨s4, s5, s6⟩ := box_cells hS.2.2.2
  clear ho hg hr0 hv hk ht
  go_enter Try.func37, Try.ntmps37
  go_wp2_with (go_at_call 56; (with_reducible refine (HSt.out _ hS).mono ?_); rintro e' w3 ⟨⟨a, b, ok, rfl, HV⟩, hh3⟩; have HH3 := hid hh3; obtain ⟨z0, z1, z2, z3, -, -⟩ := hh3.cells; obtain ⟨z4, z5, z6⟩ := box_cells hh3.2.2.2; clear hh3)
  have HG := HH3.out.put (a := a) (b := b)
  refine bodyPost_ret (results_cellrow_tmp (p := 8) (u := 9) (fn := Try.f37) rfl _ _ _ _ _ _ _ rfl HG.out.1 Try.underlying92 rfl (by kernel_rfl)) rfl ?_
  exact ⟨⟨a, b, ok, rfl, HV.out⟩, HG.out.2⟩
end Go.Proofs.Ytkemcgbedapkcaa

/- Seg: where there is none. -/
namespace Go.Proofs.Ytkemcgbedapkcaa
open Go.RowKit
set_option maxHeartbeats 12800000
set_option maxRecDepth 100000
theorem take1 {P : Program} {ops : Array Oper} {Q : Exit → Act → World → Prop} {md : Region.Mode} {S : World → Prop} {i : Nat} {oi : Oper} {v : Value} {fuel : Nat} {listed : Array Bool} {a : Act} {w : World} (hi : ops[i]? = some oi)
    (hs : Region.noSelect ops = true) (hf : Region.free md ops listed i = true) (hr : (Region.ready md ops listed).contains i = true) (hQ : ∀ c a w, Q (.panic c) (a.put oi.dst v) w → Q (.panic c) a w)
    (hw : Region.wanted oi (yielded ops a.tmps) = true) (hy : ∀ w, S w → (execOp a.eval oi).run P w = .ok (.value v) w) (hS : S w) (h : wpAnyH P md ops Q S fuel (listed.setIfInBounds i true) (a.put oi.dst v) w) : wpAnyH P md ops Q S (fuel + 1) listed a w :=
  wpAnyH_take hi hs hf hr hQ (.inl ⟨hw, hy⟩) hS h
theorem dead1 {P : Program} {ops : Array Oper} {Q : Exit → Act → World → Prop} {md : Region.Mode} {S : World → Prop} {i : Nat} {oi : Oper} {fuel : Nat} {listed : Array Bool} {a : Act} {w : World} (hi : ops[i]? = some oi)
    (hs : Region.noSelect ops = true) (hf : Region.free md ops listed i = true) (hr : (Region.ready md ops listed).contains i = true) (hQ : ∀ c a w, Q (.panic c) (a.put oi.dst undef) w → Q (.panic c) a w)
    (hw : Region.wanted oi (yielded ops a.tmps) = false) (hS : S w) (h : wpAnyH P md ops Q S fuel (listed.setIfInBounds i true) (a.put oi.dst undef) w) : wpAnyH P md ops Q S (fuel + 1) listed a w :=
  wpAnyH_take hi hs hf hr hQ (.inr ⟨hw, rfl⟩) hS h
theorem seg_bad (N : Nat) (A : Option Addr) (n c : Nat) (l : List Lnk) (x : Wnt) (gn : List Bool) (B q : Nat) (v k t : Int) (w : World) (ho : OptAt (N : Int) A n c l x gn B w) (hb : ¬(0 ≤ t ∧ t < N ∧ 0 ≤ v ∧ v < N ∧ v ≠ t ∧ 0 ≤ k ∧ k < (ptsS x).length)) :
    Calls Try.prog 37 #[.pointer (some ⟨B, 0, none⟩), .pointer (some ⟨q, 0, none⟩), .agg #[.int .i64 v, .int .i64 k], .agg #[.bool false, .int .i64 t]] w (SegAns (segO N l x gn (v, k) false t) w) := by
  have HO := hid (show segO N l x gn (v, k) false t = if false = true then some ((0 : Int), (0 : Int)) else none from by
    unfold segO
    rw [if_neg (by decide), if_neg hb]
    rfl)
  generalize segO N l x gn (v, k) false t = o at HO ⊢
  have hS := HeldS.start w v k false t
  obtain ⟨Ap, cp, b0, b1, b2, hB⟩ := optAt_cells ho
  obtain ⟨m, hm⟩ : ∃ m, (ptsS x).length = m := ⟨_, rfl⟩
  obtain ⟨nd, hnd⟩ : ∃ nd, (N : Int) = nd := ⟨_, rfl⟩
  rw [hm] at b2 hb
  rw [hnd] at b0 hb
  have SG := hid (fun (W : World) (h : HeldS w v k false t W) => (⟨(h.1.cell (p := ⟨B, 0, none⟩) hB).trans b0, (h.1.cell (p := ⟨B, 1, none⟩) hB).trans b1, (h.1.cell (p := ⟨B, 2, none⟩) hB).trans b2, h.cells.1, h.cells.2.1, h.cells.2.2.2.1⟩ : W.cell? ⟨B, 0, none⟩ = some (.int .i64 nd) ∧ W.cell? ⟨B, 1, none⟩ = some (.slice A n c) ∧ W.cell? ⟨B, 2, none⟩ = some (.slice Ap m cp) ∧ W.cell? ⟨w.heap.size, 0, none⟩ = some (.int .i64 v) ∧ W.cell? ⟨w.heap.size, 1, none⟩ = some (.int .i64 k) ∧ W.cell? ⟨w.heap.size + 1, 1, none⟩ = some (.int .i64 t)))
  have HN1 := hid (fun (W : World) (h : HeldS w v k false t W) => (node_is nd A n c t W).mono fun _ _ h4 => (⟨h4.1, h.next h4.2⟩ : _ ∧ HeldS w v k false t _))
  have HN2 := hid (fun (W : World) (h : HeldS w v k false t W) => (node_is nd A n c v W).mono fun _ _ h4 => (⟨h4.1, h.next h4.2⟩ : _ ∧ HeldS w v k false t _))
  obtain ⟨s0, s1, s2, s3, -, -⟩ := hS.cells
  obtain ⟨s4, s5, s6⟩ := box_cells hS.2.2.2
  clear ho hm hnd b0 b1 b2
  cases n1 : nodeB nd t with
  | false =>
    rw [n1] at HN1
    clear hb n1 HN2
    go_enter Try.func37, Try.ntmps37
    go_wp2_with fail
    generalize (((w.alloc (.cells #[.int .i64 v, .int .i64 k] 92)).alloc (.cells #[.bool false, .int .i64 t] 46)).alloc (.cells #[.int .i64 0, .int .i64 0] 92)) = w1 at *
    have h1d := hS.drew
    have s1 := SG.out _ h1d
    refine wp_region_held_drew (S := fun w' => w'.cell? ⟨B, 0, none⟩ = some (.int .i64 nd) ∧ w'.cell? ⟨B, 1, none⟩ = some (.slice A n c) ∧ w'.cell? ⟨B, 2, none⟩ = some (.slice Ap m cp) ∧ w'.cell? ⟨w.heap.size, 0, none⟩ = some (.int .i64 v) ∧ w'.cell? ⟨w.heap.size, 1, none⟩ = some (.int .i64 k) ∧ w'.cell? ⟨w.heap.size + 1, 1, none⟩ = some (.int .i64 t)) (by kernel_rfl) s1 (fun hHeld => ?_)
    refine take1 (i := 0) (v := ?_) rfl (by kernel_rfl) (by kernel_rfl) (by kernel_rfl) (fun _ _ _ h => h) (by rfl) ?_ (by assumption) ?_
    (rotate_left; focus (intro w' hSw; (try dsimp only at hSw); go_simp; (try with_reducible rfl)))
    try simp only [List.getElem_toArray, List.getElem_cons_zero, Act.put, List.setIfInBounds_toArray, List.set_cons_zero, List.set_cons_succ]
    refine take1 (i := 1) (v := ?_) rfl (by kernel_rfl) (by kernel_rfl) (by kernel_rfl) (fun _ _ _ h => h) (by rfl) ?_ (by assumption) ?_
    (rotate_left; focus (intro w' hSw; (try dsimp only at hSw); go_simp; (try with_reducible rfl)))
    try simp only [List.getElem_toArray, List.getElem_cons_succ, List.getElem_cons_zero, Act.put, List.setIfInBounds_toArray, List.set_cons_zero, List.set_cons_succ]
    refine take1 (i := 2) (v := ?_) rfl (by kernel_rfl) (by kernel_rfl) (by kernel_rfl) (fun _ _ _ h => h) (by rfl) ?_ (by assumption) ?_
    (rotate_left; focus (intro w' hSw; (try dsimp only at hSw); go_simp; (try with_reducible rfl)))
    try simp only [List.getElem_toArray, List.getElem_cons_succ, List.getElem_cons_zero, Act.put, List.setIfInBounds_toArray, List.set_cons_zero, List.set_cons_succ]
    refine take1 (i := 3) (v := ?_) rfl (by kernel_rfl) (by kernel_rfl) (by kernel_rfl) (fun _ _ _ h => h) (by rfl) ?_ (by assumption) ?_
    (rotate_left; focus (intro w' hSw; (try dsimp only at hSw); go_simp; (try with_reducible rfl)))
    try simp only [List.getElem_toArray, List.getElem_cons_succ, List.getElem_cons_zero, Act.put, List.setIfInBounds_toArray, List.set_cons_zero, List.set_cons_succ]
    refine take1 (i := 4) (v := ?_) rfl (by kernel_rfl) (by kernel_rfl) (by kernel_rfl) (fun _ _ _ h => h) (by rfl) ?_ (by assumption) ?_
    (rotate_left; focus (intro w' hSw; (try dsimp only at hSw); go_simp; (try with_reducible rfl)))
    try simp only [List.getElem_toArray, List.getElem_cons_succ, List.getElem_cons_zero, Act.put, List.setIfInBounds_toArray, List.set_cons_zero, List.set_cons_succ]
    refine take1 (i := 5) (v := ?_) rfl (by kernel_rfl) (by kernel_rfl) (by kernel_rfl) (fun _ _ _ h => h) (by rfl) ?_ (by assumption) ?_
    (rotate_left; focus (intro w' hSw; (try dsimp only at hSw); go_simp; (try with_reducible rfl)))
    try simp only [List.getElem_toArray, List.getElem_cons_succ, List.getElem_cons_zero, Act.put, List.setIfInBounds_toArray, List.set_cons_zero, List.set_cons_succ]
    refine wpAnyH_ready (rs := [6]) (by kernel_rfl) (by simp) ?_
    refine AllReadyH.cons rfl (fun K hK => ?_) AllReadyH.nil
    try simp only [List.getElem_toArray, List.getElem_cons_succ, List.getElem_cons_zero]
    go_simp
    (go_at_call 23; (with_reducible refine (HN1.out _ h1d).mono ?_); rintro e' w2 ⟨rfl, h2⟩; have s2 := SG.out _ h2)
    try go_wp2_with fail
    refine hK.out _ _ s2 (fun hHeld => ?_)
    clear hK K
    try simp only [List.getElem_toArray, List.getElem_cons_succ, List.getElem_cons_zero, Act.put, List.setIfInBounds_toArray, List.set_cons_zero, List.set_cons_succ]
    refine take1 (i := 7) (v := ?_) rfl (by kernel_rfl) (by kernel_rfl) (by kernel_rfl) (fun _ _ _ h => h) (by rfl) ?_ (by assumption) ?_
    (rotate_left; focus (intro w' hSw; (try dsimp only at hSw); go_simp; (try with_reducible rfl)))
    try simp only [List.getElem_toArray, List.getElem_cons_succ, List.getElem_cons_zero, Act.put, List.setIfInBounds_toArray, List.set_cons_zero, List.set_cons_succ]
    refine take1 (i := 8) (v := ?_) rfl (by kernel_rfl) (by kernel_rfl) (by kernel_rfl) (fun _ _ _ h => h) (by rfl) ?_ (by assumption) ?_
    (rotate_left; focus (intro w' hSw; (try dsimp only at hSw); go_simp; (try with_reducible rfl)))
    try simp only [List.getElem_toArray, List.getElem_cons_succ, List.getElem_cons_zero, Act.put, List.setIfInBounds_toArray, List.set_cons_zero, List.set_cons_succ]
    refine dead1 (i := 9) rfl (by kernel_rfl) (by kernel_rfl) (by kernel_rfl) (fun _ _ _ h => h) (by rfl) (by assumption) ?_
    try simp only [List.getElem_toArray, List.getElem_cons_succ, List.getElem_cons_zero, Act.put, List.setIfInBounds_toArray, List.set_cons_zero, List.set_cons_succ]
    refine dead1 (i := 10) rfl (by kernel_rfl) (by kernel_rfl) (by kernel_rfl) (fun _ _ _ h => h) (by rfl) (by assumption) ?_
    try simp only [List.getElem_toArray, List.getElem_cons_succ, List.getElem_cons_zero, Act.put, List.setIfInBounds_toArray, List.set_cons_zero, List.set_cons_succ]
    refine dead1 (i := 11) rfl (by kernel_rfl) (by kernel_rfl) (by kernel_rfl) (fun _ _ _ h => h) (by rfl) (by assumption) ?_
    try simp only [List.getElem_toArray, List.getElem_cons_succ, List.getElem_cons_zero, Act.put, List.setIfInBounds_toArray, List.set_cons_zero, List.set_cons_succ]
    refine dead1 (i := 12) rfl (by kernel_rfl) (by kernel_rfl) (by kernel_rfl) (fun _ _ _ h => h) (by rfl) (by assumption) ?_
    try simp only [List.getElem_toArray, List.getElem_cons_succ, List.getElem_cons_zero, Act.put, List.setIfInBounds_toArray, List.set_cons_zero, List.set_cons_succ]
    refine dead1 (i := 13) rfl (by kernel_rfl) (by kernel_rfl) (by kernel_rfl) (fun _ _ _ h => h) (by rfl) (by assumption) ?_
    try simp only [List.getElem_toArray, List.getElem_cons_succ, List.getElem_cons_zero, Act.put, List.setIfInBounds_toArray, List.set_cons_zero, List.set_cons_succ]
    refine dead1 (i := 14) rfl (by kernel_rfl) (by kernel_rfl) (by kernel_rfl) (fun _ _ _ h => h) (by rfl) (by assumption) ?_
    try simp only [List.getElem_toArray, List.getElem_cons_succ, List.getElem_cons_zero, Act.put, List.setIfInBounds_toArray, List.set_cons_zero, List.set_cons_succ]
    refine dead1 (i := 15) rfl (by kernel_rfl) (by kernel_rfl) (by kernel_rfl) (fun _ _ _ h => h) (by rfl) (by assumption) ?_
    try simp only [List.getElem_toArray, List.getElem_cons_succ, List.getElem_cons_zero, Act.put, List.setIfInBounds_toArray, List.set_cons_zero, List.set_cons_succ]
    refine dead1 (i := 16) rfl (by kernel_rfl) (by kernel_rfl) (by kernel_rfl) (fun _ _ _ h => h) (by rfl) (by assumption) ?_
    try simp only [List.getElem_toArray, List.getElem_cons_succ, List.getElem_cons_zero, Act.put, List.setIfInBounds_toArray, List.set_cons_zero, List.set_cons_succ]
    refine take1 (i := 17) (v := ?_) rfl (by kernel_rfl) (by kernel_rfl) (by kernel_rfl) (fun _ _ _ h => h) (by rfl) ?_ (by assumption) ?_
    (rotate_left; focus (intro w' hSw; (try dsimp only at hSw); go_simp; (try with_reducible rfl)))
    try simp only [List.getElem_toArray, List.getElem_cons_succ, List.getElem_cons_zero, Act.put, List.setIfInBounds_toArray, List.set_cons_zero, List.set_cons_succ]
    refine take1 (i := 18) (v := ?_) rfl (by kernel_rfl) (by kernel_rfl) (by kernel_rfl) (fun _ _ _ h => h) (by rfl) ?_ (by assumption) ?_
    (rotate_left; focus (intro w' hSw; (try dsimp only at hSw); go_simp; (try with_reducible rfl)))
    try simp only [List.getElem_toArray, List.getElem_cons_succ, List.getElem_cons_zero, Act.put, List.setIfInBounds_toArray, List.set_cons_zero, List.set_cons_succ]
    refine dead1 (i := 19) rfl (by kernel_rfl) (by kernel_rfl) (by kernel_rfl) (fun _ _ _ h => h) (by rfl) (by assumption) ?_
    try simp only [List.getElem_toArray, List.getElem_cons_succ, List.getElem_cons_zero, Act.put, List.setIfInBounds_toArray, List.set_cons_zero, List.set_cons_succ]
    refine dead1 (i := 20) rfl (by kernel_rfl) (by kernel_rfl) (by kernel_rfl) (fun _ _ _ h => h) (by rfl) (by assumption) ?_
    try simp only [List.getElem_toArray, List.getElem_cons_succ, List.getElem_cons_zero, Act.put, List.setIfInBounds_toArray, List.set_cons_zero, List.set_cons_succ]
    refine dead1 (i := 21) rfl (by kernel_rfl) (by kernel_rfl) (by kernel_rfl) (fun _ _ _ h => h) (by rfl) (by assumption) ?_
    try simp only [List.getElem_toArray, List.getElem_cons_succ, List.getElem_cons_zero, Act.put, List.setIfInBounds_toArray, List.set_cons_zero, List.set_cons_succ]
    refine dead1 (i := 22) rfl (by kernel_rfl) (by kernel_rfl) (by kernel_rfl) (fun _ _ _ h => h) (by rfl) (by assumption) ?_
    try simp only [List.getElem_toArray, List.getElem_cons_succ, List.getElem_cons_zero, Act.put, List.setIfInBounds_toArray, List.set_cons_zero, List.set_cons_succ]
    refine dead1 (i := 23) rfl (by kernel_rfl) (by kernel_rfl) (by kernel_rfl) (fun _ _ _ h => h) (by rfl) (by assumption) ?_
    try simp only [List.getElem_toArray, List.getElem_cons_succ, List.getElem_cons_zero, Act.put, List.setIfInBounds_toArray, List.set_cons_zero, List.set_cons_succ]
    refine take1 (i := 24) (v := ?_) rfl (by kernel_rfl) (by kernel_rfl) (by kernel_rfl) (fun _ _ _ h => h) (by rfl) ?_ (by assumption) ?_
    (rotate_left; focus (intro w' hSw; (try dsimp only at hSw); go_simp; (try with_reducible rfl)))
    try simp only [List.getElem_toArray, List.getElem_cons_succ, List.getElem_cons_zero, Act.put, List.setIfInBounds_toArray, List.set_cons_zero, List.set_cons_succ]
    refine take1 (i := 25) (v := ?_) rfl (by kernel_rfl) (by kernel_rfl) (by kernel_rfl) (fun _ _ _ h => h) (by rfl) ?_ (by assumption) ?_
    (rotate_left; focus (intro w' hSw; (try dsimp only at hSw); go_simp; (try with_reducible rfl)))
    try simp only [List.getElem_toArray, List.getElem_cons_succ, List.getElem_cons_zero, Act.put, List.setIfInBounds_toArray, List.set_cons_zero, List.set_cons_succ]
    refine dead1 (i := 26) rfl (by kernel_rfl) (by kernel_rfl) (by kernel_rfl) (fun _ _ _ h => h) (by rfl) (by assumption) ?_
    try simp only [List.getElem_toArray, List.getElem_cons_succ, List.getElem_cons_zero, Act.put, List.setIfInBounds_toArray, List.set_cons_zero, List.set_cons_succ]
    refine dead1 (i := 27) rfl (by kernel_rfl) (by kernel_rfl) (by kernel_rfl) (fun _ _ _ h => h) (by rfl) (by assumption) ?_
    try simp only [List.getElem_toArray, List.getElem_cons_succ, List.getElem_cons_zero, Act.put, List.setIfInBounds_toArray, List.set_cons_zero, List.set_cons_succ]
    refine dead1 (i := 28) rfl (by kernel_rfl) (by kernel_rfl) (by kernel_rfl) (fun _ _ _ h => h) (by rfl) (by assumption) ?_
    try simp only [List.getElem_toArray, List.getElem_cons_succ, List.getElem_cons_zero, Act.put, List.setIfInBounds_toArray, List.set_cons_zero, List.set_cons_succ]
    refine take1 (i := 29) (v := ?_) rfl (by kernel_rfl) (by kernel_rfl) (by kernel_rfl) (fun _ _ _ h => h) (by rfl) ?_ (by assumption) ?_
    (rotate_left; focus (intro w' hSw; (try dsimp only at hSw); go_simp; (try with_reducible rfl)))
    try simp only [List.getElem_toArray, List.getElem_cons_succ, List.getElem_cons_zero, Act.put, List.setIfInBounds_toArray, List.set_cons_zero, List.set_cons_succ]
    refine take1 (i := 30) (v := ?_) rfl (by kernel_rfl) (by kernel_rfl) (by kernel_rfl) (fun _ _ _ h => h) (by rfl) ?_ (by assumption) ?_
    (rotate_left; focus (intro w' hSw; (try dsimp only at hSw); go_simp; (try with_reducible rfl)))
    try simp only [List.getElem_toArray, List.getElem_cons_succ, List.getElem_cons_zero, Act.put, List.setIfInBounds_toArray, List.set_cons_zero, List.set_cons_succ]
    refine dead1 (i := 31) rfl (by kernel_rfl) (by kernel_rfl) (by kernel_rfl) (fun _ _ _ h => h) (by rfl) (by assumption) ?_
    try simp only [List.getElem_toArray, List.getElem_cons_succ, List.getElem_cons_zero, Act.put, List.setIfInBounds_toArray, List.set_cons_zero, List.set_cons_succ]
    refine dead1 (i := 32) rfl (by kernel_rfl) (by kernel_rfl) (by kernel_rfl) (fun _ _ _ h => h) (by rfl) (by assumption) ?_
    try simp only [List.getElem_toArray, List.getElem_cons_succ, List.getElem_cons_zero, Act.put, List.setIfInBounds_toArray, List.set_cons_zero, List.set_cons_succ]
    refine dead1 (i := 33) rfl (by kernel_rfl) (by kernel_rfl) (by kernel_rfl) (fun _ _ _ h => h) (by rfl) (by assumption) ?_
    try simp only [List.getElem_toArray, List.getElem_cons_succ, List.getElem_cons_zero, Act.put, List.setIfInBounds_toArray, List.set_cons_zero, List.set_cons_succ]
    refine dead1 (i := 34) rfl (by kernel_rfl) (by kernel_rfl) (by kernel_rfl) (fun _ _ _ h => h) (by rfl) (by assumption) ?_
    try simp only [List.getElem_toArray, List.getElem_cons_succ, List.getElem_cons_zero, Act.put, List.setIfInBounds_toArray, List.set_cons_zero, List.set_cons_succ]
    refine dead1 (i := 35) rfl (by kernel_rfl) (by kernel_rfl) (by kernel_rfl) (fun _ _ _ h => h) (by rfl) (by assumption) ?_
    try simp only [List.getElem_toArray, List.getElem_cons_succ, List.getElem_cons_zero, Act.put, List.setIfInBounds_toArray, List.set_cons_zero, List.set_cons_succ]
    refine dead1 (i := 36) rfl (by kernel_rfl) (by kernel_rfl) (by kernel_rfl) (fun _ _ _ h => h) (by rfl) (by assumption) ?_
    try simp only [List.getElem_toArray, List.getElem_cons_succ, List.getElem_cons_zero, Act.put, List.setIfInBounds_toArray, List.set_cons_zero, List.set_cons_succ]
    refine dead1 (i := 37) rfl (by kernel_rfl) (by kernel_rfl) (by kernel_rfl) (fun _ _ _ h => h) (by rfl) (by assumption) ?_
    try simp only [List.getElem_toArray, List.getElem_cons_succ, List.getElem_cons_zero, Act.put, List.setIfInBounds_toArray, List.set_cons_zero, List.set_cons_succ]
    refine dead1 (i := 38) rfl (by kernel_rfl) (by kernel_rfl) (by kernel_rfl) (fun _ _ _ h => h) (by rfl) (by assumption) ?_
    try simp only [List.getElem_toArray, List.getElem_cons_succ, List.getElem_cons_zero, Act.put, List.setIfInBounds_toArray, List.set_cons_zero, List.set_cons_succ]
    refine take1 (i := 39) (v := ?_) rfl (by kernel_rfl) (by kernel_rfl) (by kernel_rfl) (fun _ _ _ h => h) (by rfl) ?_ (by assumption) ?_
    (rotate_left; focus (intro w' hSw; (try dsimp only at hSw); go_simp; (try with_reducible rfl)))
    try simp only [List.getElem_toArray, List.getElem_cons_succ, List.getElem_cons_zero, Act.put, List.setIfInBounds_toArray, List.set_cons_zero, List.set_cons_succ]
    refine wpAnyH_done (by kernel_rfl) ?_ _
    clear s1 s2
    obtain ⟨y0, y1, y2⟩ := box_cells h2.2.2.2
    go_wp2_with fail
    have HG := (h2).put (a := 0) (b := 0)
    refine bodyPost_ret (results_cellrow_tmp (p := 8) (u := 9) (fn := Try.f37) rfl _ _ _ _ _ _ _ rfl HG.out.1 Try.underlying92 rfl (by kernel_rfl)) rfl ?_
    exact ⟨⟨0, 0, false, rfl, HO.out⟩, HG.out.2⟩
  | true =>
    rw [n1] at HN1
    cases n2 : nodeB nd v with
    | false =>
      rw [n2] at HN2
      clear hb n1 n2
      go_enter Try.func37, Try.ntmps37
      go_wp2_with fail
      generalize (((w.alloc (.cells #[.int .i64 v, .int .i64 k] 92)).alloc (.cells #[.bool false, .int .i64 t] 46)).alloc (.cells #[.int .i64 0, .int .i64 0] 92)) = w1 at *
      have h1d := hS.drew
      have s1 := SG.out _ h1d
      refine wp_region_held_drew (S := fun w' => w'.cell? ⟨B, 0, none⟩ = some (.int .i64 nd) ∧ w'.cell? ⟨B, 1, none⟩ = some (.slice A n c) ∧ w'.cell? ⟨B, 2, none⟩ = some (.slice Ap m cp) ∧ w'.cell? ⟨w.heap.size, 0, none⟩ = some (.int .i64 v) ∧ w'.cell? ⟨w.heap.size, 1, none⟩ = some (.int .i64 k) ∧ w'.cell? ⟨w.heap.size + 1, 1, none⟩ = some (.int .i64 t)) (by kernel_rfl) s1 (fun hHeld => ?_)
      refine take1 (i := 0) (v := ?_) rfl (by kernel_rfl) (by kernel_rfl) (by kernel_rfl) (fun _ _ _ h => h) (by rfl) ?_ (by assumption) ?_
      (rotate_left; focus (intro w' hSw; (try dsimp only at hSw); go_simp; (try with_reducible rfl)))
      try simp only [List.getElem_toArray, List.getElem_cons_zero, Act.put, List.setIfInBounds_toArray, List.set_cons_zero, List.set_cons_succ]
      refine take1 (i := 1) (v := ?_) rfl (by kernel_rfl) (by kernel_rfl) (by kernel_rfl) (fun _ _ _ h => h) (by rfl) ?_ (by assumption) ?_
      (rotate_left; focus (intro w' hSw; (try dsimp only at hSw); go_simp; (try with_reducible rfl)))
      try simp only [List.getElem_toArray, List.getElem_cons_succ, List.getElem_cons_zero, Act.put, List.setIfInBounds_toArray, List.set_cons_zero, List.set_cons_succ]
      refine take1 (i := 2) (v := ?_) rfl (by kernel_rfl) (by kernel_rfl) (by kernel_rfl) (fun _ _ _ h => h) (by rfl) ?_ (by assumption) ?_
      (rotate_left; focus (intro w' hSw; (try dsimp only at hSw); go_simp; (try with_reducible rfl)))
      try simp only [List.getElem_toArray, List.getElem_cons_succ, List.getElem_cons_zero, Act.put, List.setIfInBounds_toArray, List.set_cons_zero, List.set_cons_succ]
      refine take1 (i := 3) (v := ?_) rfl (by kernel_rfl) (by kernel_rfl) (by kernel_rfl) (fun _ _ _ h => h) (by rfl) ?_ (by assumption) ?_
      (rotate_left; focus (intro w' hSw; (try dsimp only at hSw); go_simp; (try with_reducible rfl)))
      try simp only [List.getElem_toArray, List.getElem_cons_succ, List.getElem_cons_zero, Act.put, List.setIfInBounds_toArray, List.set_cons_zero, List.set_cons_succ]
      refine take1 (i := 4) (v := ?_) rfl (by kernel_rfl) (by kernel_rfl) (by kernel_rfl) (fun _ _ _ h => h) (by rfl) ?_ (by assumption) ?_
      (rotate_left; focus (intro w' hSw; (try dsimp only at hSw); go_simp; (try with_reducible rfl)))
      try simp only [List.getElem_toArray, List.getElem_cons_succ, List.getElem_cons_zero, Act.put, List.setIfInBounds_toArray, List.set_cons_zero, List.set_cons_succ]
      refine take1 (i := 5) (v := ?_) rfl (by kernel_rfl) (by kernel_rfl) (by kernel_rfl) (fun _ _ _ h => h) (by rfl) ?_ (by assumption) ?_
      (rotate_left; focus (intro w' hSw; (try dsimp only at hSw); go_simp; (try with_reducible rfl)))
      try simp only [List.getElem_toArray, List.getElem_cons_succ, List.getElem_cons_zero, Act.put, List.setIfInBounds_toArray, List.set_cons_zero, List.set_cons_succ]
      refine wpAnyH_ready (rs := [6]) (by kernel_rfl) (by simp) ?_
      refine AllReadyH.cons rfl (fun K hK => ?_) AllReadyH.nil
      try simp only [List.getElem_toArray, List.getElem_cons_succ, List.getElem_cons_zero]
      go_simp
      (go_at_call 23; (with_reducible refine (HN1.out _ h1d).mono ?_); rintro e' w2 ⟨rfl, h2⟩; have s2 := SG.out _ h2)
      try go_wp2_with fail
      refine hK.out _ _ s2 (fun hHeld => ?_)
      clear hK K
      try simp only [List.getElem_toArray, List.getElem_cons_succ, List.getElem_cons_zero, Act.put, List.setIfInBounds_toArray, List.set_cons_zero, List.set_cons_succ]
      refine take1 (i := 7) (v := ?_) rfl (by kernel_rfl) (by kernel_rfl) (by kernel_rfl) (fun _ _ _ h => h) (by rfl) ?_ (by assumption) ?_
      (rotate_left; focus (intro w' hSw; (try dsimp only at hSw); go_simp; (try with_reducible rfl)))
      try simp only [List.getElem_toArray, List.getElem_cons_succ, List.getElem_cons_zero, Act.put, List.setIfInBounds_toArray, List.set_cons_zero, List.set_cons_succ]
      refine take1 (i := 8) (v := ?_) rfl (by kernel_rfl) (by kernel_rfl) (by kernel_rfl) (fun _ _ _ h => h) (by rfl) ?_ (by assumption) ?_
      (rotate_left; focus (intro w' hSw; (try dsimp only at hSw); go_simp; (try with_reducible rfl)))
      try simp only [List.getElem_toArray, List.getElem_cons_succ, List.getElem_cons_zero, Act.put, List.setIfInBounds_toArray, List.set_cons_zero, List.set_cons_succ]
      refine take1 (i := 9) (v := ?_) rfl (by kernel_rfl) (by kernel_rfl) (by kernel_rfl) (fun _ _ _ h => h) (by rfl) ?_ (by assumption) ?_
      (rotate_left; focus (intro w' hSw; (try dsimp only at hSw); go_simp; (try with_reducible rfl)))
      try simp only [List.getElem_toArray, List.getElem_cons_succ, List.getElem_cons_zero, Act.put, List.setIfInBounds_toArray, List.set_cons_zero, List.set_cons_succ]
      refine take1 (i := 10) (v := ?_) rfl (by kernel_rfl) (by kernel_rfl) (by kernel_rfl) (fun _ _ _ h => h) (by rfl) ?_ (by assumption) ?_
      (rotate_left; focus (intro w' hSw; (try dsimp only at hSw); go_simp; (try with_reducible rfl)))
      try simp only [List.getElem_toArray, List.getElem_cons_succ, List.getElem_cons_zero, Act.put, List.setIfInBounds_toArray, List.set_cons_zero, List.set_cons_succ]
      refine take1 (i := 11) (v := ?_) rfl (by kernel_rfl) (by kernel_rfl) (by kernel_rfl) (fun _ _ _ h => h) (by rfl) ?_ (by assumption) ?_
      (rotate_left; focus (intro w' hSw; (try dsimp only at hSw); go_simp; (try with_reducible rfl)))
      try simp only [List.getElem_toArray, List.getElem_cons_succ, List.getElem_cons_zero, Act.put, List.setIfInBounds_toArray, List.set_cons_zero, List.set_cons_succ]
      refine take1 (i := 12) (v := ?_) rfl (by kernel_rfl) (by kernel_rfl) (by kernel_rfl) (fun _ _ _ h => h) (by rfl) ?_ (by assumption) ?_
      (rotate_left; focus (intro w' hSw; (try dsimp only at hSw); go_simp; (try with_reducible rfl)))
      try simp only [List.getElem_toArray, List.getElem_cons_succ, List.getElem_cons_zero, Act.put, List.setIfInBounds_toArray, List.set_cons_zero, List.set_cons_succ]
      refine take1 (i := 13) (v := ?_) rfl (by kernel_rfl) (by kernel_rfl) (by kernel_rfl) (fun _ _ _ h => h) (by rfl) ?_ (by assumption) ?_
      (rotate_left; focus (intro w' hSw; (try dsimp only at hSw); go_simp; (try with_reducible rfl)))
      try simp only [List.getElem_toArray, List.getElem_cons_succ, List.getElem_cons_zero, Act.put, List.setIfInBounds_toArray, List.set_cons_zero, List.set_cons_succ]
      refine take1 (i := 14) (v := ?_) rfl (by kernel_rfl) (by kernel_rfl) (by kernel_rfl) (fun _ _ _ h => h) (by rfl) ?_ (by assumption) ?_
      (rotate_left; focus (intro w' hSw; (try dsimp only at hSw); go_simp; (try with_reducible rfl)))
      try simp only [List.getElem_toArray, List.getElem_cons_succ, List.getElem_cons_zero, Act.put, List.setIfInBounds_toArray, List.set_cons_zero, List.set_cons_succ]
      refine wpAnyH_ready (rs := [15]) (by kernel_rfl) (by simp) ?_
      refine AllReadyH.cons rfl (fun K hK => ?_) AllReadyH.nil
      try simp only [List.getElem_toArray, List.getElem_cons_succ, List.getElem_cons_zero]
      go_simp
      (go_at_call 23; (with_reducible refine (HN2.out _ h2).mono ?_); rintro e' w3 ⟨rfl, h3⟩; have s3 := SG.out _ h3)
      try go_wp2_with fail
      refine hK.out _ _ s3 (fun hHeld => ?_)
      clear hK K
      try simp only [List.getElem_toArray, List.getElem_cons_succ, List.getElem_cons_zero, Act.put, List.setIfInBounds_toArray, List.set_cons_zero, List.set_cons_succ]
      refine take1 (i := 16) (v := ?_) rfl (by kernel_rfl) (by kernel_rfl) (by kernel_rfl) (fun _ _ _ h => h) (by rfl) ?_ (by assumption) ?_
      (rotate_left; focus (intro w' hSw; (try dsimp only at hSw); go_simp; (try with_reducible rfl)))
      try simp only [List.getElem_toArray, List.getElem_cons_succ, List.getElem_cons_zero, Act.put, List.setIfInBounds_toArray, List.set_cons_zero, List.set_cons_succ]
      refine take1 (i := 17) (v := ?_) rfl (by kernel_rfl) (by kernel_rfl) (by kernel_rfl) (fun _ _ _ h => h) (by rfl) ?_ (by assumption) ?_
      (rotate_left; focus (intro w' hSw; (try dsimp only at hSw); go_simp; (try with_reducible rfl)))
      try simp only [List.getElem_toArray, List.getElem_cons_succ, List.getElem_cons_zero, Act.put, List.setIfInBounds_toArray, List.set_cons_zero, List.set_cons_succ]
      refine take1 (i := 18) (v := ?_) rfl (by kernel_rfl) (by kernel_rfl) (by kernel_rfl) (fun _ _ _ h => h) (by rfl) ?_ (by assumption) ?_
      (rotate_left; focus (intro w' hSw; (try dsimp only at hSw); go_simp; (try with_reducible rfl)))
      try simp only [List.getElem_toArray, List.getElem_cons_succ, List.getElem_cons_zero, Act.put, List.setIfInBounds_toArray, List.set_cons_zero, List.set_cons_succ]
      refine dead1 (i := 19) rfl (by kernel_rfl) (by kernel_rfl) (by kernel_rfl) (fun _ _ _ h => h) (by rfl) (by assumption) ?_
      try simp only [List.getElem_toArray, List.getElem_cons_succ, List.getElem_cons_zero, Act.put, List.setIfInBounds_toArray, List.set_cons_zero, List.set_cons_succ]
      refine dead1 (i := 20) rfl (by kernel_rfl) (by kernel_rfl) (by kernel_rfl) (fun _ _ _ h => h) (by rfl) (by assumption) ?_
      try simp only [List.getElem_toArray, List.getElem_cons_succ, List.getElem_cons_zero, Act.put, List.setIfInBounds_toArray, List.set_cons_zero, List.set_cons_succ]
      refine dead1 (i := 21) rfl (by kernel_rfl) (by kernel_rfl) (by kernel_rfl) (fun _ _ _ h => h) (by rfl) (by assumption) ?_
      try simp only [List.getElem_toArray, List.getElem_cons_succ, List.getElem_cons_zero, Act.put, List.setIfInBounds_toArray, List.set_cons_zero, List.set_cons_succ]
      refine dead1 (i := 22) rfl (by kernel_rfl) (by kernel_rfl) (by kernel_rfl) (fun _ _ _ h => h) (by rfl) (by assumption) ?_
      try simp only [List.getElem_toArray, List.getElem_cons_succ, List.getElem_cons_zero, Act.put, List.setIfInBounds_toArray, List.set_cons_zero, List.set_cons_succ]
      refine dead1 (i := 23) rfl (by kernel_rfl) (by kernel_rfl) (by kernel_rfl) (fun _ _ _ h => h) (by rfl) (by assumption) ?_
      try simp only [List.getElem_toArray, List.getElem_cons_succ, List.getElem_cons_zero, Act.put, List.setIfInBounds_toArray, List.set_cons_zero, List.set_cons_succ]
      refine take1 (i := 24) (v := ?_) rfl (by kernel_rfl) (by kernel_rfl) (by kernel_rfl) (fun _ _ _ h => h) (by rfl) ?_ (by assumption) ?_
      (rotate_left; focus (intro w' hSw; (try dsimp only at hSw); go_simp; (try with_reducible rfl)))
      try simp only [List.getElem_toArray, List.getElem_cons_succ, List.getElem_cons_zero, Act.put, List.setIfInBounds_toArray, List.set_cons_zero, List.set_cons_succ]
      refine take1 (i := 25) (v := ?_) rfl (by kernel_rfl) (by kernel_rfl) (by kernel_rfl) (fun _ _ _ h => h) (by rfl) ?_ (by assumption) ?_
      (rotate_left; focus (intro w' hSw; (try dsimp only at hSw); go_simp; (try with_reducible rfl)))
      try simp only [List.getElem_toArray, List.getElem_cons_succ, List.getElem_cons_zero, Act.put, List.setIfInBounds_toArray, List.set_cons_zero, List.set_cons_succ]
      refine dead1 (i := 26) rfl (by kernel_rfl) (by kernel_rfl) (by kernel_rfl) (fun _ _ _ h => h) (by rfl) (by assumption) ?_
      try simp only [List.getElem_toArray, List.getElem_cons_succ, List.getElem_cons_zero, Act.put, List.setIfInBounds_toArray, List.set_cons_zero, List.set_cons_succ]
      refine dead1 (i := 27) rfl (by kernel_rfl) (by kernel_rfl) (by kernel_rfl) (fun _ _ _ h => h) (by rfl) (by assumption) ?_
      try simp only [List.getElem_toArray, List.getElem_cons_succ, List.getElem_cons_zero, Act.put, List.setIfInBounds_toArray, List.set_cons_zero, List.set_cons_succ]
      refine dead1 (i := 28) rfl (by kernel_rfl) (by kernel_rfl) (by kernel_rfl) (fun _ _ _ h => h) (by rfl) (by assumption) ?_
      try simp only [List.getElem_toArray, List.getElem_cons_succ, List.getElem_cons_zero, Act.put, List.setIfInBounds_toArray, List.set_cons_zero, List.set_cons_succ]
      refine take1 (i := 29) (v := ?_) rfl (by kernel_rfl) (by kernel_rfl) (by kernel_rfl) (fun _ _ _ h => h) (by rfl) ?_ (by assumption) ?_
      (rotate_left; focus (intro w' hSw; (try dsimp only at hSw); go_simp; (try with_reducible rfl)))
      try simp only [List.getElem_toArray, List.getElem_cons_succ, List.getElem_cons_zero, Act.put, List.setIfInBounds_toArray, List.set_cons_zero, List.set_cons_succ]
      refine take1 (i := 30) (v := ?_) rfl (by kernel_rfl) (by kernel_rfl) (by kernel_rfl) (fun _ _ _ h => h) (by rfl) ?_ (by assumption) ?_
      (rotate_left; focus (intro w' hSw; (try dsimp only at hSw); go_simp; (try with_reducible rfl)))
      try simp only [List.getElem_toArray, List.getElem_cons_succ, List.getElem_cons_zero, Act.put, List.setIfInBounds_toArray, List.set_cons_zero, List.set_cons_succ]
      refine dead1 (i := 31) rfl (by kernel_rfl) (by kernel_rfl) (by kernel_rfl) (fun _ _ _ h => h) (by rfl) (by assumption) ?_
      try simp only [List.getElem_toArray, List.getElem_cons_succ, List.getElem_cons_zero, Act.put, List.setIfInBounds_toArray, List.set_cons_zero, List.set_cons_succ]
      refine dead1 (i := 32) rfl (by kernel_rfl) (by kernel_rfl) (by kernel_rfl) (fun _ _ _ h => h) (by rfl) (by assumption) ?_
      try simp only [List.getElem_toArray, List.getElem_cons_succ, List.getElem_cons_zero, Act.put, List.setIfInBounds_toArray, List.set_cons_zero, List.set_cons_succ]
      refine dead1 (i := 33) rfl (by kernel_rfl) (by kernel_rfl) (by kernel_rfl) (fun _ _ _ h => h) (by rfl) (by assumption) ?_
      try simp only [List.getElem_toArray, List.getElem_cons_succ, List.getElem_cons_zero, Act.put, List.setIfInBounds_toArray, List.set_cons_zero, List.set_cons_succ]
      refine dead1 (i := 34) rfl (by kernel_rfl) (by kernel_rfl) (by kernel_rfl) (fun _ _ _ h => h) (by rfl) (by assumption) ?_
      try simp only [List.getElem_toArray, List.getElem_cons_succ, List.getElem_cons_zero, Act.put, List.setIfInBounds_toArray, List.set_cons_zero, List.set_cons_succ]
      refine dead1 (i := 35) rfl (by kernel_rfl) (by kernel_rfl) (by kernel_rfl) (fun _ _ _ h => h) (by rfl) (by assumption) ?_
      try simp only [List.getElem_toArray, List.getElem_cons_succ, List.getElem_cons_zero, Act.put, List.setIfInBounds_toArray, List.set_cons_zero, List.set_cons_succ]
      refine dead1 (i := 36) rfl (by kernel_rfl) (by kernel_rfl) (by kernel_rfl) (fun _ _ _ h => h) (by rfl) (by assumption) ?_
      try simp only [List.getElem_toArray, List.getElem_cons_succ, List.getElem_cons_zero, Act.put, List.setIfInBounds_toArray, List.set_cons_zero, List.set_cons_succ]
      refine dead1 (i := 37) rfl (by kernel_rfl) (by kernel_rfl) (by kernel_rfl) (fun _ _ _ h => h) (by rfl) (by assumption) ?_
      try simp only [List.getElem_toArray, List.getElem_cons_succ, List.getElem_cons_zero, Act.put, List.setIfInBounds_toArray, List.set_cons_zero, List.set_cons_succ]
      refine dead1 (i := 38) rfl (by kernel_rfl) (by kernel_rfl) (by kernel_rfl) (fun _ _ _ h => h) (by rfl) (by assumption) ?_
      try simp only [List.getElem_toArray, List.getElem_cons_succ, List.getElem_cons_zero, Act.put, List.setIfInBounds_toArray, List.set_cons_zero, List.set_cons_succ]
      refine take1 (i := 39) (v := ?_) rfl (by kernel_rfl) (by kernel_rfl) (by kernel_rfl) (fun _ _ _ h => h) (by rfl) ?_ (by assumption) ?_
      (rotate_left; focus (intro w' hSw; (try dsimp only at hSw); go_simp; (try with_reducible rfl)))
      try simp only [List.getElem_toArray, List.getElem_cons_succ, List.getElem_cons_zero, Act.put, List.setIfInBounds_toArray, List.set_cons_zero, List.set_cons_succ]
      refine wpAnyH_done (by kernel_rfl) ?_ _
      clear s1 s2 s3
      obtain ⟨y0, y1, y2⟩ := box_cells h3.2.2.2
      go_wp2_with fail
      have HG := (h3).put (a := 0) (b := 0)
      refine bodyPost_ret (results_cellrow_tmp (p := 8) (u := 9) (fn := Try.f37) rfl _ _ _ _ _ _ _ rfl HG.out.1 Try.underlying92 rfl (by kernel_rfl)) rfl ?_
      exact ⟨⟨0, 0, false, rfl, HO.out⟩, HG.out.2⟩
    | true =>
      rw [n2] at HN2
      unfold nodeB at n1 n2
      simp only [Bool.and_eq_true, decide_eq_true_eq] at n1 n2
      by_cases hvt : v = t
      · have t1 : (v == t) = true := beq_iff_eq.2 hvt
        clear hb n1 n2 hvt
        go_enter Try.func37, Try.ntmps37
        go_wp2_with fail
        generalize (((w.alloc (.cells #[.int .i64 v, .int .i64 k] 92)).alloc (.cells #[.bool false, .int .i64 t] 46)).alloc (.cells #[.int .i64 0, .int .i64 0] 92)) = w1 at *
        have h1d := hS.drew
        have s1 := SG.out _ h1d
        refine wp_region_held_drew (S := fun w' => w'.cell? ⟨B, 0, none⟩ = some (.int .i64 nd) ∧ w'.cell? ⟨B, 1, none⟩ = some (.slice A n c) ∧ w'.cell? ⟨B, 2, none⟩ = some (.slice Ap m cp) ∧ w'.cell? ⟨w.heap.size, 0, none⟩ = some (.int .i64 v) ∧ w'.cell? ⟨w.heap.size, 1, none⟩ = some (.int .i64 k) ∧ w'.cell? ⟨w.heap.size + 1, 1, none⟩ = some (.int .i64 t)) (by kernel_rfl) s1 (fun hHeld => ?_)
        refine take1 (i := 0) (v := ?_) rfl (by kernel_rfl) (by kernel_rfl) (by kernel_rfl) (fun _ _ _ h => h) (by rfl) ?_ (by assumption) ?_
        (rotate_left; focus (intro w' hSw; (try dsimp only at hSw); go_simp; (try with_reducible rfl)))
        try simp only [List.getElem_toArray, List.getElem_cons_zero, Act.put, List.setIfInBounds_toArray, List.set_cons_zero, List.set_cons_succ]
        refine take1 (i := 1) (v := ?_) rfl (by kernel_rfl) (by kernel_rfl) (by kernel_rfl) (fun _ _ _ h => h) (by rfl) ?_ (by assumption) ?_
        (rotate_left; focus (intro w' hSw; (try dsimp only at hSw); go_simp; (try with_reducible rfl)))
        try simp only [List.getElem_toArray, List.getElem_cons_succ, List.getElem_cons_zero, Act.put, List.setIfInBounds_toArray, List.set_cons_zero, List.set_cons_succ]
        refine take1 (i := 2) (v := ?_) rfl (by kernel_rfl) (by kernel_rfl) (by kernel_rfl) (fun _ _ _ h => h) (by rfl) ?_ (by assumption) ?_
        (rotate_left; focus (intro w' hSw; (try dsimp only at hSw); go_simp; (try with_reducible rfl)))
        try simp only [List.getElem_toArray, List.getElem_cons_succ, List.getElem_cons_zero, Act.put, List.setIfInBounds_toArray, List.set_cons_zero, List.set_cons_succ]
        refine take1 (i := 3) (v := ?_) rfl (by kernel_rfl) (by kernel_rfl) (by kernel_rfl) (fun _ _ _ h => h) (by rfl) ?_ (by assumption) ?_
        (rotate_left; focus (intro w' hSw; (try dsimp only at hSw); go_simp; (try with_reducible rfl)))
        try simp only [List.getElem_toArray, List.getElem_cons_succ, List.getElem_cons_zero, Act.put, List.setIfInBounds_toArray, List.set_cons_zero, List.set_cons_succ]
        refine take1 (i := 4) (v := ?_) rfl (by kernel_rfl) (by kernel_rfl) (by kernel_rfl) (fun _ _ _ h => h) (by rfl) ?_ (by assumption) ?_
        (rotate_left; focus (intro w' hSw; (try dsimp only at hSw); go_simp; (try with_reducible rfl)))
        try simp only [List.getElem_toArray, List.getElem_cons_succ, List.getElem_cons_zero, Act.put, List.setIfInBounds_toArray, List.set_cons_zero, List.set_cons_succ]
        refine take1 (i := 5) (v := ?_) rfl (by kernel_rfl) (by kernel_rfl) (by kernel_rfl) (fun _ _ _ h => h) (by rfl) ?_ (by assumption) ?_
        (rotate_left; focus (intro w' hSw; (try dsimp only at hSw); go_simp; (try with_reducible rfl)))
        try simp only [List.getElem_toArray, List.getElem_cons_succ, List.getElem_cons_zero, Act.put, List.setIfInBounds_toArray, List.set_cons_zero, List.set_cons_succ]
        refine wpAnyH_ready (rs := [6]) (by kernel_rfl) (by simp) ?_
        refine AllReadyH.cons rfl (fun K hK => ?_) AllReadyH.nil
        try simp only [List.getElem_toArray, List.getElem_cons_succ, List.getElem_cons_zero]
        go_simp
        (go_at_call 23; (with_reducible refine (HN1.out _ h1d).mono ?_); rintro e' w2 ⟨rfl, h2⟩; have s2 := SG.out _ h2)
        try go_wp2_with fail
        refine hK.out _ _ s2 (fun hHeld => ?_)
        clear hK K
        try simp only [List.getElem_toArray, List.getElem_cons_succ, List.getElem_cons_zero, Act.put, List.setIfInBounds_toArray, List.set_cons_zero, List.set_cons_succ]
        refine take1 (i := 7) (v := ?_) rfl (by kernel_rfl) (by kernel_rfl) (by kernel_rfl) (fun _ _ _ h => h) (by rfl) ?_ (by assumption) ?_
        (rotate_left; focus (intro w' hSw; (try dsimp only at hSw); go_simp; (try with_reducible rfl)))
        try simp only [List.getElem_toArray, List.getElem_cons_succ, List.getElem_cons_zero, Act.put, List.setIfInBounds_toArray, List.set_cons_zero, List.set_cons_succ]
        refine take1 (i := 8) (v := ?_) rfl (by kernel_rfl) (by kernel_rfl) (by kernel_rfl) (fun _ _ _ h => h) (by rfl) ?_ (by assumption) ?_
        (rotate_left; focus (intro w' hSw; (try dsimp only at hSw); go_simp; (try with_reducible rfl)))
        try simp only [List.getElem_toArray, List.getElem_cons_succ, List.getElem_cons_zero, Act.put, List.setIfInBounds_toArray, List.set_cons_zero, List.set_cons_succ]
        refine take1 (i := 9) (v := ?_) rfl (by kernel_rfl) (by kernel_rfl) (by kernel_rfl) (fun _ _ _ h => h) (by rfl) ?_ (by assumption) ?_
        (rotate_left; focus (intro w' hSw; (try dsimp only at hSw); go_simp; (try with_reducible rfl)))
        try simp only [List.getElem_toArray, List.getElem_cons_succ, List.getElem_cons_zero, Act.put, List.setIfInBounds_toArray, List.set_cons_zero, List.set_cons_succ]
        refine take1 (i := 10) (v := ?_) rfl (by kernel_rfl) (by kernel_rfl) (by kernel_rfl) (fun _ _ _ h => h) (by rfl) ?_ (by assumption) ?_
        (rotate_left; focus (intro w' hSw; (try dsimp only at hSw); go_simp; (try with_reducible rfl)))
        try simp only [List.getElem_toArray, List.getElem_cons_succ, List.getElem_cons_zero, Act.put, List.setIfInBounds_toArray, List.set_cons_zero, List.set_cons_succ]
        refine take1 (i := 11) (v := ?_) rfl (by kernel_rfl) (by kernel_rfl) (by kernel_rfl) (fun _ _ _ h => h) (by rfl) ?_ (by assumption) ?_
        (rotate_left; focus (intro w' hSw; (try dsimp only at hSw); go_simp; (try with_reducible rfl)))
        try simp only [List.getElem_toArray, List.getElem_cons_succ, List.getElem_cons_zero, Act.put, List.setIfInBounds_toArray, List.set_cons_zero, List.set_cons_succ]
        refine take1 (i := 12) (v := ?_) rfl (by kernel_rfl) (by kernel_rfl) (by kernel_rfl) (fun _ _ _ h => h) (by rfl) ?_ (by assumption) ?_
        (rotate_left; focus (intro w' hSw; (try dsimp only at hSw); go_simp; (try with_reducible rfl)))
        try simp only [List.getElem_toArray, List.getElem_cons_succ, List.getElem_cons_zero, Act.put, List.setIfInBounds_toArray, List.set_cons_zero, List.set_cons_succ]
        refine take1 (i := 13) (v := ?_) rfl (by kernel_rfl) (by kernel_rfl) (by kernel_rfl) (fun _ _ _ h => h) (by rfl) ?_ (by assumption) ?_
        (rotate_left; focus (intro w' hSw; (try dsimp only at hSw); go_simp; (try with_reducible rfl)))
        try simp only [List.getElem_toArray, List.getElem_cons_succ, List.getElem_cons_zero, Act.put, List.setIfInBounds_toArray, List.set_cons_zero, List.set_cons_succ]
        refine take1 (i := 14) (v := ?_) rfl (by kernel_rfl) (by kernel_rfl) (by kernel_rfl) (fun _ _ _ h => h) (by rfl) ?_ (by assumption) ?_
        (rotate_left; focus (intro w' hSw; (try dsimp only at hSw); go_simp; (try with_reducible rfl)))
        try simp only [List.getElem_toArray, List.getElem_cons_succ, List.getElem_cons_zero, Act.put, List.setIfInBounds_toArray, List.set_cons_zero, List.set_cons_succ]
        refine wpAnyH_ready (rs := [15]) (by kernel_rfl) (by simp) ?_
        refine AllReadyH.cons rfl (fun K hK => ?_) AllReadyH.nil
        try simp only [List.getElem_toArray, List.getElem_cons_succ, List.getElem_cons_zero]
        go_simp
        (go_at_call 23; (with_reducible refine (HN2.out _ h2).mono ?_); rintro e' w3 ⟨rfl, h3⟩; have s3 := SG.out _ h3)
        try go_wp2_with fail
        refine hK.out _ _ s3 (fun hHeld => ?_)
        clear hK K
        try simp only [List.getElem_toArray, List.getElem_cons_succ, List.getElem_cons_zero, Act.put, List.setIfInBounds_toArray, List.set_cons_zero, List.set_cons_succ]
        refine take1 (i := 16) (v := ?_) rfl (by kernel_rfl) (by kernel_rfl) (by kernel_rfl) (fun _ _ _ h => h) (by rfl) ?_ (by assumption) ?_
        (rotate_left; focus (intro w' hSw; (try dsimp only at hSw); go_simp; (try with_reducible rfl)))
        try simp only [List.getElem_toArray, List.getElem_cons_succ, List.getElem_cons_zero, Act.put, List.setIfInBounds_toArray, List.set_cons_zero, List.set_cons_succ]
        refine take1 (i := 17) (v := ?_) rfl (by kernel_rfl) (by kernel_rfl) (by kernel_rfl) (fun _ _ _ h => h) (by rfl) ?_ (by assumption) ?_
        (rotate_left; focus (intro w' hSw; (try dsimp only at hSw); go_simp; (try with_reducible rfl)))
        try simp only [List.getElem_toArray, List.getElem_cons_succ, List.getElem_cons_zero, Act.put, List.setIfInBounds_toArray, List.set_cons_zero, List.set_cons_succ]
        refine take1 (i := 18) (v := ?_) rfl (by kernel_rfl) (by kernel_rfl) (by kernel_rfl) (fun _ _ _ h => h) (by rfl) ?_ (by assumption) ?_
        (rotate_left; focus (intro w' hSw; (try dsimp only at hSw); go_simp; (try with_reducible rfl)))
        try simp only [List.getElem_toArray, List.getElem_cons_succ, List.getElem_cons_zero, Act.put, List.setIfInBounds_toArray, List.set_cons_zero, List.set_cons_succ]
        refine take1 (i := 19) (v := ?_) rfl (by kernel_rfl) (by kernel_rfl) (by kernel_rfl) (fun _ _ _ h => h) (by rfl) ?_ (by assumption) ?_
        (rotate_left; focus (intro w' hSw; (try dsimp only at hSw); go_simp; (try with_reducible rfl)))
        try simp only [List.getElem_toArray, List.getElem_cons_succ, List.getElem_cons_zero, Act.put, List.setIfInBounds_toArray, List.set_cons_zero, List.set_cons_succ]
        refine take1 (i := 20) (v := ?_) rfl (by kernel_rfl) (by kernel_rfl) (by kernel_rfl) (fun _ _ _ h => h) (by rfl) ?_ (by assumption) ?_
        (rotate_left; focus (intro w' hSw; (try dsimp only at hSw); go_simp; (try with_reducible rfl)))
        try simp only [List.getElem_toArray, List.getElem_cons_succ, List.getElem_cons_zero, Act.put, List.setIfInBounds_toArray, List.set_cons_zero, List.set_cons_succ]
        refine take1 (i := 21) (v := ?_) rfl (by kernel_rfl) (by kernel_rfl) (by kernel_rfl) (fun _ _ _ h => h) (by rfl) ?_ (by assumption) ?_
        (rotate_left; focus (intro w' hSw; (try dsimp only at hSw); go_simp; (try with_reducible rfl)))
        try simp only [List.getElem_toArray, List.getElem_cons_succ, List.getElem_cons_zero, Act.put, List.setIfInBounds_toArray, List.set_cons_zero, List.set_cons_succ]
        refine take1 (i := 22) (v := ?_) rfl (by kernel_rfl) (by kernel_rfl) (by kernel_rfl) (fun _ _ _ h => h) (by rfl) ?_ (by assumption) ?_
        (rotate_left; focus (intro w' hSw; (try dsimp only at hSw); go_simp; (try with_reducible rfl)))
        try simp only [List.getElem_toArray, List.getElem_cons_succ, List.getElem_cons_zero, Act.put, List.setIfInBounds_toArray, List.set_cons_zero, List.set_cons_succ]
        refine take1 (i := 23) (v := ?_) rfl (by kernel_rfl) (by kernel_rfl) (by kernel_rfl) (fun _ _ _ h => h) (by rfl) ?_ (by assumption) ?_
        (rotate_left; focus (intro w' hSw; (try dsimp only at hSw); go_simp; (try with_reducible rfl)))
        try simp only [List.getElem_toArray, List.getElem_cons_succ, List.getElem_cons_zero, Act.put, List.setIfInBounds_toArray, List.set_cons_zero, List.set_cons_succ]
        refine take1 (i := 24) (v := ?_) rfl (by kernel_rfl) (by kernel_rfl) (by kernel_rfl) (fun _ _ _ h => h) (by rfl) ?_ (by assumption) ?_
        (rotate_left; focus (intro w' hSw; (try dsimp only at hSw); go_simp; (try with_reducible rfl)))
        try simp only [List.getElem_toArray, List.getElem_cons_succ, List.getElem_cons_zero, Act.put, List.setIfInBounds_toArray, List.set_cons_zero, List.set_cons_succ]
        refine take1 (i := 25) (v := ?_) rfl (by kernel_rfl) (by kernel_rfl) (by kernel_rfl) (fun _ _ _ h => h) (by rfl) ?_ (by assumption) ?_
        (rotate_left; focus (intro w' hSw; (try dsimp only at hSw); go_simp; (try with_reducible rfl)))
        try simp only [List.getElem_toArray, List.getElem_cons_succ, List.getElem_cons_zero, Act.put, List.setIfInBounds_toArray, List.set_cons_zero, List.set_cons_succ]
        refine dead1 (i := 26) rfl (by kernel_rfl) (by kernel_rfl) (by kernel_rfl) (fun _ _ _ h => h) (by rfl) (by assumption) ?_
        try simp only [List.getElem_toArray, List.getElem_cons_succ, List.getElem_cons_zero, Act.put, List.setIfInBounds_toArray, List.set_cons_zero, List.set_cons_succ]
        refine dead1 (i := 27) rfl (by kernel_rfl) (by kernel_rfl) (by kernel_rfl) (fun _ _ _ h => h) (by rfl) (by assumption) ?_
        try simp only [List.getElem_toArray, List.getElem_cons_succ, List.getElem_cons_zero, Act.put, List.setIfInBounds_toArray, List.set_cons_zero, List.set_cons_succ]
        refine dead1 (i := 28) rfl (by kernel_rfl) (by kernel_rfl) (by kernel_rfl) (fun _ _ _ h => h) (by rfl) (by assumption) ?_
        try simp only [List.getElem_toArray, List.getElem_cons_succ, List.getElem_cons_zero, Act.put, List.setIfInBounds_toArray, List.set_cons_zero, List.set_cons_succ]
        refine take1 (i := 29) (v := ?_) rfl (by kernel_rfl) (by kernel_rfl) (by kernel_rfl) (fun _ _ _ h => h) (by rfl) ?_ (by assumption) ?_
        (rotate_left; focus (intro w' hSw; (try dsimp only at hSw); go_simp; (try with_reducible rfl)))
        try simp only [List.getElem_toArray, List.getElem_cons_succ, List.getElem_cons_zero, Act.put, List.setIfInBounds_toArray, List.set_cons_zero, List.set_cons_succ]
        refine take1 (i := 30) (v := ?_) rfl (by kernel_rfl) (by kernel_rfl) (by kernel_rfl) (fun _ _ _ h => h) (by rfl) ?_ (by assumption) ?_
        (rotate_left; focus (intro w' hSw; (try dsimp only at hSw); go_simp; (try with_reducible rfl)))
        try simp only [List.getElem_toArray, List.getElem_cons_succ, List.getElem_cons_zero, Act.put, List.setIfInBounds_toArray, List.set_cons_zero, List.set_cons_succ]
        refine dead1 (i := 31) rfl (by kernel_rfl) (by kernel_rfl) (by kernel_rfl) (fun _ _ _ h => h) (by rfl) (by assumption) ?_
        try simp only [List.getElem_toArray, List.getElem_cons_succ, List.getElem_cons_zero, Act.put, List.setIfInBounds_toArray, List.set_cons_zero, List.set_cons_succ]
        refine dead1 (i := 32) rfl (by kernel_rfl) (by kernel_rfl) (by kernel_rfl) (fun _ _ _ h => h) (by rfl) (by assumption) ?_
        try simp only [List.getElem_toArray, List.getElem_cons_succ, List.getElem_cons_zero, Act.put, List.setIfInBounds_toArray, List.set_cons_zero, List.set_cons_succ]
        refine dead1 (i := 33) rfl (by kernel_rfl) (by kernel_rfl) (by kernel_rfl) (fun _ _ _ h => h) (by rfl) (by assumption) ?_
        try simp only [List.getElem_toArray, List.getElem_cons_succ, List.getElem_cons_zero, Act.put, List.setIfInBounds_toArray, List.set_cons_zero, List.set_cons_succ]
        refine dead1 (i := 34) rfl (by kernel_rfl) (by kernel_rfl) (by kernel_rfl) (fun _ _ _ h => h) (by rfl) (by assumption) ?_
        try simp only [List.getElem_toArray, List.getElem_cons_succ, List.getElem_cons_zero, Act.put, List.setIfInBounds_toArray, List.set_cons_zero, List.set_cons_succ]
        refine dead1 (i := 35) rfl (by kernel_rfl) (by kernel_rfl) (by kernel_rfl) (fun _ _ _ h => h) (by rfl) (by assumption) ?_
        try simp only [List.getElem_toArray, List.getElem_cons_succ, List.getElem_cons_zero, Act.put, List.setIfInBounds_toArray, List.set_cons_zero, List.set_cons_succ]
        refine dead1 (i := 36) rfl (by kernel_rfl) (by kernel_rfl) (by kernel_rfl) (fun _ _ _ h => h) (by rfl) (by assumption) ?_
        try simp only [List.getElem_toArray, List.getElem_cons_succ, List.getElem_cons_zero, Act.put, List.setIfInBounds_toArray, List.set_cons_zero, List.set_cons_succ]
        refine dead1 (i := 37) rfl (by kernel_rfl) (by kernel_rfl) (by kernel_rfl) (fun _ _ _ h => h) (by rfl) (by assumption) ?_
        try simp only [List.getElem_toArray, List.getElem_cons_succ, List.getElem_cons_zero, Act.put, List.setIfInBounds_toArray, List.set_cons_zero, List.set_cons_succ]
        refine dead1 (i := 38) rfl (by kernel_rfl) (by kernel_rfl) (by kernel_rfl) (fun _ _ _ h => h) (by rfl) (by assumption) ?_
        try simp only [List.getElem_toArray, List.getElem_cons_succ, List.getElem_cons_zero, Act.put, List.setIfInBounds_toArray, List.set_cons_zero, List.set_cons_succ]
        refine take1 (i := 39) (v := ?_) rfl (by kernel_rfl) (by kernel_rfl) (by kernel_rfl) (fun _ _ _ h => h) (by rfl) ?_ (by assumption) ?_
        (rotate_left; focus (intro w' hSw; (try dsimp only at hSw); go_simp; (try with_reducible rfl)))
        try simp only [List.getElem_toArray, List.getElem_cons_succ, List.getElem_cons_zero, Act.put, List.setIfInBounds_toArray, List.set_cons_zero, List.set_cons_succ]
        refine wpAnyH_done (by kernel_rfl) ?_ _
        clear s1 s2 s3
        obtain ⟨y0, y1, y2⟩ := box_cells h3.2.2.2
        go_wp2_with fail
        have HG := (h3).put (a := 0) (b := 0)
        refine bodyPost_ret (results_cellrow_tmp (p := 8) (u := 9) (fn := Try.f37) rfl _ _ _ _ _ _ _ rfl HG.out.1 Try.underlying92 rfl (by kernel_rfl)) rfl ?_
        exact ⟨⟨0, 0, false, rfl, HO.out⟩, HG.out.2⟩
      · have t1 : (v == t) = false := beq_eq_false_iff_ne.2 hvt
        by_cases hk0 : k < 0
        · have t2 : decide (k < 0) = true := decide_eq_true hk0
          clear hb n1 n2 hvt hk0
          go_enter Try.func37, Try.ntmps37
          go_wp2_with fail
          generalize (((w.alloc (.cells #[.int .i64 v, .int .i64 k] 92)).alloc (.cells #[.bool false, .int .i64 t] 46)).alloc (.cells #[.int .i64 0, .int .i64 0] 92)) = w1 at *
          have h1d := hS.drew
          have s1 := SG.out _ h1d
          refine wp_region_held_drew (S := fun w' => w'.cell? ⟨B, 0, none⟩ = some (.int .i64 nd) ∧ w'.cell? ⟨B, 1, none⟩ = some (.slice A n c) ∧ w'.cell? ⟨B, 2, none⟩ = some (.slice Ap m cp) ∧ w'.cell? ⟨w.heap.size, 0, none⟩ = some (.int .i64 v) ∧ w'.cell? ⟨w.heap.size, 1, none⟩ = some (.int .i64 k) ∧ w'.cell? ⟨w.heap.size + 1, 1, none⟩ = some (.int .i64 t)) (by kernel_rfl) s1 (fun hHeld => ?_)
          refine take1 (i := 0) (v := ?_) rfl (by kernel_rfl) (by kernel_rfl) (by kernel_rfl) (fun _ _ _ h => h) (by rfl) ?_ (by assumption) ?_
          (rotate_left; focus (intro w' hSw; (try dsimp only at hSw); go_simp; (try with_reducible rfl)))
          try simp only [List.getElem_toArray, List.getElem_cons_zero, Act.put, List.setIfInBounds_toArray, List.set_cons_zero, List.set_cons_succ]
          refine take1 (i := 1) (v := ?_) rfl (by kernel_rfl) (by kernel_rfl) (by kernel_rfl) (fun _ _ _ h => h) (by rfl) ?_ (by assumption) ?_
          (rotate_left; focus (intro w' hSw; (try dsimp only at hSw); go_simp; (try with_reducible rfl)))
          try simp only [List.getElem_toArray, List.getElem_cons_succ, List.getElem_cons_zero, Act.put, List.setIfInBounds_toArray, List.set_cons_zero, List.set_cons_succ]
          refine take1 (i := 2) (v := ?_) rfl (by kernel_rfl) (by kernel_rfl) (by kernel_rfl) (fun _ _ _ h => h) (by rfl) ?_ (by assumption) ?_
          (rotate_left; focus (intro w' hSw; (try dsimp only at hSw); go_simp; (try with_reducible rfl)))
          try simp only [List.getElem_toArray, List.getElem_cons_succ, List.getElem_cons_zero, Act.put, List.setIfInBounds_toArray, List.set_cons_zero, List.set_cons_succ]
          refine take1 (i := 3) (v := ?_) rfl (by kernel_rfl) (by kernel_rfl) (by kernel_rfl) (fun _ _ _ h => h) (by rfl) ?_ (by assumption) ?_
          (rotate_left; focus (intro w' hSw; (try dsimp only at hSw); go_simp; (try with_reducible rfl)))
          try simp only [List.getElem_toArray, List.getElem_cons_succ, List.getElem_cons_zero, Act.put, List.setIfInBounds_toArray, List.set_cons_zero, List.set_cons_succ]
          refine take1 (i := 4) (v := ?_) rfl (by kernel_rfl) (by kernel_rfl) (by kernel_rfl) (fun _ _ _ h => h) (by rfl) ?_ (by assumption) ?_
          (rotate_left; focus (intro w' hSw; (try dsimp only at hSw); go_simp; (try with_reducible rfl)))
          try simp only [List.getElem_toArray, List.getElem_cons_succ, List.getElem_cons_zero, Act.put, List.setIfInBounds_toArray, List.set_cons_zero, List.set_cons_succ]
          refine take1 (i := 5) (v := ?_) rfl (by kernel_rfl) (by kernel_rfl) (by kernel_rfl) (fun _ _ _ h => h) (by rfl) ?_ (by assumption) ?_
          (rotate_left; focus (intro w' hSw; (try dsimp only at hSw); go_simp; (try with_reducible rfl)))
          try simp only [List.getElem_toArray, List.getElem_cons_succ, List.getElem_cons_zero, Act.put, List.setIfInBounds_toArray, List.set_cons_zero, List.set_cons_succ]
          refine wpAnyH_ready (rs := [6]) (by kernel_rfl) (by simp) ?_
          refine AllReadyH.cons rfl (fun K hK => ?_) AllReadyH.nil
          try simp only [List.getElem_toArray, List.getElem_cons_succ, List.getElem_cons_zero]
          go_simp
          (go_at_call 23; (with_reducible refine (HN1.out _ h1d).mono ?_); rintro e' w2 ⟨rfl, h2⟩; have s2 := SG.out _ h2)
          try go_wp2_with fail
          refine hK.out _ _ s2 (fun hHeld => ?_)
          clear hK K
          try simp only [List.getElem_toArray, List.getElem_cons_succ, List.getElem_cons_zero, Act.put, List.setIfInBounds_toArray, List.set_cons_zero, List.set_cons_succ]
          refine take1 (i := 7) (v := ?_) rfl (by kernel_rfl) (by kernel_rfl) (by kernel_rfl) (fun _ _ _ h => h) (by rfl) ?_ (by assumption) ?_
          (rotate_left; focus (intro w' hSw; (try dsimp only at hSw); go_simp; (try with_reducible rfl)))
          try simp only [List.getElem_toArray, List.getElem_cons_succ, List.getElem_cons_zero, Act.put, List.setIfInBounds_toArray, List.set_cons_zero, List.set_cons_succ]
          refine take1 (i := 8) (v := ?_) rfl (by kernel_rfl) (by kernel_rfl) (by kernel_rfl) (fun _ _ _ h => h) (by rfl) ?_ (by assumption) ?_
          (rotate_left; focus (intro w' hSw; (try dsimp only at hSw); go_simp; (try with_reducible rfl)))
          try simp only [List.getElem_toArray, List.getElem_cons_succ, List.getElem_cons_zero, Act.put, List.setIfInBounds_toArray, List.set_cons_zero, List.set_cons_succ]
          refine take1 (i := 9) (v := ?_) rfl (by kernel_rfl) (by kernel_rfl) (by kernel_rfl) (fun _ _ _ h => h) (by rfl) ?_ (by assumption) ?_
          (rotate_left; focus (intro w' hSw; (try dsimp only at hSw); go_simp; (try with_reducible rfl)))
          try simp only [List.getElem_toArray, List.getElem_cons_succ, List.getElem_cons_zero, Act.put, List.setIfInBounds_toArray, List.set_cons_zero, List.set_cons_succ]
          refine take1 (i := 10) (v := ?_) rfl (by kernel_rfl) (by kernel_rfl) (by kernel_rfl) (fun _ _ _ h => h) (by rfl) ?_ (by assumption) ?_
          (rotate_left; focus (intro w' hSw; (try dsimp only at hSw); go_simp; (try with_reducible rfl)))
          try simp only [List.getElem_toArray, List.getElem_cons_succ, List.getElem_cons_zero, Act.put, List.setIfInBounds_toArray, List.set_cons_zero, List.set_cons_succ]
          refine take1 (i := 11) (v := ?_) rfl (by kernel_rfl) (by kernel_rfl) (by kernel_rfl) (fun _ _ _ h => h) (by rfl) ?_ (by assumption) ?_
          (rotate_left; focus (intro w' hSw; (try dsimp only at hSw); go_simp; (try with_reducible rfl)))
          try simp only [List.getElem_toArray, List.getElem_cons_succ, List.getElem_cons_zero, Act.put, List.setIfInBounds_toArray, List.set_cons_zero, List.set_cons_succ]
          refine take1 (i := 12) (v := ?_) rfl (by kernel_rfl) (by kernel_rfl) (by kernel_rfl) (fun _ _ _ h => h) (by rfl) ?_ (by assumption) ?_
          (rotate_left; focus (intro w' hSw; (try dsimp only at hSw); go_simp; (try with_reducible rfl)))
          try simp only [List.getElem_toArray, List.getElem_cons_succ, List.getElem_cons_zero, Act.put, List.setIfInBounds_toArray, List.set_cons_zero, List.set_cons_succ]
          refine take1 (i := 13) (v := ?_) rfl (by kernel_rfl) (by kernel_rfl) (by kernel_rfl) (fun _ _ _ h => h) (by rfl) ?_ (by assumption) ?_
          (rotate_left; focus (intro w' hSw; (try dsimp only at hSw); go_simp; (try with_reducible rfl)))
          try simp only [List.getElem_toArray, List.getElem_cons_succ, List.getElem_cons_zero, Act.put, List.setIfInBounds_toArray, List.set_cons_zero, List.set_cons_succ]
          refine take1 (i := 14) (v := ?_) rfl (by kernel_rfl) (by kernel_rfl) (by kernel_rfl) (fun _ _ _ h => h) (by rfl) ?_ (by assumption) ?_
          (rotate_left; focus (intro w' hSw; (try dsimp only at hSw); go_simp; (try with_reducible rfl)))
          try simp only [List.getElem_toArray, List.getElem_cons_succ, List.getElem_cons_zero, Act.put, List.setIfInBounds_toArray, List.set_cons_zero, List.set_cons_succ]
          refine wpAnyH_ready (rs := [15]) (by kernel_rfl) (by simp) ?_
          refine AllReadyH.cons rfl (fun K hK => ?_) AllReadyH.nil
          try simp only [List.getElem_toArray, List.getElem_cons_succ, List.getElem_cons_zero]
          go_simp
          (go_at_call 23; (with_reducible refine (HN2.out _ h2).mono ?_); rintro e' w3 ⟨rfl, h3⟩; have s3 := SG.out _ h3)
          try go_wp2_with fail
          refine hK.out _ _ s3 (fun hHeld => ?_)
          clear hK K
          try simp only [List.getElem_toArray, List.getElem_cons_succ, List.getElem_cons_zero, Act.put, List.setIfInBounds_toArray, List.set_cons_zero, List.set_cons_succ]
          refine take1 (i := 16) (v := ?_) rfl (by kernel_rfl) (by kernel_rfl) (by kernel_rfl) (fun _ _ _ h => h) (by rfl) ?_ (by assumption) ?_
          (rotate_left; focus (intro w' hSw; (try dsimp only at hSw); go_simp; (try with_reducible rfl)))
          try simp only [List.getElem_toArray, List.getElem_cons_succ, List.getElem_cons_zero, Act.put, List.setIfInBounds_toArray, List.set_cons_zero, List.set_cons_succ]
          refine take1 (i := 17) (v := ?_) rfl (by kernel_rfl) (by kernel_rfl) (by kernel_rfl) (fun _ _ _ h => h) (by rfl) ?_ (by assumption) ?_
          (rotate_left; focus (intro w' hSw; (try dsimp only at hSw); go_simp; (try with_reducible rfl)))
          try simp only [List.getElem_toArray, List.getElem_cons_succ, List.getElem_cons_zero, Act.put, List.setIfInBounds_toArray, List.set_cons_zero, List.set_cons_succ]
          refine take1 (i := 18) (v := ?_) rfl (by kernel_rfl) (by kernel_rfl) (by kernel_rfl) (fun _ _ _ h => h) (by rfl) ?_ (by assumption) ?_
          (rotate_left; focus (intro w' hSw; (try dsimp only at hSw); go_simp; (try with_reducible rfl)))
          try simp only [List.getElem_toArray, List.getElem_cons_succ, List.getElem_cons_zero, Act.put, List.setIfInBounds_toArray, List.set_cons_zero, List.set_cons_succ]
          refine take1 (i := 19) (v := ?_) rfl (by kernel_rfl) (by kernel_rfl) (by kernel_rfl) (fun _ _ _ h => h) (by rfl) ?_ (by assumption) ?_
          (rotate_left; focus (intro w' hSw; (try dsimp only at hSw); go_simp; (try with_reducible rfl)))
          try simp only [List.getElem_toArray, List.getElem_cons_succ, List.getElem_cons_zero, Act.put, List.setIfInBounds_toArray, List.set_cons_zero, List.set_cons_succ]
          refine take1 (i := 20) (v := ?_) rfl (by kernel_rfl) (by kernel_rfl) (by kernel_rfl) (fun _ _ _ h => h) (by rfl) ?_ (by assumption) ?_
          (rotate_left; focus (intro w' hSw; (try dsimp only at hSw); go_simp; (try with_reducible rfl)))
          try simp only [List.getElem_toArray, List.getElem_cons_succ, List.getElem_cons_zero, Act.put, List.setIfInBounds_toArray, List.set_cons_zero, List.set_cons_succ]
          refine take1 (i := 21) (v := ?_) rfl (by kernel_rfl) (by kernel_rfl) (by kernel_rfl) (fun _ _ _ h => h) (by rfl) ?_ (by assumption) ?_
          (rotate_left; focus (intro w' hSw; (try dsimp only at hSw); go_simp; (try with_reducible rfl)))
          try simp only [List.getElem_toArray, List.getElem_cons_succ, List.getElem_cons_zero, Act.put, List.setIfInBounds_toArray, List.set_cons_zero, List.set_cons_succ]
          refine take1 (i := 22) (v := ?_) rfl (by kernel_rfl) (by kernel_rfl) (by kernel_rfl) (fun _ _ _ h => h) (by rfl) ?_ (by assumption) ?_
          (rotate_left; focus (intro w' hSw; (try dsimp only at hSw); go_simp; (try with_reducible rfl)))
          try simp only [List.getElem_toArray, List.getElem_cons_succ, List.getElem_cons_zero, Act.put, List.setIfInBounds_toArray, List.set_cons_zero, List.set_cons_succ]
          refine take1 (i := 23) (v := ?_) rfl (by kernel_rfl) (by kernel_rfl) (by kernel_rfl) (fun _ _ _ h => h) (by rfl) ?_ (by assumption) ?_
          (rotate_left; focus (intro w' hSw; (try dsimp only at hSw); go_simp; (try with_reducible rfl)))
          try simp only [List.getElem_toArray, List.getElem_cons_succ, List.getElem_cons_zero, Act.put, List.setIfInBounds_toArray, List.set_cons_zero, List.set_cons_succ]
          refine take1 (i := 24) (v := ?_) rfl (by kernel_rfl) (by kernel_rfl) (by kernel_rfl) (fun _ _ _ h => h) (by rfl) ?_ (by assumption) ?_
          (rotate_left; focus (intro w' hSw; (try dsimp only at hSw); go_simp; (try with_reducible rfl)))
          try simp only [List.getElem_toArray, List.getElem_cons_succ, List.getElem_cons_zero, Act.put, List.setIfInBounds_toArray, List.set_cons_zero, List.set_cons_succ]
          refine take1 (i := 25) (v := ?_) rfl (by kernel_rfl) (by kernel_rfl) (by kernel_rfl) (fun _ _ _ h => h) (by rfl) ?_ (by assumption) ?_
          (rotate_left; focus (intro w' hSw; (try dsimp only at hSw); go_simp; (try with_reducible rfl)))
          try simp only [List.getElem_toArray, List.getElem_cons_succ, List.getElem_cons_zero, Act.put, List.setIfInBounds_toArray, List.set_cons_zero, List.set_cons_succ]
          refine take1 (i := 26) (v := ?_) rfl (by kernel_rfl) (by kernel_rfl) (by kernel_rfl) (fun _ _ _ h => h) (by rfl) ?_ (by assumption) ?_
          (rotate_left; focus (intro w' hSw; (try dsimp only at hSw); go_simp; (try with_reducible rfl)))
          try simp only [List.getElem_toArray, List.getElem_cons_succ, List.getElem_cons_zero, Act.put, List.setIfInBounds_toArray, List.set_cons_zero, List.set_cons_succ]
          refine take1 (i := 27) (v := ?_) rfl (by kernel_rfl) (by kernel_rfl) (by kernel_rfl) (fun _ _ _ h => h) (by rfl) ?_ (by assumption) ?_
          (rotate_left; focus (intro w' hSw; (try dsimp only at hSw); go_simp; (try with_reducible rfl)))
          try simp only [List.getElem_toArray, List.getElem_cons_succ, List.getElem_cons_zero, Act.put, List.setIfInBounds_toArray, List.set_cons_zero, List.set_cons_succ]
          refine take1 (i := 28) (v := ?_) rfl (by kernel_rfl) (by kernel_rfl) (by kernel_rfl) (fun _ _ _ h => h) (by rfl) ?_ (by assumption) ?_
          (rotate_left; focus (intro w' hSw; (try dsimp only at hSw); go_simp; (try with_reducible rfl)))
          try simp only [List.getElem_toArray, List.getElem_cons_succ, List.getElem_cons_zero, Act.put, List.setIfInBounds_toArray, List.set_cons_zero, List.set_cons_succ]
          refine take1 (i := 29) (v := ?_) rfl (by kernel_rfl) (by kernel_rfl) (by kernel_rfl) (fun _ _ _ h => h) (by rfl) ?_ (by assumption) ?_
          (rotate_left; focus (intro w' hSw; (try dsimp only at hSw); go_simp; (try with_reducible rfl)))
          try simp only [List.getElem_toArray, List.getElem_cons_succ, List.getElem_cons_zero, Act.put, List.setIfInBounds_toArray, List.set_cons_zero, List.set_cons_succ]
          refine take1 (i := 30) (v := ?_) rfl (by kernel_rfl) (by kernel_rfl) (by kernel_rfl) (fun _ _ _ h => h) (by rfl) ?_ (by assumption) ?_
          (rotate_left; focus (intro w' hSw; (try dsimp only at hSw); go_simp; (try with_reducible rfl)))
          try simp only [List.getElem_toArray, List.getElem_cons_succ, List.getElem_cons_zero, Act.put, List.setIfInBounds_toArray, List.set_cons_zero, List.set_cons_succ]
          refine dead1 (i := 31) rfl (by kernel_rfl) (by kernel_rfl) (by kernel_rfl) (fun _ _ _ h => h) (by rfl) (by assumption) ?_
          try simp only [List.getElem_toArray, List.getElem_cons_succ, List.getElem_cons_zero, Act.put, List.setIfInBounds_toArray, List.set_cons_zero, List.set_cons_succ]
          refine dead1 (i := 32) rfl (by kernel_rfl) (by kernel_rfl) (by kernel_rfl) (fun _ _ _ h => h) (by rfl) (by assumption) ?_
          try simp only [List.getElem_toArray, List.getElem_cons_succ, List.getElem_cons_zero, Act.put, List.setIfInBounds_toArray, List.set_cons_zero, List.set_cons_succ]
          refine dead1 (i := 33) rfl (by kernel_rfl) (by kernel_rfl) (by kernel_rfl) (fun _ _ _ h => h) (by rfl) (by assumption) ?_
          try simp only [List.getElem_toArray, List.getElem_cons_succ, List.getElem_cons_zero, Act.put, List.setIfInBounds_toArray, List.set_cons_zero, List.set_cons_succ]
          refine dead1 (i := 34) rfl (by kernel_rfl) (by kernel_rfl) (by kernel_rfl) (fun _ _ _ h => h) (by rfl) (by assumption) ?_
          try simp only [List.getElem_toArray, List.getElem_cons_succ, List.getElem_cons_zero, Act.put, List.setIfInBounds_toArray, List.set_cons_zero, List.set_cons_succ]
          refine dead1 (i := 35) rfl (by kernel_rfl) (by kernel_rfl) (by kernel_rfl) (fun _ _ _ h => h) (by rfl) (by assumption) ?_
          try simp only [List.getElem_toArray, List.getElem_cons_succ, List.getElem_cons_zero, Act.put, List.setIfInBounds_toArray, List.set_cons_zero, List.set_cons_succ]
          refine dead1 (i := 36) rfl (by kernel_rfl) (by kernel_rfl) (by kernel_rfl) (fun _ _ _ h => h) (by rfl) (by assumption) ?_
          try simp only [List.getElem_toArray, List.getElem_cons_succ, List.getElem_cons_zero, Act.put, List.setIfInBounds_toArray, List.set_cons_zero, List.set_cons_succ]
          refine dead1 (i := 37) rfl (by kernel_rfl) (by kernel_rfl) (by kernel_rfl) (fun _ _ _ h => h) (by rfl) (by assumption) ?_
          try simp only [List.getElem_toArray, List.getElem_cons_succ, List.getElem_cons_zero, Act.put, List.setIfInBounds_toArray, List.set_cons_zero, List.set_cons_succ]
          refine dead1 (i := 38) rfl (by kernel_rfl) (by kernel_rfl) (by kernel_rfl) (fun _ _ _ h => h) (by rfl) (by assumption) ?_
          try simp only [List.getElem_toArray, List.getElem_cons_succ, List.getElem_cons_zero, Act.put, List.setIfInBounds_toArray, List.set_cons_zero, List.set_cons_succ]
          refine take1 (i := 39) (v := ?_) rfl (by kernel_rfl) (by kernel_rfl) (by kernel_rfl) (fun _ _ _ h => h) (by rfl) ?_ (by assumption) ?_
          (rotate_left; focus (intro w' hSw; (try dsimp only at hSw); go_simp; (try with_reducible rfl)))
          try simp only [List.getElem_toArray, List.getElem_cons_succ, List.getElem_cons_zero, Act.put, List.setIfInBounds_toArray, List.set_cons_zero, List.set_cons_succ]
          refine wpAnyH_done (by kernel_rfl) ?_ _
          clear s1 s2 s3
          obtain ⟨y0, y1, y2⟩ := box_cells h3.2.2.2
          go_wp2_with fail
          have HG := (h3).put (a := 0) (b := 0)
          refine bodyPost_ret (results_cellrow_tmp (p := 8) (u := 9) (fn := Try.f37) rfl _ _ _ _ _ _ _ rfl HG.out.1 Try.underlying92 rfl (by kernel_rfl)) rfl ?_
          exact ⟨⟨0, 0, false, rfl, HO.out⟩, HG.out.2⟩
        · have t2 : decide (k < 0) = false := decide_eq_false hk0
          have t3 : decide ((m : Int) ≤ k) = true := decide_eq_true (by omega)
          clear hb n1 n2 hvt hk0
          go_enter Try.func37, Try.ntmps37
          go_wp2_with fail
          generalize (((w.alloc (.cells #[.int .i64 v, .int .i64 k] 92)).alloc (.cells #[.bool false, .int .i64 t] 46)).alloc (.cells #[.int .i64 0, .int .i64 0] 92)) = w1 at *
          have h1d := hS.drew
          have s1 := SG.out _ h1d
          go_region_held3 (fun w' => w'.cell? ⟨B, 0, none⟩ = some (.int .i64 nd) ∧ w'.cell? ⟨B, 1, none⟩ = some (.slice A n c) ∧ w'.cell? ⟨B, 2, none⟩ = some (.slice Ap m cp) ∧ w'.cell? ⟨w.heap.size, 0, none⟩ = some (.int .i64 v) ∧ w'.cell? ⟨w.heap.size, 1, none⟩ = some (.int .i64 k) ∧ w'.cell? ⟨w.heap.size + 1, 1, none⟩ = some (.int .i64 t))
            (first
              | go_keep
              | exact s3
              | exact s2
              | exact s1)
            (first
              | (go_at_call 23; (with_reducible refine (HN1.out _ h1d).mono ?_); rintro e' w2 ⟨rfl, h2⟩; have s2 := SG.out _ h2)
              | (go_at_call 23; (with_reducible refine (HN2.out _ h2).mono ?_); rintro e' w3 ⟨rfl, h3⟩; have s3 := SG.out _ h3))
          obtain ⟨y0, y1, y2⟩ := box_cells h3.2.2.2
          go_wp2_with fail
          have HG := (h3).put (a := 0) (b := 0)
          refine bodyPost_ret (results_cellrow_tmp (p := 8) (u := 9) (fn := Try.f37) rfl _ _ _ _ _ _ _ rfl HG.out.1 Try.underlying92 rfl (by kernel_rfl)) rfl ?_
          exact ⟨⟨0, 0, false, rfl, HO.out⟩, HG.out.2⟩
end Go.Proofs.Ytkemcgbedapkcaa

/- The reference's all: each segment, in order. -/
namespace Go.Proofs.Ytkemcgbedapkcaa
open Go.RowKit
set_option maxHeartbeats 6400000
set_option maxRecDepth 100000
theorem held_app {w W w8 : World} {nd : Int} {A : Option Addr} {n c T s m : Nat} {v : Value} {xs : List Value} {o : Obj} (h : Held w nd A n c W) (ho : W.ownsRow (w.heap.size + 1) T s v m xs) (hg : (W.alloc o).grownBy w8 v.ownBlock) : Held w nd A n c w8 := by
  refine ⟨Below.grown (h.1.alloc h.1.size _) hg (by have := h.1.size; simp; omega) (fun q hq => by have := (ho.lt q hq).1; omega), ?_⟩
  have hl := h.lt
  rw [hg.block w.heap.size (by simp; omega) (fun e => by have := (ho.lt _ e.symm).1; omega)]
  exact box_below h.2 ((Below.refl _ _).alloc (Nat.le_refl _) o) hl
/-- The first i segments of one kind. -/
def segU (e : Bool) (i : Nat) : List Sg := (List.range i).map fun (j : Nat) => (⟨e, (j : Int)⟩ : Sg)
theorem segU_len (e : Bool) (i : Nat) : (segU e i).length = i := by unfold segU; simp
theorem segU_succ (e : Bool) (i : Nat) : segU e (i + 1) = segU e i ++ [⟨e, (i : Int)⟩] := by unfold segU; rw [List.range_succ, List.map_append]; rfl
theorem all_any (N : Nat) (A : Option Addr) (n c : Nat) (l : List Lnk) (w : World) (hl : l.length = n) (hN : N ≤ 40) (hn : n ≤ 120) :
    Calls Try.prog 35 #[.agg #[.int .i64 (N : Int), .slice A n c]] w fun e w' => (∃ v, e = .returned v ∧ w'.ownsRow (w.heap.size + 1) 46 2 v (N + 2 * n) (scells2 (segsS N l))) ∧ Below w.heap.size w w' := by
  have hS := Held.start w (N : Int) A n c
  have HSeg : Hid (segsS N l = segU false N ++ segU true (2 * n)) := by show _ = _; unfold segsS segU; rw [hl]
  obtain ⟨i5, hi, hz0, hz1, hz2⟩ := info_parts (show (Try.prog.info? 46).map (fun i => (i.zero, i.size, i.bytes)) = some (some (.agg #[.bool false, .int .i64 0]), 2, 16) by kernel_rfl)
  have Ai := hid hi; have Az0 := hid hz0; have Az1 := hid hz1; have Az2 := hid hz2
  obtain ⟨w0, hw0⟩ : ∃ w0, w.alloc (.cells #[.int .i64 (N : Int), .slice A n c] 24) = w0 := ⟨_, rfl⟩
  rw [hw0] at hS
  have HS := hid hS
  have Hw0 := hid hw0
  have ew2 : IntKind.i64.wrap (2 * (n : Int)) = 2 * (n : Int) := by rw [IntKind.wrap_i64]; omega
  clear hi hz0 hz1 hz2 hS hw0 hl
  go_enter Try.func35, Try.ntmps35
  go_upto_region 1 with fail
  rw [Hw0.out]
  go_wp2_with fail
  go_loopw [3, 4] (fun ov iv wr => ∃ k : Nat, k ≤ N ∧ iv = .int .i64 k ∧ Hid (wr.ownsRow (w.heap.size + 1) 46 2 ov k (scells2 (segU false k))) ∧ Hid (Held w (N : Int) A n c wr)) (fun _ iv _ => N - (intOf iv).toNat)
  case atStart => exact ⟨0, Nat.zero_le _, rfl, World.ownsRow_nil _ _ _ _, HS.out⟩
  case round =>
    obtain ⟨k, hk, rfl, HO, HH⟩ := hrel
    obtain ⟨Ao, co, ho⟩ := own_form HO.out
    subst ho
    obtain ⟨g0, g1⟩ := HH.out.cells
    by_cases hlt : k < N
    · have t1 : decide ((k : Int) < (N : Int)) = true := decide_eq_true (by omega)
      have ewk : IntKind.i64.wrap ((k : Int) + 1) = (k : Int) + 1 := by rw [IntKind.wrap_i64]; omega
      have HRh := hid (fun (v8 : Value) (w8 : World) (h : w8.ownsRow (w.heap.size + 1) 46 2 v8 (k + 1) (scells2 (segU false k) ++ scells2 [⟨false, (k : Int)⟩])) => (by rw [segU_succ, scells2_app]; exact h : w8.ownsRow (w.heap.size + 1) 46 2 v8 (k + 1) (scells2 (segU false (k + 1)))))
      go_wp2_with (at_builtin; refine wpList_append_own _ rfl (.tmp 12) (.tmp 15) 31 rfl (w.heap.size + 1) 46 i5 (.agg #[.bool false, .int .i64 0]) 2 16 Try.underlying31 Ai.out Az0.out Az1.out Az2.out rfl (by decide) _ _ _ rfl (HO.out.alloc _) ⟨wr.heap.size, 0, none⟩ 1 1 (scells2 [⟨false, (k : Int)⟩]) rfl rfl (new_row (show _ = (scells2 [⟨false, (k : Int)⟩]).toArray from rfl)) (scells2_one _) (by unfold maxLen; omega) (by omega) (by have := HH.out.lt; simp at this ⊢; omega) ?_; intro v8 w8 hown8 hg8 _; have HO9 := hid hown8; have HH9 := hid (held_app HH.out HO.out hg8); clear hown8)
      go_roundw
      case rel => exact ⟨k + 1, by omega, by go_num, HRh.out _ _ HO9.out, HH9.out⟩
      case measure => simp [intOf]; omega
    · obtain rfl : k = N := by omega
      have t1 : decide ((k : Int) < (k : Int)) = false := decide_eq_false (by omega)
      go_wp2_with fail
      go_loopw [3, 5] (fun ov iv wr => ∃ q : Nat, q ≤ 2 * n ∧ iv = .int .i64 q ∧ Hid (wr.ownsRow (w.heap.size + 1) 46 2 ov (k + q) (scells2 (segU false k ++ segU true q))) ∧ Hid (Held w (k : Int) A n c wr)) (fun _ iv _ => 2 * n - (intOf iv).toNat)
      case atStart => exact ⟨0, Nat.zero_le _, rfl, by show World.ownsRow _ _ _ _ _ _ _; rw [show segU true 0 = [] from rfl, List.append_nil]; exact HO.out, HH.out⟩
      case round =>
        obtain ⟨q, hq, rfl, HO2, HH2⟩ := hrel
        obtain ⟨Ap, cp, hp⟩ := own_form HO2.out
        subst hp
        obtain ⟨g2, g3⟩ := HH2.out.cells
        by_cases hlq : q < 2 * n
        · have t2 : decide ((q : Int) < 2 * (n : Int)) = true := decide_eq_true (by omega)
          have ewq : IntKind.i64.wrap ((q : Int) + 1) = (q : Int) + 1 := by rw [IntKind.wrap_i64]; omega
          have HRh := hid (fun (v8 : Value) (w8 : World) (h : w8.ownsRow (w.heap.size + 1) 46 2 v8 (k + q + 1) (scells2 (segU false k ++ segU true q) ++ scells2 [⟨true, (q : Int)⟩])) => (by rw [segU_succ, ← List.append_assoc, scells2_app]; exact h : w8.ownsRow (w.heap.size + 1) 46 2 v8 (k + (q + 1)) (scells2 (segU false k ++ segU true (q + 1)))))
          go_wp2_with (at_builtin; refine wpList_append_own _ rfl (.tmp 25) (.tmp 28) 31 rfl (w.heap.size + 1) 46 i5 (.agg #[.bool false, .int .i64 0]) 2 16 Try.underlying31 Ai.out Az0.out Az1.out Az2.out rfl (by decide) _ _ _ rfl (HO2.out.alloc _) ⟨_, 0, none⟩ 1 1 (scells2 [⟨true, (q : Int)⟩]) rfl rfl (new_row (show _ = (scells2 [⟨true, (q : Int)⟩]).toArray from rfl)) (scells2_one _) (by unfold maxLen; omega) (by omega) (by have := HH2.out.lt; simp at this ⊢; omega) ?_; intro v8 w8 hown8 hg8 _; have HO9 := hid hown8; have HH9 := hid (held_app HH2.out HO2.out hg8); clear hown8)
          go_roundw
          case rel => exact ⟨q + 1, by omega, by go_num, HRh.out _ _ HO9.out, HH9.out⟩
          case measure => simp [intOf]; omega
        · obtain rfl : q = 2 * n := by omega
          have t2 : decide (((2 * n : Nat) : Int) < 2 * (n : Int)) = false := decide_eq_false (by omega)
          have t3 : decide (2 * (n : Int) < 2 * (n : Int)) = false := decide_eq_false (by omega)
          go_wp2_with fail
          go_ret
          exact ⟨⟨_, rfl, by rw [HSeg.out]; exact HO2.out⟩, HH2.out.1⟩
end Go.Proofs.Ytkemcgbedapkcaa

/- Rows of made rows: what Seg's loop fills. -/
namespace Go.Proofs.Ytkemcgbedapkcaa
open Go.RowKit
set_option maxHeartbeats 6400000
set_option maxRecDepth 100000
/-- i rows made so far, each a block of its own. -/
structure MkR (base TS T : Nat) (cs : Array Value) (m i : Nat) (V : Value) (bs : List Nat) (W : World) : Prop where
  own : W.ownsRow base TS 1 V i (bs.map fun b => .slice (some ⟨b, 0, none⟩) m m)
  blk : ∀ b ∈ bs, base ≤ b ∧ W.heap[b]? = some (.cells cs T (0, 0))
  nd : bs.Nodup
section
variable {base TS T : Nat} {cs : Array Value} {m i : Nat} {V : Value} {bs : List Nat} {W W' : World}
theorem MkR.nil (base TS T : Nat) (cs : Array Value) (m : Nat) (W : World) : MkR base TS T cs m 0 (.slice none 0 0) [] W := ⟨World.ownsRow_nil _ _ _ _, fun b hb => (by cases hb), List.nodup_nil⟩
theorem MkR.next (h : MkR base TS T cs m i V bs W) (hb : Below W.heap.size W W') : MkR base TS T cs m i V bs W' :=
  ⟨own_below h.own hb, fun b hm => ⟨(h.blk b hm).1, box_below (h.blk b hm).2 hb (blk_lt (h.blk b hm).2)⟩, h.nd⟩
theorem MkR.len (h : MkR base TS T cs m i V bs W) : bs.length = i := by
  have := h.own.1
  simp at this
  omega
theorem own_ne {base e size n : Nat} {v : Value} {xs : List Value} {b : Nat} {cs : Array Value} {t : TypeId} {fz : Nat × Nat} (ho : W.ownsRow base e size v n xs) (hb : W.heap[b]? = some (.cells cs t fz)) (he : e ≠ t) : some b ≠ v.ownBlock := by
  rcases ho.2 with ⟨rfl, _⟩ | ⟨g, cap, cur, rfl, _, hg, _⟩
  · simp [Value.ownBlock]
  · simp only [Value.ownBlock, ne_eq, Option.some.injEq]
    rintro rfl
    rw [hb] at hg
    simp at hg
    exact he hg.2.1.symm
/-- Another row grew. -/
theorem MkR.other {base' TS' n' s' : Nat} {V' : Value} {xs : List Value} (h : MkR base TS T cs m i V bs W) (ho : W.ownsRow base' TS' s' V' n' xs) (hg : W.grownBy W' V'.ownBlock) (h1 : TS ≠ TS') (h2 : TS' ≠ T) : MkR base TS T cs m i V bs W' := by
  refine ⟨h.own.kept hg ((own_apart h.own ho h1).imp id id), fun b hm => ⟨(h.blk b hm).1, ?_⟩, h.nd⟩
  obtain ⟨_, hb⟩ := h.blk b hm
  rw [hg.block b (blk_lt hb) (own_ne ho hb h2)]
  exact hb
/-- A store into a box. -/
theorem MkR.box (h : MkR base TS T cs m i V bs W) {B j : Nat} {c : Array Value} {t : TypeId} {u : Value} (hB : W.heap[B]? = some (.cells c t (0, 0))) (h1 : TS ≠ t) (h2 : T ≠ t) : MkR base TS T cs m i V bs (W.setCell ⟨B, j, none⟩ u) := by
  refine ⟨own_box h.own hB h1, fun b hm => ⟨(h.blk b hm).1, ?_⟩, h.nd⟩
  obtain ⟨_, hb⟩ := h.blk b hm
  refine (heap_setCell_other W ⟨B, j, none⟩ b u ?_).trans hb
  rintro rfl
  rw [hB] at hb
  simp at hb
  exact h2 hb.2.symm
/-- One row more. -/
theorem MkR.add {o : Obj} {V6 : Value} {w6 : World} (h : MkR base TS T cs m i V bs W) (hbs : base ≤ W.heap.size) (hT : TS ≠ T)
    (h6 : w6.ownsRow base TS 1 V6 (i + 1) ((bs.map fun b => .slice (some ⟨b, 0, none⟩) m m) ++ [.slice (some ⟨W.heap.size, 0, none⟩) m m]))
    (hg : ((W.alloc (.cells cs T)).alloc o).grownBy w6 V.ownBlock) : MkR base TS T cs m (i + 1) V6 (bs ++ [W.heap.size]) w6 := by
  have b1 : Below W.heap.size W (W.alloc (.cells cs T)) := (Below.refl _ _).alloc (Nat.le_refl _) _
  have hn := heap_alloc_new W (.cells cs T)
  have b2 : Below (W.alloc (.cells cs T)).heap.size (W.alloc (.cells cs T)) ((W.alloc (.cells cs T)).alloc o) := (Below.refl _ _).alloc (Nat.le_refl _) _
  have hn2 := box_below hn b2 (blk_lt hn)
  have hb2 : Below W.heap.size W ((W.alloc (.cells cs T)).alloc o) := b1.trans (b2.mono b1.size)
  have ho2 := own_below h.own hb2
  refine ⟨by rw [List.map_append]; exact h6, fun b hm => ?_, ?_⟩
  · rcases List.mem_append.1 hm with hm | hm
    · obtain ⟨h1, hb⟩ := h.blk b hm
      have hb' := box_below hb hb2 (blk_lt hb)
      refine ⟨h1, ?_⟩
      rw [hg.block b (blk_lt hb') (own_ne ho2 hb' hT)]
      exact hb'
    · rw [List.mem_singleton] at hm
      subst hm
      refine ⟨hbs, ?_⟩
      rw [hg.block _ (blk_lt hn2) (own_ne ho2 hn2 hT)]
      exact hn2
  · rw [List.nodup_append]
    refine ⟨h.nd, List.nodup_cons.2 ⟨by simp, List.nodup_nil⟩, fun a ha b hb => ?_⟩
    rw [List.mem_singleton] at hb
    subst hb
    have := blk_lt (h.blk a ha).2
    omega
end
end Go.Proofs.Ytkemcgbedapkcaa

/- What Seg's loop keeps. -/
namespace Go.Proofs.Ytkemcgbedapkcaa
open Go.RowKit
set_option maxHeartbeats 6400000
set_option maxRecDepth 100000
structure RcP (w w3 : World) (v k t : Int) (B q m i j : Nat) (KV EV : Value) (kbs ebs : List Nat) (W : World) : Prop where
  hel : HeldS w v k false t W
  bel : Below w3.heap.size w3 W
  box : W.heap[w3.heap.size]? = some (.cells #[.pointer (some ⟨B, 0, none⟩), .pointer (some ⟨q, 0, none⟩), .int .i64 t, KV, EV] 123 (0, 0))
  kr : MkR (w3.heap.size + 1) 40 3 (madeCells #[.int .i64 0] m) m i KV kbs W
  er : MkR (w3.heap.size + 1) 94 92 (madeCells #[.int .i64 0, .int .i64 0] (m * 2)) m j EV ebs W
  old : w.heap.size + 1 + 1 < w3.heap.size
section
variable {w w3 : World} {v k t : Int} {B q m i j : Nat} {KV EV : Value} {kbs ebs : List Nat} {W W' : World}
theorem RcP.next (h : RcP w w3 v k t B q m i j KV EV kbs ebs W) (hb : Below W.heap.size W W') : RcP w w3 v k t B q m i j KV EV kbs ebs W' :=
  ⟨h.hel.next hb, h.bel.trans (hb.mono h.bel.size), box_below h.box hb (blk_lt h.box), h.kr.next hb, h.er.next hb, h.old⟩
theorem RcP.lt (h : RcP w w3 v k t B q m i j KV EV kbs ebs W) : w3.heap.size < W.heap.size := blk_lt h.box
/-- A row of the call's own grew. -/
theorem HeldS.app {W6 : World} {TS s n : Nat} {V : Value} {xs : List Value} (h : HeldS w v k false t W) (ho : W.ownsRow (w3.heap.size + 1) TS s V n xs) (hold : w.heap.size + 1 + 1 < w3.heap.size) (hg : W.grownBy W6 V.ownBlock) (h1 : TS ≠ 92) (h2 : TS ≠ 46) : HeldS w v k false t W6 := by
  refine ⟨Below.grown h.1 hg h.1.size (fun g hg' => by have := (ho.lt g hg').1; omega), ?_, ?_, ?_⟩
  · rw [hg.block _ (blk_lt h.2.1) (own_ne ho h.2.1 h1)]; exact h.2.1
  · rw [hg.block _ (blk_lt h.2.2.1) (own_ne ho h.2.2.1 h2)]; exact h.2.2.1
  · rw [hg.block _ (blk_lt h.2.2.2) (own_ne ho h.2.2.2 h1)]; exact h.2.2.2
theorem HeldS.set {R f : Nat} {u : Value} (h : HeldS w v k false t W) (hR : w.heap.size + 1 + 1 < R) : HeldS w v k false t (W.setCell ⟨R, f, none⟩ u) :=
  ⟨h.1.setCell (by show w.heap.size ≤ R; omega) _, (heap_setCell_other W ⟨R, f, none⟩ _ u (by show _ ≠ R; omega)).trans h.2.1, (heap_setCell_other W ⟨R, f, none⟩ _ u (by show _ ≠ R; omega)).trans h.2.2.1, (heap_setCell_other W ⟨R, f, none⟩ _ u (by show _ ≠ R; omega)).trans h.2.2.2⟩
theorem box5_set3 {w : World} {B : Nat} {x0 x1 x2 x3 x4 u : Value} {T : TypeId} (h : w.heap[B]? = some (.cells #[x0, x1, x2, x3, x4] T (0, 0))) : (w.setCell ⟨B, 3, none⟩ u).heap[B]? = some (.cells #[x0, x1, x2, u, x4] T (0, 0)) := heap_setCell_same w B 3 _ T u h
theorem RcP.putK {o : Obj} {V6 : Value} {w6 : World} (h : RcP w w3 v k t B q m i j KV EV kbs ebs W)
    (h6 : w6.ownsRow (w3.heap.size + 1) 40 1 V6 (i + 1) ((kbs.map fun b => .slice (some ⟨b, 0, none⟩) m m) ++ [.slice (some ⟨W.heap.size, 0, none⟩) m m]))
    (hg : ((W.alloc (.cells (madeCells #[.int .i64 0] m) 3)).alloc o).grownBy w6 KV.ownBlock) : RcP w w3 v k t B q m (i + 1) j V6 EV (kbs ++ [W.heap.size]) ebs (w6.setCell ⟨w3.heap.size, 3, none⟩ V6) := by
  have hb2 : Below W.heap.size W ((W.alloc (.cells (madeCells #[.int .i64 0] m) 3)).alloc o) := ((Below.refl _ _).alloc (Nat.le_refl _) _).alloc (by simp) _
  have hlt := h.lt
  have h2 := h.next hb2
  have hbx : w6.heap[w3.heap.size]? = _ := (hg.block _ (blk_lt h2.box) (own_ne h2.kr.own h2.box (by decide))).trans h2.box
  refine ⟨(h2.hel.app h2.kr.own h.old hg (by decide) (by decide)).set h.old, (Below.grown h2.bel hg h2.bel.size (fun g hg' => by have := (h2.kr.own.lt g hg').1; omega)).setCell (Nat.le_refl _) _, box5_set3 hbx, ?_, ?_, h.old⟩
  · exact (h.kr.add (by omega) (by decide) h6 hg).box hbx (by decide) (by decide)
  · exact (h2.er.other h2.kr.own hg (by decide) (by decide)).box hbx (by decide) (by decide)
theorem RcP.putE {o : Obj} {V6 : Value} {w6 : World} (h : RcP w w3 v k t B q m i j KV EV kbs ebs W)
    (h6 : w6.ownsRow (w3.heap.size + 1) 94 1 V6 (j + 1) ((ebs.map fun b => .slice (some ⟨b, 0, none⟩) m m) ++ [.slice (some ⟨W.heap.size, 0, none⟩) m m]))
    (hg : ((W.alloc (.cells (madeCells #[.int .i64 0, .int .i64 0] (m * 2)) 92)).alloc o).grownBy w6 EV.ownBlock) : RcP w w3 v k t B q m i (j + 1) KV V6 kbs (ebs ++ [W.heap.size]) (w6.setCell ⟨w3.heap.size, 4, none⟩ V6) := by
  have hb2 : Below W.heap.size W ((W.alloc (.cells (madeCells #[.int .i64 0, .int .i64 0] (m * 2)) 92)).alloc o) := ((Below.refl _ _).alloc (Nat.le_refl _) _).alloc (by simp) _
  have hlt := h.lt
  have h2 := h.next hb2
  have hbx : w6.heap[w3.heap.size]? = _ := (hg.block _ (blk_lt h2.box) (own_ne h2.er.own h2.box (by decide))).trans h2.box
  refine ⟨(h2.hel.app h2.er.own h.old hg (by decide) (by decide)).set h.old, (Below.grown h2.bel hg h2.bel.size (fun g hg' => by have := (h2.er.own.lt g hg').1; omega)).setCell (Nat.le_refl _) _, box5_set4 hbx, ?_, ?_, h.old⟩
  · exact (h2.kr.other h2.er.own hg (by decide) (by decide)).box hbx (by decide) (by decide)
  · exact (h.er.add (by omega) (by decide) h6 hg).box hbx (by decide) (by decide)
end
end Go.Proofs.Ytkemcgbedapkcaa

/- From what Seg's loop filled to what from asks. -/
namespace Go.Proofs.Ytkemcgbedapkcaa
open Go.RowKit
set_option maxHeartbeats 6400000
set_option maxRecDepth 100000
theorem made_at1 {m k : Nat} (h : k < m) : (madeCells #[Value.int .i64 0] m)[k]? = some (.int .i64 0) := by
  unfold madeCells
  simp [h, Nat.mod_one]
theorem made_at2 {n k : Nat} (h : k < n) : (madeCells #[Value.int .i64 0, .int .i64 0] n)[k]? = some (.int .i64 0) := by
  unfold madeCells
  rcases Nat.mod_two_eq_zero_or_one k with e | e <;> simp [h, e]
theorem own_at {W : World} {base TS m n : Nat} {V : Value} {bs : List Nat} (h : W.ownsRow base TS 1 V n (bs.map fun b => .slice (some ⟨b, 0, none⟩) m m)) (hn : 0 < n) : ∃ g cap, V = .slice (some ⟨g, 0, none⟩) n cap ∧ base ≤ g ∧ g < W.heap.size ∧ ∃ cs, W.heap[g]? = some (.cells cs TS (0, 0)) ∧ ∀ v, v < n → cs[v]? = some (.slice (some ⟨bs.getD v 0, 0, none⟩) m m) := by
  rcases h.2 with ⟨_, h1⟩ | ⟨g, cap, cur, hV, hb, hg, _, _, _, ht⟩
  · omega
  refine ⟨g, cap, hV, hb, blk_lt hg, cur, hg, fun v hv => ?_⟩
  have hl : bs.length = n := by have := h.1; simp at this; omega
  have h2 : (bs.map fun b => Value.slice (some ⟨b, 0, none⟩) m m)[v]? = some (.slice (some ⟨bs.getD v 0, 0, none⟩) m m) := by
    rw [List.getElem?_map, List.getD_eq_getElem?_getD, List.getElem?_eq_getElem (by omega)]
    rfl
  rw [← ht, List.getElem?_take, if_pos (by omega)] at h2
  rw [← Array.getElem?_toList]
  exact h2
theorem nodup_getD {bs : List Nat} {n : Nat} (h : bs.Nodup) (hl : bs.length = n) : ∀ v u, v < n → u < n → bs.getD v 0 = bs.getD u 0 → v = u := by
  intro v u hv hu he
  rw [List.getD_eq_getElem?_getD, List.getD_eq_getElem?_getD, List.getElem?_eq_getElem (by omega), List.getElem?_eq_getElem (by omega)] at he
  exact (List.getElem_inj h).1 he
theorem getD_mem {bs : List Nat} {v n : Nat} (hl : bs.length = n) (hv : v < n) : bs.getD v 0 ∈ bs := by
  rw [List.getD_eq_getElem?_getD, List.getElem?_eq_getElem (by omega)]
  exact List.getElem_mem _
theorem RcP.rcm {w w3 : World} {v k t : Int} {B q m N : Nat} {KV EV : Value} {kbs ebs : List Nat} {W : World} (h : RcP w w3 v k t B q m N N KV EV kbs ebs W) (hN : 0 < N) :
    ∃ KB EB cK cE, RcM w3 W.heap.size w3.heap.size KB EB (fun v => kbs.getD v 0) (fun v => ebs.getD v 0) cK cE B q t N m (fun _ _ => 0) (fun _ _ => (0, 0)) W := by
  obtain ⟨KB, cK, rfl, k1, k2, k3⟩ := own_at h.kr.own hN
  obtain ⟨EB, cE, rfl, e1, e2, e3⟩ := own_at h.er.own hN
  have kl := h.kr.len
  have el := h.er.len
  have kk := fun v (hv : v < N) => h.kr.blk _ (getD_mem kl hv)
  have ee := fun v (hv : v < N) => h.er.blk _ (getD_mem el hv)
  refine ⟨KB, EB, cK, cE, h.bel, h.box, k3, e3, fun v hv => ⟨_, (kk v hv).2, fun j hj => made_at1 hj⟩, fun v hv => ⟨_, (ee v hv).2, fun j hj => ⟨made_at2 (by omega), made_at2 (by omega)⟩⟩, nodup_getD h.kr.nd kl, nodup_getD h.er.nd el, ⟨h.lt, k2, e2, fun v hv => ⟨blk_lt (kk v hv).2, blk_lt (ee v hv).2⟩⟩, ⟨Nat.le_refl _, by omega, by omega, fun v hv => ⟨?_, ?_⟩⟩, Nat.le_refl _⟩
  · have := (kk v hv).1; omega
  · have := (ee v hv).1; omega
theorem good_zero (N m : Nat) (R : Int × Int → Option (Int × Int)) : GoodM N m R (fun _ _ => 0) (fun _ _ => (0, 0)) := fun _ _ _ _ => .inl rfl
end Go.Proofs.Ytkemcgbedapkcaa
