/- waymarkref15.Step. -/
import Derived.Test.YtabgbhkpeeibaaaOpG
namespace Go.Proofs.Ytabgbhkpeeibaaa
open Go.RowKit
set_option maxHeartbeats 6400000
set_option maxRecDepth 100000
/-- What Step answers. -/
def StepSpec (f : Nat) : Prop := ∀ (nd : Int) (A : Option Addr) (n c : Nat) (l : List Lnk) (x : Wnt) (y : WSl) (Ad : Option Addr) (n' c' : Nat) (dn : List Bool) (v k e : Int) (w : World), GArg w nd A n c l → WArg w x y → DArg w Ad n' c' dn → y.nv ≤ 100 → y.nn ≤ 100 → y.nl ≤ 100 → y.nc ≤ 100 → -9223372036854775808 ≤ v ∧ v ≤ 9223372036854775807 → -9223372036854775808 ≤ k ∧ k ≤ 9223372036854775807 → -9223372036854775808 ≤ e ∧ e ≤ 9223372036854775807 →
  Calls Try.prog f #[.agg #[.int .i64 nd, .slice A n c], .agg #[.int .i64 x.frm, .int .i64 x.too, .int .i64 x.bnd, .slice y.av y.nv y.cv, .slice y.an y.nn y.cn, .slice y.al y.nl y.cl, .slice y.ac y.nc y.cc], .slice Ad n' c', .agg #[.int .i64 v, .int .i64 k], .int .i64 e] w fun x' w' => x' = .returned (stepV (stepS nd l x dn v k e)) ∧ Below w.heap.size w w'
/-- Four boxes: a graph's, a want's, a state's, and the result's. -/
def HeldS (w : World) (nd : Int) (A : Option Addr) (n c : Nat) (x : Wnt) (y : WSl) (v k : Int) (w' : World) : Prop :=
  Held2 w nd A n c x y w' ∧ w'.heap[w.heap.size + 2]? = some (.cells #[.int .i64 v, .int .i64 k] 29 (0, 0)) ∧ w'.heap[w.heap.size + 3]? = some (.cells #[.int .i64 0, .int .i64 0] 29 (0, 0))
theorem HeldS.start (w : World) (nd : Int) (A : Option Addr) (n c : Nat) (x : Wnt) (y : WSl) (v k : Int) : HeldS w nd A n c x y v k ((((w.alloc (.cells #[.int .i64 nd, .slice A n c] 24)).alloc (.cells #[.int .i64 x.frm, .int .i64 x.too, .int .i64 x.bnd, .slice y.av y.nv y.cv, .slice y.an y.nn y.cn, .slice y.al y.nl y.cl, .slice y.ac y.nc y.cc] 27)).alloc (.cells #[.int .i64 v, .int .i64 k] 29)).alloc (.cells #[.int .i64 0, .int .i64 0] 29)) := by
  have h0 := Held2.start w nd A n c x y
  obtain ⟨w2, hw2⟩ : ∃ w2, (w.alloc (.cells #[.int .i64 nd, .slice A n c] 24)).alloc (.cells #[.int .i64 x.frm, .int .i64 x.too, .int .i64 x.bnd, .slice y.av y.nv y.cv, .slice y.an y.nn y.cn, .slice y.al y.nl y.cl, .slice y.ac y.nc y.cc] 27) = w2 := ⟨_, rfl⟩
  have hs2 : w2.heap.size = w.heap.size + 2 := by rw [← hw2]; simp
  rw [hw2] at h0 ⊢
  have h1 : Below w2.heap.size w2 (w2.alloc (.cells #[.int .i64 v, .int .i64 k] 29)) := (Below.refl _ _).alloc (Nat.le_refl _) _
  have hs3 : (w2.alloc (.cells #[.int .i64 v, .int .i64 k] 29)).heap.size = w.heap.size + 3 := by simp; omega
  have h2 : Below (w2.alloc (.cells #[.int .i64 v, .int .i64 k] 29)).heap.size (w2.alloc (.cells #[.int .i64 v, .int .i64 k] 29)) ((w2.alloc (.cells #[.int .i64 v, .int .i64 k] 29)).alloc (.cells #[.int .i64 0, .int .i64 0] 29)) := (Below.refl _ _).alloc (Nat.le_refl _) _
  have e1 := heap_alloc_new w2 (.cells #[.int .i64 v, .int .i64 k] 29)
  have e2 := heap_alloc_new (w2.alloc (.cells #[.int .i64 v, .int .i64 k] 29)) (.cells #[.int .i64 0, .int .i64 0] 29)
  rw [hs2] at e1
  rw [hs3] at e2
  exact ⟨(h0.next h1).next h2, box_below e1 h2 (blk_lt e1), e2⟩
theorem HeldS.next {w w' w'' : World} {nd : Int} {A : Option Addr} {n c : Nat} {x : Wnt} {y : WSl} {v k : Int} (h : HeldS w nd A n c x y v k w') (hb : Below w'.heap.size w' w'') : HeldS w nd A n c x y v k w'' :=
  ⟨h.1.next hb, box_below h.2.1 hb (blk_lt h.2.1), box_below h.2.2 hb (blk_lt h.2.2)⟩
theorem HeldS.put {w w' : World} {nd : Int} {A : Option Addr} {n c : Nat} {x : Wnt} {y : WSl} {v k a b : Int} (h : HeldS w nd A n c x y v k w') : Hid (((w'.setCell ⟨w.heap.size + 3, 0, none⟩ (.int .i64 a)).setCell ⟨w.heap.size + 3, 1, none⟩ (.int .i64 b)).heap[w.heap.size + 3]? = some (.cells #[.int .i64 a, .int .i64 b] 29 (0, 0)) ∧ Below w.heap.size w ((w'.setCell ⟨w.heap.size + 3, 0, none⟩ (.int .i64 a)).setCell ⟨w.heap.size + 3, 1, none⟩ (.int .i64 b))) :=
  ⟨box_set1 (box_set0 h.2.2), (h.1.1.setCell (by simp) _).setCell (by simp) _⟩
theorem step_none_off {nd : Int} {l : List Lnk} {x : Wnt} {dn : List Bool} {v k e : Int} (h : (costS nd l x dn).2 ≠ 0) : stepS nd l x dn v k e = none := by unfold stepS; rw [if_neg h]
theorem refStep_spec (hN : NewOptSpec 32) : StepSpec 19 := by
  intro nd A n c l x y Ad n' c' dn v k e w hg hw hd h1 h2 h3 h4 hv hk he
  have hS := HeldS.start w nd A n c x y v k
  have HNo := hid (fun W (hh : HeldS w nd A n c x y v k W) => (hN nd A n c l x y Ad n' c' dn W (hg.on hh.1.1) (hw.on hh.1.1) (hd.on hh.1.1) h1 h2 h3 h4).mono fun _ _ h => (⟨hh.next h.1, h.2⟩ : HeldS w nd A n c x y v k _ ∧ _))
  by_cases hc : (costS nd l x dn).2 = 0
  · have hr0 : rightS nd l x = 0 := by
      rcases Classical.em (rightS nd l x = 0) with h5 | h5
      · exact h5
      · unfold costS at hc; rw [if_pos h5] at hc; exact absurd hc h5
    have HNo2 : Hid (∀ W, HeldS w nd A n c x y v k W → Calls Try.prog 32 #[.agg #[.int .i64 nd, .slice A n c], .agg #[.int .i64 x.frm, .int .i64 x.too, .int .i64 x.bnd, .slice y.av y.nv y.cv, .slice y.an y.nn y.cn, .slice y.al y.nl y.cl, .slice y.ac y.nc y.cc], .slice Ad n' c'] W fun e w' => ∃ B, e = .returned (.tuple #[.pointer (some ⟨B, 0, none⟩), .bool true]) ∧ OptAt nd A n c l x (prunedS nd l x dn) B w' ∧ HeldS w nd A n c x y v k w') := fun W hh => (HNo.out W hh).mono fun e w' ⟨h5, h6⟩ => by
      rcases h6 with ⟨h7, _⟩ | ⟨_, B, h7, h8⟩
      · exact absurd hc h7
      · exact ⟨B, h7, h8, h5⟩
    have HSt := hid (fun B W (hh : HeldS w nd A n c x y v k W) (ho : OptAt nd A n c l x (prunedS nd l x dn) B W) => (optStep_spec nd A n c l x (prunedS nd l x dn) B v k e W ho (hg.on hh.1.1) hr0 hv hk he).mono fun _ _ h => (⟨h.1, hh.next h.2⟩ : _ ∧ HeldS w nd A n c x y v k _))
    have hV : Hid (stepS nd l x dn v k e = stepO nd l x (prunedS nd l x dn) v k e) := by show _ = _; unfold stepS; rw [if_pos hc]
    obtain ⟨q1, q2, q3, hq, hq2⟩ : ∃ q1 q2 q3, stepV (stepO nd l x (prunedS nd l x dn) v k e) = .tuple #[.agg #[.int .i64 q1, .int .i64 q2], .bool q3] ∧ True := by
      cases stepO nd l x (prunedS nd l x dn) v k e with
      | none => exact ⟨_, _, _, rfl, trivial⟩
      | some p => exact ⟨_, _, _, rfl, trivial⟩
    rw [hq] at HSt
    have HQ := hid hq
    clear hq hq2 HNo hN hg hw hd hc hr0 hv hk he h1 h2 h3 h4
    go_enter Try.func19, Try.ntmps19
    go_wp2_with (first
      | (go_at_call 32; (with_reducible refine (HNo2.out _ hS).mono ?_); rintro e' w3 ⟨B, rfl, ho3, hh3⟩; obtain ⟨z0, z1, z2⟩ := box_cells hh3.2.1)
      | (go_at_call 33; (with_reducible refine (HSt.out _ _ hh3 ho3).mono ?_); rintro e' w4 ⟨rfl, hh4⟩; obtain ⟨y0, y1, y2⟩ := box_cells hh4.2.2))
    have HG := HeldS.put (a := q1) (b := q2) hh4
    refine bodyPost_ret (results_cellrow_tmp (p := 10) (u := 11) (fn := Try.f19) rfl _ _ _ _ _ _ _ rfl HG.out.1 Try.underlying29 rfl (by kernel_rfl)) rfl ?_
    exact ⟨by rw [hV.out, HQ.out]; rfl, HG.out.2⟩
  · have hV := hid (step_none_off (v := v) (k := k) (e := e) hc)
    have HNo2 : Hid (∀ W, HeldS w nd A n c x y v k W → Calls Try.prog 32 #[.agg #[.int .i64 nd, .slice A n c], .agg #[.int .i64 x.frm, .int .i64 x.too, .int .i64 x.bnd, .slice y.av y.nv y.cv, .slice y.an y.nn y.cn, .slice y.al y.nl y.cl, .slice y.ac y.nc y.cc], .slice Ad n' c'] W fun e w' => e = .returned (.tuple #[.pointer none, .bool false]) ∧ HeldS w nd A n c x y v k w') := fun W hh => (HNo.out W hh).mono fun e w' ⟨h5, h6⟩ => by
      rcases h6 with ⟨_, h7⟩ | ⟨h7, _⟩
      · exact ⟨h7, h5⟩
      · exact absurd h7 hc
    clear HNo hN hg hw hd hc hv hk he h1 h2 h3 h4
    go_enter Try.func19, Try.ntmps19
    go_wp2_with (go_at_call 32; (with_reducible refine (HNo2.out _ hS).mono ?_); rintro e' w3 ⟨rfl, hh3⟩; obtain ⟨y0, y1, y2⟩ := box_cells hh3.2.2)
    have HG := HeldS.put (a := 0) (b := 0) hh3
    refine bodyPost_ret (results_cellrow_tmp (p := 10) (u := 11) (fn := Try.f19) rfl _ _ _ _ _ _ _ rfl HG.out.1 Try.underlying29 rfl (by kernel_rfl)) rfl ?_
    exact ⟨by rw [hV.out]; rfl, HG.out.2⟩
end Go.Proofs.Ytabgbhkpeeibaaa
