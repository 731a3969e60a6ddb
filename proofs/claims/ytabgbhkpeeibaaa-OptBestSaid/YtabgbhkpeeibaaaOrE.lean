/- A region that draws its order, whose operations from number n on come last: the reading ones are taken first, where what they read holds up to number n (not behind it). -/
import Derived.Test.YtabgbhkpeeibaaaWdA
import Derived.OrdersHeld
import Derived.RegionTactic
import Derived.StillTail
import Derived.Deep.RegionHeld
namespace Go.Proofs.Ytabgbhkpeeibaaa
open Go
section
variable {P : Program} {ops : Array Oper} {Q : Exit → Act → World → Prop} {md : Region.Mode} {S : World → Prop} {n : Nat}
/-- In whatever order; behind each operation ahead of number n S holds. -/
def OrdE (P : Program) (md : Region.Mode) (ops : Array Oper) (Q : Exit → Act → World → Prop) (S : World → Prop) (n : Nat) : Nat → Array Bool → Act → World → Prop
  | 0, done, a, w => Region.ready md ops done = [] ∧ Q .normal a w
  | f + 1, done, a, w => (Region.ready md ops done = [] → Q .normal a w) ∧
    ∀ i ∈ Region.ready md ops done, wpOp P ops Q i (fun b u => (i < n → S u) ∧ OrdE P md ops Q S n f (done.setIfInBounds i true) b u) a w
theorem OrdE.any : ∀ (f : Nat) (done : Array Bool) (a : Act) (w : World), OrdE P md ops Q S n f done a w → wpAny P md ops Q f done a w
  | 0, _, _, _, h => h
  | f + 1, _, _, _, h => ⟨h.1, fun i hi => wpOp_mono (fun b u k => OrdE.any f _ b u k.2) (h.2 i hi)⟩
theorem OrdE.first (hs : Region.sinkB md ops n = true) (hc : Region.chainB md ops n = true) (hn : n < ops.size) {i : Nat} {o : Oper} {v : Value} (hin : i < n) (hi : ops[i]? = some o) (hsel : ∀ (j : Nat) (q : Oper) cs b, ops[j]? = some q → q.op ≠ .select cs b) (hQ : ∀ c a w, Q (.panic c) (a.put o.dst v) w → Q (.panic c) a w) :
    ∀ (f : Nat) (done : Array Bool) (a : Act) (w : World), HeadInv md ops n done → (∀ j q, ops[j]? = some q → j ≠ i → done.getD j true = false → (∀ e ∈ q.after, Region.binds md e = true → e.on ≠ i) → o.apart ops q = true) →
      i ∈ Region.ready md ops done → YieldsIf P ops S o v a → S w → OrdE P md ops Q S n f (done.setIfInBounds i true) (a.put o.dst v) w → OrdE P md ops Q S n (f + 1) done a w := by
  intro f
  induction f with
  | zero =>
    intro done a w _ _ hr hy hS H
    refine ⟨fun h => (by rw [h] at hr; cases hr), fun j hj => ?_⟩
    rcases Classical.em (j = i) with rfl | hji
    · exact hy.wpOp hi hS ⟨fun _ => hS, H⟩
    · exact absurd (ready_mono hj hji) (by rw [H.1]; simp)
  | succ f ih =>
    intro done a w inv hfree hr hy hS H
    have hun := (mem_ready.1 hr).1
    refine ⟨fun h => (by rw [h] at hr; cases hr), fun j hj => ?_⟩
    rcases Classical.em (j = i) with rfl | hji
    · exact hy.wpOp hi hS ⟨fun _ => hS, H⟩
    · obtain ⟨hjun, q, hq, hall⟩ := mem_ready.1 hj
      have hjn : j < n := by
        rcases Nat.lt_or_ge j n with h | h
        · exact h
        · exact absurd hj (tail_waits hs hc hn inv _ i rfl hin hun j h)
      have hri := ready_mono hr (Ne.symm hji)
      have hnot : ∀ e ∈ q.after, Region.binds md e = true → e.on ≠ i := fun e he hb heq => by
        have k1 := hall e he hb
        rw [heq, getD_both hun] at k1
        cases k1
      refine wpOp_mono (fun b u k => ⟨fun _ => k.2.1 hjn, ih (done.setIfInBounds j true) b u (inv.set hj hjn) (fun m qm hm hmi hun2 hno => hfree m qm hm hmi ?_ hno) hri k.1 (k.2.1 hjn) ?_⟩)
        (wpOp_putIf hq (hfree j q hq hji hjun hnot) (fun cs b => hsel i o cs b hi) (fun cs b => hsel j q cs b hq) hQ hy (H.2 j (ready_mono hj hji)))
      · by_cases hjm : j = m
        · subst hjm; exact hjun
        · rw [getD_set_ne true hjm] at hun2; exact hun2
      · rw [Array.setIfInBounds_comm _ _ hji]
        exact k.2.2
/-- With what the orders keep. -/
def OrdF (P : Program) (md : Region.Mode) (ops : Array Oper) (Q : Exit → Act → World → Prop) (S : World → Prop) (n f : Nat) (done : Array Bool) (a : Act) (w : World) : Prop :=
  HeadInv md ops n done → OrdE P md ops Q S n f done a w
theorem OrdF.take {i : Nat} {o : Oper} {v : Value} {f : Nat} {done : Array Bool} {a : Act} {w : World} (hi : ops[i]? = some o)
    (hb : (Region.sinkB md ops n && Region.chainB md ops n && decide (n < ops.size) && decide (i < n) && Region.noSelect ops && Region.free md ops done i && (Region.ready md ops done).contains i) = true) (hQ : ∀ c a w, Q (.panic c) (a.put o.dst v) w → Q (.panic c) a w)
    (hw : Region.wanted o (yielded ops a.tmps) = true) (hy : ∀ w, S w → (execOp a.eval o).run P w = .ok (.value v) w) (hS : S w) (h : OrdF P md ops Q S n f (done.setIfInBounds i true) (a.put o.dst v) w) : OrdF P md ops Q S n (f + 1) done a w := by
  simp only [Bool.and_eq_true, decide_eq_true_eq] at hb
  obtain ⟨⟨⟨⟨⟨⟨h1, h2⟩, h3⟩, h4⟩, h5⟩, h6⟩, h7⟩ := hb
  have hr : i ∈ Region.ready md ops done := by simpa using h7
  intro inv
  exact OrdE.first h1 h2 h3 h4 hi (Region.noSelect_spec h5) hQ f done a w inv (Region.free_spec hi h6) hr (.inl ⟨hw, hy⟩) hS (h (inv.set hr h4))
/-- The one that comes up, ahead of number n. -/
theorem OrdF.one {i : Nat} {o : Oper} {f : Nat} {done : Array Bool} {a : Act} {w : World} (hi : ops[i]? = some o) (hb : (decide (Region.ready md ops done = [i]) && decide (i < n)) = true)
    (h : ∀ K' : Act → World → Prop, Shut (∀ a w, S w → (S w → OrdF P md ops Q S n f (done.setIfInBounds i true) a w) → K' a w) → if Region.wanted o (yielded ops a.tmps) = true then Oper.wp P o a w K' Q else K' (a.put o.dst undef) w) : OrdF P md ops Q S n (f + 1) done a w := by
  simp only [Bool.and_eq_true, decide_eq_true_eq] at hb
  intro inv
  have hr : i ∈ Region.ready md ops done := by rw [hb.1]; simp
  refine ⟨fun h0 => (by rw [hb.1] at h0; cases h0), fun j hj => ?_⟩
  rw [hb.1] at hj
  obtain rfl : j = i := by simpa using hj
  exact wpOp_step hi (fun K' hK => h K' (fun a w hS hW => hK a w ⟨fun _ => hS, hW hS (inv.set hr hb.2)⟩))
/-- Two come up. -/
theorem OrdF.two {i j : Nat} {o q : Oper} {f : Nat} {done : Array Bool} {a : Act} {w : World} (hi : ops[i]? = some o) (hj : ops[j]? = some q) (hb : (decide (Region.ready md ops done = [i, j]) && decide (i < n) && decide (j < n)) = true)
    (h1 : ∀ K' : Act → World → Prop, Shut (∀ a w, S w → (S w → OrdF P md ops Q S n f (done.setIfInBounds i true) a w) → K' a w) → if Region.wanted o (yielded ops a.tmps) = true then Oper.wp P o a w K' Q else K' (a.put o.dst undef) w)
    (h2 : ∀ K' : Act → World → Prop, Shut (∀ a w, S w → (S w → OrdF P md ops Q S n f (done.setIfInBounds j true) a w) → K' a w) → if Region.wanted q (yielded ops a.tmps) = true then Oper.wp P q a w K' Q else K' (a.put q.dst undef) w) : OrdF P md ops Q S n (f + 1) done a w := by
  simp only [Bool.and_eq_true, decide_eq_true_eq] at hb
  intro inv
  have hr : i ∈ Region.ready md ops done := by rw [hb.1.1]; simp
  have hs : j ∈ Region.ready md ops done := by rw [hb.1.1]; simp
  refine ⟨fun h0 => (by rw [hb.1.1] at h0; cases h0), fun k hk => ?_⟩
  rw [hb.1.1] at hk
  rcases (by simpa using hk : k = i ∨ k = j) with rfl | rfl
  · exact wpOp_step hi (fun K' hK => h1 K' (fun a w hS hW => hK a w ⟨fun _ => hS, hW hS (inv.set hr hb.1.2)⟩))
  · exact wpOp_step hj (fun K' hK => h2 K' (fun a w hS hW => hK a w ⟨fun _ => hS, hW hS (inv.set hs hb.2)⟩))
/-- The last one. -/
theorem OrdF.last {o : Oper} {f : Nat} {done : Array Bool} {a : Act} {w : World} (hi : ops[n]? = some o) (hb : (decide (Region.ready md ops done = [n]) && decide (Region.ready md ops (done.setIfInBounds n true) = [])) = true)
    (h : ∀ K' : Act → World → Prop, Shut (∀ a w, Q .normal a w → K' a w) → if Region.wanted o (yielded ops a.tmps) = true then Oper.wp P o a w K' Q else K' (a.put o.dst undef) w) : OrdF P md ops Q S n (f + 1) done a w := by
  simp only [Bool.and_eq_true, decide_eq_true_eq] at hb
  intro _
  refine ⟨fun h0 => (by rw [hb.1] at h0; cases h0), fun j hj => ?_⟩
  rw [hb.1] at hj
  obtain rfl : j = n := by simpa using hj
  refine wpOp_step hi (fun K' hK => h K' (fun a w hQ => hK a w ⟨fun h => absurd h (Nat.lt_irrefl _), ?_⟩))
  cases f with
  | zero => exact ⟨hb.2, hQ⟩
  | succ f => exact ⟨fun _ => hQ, fun i hi => by rw [hb.2] at hi; cases hi⟩
/-- The beginning. -/
theorem region_ord {id : Nat} {a : Act} {w : World} (n : Nat) (S : World → Prop) (hm : P.follows .mixedOrders = true) (hS : S w.drew) (h : S w.drew → OrdF P .any ops Q S n ops.size (Array.replicate ops.size false) a w.drew) : (Code.region id ops true).wp P Q a w := by
  refine wp_region_any hm (OrdE.any _ _ _ _ (h hS ⟨by simp, fun j oj _ hl => (by rw [getD_replicate_false] at hl; cases hl), fun t _ ht => getD_in (by simpa using ht) (getD_replicate_false _ _)⟩))
end
end Go.Proofs.Ytabgbhkpeeibaaa
