/- Merged: OrE OpA OpB OpC OpD. -/
import Derived.Test.YtkemcgbedapkcaaG01
import Derived.OrdersHeld
import Derived.RegionTactic
import Derived.StillTail
import Derived.Deep.RegionHeld
import Derived.Test.YtkemcgbedapkcaaG04
import Derived.Test.YtkemcgbedapkcaaG03
import Derived.Deep.RegionLaw
/- A region that draws its order, whose operations from number n on come last: the reading ones are taken first, where what they read holds up to number n (not behind it). -/
namespace Go.Proofs.Ytkemcgbedapkcaa
open Go
section
variable {P : Program} {ops : Array Oper} {Q : Exit → Act → World → Prop} {md : Region.Mode} {S : World → Prop} {n : Nat}
/-- In whatever order; behind each operation ahead of number n S holds. -/
def OrdE (P : Program) (md : Region.Mode) (ops : Array Oper) (Q : Exit → Act → World → Prop) (S : World → Prop) (n : Nat) : Nat → Array Bool → Act → World → Prop
  | 0, done, a, w => Region.ready md ops done = [] ∧ Q .normal a w
  | f + 1, done, a, w => (Region.ready md ops done = [] → Q .normal a w) ∧
    ∀ i ∈ Region.ready md ops done, wpOp P ops Q i (fun b u => (i < n → S u) ∧ OrdE P md ops Q S n f (done.setIfInBounds i true) b u) a w
theorem OrdE.any : ∀ (f : Nat) (done : Array Bool) (a : Act) (w : World), OrdE P md ops Q S n f done a w → wpAny P md ops Q f done a w
  | 0, _, _, _, h => h
  | f + 1, _, _, _, h => ⟨h.1, fun i hi => wpOp_mono (fun b u k => OrdE.any f _ b u k.2) (h.2 i hi)⟩
theorem OrdE.first (hs : Region.sinkB md ops n = true) (hc : Region.chainB md ops n = true) (hn : n < ops.size) {i : Nat} {o : Oper} {v : Value} (hin : i < n) (hi : ops[i]? = some o) (hsel : ∀ (j : Nat) (q : Oper) cs b, ops[j]? = some q → q.op ≠ .select cs b) (hQ : ∀ c a w, Q (.panic c) (a.put o.dst v) w → Q (.panic c) a w) :
    ∀ (f : Nat) (done : Array Bool) (a : Act) (w : World), HeadInv md ops n done → (∀ j q, ops[j]? = some q → j ≠ i → done.getD j true = false → (∀ e ∈ q.after, Region.binds md e = true → e.on ≠ i) → o.apart ops q = true) →
      i ∈ Region.ready md ops done → YieldsIf P ops S o v a → S w → OrdE P md ops Q S n f (done.setIfInBounds i true) (a.put o.dst v) w → OrdE P md ops Q S n (f + 1) done a w := by
  intro f
  induction f with
  | zero =>
    intro done a w _ _ hr hy hS H
    refine ⟨fun h => (by rw [h] at hr; cases hr), fun j hj => ?_⟩
    rcases Classical.em (j = i) with rfl | hji
    · exact hy.wpOp hi hS ⟨fun _ => hS, H⟩
    · exact absurd (ready_mono hj hji) (by rw [H.1]; simp)
  | succ f ih =>
    intro done a w inv hfree hr hy hS H
    have hun := (mem_ready.1 hr).1
    refine ⟨fun h => (by rw [h] at hr; cases hr), fun j hj => ?_⟩
    rcases Classical.em (j = i) with rfl | hji
    · exact hy.wpOp hi hS ⟨fun _ => hS, H⟩
    · obtain ⟨hjun, q, hq, hall⟩ := mem_ready.1 hj
      have hjn : j < n := by
        rcases Nat.lt_or_ge j n with h | h
        · exact h
        · exact absurd hj (tail_waits hs hc hn inv _ i rfl hin hun j h)
      have hri := ready_mono hr (Ne.symm hji)
      have hnot : ∀ e ∈ q.after, Region.binds md e = true → e.on ≠ i := fun e he hb heq => by
        have k1 := hall e he hb
        rw [heq, getD_both hun] at k1
        cases k1
      refine wpOp_mono (fun b u k => ⟨fun _ => k.2.1 hjn, ih (done.setIfInBounds j true) b u (inv.set hj hjn) (fun m qm hm hmi hun2 hno => hfree m qm hm hmi ?_ hno) hri k.1 (k.2.1 hjn) ?_⟩)
        (wpOp_putIf hq (hfree j q hq hji hjun hnot) (fun cs b => hsel i o cs b hi) (fun cs b => hsel j q cs b hq) hQ hy (H.2 j (ready_mono hj hji)))
      · by_cases hjm : j = m
        · subst hjm; exact hjun
        · rw [getD_set_ne true hjm] at hun2; exact hun2
      · rw [Array.setIfInBounds_comm _ _ hji]
        exact k.2.2
/-- With what the orders keep. -/
def OrdF (P : Program) (md : Region.Mode) (ops : Array Oper) (Q : Exit → Act → World → Prop) (S : World → Prop) (n f : Nat) (done : Array Bool) (a : Act) (w : World) : Prop :=
  HeadInv md ops n done → OrdE P md ops Q S n f done a w
theorem OrdF.take {i : Nat} {o : Oper} {v : Value} {f : Nat} {done : Array Bool} {a : Act} {w : World} (hi : ops[i]? = some o)
    (hb : (Region.sinkB md ops n && Region.chainB md ops n && decide (n < ops.size) && decide (i < n) && Region.noSelect ops && Region.free md ops done i && (Region.ready md ops done).contains i) = true) (hQ : ∀ c a w, Q (.panic c) (a.put o.dst v) w → Q (.panic c) a w)
    (hw : Region.wanted o (yielded ops a.tmps) = true) (hy : ∀ w, S w → (execOp a.eval o).run P w = .ok (.value v) w) (hS : S w) (h : OrdF P md ops Q S n f (done.setIfInBounds i true) (a.put o.dst v) w) : OrdF P md ops Q S n (f + 1) done a w := by
  simp only [Bool.and_eq_true, decide_eq_true_eq] at hb
  obtain ⟨⟨⟨⟨⟨⟨h1, h2⟩, h3⟩, h4⟩, h5⟩, h6⟩, h7⟩ := hb
  have hr : i ∈ Region.ready md ops done := by simpa using h7
  intro inv
  exact OrdE.first h1 h2 h3 h4 hi (Region.noSelect_spec h5) hQ f done a w inv (Region.free_spec hi h6) hr (.inl ⟨hw, hy⟩) hS (h (inv.set hr h4))
/-- The one that comes up, ahead of number n. -/
theorem OrdF.one {i : Nat} {o : Oper} {f : Nat} {done : Array Bool} {a : Act} {w : World} (hi : ops[i]? = some o) (hb : (decide (Region.ready md ops done = [i]) && decide (i < n)) = true)
    (h : ∀ K' : Act → World → Prop, Shut (∀ a w, S w → (S w → OrdF P md ops Q S n f (done.setIfInBounds i true) a w) → K' a w) → if Region.wanted o (yielded ops a.tmps) = true then Oper.wp P o a w K' Q else K' (a.put o.dst undef) w) : OrdF P md ops Q S n (f + 1) done a w := by
  simp only [Bool.and_eq_true, decide_eq_true_eq] at hb
  intro inv
  have hr : i ∈ Region.ready md ops done := by rw [hb.1]; simp
  refine ⟨fun h0 => (by rw [hb.1] at h0; cases h0), fun j hj => ?_⟩
  rw [hb.1] at hj
  obtain rfl : j = i := by simpa using hj
  exact wpOp_step hi (fun K' hK => h K' (fun a w hS hW => hK a w ⟨fun _ => hS, hW hS (inv.set hr hb.2)⟩))
/-- Two come up. -/
theorem OrdF.two {i j : Nat} {o q : Oper} {f : Nat} {done : Array Bool} {a : Act} {w : World} (hi : ops[i]? = some o) (hj : ops[j]? = some q) (hb : (decide (Region.ready md ops done = [i, j]) && decide (i < n) && decide (j < n)) = true)
    (h1 : ∀ K' : Act → World → Prop, Shut (∀ a w, S w → (S w → OrdF P md ops Q S n f (done.setIfInBounds i true) a w) → K' a w) → if Region.wanted o (yielded ops a.tmps) = true then Oper.wp P o a w K' Q else K' (a.put o.dst undef) w)
    (h2 : ∀ K' : Act → World → Prop, Shut (∀ a w, S w → (S w → OrdF P md ops Q S n f (done.setIfInBounds j true) a w) → K' a w) → if Region.wanted q (yielded ops a.tmps) = true then Oper.wp P q a w K' Q else K' (a.put q.dst undef) w) : OrdF P md ops Q S n (f + 1) done a w := by
  simp only [Bool.and_eq_true, decide_eq_true_eq] at hb
  intro inv
  have hr : i ∈ Region.ready md ops done := by rw [hb.1.1]; simp
  have hs : j ∈ Region.ready md ops done := by rw [hb.1.1]; simp
  refine ⟨fun h0 => (by rw [hb.1.1] at h0; cases h0), fun k hk => ?_⟩
  rw [hb.1.1] at hk
  rcases (by simpa using hk : k = i ∨ k = j) with rfl | rfl
  · exact wpOp_step hi (fun K' hK => h1 K' (fun a w hS hW => hK a w ⟨fun _ => hS, hW hS (inv.set hr hb.1.2)⟩))
  · exact wpOp_step hj (fun K' hK => h2 K' (fun a w hS hW => hK a w ⟨fun _ => hS, hW hS (inv.set hs hb.2)⟩))
/-- The last one. -/
theorem OrdF.last {o : Oper} {f : Nat} {done : Array Bool} {a : Act} {w : World} (hi : ops[n]? = some o) (hb : (decide (Region.ready md ops done = [n]) && decide (Region.ready md ops (done.setIfInBounds n true) = [])) = true)
    (h : ∀ K' : Act → World → Prop, Shut (∀ a w, Q .normal a w → K' a w) → if Region.wanted o (yielded ops a.tmps) = true then Oper.wp P o a w K' Q else K' (a.put o.dst undef) w) : OrdF P md ops Q S n (f + 1) done a w := by
  simp only [Bool.and_eq_true, decide_eq_true_eq] at hb
  intro _
  refine ⟨fun h0 => (by rw [hb.1] at h0; cases h0), fun j hj => ?_⟩
  rw [hb.1] at hj
  obtain rfl : j = n := by simpa using hj
  refine wpOp_step hi (fun K' hK => h K' (fun a w hQ => hK a w ⟨fun h => absurd h (Nat.lt_irrefl _), ?_⟩))
  cases f with
  | zero => exact ⟨hb.2, hQ⟩
  | succ f => exact ⟨fun _ => hQ, fun i hi => by rw [hb.2] at hi; cases hi⟩
/-- The beginning. -/
theorem region_ord {id : Nat} {a : Act} {w : World} (n : Nat) (S : World → Prop) (hm : P.follows .mixedOrders = true) (hS : S w.drew) (h : S w.drew → OrdF P .any ops Q S n ops.size (Array.replicate ops.size false) a w.drew) : (Code.region id ops true).wp P Q a w := by
  refine wp_region_any hm (OrdE.any _ _ _ _ (h hS ⟨by simp, fun j oj _ hl => (by rw [getD_replicate_false] at hl; cases hl), fun t _ ht => getD_in (by simpa using ht) (getD_replicate_false _ _)⟩))
end
end Go.Proofs.Ytkemcgbedapkcaa

/- Best walks: what points, come, Start, Goal, Cost, Step, Has tell. -/
namespace Go.Proofs.Ytkemcgbedapkcaa
open Go.RowKit
set_option maxHeartbeats 6400000
set_option maxRecDepth 100000
/-- A want's points. -/
def ptsS (x : Wnt) : List Int := x.frm :: (x.via ++ [x.too])
/-- How many points of a row are v, one behind the other. -/
def runN (v : Int) : List Int → Nat
  | [] => 0
  | a :: l => if a = v then runN v l + 1 else 0
/-- A state with all points that are come to. -/
def comeS (p : List Int) (v k : Int) : Int × Int := (v, if 0 ≤ k then k + (runN v (p.drop (k.toNat + 1)) : Nat) else k)
def startS (x : Wnt) : Int × Int := comeS (ptsS x) x.frm 0
def goalS (x : Wnt) : Int × Int := (x.too, (x.via.length : Int) + 1)
/-- The sum over a row of points, from k on: none if one can't be come to. -/
noncomputable def legsS (nd : Int) (l : List Lnk) (gn : List Bool) (a : Int) : List Int → Option Int
  | [] => some 0
  | b :: r => if dAt (fromS nd l gn a) b < 0 then none else (legsS nd l gn b r).map fun s => dAt (fromS nd l gn a) b + s
noncomputable def costS (nd : Int) (l : List Lnk) (x : Wnt) (dn : List Bool) : Int × Int :=
  if rightS nd l x ≠ 0 then (0, rightS nd l x)
  else match legsS nd l (prunedS nd l x dn) x.frm (x.via ++ [x.too]) with
    | none => (0, 8)
    | some s => if 0 < x.bnd ∧ x.bnd < s then (0, 8) else (s, 0)
/-- Where an edge leads from a state. -/
noncomputable def stepO (nd : Int) (l : List Lnk) (x : Wnt) (gn : List Bool) (v k e : Int) : Option (Int × Int) :=
  if (endsS l e).2.2 = true ∧ (endsS l e).1 = v ∧ 0 ≤ k ∧ k < (ptsS x).length - 1 ∧ e ∈ nextS nd l gn (fromS nd l gn ((ptsS x).getD (k + 1).toNat 0)) v then some (comeS (ptsS x) (endsS l e).2.1 k) else none
noncomputable def stepS (nd : Int) (l : List Lnk) (x : Wnt) (dn : List Bool) (v k e : Int) : Option (Int × Int) :=
  if (costS nd l x dn).2 = 0 then stepO nd l x (prunedS nd l x dn) v k e else none
noncomputable def walkO (nd : Int) (l : List Lnk) (x : Wnt) (gn : List Bool) (s : Option (Int × Int)) (es : List Int) : Option (Int × Int) :=
  es.foldl (fun s e => s.bind fun p => stepO nd l x gn p.1 p.2 e) s
noncomputable def hasS (nd : Int) (l : List Lnk) (x : Wnt) (dn : List Bool) (es : List Int) : Bool :=
  (costS nd l x dn).2 == 0 && walkO nd l x (prunedS nd l x dn) (some (startS x)) es == some (goalS x)
theorem runN_le (v : Int) : ∀ p : List Int, runN v p ≤ p.length
  | [] => Nat.le_refl _
  | a :: p => by
    unfold runN
    split
    · have := runN_le v p; simp; omega
    · omega
theorem ptsS_len (x : Wnt) : (ptsS x).length = x.via.length + 2 := by unfold ptsS; simp
theorem runN_at {v : Int} : ∀ {p : List Int} {j : Nat}, j < runN v p → p[j]? = some v
  | [], j, h => by simp [runN] at h
  | a :: p, j, h => by
    unfold runN at h
    split at h
    · rename_i e
      cases j with
      | zero => simp [e]
      | succ j => simpa using runN_at (p := p) (j := j) (by omega)
    · omega
theorem runN_end {v : Int} : ∀ {p : List Int} {u : Int}, p[runN v p]? = some u → u ≠ v
  | [], u, h => by simp [runN] at h
  | a :: p, u, h => by
    unfold runN at h
    split at h
    · exact runN_end (p := p) (by simpa using h)
    · rename_i e
      simp at h
      exact h ▸ e
end Go.Proofs.Ytkemcgbedapkcaa

/- waymarkref15.points. -/
namespace Go.Proofs.Ytkemcgbedapkcaa
open Go.RowKit
set_option maxHeartbeats 6400000
set_option maxRecDepth 100000
theorem step_append_opt {P : Program} {w : World} {ops : Array Oper} {o : Oper} {a : Act} {K : Act → World → Prop} {Q : Exit → Act → World → Prop} {E : Prop} (hgd : o.guard = none) (s x : Operand) (t : TypeId)
    (ho : o.op = .call { callee := .builtin .append, args := #[s, x], argTypes := #[t, t] })
    (base : Nat) (e : TypeId) (i : TypeInfo) (z : Value) (size bytes : Nat) (ht : P.underlying t = some (.slice e)) (hi : P.info? e = some i) (hz : i.zero = some z)
    (hsize : i.size = size) (hby : i.bytes = bytes) (hzs : z.cells.size = size) (hsz : 0 < size)
    (B : Option Addr) (cb : Nat) (n : Nat) (xs : List Value) (hs : a.eval s = .slice B n cb) (hown : w.ownsRow base e size (.slice B n cb) n xs)
    (A : Option Addr) (m c : Nat) (news : List Value) (hx : a.eval x = .slice A m c) (hA : A = none → m = 0 ∧ c = 0) (hl : news.length = m * size) (hnews : ∀ ad, A = some ad → ∀ j u, news[j]? = some u → w.cell? (ad.add j) = some u) (h1 : ∀ u ∈ news, u.oneCell' = true)
    (h63 : n + m ≤ maxLen) (hbytes : (n + m) * bytes ≤ 140737488355328) (hbase : base ≤ w.heap.size)
    (h : ∀ D c1 w', w'.ownsRow base e size (.slice D (n + m) c1) (n + m) (xs ++ news) → w.grownBy w' (Value.slice B n cb).ownBlock → K (a.put o.dst (.slice D (n + m) c1)) w') :
    if Region.wanted o (yielded ops a.tmps) = true then Oper.wp P o a w K Q else E := by
  cases A with
  | none =>
    obtain ⟨rfl, rfl⟩ := hA rfl
    have hn0 : news = [] := List.length_eq_zero_iff.1 (by omega)
    subst hn0
    have hw : Region.wanted o (yielded ops a.tmps) = true := by simp [Region.wanted, hgd]
    rw [if_pos hw]
    have hrun := run_append_owned_none (P := P) (w := w) base t o.type e i size ht hi (.slice B n cb) n xs hown
    unfold Oper.wp
    simp [execOp, ho, resolve, invoke, builtin, hs, hx, hrun, Result.andThen]
    exact h B cb w (by simpa using hown) (World.grownBy.refl _ _)
  | some ad =>
    exact step_append_some hgd s x t ho base e i z size bytes ht hi hz hsize hby hzs hsz _ n xs hs hown ad m c news hx hl (hnews ad rfl) h1 h63 hbytes hbase h
theorem ints_src {w : World} {B n : Nat} {A : Option Addr} {l : List Int} (h : RInt w B A n l) : ∀ ad, A = some ad → ∀ (j : Nat) (u : Value), (icells l)[j]? = some u → w.cell? (ad.add j) = some u := by
  intro ad hA j u hu
  have hj : j < (icells l).length := (List.getElem?_eq_some_iff.1 hu).1
  rw [icells_len, h.1] at hj
  obtain ⟨b, off, h1, _, hc⟩ := h.2 (by omega)
  rw [h1] at hA
  simp only [Option.some.injEq] at hA
  subst hA
  rw [Go.WideShapes.add_plain]
  simp only [icells, List.getElem?_map, Option.map_eq_some_iff] at hu
  obtain ⟨x, hx, rfl⟩ := hu
  exact hc j x hx
theorem own_new1 (W : World) (x : Int) (base : Nat) (hb : base ≤ W.heap.size) : (W.alloc (.cells #[.int .i64 x] 3)).ownsRow base 3 1 (.slice (some ⟨W.heap.size, 0, none⟩) 1 1) 1 (icells [x]) :=
  ⟨rfl, .inr ⟨W.heap.size, 1, #[.int .i64 x], rfl, hb, heap_alloc_new W _, Nat.le_refl _, by decide, rfl, rfl⟩⟩
theorem int_info : (Try.prog.info? 3).map (fun i => (i.zero, i.size, i.bytes)) = some (some (.int .i64 0), 1, 8) := by kernel_rfl
theorem one_src {w4 : World} {b : Nat} {x : Int} (h : w4.heap[b]? = some (.cells #[.int .i64 x] 3 (0, 0))) : ∀ ad, some (⟨b, 0, none⟩ : Addr) = some ad → ∀ (j : Nat) (u : Value), (icells [x])[j]? = some u → w4.cell? (ad.add j) = some u := by
  intro ad had j u hj
  cases had
  rw [Go.WideShapes.add_plain, cell_of_row _ _ _ _ _ _ h]
  simpa [icells] using hj
theorem pts_end {x : Wnt} {n c5 : Nat} {w w5 : World} {D5 : Option Addr} (hl : x.via.length = n) (ho : w5.ownsRow (w.heap.size + 1) 3 1 (.slice D5 (1 + n + 1) c5) (1 + n + 1) (icells [x.frm] ++ icells x.via ++ icells [x.too])) (hb : Below w.heap.size w w5) :
    IntAns (ptsS x) w (.returned (.slice D5 (1 + n + 1) c5)) w5 := by
  have e1 : icells [x.frm] ++ icells x.via ++ icells [x.too] = icells (ptsS x) := by unfold ptsS; simp [icells]
  have e2 : (ptsS x).length = 1 + n + 1 := by rw [ptsS_len]; omega
  rw [e1] at ho
  refine ⟨_, rfl, ?_, hb⟩
  rw [e2]
  exact own_mono ho (by omega)
theorem points_any (x : Wnt) (y : WSl) (w : World) (hw : WArg w x y) (hv : y.nv ≤ 1000) :
    Calls Try.prog 53 #[.agg #[.int .i64 x.frm, .int .i64 x.too, .int .i64 x.bnd, .slice y.av y.nv y.cv, .slice y.an y.nn y.cn, .slice y.al y.nl y.cl, .slice y.ac y.nc y.cc]] w (IntAns (ptsS x) w) := by
  obtain ⟨i5, Ai0, Az00, Az10, Az20⟩ := info_parts int_info
  have Ai := hid Ai0
  have Az0 := hid Az00
  have Az1 := hid Az10
  have Az2 := hid Az20
  clear Ai0 Az00 Az10 Az20
  have hb0 : Below w.heap.size w (w.alloc (.cells #[.int .i64 x.frm, .int .i64 x.too, .int .i64 x.bnd, .slice y.av y.nv y.cv, .slice y.an y.nn y.cn, .slice y.al y.nl y.cl, .slice y.ac y.nc y.cc] 58)) := (Below.refl _ w).alloc (Nat.le_refl _) _
  have hnon := hw.via.non
  have hlen := hid hw.via.row.1
  have eD : (w.alloc (.cells #[.int .i64 x.frm, .int .i64 x.too, .int .i64 x.bnd, .slice y.av y.nv y.cv, .slice y.an y.nn y.cn, .slice y.al y.nl y.cl, .slice y.ac y.nc y.cc] 58)).drew.heap.size = w.heap.size + 1 := by simp
  have eF : ((w.alloc (.cells #[.int .i64 x.frm, .int .i64 x.too, .int .i64 x.bnd, .slice y.av y.nv y.cv, .slice y.an y.nn y.cn, .slice y.al y.nl y.cl, .slice y.ac y.nc y.cc] 58)).drew.alloc (.cells #[.int .i64 x.frm] 3)).heap.size = w.heap.size + 2 := by simp
  have eT : ((w.alloc (.cells #[.int .i64 x.frm, .int .i64 x.too, .int .i64 x.bnd, .slice y.av y.nv y.cv, .slice y.an y.nn y.cn, .slice y.al y.nl y.cl, .slice y.ac y.nc y.cc] 58)).drew.alloc (.cells #[.int .i64 x.too] 3)).heap.size = w.heap.size + 2 := by simp
  have X0 : (w.alloc (.cells #[.int .i64 x.frm, .int .i64 x.too, .int .i64 x.bnd, .slice y.av y.nv y.cv, .slice y.an y.nn y.cn, .slice y.al y.nl y.cl, .slice y.ac y.nc y.cc] 58)).drew.heap[w.heap.size]? = some (.cells #[.int .i64 x.frm, .int .i64 x.too, .int .i64 x.bnd, .slice y.av y.nv y.cv, .slice y.an y.nn y.cn, .slice y.al y.nl y.cl, .slice y.ac y.nc y.cc] 58 (0, 0)) := heap_alloc_new w _
  have X1 := hid ((Below.heap_alloc (w.alloc (.cells #[.int .i64 x.frm, .int .i64 x.too, .int .i64 x.bnd, .slice y.av y.nv y.cv, .slice y.an y.nn y.cn, .slice y.al y.nl y.cl, .slice y.ac y.nc y.cc] 58)).drew (.cells #[.int .i64 x.frm] 3) w.heap.size (by simp)).trans X0)
  have X2 := hid ((Below.heap_alloc ((w.alloc (.cells #[.int .i64 x.frm, .int .i64 x.too, .int .i64 x.bnd, .slice y.av y.nv y.cv, .slice y.an y.nn y.cn, .slice y.al y.nl y.cl, .slice y.ac y.nc y.cc] 58)).drew.alloc (.cells #[.int .i64 x.frm] 3)) (.cells #[.int .i64 x.too] 3) w.heap.size (by simp; omega)).trans X1.out)
  have X3 := hid ((Below.heap_alloc ((w.alloc (.cells #[.int .i64 x.frm, .int .i64 x.too, .int .i64 x.bnd, .slice y.av y.nv y.cv, .slice y.an y.nn y.cn, .slice y.al y.nl y.cl, .slice y.ac y.nc y.cc] 58)).drew.alloc (.cells #[.int .i64 x.too] 3)) (.cells #[.int .i64 x.frm] 3) w.heap.size (by simp; omega)).trans ((Below.heap_alloc (w.alloc (.cells #[.int .i64 x.frm, .int .i64 x.too, .int .i64 x.bnd, .slice y.av y.nv y.cv, .slice y.an y.nn y.cn, .slice y.al y.nl y.cl, .slice y.ac y.nc y.cc] 58)).drew (.cells #[.int .i64 x.too] 3) w.heap.size (by simp)).trans X0))
  have O1 : Hid (((w.alloc (.cells #[.int .i64 x.frm, .int .i64 x.too, .int .i64 x.bnd, .slice y.av y.nv y.cv, .slice y.an y.nn y.cn, .slice y.al y.nl y.cl, .slice y.ac y.nc y.cc] 58)).drew.alloc (.cells #[.int .i64 x.frm] 3)).ownsRow (w.heap.size + 1) 3 1 (.slice (some ⟨w.heap.size + 1, 0, none⟩) 1 1) 1 (icells [x.frm])) := by
    have := own_new1 (w.alloc (.cells #[.int .i64 x.frm, .int .i64 x.too, .int .i64 x.bnd, .slice y.av y.nv y.cv, .slice y.an y.nn y.cn, .slice y.al y.nl y.cl, .slice y.ac y.nc y.cc] 58)).drew x.frm (w.heap.size + 1) (by simp)
    rw [eD] at this
    exact this
  have O2 := hid (O1.out.alloc (.cells #[.int .i64 x.too] 3))
  have O3 : Hid ((((w.alloc (.cells #[.int .i64 x.frm, .int .i64 x.too, .int .i64 x.bnd, .slice y.av y.nv y.cv, .slice y.an y.nn y.cn, .slice y.al y.nl y.cl, .slice y.ac y.nc y.cc] 58)).drew.alloc (.cells #[.int .i64 x.too] 3)).alloc (.cells #[.int .i64 x.frm] 3)).ownsRow (w.heap.size + 1) 3 1 (.slice (some ⟨w.heap.size + 2, 0, none⟩) 1 1) 1 (icells [x.frm])) := by
    have := own_new1 ((w.alloc (.cells #[.int .i64 x.frm, .int .i64 x.too, .int .i64 x.bnd, .slice y.av y.nv y.cv, .slice y.an y.nn y.cn, .slice y.al y.nl y.cl, .slice y.ac y.nc y.cc] 58)).drew.alloc (.cells #[.int .i64 x.too] 3)) x.frm (w.heap.size + 1) (by simp)
    rw [eT] at this
    exact this
  have HB1 : Hid (Below w.heap.size w ((w.alloc (.cells #[.int .i64 x.frm, .int .i64 x.too, .int .i64 x.bnd, .slice y.av y.nv y.cv, .slice y.an y.nn y.cn, .slice y.al y.nl y.cl, .slice y.ac y.nc y.cc] 58)).drew.alloc (.cells #[.int .i64 x.frm] 3))) := hb0.drew.alloc (by simp) _
  have HB2 : Hid (Below w.heap.size w (((w.alloc (.cells #[.int .i64 x.frm, .int .i64 x.too, .int .i64 x.bnd, .slice y.av y.nv y.cv, .slice y.an y.nn y.cn, .slice y.al y.nl y.cl, .slice y.ac y.nc y.cc] 58)).drew.alloc (.cells #[.int .i64 x.frm] 3)).alloc (.cells #[.int .i64 x.too] 3))) := HB1.out.alloc (by simp; omega) _
  have HB3 : Hid (Below w.heap.size w (((w.alloc (.cells #[.int .i64 x.frm, .int .i64 x.too, .int .i64 x.bnd, .slice y.av y.nv y.cv, .slice y.an y.nn y.cn, .slice y.al y.nl y.cl, .slice y.ac y.nc y.cc] 58)).drew.alloc (.cells #[.int .i64 x.too] 3)).alloc (.cells #[.int .i64 x.frm] 3))) := (hb0.drew.alloc (by simp) _).alloc (by simp; omega) _
  have R1 := hid (hw.via.on HB1.out).row
  have R2 := hid (hw.via.on HB2.out).row
  have R3 := hid (hw.via.on HB3.out).row
  have T2 : Hid ((((w.alloc (.cells #[.int .i64 x.frm, .int .i64 x.too, .int .i64 x.bnd, .slice y.av y.nv y.cv, .slice y.an y.nn y.cn, .slice y.al y.nl y.cl, .slice y.ac y.nc y.cc] 58)).drew.alloc (.cells #[.int .i64 x.frm] 3)).alloc (.cells #[.int .i64 x.too] 3)).heap[w.heap.size + 2]? = some (.cells #[.int .i64 x.too] 3 (0, 0))) := by
    have := heap_alloc_new ((w.alloc (.cells #[.int .i64 x.frm, .int .i64 x.too, .int .i64 x.bnd, .slice y.av y.nv y.cv, .slice y.an y.nn y.cn, .slice y.al y.nl y.cl, .slice y.ac y.nc y.cc] 58)).drew.alloc (.cells #[.int .i64 x.frm] 3)) (.cells #[.int .i64 x.too] 3)
    rw [eF] at this
    exact this
  have T3 : Hid ((((w.alloc (.cells #[.int .i64 x.frm, .int .i64 x.too, .int .i64 x.bnd, .slice y.av y.nv y.cv, .slice y.an y.nn y.cn, .slice y.al y.nl y.cl, .slice y.ac y.nc y.cc] 58)).drew.alloc (.cells #[.int .i64 x.too] 3)).alloc (.cells #[.int .i64 x.frm] 3)).heap[w.heap.size + 1]? = some (.cells #[.int .i64 x.too] 3 (0, 0))) := by
    have h1 := heap_alloc_new (w.alloc (.cells #[.int .i64 x.frm, .int .i64 x.too, .int .i64 x.bnd, .slice y.av y.nv y.cv, .slice y.an y.nn y.cn, .slice y.al y.nl y.cl, .slice y.ac y.nc y.cc] 58)).drew (.cells #[.int .i64 x.too] 3)
    have h2 := Below.heap_alloc ((w.alloc (.cells #[.int .i64 x.frm, .int .i64 x.too, .int .i64 x.bnd, .slice y.av y.nv y.cv, .slice y.an y.nn y.cn, .slice y.al y.nl y.cl, .slice y.ac y.nc y.cc] 58)).drew.alloc (.cells #[.int .i64 x.too] 3)) (.cells #[.int .i64 x.frm] 3) (w.heap.size + 1) (by simp)
    rw [eD] at h1
    exact h2.trans h1
  clear hw hb0 eD eF eT X0
  go_enter Try.func53, Try.ntmps53
  go_wp2_with fail
  go_region_law (first
    | (refine step_append_opt (by rfl) (.tmp 5) (.tmp 7) 40 (by rfl) (w.heap.size + 1) 3 i5 (.int .i64 0) 1 8 Try.underlying40 Ai.out Az0.out Az1.out Az2.out rfl (by decide) _ _ 1 (icells [x.frm]) (by rfl) O1.out y.av y.nv y.cv (icells x.via) (by rfl) hnon (by rw [icells_len, hlen.out]; omega) (ints_src R1.out) (icells_one _) (by unfold maxLen; omega) (by omega) (by simp; try omega) ?_; intro D4 c4 w4 hown4 hg4; have hx4 := (hg4.block w.heap.size (by simp; try omega) (by simp [Value.ownBlock])).trans X1.out; have HB4 := hid (HB1.out.grown hg4 (by have := HB1.out.size; simp at this ⊢; try omega) (fun q hq => Nat.le_trans (Nat.le_succ _) (O1.out.lt q hq).1)); have s4 : w4.cell? ⟨w.heap.size, 1, none⟩ = some (.int .i64 x.too) := (cell_of_row _ _ _ _ _ _ hx4); have HO4 := hid hown4; have HG4 := hid hg4; clear hown4 hg4)
    | (refine step_append_opt (by rfl) (.tmp 5) (.tmp 7) 40 (by rfl) (w.heap.size + 1) 3 i5 (.int .i64 0) 1 8 Try.underlying40 Ai.out Az0.out Az1.out Az2.out rfl (by decide) _ _ 1 (icells [x.frm]) (by rfl) O2.out y.av y.nv y.cv (icells x.via) (by rfl) hnon (by rw [icells_len, hlen.out]; omega) (ints_src R2.out) (icells_one _) (by unfold maxLen; omega) (by omega) (by simp; try omega) ?_; intro D4 c4 w4 hown4 hg4; have hx4 := (hg4.block w.heap.size (by simp; try omega) (by simp [Value.ownBlock])).trans X2.out; have HB4 := hid (HB2.out.grown hg4 (by have := HB2.out.size; simp at this ⊢; try omega) (fun q hq => Nat.le_trans (Nat.le_succ _) (O2.out.lt q hq).1)); have s4 : w4.cell? ⟨w.heap.size, 1, none⟩ = some (.int .i64 x.too) := (cell_of_row _ _ _ _ _ _ hx4); have HO4 := hid hown4; have HG4 := hid hg4; clear hown4 hg4)
    | (refine step_append_opt (by rfl) (.tmp 5) (.tmp 7) 40 (by rfl) (w.heap.size + 1) 3 i5 (.int .i64 0) 1 8 Try.underlying40 Ai.out Az0.out Az1.out Az2.out rfl (by decide) _ _ 1 (icells [x.frm]) (by rfl) O3.out y.av y.nv y.cv (icells x.via) (by rfl) hnon (by rw [icells_len, hlen.out]; omega) (ints_src R3.out) (icells_one _) (by unfold maxLen; omega) (by omega) (by simp; try omega) ?_; intro D4 c4 w4 hown4 hg4; have hx4 := (hg4.block w.heap.size (by simp; try omega) (by simp [Value.ownBlock])).trans X3.out; have HB4 := hid (HB3.out.grown hg4 (by have := HB3.out.size; simp at this ⊢; try omega) (fun q hq => Nat.le_trans (Nat.le_succ _) (O3.out.lt q hq).1)); have s4 : w4.cell? ⟨w.heap.size, 1, none⟩ = some (.int .i64 x.too) := (cell_of_row _ _ _ _ _ _ hx4); have HO4 := hid hown4; have HG4 := hid hg4; clear hown4 hg4)
    | (refine step_append_opt (by rfl) (.tmp 8) (.tmp 11) 40 (by rfl) (w.heap.size + 1) 3 i5 (.int .i64 0) 1 8 Try.underlying40 Ai.out Az0.out Az1.out Az2.out rfl (by decide) _ _ _ _ (by rfl) (HO4.out.alloc _) (some ⟨w4.heap.size, 0, none⟩) 1 1 (icells [x.too]) (by rfl) (fun h => by cases h) (by rfl) (one_src (heap_alloc_new w4 _)) (icells_one _) (by unfold maxLen; omega) (by omega) (by have := HG4.out.size; simp at this ⊢; omega) ?_; intro D5 c5 w5 hown5 hg5; have HO5 := hid hown5; have HB5 := hid ((HB4.out.alloc HB4.out.size _).grown hg5 (by have := HB4.out.size; simp at this ⊢; omega) (fun q hq => Nat.le_trans (Nat.le_succ _) (HO4.out.lt q hq).1)); clear hown5 hg5)
    | (refine step_append_opt (by rfl) (.tmp 8) (.tmp 11) 40 (by rfl) (w.heap.size + 1) 3 i5 (.int .i64 0) 1 8 Try.underlying40 Ai.out Az0.out Az1.out Az2.out rfl (by decide) _ _ _ _ (by rfl) HO4.out (some ⟨w.heap.size + 2, 0, none⟩) 1 1 (icells [x.too]) (by rfl) (fun h => by cases h) (by rfl) (one_src ((HG4.out.block (w.heap.size + 2) (by simp) (by simp [Value.ownBlock])).trans T2.out)) (icells_one _) (by unfold maxLen; omega) (by omega) (by have := HG4.out.size; simp at this ⊢; omega) ?_; intro D5 c5 w5 hown5 hg5; have HO5 := hid hown5; have HB5 := hid (HB4.out.grown hg5 HB4.out.size (fun q hq => Nat.le_trans (Nat.le_succ _) (HO4.out.lt q hq).1)); clear hown5 hg5)
    | (refine step_append_opt (by rfl) (.tmp 8) (.tmp 11) 40 (by rfl) (w.heap.size + 1) 3 i5 (.int .i64 0) 1 8 Try.underlying40 Ai.out Az0.out Az1.out Az2.out rfl (by decide) _ _ _ _ (by rfl) HO4.out (some ⟨w.heap.size + 1, 0, none⟩) 1 1 (icells [x.too]) (by rfl) (fun h => by cases h) (by rfl) (one_src ((HG4.out.block (w.heap.size + 1) (by simp) (by simp [Value.ownBlock])).trans T3.out)) (icells_one _) (by unfold maxLen; omega) (by omega) (by have := HG4.out.size; simp at this ⊢; omega) ?_; intro D5 c5 w5 hown5 hg5; have HO5 := hid hown5; have HB5 := hid (HB4.out.grown hg5 HB4.out.size (fun q hq => Nat.le_trans (Nat.le_succ _) (HO4.out.lt q hq).1)); clear hown5 hg5))
  all_goals
    go_wp2_with fail
    go_ret
    exact pts_end hlen.out HO5.out HB5.out
end Go.Proofs.Ytkemcgbedapkcaa

/- waymarkref15.come. -/
namespace Go.Proofs.Ytkemcgbedapkcaa
open Go.RowKit
set_option maxHeartbeats 6400000
set_option maxRecDepth 100000
theorem come_any (A : Option Addr) (n c : Nat) (p : List Int) (v k : Int) (w : World) (hr : RInt w w.heap.size A n p) (hn : n ≤ 1000) (hk : k ≤ 1000) :
    Calls Try.prog 55 #[.slice A n c, .agg #[.int .i64 v, .int .i64 k]] w fun e w' => e = .returned (.agg #[.int .i64 (comeS p v k).1, .int .i64 (comeS p v k).2]) ∧ Below w.heap.size w w' := by
  have hl := hr.1
  have HR := hid (fun W (hb : Below w.heap.size w W) => hr.on hb)
  go_enter Try.func55, Try.ntmps55
  go_wp2_with fail
  have hx0 : ((w.alloc (.cells #[.int .i64 v, .int .i64 k] 92)).alloc (.cells #[.int .i64 0, .int .i64 0] 92)).heap[w.heap.size]? = some (.cells #[.int .i64 v, .int .i64 k] 92 (0, 0)) := (Below.heap_alloc _ _ _ (by simp)).trans (heap_alloc_new w _)
  have hy0 : ((w.alloc (.cells #[.int .i64 v, .int .i64 k] 92)).alloc (.cells #[.int .i64 0, .int .i64 0] 92)).heap[w.heap.size + 1]? = some (.cells #[.int .i64 0, .int .i64 0] 92 (0, 0)) := by
    have := heap_alloc_new (w.alloc (.cells #[.int .i64 v, .int .i64 k] 92)) (.cells #[.int .i64 0, .int .i64 0] 92)
    rw [show (w.alloc (.cells #[.int .i64 v, .int .i64 k] 92)).heap.size = w.heap.size + 1 by simp] at this
    exact this
  have hb0 : Below w.heap.size w ((w.alloc (.cells #[.int .i64 v, .int .i64 k] 92)).alloc (.cells #[.int .i64 0, .int .i64 0] 92)) := ((Below.refl _ w).alloc (Nat.le_refl _) _).alloc (by simp) _
  have H0 : Hid (_ ∧ _ ∧ _) := ⟨hx0, hy0, hb0⟩
  clear hx0 hy0 hb0
  go_loopw [] (fun wr => ∃ q : Int, (k < 0 → q = k) ∧ (0 ≤ k → ∃ j : Nat, j ≤ runN v (p.drop (k.toNat + 1)) ∧ q = k + j) ∧ Hid (wr.heap[w.heap.size]? = some (.cells #[.int .i64 v, .int .i64 q] 92 (0, 0)) ∧ wr.heap[w.heap.size + 1]? = some (.cells #[.int .i64 0, .int .i64 0] 92 (0, 0)) ∧ Below w.heap.size w wr)) (fun wr => n + 1 - (match wr.cell? ⟨w.heap.size, 1, none⟩ with | some u => (intOf u).toNat | none => 0))
  case atStart => exact ⟨k, fun _ => rfl, fun _ => ⟨0, Nat.zero_le _, by omega⟩, H0⟩
  case round =>
    obtain ⟨q, hq1, hq2, HW⟩ := hrel
    obtain ⟨z0, z1, z2⟩ := box_cells HW.out.1
    obtain ⟨y0, y1, y2⟩ := box_cells HW.out.2.1
    have hend : ∀ (m : Nat), Hid (comeS p v k = (v, q)) → Hid (((((wr.drewN m).setCell ⟨w.heap.size + 1, 0, none⟩ (.int .i64 v)).setCell ⟨w.heap.size + 1, 1, none⟩ (.int .i64 q)).heap[w.heap.size + 1]? = some (.cells #[.int .i64 v, .int .i64 q] 92 (0, 0))) ∧ Below w.heap.size w (((wr.drewN m).setCell ⟨w.heap.size + 1, 0, none⟩ (.int .i64 v)).setCell ⟨w.heap.size + 1, 1, none⟩ (.int .i64 q)) ∧ comeS p v k = (v, q)) := fun m hm => by
      have hy : (wr.drewN m).heap[w.heap.size + 1]? = some (.cells #[.int .i64 0, .int .i64 0] 92 (0, 0)) := HW.out.2.1
      exact ⟨box_set1 (box_set0 hy), ((below_drewN HW.out.2.2).setCell (by simp) _).setCell (by simp) _, hm.out⟩
    have hend := hid hend
    by_cases h0 : k < 0
    · obtain rfl := hq1 h0
      have d1 : decide (0 ≤ q) = false := decide_eq_false (by omega)
      have HV : Hid (comeS p v q = (v, q)) := by show _ = _; unfold comeS; rw [if_neg (by omega)]
      clear hq2 hq1
      go_wp2_with fail
      go_big_quiet (fail)
      go_wp2_with fail
      have HG := hend.out nq HV
      refine bodyPost_ret (results_cell_row (p := 4) (fn := Try.f55) rfl _ _ _ _ _ _ _ rfl HG.out.1 Try.underlying92 rfl (by kernel_rfl)) rfl ?_
      exact ⟨by rw [HG.out.2.2], HG.out.2.1⟩
    · obtain ⟨K, rfl⟩ := Int.eq_ofNat_of_zero_le (show 0 ≤ k by omega)
      obtain ⟨j, hj, rfl⟩ := hq2 (by omega)
      have HVg : Hid (comeS p v (K : Int) = (v, (K : Int) + (runN v (p.drop (K + 1)) : Nat))) := by show _ = _; unfold comeS; rw [if_pos (by omega), Int.toNat_natCast]
      rw [Int.toNat_natCast] at hj
      obtain ⟨Q, hQ⟩ : ∃ Q : Nat, K + j = Q := ⟨_, rfl⟩
      have eQ : (K : Int) + (j : Int) = (Q : Int) := by omega
      simp only [eQ] at z1 hend
      have HWq := HW.out
      rw [eQ] at HWq
      have HW2 := hid HWq
      have d1 : decide (0 ≤ (Q : Int)) = true := decide_eq_true (by omega)
      have hrl := runN_le v (p.drop (K + 1))
      rw [List.length_drop, hl] at hrl
      have e1 : IntKind.i64.wrap ((Q : Int) + 1) = (Q : Int) + 1 := by rw [IntKind.wrap_i64]; omega
      clear hq1 HWq HW eQ h0
      by_cases h1 : Q + 1 < n
      · have d2 : decide ((Q : Int) + 1 < (n : Int)) = true := decide_eq_true (by omega)
        have d3 : decide (Q + 1 < n) = true := decide_eq_true h1
        obtain ⟨b, off, rfl, hbl, hcell⟩ := (HR.out _ HW2.out.2.2).2 (by omega)
        have hlt : Q + 1 < p.length := by omega
        obtain ⟨u, hu⟩ : ∃ u, p[Q + 1]? = some u := ⟨_, List.getElem?_eq_getElem hlt⟩
        have hc := hcell (Q + 1) u hu
        clear hcell
        have hi1 : (0 : Int) ≤ (Q : Int) + 1 := by omega
        have hi2 : (Q : Int) + 1 < (n : Int) := by omega
        have hpd : (p.drop (K + 1))[j]? = some u := by rw [List.getElem?_drop, show K + 1 + j = Q + 1 by omega]; exact hu
        by_cases h2 : u = v
        · have hj2 : j + 1 ≤ runN v (p.drop (K + 1)) := by
            rcases Nat.lt_or_ge j (runN v (p.drop (K + 1))) with h3 | h3
            · exact h3
            · obtain rfl : j = runN v (p.drop (K + 1)) := by omega
              exact absurd h2 (runN_end hpd)
          clear HVg hpd hu
          obtain rfl : v = u := h2.symm
          go_wp2_with fail
          go_big_quiet (fail)
          go_wp2_with fail
          have hx : (wr.drewN nq).heap[w.heap.size]? = some (.cells #[.int .i64 v, .int .i64 (Q : Int)] 92 (0, 0)) := HW2.out.1
          have hy : (wr.drewN nq).heap[w.heap.size + 1]? = some (.cells #[.int .i64 0, .int .i64 0] 92 (0, 0)) := HW2.out.2.1
          have hx2 := box_set1 (u := .int .i64 ((Q : Int) + 1)) hx
          refine ⟨⟨(Q : Int) + 1, fun h => by omega, fun _ => ⟨j + 1, by rw [Int.toNat_natCast]; exact hj2, by omega⟩, hx2, ?_, (below_drewN HW2.out.2.2).setCell (Nat.le_refl _) _⟩, ?_⟩
          · rw [Below.heap_setCell _ _ _ _ (show w.heap.size + 1 ≠ w.heap.size by omega)]; exact hy
          · rw [(box_cells hx2).2.1, z1]
            simp [intOf]
            omega
        · have d4 : (u == v) = false := by rw [beq_eq_false_iff_ne]; exact h2
          have d5 : decide (u = v) = false := decide_eq_false h2
          have HV : Hid (comeS p v (K : Int) = (v, (Q : Int))) := by
            show _ = _
            rw [HVg.out]
            have : runN v (p.drop (K + 1)) = j := by
              rcases Nat.lt_or_ge j (runN v (p.drop (K + 1))) with h3 | h3
              · have h4 := runN_at h3
                rw [hpd] at h4
                exact absurd (Option.some.inj h4) h2
              · omega
            rw [this]
            congr 1
            omega
          clear hpd hu HVg
          go_wp2_with fail
          go_big_quiet (fail)
          go_wp2_with fail
          have HG := hend.out nq HV
          refine bodyPost_ret (results_cell_row (p := 4) (fn := Try.f55) rfl _ _ _ _ _ _ _ rfl HG.out.1 Try.underlying92 rfl (by kernel_rfl)) rfl ?_
          exact ⟨by rw [HG.out.2.2], HG.out.2.1⟩
      · have d2 : decide ((Q : Int) + 1 < (n : Int)) = false := decide_eq_false (by omega)
        have d3 : decide (Q + 1 < n) = false := decide_eq_false h1
        have HV : Hid (comeS p v (K : Int) = (v, (Q : Int))) := by
          show _ = _
          rw [HVg.out]
          have : runN v (p.drop (K + 1)) = j := by omega
          rw [this]
          congr 1
          omega
        clear HVg
        go_wp2_with fail
        go_big_quiet (fail)
        go_wp2_with fail
        have HG := hend.out nq HV
        refine bodyPost_ret (results_cell_row (p := 4) (fn := Try.f55) rfl _ _ _ _ _ _ _ rfl HG.out.1 Try.underlying92 rfl (by kernel_rfl)) rfl ?_
        exact ⟨by rw [HG.out.2.2], HG.out.2.1⟩
end Go.Proofs.Ytkemcgbedapkcaa

/- waymarkref15.Start, Goal. -/
namespace Go.Proofs.Ytkemcgbedapkcaa
open Go.RowKit
set_option maxHeartbeats 6400000
set_option maxRecDepth 100000
theorem box7_cells {w : World} {B : Nat} {a b c d e f g : Value} {T : TypeId} (h : w.heap[B]? = some (.cells #[a, b, c, d, e, f, g] T (0, 0))) :
    w.cell? ⟨B, 0, none⟩ = some a ∧ w.cell? ⟨B, 1, none⟩ = some b ∧ w.cell? ⟨B, 2, none⟩ = some c ∧ w.cell? ⟨B, 3, none⟩ = some d ∧ w.cell? ⟨B, 4, none⟩ = some e ∧ w.cell? ⟨B, 5, none⟩ = some f ∧ w.cell? ⟨B, 6, none⟩ = some g := by
  refine ⟨?_, ?_, ?_, ?_, ?_, ?_, ?_⟩ <;> (rw [cell_of_row _ _ _ _ _ _ h]; rfl)
theorem goal_any (x : Wnt) (y : WSl) (w : World) (hw : WArg w x y) (hv : y.nv ≤ 1000) :
    Calls Try.prog 38 #[.agg #[.int .i64 x.frm, .int .i64 x.too, .int .i64 x.bnd, .slice y.av y.nv y.cv, .slice y.an y.nn y.cn, .slice y.al y.nl y.cl, .slice y.ac y.nc y.cc]] w fun e w' => e = .returned (.agg #[.int .i64 (goalS x).1, .int .i64 (goalS x).2]) ∧ Below w.heap.size w w' := by
  have hl : Hid (goalS x = (x.too, (y.nv : Int) + 1)) := by show _ = _; unfold goalS; rw [hw.via.row.1]
  have e1 : IntKind.i64.wrap ((y.nv : Int) + 1) = (y.nv : Int) + 1 := by rw [IntKind.wrap_i64]; omega
  clear hw
  go_enter Try.func38, Try.ntmps38
  go_wp2_with fail
  have hy0 : ((w.alloc (.cells #[.int .i64 x.frm, .int .i64 x.too, .int .i64 x.bnd, .slice y.av y.nv y.cv, .slice y.an y.nn y.cn, .slice y.al y.nl y.cl, .slice y.ac y.nc y.cc] 58)).alloc (.cells #[.int .i64 x.too, .int .i64 ((y.nv : Int) + 1)] 92)).heap[w.heap.size + 1]? = some (.cells #[.int .i64 x.too, .int .i64 ((y.nv : Int) + 1)] 92 (0, 0)) := by
    have := heap_alloc_new (w.alloc (.cells #[.int .i64 x.frm, .int .i64 x.too, .int .i64 x.bnd, .slice y.av y.nv y.cv, .slice y.an y.nn y.cn, .slice y.al y.nl y.cl, .slice y.ac y.nc y.cc] 58)) (.cells #[.int .i64 x.too, .int .i64 ((y.nv : Int) + 1)] 92)
    rw [show (w.alloc (.cells #[.int .i64 x.frm, .int .i64 x.too, .int .i64 x.bnd, .slice y.av y.nv y.cv, .slice y.an y.nn y.cn, .slice y.al y.nl y.cl, .slice y.ac y.nc y.cc] 58)).heap.size = w.heap.size + 1 by simp] at this
    exact this
  have hb0 : Below w.heap.size w ((w.alloc (.cells #[.int .i64 x.frm, .int .i64 x.too, .int .i64 x.bnd, .slice y.av y.nv y.cv, .slice y.an y.nn y.cn, .slice y.al y.nl y.cl, .slice y.ac y.nc y.cc] 58)).alloc (.cells #[.int .i64 x.too, .int .i64 ((y.nv : Int) + 1)] 92)) := ((Below.refl _ w).alloc (Nat.le_refl _) _).alloc (by simp) _
  refine bodyPost_ret (results_cell_row (p := 2) (fn := Try.f38) rfl _ _ _ _ _ _ _ rfl hy0 Try.underlying92 rfl (by kernel_rfl)) rfl ?_
  exact ⟨by rw [hl.out], hb0⟩
theorem start_any (x : Wnt) (y : WSl) (w : World) (hw : WArg w x y) (hv : y.nv ≤ 900) :
    Calls Try.prog 36 #[.agg #[.int .i64 x.frm, .int .i64 x.too, .int .i64 x.bnd, .slice y.av y.nv y.cv, .slice y.an y.nn y.cn, .slice y.al y.nl y.cl, .slice y.ac y.nc y.cc]] w fun e w' => e = .returned (.agg #[.int .i64 (startS x).1, .int .i64 (startS x).2]) ∧ Below w.heap.size w w' := by
  have hl := hw.via.row.1
  have HP := hid (fun W hb => ints_out (m := y.nv + 2) (by rw [ptsS_len, hl]) (points_any x y W (hw.on hb) (by omega)))
  have HC := hid (fun A c W (hr : RInt W W.heap.size A (y.nv + 2) (ptsS x)) => come_any A (y.nv + 2) c (ptsS x) x.frm 0 W hr (by omega) (by omega))
  have hV : Hid (startS x = comeS (ptsS x) x.frm 0) := rfl
  obtain ⟨p1, p2, hp⟩ : ∃ p1 p2, comeS (ptsS x) x.frm 0 = (p1, p2) := ⟨_, _, rfl⟩
  rw [hp] at HC hV
  clear hp hw hl
  go_enter Try.func36, Try.ntmps36
  go_wp2_with fail
  obtain ⟨w0, hw0⟩ : ∃ w0, (w.alloc (.cells #[.int .i64 x.frm, .int .i64 x.too, .int .i64 x.bnd, .slice y.av y.nv y.cv, .slice y.an y.nn y.cn, .slice y.al y.nl y.cl, .slice y.ac y.nc y.cc] 58)).alloc (.cells #[.int .i64 0, .int .i64 0] 92) = w0 := ⟨_, rfl⟩
  have hb0 : Below w.heap.size w w0 := hw0 ▸ ((Below.refl _ w).alloc (Nat.le_refl _) _).alloc (by simp) _
  have hx0 : w0.heap[w.heap.size]? = some (.cells #[.int .i64 x.frm, .int .i64 x.too, .int .i64 x.bnd, .slice y.av y.nv y.cv, .slice y.an y.nn y.cn, .slice y.al y.nl y.cl, .slice y.ac y.nc y.cc] 58 (0, 0)) := hw0 ▸ (Below.heap_alloc _ _ _ (by simp)).trans (heap_alloc_new w _)
  have hy0 : w0.heap[w.heap.size + 1]? = some (.cells #[.int .i64 0, .int .i64 0] 92 (0, 0)) := by
    have := heap_alloc_new (w.alloc (.cells #[.int .i64 x.frm, .int .i64 x.too, .int .i64 x.bnd, .slice y.av y.nv y.cv, .slice y.an y.nn y.cn, .slice y.al y.nl y.cl, .slice y.ac y.nc y.cc] 58)) (.cells #[.int .i64 0, .int .i64 0] 92)
    rw [show (w.alloc (.cells #[.int .i64 x.frm, .int .i64 x.too, .int .i64 x.bnd, .slice y.av y.nv y.cv, .slice y.an y.nn y.cn, .slice y.al y.nl y.cl, .slice y.ac y.nc y.cc] 58)).heap.size = w.heap.size + 1 by simp, hw0] at this
    exact this
  rw [hw0]
  have hxd : w0.drew.heap[w.heap.size]? = some (.cells #[.int .i64 x.frm, .int .i64 x.too, .int .i64 x.bnd, .slice y.av y.nv y.cv, .slice y.an y.nn y.cn, .slice y.al y.nl y.cl, .slice y.ac y.nc y.cc] 58 (0, 0)) := hx0
  have hyd : w0.drew.heap[w.heap.size + 1]? = some (.cells #[.int .i64 0, .int .i64 0] 92 (0, 0)) := hy0
  obtain ⟨z0, z1, z2, z3, z4, z5, z6⟩ := box7_cells hxd
  obtain ⟨y0, y1, y2⟩ := box_cells hyd
  have Hd := hid (And.intro hxd (And.intro hyd hb0.drew))
  clear hw0 hx0 hy0 hb0 hxd hyd
  go_region_law (first
    | (go_simp; go_at_call 53; (with_reducible refine (HP.out _ Hd.out.2.2).mono ?_); rintro e' w3 ⟨A3, c3, rfl, ⟨hr3, hc3, hn3⟩, hb3⟩; have HR3 := hid hr3; have hx3 := box_below Hd.out.1 hb3 (blk_lt Hd.out.1); have hy3 := box_below Hd.out.2.1 hb3 (blk_lt Hd.out.2.1); have HB3 := hid (Hd.out.2.2.trans (hb3.mono Hd.out.2.2.size)); have HY3 := hid hy3; have q0 := (box7_cells hx3).1; clear hb3 hx3 hy3 hr3)
    | (go_simp; go_at_call 55; (with_reducible refine (HC.out _ _ _ HR3.out).mono ?_); rintro e' w4 ⟨rfl, hb4⟩; have hy4 := box_below HY3.out hb4 (blk_lt HY3.out); have HB4 := hid (HB3.out.trans (hb4.mono HB3.out.size)); have HY4 := hid hy4; obtain ⟨u0, u1, u2⟩ := box_cells hy4; have u20 := u2 0; have u21 := u2 1; clear hb4 hy4 u2))
  all_goals
    go_wp2_with fail
    have hg := box_set1 (u := .int .i64 p2) (box_set0 (u := .int .i64 p1) HY4.out)
    refine bodyPost_ret (results_cell_row (p := 2) (fn := Try.f36) rfl _ _ _ _ _ _ _ rfl hg Try.underlying92 rfl (by kernel_rfl)) rfl ?_
    exact ⟨by rw [hV.out], (HB4.out.setCell (by simp) _).setCell (by simp) _⟩
end Go.Proofs.Ytkemcgbedapkcaa
