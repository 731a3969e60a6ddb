/- The reference's parser: rule. -/
import Derived.Test.YtcmkcloapenpnaaGreatDoorPlE
import Derived.StillTailTactics
namespace Go.Proofs.YtcmkcloapenpnaaGreatDoor
open Go.RowKit
set_option maxHeartbeats 6400000
set_option maxRecDepth 100000
def noWSl : WSl := ⟨none, 0, 0, none, 0, 0, none, 0, 0, none, 0, 0⟩
theorem load_rule {ops : Array Oper} {rest : List Oper} {o : Oper} {a : Act} {w : World} {Q : Exit → Act → World → Prop} {B : Nat} {r : Rul} {y : WSl} (h : RBox B r y w) (hgd : o.guard = none) (x : Operand) (ho : o.op = .load 42 x) (hx : a.eval x = .pointer (some ⟨B, 0, none⟩))
    (k : wpList Tryz.prog ops Q rest (a.put o.dst (.agg (rarr r y))) w) : wpList Tryz.prog ops Q (o :: rest) a w :=
  wpList_load_row hgd 42 x ho B hx 42 (rarr r y) (0, 0) _ h Tryz.underlying42 rfl (by kernel_rfl) k
theorem store_rule {ops : Array Oper} {rest : List Oper} {o : Oper} {a : Act} {w : World} {Q : Exit → Act → World → Prop} {B : Nat} {r0 r : Rul} {y0 y : WSl} (h : RBox B r0 y0 w) (hgd : o.guard = none) (x z : Operand) (ho : o.op = .store 42 x z) (hx : a.eval x = .pointer (some ⟨B, 0, none⟩)) (hz : a.eval z = .agg (rarr r y))
    (k : wpList Tryz.prog ops Q rest (a.put o.dst undef) (w.setRow B (rarr r y))) : wpList Tryz.prog ops Q (o :: rest) a w :=
  wpList_store_row hgd 42 x z ho B (rarr r y) hx hz 42 _ h (by kernel_rfl) rfl (by simp [rarr, Value.oneCell']) k
theorem row_but (w : World) (B : Nat) (cs : Array Value) : But B w (w.setRow B cs) := ⟨rfl, rfl, rfl, by simp [World.setRow], fun g _ h1 => setRow_other w B g cs h1⟩
theorem row_box {w : World} {B : Nat} {r0 : Rul} {y0 : WSl} (h : RBox B r0 y0 w) (r : Rul) (y : WSl) : RBox B r y (w.setRow B (rarr r y)) := setRow_heap w B _ _ _ _ h
def goR : Except (List Tk) (List (List UInt8) × Rul × List Tk) → Except (List Tk) (Rul × List Tk)
  | .ok x => shutR x
  | .error e => .error e
def RulAns (BP : Nat) (A : Option Addr) (n c : Nat) (l : List Tok) (k : Nat) (w : World) (e : Ending) (w' : World) : Prop :=
  But BP w w' ∧ ∃ r y k', e = .returned (.agg (rarr r y)) ∧ ((ruleP (Kd l k) = .ok (r, Kd l k') ∧ PSt BP A n c l k' false w' ∧ ROwn w' r.x y) ∨ (ruleP (Kd l k) = .error (Kd l k') ∧ PSt BP A n c l k' true w'))
theorem But.new2 {B G : Nat} {w w' w'' : World} (h : But B w w') (hb : But G w' w'') (hG : w.heap.size ≤ G) : But B w w'' :=
  ⟨hb.os.trans h.os, hb.tape.trans h.tape, hb.output.trans h.output, Nat.le_trans h.size hb.size, fun g hg h1 => (hb.block g (Nat.lt_of_lt_of_le hg h.size) (by omega)).trans (h.block g hg h1)⟩
/-- The end of a rule that is none. -/
theorem rule_bad {BP : Nat} {A : Option Addr} {n c : Nat} {l : List Tok} {k k' : Nat} {w wx : World} {r0 r : Rul} {y0 y : WSl} (hb : But BP w wx) (hp : PSt BP A n c l k' true wx) (hr : RBox w.heap.size r0 y0 wx) (hq : ruleP (Kd l k) = .error (Kd l k')) : RulAns BP A n c l k w (.returned (.agg (rarr r y))) (wx.setRow w.heap.size (rarr r y)) :=
  ⟨hb.new2 (row_but _ _ _) (Nat.le_refl _), r, y, k', rfl, .inr ⟨hq, hp.other (row_but _ _ _) hr (by decide) (by decide)⟩⟩
theorem rule_ok {BP : Nat} {A : Option Addr} {n c : Nat} {l : List Tok} {k k' : Nat} {w wx : World} {r0 r : Rul} {y0 y : WSl} (hb : But BP w wx) (hp : PSt BP A n c l k' false wx) (hr : RBox w.heap.size r0 y0 wx) (ho : ROwn wx r.x y) (hq : ruleP (Kd l k) = .ok (r, Kd l k')) : RulAns BP A n c l k w (.returned (.agg (rarr r y))) (wx.setRow w.heap.size (rarr r y)) :=
  ⟨hb.new2 (row_but _ _ _) (Nat.le_refl _), r, y, k', rfl, .inl ⟨hq, hp.other (row_but _ _ _) hr (by decide) (by decide), rown_but ho (row_but _ _ _) hr (by decide)⟩⟩
/-- Where a rule's reading stands. -/
structure RSt (BP : Nat) (A : Option Addr) (n c : Nat) (l : List Tok) (w : World) (k : Nat) (b : Bool) (r : Rul) (y : WSl) (wx : World) : Prop where
  but : But BP w wx
  pst : PSt BP A n c l k b wx
  res : RBox w.heap.size noRul noWSl wx
  box : RBox (w.heap.size + 1) r y wx
theorem RSt.drewN {BP : Nat} {A : Option Addr} {n c : Nat} {l : List Tok} {w : World} {k : Nat} {b : Bool} {r : Rul} {y : WSl} {wx : World} (h : RSt BP A n c l w k b r y wx) (j : Nat) : RSt BP A n c l w k b r y (wx.drewN j) :=
  ⟨h.but.trans (But.of (below_drewN (Below.refl _ _))), h.pst.drewN j, h.res, h.box⟩
theorem RSt.on {BP : Nat} {A : Option Addr} {n c : Nat} {l : List Tok} {w : World} {k : Nat} {b : Bool} {r : Rul} {y : WSl} {wx wy : World} (h : RSt BP A n c l w k b r y wx) (hb : Below wx.heap.size wx wy) : RSt BP A n c l w k b r y wy :=
  ⟨h.but.trans (But.of hb), h.pst.on hb, box_below h.res hb (pst_lt h.res), box_below h.box hb (pst_lt h.box)⟩
theorem RSt.turn {BP : Nat} {A : Option Addr} {n c : Nat} {l : List Tok} {w : World} {k k' : Nat} {b b' : Bool} {r : Rul} {y : WSl} {wx wy : World} (h : RSt BP A n c l w k b r y wx) (hP : BP < w.heap.size) (hb : But BP wx wy) (hp : PSt BP A n c l k' b' wy) : RSt BP A n c l w k' b' r y wy :=
  ⟨h.but.trans hb, hp, rbox_but h.res hb (by omega), rbox_but h.box hb (by omega)⟩
theorem RSt.bad {BP : Nat} {A : Option Addr} {n c : Nat} {l : List Tok} {w : World} {k : Nat} {b : Bool} {r : Rul} {y : WSl} {wx : World} (h : RSt BP A n c l w k b r y wx) (hP : BP < w.heap.size) : RSt BP A n c l w k true r y (wx.setCell ⟨BP, 2, none⟩ (.bool true)) :=
  h.turn hP But.set (h.pst.turn But.set (pbox_set2 h.pst.box) h.pst.in_)
theorem RSt.step {BP : Nat} {A : Option Addr} {n c : Nat} {l : List Tok} {w : World} {k : Nat} {b : Bool} {r : Rul} {y : WSl} {wx : World} (h : RSt BP A n c l w k b r y wx) (hP : BP < w.heap.size) (k' : Nat) (hk : k' ≤ n) (v : Int) (hv : v = (k' : Int)) : RSt BP A n c l w k' b r y (wx.setCell ⟨BP, 1, none⟩ (.int .i64 v)) := by
  subst hv
  exact h.turn hP But.set (h.pst.turn But.set (pbox_set1 h.pst.box) hk)
theorem RSt.is {BP : Nat} {A : Option Addr} {n c : Nat} {l : List Tok} {w : World} {k : Nat} {b : Bool} {r : Rul} {y : WSl} {wx : World} (h : RSt BP A n c l w k b r y wx) (kd : Int) :
    Calls Tryz.prog 40 #[.pointer (some ⟨BP, 0, none⟩), .int .i64 kd] wx fun e w' => e = .returned (.bool (isS l k kd)) ∧ Below wx.heap.size wx w' ∧ RSt BP A n c l w k b r y w' :=
  (is_any BP A n c l k b kd wx h.pst).mono fun _ _ hh => ⟨hh.1, hh.2, h.on hh.2⟩
/-- A cell of the rule is stored. -/
theorem RSt.put {BP : Nat} {A : Option Addr} {n c : Nat} {l : List Tok} {w : World} {k : Nat} {b : Bool} {r r' : Rul} {y : WSl} {wx : World} {j : Nat} {u : Value} (h : RSt BP A n c l w k b r y wx) (_ : BP < w.heap.size) (hb : RBox (w.heap.size + 1) r' y (wx.setCell ⟨w.heap.size + 1, j, none⟩ u)) : RSt BP A n c l w k b r' y (wx.setCell ⟨w.heap.size + 1, j, none⟩ u) :=
  ⟨h.but.new (by omega), h.pst.other But.set h.box (by decide) (by decide), rbox_but h.res But.set (by omega), hb⟩
theorem RSt.name {BP : Nat} {A : Option Addr} {n c : Nat} {l : List Tok} {w : World} {k : Nat} {b : Bool} {r : Rul} {y : WSl} {wx : World} (h : RSt BP A n c l w k b r y wx) (hP : BP < w.heap.size) (s : List UInt8) : RSt BP A n c l w k b { r with name := s } y (wx.setCell ⟨w.heap.size + 1, 0, none⟩ (.string (txt s))) :=
  h.put hP (heap_setCell_same wx _ 0 _ _ _ h.box)
theorem RSt.prio {BP : Nat} {A : Option Addr} {n c : Nat} {l : List Tok} {w : World} {k : Nat} {b : Bool} {r : Rul} {y : WSl} {wx : World} (h : RSt BP A n c l w k b r y wx) (hP : BP < w.heap.size) (x : Int) : RSt BP A n c l w k b { r with pri := x } y (wx.setCell ⟨w.heap.size + 1, 1, none⟩ (.int .i64 x)) :=
  h.put hP (heap_setCell_same wx _ 1 _ _ _ h.box)
/-- What rule holds while it reads clauses. -/
structure RLp (BP : Nat) (A : Option Addr) (n c : Nat) (l : List Tok) (k : Nat) (w : World) (v : Value) (H : List (List UInt8)) (k' : Nat) (b : Bool) (r : Rul) (y : WSl) (w' : World) : Prop where
  st : RSt BP A n c l w k' b r y w'
  own : w'.ownsRow w.heap.size 9 1 v H.length (scells H)
  few : H.length ≤ if b then n + 1 else k'
  good : b = false → ROwn w' r.x y ∧ ruleP (Kd l k) = goR (clausesA H r (Kd l k'))
  bad : b = true → ruleP (Kd l k) = .error (Kd l k')
theorem rlp_start {BP : Nat} {A : Option Addr} {n c : Nat} {l : List Tok} {k k1 k6 : Nat} {b6 : Bool} {w w7 : World} {s : List UInt8} {x : Int} (h : RSt BP A n c l w k6 b6 { noRul with name := s, pri := x } noWSl w7)
    (hq : ruleP (Kd l k) = (match num1 (Kd l (k1 + 1)) with
            | .ok (v, ts') => goR (clausesA [] { noRul with name := s, pri := (v : Int) } ts')
            | .error e => .error e))
    (hx : (b6 = false ∧ ∃ y : Nat, numAt l (k1 + 1) = some y ∧ x = (y : Int) ∧ k6 = k1 + 1 + 1) ∨ (b6 = true ∧ numAt l (k1 + 1) = none ∧ k6 = k1 + 1)) : RLp BP A n c l k w (.slice none 0 0) [] k6 b6 { noRul with name := s, pri := x } noWSl w7 := by
  refine ⟨h, World.ownsRow_nil _ _ _ _, by simp, fun hb => ?_, fun hb => ?_⟩
  · rcases hx with ⟨_, v, hv, rfl, rfl⟩ | ⟨h1, _⟩
    · exact ⟨⟨World.ownsRow_nil _ _ _ _, World.ownsRow_nil _ _ _ _, World.ownsRow_nil _ _ _ _, World.ownsRow_nil _ _ _ _⟩, by rw [hq, (num1_at hv).1]⟩
    · rw [h1] at hb; cases hb
  · rcases hx with ⟨h1, _⟩ | ⟨_, hv, rfl⟩
    · rw [h1] at hb; cases hb
    · rw [hq, num1_bad hv]
theorem own_but2 {B C : Nat} {w w' : World} {base e size n : Nat} {v : Value} {xs : List Value} {t t' : TypeId} {c c' : Array Value} {fz fz' : Nat × Nat} (hown : w.ownsRow base e size v n xs) (hb : But2 B C w w') (ho : w.heap[B]? = some (.cells c t fz)) (he : e ≠ t) (ho' : w.heap[C]? = some (.cells c' t' fz')) (he' : e ≠ t') : w'.ownsRow base e size v n xs := by
  refine ⟨hown.1, ?_⟩
  rcases hown.2 with h1 | ⟨g, cap, cur, h1, h2, hg, h3⟩
  · exact .inl h1
  · refine .inr ⟨g, cap, cur, h1, h2, (hb.block g (pst_lt hg) (fun e => ?_) (fun e => ?_)).trans hg, h3⟩
    · subst e; rw [ho] at hg; simp at hg; exact he hg.2.1.symm
    · subst e; rw [ho'] at hg; simp at hg; exact he' hg.2.1.symm
theorem RSt.app {BP : Nat} {A : Option Addr} {n c : Nat} {l : List Tok} {w : World} {k : Nat} {b : Bool} {r : Rul} {y : WSl} {wx w6 : World} {v : Value} {m : Nat} {xs : List Value} {o : Obj} (h : RSt BP A n c l w k b r y wx) (hown : wx.ownsRow w.heap.size 9 1 v m xs) (hg : (wx.alloc o).grownBy w6 v.ownBlock) : RSt BP A n c l w k b r y w6 :=
  ⟨but_app h.but (Nat.le_refl _) hown hg, h.pst.app hown hg (by decide) (by decide), box_app2 h.res hown (by decide) hg, box_app2 h.box hown (by decide) hg⟩
theorem RStr.on {a b : World} {A : Option Addr} {n : Nat} {L : List (List UInt8)} (h : RStr a a.heap.size A n L) (hb : Below a.heap.size a b) : RStr b b.heap.size A n L := by
  refine ⟨h.1, fun hn => ?_⟩
  obtain ⟨g, off, hA, hg, hc⟩ := h.2 hn
  exact ⟨g, off, hA, Nat.lt_of_lt_of_le hg hb.size, fun i x hx => (hb.cell (p := ⟨g, off + i, none⟩) hg).trans (hc i x hx)⟩
/-- Behind a clause. -/
structure RCl (BP : Nat) (A : Option Addr) (n c : Nat) (l : List Tok) (w : World) (v : Value) (H : List (List UInt8)) (i k1 : Nat) (r : Rul) (k6 : Nat) (b6 : Bool) (r6 : Rul) (y6 : WSl) (w' : World) : Prop where
  st : RSt BP A n c l w k6 b6 r6 y6 w'
  own : w'.ownsRow w.heap.size 9 1 v H.length (scells H)
  good : b6 = false → ROwn w' r6.x y6 ∧ clauseI i r (Kd l k1) = .ok (r6, Kd l k6)
  bad : b6 = true → clauseI i r (Kd l k1) = .error (Kd l k6)
theorem rcl_of {BP : Nat} {A : Option Addr} {n c : Nat} {l : List Tok} {w : World} {v : Value} {H : List (List UInt8)} {i k1 : Nat} {r : Rul} {y : WSl} {w4 w5 : World} {e : Ending} (hP : BP < w.heap.size) (h : RSt BP A n c l w k1 false r y w4) (hown : w4.ownsRow w.heap.size 9 1 v H.length (scells H)) (hc : ClAns BP (w.heap.size + 1) A n c l k1 i r w4 e w5) :
    e = .returned (.bool true) ∧ ∃ k6 b6 r6 y6, RCl BP A n c l w v H i k1 r k6 b6 r6 y6 w5 := by
  obtain ⟨hb, he, k6, r6, y6, hbox, hx⟩ := hc
  refine ⟨he, ?_⟩
  have hbut : But BP w w5 := ⟨hb.os.trans h.but.os, hb.tape.trans h.but.tape, hb.output.trans h.but.output, Nat.le_trans h.but.size hb.size, fun g hg h1 => (hb.block g (Nat.lt_of_lt_of_le hg h.but.size) h1 (by omega)).trans (h.but.block g hg h1)⟩
  have hres : RBox w.heap.size noRul noWSl w5 := (hb.block _ (pst_lt h.res) (by omega) (by omega)).trans h.res
  have hown5 := own_but2 hown hb h.pst.box (by decide) h.box (by decide)
  rcases hx with ⟨h1, h2, h3⟩ | ⟨h1, h2⟩
  · exact ⟨k6, false, r6, y6, ⟨hbut, h2, hres, hbox⟩, hown5, fun _ => ⟨h3, h1⟩, fun hh => by cases hh⟩
  · exact ⟨k6, true, r6, y6, ⟨hbut, h2, hres, hbox⟩, hown5, fun hh => (by cases hh), fun _ => h1⟩
theorem RLp.put {BP : Nat} {A : Option Addr} {n c : Nat} {l : List Tok} {k : Nat} {w : World} {v v6 : Value} {H : List (List UInt8)} {k' k1 : Nat} {r r6 : Rul} {y y6 : WSl} {wr w5 w6 : World} {k6 : Nat} {b6 : Bool} {t : Tok} {o : Obj} (h : RLp BP A n c l k w v H k' false r y wr) (hk1 : k1 = k' + 1) (hlen : l.length = n) (ht : l[k']? = some t) (hkd : t.kind = 1) (hh : t.text ∉ H) (hw : wordIx t.text ≠ 13)
    (hc : RCl BP A n c l w v H (wordIx t.text) k1 r k6 b6 r6 y6 w5) (hown : w6.ownsRow w.heap.size 9 1 v6 (H.length + 1) (scells H ++ [.string (txt t.text)])) (hg : (w5.alloc o).grownBy w6 v.ownBlock) : RLp BP A n c l k w v6 (H ++ [t.text]) k6 b6 r6 y6 w6 := by
  subst hk1
  have hq : clausesA H r (Kd l k') = match clauseI (wordIx t.text) r (Kd l (k' + 1)) with
      | .ok (r', ts') => clausesA (H ++ [t.text]) r' ts'
      | .error e => .error e := by
    rw [Kd_some ht, clausesA_cons, if_pos (show (era t).1 = 1 from hkd)]
    exact if_neg (fun e => e.elim hh hw)
  obtain ⟨_, hrule⟩ := h.good rfl
  have hk := (List.getElem?_eq_some_iff.1 ht).1
  have hf : H.length ≤ k' := h.few
  refine ⟨hc.st.app hc.own hg, by rw [List.length_append, List.length_singleton]; simpa [scells] using hown, ?_, fun hb => ?_, fun hb => ?_⟩
  · rw [List.length_append, List.length_singleton]
    cases b6 with
    | true => simp; omega
    | false =>
      have h1 := clauseI_len (hc.good rfl).2
      rw [Kd_len, Kd_len] at h1
      have h2 := hc.st.pst.in_
      simp
      omega
  · obtain ⟨h1, h2⟩ := hc.good hb
    refine ⟨h1.any fun ho => own_app ho hc.own hg (by decide), ?_⟩
    rw [hrule, hq, h2]
  · rw [hrule, hq, hc.bad hb]
    rfl
theorem rule_shut {l : List Tok} {k k' : Nat} {H : List (List UInt8)} {r : Rul} (h : ruleP (Kd l k) = goR (clausesA H r (Kd l k'))) (hs : isS l k' 1 = false) :
    (isS l k' 3 = true → wordL 11 ∈ H → wordL 12 ∈ H → ruleP (Kd l k) = .ok (r, Kd l (k' + 1))) ∧ (¬(isS l k' 3 = true ∧ wordL 11 ∈ H ∧ wordL 12 ∈ H) → ruleP (Kd l k) = .error (Kd l k')) := by
  have hq : clausesA H r (Kd l k') = .ok (H, r, Kd l k') := by
    rcases isS_not hs with h1 | ⟨t, h1, h2⟩
    · rw [Kd_none (List.getElem?_eq_none_iff.1 h1)]; rfl
    · rw [Kd_some h1, clausesA_cons]; exact if_neg h2
  rw [h, hq]
  refine ⟨fun h3 hf ht => ?_, fun hn => ?_⟩
  · obtain ⟨t, h1, h2⟩ := isS_yes h3
    show shutR _ = _
    rw [Kd_some h1]
    exact if_pos ⟨h2, hf, ht⟩
  · show shutR _ = _
    cases ht : l[k']? with
    | none => rw [Kd_none (List.getElem?_eq_none_iff.1 ht)]; rfl
    | some t =>
      rw [Kd_some ht]
      exact if_neg (fun hh => hn ⟨by have h3 : t.kind = 3 := hh.1; unfold isS; rw [ht]; simp [h3], hh.2⟩)
theorem rule_any (BP : Nat) (A : Option Addr) (n c : Nat) (l : List Tok) (k : Nat) (w : World) (h : PSt BP A n c l k false w) :
    Calls Tryz.prog 15 #[.pointer (some ⟨BP, 0, none⟩)] w (RulAns BP A n c l k w) := by
  have b1 : Below w.heap.size w (w.alloc (.cells (rarr noRul noWSl) 42)) := (Below.refl _ _).alloc (Nat.le_refl _) _
  have b2 : Below w.heap.size w ((w.alloc (.cells (rarr noRul noWSl) 42)).alloc (.cells (rarr noRul noWSl) 42)) := b1.alloc (by simp) _
  have hX1 : RBox w.heap.size noRul noWSl ((w.alloc (.cells (rarr noRul noWSl) 42)).alloc (.cells (rarr noRul noWSl) 42)) := box_below (heap_alloc_new w _) ((Below.refl _ _).alloc (Nat.le_refl _) _) (by simp)
  have hX2 : RBox (w.heap.size + 1) noRul noWSl ((w.alloc (.cells (rarr noRul noWSl) 42)).alloc (.cells (rarr noRul noWSl) 42)) := by
    have := heap_alloc_new (w.alloc (.cells (rarr noRul noWSl) 42)) (.cells (rarr noRul noWSl) 42)
    rw [show (w.alloc (.cells (rarr noRul noWSl) 42)).heap.size = w.heap.size + 1 by simp] at this
    exact this
  have HR2 := hid (RSt.mk (BP := BP) (But.of b2) (h.on b2) hX1 hX2)
  have HI := hid (fun (kd : Int) (k' : Nat) (w' : World) (h : PSt BP A n c l k' false w') => is_quiet BP A n c l k' false kd w' h)
  have hBP := h.lt
  have hlen := hid h.len
  have hfew := h.few
  have Hsml := hid h.sml
  have hin := h.in_
  clear b1 b2 hX1 hX2 h
  go_enter Tryz.func15, Tryz.ntmps15
  go_wp2_with fail
  obtain ⟨W, hW⟩ : ∃ W, ((w.alloc (.cells (rarr noRul noWSl) 42)).alloc (.cells (rarr noRul noWSl) 42)) = W := ⟨_, rfl⟩
  change Code.wp _ _ _ _ ((w.alloc (.cells (rarr noRul noWSl) 42)).alloc (.cells (rarr noRul noWSl) 42))
  rw [hW] at HR2 ⊢
  clear hW
  obtain ⟨p0, p1, p2, pf⟩ := pbox_cells HR2.out.pst.box
  go_cut [23] (fun s wx => ∃ b : Bool, s = .bool b ∧ Hid (RSt BP A n c l w k false noRul noWSl wx) ∧ Hid ((b = true ∧ ruleP (Kd l k) = .error (Kd l k)) ∨ (b = false ∧ ruleP (Kd l k) = nameP (Kd l (k + 1)) ∧ k < n)))
  case first =>
    have HI1 := hid (HI.out 1 k W HR2.out.pst)
    cases hi : isS l k 1 with
    | false =>
      rw [hi] at HI1
      have HQ := hid (show ruleP (Kd l k) = .error (Kd l k) by
        rcases isS_not hi with h1 | ⟨t, h1, h2⟩
        · rw [Kd_none (List.getElem?_eq_none_iff.1 h1)]; rfl
        · rw [Kd_some h1]; exact if_neg (fun hh => h2 hh.1))
      go_big_quiet ((go_at_call 40; exact Calls.quiet_of ((HI.out 1 k _ (HR2.out.pst.drewN _)).mono fun e w' h => ⟨h.1.trans (by rw [hi]), h.2⟩)))
      go_wp2_with fail
      go_meet
      exact ⟨true, rfl, hid (HR2.out.drewN _), hid (.inl ⟨rfl, HQ.out⟩)⟩
    | true =>
      obtain ⟨t, ht, hkd⟩ := isS_yes hi
      have htl := Hsml.out t (List.mem_of_getElem? ht)
      obtain ⟨g, rfl, _, x0, x1, x2⟩ := HR2.out.pst.at ht
      have HT := hid ht
      have hk : k < n := by rw [← hlen.out]; exact (List.getElem?_eq_some_iff.1 ht).1
      have k1 : (k : Int) < (n : Int) := by omega
      by_cases hr : t.text = ruleW
      · have HQ := hid (show ruleP (Kd l k) = nameP (Kd l (k + 1)) by
          rw [Kd_some ht]; exact if_pos ⟨hkd, hr⟩)
        have t2 : ((txt t.text).toList == [114, 117, 108, 101]) = true := by rw [txt_list]; simpa [ruleW] using hr
        clear hr ht htl
        go_big_quiet ((go_at_call 40; exact Calls.quiet_of ((HI.out 1 k _ (HR2.out.pst.drewN _)).mono fun e w' h => ⟨h.1.trans (by rw [hi]), h.2⟩)))
        go_wp2_with fail
        go_meet
        exact ⟨false, rfl, hid (HR2.out.drewN _), hid (.inr ⟨rfl, HQ.out, hk⟩)⟩
      · have HQ := hid (show ruleP (Kd l k) = .error (Kd l k) by
          rw [Kd_some ht]; exact if_neg (fun hh => hr hh.2))
        have t2 : ((txt t.text).toList == [114, 117, 108, 101]) = false := by rw [txt_list]; simpa [ruleW] using hr
        clear hr ht htl
        go_big_quiet ((go_at_call 40; exact Calls.quiet_of ((HI.out 1 k _ (HR2.out.pst.drewN _)).mono fun e w' h => ⟨h.1.trans (by rw [hi]), h.2⟩)))
        go_wp2_with fail
        go_meet
        exact ⟨true, rfl, hid (HR2.out.drewN _), hid (.inl ⟨rfl, HQ.out⟩)⟩
  case rest =>
    obtain ⟨b, rfl, HR3, HC⟩ := hcut
    clear HR2 p0 p1 p2 pf
    rcases HC.out with ⟨rfl, hq⟩ | ⟨rfl, hq, hk⟩
    · have HQ := hid hq
      have HE := hid (HR3.out.bad hBP)
      have f2 := (pbox_cells HR3.out.pst.box).2.2.2 2
      have q2 := (pbox_cells HR3.out.pst.box).2.2.1
      clear hq HC HI
      go_wp2_with (first
        | (with_reducible refine load_rule HE.out.box rfl _ rfl (by go_simp) ?_)
        | (with_reducible refine store_rule (r := noRul) (y := noWSl) HE.out.res rfl _ _ rfl (by go_simp) (by go_simp) ?_))
      have hg := row_box HE.out.res noRul noWSl
      try simp only [Exit.inBlock, Exit.then]
      refine bodyPost_ret (results_cell_row (p := 2) (fn := Tryz.f15) rfl _ _ _ _ _ _ _ rfl hg Tryz.underlying42 rfl (by kernel_rfl)) rfl ?_
      exact rule_bad HE.out.but HE.out.pst HE.out.res HQ.out
    · obtain ⟨k1, hk1⟩ : ∃ k1, k1 = k + 1 := ⟨_, rfl⟩
      have HQ := hid hq
      rw [← hk1] at HQ
      have HR4 := hid (HR3.out.step hBP k1 (by omega) ((k : Int) + 1) (by omega))
      obtain ⟨p0, p1, p2, pf⟩ := pbox_cells HR3.out.pst.box
      have pf1 := pf 1
      have e0 : IntKind.i64.wrap ((k : Int) + 1) = (k : Int) + 1 := by rw [IntKind.wrap_i64]; omega
      have HI4 := hid (HR4.out.is 1)
      have hk1n : k1 ≤ n := by omega
      clear hq HC HI pf hk1
      cases hi : isS l k1 1 with
      | false =>
        rw [hi] at HI4
        have HQ2 := hid (show ruleP (Kd l k) = .error (Kd l k1) by
          rw [HQ.out]
          rcases isS_not hi with h1 | ⟨t, h1, h2⟩
          · rw [Kd_none (List.getElem?_eq_none_iff.1 h1)]; rfl
          · rw [Kd_some h1]; exact if_neg h2)
        go_wp2_with (first
          | (go_at_call 40; (with_reducible refine HI4.out.mono ?_); rintro e' w4 ⟨rfl, _, h4⟩; have HE := hid (h4.bad hBP); have f2 := (pbox_cells h4.pst.box).2.2.2 2; have q2 := (pbox_cells h4.pst.box).2.2.1; clear h4)
          | (with_reducible refine load_rule HE.out.box rfl _ rfl (by go_simp) ?_)
          | (with_reducible refine store_rule (r := noRul) (y := noWSl) HE.out.res rfl _ _ rfl (by go_simp) (by go_simp) ?_))
        have hg := row_box HE.out.res noRul noWSl
        try simp only [Exit.inBlock, Exit.then]
        refine bodyPost_ret (results_cell_row (p := 2) (fn := Tryz.f15) rfl _ _ _ _ _ _ _ rfl hg Tryz.underlying42 rfl (by kernel_rfl)) rfl ?_
        exact rule_bad HE.out.but HE.out.pst HE.out.res HQ2.out
      | true =>
        rw [hi] at HI4
        obtain ⟨t, ht, hkd⟩ := isS_yes hi
        have hk2 : k1 < n := by rw [← hlen.out]; exact (List.getElem?_eq_some_iff.1 ht).1
        have HT := hid ht
        have HQ2 := hid (show ruleP (Kd l k) = (match num1 (Kd l (k1 + 1)) with
            | .ok (v, ts') => goR (clausesA [] { noRul with name := t.text, pri := (v : Int) } ts')
            | .error e => .error e) by
          rw [HQ.out, Kd_some ht]
          refine (if_pos hkd).trans ?_
          cases num1 (Kd l (k1 + 1)) with
          | error e => rfl
          | ok x => rfl)
        have kl1 : (k1 : Int) < (n : Int) := by omega
        clear ht hkd
        go_upto_region 9 with (go_at_call 40; (with_reducible refine HI4.out.mono ?_); rintro e' w4 ⟨rfl, _, h4⟩; have HE := hid h4; have h5 := h4.on ((Below.refl w4.heap.size w4).drew); obtain ⟨d0, d1, d2, df⟩ := pbox_cells h5.pst.box; obtain ⟨g, rfl, _, x0, x1, x2⟩ := h5.pst.at HT.out; have b0 := rbox_cell h5.box 0 rfl; have bf := rbox_frozen h5.box 0; have H5 := hid (h5.name hBP t.text); have d1n := (pbox_cells h4.pst.box).2.1; have dfn := (pbox_cells h4.pst.box).2.2.2 1; have H6 := hid (((h4.name hBP t.text).step hBP (k1 + 1) (by omega) ((k1 : Int) + 1) (by omega)).on ((Below.refl _ _).drew)); have df1 := df 1; have e1 : IntKind.i64.wrap ((k1 : Int) + 1) = (k1 : Int) + 1 := (by rw [IntKind.wrap_i64]; omega); clear h4 h5 df)
        go_still_tail 12, (by kernel_rfl)
        change wpList _ _ _ _ _ w4.drew
        have HN7 := hid (pnum_any BP _ n c l (k1 + 1) _ H6.out.pst)
        go_upto_region 12 with (go_at_call 41; (with_reducible refine HN7.out.mono ?_); intro e' w7 hN; obtain ⟨x, k6, b6, rfl, hbut, hp6, hx6⟩ := num_cases hN; have h7 := H6.out.turn hBP hbut hp6; have H7 := hid (h7.prio hBP x); have HX6 := hid hx6; have b1 := rbox_cell h7.box 1 rfl; have bf1 := rbox_frozen h7.box 1; clear hN hbut hp6 hx6 h7)
        go_wp2_with fail
        go_loopw [4] (fun iv wr => ∃ (H : List (List UInt8)) (k' : Nat) (b : Bool) (r : Rul) (y : WSl), lenOf iv = H.length ∧ Hid (RLp BP (some ⟨g, 0, none⟩) n c l k w iv H k' b r y wr)) (fun iv _ => 20005 - lenOf iv)
        case atStart => exact ⟨[], k6, b6, _, _, rfl, hid (rlp_start H7.out HQ2.out HX6.out)⟩
        case round =>
          obtain ⟨H, k', b, r, y, hlv, HSt⟩ := hrel
          obtain ⟨AH, cH, hvH⟩ := own_form HSt.out.own
          subst hvH
          have hfl := HSt.out.few
          have hin' := HSt.out.st.pst.in_
          obtain ⟨q0, q1, q2, qf⟩ := pbox_cells HSt.out.st.pst.box
          have qf2 := qf 2
          clear qf p1 p2 pf1 d0 d1 d2 x0 x1 x2 b0 bf d1n dfn df1 e0 e1 HN7 H5 H6 H7 HX6 HE HI4 HR3 HR4 HQ HQ2 HT kl1
          cases b with
          | true =>
            have HE := hid (HSt.out.st.bad hBP)
            have HQ := hid (HSt.out.bad rfl)
            go_wp2_with (first
              | (with_reducible refine load_rule HE.out.box rfl _ rfl (by go_simp) ?_)
              | (with_reducible refine store_rule (r := r) (y := y) HE.out.res rfl _ _ rfl (by go_simp) (by go_simp) ?_))
            have hg := row_box HE.out.res r y
            try simp only [Exit.inBlock, Exit.then]
            refine bodyPost_ret (results_cell_row (p := 2) (fn := Tryz.f15) rfl _ _ _ _ _ _ _ rfl hg Tryz.underlying42 rfl (by kernel_rfl)) rfl ?_
            exact rule_bad HE.out.but HE.out.pst HE.out.res HQ.out
          | false =>
            obtain ⟨hOw, hR⟩ := HSt.out.good rfl
            have HOw0 := hid hOw
            have hfl2 : H.length ≤ k' := hfl
            have HRs := hid (show RStr wr wr.heap.size AH H.length H by
              obtain ⟨A9, c9, he, _, hr9⟩ := own_strs HSt.out.own rfl
              simp only [Value.slice.injEq] at he
              obtain ⟨rfl, _, rfl⟩ := he
              exact hr9)
            have HF := hid (fun (w' : World) (hr : RStr w' w'.heap.size AH H.length H) => show Calls Tryz.prog 42 #[.slice AH H.length cH, .string ⟨#[102, 114, 111, 109]⟩] w' fun e w'' => e = .returned (.bool (decide (wordL 11 ∈ H))) ∧ w' = w'' from has_any AH H.length cH H (wordL 11) w' hr (by omega))
            have HT2 := hid (fun (w' : World) (hr : RStr w' w'.heap.size AH H.length H) => show Calls Tryz.prog 42 #[.slice AH H.length cH, .string ⟨#[116, 111]⟩] w' fun e w'' => e = .returned (.bool (decide (wordL 12 ∈ H))) ∧ w' = w'' from has_any AH H.length cH H (wordL 12) w' hr (by omega))
            have HI1 := hid (HSt.out.st.is 1)
            clear hOw hfl
            cases hi : isS l k' 1 with
            | false =>
              rw [hi] at HI1
              obtain ⟨hok, hbad⟩ := rule_shut hR hi
              have Hok := hid hok
              have Hbad := hid hbad
              clear hok hbad hR
              cases h3 : isS l k' 3 with
              | false =>
                have HQ := hid (Hbad.out (fun hh => by rw [h3] at hh; cases hh.1))
                go_wp2_with (first
                  | (go_at_call 40; (with_reducible refine HI1.out.mono ?_); rintro e' w2 ⟨rfl, hb2, h2⟩; have HI3 := hid (h2.is 3); have HB2 := hid hb2; have HS2 := hid h2; obtain ⟨g0, g1, g2, gf⟩ := pbox_cells h2.pst.box; clear h2 hb2 gf)
                  | (go_at_call 40; (with_reducible refine HI3.out.mono ?_); rintro e' w3 ⟨rfl, hb3, h3⟩; (try rw [h3]); have HB3 := hid hb3; have HE := hid (h3.bad hBP); have f2 := (pbox_cells h3.pst.box).2.2.2 2; have q2' := (pbox_cells h3.pst.box).2.2.1; clear h3 hb3)
                  | (with_reducible refine load_rule HE.out.box rfl _ rfl (by go_simp) ?_)
                  | (with_reducible refine store_rule (r := r) (y := y) HE.out.res rfl _ _ rfl (by go_simp) (by go_simp) ?_))
                have hg := row_box HE.out.res r y
                try simp only [Exit.inBlock, Exit.then]
                refine bodyPost_ret (results_cell_row (p := 2) (fn := Tryz.f15) rfl _ _ _ _ _ _ _ rfl hg Tryz.underlying42 rfl (by kernel_rfl)) rfl ?_
                exact rule_bad HE.out.but HE.out.pst HE.out.res HQ.out
              | true =>
                obtain ⟨t3, ht3, _⟩ := isS_yes h3
                have hk3 : k' + 1 ≤ n := by rw [← hlen.out]; exact (List.getElem?_eq_some_iff.1 ht3).1
                have e1 : IntKind.i64.wrap ((k' : Int) + 1) = (k' : Int) + 1 := by rw [IntKind.wrap_i64]; omega
                clear ht3
                by_cases hf : wordL 11 ∈ H
                · rw [decide_eq_true hf] at HF
                  by_cases ht : wordL 12 ∈ H
                  · rw [decide_eq_true ht] at HT2
                    have HQ := hid (Hok.out h3 hf ht)
                    go_wp2_with (first
                      | (go_at_call 40; (with_reducible refine HI1.out.mono ?_); rintro e' w2 ⟨rfl, hb2, h2⟩; have HI3 := hid (h2.is 3); have HB2 := hid hb2; have HS2 := hid h2; obtain ⟨g0, g1, g2, gf⟩ := pbox_cells h2.pst.box; clear h2 hb2 gf)
                      | (go_at_call 40; (with_reducible refine HI3.out.mono ?_); rintro e' w3 ⟨rfl, hb3, h3⟩; (try rw [h3]); have HB3 := hid hb3; have HE := hid (h3.step hBP (k' + 1) hk3 ((k' : Int) + 1) (by omega)); have f1 := (pbox_cells h3.pst.box).2.2.2 1; have q1' := (pbox_cells h3.pst.box).2.1; have HB9 := hid h3.pst.box; have HOw := hid (HOw0.out.any fun ho => own_below (own_below ho HB2.out) hb3); clear h3 hb3)
                      | (go_at_call 42; (with_reducible refine (HF.out _ (HRs.out.on (HB2.out.trans (HB3.out.mono HB2.out.size)))).mono ?_); rintro _ _ ⟨rfl, rfl⟩)
                      | (go_at_call 42; (with_reducible refine (HT2.out _ (HRs.out.on (HB2.out.trans (HB3.out.mono HB2.out.size)))).mono ?_); rintro _ _ ⟨rfl, rfl⟩)
                      | (with_reducible refine load_rule HE.out.box rfl _ rfl (by go_simp) ?_)
                      | (with_reducible refine store_rule (r := r) (y := y) HE.out.res rfl _ _ rfl (by go_simp) (by go_simp) ?_))
                    have hg := row_box HE.out.res r y
                    try simp only [Exit.inBlock, Exit.then]
                    refine bodyPost_ret (results_cell_row (p := 2) (fn := Tryz.f15) rfl _ _ _ _ _ _ _ rfl hg Tryz.underlying42 rfl (by kernel_rfl)) rfl ?_
                    exact rule_ok HE.out.but HE.out.pst HE.out.res (HOw.out.any fun ho => own_but ho But.set HB9.out (by decide)) HQ.out
                  · rw [decide_eq_false ht] at HT2
                    have HQ := hid (Hbad.out (fun hh => ht hh.2.2))
                    go_wp2_with (first
                      | (go_at_call 40; (with_reducible refine HI1.out.mono ?_); rintro e' w2 ⟨rfl, hb2, h2⟩; have HI3 := hid (h2.is 3); have HB2 := hid hb2; have HS2 := hid h2; obtain ⟨g0, g1, g2, gf⟩ := pbox_cells h2.pst.box; clear h2 hb2 gf)
                      | (go_at_call 40; (with_reducible refine HI3.out.mono ?_); rintro e' w3 ⟨rfl, hb3, h3⟩; (try rw [h3]); have HB3 := hid hb3; have HE := hid (h3.bad hBP); have f2 := (pbox_cells h3.pst.box).2.2.2 2; have q2' := (pbox_cells h3.pst.box).2.2.1; clear h3 hb3)
                      | (go_at_call 42; (with_reducible refine (HF.out _ (HRs.out.on (HB2.out.trans (HB3.out.mono HB2.out.size)))).mono ?_); rintro _ _ ⟨rfl, rfl⟩)
                      | (go_at_call 42; (with_reducible refine (HT2.out _ (HRs.out.on (HB2.out.trans (HB3.out.mono HB2.out.size)))).mono ?_); rintro _ _ ⟨rfl, rfl⟩)
                      | (with_reducible refine load_rule HE.out.box rfl _ rfl (by go_simp) ?_)
                      | (with_reducible refine store_rule (r := r) (y := y) HE.out.res rfl _ _ rfl (by go_simp) (by go_simp) ?_))
                    have hg := row_box HE.out.res r y
                    try simp only [Exit.inBlock, Exit.then]
                    refine bodyPost_ret (results_cell_row (p := 2) (fn := Tryz.f15) rfl _ _ _ _ _ _ _ rfl hg Tryz.underlying42 rfl (by kernel_rfl)) rfl ?_
                    exact rule_bad HE.out.but HE.out.pst HE.out.res HQ.out
                · rw [decide_eq_false hf] at HF
                  have HQ := hid (Hbad.out (fun hh => hf hh.2.1))
                  go_wp2_with (first
                    | (go_at_call 40; (with_reducible refine HI1.out.mono ?_); rintro e' w2 ⟨rfl, hb2, h2⟩; have HI3 := hid (h2.is 3); have HB2 := hid hb2; have HS2 := hid h2; obtain ⟨g0, g1, g2, gf⟩ := pbox_cells h2.pst.box; clear h2 hb2 gf)
                    | (go_at_call 40; (with_reducible refine HI3.out.mono ?_); rintro e' w3 ⟨rfl, hb3, h3⟩; (try rw [h3]); have HB3 := hid hb3; have HE := hid (h3.bad hBP); have f2 := (pbox_cells h3.pst.box).2.2.2 2; have q2' := (pbox_cells h3.pst.box).2.2.1; clear h3 hb3)
                    | (go_at_call 42; (with_reducible refine (HF.out _ (HRs.out.on (HB2.out.trans (HB3.out.mono HB2.out.size)))).mono ?_); rintro _ _ ⟨rfl, rfl⟩)
                    | (go_at_call 42; (with_reducible refine (HT2.out _ (HRs.out.on (HB2.out.trans (HB3.out.mono HB2.out.size)))).mono ?_); rintro _ _ ⟨rfl, rfl⟩)
                    | (with_reducible refine load_rule HE.out.box rfl _ rfl (by go_simp) ?_)
                    | (with_reducible refine store_rule (r := r) (y := y) HE.out.res rfl _ _ rfl (by go_simp) (by go_simp) ?_))
                  have hg := row_box HE.out.res r y
                  try simp only [Exit.inBlock, Exit.then]
                  refine bodyPost_ret (results_cell_row (p := 2) (fn := Tryz.f15) rfl _ _ _ _ _ _ _ rfl hg Tryz.underlying42 rfl (by kernel_rfl)) rfl ?_
                  exact rule_bad HE.out.but HE.out.pst HE.out.res HQ.out
            | true =>
              rw [hi] at HI1
              obtain ⟨t, ht, hkd⟩ := isS_yes hi
              have hk3 : k' < n := by rw [← hlen.out]; exact (List.getElem?_eq_some_iff.1 ht).1
              have HT := hid ht
              have Hkd := hid hkd
              have kl : (k' : Int) < (n : Int) := by omega
              have HR := hid hR
              clear hR hi ht hkd
              go_upto_region 14 with (go_at_call 40; (with_reducible refine HI1.out.mono ?_); rintro e' w2 ⟨rfl, hb2, h2⟩; have HB2 := hid hb2; have HS2 := hid h2; obtain ⟨g0, g1, g2, gf⟩ := pbox_cells h2.pst.box; obtain ⟨g', hA', _, x0, x1, x2⟩ := h2.pst.at HT.out; injection hA' with hA'; injection hA' with hA' _ _; subst hA'; clear h2 hb2 gf)
              go_wp2_with fail
              go_big_quiet (fail)
              obtain ⟨w3, hw3⟩ : ∃ w3, w2.drewN nq = w3 := ⟨_, rfl⟩
              have HB3 := hid (show Below wr.heap.size wr w3 by rw [← hw3]; exact below_drewN HB2.out)
              have HS3 := hid (show RSt BP (some ⟨g, 0, none⟩) n c l w k' false r y w3 by rw [← hw3]; exact HS2.out.drewN _)
              simp only [hw3]
              clear hw3 g0 g1 g2 x0 x1 x2 q0 q1 q2 qf2 HI1
              obtain ⟨k4, hk4⟩ : ∃ k4, k4 = k' + 1 := ⟨_, rfl⟩
              have Hk4 := hid hk4
              have e1 : IntKind.i64.wrap ((k' : Int) + 1) = (k' : Int) + 1 := by rw [IntKind.wrap_i64]; omega
              have HS4 := hid (HS3.out.step hBP k4 (by omega) ((k' : Int) + 1) (by omega))
              have HO4 := hid (own_but (own_below HSt.out.own HB3.out) (But.set (j := 1) (u := .int .i64 ((k' : Int) + 1))) HS3.out.pst.box (by decide))
              have HOw4 := hid (HOw0.out.any fun ho => own_but (own_below ho HB3.out) (But.set (B := BP) (j := 1) (u := .int .i64 ((k' : Int) + 1))) HS3.out.pst.box (by decide))
              obtain ⟨p0, p1, p2, pf⟩ := pbox_cells HS3.out.pst.box
              have pf1 := pf 1
              obtain ⟨q0, q1, q2, qf⟩ := pbox_cells HS4.out.pst.box
              have qf1 := qf 1
              have e2 : IntKind.i64.wrap ((k4 : Int) - 1) = (k' : Int) := by rw [IntKind.wrap_i64]; omega
              have HR4 := hid (show RStr (w3.setCell ⟨BP, 1, none⟩ (.int .i64 ((k' : Int) + 1))) (w3.setCell ⟨BP, 1, none⟩ (.int .i64 ((k' : Int) + 1))).heap.size AH H.length H by
                obtain ⟨A9, c9, he, _, hr9⟩ := own_strs HO4.out rfl
                simp only [Value.slice.injEq] at he
                obtain ⟨rfl, _, rfl⟩ := he
                exact hr9)
              have HH := hid (has_any AH H.length cH H t.text _ HR4.out (by omega))
              have HE0 := hid ((HS4.out.step hBP k' (by omega) (k' : Int) rfl))
              have HE := hid (HE0.out.bad hBP)
              have z0 := (pbox_cells HE0.out.pst.box).2.2.2 2
              have z1 := (pbox_cells HE0.out.pst.box).2.2.1
              clear pf qf hk4
              by_cases hh : t.text ∈ H
              · rw [decide_eq_true hh] at HH
                have HQ := hid (show ruleP (Kd l k) = .error (Kd l k') by
                  rw [HR.out, Kd_some HT.out, clausesA_cons, if_pos (show (era t).1 = 1 from Hkd.out)]
                  exact congrArg goR (if_pos (Or.inl hh)))
                go_upto_region 19 with (go_at_call 42; (with_reducible refine HH.out.mono ?_); rintro _ _ ⟨rfl, rfl⟩)
                go_upto_region 20 with (first
                  | (with_reducible refine load_rule HE.out.box rfl _ rfl (by go_simp) ?_)
                  | (with_reducible refine store_rule (r := r) (y := y) HE.out.res rfl _ _ rfl (by go_simp) (by go_simp) ?_))
                go_wp2_with fail
                have hg := row_box HE.out.res r y
                try simp only [Exit.inBlock, Exit.then]
                refine bodyPost_ret (results_cell_row (p := 2) (fn := Tryz.f15) rfl _ _ _ _ _ _ _ rfl hg Tryz.underlying42 rfl (by kernel_rfl)) rfl ?_
                have z5 := rule_bad (r := r) (y := y) HE.out.but HE.out.pst HE.out.res HQ.out
                exact z5
              · rw [decide_eq_false hh] at HH
                by_cases hw : wordIx t.text = 13
                · have HC := hid (clause_no BP (w.heap.size + 1) t.text (w3.setCell ⟨BP, 1, none⟩ (.int .i64 ((k' : Int) + 1))) hw)
                  have HQ := hid (show ruleP (Kd l k) = .error (Kd l k') by
                    rw [HR.out, Kd_some HT.out, clausesA_cons, if_pos (show (era t).1 = 1 from Hkd.out)]
                    exact congrArg goR (if_pos (Or.inr hw)))
                  clear hw
                  go_upto_region 19 with (first
                    | (go_at_call 42; (with_reducible refine HH.out.mono ?_); rintro _ _ ⟨rfl, rfl⟩)
                    | (go_at_call 43; (with_reducible refine HC.out.mono ?_); rintro _ _ ⟨rfl, rfl⟩))
                  go_upto_region 20 with (first
                    | (with_reducible refine load_rule HE.out.box rfl _ rfl (by go_simp) ?_)
                    | (with_reducible refine store_rule (r := r) (y := y) HE.out.res rfl _ _ rfl (by go_simp) (by go_simp) ?_))
                  go_wp2_with fail
                  have hg := row_box HE.out.res r y
                  try simp only [Exit.inBlock, Exit.then]
                  refine bodyPost_ret (results_cell_row (p := 2) (fn := Tryz.f15) rfl _ _ _ _ _ _ _ rfl hg Tryz.underlying42 rfl (by kernel_rfl)) rfl ?_
                  have z5 := rule_bad (r := r) (y := y) HE.out.but HE.out.pst HE.out.res HQ.out
                  exact z5
                · have HC := hid (clause_any BP (w.heap.size + 1) _ n c l k4 r y t.text _ HS4.out.pst HS4.out.box HOw4.out (by omega) hw)
                  have Hw := hid hw
                  have Hh := hid hh
                  obtain ⟨i5, hi5, hz0, hz1, hz2⟩ := info_parts (show (Tryz.prog.info? 9).map (fun i => (i.zero, i.size, i.bytes)) = some (some (.string ⟨#[]⟩), 1, 16) by kernel_rfl)
                  have Ai := hid hi5; have Az0 := hid hz0; have Az1 := hid hz1; have Az2 := hid hz2
                  clear hw hh hi5 hz0 hz1 hz2 HE HE0 z0 z1
                  go_wp2_with (first
                    | (go_at_call 42; (with_reducible refine HH.out.mono ?_); rintro _ _ ⟨rfl, rfl⟩)
                    | (go_at_call 43; (with_reducible refine HC.out.mono ?_); intro e' w5 hc; obtain ⟨rfl, k6, b6, r6, y6, hcl⟩ := rcl_of hBP HS4.out HO4.out hc; have HCl := hid hcl; have hsz := hcl.st.but.size; clear hc hcl)
                    | (at_builtin; refine wpList_append_own _ rfl _ _ 69 rfl w.heap.size 9 i5 (.string ⟨#[]⟩) 1 16 Tryz.underlying69 Ai.out Az0.out Az1.out Az2.out rfl (by decide) _ _ _ rfl (HCl.out.own.alloc _) ⟨w5.heap.size, 0, none⟩ 1 1 [.string (txt t.text)] rfl rfl (new_row (by rfl)) (by simp [Value.oneCell']) (by unfold maxLen; omega) (by omega) (by simp; omega) ?_; intro v6 w6 hown6 hg6 _; obtain ⟨A6, c6, rfl⟩ := own_form hown6; have HNx := hid (RLp.put HSt.out Hk4.out hlen.out HT.out Hkd.out Hh.out Hw.out HCl.out hown6 hg6); clear hown6 hg6))
                  go_roundw
                  case rel => exact ⟨_, k6, b6, r6, y6, by simp [lenOf], HNx⟩
                  case measure => simp [lenOf] at hlv ⊢; omega
end Go.Proofs.YtcmkcloapenpnaaGreatDoor
