/- Merged: PrA PrB PrC PrD. -/
import Derived.Test.YtkemcgbedapkcaaG02
import Derived.Deep.RegionHeld3
import Derived.Deep.RegionWith
import Derived.Deep.DeepCutAuto
import Derived.OwnWalk
import Derived.Test.YtkemcgbedapkcaaG03
/- Cut out of PrA. -/
namespace Go.Proofs.Ytkemcgbedapkcaa
open Go.ChangeShapes Go.Deep Go.RowKit Go.WideShapes
set_option maxHeartbeats 12800000
set_option maxRecDepth 100000
/-- What a want says. -/
structure Wnt where
  frm : Int
  too : Int
  bnd : Int
  via : List Int
  nds : List Int
  lks : List Int
  cls : List Int
/-- Where its lists lie. -/
structure WSl where
  av : Option Addr
  nv : Nat
  cv : Nat
  an : Option Addr
  nn : Nat
  cn : Nat
  al : Option Addr
  nl : Nat
  cl : Nat
  ac : Option Addr
  nc : Nat
  cc : Nat
/-- A list of numbers as a call gets it. -/
structure LArg (w : World) (A : Option Addr) (n c : Nat) (l : List Int) : Prop where
  row : RInt w w.heap.size A n l
  cap : n ≤ c
  non : A = none → n = 0 ∧ c = 0
  max : n ≤ maxLen
  rng : ∀ x ∈ l, -9223372036854775808 ≤ x ∧ x ≤ 9223372036854775807
theorem LArg.on {w w' : World} {A : Option Addr} {n c : Nat} {l : List Int} (h : LArg w A n c l) (hb : Below w.heap.size w w') : LArg w' A n c l := ⟨(h.row.below hb).more hb.size, h.cap, h.non, h.max, h.rng⟩
structure WArg (w : World) (x : Wnt) (y : WSl) : Prop where
  via : LArg w y.av y.nv y.cv x.via
  nds : LArg w y.an y.nn y.cn x.nds
  lks : LArg w y.al y.nl y.cl x.lks
  cls : LArg w y.ac y.nc y.cc x.cls
  rng : -9223372036854775808 ≤ x.bnd ∧ x.bnd ≤ 9223372036854775807
theorem WArg.on {w w' : World} {x : Wnt} {y : WSl} (h : WArg w x y) (hb : Below w.heap.size w w') : WArg w' x y := ⟨h.via.on hb, h.nds.on hb, h.lks.on hb, h.cls.on hb, h.rng⟩
theorem array7 {cs : Array Value} (h : cs.size = 7) : ∃ a b c d e f g, cs = #[a, b, c, d, e, f, g] := by
  obtain ⟨l⟩ := cs
  match l, h with
  | [a, b, c, d, e, f, g], _ => exact ⟨a, b, c, d, e, f, g, rfl⟩
theorem open_larg {H : Type} {enc : TypeId × Value → H} {w : World} {k : Nat} {v : Value} {y : DataW H × List MemPlace}
    (h : DataW.trod enc Try.prog w 0 (fun _ => true) true k 40 [v] = some y) : ∃ (A : Option Addr) (n c : Nat) (l : List Int), v = .slice A n c ∧ LArg w A n c l := by
  have key : ∀ (A : Option Addr) (n c : Nat), v = .slice A n c → ∃ (A : Option Addr) (n c : Nat) (l : List Int), v = .slice A n c ∧ LArg w A n c l := by
    intro A n c hv
    subst hv
    obtain ⟨l, h1, h2, h3, h4, h5⟩ := open_nms (d := y.1) (p := y.2) ⟨k, h⟩
    exact ⟨A, n, c, l, rfl, h1, h5, h4, h3, h2⟩
  rcases open_slice Try.underlying40 h with ⟨h0, _⟩ | ⟨a, len, cap, _, _, _, _, h0, _⟩
  · simp only [List.cons.injEq, and_true] at h0
    exact key _ _ _ h0
  · simp only [List.cons.injEq, and_true] at h0
    exact key _ _ _ h0
section
variable {H : Type} {enc : TypeId × Value → H} {P : Program} {w : World} {base : Nat} {spare : Nat → Bool} {held : Bool}
theorem open_agg7 {r : Reach} {b0 : Nat} {t : TypeId} {f0 f1 f2 f3 f4 f5 f6 : Field} {v : Value} {d : DataW H} {p : List MemPlace} (hs : P.underlying t = some (.struct #[f0, f1, f2, f3, f4, f5, f6])) (hone : oneCellFields P #[f0, f1, f2, f3, f4, f5, f6] = true) (hC : P.cellsOf t = 7)
    (hv : Value.okWide P w r b0 t v) (h : DataW.Trod enc P w base spare held t v d p) :
    ∃ (v0 v1 v2 v3 v4 v5 v6 : Value) (n : Nat), v = .agg #[v0, v1, v2, v3, v4, v5, v6] ∧
      (∃ y, DataW.trod enc P w base spare held n f0.type [v0] = some y) ∧ (∃ y, DataW.trod enc P w base spare held n f1.type [v1] = some y) ∧ (∃ y, DataW.trod enc P w base spare held n f2.type [v2] = some y) ∧
      (∃ y, DataW.trod enc P w base spare held n f3.type [v3] = some y) ∧ (∃ y, DataW.trod enc P w base spare held n f4.type [v4] = some y) ∧ (∃ y, DataW.trod enc P w base spare held n f5.type [v5] = some y) ∧ (∃ y, DataW.trod enc P w base spare held n f6.type [v6] = some y) := by
  obtain ⟨cs, rfl, hsz⟩ := okWide_struct hs hv
  obtain ⟨c0, c1, c2, c3, c4, c5, c6, rfl⟩ := array7 (hsz.trans hC)
  obtain ⟨fuel, hf⟩ := h
  obtain ⟨xs, n, _, _, _, hxl, hx⟩ := DataW.trod_struct hs hf
  have hxl' : xs.length = 7 := hxl
  have g : ∀ (j : Nat) (f : Field), (#[f0, f1, f2, f3, f4, f5, f6] : Array Field)[j]? = some f → j < 7 → ∃ y, DataW.trod enc P w base spare held n f.type ((([c0, c1, c2, c3, c4, c5, c6] : List Value).drop j).take 1) = some y := by
    intro j f hj hj7
    obtain ⟨o, k⟩ := hone_of hone j f hj
    have h1 := hx j f hj
    rw [o, k] at h1
    exact ⟨xs[j]'(by omega), h1.trans (List.getElem?_eq_getElem (by omega))⟩
  exact ⟨c0, c1, c2, c3, c4, c5, c6, n, rfl, g 0 f0 rfl (by omega), g 1 f1 rfl (by omega), g 2 f2 rfl (by omega), g 3 f3 rfl (by omega), g 4 f4 rfl (by omega), g 5 f5 rfl (by omega), g 6 f6 rfl (by omega)⟩
end
theorem open_want {H : Type} {enc : TypeId × Value → H} {w : World} {r : Reach} {b0 : Nat} {v : Value} {d : DataW H} {p : List MemPlace} (hv : Value.okWide Try.prog w r b0 58 v)
    (h : DataW.Trod enc Try.prog w 0 (fun _ => true) true 58 v d p) : ∃ (x : Wnt) (y : WSl), v = .agg #[.int .i64 x.frm, .int .i64 x.too, .int .i64 x.bnd, .slice y.av y.nv y.cv, .slice y.an y.nn y.cn, .slice y.al y.nl y.cl, .slice y.ac y.nc y.cc] ∧ WArg w x y := by
  obtain ⟨v0, v1, v2, v3, v4, v5, v6, n, rfl, ⟨y0, g0⟩, ⟨y1, g1⟩, ⟨y2, g2⟩, ⟨y3, g3⟩, ⟨y4, g4⟩, ⟨y5, g5⟩, ⟨y6, g6⟩⟩ := open_agg7 Try.underlying58 (by kernel_rfl) (by kernel_rfl) hv h
  obtain ⟨a, e0, _, _⟩ := DataW.trod_int Try.underlying3 g0
  obtain ⟨b, e1, _, _⟩ := DataW.trod_int Try.underlying3 g1
  obtain ⟨c, e2, _, hc⟩ := DataW.trod_int Try.underlying3 g2
  obtain ⟨A3, n3, c3, l3, rfl, h3⟩ := open_larg g3
  obtain ⟨A4, n4, c4, l4, rfl, h4⟩ := open_larg g4
  obtain ⟨A5, n5, c5, l5, rfl, h5⟩ := open_larg g5
  obtain ⟨A6, n6, c6, l6, rfl, h6⟩ := open_larg g6
  simp only [List.cons.injEq, and_true] at e0 e1 e2
  subst e0 e1 e2
  exact ⟨⟨a, b, c, l3, l4, l5, l6⟩, ⟨A3, n3, c3, A4, n4, c4, A5, n5, c5, A6, n6, c6⟩, rfl, h3, h4, h5, h6, wf_i64 hc⟩
theorem has_any (A : Option Addr) (n c : Nat) (L : List Int) (v : Int) (w : World) (hr : RInt w w.heap.size A n L) (hn : n ≤ 1000000) : Calls Try.prog 71 #[.slice A n c, .int .i64 v] w fun e w' => e = .returned (.bool (decide (v ∈ L))) ∧ w = w' := by
  have HR := hid hr
  have hl := hr.1
  clear hr
  go_enter Try.func71, Try.ntmps71
  go_wp2_with fail
  go_loopw [5] (fun i wr => ∃ k : Nat, k ≤ n ∧ i = .int .i64 k ∧ wr = w ∧ Hid (v ∉ L.take k)) (fun i _ => n - (intOf i).toNat)
  case atStart => exact ⟨0, Nat.zero_le _, rfl, rfl, hid (by simp)⟩
  case round =>
    obtain ⟨k, hk, rfl, hww, HQ⟩ := hrel
    have hws := hww.symm
    subst hws
    clear hww
    by_cases hlt : k < n
    · obtain ⟨x, hx⟩ : ∃ x, L[k]? = some x := ⟨L[k]'(by omega), List.getElem?_eq_getElem _⟩
      obtain ⟨b, off, rfl, hb, hc⟩ := HR.out.2 (by omega)
      have c0 := hc k x hx
      have HM := hid (mem_take_succ (k := v) hx)
      have HL := hid (List.mem_of_getElem? hx)
      clear hc hx
      by_cases hxv : x = v
      · have u : (x == v) = true := by simpa using hxv
        have HV : Hid (decide (v ∈ L) = true) := by show _ = _; rw [← hxv]; exact decide_eq_true HL.out
        clear hxv
        go_wp2_with fail
        go_ret
        exact ⟨by rw [HV.out]; rfl, rfl⟩
      · have u : (x == v) = false := by simpa using hxv
        have HQ2 : Hid (v ∉ L.take (k + 1)) := fun h => (HM.out.1 h).elim HQ.out hxv
        clear hxv
        go_wp2_with fail
        go_roundw
        case rel => exact ⟨k + 1, by omega, by go_num, by first | rfl | trivial, HQ2.out⟩
        case measure => simp [intOf]; omega
    · obtain rfl : n = k := by omega
      have HV : Hid (decide (v ∈ L) = false) := by
        have := HQ.out
        rw [List.take_of_length_le (by omega)] at this
        exact decide_eq_false this
      go_wp2_with fail
      go_ret
      exact ⟨by rw [HV.out]; rfl, rfl⟩
end Go.Proofs.Ytkemcgbedapkcaa

/- waymarkref1.RightWant. -/
namespace Go.Proofs.Ytkemcgbedapkcaa
open Go.RowKit
set_option maxHeartbeats 6400000
set_option maxRecDepth 100000
def nodeB (nd v : Int) : Bool := decide (0 ≤ v) && decide (v < nd)
def colB (c : Int) : Bool := decide (0 ≤ c) && decide (c ≤ 62)
def badB (nd : Int) (x : Wnt) : Bool := !nodeB nd x.frm || !nodeB nd x.too || x.via.any (fun v => !nodeB nd v) || x.nds.any (fun v => !nodeB nd v)
/-- What Right answers. -/
def rightS (nd : Int) (l : List Lnk) (x : Wnt) : Int :=
  if (checkS nd l).2 ≠ 0 then (checkS nd l).2 else if badB nd x = true then 4 else if x.lks.any (fun i => !nodeB (l.length : Int) i) = true then 5 else if x.cls.any (fun c => !colB c) = true then 1 else if x.bnd < 0 then 1 else if 4 < x.via.length then 6 else 0
/-- Two boxes: a graph's and a want's. -/
def Held2 (w : World) (nd : Int) (A : Option Addr) (n c : Nat) (x : Wnt) (y : WSl) (w' : World) : Prop :=
  Below w.heap.size w w' ∧ w'.heap[w.heap.size]? = some (.cells #[.int .i64 nd, .slice A n c] 24 (0, 0)) ∧
    w'.heap[w.heap.size + 1]? = some (.cells #[.int .i64 x.frm, .int .i64 x.too, .int .i64 x.bnd, .slice y.av y.nv y.cv, .slice y.an y.nn y.cn, .slice y.al y.nl y.cl, .slice y.ac y.nc y.cc] 58 (0, 0))
theorem Held2.start (w : World) (nd : Int) (A : Option Addr) (n c : Nat) (x : Wnt) (y : WSl) :
    Held2 w nd A n c x y ((w.alloc (.cells #[.int .i64 nd, .slice A n c] 24)).alloc (.cells #[.int .i64 x.frm, .int .i64 x.too, .int .i64 x.bnd, .slice y.av y.nv y.cv, .slice y.an y.nn y.cn, .slice y.al y.nl y.cl, .slice y.ac y.nc y.cc] 58)) := by
  have b1 : Below w.heap.size w (w.alloc (.cells #[.int .i64 nd, .slice A n c] 24)) := Below.alloc (Below.refl _ _) (Nat.le_refl _) _
  refine ⟨b1.alloc b1.size _, box_below (heap_alloc_new w _) (Below.alloc (Below.refl (w.heap.size + 1) _) (by simp) _) (by omega), ?_⟩
  have := heap_alloc_new (w.alloc (.cells #[.int .i64 nd, .slice A n c] 24)) (.cells #[.int .i64 x.frm, .int .i64 x.too, .int .i64 x.bnd, .slice y.av y.nv y.cv, .slice y.an y.nn y.cn, .slice y.al y.nl y.cl, .slice y.ac y.nc y.cc] 58)
  simpa using this
theorem blk_lt {w : World} {b : Nat} {o : Obj} (h : w.heap[b]? = some o) : b < w.heap.size := by
  rcases Nat.lt_or_ge b w.heap.size with h1 | h1
  · exact h1
  · rw [Array.getElem?_eq_none h1] at h; cases h
theorem Held2.lt {w w' : World} {nd : Int} {A : Option Addr} {n c : Nat} {x : Wnt} {y : WSl} (h : Held2 w nd A n c x y w') : w.heap.size + 1 < w'.heap.size := blk_lt h.2.2
theorem Held2.next {w w' w'' : World} {nd : Int} {A : Option Addr} {n c : Nat} {x : Wnt} {y : WSl} (h : Held2 w nd A n c x y w') (hb : Below w'.heap.size w' w'') : Held2 w nd A n c x y w'' :=
  ⟨h.1.trans (hb.mono h.1.size), box_below h.2.1 hb (by have := h.lt; omega), box_below h.2.2 hb h.lt⟩
theorem Held2.drewN {w w' : World} {nd : Int} {A : Option Addr} {n c : Nat} {x : Wnt} {y : WSl} (h : Held2 w nd A n c x y w') (k : Nat) : Held2 w nd A n c x y (w'.drewN k) := ⟨below_drewN h.1, h.2⟩
theorem Held2.drew {w w' : World} {nd : Int} {A : Option Addr} {n c : Nat} {x : Wnt} {y : WSl} (h : Held2 w nd A n c x y w') : Held2 w nd A n c x y w'.drew := ⟨h.1.drew, h.2⟩
theorem Held2.set {w w' : World} {nd : Int} {A : Option Addr} {n c G j : Nat} {x : Wnt} {y : WSl} {u : Value} (h : Held2 w nd A n c x y w') (hG : w.heap.size + 1 < G) : Held2 w nd A n c x y (w'.setCell ⟨G, j, none⟩ u) :=
  ⟨h.1.setCell (by show _ ≤ G; omega) u, (heap_setCell_other _ _ _ _ (by show _ ≠ G; omega)).trans h.2.1, (heap_setCell_other _ _ _ _ (by show _ ≠ G; omega)).trans h.2.2⟩
theorem Held2.calls {w : World} {nd : Int} {A : Option Addr} {n c : Nat} {x : Wnt} {y : WSl} {f : Nat} {args : Array Value} {R : Ending → Prop} {w' : World} (h : Held2 w nd A n c x y w') (hc : Calls Try.prog f args w' fun e w'' => R e ∧ Below w'.heap.size w' w'') :
    Calls Try.prog f args w' fun e w'' => R e ∧ Held2 w nd A n c x y w'' := hc.mono fun _ _ ⟨h1, h2⟩ => ⟨h1, h.next h2⟩
theorem Held2.g {w w' : World} {nd : Int} {A : Option Addr} {n c : Nat} {x : Wnt} {y : WSl} (h : Held2 w nd A n c x y w') : w'.cell? ⟨w.heap.size, 0, none⟩ = some (.int .i64 nd) ∧ w'.cell? ⟨w.heap.size, 1, none⟩ = some (.slice A n c) :=
  ⟨(box_cells h.2.1).1, (box_cells h.2.1).2.1⟩
theorem Held2.v {w w' : World} {nd : Int} {A : Option Addr} {n c : Nat} {x : Wnt} {y : WSl} (h : Held2 w nd A n c x y w') :
    w'.cell? ⟨w.heap.size + 1, 0, none⟩ = some (.int .i64 x.frm) ∧ w'.cell? ⟨w.heap.size + 1, 1, none⟩ = some (.int .i64 x.too) ∧ w'.cell? ⟨w.heap.size + 1, 2, none⟩ = some (.int .i64 x.bnd) ∧ w'.cell? ⟨w.heap.size + 1, 3, none⟩ = some (.slice y.av y.nv y.cv) ∧
    w'.cell? ⟨w.heap.size + 1, 4, none⟩ = some (.slice y.an y.nn y.cn) ∧ w'.cell? ⟨w.heap.size + 1, 5, none⟩ = some (.slice y.al y.nl y.cl) ∧ w'.cell? ⟨w.heap.size + 1, 6, none⟩ = some (.slice y.ac y.nc y.cc) := by
  refine ⟨?_, ?_, ?_, ?_, ?_, ?_, ?_⟩ <;> (rw [cell_of_row _ _ _ _ _ _ h.2.2]; rfl)
theorem node_is (nd : Int) (A : Option Addr) (n c : Nat) (v : Int) (w : World) : Calls Try.prog 23 #[.agg #[.int .i64 nd, .slice A n c], .int .i64 v] w fun e w' => e = .returned (.bool (nodeB nd v)) ∧ Below w.heap.size w w' := node_any nd A n c v w
theorem any_take_succ {L : List Int} {k : Nat} {x : Int} (p : Int → Bool) (h : L[k]? = some x) : (L.take (k + 1)).any p = ((L.take k).any p || p x) := by
  obtain ⟨hk, hx⟩ := List.getElem?_eq_some_iff.1 h
  rw [List.take_succ_eq_append_getElem hk, List.any_append, hx]
  simp
theorem right_bad (nd : Int) (A : Option Addr) (n c : Nat) (l : List Lnk) (x : Wnt) (y : WSl) (w : World) (hr : RLnk w w.heap.size A n l) (h : (checkS nd l).2 ≠ 0) :
    Calls Try.prog 52 #[.agg #[.int .i64 nd, .slice A n c], .agg #[.int .i64 x.frm, .int .i64 x.too, .int .i64 x.bnd, .slice y.av y.nv y.cv, .slice y.an y.nn y.cn, .slice y.al y.nl y.cl, .slice y.ac y.nc y.cc]] w fun e w' => e = .returned (.int .i64 (rightS nd l x)) ∧ Below w.heap.size w w' := by
  have Q : rightS nd l x = (checkS nd l).2 := by unfold rightS; rw [if_pos h]
  rw [Q]
  have hS := Held2.start w nd A n c x y
  have HK := hid (fun (w' : World) (h : Held2 w nd A n c x y w') => h.calls (refCheck_any nd A n c l w' ((hr.below h.1).more h.1.size)))
  obtain ⟨k1, hk1⟩ : ∃ k1, (checkS nd l).1 = k1 := ⟨_, rfl⟩
  obtain ⟨k2, hk2⟩ : ∃ k2, (checkS nd l).2 = k2 := ⟨_, rfl⟩
  rw [hk1, hk2] at HK
  rw [hk2]
  have t1 : (k2 != 0) = true := by rw [← hk2]; simpa using h
  obtain ⟨g0, g1⟩ := hS.g
  clear hr h hk1 hk2 Q
  go_enter Try.func52, Try.ntmps52
  go_wp2_with (go_at_call 22; (with_reducible refine (HK.out _ hS).mono ?_); rintro e' w2 ⟨rfl, h2⟩)
  go_ret
  exact ⟨rfl, h2.1⟩
theorem rightS_4 {nd : Int} {l : List Lnk} {x : Wnt} (h : (checkS nd l).2 = 0) (hb : badB nd x = true) : rightS nd l x = 4 := by
  unfold rightS; rw [if_neg (fun hh => hh h), if_pos hb]
theorem rightS_5 {nd : Int} {l : List Lnk} {x : Wnt} {n : Nat} (h : (checkS nd l).2 = 0) (hb : badB nd x = false) (hl : l.length = n) (h5 : x.lks.any (fun i => !nodeB (n : Int) i) = true) : rightS nd l x = 5 := by
  unfold rightS; rw [if_neg (fun hh => hh h), if_neg (by rw [hb]; decide), hl, if_pos h5]
theorem rightS_e {nd : Int} {l : List Lnk} {x : Wnt} {n : Nat} (h : (checkS nd l).2 = 0) (hb : badB nd x = false) (hl : l.length = n) (h5 : x.lks.any (fun i => !nodeB (n : Int) i) = false) :
    rightS nd l x = if x.cls.any (fun c => !colB c) = true then 1 else if x.bnd < 0 then 1 else if 4 < x.via.length then 6 else 0 := by
  unfold rightS; rw [if_neg (fun hh => hh h), if_neg (by rw [hb]; decide), hl, if_neg (by rw [h5]; decide)]
theorem any_at {L : List Int} {k : Nat} {x : Int} {p : Int → Bool} (h : L[k]? = some x) (hp : p x = true) : L.any p = true := List.any_eq_true.2 ⟨x, List.mem_of_getElem? h, hp⟩
theorem right_in (nd : Int) (A : Option Addr) (n c : Nat) (l : List Lnk) (x : Wnt) (y : WSl) (w : World) (hr : RLnk w w.heap.size A n l) (hw : WArg w x y) (h : (checkS nd l).2 = 0) (hv1 : y.nv ≤ 1000) (hv2 : y.nn ≤ 1000) (hv3 : y.nl ≤ 1000) (hv4 : y.nc ≤ 1000) :
    Calls Try.prog 52 #[.agg #[.int .i64 nd, .slice A n c], .agg #[.int .i64 x.frm, .int .i64 x.too, .int .i64 x.bnd, .slice y.av y.nv y.cv, .slice y.an y.nn y.cn, .slice y.al y.nl y.cl, .slice y.ac y.nc y.cc]] w fun e w' => e = .returned (.int .i64 (rightS nd l x)) ∧ Below w.heap.size w w' := by
  have hS := Held2.start w nd A n c x y
  have hl := hr.1
  have HK := hid (fun (w' : World) (h : Held2 w nd A n c x y w') => h.calls (refCheck_any nd A n c l w' ((hr.below h.1).more h.1.size)))
  have HN := hid (fun (v : Int) (w' : World) (h : Held2 w nd A n c x y w') => h.calls (node_is nd A n c v w'))
  obtain ⟨k1, hk1⟩ : ∃ k1, (checkS nd l).1 = k1 := ⟨_, rfl⟩
  have Hck := hid h
  rw [hk1, h] at HK
  have t0 : ((0 : Int) != 0) = false := by decide
  obtain ⟨g0, g1⟩ := hS.g
  have HL1 := hid hw.via.row.1
  have HL2 := hid hw.nds.row.1
  have HL3 := hid hw.lks.row.1
  have HL4 := hid hw.cls.row.1
  have HW1 := hid hw.via.row
  have HW2 := hid hw.nds.row
  have HW3 := hid hw.lks.row
  have HW4 := hid hw.cls.row
  obtain ⟨f1, hf1⟩ : ∃ f1, nodeB nd x.frm = f1 := ⟨_, rfl⟩
  obtain ⟨f2, hf2⟩ : ∃ f2, nodeB nd x.too = f2 := ⟨_, rfl⟩
  have HNf := hid (fun (w' : World) (h : Held2 w nd A n c x y w') => HN.out x.frm w' h)
  have HNt := hid (fun (w' : World) (h : Held2 w nd A n c x y w') => HN.out x.too w' h)
  rw [hf1] at HNf
  rw [hf2] at HNt
  have HQ0 : Hid (badB nd x = ((!f1 || !f2) || x.via.any (fun v => !nodeB nd v) || x.nds.any (fun v => !nodeB nd v))) := by
    show _ = _
    unfold badB; rw [hf1, hf2]
  clear hr hw h hk1 hf1 hf2
  go_enter Try.func52, Try.ntmps52
  go_upto_region 4 with (go_at_call 22; (with_reducible refine (HK.out _ hS).mono ?_); rintro e' w2 ⟨rfl, h2⟩)
  go_cut [7] (fun s wx => s = .bool (!f1 || !f2) ∧ Hid (Held2 w nd A n c x y wx))
  case first =>
    obtain ⟨p0, p1⟩ := h2.g
    obtain ⟨p2, p3, p4, p5, p6, p7, p8⟩ := h2.v
    cases f1 with
    | false =>
      go_wp2_with (go_at_call 23; (with_reducible refine (HNf.out _ h2).mono ?_); rintro e' w3 ⟨rfl, h3⟩)
      go_meet
      exact ⟨rfl, h3⟩
    | true =>
      go_wp2_with (first
        | (go_at_call 23; (with_reducible refine (HNf.out _ h2).mono ?_); rintro e' w3 ⟨rfl, h3⟩; obtain ⟨q0, q1⟩ := h3.g; obtain ⟨q2, q3, q4, q5, q6, q7, q8⟩ := h3.v)
        | (go_at_call 23; (with_reducible refine (HNt.out _ h3).mono ?_); rintro e' w4 ⟨rfl, h4⟩))
      go_meet
      exact ⟨by simp, h4⟩
  case rest =>
    obtain ⟨rfl, HH1⟩ := hcut
    clear g0 g1
    obtain ⟨b0, hb0⟩ : ∃ b0, (!f1 || !f2) = b0 := ⟨_, rfl⟩
    rw [hb0] at HQ0
    simp only [hb0]
    clear hb0
    go_wp2_with fail
    go_loopw [7, 8] (fun s i wr => ∃ (k : Nat) (b : Bool), k ≤ y.nv ∧ i = .int .i64 k ∧ s = .bool b ∧ Hid (b = (b0 || (x.via.take k).any (fun v => !nodeB nd v))) ∧ Hid (Held2 w nd A n c x y wr)) (fun _ i _ => y.nv - (intOf i).toNat)
    case atStart => exact ⟨0, b0, Nat.zero_le _, rfl, rfl, hid (by simp), HH1.out⟩
    case round =>
    obtain ⟨k, b1, hk, rfl, rfl, HQ1, HHw⟩ := hrel
    obtain ⟨p0, p1⟩ := HHw.out.g
    obtain ⟨p2, p3, p4, p5, p6, p7, p8⟩ := HHw.out.v
    by_cases hkn : k < y.nv
    · obtain ⟨v, hv⟩ : ∃ v, x.via[k]? = some v := ⟨x.via[k]'(by rw [HL1.out]; exact hkn), List.getElem?_eq_getElem _⟩
      have HX := hid (any_take_succ (fun v => !nodeB nd v) hv)
      obtain ⟨bb, ob, hA, hbb, hcb⟩ := HW1.out.2 (by omega)
      have cv0 := hid (hcb k v hv)
      have ce := (HHw.out.1.cell (p := ⟨bb, ob + k, none⟩) hbb).trans cv0.out
      have HHd := HHw.out.drew
      have HNv := hid (HN.out v _ HHd)
      have HS4 := hid (fun (w' : World) (h' : Held2 w nd A n c x y w') => (⟨h'.g.1, h'.g.2, by have := h'.v.2.2.2.1; rw [hA] at this; exact this, (h'.1.cell (p := ⟨bb, ob + k, none⟩) hbb).trans cv0.out⟩ : w'.cell? ⟨w.heap.size, 0, none⟩ = some (.int .i64 nd) ∧ w'.cell? ⟨w.heap.size, 1, none⟩ = some (.slice A n c) ∧ w'.cell? ⟨w.heap.size + 1, 3, none⟩ = some (.slice (some ⟨bb, ob, none⟩) y.nv y.cv) ∧ w'.cell? ⟨bb, ob + k, none⟩ = some (.int .i64 v)))
      rw [hA] at p5
      clear hcb hv hA
      cases b1 with
      | true =>
        have HQ2 : Hid (true = (b0 || (x.via.take (k + 1)).any (fun v => !nodeB nd v))) := by
          show _ = _
          rw [HX.out, ← Bool.or_assoc, ← HQ1.out]; rfl
        go_wp2_with (go_big_quiet (fail))
        go_roundw
        case rel => exact ⟨k + 1, true, by omega, by go_num, rfl, HQ2.out, HHw.out.drewN nq⟩
        case measure => simp [intOf]; omega
      | false =>
        go_wp2_with fail
        go_region_held3 (fun w' => w'.cell? ⟨w.heap.size, 0, none⟩ = some (.int .i64 nd) ∧ w'.cell? ⟨w.heap.size, 1, none⟩ = some (.slice A n c) ∧ w'.cell? ⟨w.heap.size + 1, 3, none⟩ = some (.slice (some ⟨bb, ob, none⟩) y.nv y.cv) ∧ w'.cell? ⟨bb, ob + k, none⟩ = some (.int .i64 v))
          (first
            | go_keep
            | exact s4)
          (first
            | (go_at_call 23; (with_reducible refine HNv.out.mono ?_); rintro e' w4 ⟨rfl, h4⟩; have s4 := HS4.out _ h4))
        go_wp2_with fail
        go_roundw
        case rel => exact ⟨k + 1, _, by omega, by go_num, rfl, hid (by rw [HX.out, ← Bool.or_assoc, ← HQ1.out]; rfl), h4⟩
        case measure => simp [intOf]; omega
    have hkk : k = y.nv := by omega
    have HB1 : Hid (b1 = (b0 || x.via.any (fun v => !nodeB nd v))) := by
      show _ = _
      rw [HQ1.out, List.take_of_length_le (by rw [HL1.out]; omega)]
    have HH2 := HHw
    subst hkk
    clear hkn
    go_wp2_with fail
    go_loopw [7, 9] (fun s i wr => ∃ (k : Nat) (b : Bool), k ≤ y.nn ∧ i = .int .i64 k ∧ s = .bool b ∧ Hid (b = (b1 || (x.nds.take k).any (fun v => !nodeB nd v))) ∧ Hid (Held2 w nd A n c x y wr)) (fun _ i _ => y.nn - (intOf i).toNat)
    case atStart => exact ⟨0, b1, Nat.zero_le _, rfl, rfl, hid (by simp), HH2.out⟩
    case round =>
    clear p0 p1 p2 p3 p4 p5 p6 p7 p8
    obtain ⟨k, b, hk, rfl, rfl, HQ3, HHw⟩ := hrel
    obtain ⟨p0, p1⟩ := HHw.out.g
    obtain ⟨p2, p3, p4, p5, p6, p7, p8⟩ := HHw.out.v
    by_cases hkn : k < y.nn
    · obtain ⟨v, hv⟩ : ∃ v, x.nds[k]? = some v := ⟨x.nds[k]'(by rw [HL2.out]; exact hkn), List.getElem?_eq_getElem _⟩
      have HX := hid (any_take_succ (fun v => !nodeB nd v) hv)
      obtain ⟨bb, ob, hA, hbb, hcb⟩ := HW2.out.2 (by omega)
      have cv0 := hid (hcb k v hv)
      have ce := (HHw.out.1.cell (p := ⟨bb, ob + k, none⟩) hbb).trans cv0.out
      have HHd := HHw.out.drew
      have HNv := hid (HN.out v _ HHd)
      have HS4 := hid (fun (w' : World) (h' : Held2 w nd A n c x y w') => (⟨h'.g.1, h'.g.2, by have := h'.v.2.2.2.2.1; rw [hA] at this; exact this, (h'.1.cell (p := ⟨bb, ob + k, none⟩) hbb).trans cv0.out⟩ : w'.cell? ⟨w.heap.size, 0, none⟩ = some (.int .i64 nd) ∧ w'.cell? ⟨w.heap.size, 1, none⟩ = some (.slice A n c) ∧ w'.cell? ⟨w.heap.size + 1, 4, none⟩ = some (.slice (some ⟨bb, ob, none⟩) y.nn y.cn) ∧ w'.cell? ⟨bb, ob + k, none⟩ = some (.int .i64 v)))
      rw [hA] at p6
      clear hcb hv hA
      cases b with
      | true =>
        have HQ2 : Hid (true = (b1 || (x.nds.take (k + 1)).any (fun v => !nodeB nd v))) := by
          show _ = _
          rw [HX.out, ← Bool.or_assoc, ← HQ3.out]; rfl
        go_wp2_with (go_big_quiet (fail))
        go_roundw
        case rel => exact ⟨k + 1, true, by omega, by go_num, rfl, HQ2.out, HHw.out.drewN nq⟩
        case measure => simp [intOf]; omega
      | false =>
        go_wp2_with fail
        go_region_held3 (fun w' => w'.cell? ⟨w.heap.size, 0, none⟩ = some (.int .i64 nd) ∧ w'.cell? ⟨w.heap.size, 1, none⟩ = some (.slice A n c) ∧ w'.cell? ⟨w.heap.size + 1, 4, none⟩ = some (.slice (some ⟨bb, ob, none⟩) y.nn y.cn) ∧ w'.cell? ⟨bb, ob + k, none⟩ = some (.int .i64 v))
          (first
            | go_keep
            | exact s4)
          (first
            | (go_at_call 23; (with_reducible refine HNv.out.mono ?_); rintro e' w4 ⟨rfl, h4⟩; have s4 := HS4.out _ h4))
        go_wp2_with fail
        go_roundw
        case rel => exact ⟨k + 1, _, by omega, by go_num, rfl, hid (by rw [HX.out, ← Bool.or_assoc, ← HQ3.out]; rfl), h4⟩
        case measure => simp [intOf]; omega
    have hkk : k = y.nn := by omega
    have HB2 : Hid (b = (b1 || x.nds.any (fun v => !nodeB nd v))) := by
      show _ = _
      rw [HQ3.out, List.take_of_length_le (by rw [HL2.out]; omega)]
    have HH3 := HHw
    subst hkk
    have HBB : Hid (badB nd x = b) := by
      show _ = _
      rw [HQ0.out, HB2.out, HB1.out]
    clear hkn
    cases b with
    | true =>
      have HR := hid (rightS_4 Hck.out HBB.out)
      go_wp2_with fail
      go_ret
      exact ⟨by rw [HR.out]; rfl, HH3.out.1⟩
    | false =>
      go_wp2_with fail
      go_loopw [10] (fun i wr => ∃ k : Nat, k ≤ y.nl ∧ i = .int .i64 k ∧ Hid ((x.lks.take k).any (fun i => !nodeB (n : Int) i) = false) ∧ Hid (Held2 w nd A n c x y wr)) (fun i _ => y.nl - (intOf i).toNat)
      case atStart => exact ⟨0, Nat.zero_le _, rfl, hid (by simp), HH3.out⟩
      case round =>
      clear p0 p1 p2 p3 p4 p5 p6 p7 p8
      obtain ⟨k, hk, rfl, HQ5, HHw5⟩ := hrel
      obtain ⟨p0, p1⟩ := HHw5.out.g
      obtain ⟨p2, p3, p4, p5, p6, p7, p8⟩ := HHw5.out.v
      by_cases hkn : k < y.nl
      · obtain ⟨v, hv⟩ : ∃ v, x.lks[k]? = some v := ⟨x.lks[k]'(by rw [HL3.out]; exact hkn), List.getElem?_eq_getElem _⟩
        have HX := hid (any_take_succ (fun i => !nodeB (n : Int) i) hv)
        have HAt := hid (fun h => any_at (p := fun i => !nodeB (n : Int) i) hv h)
        obtain ⟨bb, ob, hA, hbb, hcb⟩ := HW3.out.2 (by omega)
        have ce := (HHw5.out.1.cell (p := ⟨bb, ob + k, none⟩) hbb).trans (hcb k v hv)
        rw [hA] at p7
        clear hcb hv
        by_cases c1 : v < 0
        · have u1 : decide (v < 0) = true := by simpa using c1
          have HR := hid (rightS_5 Hck.out HBB.out hl (HAt.out (by simp [nodeB]; omega)))
          clear c1
          go_wp2_with (go_big_quiet (fail))
          go_ret
          exact ⟨by rw [HR.out]; rfl, (HHw5.out.drewN nq).1⟩
        · have u1 : decide (v < 0) = false := by simpa using c1
          by_cases c2 : (n : Int) ≤ v
          · have u2 : decide ((n : Int) ≤ v) = true := by simpa using c2
            have HR := hid (rightS_5 Hck.out HBB.out hl (HAt.out (by simp [nodeB]; omega)))
            clear c1 c2
            go_wp2_with (go_big_quiet (fail))
            go_ret
            exact ⟨by rw [HR.out]; rfl, (HHw5.out.drewN nq).1⟩
          · have u2 : decide ((n : Int) ≤ v) = false := by simpa using c2
            have HQ6 : Hid ((x.lks.take (k + 1)).any (fun i => !nodeB (n : Int) i) = false) := by
              show _ = _
              rw [HX.out, HQ5.out]
              simp [nodeB]; omega
            clear c1 c2
            go_wp2_with (go_big_quiet (fail))
            go_roundw
            case rel => exact ⟨k + 1, by omega, by go_num, HQ6.out, HHw5.out.drewN nq⟩
            case measure => simp [intOf]; omega
      have hkk : k = y.nl := by omega
      have H5 : Hid (x.lks.any (fun i => !nodeB (n : Int) i) = false) := by
        show _ = _
        rw [← HQ5.out, List.take_of_length_le (by rw [HL3.out]; omega)]
      have HE := hid (rightS_e Hck.out HBB.out hl H5.out)
      subst hkk
      clear hkn
      go_wp2_with fail
      go_loopw [11] (fun i wr => ∃ k : Nat, k ≤ y.nc ∧ i = .int .i64 k ∧ Hid ((x.cls.take k).any (fun c => !colB c) = false) ∧ Hid (Held2 w nd A n c x y wr)) (fun i _ => y.nc - (intOf i).toNat)
      case atStart => exact ⟨0, Nat.zero_le _, rfl, hid (by simp), HHw5.out⟩
      case round =>
      clear p0 p1 p2 p3 p4 p5 p6 p7 p8
      obtain ⟨k, hk, rfl, HQ7, HHw7⟩ := hrel
      obtain ⟨p0, p1⟩ := HHw7.out.g
      obtain ⟨p2, p3, p4, p5, p6, p7, p8⟩ := HHw7.out.v
      by_cases hkn : k < y.nc
      · obtain ⟨v, hv⟩ : ∃ v, x.cls[k]? = some v := ⟨x.cls[k]'(by rw [HL4.out]; exact hkn), List.getElem?_eq_getElem _⟩
        have HX := hid (any_take_succ (fun c => !colB c) hv)
        have HAt := hid (fun h => any_at (p := fun c => !colB c) hv h)
        obtain ⟨bb, ob, hA, hbb, hcb⟩ := HW4.out.2 (by omega)
        have ce := (HHw7.out.1.cell (p := ⟨bb, ob + k, none⟩) hbb).trans (hcb k v hv)
        rw [hA] at p8
        clear hcb hv
        by_cases c1 : v < 0
        · have u1 : decide (v < 0) = true := by simpa using c1
          have HR := hid (HE.out.trans (if_pos (HAt.out (by simp [colB]; omega))))
          clear c1
          go_wp2_with fail
          go_ret
          exact ⟨by rw [HR.out]; rfl, HHw7.out.1⟩
        · have u1 : decide (v < 0) = false := by simpa using c1
          by_cases c2 : 62 < v
          · have u2 : decide (62 < v) = true := by simpa using c2
            have HR := hid (HE.out.trans (if_pos (HAt.out (by simp [colB]; omega))))
            clear c1 c2
            go_wp2_with fail
            go_ret
            exact ⟨by rw [HR.out]; rfl, HHw7.out.1⟩
          · have u2 : decide (62 < v) = false := by simpa using c2
            have HQ6 : Hid ((x.cls.take (k + 1)).any (fun c => !colB c) = false) := by
              show _ = _
              rw [HX.out, HQ7.out]
              simp [colB]; omega
            clear c1 c2
            go_wp2_with fail
            go_roundw
            case rel => exact ⟨k + 1, by omega, by go_num, HQ6.out, HHw7.out⟩
            case measure => simp [intOf]; omega
      have hkk : k = y.nc := by omega
      have H6 : Hid (x.cls.any (fun c => !colB c) = false) := by
        show _ = _
        rw [← HQ7.out, List.take_of_length_le (by rw [HL4.out]; omega)]
      have HE2 := hid (HE.out.trans (if_neg (by rw [H6.out]; decide)))
      subst hkk
      clear hkn
      by_cases c1 : x.bnd < 0
      · have u1 : decide (x.bnd < 0) = true := by simpa using c1
        have HR := hid (HE2.out.trans (if_pos c1))
        clear c1
        go_wp2_with fail
        go_ret
        exact ⟨by rw [HR.out]; rfl, HHw7.out.1⟩
      · have u1 : decide (x.bnd < 0) = false := by simpa using c1
        have HE3 := hid (HE2.out.trans (if_neg c1))
        by_cases c2 : 4 < y.nv
        · have u2 : decide ((4 : Int) < (y.nv : Int)) = true := by simp; omega
          have HR := hid (HE3.out.trans (if_pos (by rw [HL1.out]; exact c2)))
          clear c1 c2
          go_wp2_with fail
          go_ret
          exact ⟨by rw [HR.out]; rfl, HHw7.out.1⟩
        · have u2 : decide ((4 : Int) < (y.nv : Int)) = false := by simp; omega
          have HR := hid (HE3.out.trans (if_neg (by rw [HL1.out]; exact c2)))
          clear c1 c2
          go_wp2_with fail
          go_ret
          exact ⟨by rw [HR.out]; rfl, HHw7.out.1⟩
theorem right_any (nd : Int) (A : Option Addr) (n c : Nat) (l : List Lnk) (x : Wnt) (y : WSl) (w : World) (hr : RLnk w w.heap.size A n l) (hw : WArg w x y) (hv1 : y.nv ≤ 1000) (hv2 : y.nn ≤ 1000) (hv3 : y.nl ≤ 1000) (hv4 : y.nc ≤ 1000) :
    Calls Try.prog 52 #[.agg #[.int .i64 nd, .slice A n c], .agg #[.int .i64 x.frm, .int .i64 x.too, .int .i64 x.bnd, .slice y.av y.nv y.cv, .slice y.an y.nn y.cn, .slice y.al y.nl y.cl, .slice y.ac y.nc y.cc]] w fun e w' => e = .returned (.int .i64 (rightS nd l x)) ∧ Below w.heap.size w w' := by
  by_cases h : (checkS nd l).2 = 0
  · exact right_in nd A n c l x y w hr hw h hv1 hv2 hv3 hv4
  · exact right_bad nd A n c l x y w hr h
end Go.Proofs.Ytkemcgbedapkcaa

/- waymarkref1.Pruned. -/
namespace Go.Proofs.Ytkemcgbedapkcaa
open Go.RowKit
set_option maxHeartbeats 6400000
set_option maxRecDepth 100000
theorem BRow.toRBl {w : World} {G N : Nat} {H : Nat → Bool} (h : BRow w G N H) : RBl w w.heap.size (some ⟨G, 0, none⟩) N ((List.range N).map H) := by
  refine ⟨by simp, fun _ => ⟨G, 0, rfl, h.lt, fun i x hx => ?_⟩⟩
  simp only [List.getElem?_map, Option.map_eq_some_iff] at hx
  obtain ⟨j, hj, rfl⟩ := hx
  have hi : i < N := by
    have := (List.getElem?_eq_some_iff.1 hj).1
    simpa using this
  rw [List.getElem?_range hi] at hj
  injection hj with hj
  subst hj
  have := h.cell hi
  simpa using this
/-- Is a link taken away? -/
def cutB (l : List Lnk) (x : Wnt) (dn : List Bool) (i : Nat) : Bool :=
  isDn dn i || decide ((i : Int) ∈ x.lks) || decide ((l.getD i default).c ∈ x.cls) || decide ((l.getD i default).a ∈ x.nds) || decide ((l.getD i default).b ∈ x.nds)
/-- What Down answers. -/
def prunedS (nd : Int) (l : List Lnk) (x : Wnt) (dn : List Bool) : List Bool := if rightS nd l x = 0 then (List.range l.length).map (cutB l x dn) else []
/-- What a function answers that makes a row of bools. -/
def BlAns (L : List Bool) (w : World) (e : Ending) (w' : World) : Prop :=
  ∃ A c, e = .returned (.slice A L.length c) ∧ RBl w' w'.heap.size A L.length L ∧ L.length ≤ c ∧ (A = none → L.length = 0 ∧ c = 0) ∧ Below w.heap.size w w'
theorem blAns_nil (w w' : World) (hb : Below w.heap.size w w') : BlAns [] w (.returned (.slice none 0 0)) w' := ⟨none, 0, rfl, ⟨rfl, fun h => by simp at h⟩, Nat.le_refl _, fun _ => ⟨rfl, rfl⟩, hb⟩
theorem pruned_not (nd : Int) (A : Option Addr) (n c : Nat) (l : List Lnk) (x : Wnt) (y : WSl) (Ad : Option Addr) (n' c' : Nat) (dn : List Bool) (w : World) (hr : RLnk w w.heap.size A n l) (hw : WArg w x y) (hv1 : y.nv ≤ 1000) (hv2 : y.nn ≤ 1000) (hv3 : y.nl ≤ 1000) (hv4 : y.nc ≤ 1000) (h : rightS nd l x ≠ 0) :
    Calls Try.prog 54 #[.agg #[.int .i64 nd, .slice A n c], .agg #[.int .i64 x.frm, .int .i64 x.too, .int .i64 x.bnd, .slice y.av y.nv y.cv, .slice y.an y.nn y.cn, .slice y.al y.nl y.cl, .slice y.ac y.nc y.cc], .slice Ad n' c'] w (BlAns (prunedS nd l x dn) w) := by
  have Q : prunedS nd l x dn = [] := by unfold prunedS; rw [if_neg h]
  rw [Q]
  have hS := Held2.start w nd A n c x y
  have HR := hid (fun (w' : World) (h : Held2 w nd A n c x y w') => h.calls (right_any nd A n c l x y w' ((hr.below h.1).more h.1.size) (hw.on h.1) hv1 hv2 hv3 hv4))
  obtain ⟨r, hrr⟩ : ∃ r, rightS nd l x = r := ⟨_, rfl⟩
  rw [hrr] at HR
  have t1 : (r != 0) = true := by rw [← hrr]; simpa using h
  obtain ⟨g0, g1⟩ := hS.g
  obtain ⟨g2, g3, g4, g5, g6, g7, g8⟩ := hS.v
  clear hr hw h hrr Q
  go_enter Try.func54, Try.ntmps54
  go_wp2_with (go_at_call 52; (with_reducible refine (HR.out _ hS).mono ?_); rintro e' w2 ⟨rfl, h2⟩)
  go_ret
  exact blAns_nil _ _ h2.1
theorem pruned_in (nd : Int) (A : Option Addr) (n c : Nat) (l : List Lnk) (x : Wnt) (y : WSl) (Ad : Option Addr) (n' c' : Nat) (dn : List Bool) (w : World) (hr : RLnk w w.heap.size A n l) (hw : WArg w x y) (hd : RBl w w.heap.size Ad n' dn) (hn : n ≤ 1000) (hv1 : y.nv ≤ 1000) (hv2 : y.nn ≤ 1000) (hv3 : y.nl ≤ 1000) (hv4 : y.nc ≤ 1000) (h : rightS nd l x = 0) :
    Calls Try.prog 54 #[.agg #[.int .i64 nd, .slice A n c], .agg #[.int .i64 x.frm, .int .i64 x.too, .int .i64 x.bnd, .slice y.av y.nv y.cv, .slice y.an y.nn y.cn, .slice y.al y.nl y.cl, .slice y.ac y.nc y.cc], .slice Ad n' c'] w (BlAns (prunedS nd l x dn) w) := by
  have Q : prunedS nd l x dn = (List.range l.length).map (cutB l x dn) := by unfold prunedS; rw [if_pos h]
  rw [Q]
  have hl := hr.1
  rw [hl]
  have hS := Held2.start w nd A n c x y
  have HR := hid (fun (w' : World) (h : Held2 w nd A n c x y w') => h.calls (right_any nd A n c l x y w' ((hr.below h.1).more h.1.size) (hw.on h.1) hv1 hv2 hv3 hv4))
  rw [h] at HR
  have t0 : ((0 : Int) != 0) = false := by decide
  have H1 := hid (fun (i : Nat) (hi : i < 1000) (w' : World) (h : Held2 w nd A n c x y w') => isDown_any Ad n' c' dn i w' ((hd.below h.1).more h.1.size) (by omega))
  have H2 := hid (fun (v : Int) (w' : World) (h : Held2 w nd A n c x y w') => has_any y.al y.nl y.cl x.lks v w' (hw.on h.1).lks.row (by omega))
  have H3 := hid (fun (v : Int) (w' : World) (h : Held2 w nd A n c x y w') => has_any y.ac y.nc y.cc x.cls v w' (hw.on h.1).cls.row (by omega))
  have H4 := hid (fun (v : Int) (w' : World) (h : Held2 w nd A n c x y w') => has_any y.an y.nn y.cn x.nds v w' (hw.on h.1).nds.row (by omega))
  obtain ⟨i5, hi, hz0, hz1, hz2⟩ := info_parts (show (Try.prog.info? 4).map (fun i => (i.zero, i.size, i.bytes)) = some (some (.bool false), 1, 1) by kernel_rfl)
  have Ai := hid hi; have Az0 := hid hz0; have Az1 := hid hz1; have Az2 := hid hz2
  clear hi hz0 hz1 hz2
  have HRL := hid hr
  obtain ⟨g0, g1⟩ := hS.g
  obtain ⟨g2, g3, g4, g5, g6, g7, g8⟩ := hS.v
  clear hr hw h hd Q
  go_enter Try.func54, Try.ntmps54
  go_wp2_with (first
    | (go_at_call 52; (with_reducible refine (HR.out _ hS).mono ?_); rintro e' w2 ⟨rfl, h2⟩; obtain ⟨q0, q1⟩ := h2.g)
    | (at_make; refine wpList_make_full _ rfl (.tmp 16) (.tmp 16) 43 rfl w2.heap.size 4 i5 (.bool false) 1 Try.underlying43 Ai.out Az0.out Az1.out _ _ _ _ n rfl rfl rfl rfl (by rw [Az2.out]; omega) (by unfold maxLen; omega) (Nat.le_refl _) ?_; intro w3 hown3 hg3; have HM3 := hid (BRow.made hown3); have b3 := grown_below hg3; have h3 := h2.next b3; clear hown3 hg3))
  have hwG := h2.lt
  clear g0 g1 g2 g3 g4 g5 g6 g7 g8 q0 q1
  go_loopw [8] (fun i wr => ∃ (k : Nat), k ≤ n ∧ i = .int .i64 k ∧ Hid (BRow wr w2.heap.size n (fun j => decide (j < k) && cutB l x dn j)) ∧ Hid (Held2 w nd A n c x y wr)) (fun i _ => n - (intOf i).toNat)
  case atStart => exact ⟨0, Nat.zero_le _, rfl, HM3.out.congr (fun e _ => by simp), h3⟩
  case round =>
    obtain ⟨k, hk, rfl, HBr, HHw⟩ := hrel
    obtain ⟨p0, p1⟩ := HHw.out.g
    have hlo := HHw.out.lt
    have hGl := HBr.out.lt
    by_cases hkn : k < n
    · obtain ⟨z, hz⟩ : ∃ z, l[k]? = some z := ⟨l[k]'(by omega), List.getElem?_eq_getElem _⟩
      obtain ⟨bL, oL, rfl, hbL, hcL⟩ := HRL.out.2 (by omega)
      obtain ⟨l0, l1, l2, l3⟩ := hcL k z hz
      have c0 := (HHw.out.1.cell (p := ⟨bL, oL + k * 4, none⟩) hbL).trans l0
      have c1 := (HHw.out.1.cell (p := ⟨bL, oL + k * 4 + 1, none⟩) hbL).trans l1
      have c2 := (HHw.out.1.cell (p := ⟨bL, oL + k * 4 + 2, none⟩) hbL).trans l2
      have c3 := (HHw.out.1.cell (p := ⟨bL, oL + k * 4 + 3, none⟩) hbL).trans l3
      have hA := HHw.out.next (Below.alloc (Below.refl _ _) (Nat.le_refl _) (.cells #[.int .i64 z.a, .int .i64 z.b, .int .i64 z.m, .int .i64 z.c] 49))
      have HBa := hid (HBr.out.on (Below.alloc (Below.refl _ _) (Nat.le_refl _) (.cells #[.int .i64 z.a, .int .i64 z.b, .int .i64 z.m, .int .i64 z.c] 49)))
      obtain ⟨p2, p3, p4, p5, p6, p7, p8⟩ := hA.v
      have cm := HBa.out.cell hkn
      have fm := HBa.out.frozen k
      have HQ : Hid (cutB l x dn k = (isDn dn k || decide ((k : Int) ∈ x.lks) || decide (z.c ∈ x.cls) || decide (z.a ∈ x.nds) || decide (z.b ∈ x.nds))) := by
        show _ = _
        unfold cutB
        rw [List.getD_eq_getElem?_getD, hz]; rfl
      have HS : Hid (∀ b, cutB l x dn k = b → BRow ((wr.setCell ⟨w2.heap.size, k, none⟩ (.bool b)).alloc (.cells #[.int .i64 z.a, .int .i64 z.b, .int .i64 z.m, .int .i64 z.c] 49)) w2.heap.size n (fun j => decide (j < k + 1) && cutB l x dn j)) := fun b hb => BRow.on ((HBr.out.set b).congr (fun j _ => by
        show (decide (j < k + 1) && cutB l x dn j) = if j = k then b else (decide (j < k) && cutB l x dn j)
        by_cases hj : j = k
        · subst hj; simp [hb]
        · rw [if_neg hj, show decide (j < k + 1) = decide (j < k) from by rw [decide_eq_decide]; omega])) (Below.alloc (Below.refl _ _) (Nat.le_refl _) _)
      have HH2 : Hid (∀ b, Held2 w nd (some ⟨bL, oL, none⟩) n c x y ((wr.setCell ⟨w2.heap.size, k, none⟩ (.bool b)).alloc (.cells #[.int .i64 z.a, .int .i64 z.b, .int .i64 z.m, .int .i64 z.c] 49))) := fun b => (HHw.out.set hwG).next (Below.alloc (Below.refl _ _) (Nat.le_refl _) _)
      have K1 := hid (H1.out k (by omega) _ hA)
      have K2 := hid (H2.out (k : Int) _ hA)
      have K3 := hid (H3.out z.c _ hA)
      have K4 := hid (H4.out z.a _ hA)
      have K5 := hid (H4.out z.b _ hA)
      obtain ⟨e1, he1⟩ : ∃ e1, isDn dn k = e1 := ⟨_, rfl⟩
      obtain ⟨e2, he2⟩ : ∃ e2, decide ((k : Int) ∈ x.lks) = e2 := ⟨_, rfl⟩
      obtain ⟨e3, he3⟩ : ∃ e3, decide (z.c ∈ x.cls) = e3 := ⟨_, rfl⟩
      obtain ⟨e4, he4⟩ : ∃ e4, decide (z.a ∈ x.nds) = e4 := ⟨_, rfl⟩
      obtain ⟨e5, he5⟩ : ∃ e5, decide (z.b ∈ x.nds) = e5 := ⟨_, rfl⟩
      rw [he1] at K1 HQ
      rw [he2] at K2 HQ
      rw [he3] at K3 HQ
      rw [he4] at K4 HQ
      rw [he5] at K5 HQ
      clear l0 l1 l2 l3 hcL hz he1 he2 he3 he4 he5
      cases e1 with
      | true =>
        have HV := hid (HS.out true (by rw [HQ.out]; first | rfl | simp))
        go_wp2_with (first
          | (go_at_call 24; (with_reducible refine K1.out.mono ?_); rintro _ _ ⟨rfl, rfl⟩)
          | (go_at_call 71; (with_reducible (first | refine K2.out.mono ?_ | refine K3.out.mono ?_ | refine K4.out.mono ?_ | refine K5.out.mono ?_)); rintro _ _ ⟨rfl, rfl⟩))
        go_roundw
        case rel => exact ⟨k + 1, by omega, by go_num, HV.out, HH2.out _⟩
        case measure => simp [intOf]; omega
      | false =>
        cases e2 with
        | true =>
          have HV := hid (HS.out true (by rw [HQ.out]; first | rfl | simp))
          go_wp2_with (first
            | (go_at_call 24; (with_reducible refine K1.out.mono ?_); rintro _ _ ⟨rfl, rfl⟩)
            | (go_at_call 71; (with_reducible (first | refine K2.out.mono ?_ | refine K3.out.mono ?_ | refine K4.out.mono ?_ | refine K5.out.mono ?_)); rintro _ _ ⟨rfl, rfl⟩))
          go_roundw
          case rel => exact ⟨k + 1, by omega, by go_num, HV.out, HH2.out _⟩
          case measure => simp [intOf]; omega
        | false =>
          cases e3 with
          | true =>
            have HV := hid (HS.out true (by rw [HQ.out]; first | rfl | simp))
            go_wp2_with (first
              | (go_at_call 24; (with_reducible refine K1.out.mono ?_); rintro _ _ ⟨rfl, rfl⟩)
              | (go_at_call 71; (with_reducible (first | refine K2.out.mono ?_ | refine K3.out.mono ?_ | refine K4.out.mono ?_ | refine K5.out.mono ?_)); rintro _ _ ⟨rfl, rfl⟩))
            go_roundw
            case rel => exact ⟨k + 1, by omega, by go_num, HV.out, HH2.out _⟩
            case measure => simp [intOf]; omega
          | false =>
            cases e4 with
            | true =>
              have HV := hid (HS.out true (by rw [HQ.out]; first | rfl | simp))
              go_wp2_with (first
                | (go_at_call 24; (with_reducible refine K1.out.mono ?_); rintro _ _ ⟨rfl, rfl⟩)
                | (go_at_call 71; (with_reducible (first | refine K2.out.mono ?_ | refine K3.out.mono ?_ | refine K4.out.mono ?_ | refine K5.out.mono ?_)); rintro _ _ ⟨rfl, rfl⟩))
              go_roundw
              case rel => exact ⟨k + 1, by omega, by go_num, HV.out, HH2.out _⟩
              case measure => simp [intOf]; omega
            | false =>
              have HV := hid (HS.out e5 (by rw [HQ.out]; first | rfl | simp))
              go_wp2_with (first
                | (go_at_call 24; (with_reducible refine K1.out.mono ?_); rintro _ _ ⟨rfl, rfl⟩)
                | (go_at_call 71; (with_reducible (first | refine K2.out.mono ?_ | refine K3.out.mono ?_ | refine K4.out.mono ?_ | refine K5.out.mono ?_)); rintro _ _ ⟨rfl, rfl⟩))
              go_roundw
              case rel => exact ⟨k + 1, by omega, by go_num, HV.out, HH2.out _⟩
              case measure => simp [intOf]; omega
    · obtain rfl : n = k := by omega
      go_wp2_with fail
      go_ret
      have hR := (HBr.out.congr (H' := cutB l x dn) (fun e he => by simp [he])).toRBl
      have hL : ((List.range n).map (cutB l x dn)).length = n := by simp
      refine ⟨some ⟨w2.heap.size, 0, none⟩, n, ?_, ?_, ?_, fun h => (by cases h), HHw.out.1⟩
      · rw [hL]; rfl
      · rw [hL]; exact hR
      · rw [hL]; exact Nat.le_refl _
theorem pruned_any (nd : Int) (A : Option Addr) (n c : Nat) (l : List Lnk) (x : Wnt) (y : WSl) (Ad : Option Addr) (n' c' : Nat) (dn : List Bool) (w : World) (hr : RLnk w w.heap.size A n l) (hw : WArg w x y) (hd : RBl w w.heap.size Ad n' dn) (hn : n ≤ 1000) (hv1 : y.nv ≤ 1000) (hv2 : y.nn ≤ 1000) (hv3 : y.nl ≤ 1000) (hv4 : y.nc ≤ 1000) :
    Calls Try.prog 54 #[.agg #[.int .i64 nd, .slice A n c], .agg #[.int .i64 x.frm, .int .i64 x.too, .int .i64 x.bnd, .slice y.av y.nv y.cv, .slice y.an y.nn y.cn, .slice y.al y.nl y.cl, .slice y.ac y.nc y.cc], .slice Ad n' c'] w (BlAns (prunedS nd l x dn) w) := by
  by_cases h : rightS nd l x = 0
  · exact pruned_in nd A n c l x y Ad n' c' dn w hr hw hd hn hv1 hv2 hv3 hv4 h
  · exact pruned_not nd A n c l x y Ad n' c' dn w hr hw hv1 hv2 hv3 hv4 h
end Go.Proofs.Ytkemcgbedapkcaa

/- Cut out of PrD. -/
namespace Go.Proofs.Ytkemcgbedapkcaa
open Go.RowKit
set_option maxHeartbeats 12800000
set_option maxRecDepth 100000
def RightSpec (f : Nat) : Prop := ∀ (nd : Int) (A : Option Addr) (n c : Nat) (l : List Lnk) (x : Wnt) (y : WSl) (w : World), GArg w nd A n c l → WArg w x y → y.nv ≤ 100 → y.nn ≤ 100 → y.nl ≤ 100 → y.nc ≤ 100 →
  Calls Try.prog f #[.agg #[.int .i64 nd, .slice A n c], .agg #[.int .i64 x.frm, .int .i64 x.too, .int .i64 x.bnd, .slice y.av y.nv y.cv, .slice y.an y.nn y.cn, .slice y.al y.nl y.cl, .slice y.ac y.nc y.cc]] w fun e w' => e = .returned (.int .i64 (rightS nd l x)) ∧ Below w.heap.size w w'
def DownSpec (f : Nat) : Prop := ∀ (nd : Int) (A : Option Addr) (n c : Nat) (l : List Lnk) (x : Wnt) (y : WSl) (Ad : Option Addr) (n' c' : Nat) (dn : List Bool) (w : World), GArg w nd A n c l → WArg w x y → DArg w Ad n' c' dn → y.nv ≤ 100 → y.nn ≤ 100 → y.nl ≤ 100 → y.nc ≤ 100 →
  Calls Try.prog f #[.agg #[.int .i64 nd, .slice A n c], .agg #[.int .i64 x.frm, .int .i64 x.too, .int .i64 x.bnd, .slice y.av y.nv y.cv, .slice y.an y.nn y.cn, .slice y.al y.nl y.cl, .slice y.ac y.nc y.cc], .slice Ad n' c'] w (BlAns (prunedS nd l x dn) w)
theorem refRight_spec : RightSpec 52 := fun nd A n c l x y w hg hw h1 h2 h3 h4 => right_any nd A n c l x y w hg.row hw (by omega) (by omega) (by omega) (by omega)
theorem refDown_spec : DownSpec 54 := fun nd A n c l x y Ad n' c' dn w hg hw hd h1 h2 h3 h4 => pruned_any nd A n c l x y Ad n' c' dn w hg.row hw hd.row (by have := hg.len; omega) (by omega) (by omega) (by omega) (by omega)
def fewB (y : WSl) : Bool := decide (y.nv ≤ 20) && decide (y.nn ≤ 60) && decide (y.nl ≤ 60) && decide (y.nc ≤ 60)
theorem larg_nil (w : World) : LArg w none 0 0 [] := ⟨⟨rfl, fun h => by omega⟩, Nat.le_refl _, fun _ => ⟨rfl, rfl⟩, by unfold maxLen; omega, by simp⟩
/-- What a function that makes a row of bools gives. -/
theorem bls_out {f : Nat} {args : Array Value} {L : List Bool} {w : World} {m : Nat} (hL : L.length = m) (hc : Calls Try.prog f args w (BlAns L w)) :
    Calls Try.prog f args w fun e w' => ∃ A c, e = .returned (.slice A m c) ∧ (RBl w' w'.heap.size A m L ∧ m ≤ c ∧ (A = none → m = 0 ∧ c = 0)) ∧ Below w.heap.size w w' := by
  refine hc.mono ?_
  rintro e' w' ⟨A, c, rfl, h1, h2, h3, h4⟩
  rw [hL] at h1 h2 h3
  exact ⟨A, c, by rw [hL], ⟨h1, h2, h3⟩, h4⟩
theorem prunedS_len (nd : Int) (l : List Lnk) (x : Wnt) (dn : List Bool) : (prunedS nd l x dn).length ≤ l.length := by
  unfold prunedS; split <;> simp
end Go.Proofs.Ytkemcgbedapkcaa
