/- waymarkref1.RightWant. -/
import Derived.Test.YtabgbhkpeeibaaaPrA
import Derived.Test.YtabgbhkpeeibaaaRfA
import Derived.Deep.RegionHeld3
import Derived.Deep.RegionWith
import Derived.Deep.DeepCutAuto
namespace Go.Proofs.Ytabgbhkpeeibaaa
open Go.RowKit
set_option maxHeartbeats 6400000
set_option maxRecDepth 100000
def nodeB (nd v : Int) : Bool := decide (0 ≤ v) && decide (v < nd)
def colB (c : Int) : Bool := decide (0 ≤ c) && decide (c ≤ 62)
def badB (nd : Int) (x : Wnt) : Bool := !nodeB nd x.frm || !nodeB nd x.too || x.via.any (fun v => !nodeB nd v) || x.nds.any (fun v => !nodeB nd v)
/-- What Right answers. -/
def rightS (nd : Int) (l : List Lnk) (x : Wnt) : Int :=
  if (checkS nd l).2 ≠ 0 then (checkS nd l).2 else if badB nd x = true then 4 else if x.lks.any (fun i => !nodeB (l.length : Int) i) = true then 5 else if x.cls.any (fun c => !colB c) = true then 1 else if x.bnd < 0 then 1 else if 4 < x.via.length then 6 else 0
/-- Two boxes: a graph's and a want's. -/
def Held2 (w : World) (nd : Int) (A : Option Addr) (n c : Nat) (x : Wnt) (y : WSl) (w' : World) : Prop :=
  Below w.heap.size w w' ∧ w'.heap[w.heap.size]? = some (.cells #[.int .i64 nd, .slice A n c] 24 (0, 0)) ∧
    w'.heap[w.heap.size + 1]? = some (.cells #[.int .i64 x.frm, .int .i64 x.too, .int .i64 x.bnd, .slice y.av y.nv y.cv, .slice y.an y.nn y.cn, .slice y.al y.nl y.cl, .slice y.ac y.nc y.cc] 27 (0, 0))
theorem Held2.start (w : World) (nd : Int) (A : Option Addr) (n c : Nat) (x : Wnt) (y : WSl) :
    Held2 w nd A n c x y ((w.alloc (.cells #[.int .i64 nd, .slice A n c] 24)).alloc (.cells #[.int .i64 x.frm, .int .i64 x.too, .int .i64 x.bnd, .slice y.av y.nv y.cv, .slice y.an y.nn y.cn, .slice y.al y.nl y.cl, .slice y.ac y.nc y.cc] 27)) := by
  have b1 : Below w.heap.size w (w.alloc (.cells #[.int .i64 nd, .slice A n c] 24)) := Below.alloc (Below.refl _ _) (Nat.le_refl _) _
  refine ⟨b1.alloc b1.size _, box_below (heap_alloc_new w _) (Below.alloc (Below.refl (w.heap.size + 1) _) (by simp) _) (by omega), ?_⟩
  have := heap_alloc_new (w.alloc (.cells #[.int .i64 nd, .slice A n c] 24)) (.cells #[.int .i64 x.frm, .int .i64 x.too, .int .i64 x.bnd, .slice y.av y.nv y.cv, .slice y.an y.nn y.cn, .slice y.al y.nl y.cl, .slice y.ac y.nc y.cc] 27)
  simpa using this
theorem blk_lt {w : World} {b : Nat} {o : Obj} (h : w.heap[b]? = some o) : b < w.heap.size := by
  rcases Nat.lt_or_ge b w.heap.size with h1 | h1
  · exact h1
  · rw [Array.getElem?_eq_none h1] at h; cases h
theorem Held2.lt {w w' : World} {nd : Int} {A : Option Addr} {n c : Nat} {x : Wnt} {y : WSl} (h : Held2 w nd A n c x y w') : w.heap.size + 1 < w'.heap.size := blk_lt h.2.2
theorem Held2.next {w w' w'' : World} {nd : Int} {A : Option Addr} {n c : Nat} {x : Wnt} {y : WSl} (h : Held2 w nd A n c x y w') (hb : Below w'.heap.size w' w'') : Held2 w nd A n c x y w'' :=
  ⟨h.1.trans (hb.mono h.1.size), box_below h.2.1 hb (by have := h.lt; omega), box_below h.2.2 hb h.lt⟩
theorem Held2.drewN {w w' : World} {nd : Int} {A : Option Addr} {n c : Nat} {x : Wnt} {y : WSl} (h : Held2 w nd A n c x y w') (k : Nat) : Held2 w nd A n c x y (w'.drewN k) := ⟨below_drewN h.1, h.2⟩
theorem Held2.drew {w w' : World} {nd : Int} {A : Option Addr} {n c : Nat} {x : Wnt} {y : WSl} (h : Held2 w nd A n c x y w') : Held2 w nd A n c x y w'.drew := ⟨h.1.drew, h.2⟩
theorem Held2.set {w w' : World} {nd : Int} {A : Option Addr} {n c G j : Nat} {x : Wnt} {y : WSl} {u : Value} (h : Held2 w nd A n c x y w') (hG : w.heap.size + 1 < G) : Held2 w nd A n c x y (w'.setCell ⟨G, j, none⟩ u) :=
  ⟨h.1.setCell (by show _ ≤ G; omega) u, (heap_setCell_other _ _ _ _ (by show _ ≠ G; omega)).trans h.2.1, (heap_setCell_other _ _ _ _ (by show _ ≠ G; omega)).trans h.2.2⟩
theorem Held2.calls {w : World} {nd : Int} {A : Option Addr} {n c : Nat} {x : Wnt} {y : WSl} {f : Nat} {args : Array Value} {R : Ending → Prop} {w' : World} (h : Held2 w nd A n c x y w') (hc : Calls Try.prog f args w' fun e w'' => R e ∧ Below w'.heap.size w' w'') :
    Calls Try.prog f args w' fun e w'' => R e ∧ Held2 w nd A n c x y w'' := hc.mono fun _ _ ⟨h1, h2⟩ => ⟨h1, h.next h2⟩
theorem Held2.g {w w' : World} {nd : Int} {A : Option Addr} {n c : Nat} {x : Wnt} {y : WSl} (h : Held2 w nd A n c x y w') : w'.cell? ⟨w.heap.size, 0, none⟩ = some (.int .i64 nd) ∧ w'.cell? ⟨w.heap.size, 1, none⟩ = some (.slice A n c) :=
  ⟨(box_cells h.2.1).1, (box_cells h.2.1).2.1⟩
theorem Held2.v {w w' : World} {nd : Int} {A : Option Addr} {n c : Nat} {x : Wnt} {y : WSl} (h : Held2 w nd A n c x y w') :
    w'.cell? ⟨w.heap.size + 1, 0, none⟩ = some (.int .i64 x.frm) ∧ w'.cell? ⟨w.heap.size + 1, 1, none⟩ = some (.int .i64 x.too) ∧ w'.cell? ⟨w.heap.size + 1, 2, none⟩ = some (.int .i64 x.bnd) ∧ w'.cell? ⟨w.heap.size + 1, 3, none⟩ = some (.slice y.av y.nv y.cv) ∧
    w'.cell? ⟨w.heap.size + 1, 4, none⟩ = some (.slice y.an y.nn y.cn) ∧ w'.cell? ⟨w.heap.size + 1, 5, none⟩ = some (.slice y.al y.nl y.cl) ∧ w'.cell? ⟨w.heap.size + 1, 6, none⟩ = some (.slice y.ac y.nc y.cc) := by
  refine ⟨?_, ?_, ?_, ?_, ?_, ?_, ?_⟩ <;> (rw [cell_of_row _ _ _ _ _ _ h.2.2]; rfl)
theorem node_is (nd : Int) (A : Option Addr) (n c : Nat) (v : Int) (w : World) : Calls Try.prog 36 #[.agg #[.int .i64 nd, .slice A n c], .int .i64 v] w fun e w' => e = .returned (.bool (nodeB nd v)) ∧ Below w.heap.size w w' := node_any nd A n c v w
theorem any_take_succ {L : List Int} {k : Nat} {x : Int} (p : Int → Bool) (h : L[k]? = some x) : (L.take (k + 1)).any p = ((L.take k).any p || p x) := by
  obtain ⟨hk, hx⟩ := List.getElem?_eq_some_iff.1 h
  rw [List.take_succ_eq_append_getElem hk, List.any_append, hx]
  simp
theorem right_bad (nd : Int) (A : Option Addr) (n c : Nat) (l : List Lnk) (x : Wnt) (y : WSl) (w : World) (hr : RLnk w w.heap.size A n l) (h : (checkS nd l).2 ≠ 0) :
    Calls Try.prog 23 #[.agg #[.int .i64 nd, .slice A n c], .agg #[.int .i64 x.frm, .int .i64 x.too, .int .i64 x.bnd, .slice y.av y.nv y.cv, .slice y.an y.nn y.cn, .slice y.al y.nl y.cl, .slice y.ac y.nc y.cc]] w fun e w' => e = .returned (.int .i64 (rightS nd l x)) ∧ Below w.heap.size w w' := by
  have Q : rightS nd l x = (checkS nd l).2 := by unfold rightS; rw [if_pos h]
  rw [Q]
  have hS := Held2.start w nd A n c x y
  have HK := hid (fun (w' : World) (h : Held2 w nd A n c x y w') => h.calls (refCheck_any nd A n c l w' ((hr.below h.1).more h.1.size)))
  obtain ⟨k1, hk1⟩ : ∃ k1, (checkS nd l).1 = k1 := ⟨_, rfl⟩
  obtain ⟨k2, hk2⟩ : ∃ k2, (checkS nd l).2 = k2 := ⟨_, rfl⟩
  rw [hk1, hk2] at HK
  rw [hk2]
  have t1 : (k2 != 0) = true := by rw [← hk2]; simpa using h
  obtain ⟨g0, g1⟩ := hS.g
  clear hr h hk1 hk2 Q
  go_enter Try.func23, Try.ntmps23
  go_wp2_with (go_at_call 24; (with_reducible refine (HK.out _ hS).mono ?_); rintro e' w2 ⟨rfl, h2⟩)
  go_ret
  exact ⟨rfl, h2.1⟩
theorem rightS_4 {nd : Int} {l : List Lnk} {x : Wnt} (h : (checkS nd l).2 = 0) (hb : badB nd x = true) : rightS nd l x = 4 := by
  unfold rightS; rw [if_neg (fun hh => hh h), if_pos hb]
theorem rightS_5 {nd : Int} {l : List Lnk} {x : Wnt} {n : Nat} (h : (checkS nd l).2 = 0) (hb : badB nd x = false) (hl : l.length = n) (h5 : x.lks.any (fun i => !nodeB (n : Int) i) = true) : rightS nd l x = 5 := by
  unfold rightS; rw [if_neg (fun hh => hh h), if_neg (by rw [hb]; decide), hl, if_pos h5]
theorem rightS_e {nd : Int} {l : List Lnk} {x : Wnt} {n : Nat} (h : (checkS nd l).2 = 0) (hb : badB nd x = false) (hl : l.length = n) (h5 : x.lks.any (fun i => !nodeB (n : Int) i) = false) :
    rightS nd l x = if x.cls.any (fun c => !colB c) = true then 1 else if x.bnd < 0 then 1 else if 4 < x.via.length then 6 else 0 := by
  unfold rightS; rw [if_neg (fun hh => hh h), if_neg (by rw [hb]; decide), hl, if_neg (by rw [h5]; decide)]
theorem any_at {L : List Int} {k : Nat} {x : Int} {p : Int → Bool} (h : L[k]? = some x) (hp : p x = true) : L.any p = true := List.any_eq_true.2 ⟨x, List.mem_of_getElem? h, hp⟩
theorem right_in (nd : Int) (A : Option Addr) (n c : Nat) (l : List Lnk) (x : Wnt) (y : WSl) (w : World) (hr : RLnk w w.heap.size A n l) (hw : WArg w x y) (h : (checkS nd l).2 = 0) (hv1 : y.nv ≤ 1000) (hv2 : y.nn ≤ 1000) (hv3 : y.nl ≤ 1000) (hv4 : y.nc ≤ 1000) :
    Calls Try.prog 23 #[.agg #[.int .i64 nd, .slice A n c], .agg #[.int .i64 x.frm, .int .i64 x.too, .int .i64 x.bnd, .slice y.av y.nv y.cv, .slice y.an y.nn y.cn, .slice y.al y.nl y.cl, .slice y.ac y.nc y.cc]] w fun e w' => e = .returned (.int .i64 (rightS nd l x)) ∧ Below w.heap.size w w' := by
  have hS := Held2.start w nd A n c x y
  have hl := hr.1
  have HK := hid (fun (w' : World) (h : Held2 w nd A n c x y w') => h.calls (refCheck_any nd A n c l w' ((hr.below h.1).more h.1.size)))
  have HN := hid (fun (v : Int) (w' : World) (h : Held2 w nd A n c x y w') => h.calls (node_is nd A n c v w'))
  obtain ⟨k1, hk1⟩ : ∃ k1, (checkS nd l).1 = k1 := ⟨_, rfl⟩
  have Hck := hid h
  rw [hk1, h] at HK
  have t0 : ((0 : Int) != 0) = false := by decide
  obtain ⟨g0, g1⟩ := hS.g
  have HL1 := hid hw.via.row.1
  have HL2 := hid hw.nds.row.1
  have HL3 := hid hw.lks.row.1
  have HL4 := hid hw.cls.row.1
  have HW1 := hid hw.via.row
  have HW2 := hid hw.nds.row
  have HW3 := hid hw.lks.row
  have HW4 := hid hw.cls.row
  obtain ⟨f1, hf1⟩ : ∃ f1, nodeB nd x.frm = f1 := ⟨_, rfl⟩
  obtain ⟨f2, hf2⟩ : ∃ f2, nodeB nd x.too = f2 := ⟨_, rfl⟩
  have HNf := hid (fun (w' : World) (h : Held2 w nd A n c x y w') => HN.out x.frm w' h)
  have HNt := hid (fun (w' : World) (h : Held2 w nd A n c x y w') => HN.out x.too w' h)
  rw [hf1] at HNf
  rw [hf2] at HNt
  have HQ0 : Hid (badB nd x = ((!f1 || !f2) || x.via.any (fun v => !nodeB nd v) || x.nds.any (fun v => !nodeB nd v))) := by
    show _ = _
    unfold badB; rw [hf1, hf2]
  clear hr hw h hk1 hf1 hf2
  go_enter Try.func23, Try.ntmps23
  go_upto_region 4 with (go_at_call 24; (with_reducible refine (HK.out _ hS).mono ?_); rintro e' w2 ⟨rfl, h2⟩)
  go_cut [7] (fun s wx => s = .bool (!f1 || !f2) ∧ Hid (Held2 w nd A n c x y wx))
  case first =>
    obtain ⟨p0, p1⟩ := h2.g
    obtain ⟨p2, p3, p4, p5, p6, p7, p8⟩ := h2.v
    cases f1 with
    | false =>
      go_wp2_with (go_at_call 36; (with_reducible refine (HNf.out _ h2).mono ?_); rintro e' w3 ⟨rfl, h3⟩)
      go_meet
      exact ⟨rfl, h3⟩
    | true =>
      go_wp2_with (first
        | (go_at_call 36; (with_reducible refine (HNf.out _ h2).mono ?_); rintro e' w3 ⟨rfl, h3⟩; obtain ⟨q0, q1⟩ := h3.g; obtain ⟨q2, q3, q4, q5, q6, q7, q8⟩ := h3.v)
        | (go_at_call 36; (with_reducible refine (HNt.out _ h3).mono ?_); rintro e' w4 ⟨rfl, h4⟩))
      go_meet
      exact ⟨by simp, h4⟩
  case rest =>
    obtain ⟨rfl, HH1⟩ := hcut
    clear g0 g1
    obtain ⟨b0, hb0⟩ : ∃ b0, (!f1 || !f2) = b0 := ⟨_, rfl⟩
    rw [hb0] at HQ0
    simp only [hb0]
    clear hb0
    go_wp2_with fail
    go_loopw [7, 8] (fun s i wr => ∃ (k : Nat) (b : Bool), k ≤ y.nv ∧ i = .int .i64 k ∧ s = .bool b ∧ Hid (b = (b0 || (x.via.take k).any (fun v => !nodeB nd v))) ∧ Hid (Held2 w nd A n c x y wr)) (fun _ i _ => y.nv - (intOf i).toNat)
    case atStart => exact ⟨0, b0, Nat.zero_le _, rfl, rfl, hid (by simp), HH1.out⟩
    case round =>
    obtain ⟨k, b1, hk, rfl, rfl, HQ1, HHw⟩ := hrel
    obtain ⟨p0, p1⟩ := HHw.out.g
    obtain ⟨p2, p3, p4, p5, p6, p7, p8⟩ := HHw.out.v
    by_cases hkn : k < y.nv
    · obtain ⟨v, hv⟩ : ∃ v, x.via[k]? = some v := ⟨x.via[k]'(by rw [HL1.out]; exact hkn), List.getElem?_eq_getElem _⟩
      have HX := hid (any_take_succ (fun v => !nodeB nd v) hv)
      obtain ⟨bb, ob, hA, hbb, hcb⟩ := HW1.out.2 (by omega)
      have cv0 := hid (hcb k v hv)
      have ce := (HHw.out.1.cell (p := ⟨bb, ob + k, none⟩) hbb).trans cv0.out
      have HHd := HHw.out.drew
      have HNv := hid (HN.out v _ HHd)
      have HS4 := hid (fun (w' : World) (h' : Held2 w nd A n c x y w') => (⟨h'.g.1, h'.g.2, by have := h'.v.2.2.2.1; rw [hA] at this; exact this, (h'.1.cell (p := ⟨bb, ob + k, none⟩) hbb).trans cv0.out⟩ : w'.cell? ⟨w.heap.size, 0, none⟩ = some (.int .i64 nd) ∧ w'.cell? ⟨w.heap.size, 1, none⟩ = some (.slice A n c) ∧ w'.cell? ⟨w.heap.size + 1, 3, none⟩ = some (.slice (some ⟨bb, ob, none⟩) y.nv y.cv) ∧ w'.cell? ⟨bb, ob + k, none⟩ = some (.int .i64 v)))
      rw [hA] at p5
      clear hcb hv hA
      cases b1 with
      | true =>
        have HQ2 : Hid (true = (b0 || (x.via.take (k + 1)).any (fun v => !nodeB nd v))) := by
          show _ = _
          rw [HX.out, ← Bool.or_assoc, ← HQ1.out]; rfl
        go_wp2_with (go_big_quiet (fail))
        go_roundw
        case rel => exact ⟨k + 1, true, by omega, by go_num, rfl, HQ2.out, HHw.out.drewN nq⟩
        case measure => simp [intOf]; omega
      | false =>
        go_wp2_with fail
        go_region_held3 (fun w' => w'.cell? ⟨w.heap.size, 0, none⟩ = some (.int .i64 nd) ∧ w'.cell? ⟨w.heap.size, 1, none⟩ = some (.slice A n c) ∧ w'.cell? ⟨w.heap.size + 1, 3, none⟩ = some (.slice (some ⟨bb, ob, none⟩) y.nv y.cv) ∧ w'.cell? ⟨bb, ob + k, none⟩ = some (.int .i64 v))
          (first
            | go_keep
            | exact s4)
          (first
            | (go_at_call 36; (with_reducible refine HNv.out.mono ?_); rintro e' w4 ⟨rfl, h4⟩; have s4 := HS4.out _ h4))
        go_wp2_with fail
        go_roundw
        case rel => exact ⟨k + 1, _, by omega, by go_num, rfl, hid (by rw [HX.out, ← Bool.or_assoc, ← HQ1.out]; rfl), h4⟩
        case measure => simp [intOf]; omega
    have hkk : k = y.nv := by omega
    have HB1 : Hid (b1 = (b0 || x.via.any (fun v => !nodeB nd v))) := by
      show _ = _
      rw [HQ1.out, List.take_of_length_le (by rw [HL1.out]; omega)]
    have HH2 := HHw
    subst hkk
    clear hkn
    go_wp2_with fail
    go_loopw [7, 9] (fun s i wr => ∃ (k : Nat) (b : Bool), k ≤ y.nn ∧ i = .int .i64 k ∧ s = .bool b ∧ Hid (b = (b1 || (x.nds.take k).any (fun v => !nodeB nd v))) ∧ Hid (Held2 w nd A n c x y wr)) (fun _ i _ => y.nn - (intOf i).toNat)
    case atStart => exact ⟨0, b1, Nat.zero_le _, rfl, rfl, hid (by simp), HH2.out⟩
    case round =>
    clear p0 p1 p2 p3 p4 p5 p6 p7 p8
    obtain ⟨k, b, hk, rfl, rfl, HQ3, HHw⟩ := hrel
    obtain ⟨p0, p1⟩ := HHw.out.g
    obtain ⟨p2, p3, p4, p5, p6, p7, p8⟩ := HHw.out.v
    by_cases hkn : k < y.nn
    · obtain ⟨v, hv⟩ : ∃ v, x.nds[k]? = some v := ⟨x.nds[k]'(by rw [HL2.out]; exact hkn), List.getElem?_eq_getElem _⟩
      have HX := hid (any_take_succ (fun v => !nodeB nd v) hv)
      obtain ⟨bb, ob, hA, hbb, hcb⟩ := HW2.out.2 (by omega)
      have cv0 := hid (hcb k v hv)
      have ce := (HHw.out.1.cell (p := ⟨bb, ob + k, none⟩) hbb).trans cv0.out
      have HHd := HHw.out.drew
      have HNv := hid (HN.out v _ HHd)
      have HS4 := hid (fun (w' : World) (h' : Held2 w nd A n c x y w') => (⟨h'.g.1, h'.g.2, by have := h'.v.2.2.2.2.1; rw [hA] at this; exact this, (h'.1.cell (p := ⟨bb, ob + k, none⟩) hbb).trans cv0.out⟩ : w'.cell? ⟨w.heap.size, 0, none⟩ = some (.int .i64 nd) ∧ w'.cell? ⟨w.heap.size, 1, none⟩ = some (.slice A n c) ∧ w'.cell? ⟨w.heap.size + 1, 4, none⟩ = some (.slice (some ⟨bb, ob, none⟩) y.nn y.cn) ∧ w'.cell? ⟨bb, ob + k, none⟩ = some (.int .i64 v)))
      rw [hA] at p6
      clear hcb hv hA
      cases b with
      | true =>
        have HQ2 : Hid (true = (b1 || (x.nds.take (k + 1)).any (fun v => !nodeB nd v))) := by
          show _ = _
          rw [HX.out, ← Bool.or_assoc, ← HQ3.out]; rfl
        go_wp2_with (go_big_quiet (fail))
        go_roundw
        case rel => exact ⟨k + 1, true, by omega, by go_num, rfl, HQ2.out, HHw.out.drewN nq⟩
        case measure => simp [intOf]; omega
      | false =>
        go_wp2_with fail
        go_region_held3 (fun w' => w'.cell? ⟨w.heap.size, 0, none⟩ = some (.int .i64 nd) ∧ w'.cell? ⟨w.heap.size, 1, none⟩ = some (.slice A n c) ∧ w'.cell? ⟨w.heap.size + 1, 4, none⟩ = some (.slice (some ⟨bb, ob, none⟩) y.nn y.cn) ∧ w'.cell? ⟨bb, ob + k, none⟩ = some (.int .i64 v))
          (first
            | go_keep
            | exact s4)
          (first
            | (go_at_call 36; (with_reducible refine HNv.out.mono ?_); rintro e' w4 ⟨rfl, h4⟩; have s4 := HS4.out _ h4))
        go_wp2_with fail
        go_roundw
        case rel => exact ⟨k + 1, _, by omega, by go_num, rfl, hid (by rw [HX.out, ← Bool.or_assoc, ← HQ3.out]; rfl), h4⟩
        case measure => simp [intOf]; omega
    have hkk : k = y.nn := by omega
    have HB2 : Hid (b = (b1 || x.nds.any (fun v => !nodeB nd v))) := by
      show _ = _
      rw [HQ3.out, List.take_of_length_le (by rw [HL2.out]; omega)]
    have HH3 := HHw
    subst hkk
    have HBB : Hid (badB nd x = b) := by
      show _ = _
      rw [HQ0.out, HB2.out, HB1.out]
    clear hkn
    cases b with
    | true =>
      have HR := hid (rightS_4 Hck.out HBB.out)
      go_wp2_with fail
      go_ret
      exact ⟨by rw [HR.out]; rfl, HH3.out.1⟩
    | false =>
      go_wp2_with fail
      go_loopw [10] (fun i wr => ∃ k : Nat, k ≤ y.nl ∧ i = .int .i64 k ∧ Hid ((x.lks.take k).any (fun i => !nodeB (n : Int) i) = false) ∧ Hid (Held2 w nd A n c x y wr)) (fun i _ => y.nl - (intOf i).toNat)
      case atStart => exact ⟨0, Nat.zero_le _, rfl, hid (by simp), HH3.out⟩
      case round =>
      clear p0 p1 p2 p3 p4 p5 p6 p7 p8
      obtain ⟨k, hk, rfl, HQ5, HHw5⟩ := hrel
      obtain ⟨p0, p1⟩ := HHw5.out.g
      obtain ⟨p2, p3, p4, p5, p6, p7, p8⟩ := HHw5.out.v
      by_cases hkn : k < y.nl
      · obtain ⟨v, hv⟩ : ∃ v, x.lks[k]? = some v := ⟨x.lks[k]'(by rw [HL3.out]; exact hkn), List.getElem?_eq_getElem _⟩
        have HX := hid (any_take_succ (fun i => !nodeB (n : Int) i) hv)
        have HAt := hid (fun h => any_at (p := fun i => !nodeB (n : Int) i) hv h)
        obtain ⟨bb, ob, hA, hbb, hcb⟩ := HW3.out.2 (by omega)
        have ce := (HHw5.out.1.cell (p := ⟨bb, ob + k, none⟩) hbb).trans (hcb k v hv)
        rw [hA] at p7
        clear hcb hv
        by_cases c1 : v < 0
        · have u1 : decide (v < 0) = true := by simpa using c1
          have HR := hid (rightS_5 Hck.out HBB.out hl (HAt.out (by simp [nodeB]; omega)))
          clear c1
          go_wp2_with (go_big_quiet (fail))
          go_ret
          exact ⟨by rw [HR.out]; rfl, (HHw5.out.drewN nq).1⟩
        · have u1 : decide (v < 0) = false := by simpa using c1
          by_cases c2 : (n : Int) ≤ v
          · have u2 : decide ((n : Int) ≤ v) = true := by simpa using c2
            have HR := hid (rightS_5 Hck.out HBB.out hl (HAt.out (by simp [nodeB]; omega)))
            clear c1 c2
            go_wp2_with (go_big_quiet (fail))
            go_ret
            exact ⟨by rw [HR.out]; rfl, (HHw5.out.drewN nq).1⟩
          · have u2 : decide ((n : Int) ≤ v) = false := by simpa using c2
            have HQ6 : Hid ((x.lks.take (k + 1)).any (fun i => !nodeB (n : Int) i) = false) := by
              show _ = _
              rw [HX.out, HQ5.out]
              simp [nodeB]; omega
            clear c1 c2
            go_wp2_with (go_big_quiet (fail))
            go_roundw
            case rel => exact ⟨k + 1, by omega, by go_num, HQ6.out, HHw5.out.drewN nq⟩
            case measure => simp [intOf]; omega
      have hkk : k = y.nl := by omega
      have H5 : Hid (x.lks.any (fun i => !nodeB (n : Int) i) = false) := by
        show _ = _
        rw [← HQ5.out, List.take_of_length_le (by rw [HL3.out]; omega)]
      have HE := hid (rightS_e Hck.out HBB.out hl H5.out)
      subst hkk
      clear hkn
      go_wp2_with fail
      go_loopw [11] (fun i wr => ∃ k : Nat, k ≤ y.nc ∧ i = .int .i64 k ∧ Hid ((x.cls.take k).any (fun c => !colB c) = false) ∧ Hid (Held2 w nd A n c x y wr)) (fun i _ => y.nc - (intOf i).toNat)
      case atStart => exact ⟨0, Nat.zero_le _, rfl, hid (by simp), HHw5.out⟩
      case round =>
      clear p0 p1 p2 p3 p4 p5 p6 p7 p8
      obtain ⟨k, hk, rfl, HQ7, HHw7⟩ := hrel
      obtain ⟨p0, p1⟩ := HHw7.out.g
      obtain ⟨p2, p3, p4, p5, p6, p7, p8⟩ := HHw7.out.v
      by_cases hkn : k < y.nc
      · obtain ⟨v, hv⟩ : ∃ v, x.cls[k]? = some v := ⟨x.cls[k]'(by rw [HL4.out]; exact hkn), List.getElem?_eq_getElem _⟩
        have HX := hid (any_take_succ (fun c => !colB c) hv)
        have HAt := hid (fun h => any_at (p := fun c => !colB c) hv h)
        obtain ⟨bb, ob, hA, hbb, hcb⟩ := HW4.out.2 (by omega)
        have ce := (HHw7.out.1.cell (p := ⟨bb, ob + k, none⟩) hbb).trans (hcb k v hv)
        rw [hA] at p8
        clear hcb hv
        by_cases c1 : v < 0
        · have u1 : decide (v < 0) = true := by simpa using c1
          have HR := hid (HE.out.trans (if_pos (HAt.out (by simp [colB]; omega))))
          clear c1
          go_wp2_with fail
          go_ret
          exact ⟨by rw [HR.out]; rfl, HHw7.out.1⟩
        · have u1 : decide (v < 0) = false := by simpa using c1
          by_cases c2 : 62 < v
          · have u2 : decide (62 < v) = true := by simpa using c2
            have HR := hid (HE.out.trans (if_pos (HAt.out (by simp [colB]; omega))))
            clear c1 c2
            go_wp2_with fail
            go_ret
            exact ⟨by rw [HR.out]; rfl, HHw7.out.1⟩
          · have u2 : decide (62 < v) = false := by simpa using c2
            have HQ6 : Hid ((x.cls.take (k + 1)).any (fun c => !colB c) = false) := by
              show _ = _
              rw [HX.out, HQ7.out]
              simp [colB]; omega
            clear c1 c2
            go_wp2_with fail
            go_roundw
            case rel => exact ⟨k + 1, by omega, by go_num, HQ6.out, HHw7.out⟩
            case measure => simp [intOf]; omega
      have hkk : k = y.nc := by omega
      have H6 : Hid (x.cls.any (fun c => !colB c) = false) := by
        show _ = _
        rw [← HQ7.out, List.take_of_length_le (by rw [HL4.out]; omega)]
      have HE2 := hid (HE.out.trans (if_neg (by rw [H6.out]; decide)))
      subst hkk
      clear hkn
      by_cases c1 : x.bnd < 0
      · have u1 : decide (x.bnd < 0) = true := by simpa using c1
        have HR := hid (HE2.out.trans (if_pos c1))
        clear c1
        go_wp2_with fail
        go_ret
        exact ⟨by rw [HR.out]; rfl, HHw7.out.1⟩
      · have u1 : decide (x.bnd < 0) = false := by simpa using c1
        have HE3 := hid (HE2.out.trans (if_neg c1))
        by_cases c2 : 4 < y.nv
        · have u2 : decide ((4 : Int) < (y.nv : Int)) = true := by simp; omega
          have HR := hid (HE3.out.trans (if_pos (by rw [HL1.out]; exact c2)))
          clear c1 c2
          go_wp2_with fail
          go_ret
          exact ⟨by rw [HR.out]; rfl, HHw7.out.1⟩
        · have u2 : decide ((4 : Int) < (y.nv : Int)) = false := by simp; omega
          have HR := hid (HE3.out.trans (if_neg (by rw [HL1.out]; exact c2)))
          clear c1 c2
          go_wp2_with fail
          go_ret
          exact ⟨by rw [HR.out]; rfl, HHw7.out.1⟩
theorem right_any (nd : Int) (A : Option Addr) (n c : Nat) (l : List Lnk) (x : Wnt) (y : WSl) (w : World) (hr : RLnk w w.heap.size A n l) (hw : WArg w x y) (hv1 : y.nv ≤ 1000) (hv2 : y.nn ≤ 1000) (hv3 : y.nl ≤ 1000) (hv4 : y.nc ≤ 1000) :
    Calls Try.prog 23 #[.agg #[.int .i64 nd, .slice A n c], .agg #[.int .i64 x.frm, .int .i64 x.too, .int .i64 x.bnd, .slice y.av y.nv y.cv, .slice y.an y.nn y.cn, .slice y.al y.nl y.cl, .slice y.ac y.nc y.cc]] w fun e w' => e = .returned (.int .i64 (rightS nd l x)) ∧ Below w.heap.size w w' := by
  by_cases h : (checkS nd l).2 = 0
  · exact right_in nd A n c l x y w hr hw h hv1 hv2 hv3 hv4
  · exact right_bad nd A n c l x y w hr h
end Go.Proofs.Ytabgbhkpeeibaaa
