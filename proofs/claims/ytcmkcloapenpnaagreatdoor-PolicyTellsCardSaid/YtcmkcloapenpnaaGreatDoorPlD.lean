/- The reference's parser: prefix. -/
import Derived.Test.YtcmkcloapenpnaaGreatDoorPlC
import Derived.Deep.RegionLaw
import Derived.Deep.RegionWith
import Derived.Deep.DeepCutAuto
namespace Go.Proofs.YtcmkcloapenpnaaGreatDoor
open Go.RowKit
set_option maxHeartbeats 6400000
set_option maxRecDepth 100000
theorem pref1_end {l : List Tok} {k : Nat} (h : isS l k 2 = false) : pref1 (Kd l k) = .error (Kd l k) := by
  rcases isS_not h with h1 | ⟨t, h1, h2⟩
  · rw [Kd_none (List.getElem?_eq_none_iff.1 h1)]; rfl
  · rw [Kd_some h1]; exact if_neg (show ¬ (era t).1 = 2 from h2)
theorem pref1_on {l : List Tok} {k : Nat} {t : Tok} (h1 : l[k]? = some t) (h2 : t.kind = 2) : pref1 (Kd l k) = match readS t.text with
    | some p => .ok (p, Kd l (k + 1))
    | none => .error (Kd l k) := by
  rw [Kd_some h1]; exact if_pos (show (era t).1 = 2 from h2)
theorem drew_new (w : World) (o : Obj) : (w.alloc o).drew.heap[w.heap.size]? = some o := heap_alloc_new w o
theorem step_on {w1 W w5 : World} (hb5 : Below W.heap.size W w5) (hW : Below w1.heap.size w1 W) : Below w1.heap.size w1 w5 := hW.trans (hb5.mono hW.size)
theorem But.new {B G j : Nat} {w w' : World} {u : Value} (h : But B w w') (hG : w.heap.size ≤ G) : But B w (w'.setCell ⟨G, j, none⟩ u) :=
  ⟨h.os, h.tape, h.output, by simp [World.setCell]; exact h.size, fun g hg h1 => (heap_setCell_other w' ⟨G, j, none⟩ g u (by show g ≠ G; omega)).trans (h.block g hg h1)⟩
theorem PSt.other {BP G : Nat} {A : Option Addr} {n c : Nat} {l : List Tok} {k : Nat} {b : Bool} {w w' : World} {cs : Array Value} {t : TypeId} {fz : Nat × Nat} (h : PSt BP A n c l k b w) (hb : But G w w') (hG : w.heap[G]? = some (.cells cs t fz)) (h1 : 55 ≠ t) (h2 : 57 ≠ t) : PSt BP A n c l k b w' := by
  refine ⟨(hb.block BP h.lt (fun e => ?_)).trans h.box, own_but h.tok hb hG h2, h.few, h.sml, h.in_⟩
  subst e
  have := h.box
  rw [hG] at this
  simp at this
  exact h1 this.2.1.symm
def PrefAns (BP : Nat) (A : Option Addr) (n c : Nat) (l : List Tok) (k : Nat) (w : World) (e : Ending) (w' : World) : Prop :=
  But BP w w' ∧ ∃ (a m : Nat), e = .returned (.agg #[.int .u32 (a : Int), .int .i64 (m : Int)]) ∧ ((pref1 (Kd l k) = .ok ((a, m), Kd l (k + 1)) ∧ PSt BP A n c l (k + 1) false w') ∨ (pref1 (Kd l k) = .error (Kd l k) ∧ PSt BP A n c l k true w'))
/-- A box stored whole into a fresh block. -/
theorem PSt.put {BP G : Nat} {A : Option Addr} {n c : Nat} {l : List Tok} {k : Nat} {b : Bool} {w : World} {x0 x1 u0 u1 : Value} {t : TypeId} (h : PSt BP A n c l k b w) (hG : w.heap[G]? = some (.cells #[x0, x1] t (0, 0))) (h1 : 55 ≠ t) (h2 : 57 ≠ t) : PSt BP A n c l k b ((w.setCell ⟨G, 0, none⟩ u0).setCell ⟨G, 1, none⟩ u1) :=
  (h.other (But.set (j := 0)) hG h1 h2).other (But.set (j := 1)) (box_set0 hG) h1 h2
/-- Behind ReadPrefix. -/
structure PMid (BP : Nat) (A : Option Addr) (n c : Nat) (l : List Tok) (k : Nat) (a m : Int) (w : World) (BX : Nat) (w' : World) : Prop where
  pst : PSt BP A n c l k false w'
  bel : Below w.heap.size w w'
  res : w'.heap[w.heap.size]? = some (.cells #[.int .u32 0, .int .i64 0] 35 (0, 0))
  box : w'.heap[BX]? = some (.cells #[.int .u32 a, .int .i64 m] 35 (0, 0))
  lt : w.heap.size < BX
theorem pmid_new {BP : Nat} {A : Option Addr} {n c : Nat} {l : List Tok} {k : Nat} {a m : Int} {w w5 : World} (h : PSt BP A n c l k false w5) (hb : Below w.heap.size w w5) (hr : w5.heap[w.heap.size]? = some (.cells #[.int .u32 0, .int .i64 0] 35 (0, 0))) : PMid BP A n c l k a m w w5.heap.size (w5.alloc (.cells #[.int .u32 a, .int .i64 m] 35)) := by
  have h1 := (Below.refl w5.heap.size w5).alloc (Nat.le_refl _) (.cells #[.int .u32 a, .int .i64 m] 35)
  exact ⟨h.on h1, hb.trans (h1.mono hb.size), box_below hr h1 (pst_lt hr), heap_alloc_new w5 _, pst_lt hr⟩
theorem pmid_set {BP G : Nat} {A : Option Addr} {n c : Nat} {l : List Tok} {k : Nat} {a m : Int} {w w5 : World} (h : PSt BP A n c l k false w5) (hb : Below w.heap.size w w5) (hr : w5.heap[w.heap.size]? = some (.cells #[.int .u32 0, .int .i64 0] 35 (0, 0))) (hx : w5.heap[G]? = some (.cells #[.int .u32 0, .int .i64 0] 35 (0, 0))) (hG : w.heap.size < G) : PMid BP A n c l k a m w G ((w5.setCell ⟨G, 0, none⟩ (.int .u32 a)).setCell ⟨G, 1, none⟩ (.int .i64 m)) :=
  ⟨h.put hx (by decide) (by decide), (hb.setCell (by show _ ≤ G; omega) _).setCell (by show _ ≤ G; omega) _, (heap_setCell_other _ _ _ _ (by show _ ≠ G; omega)).trans ((heap_setCell_other _ _ _ _ (by show _ ≠ G; omega)).trans hr), box_set1 (box_set0 hx), hG⟩
theorem readV_form (x : Option (Nat × Nat)) : ∃ (a m : Nat) (ok : Bool), readV x = .tuple #[.agg #[.int .u32 (a : Int), .int .i64 (m : Int)], .bool ok] ∧ (ok = true → x = some (a, m)) ∧ (ok = false → x = none) := by
  cases x with
  | none => exact ⟨0, 0, false, rfl, fun h => (by cases h), fun _ => rfl⟩
  | some p => obtain ⟨a, m⟩ := p; exact ⟨a, m, true, rfl, fun _ => rfl, fun h => (by cases h)⟩
theorem pprefix_any (BP : Nat) (A : Option Addr) (n c : Nat) (l : List Tok) (k : Nat) (w : World) (h : PSt BP A n c l k false w) :
    Calls Tryz.prog 60 #[.pointer (some ⟨BP, 0, none⟩)] w (PrefAns BP A n c l k w) := by
  have hb0 : Below w.heap.size w (w.alloc (.cells #[.int .u32 0, .int .i64 0] 35)) := (Below.refl _ _).alloc (Nat.le_refl _) _
  have h0 := h.on hb0
  have hBP := h.lt
  obtain ⟨c0, c1, c2, _⟩ := pbox_cells h0.box
  have hlen := h.len
  have hin := h.in_
  have HI := hid (is_any BP A n c l k false 2 _ h0)
  have HX0 := hid (heap_alloc_new w (.cells #[.int .u32 0, .int .i64 0] 35))
  have H0 := hid h0
  have HB0 := hid hb0
  cases hi : isS l k 2 with
  | false =>
    rw [hi] at HI
    have HQ := hid (pref1_end hi)
    clear hi h h0 hlen hin hb0
    go_enter Tryz.func60, Tryz.ntmps60
    go_wp2_with (go_at_call 40; (with_reducible refine HI.out.mono ?_); rintro e' w1 ⟨rfl, hb1⟩; have h1 := H0.out.on hb1; have H1 := hid h1; have HB1 := hid (HB0.out.trans (hb1.mono HB0.out.size)); have HX1 := hid (box_below HX0.out hb1 (pst_lt HX0.out)); have HX1' := hid ((heap_setCell_other w1 ⟨BP, 2, none⟩ w.heap.size (.bool true) (by show w.heap.size ≠ BP; omega)).trans HX1.out); obtain ⟨y0, y1, yf⟩ := box_cells HX1'.out; have yf0 := yf 0; have yf1 := yf 1; obtain ⟨d0, d1, d2, df⟩ := pbox_cells h1.box; have df2 := df 2; clear h1 hb1 df yf)
    have hg := box_set1 (u := .int .i64 0) (box_set0 (u := .int .u32 0) HX1'.out)
    try simp only [Exit.inBlock, Exit.then]
    refine bodyPost_ret (results_cell_row (p := 2) (fn := Tryz.f60) rfl _ _ _ _ _ _ _ rfl hg Tryz.underlying35 rfl (by kernel_rfl)) rfl ?_
    have hp := H1.out.turn (b' := true) But.set (pbox_set2 H1.out.box) H1.out.in_
    have hp2 := hp.other (But.set (j := 0) (u := .int .u32 0)) HX1'.out (by decide) (by decide)
    have hp3 := hp2.other (But.set (j := 1) (u := .int .i64 0)) (box_set0 (u := .int .u32 0) HX1'.out) (by decide) (by decide)
    exact ⟨(((But.of HB1.out).trans But.set).new (Nat.le_refl _)).new (Nat.le_refl _), 0, 0, rfl, .inr ⟨HQ.out, hp3⟩⟩
  | true =>
    rw [hi] at HI
    obtain ⟨t, ht, hkd⟩ := isS_yes hi
    have hk : k < n := by rw [← hlen]; exact (List.getElem?_eq_some_iff.1 ht).1
    have htl := h.sml t (List.mem_of_getElem? ht)
    have HQ := hid (pref1_on ht hkd)
    have HT := hid ht
    have k1 : (k : Int) < (n : Int) := by omega
    have Hk := hid hk
    obtain ⟨a, m, ok, hV, hV1, hV2⟩ := readV_form (readS t.text)
    have HR := hid (fun w' => hV ▸ read_any t.text w' (by omega))
    have HV1 := hid hV1
    have HV2 := hid hV2
    clear hi h h0 hlen hin hb0 ht htl hk hkd hV hV1 hV2
    go_enter Tryz.func60, Tryz.ntmps60
    go_upto_region 4 with (go_at_call 40; (with_reducible refine HI.out.mono ?_); rintro e' w1 ⟨rfl, hb1⟩; have hdr : Below w1.heap.size w1 w1.drew := (Below.refl _ _).drew; have h1 := H0.out.on hb1; have H1 := hid h1; have HB1 := hid (HB0.out.trans (hb1.mono HB0.out.size)); have HX1 := hid (box_below HX0.out hb1 (pst_lt HX0.out)); have h2 := h1.on hdr; have h3 := h1.on (((Below.refl w1.heap.size w1).alloc (Nat.le_refl _) (.cells #[.int .u32 0, .int .i64 0] 35)).drew); obtain ⟨d0, d1, d2, df⟩ := pbox_cells h2.box; obtain ⟨b0, b1, b2, bf⟩ := pbox_cells h3.box; obtain ⟨g, hA, hg, x0, x1, x2⟩ := h2.at HT.out; subst hA; obtain ⟨g', hA', _, u0, u1, u2⟩ := h3.at HT.out; injection hA' with hA'; injection hA' with hA' _ _; subst hA'; obtain ⟨v0, v1, v2, _⟩ := pbox_cells h1.box; clear h1 h2 h3 hb1 df bf hdr)
    go_cut [3, 4] (fun p s wx => ∃ BX : Nat, p = .pointer (some ⟨BX, 0, none⟩) ∧ s = .bool ok ∧ Hid (PMid BP (some ⟨g, 0, none⟩) n c l k (a : Int) (m : Int) w BX wx))
    case first =>
      go_wp2_with fail
      go_region_law (first
        | (go_simp; go_at_call 69; (with_reducible refine (HR.out _).mono ?_); rintro e' w5 ⟨rfl, hb5⟩; (first | (have hX5 := box_below (drew_new w1 _) hb5 (by simp); have hb6 := step_on hb5 (((Below.refl w1.heap.size w1).alloc (Nat.le_refl _) _).drew); have h5 := H1.out.on hb6; have H5 := hid h5; have HB5 := hid (HB1.out.trans (hb6.mono HB1.out.size)); have HX5 := hid (box_below HX1.out hb6 (pst_lt HX1.out)); have HXX := hid hX5; have hlt5 : w.heap.size < w1.heap.size := pst_lt HX1.out; obtain ⟨z0, z1, zf⟩ := box_cells hX5; have zf0 := zf 0; have zf1 := zf 1; clear h5 hb5 hb6 hX5 zf) | (have hb6 := step_on hb5 ((Below.refl w1.heap.size w1).drew); have h5 := H1.out.on hb6; have H5 := hid h5; have HB5 := hid (HB1.out.trans (hb6.mono HB1.out.size)); have HX5 := hid (box_below HX1.out hb6 (pst_lt HX1.out)); clear h5 hb5 hb6))))
      all_goals
        go_wp2_with fail
        go_meet
        first
          | exact ⟨_, rfl, rfl, hid (pmid_new H5.out HB5.out HX5.out)⟩
          | exact ⟨_, rfl, rfl, hid (pmid_set H5.out HB5.out HX5.out HXX.out hlt5)⟩
    case rest =>
      obtain ⟨BX, rfl, rfl, HM⟩ := hcut
      obtain ⟨m0, m1, m2, mf⟩ := pbox_cells HM.out.pst.box
      have mf1 := mf 1
      have mf2 := mf 2
      obtain ⟨y0, y1, yf⟩ := box_cells HM.out.res
      have yf0 := yf 0
      have yf1 := yf 1
      obtain ⟨z0, z1, _⟩ := box_cells HM.out.box
      have e0 : IntKind.i64.wrap ((k : Int) + 1) = (k : Int) + 1 := by rw [IntKind.wrap_i64]; have := HM.out.pst.few; omega
      have hne : w.heap.size ≠ BP := by omega
      have hlx := HM.out.lt
      cases ok with
      | false =>
        rw [HV2.out rfl] at HQ
        go_wp2_with fail
        have hX := (heap_setCell_other _ ⟨BP, 2, none⟩ w.heap.size (.bool true) hne).trans HM.out.res
        have hg := box_set1 (u := .int .i64 0) (box_set0 (u := .int .u32 0) hX)
        try simp only [Exit.inBlock, Exit.then]
        refine bodyPost_ret (results_cell_row (p := 2) (fn := Tryz.f60) rfl _ _ _ _ _ _ _ rfl hg Tryz.underlying35 rfl (by kernel_rfl)) rfl ?_
        have hp := HM.out.pst.turn (b' := true) But.set (pbox_set2 HM.out.pst.box) HM.out.pst.in_
        exact ⟨(((But.of HM.out.bel).trans But.set).new (Nat.le_refl _)).new (Nat.le_refl _), 0, 0, rfl, .inr ⟨HQ.out, hp.put hX (by decide) (by decide)⟩⟩
      | true =>
        rw [HV1.out rfl] at HQ
        go_wp2_with fail
        have hX := (heap_setCell_other _ ⟨BP, 1, none⟩ w.heap.size (.int .i64 ((k : Int) + 1)) hne).trans HM.out.res
        have hg := box_set1 (u := .int .i64 (m : Int)) (box_set0 (u := .int .u32 (a : Int)) hX)
        try simp only [Exit.inBlock, Exit.then]
        refine bodyPost_ret (results_cell_row (p := 2) (fn := Tryz.f60) rfl _ _ _ _ _ _ _ rfl hg Tryz.underlying35 rfl (by kernel_rfl)) rfl ?_
        have hp := HM.out.pst.turn (k' := k + 1) (b' := false) But.set (pbox_set1 HM.out.pst.box) Hk.out
        exact ⟨(((But.of HM.out.bel).trans But.set).new (Nat.le_refl _)).new (Nat.le_refl _), a, m, rfl, .inl ⟨HQ.out, hp.put hX (by decide) (by decide)⟩⟩
end Go.Proofs.YtcmkcloapenpnaaGreatDoor
