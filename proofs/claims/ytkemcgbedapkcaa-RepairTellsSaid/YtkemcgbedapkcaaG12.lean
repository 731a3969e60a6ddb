/- Merged: CqF CqG. -/
import Derived.Test.YtkemcgbedapkcaaG11
import Derived.Deep.CutRange
import Derived.StillTailTactics
/- The reference's (*reach).from: a state that is not known yet. -/
namespace Go.Proofs.Ytkemcgbedapkcaa
open Go.RowKit
set_option maxHeartbeats 12800000
set_option maxRecDepth 100000
section
variable {w0 : World} {base B KB EB : Nat} {kb eb : Nat → Nat} {cK cE po pt : Nat} {bt : Int} {N m : Nat} {K : Nat → Nat → Int} {D : Nat → Nat → Int × Int}
/-- Beside a call: the two boxes, what is known. -/
def MF (w0 : World) (base B KB EB : Nat) (kb eb : Nat → Nat) (cK cE po pt : Nat) (bt : Int) (N m : Nat) (K : Nat → Nat → Int) (D : Nat → Nat → Int × Int) (w : World) (v k : Int) (wx : World) : Prop :=
  RcM w0 base B KB EB kb eb cK cE po pt bt N m K D wx ∧ FBx w base v k 0 0 wx ∧ Below w.heap.size w wx
theorem MF.on {w : World} {v k : Int} {wx wy : World} (h : MF w0 base B KB EB kb eb cK cE po pt bt N m K D w v k wx) (hb : Below wx.heap.size wx wy) : MF w0 base B KB EB kb eb cK cE po pt bt N m K D w v k wy :=
  ⟨h.1.on hb, h.2.1.on hb, h.2.2.trans (hb.mono h.2.2.size)⟩
/-- How far the answers so far agree. -/
def PreC (L : List (Option (Int × Int))) (i : Nat) (b : Bool) (ea eb' : Int) : Prop :=
  (i = 0 → b = decide (0 < L.length)) ∧ (0 < i → meetO (L.take i) = if b = true then some (ea, eb') else none)
theorem PreC.next {L : List (Option (Int × Int))} {i : Nat} {ea eb' : Int} (h : PreC L i true ea eb') {q : Option (Int × Int)} (hq : L[i]? = some q) {is : Bool} {a b : Int} (he : q = if is = true then some (a, b) else none) :
    PreC L (i + 1) (is && (((i : Int) == 0) || ((a == ea) && (b == eb')))) a b := by
  refine ⟨fun h => by omega, fun _ => ?_⟩
  rw [List.take_add_one, hq]
  show meetO (L.take i ++ [q]) = _
  by_cases h0 : i = 0
  · subst h0
    rw [List.take_zero]
    show q = _
    rw [he]
    cases is <;> rfl
  · have hp := h.2 (by omega)
    rw [if_pos rfl] at hp
    rw [meetO_snoc_some hp, he]
    have h00 : ((i : Int) == 0) = false := by simp; omega
    rw [h00, Bool.false_or]
    cases is with
    | false => simp
    | true =>
      simp only [if_true, Bool.true_and]
      by_cases hab : a = ea ∧ b = eb'
      · obtain ⟨rfl, rfl⟩ := hab
        simp
      · rw [if_neg (fun c => hab (by injection c with c; injection c with c1 c2; exact ⟨c1, c2⟩))]
        have : ((a == ea) && (b == eb')) = false := by
          rw [Bool.and_eq_false_iff]
          by_cases h1 : a = ea
          · right; simpa using fun c => hab ⟨h1, c⟩
          · left; simpa using h1
        rw [this]
        rfl
theorem PreC.stop {L : List (Option (Int × Int))} {i : Nat} {ea eb' : Int} (h : PreC L i false ea eb') (hi : i ≤ L.length) : meetO L = none := by
  by_cases h0 : i = 0
  · subst h0
    have := h.1 rfl
    have hl : L.length = 0 := by
      have := decide_eq_false_iff_not.1 this.symm
      omega
    rw [List.length_eq_zero_iff.1 hl]
    rfl
  · exact meetO_bad (by have := h.2 (by omega); simpa using this) h0 hi
theorem PreC.all {L : List (Option (Int × Int))} {ea eb' : Int} (h : PreC L L.length true ea eb') (h0 : 0 < L.length) : meetO L = some (ea, eb') := by
  have := h.2 h0
  rw [List.take_length] at this
  simpa using this
theorem goodM_none {N m : Nat} {R : Int × Int → Option (Int × Int)} {K : Nat → Nat → Int} {D : Nat → Nat → Int × Int} (h : GoodM N m R K D) {v k : Nat} (_ : v < N) (_ : k < m) (hR : R ((v : Int), (k : Int)) = none) : GoodM N m R (updM K v k 2) D := by
  intro v' k' h1 h2
  unfold updM
  by_cases e : v' = v ∧ k' = k
  · obtain ⟨rfl, rfl⟩ := e
    rw [if_pos ⟨rfl, rfl⟩]
    exact Or.inr (Or.inr ⟨rfl, hR⟩)
  · rw [if_neg e]
    exact h v' k' h1 h2
theorem goodM_some {N m : Nat} {R : Int × Int → Option (Int × Int)} {K : Nat → Nat → Int} {D : Nat → Nat → Int × Int} (h : GoodM N m R K D) {v k : Nat} (_ : v < N) (_ : k < m) {a b : Int} (hR : R ((v : Int), (k : Int)) = some (a, b)) : GoodM N m R (updM (updM K v k 2) v k 1) (updM D v k (a, b)) := by
  intro v' k' h1 h2
  unfold updM
  by_cases e : v' = v ∧ k' = k
  · obtain ⟨rfl, rfl⟩ := e
    rw [if_pos ⟨rfl, rfl⟩, if_pos ⟨rfl, rfl⟩]
    exact Or.inr (Or.inl ⟨rfl, hR⟩)
  · rw [if_neg e, if_neg e, if_neg e]
    exact h v' k' h1 h2
theorem from_new {A : Option Addr} {n c : Nat} {l : List Lnk} {x : Wnt} {gn : List Bool} {A' : Option Addr} {n' c' : Nat} {vD : Value} {vs : List Value} (hga : GArg w0 (N : Int) A n c l) (ho : OptAt (N : Int) A n c l x gn po w0) (hr0 : rightS (N : Int) l x = 0) (hok : GOk N l) (ht : RAt pt A' n' c' vD vs N l w0) (hm : (ptsS x).length = m)
    (v k : Nat) (w : World) (h : RcM w0 base B KB EB kb eb cK cE po pt bt N m K D w) (hg : GoodM N m (reachO N l x gn bt) K D) (hv : v < N) (hk : k < m) (hvb : (v : Int) ≠ bt) (hK : K v k = 0)
    (IH : ∀ (v' k' : Nat) (K : Nat → Nat → Int) (D : Nat → Nat → Int × Int) (wx : World), (distT N l (v' : Int) bt).toNat < (distT N l (v : Int) bt).toNat → v' < N → k' < m → RcM w0 base B KB EB kb eb cK cE po pt bt N m K D wx → GoodM N m (reachO N l x gn bt) K D →
      Calls Try.prog 57 #[.pointer (some ⟨B, 0, none⟩), .agg #[.int .i64 v', .int .i64 k']] wx (FromAns w0 base B KB EB kb eb cK cE po pt bt N m (reachO N l x gn bt) v' k' wx)) :
    Calls Try.prog 57 #[.pointer (some ⟨B, 0, none⟩), .agg #[.int .i64 v, .int .i64 k]] w (FromAns w0 base B KB EB kb eb cK cE po pt bt N m (reachO N l x gn bt) v k w) := by
  have F0 := fbx_start (base := base) w v k
  obtain ⟨w2, hw2⟩ : ∃ w2, (w.alloc (.cells #[.int .i64 v, .int .i64 k] 92)).alloc (.cells #[.int .i64 0, .int .i64 0] 92) = w2 := ⟨_, rfl⟩
  have hb2 : Below w.heap.size w w2 := by rw [← hw2]; exact ((Below.refl _ _).alloc (Nat.le_refl _) _).alloc (by simp) _
  rw [hw2] at F0
  have M2 := h.on hb2
  obtain ⟨⟨b0, b1, b2, b3, b4⟩, _⟩ := M2.cells hv hk
  obtain ⟨c0, c1, c2, _⟩ := F0.cells
  have t1 : ((v : Int) == bt) = false := by simpa using hvb
  have hN40 := hok.2.2.1
  obtain ⟨hck, hpv, hv4⟩ := right_ok hr0
  have hm6 : m ≤ 6 := by have := ptsS_len x; omega
  have vN : (v : Int) < (N : Int) := by omega
  have kM : (k : Int) < (m : Int) := by omega
  have HM2 := hid (show MF w0 base B KB EB kb eb cK cE po pt bt N m K D w v k w2 from ⟨M2, F0, hb2⟩)
  have HV := hid (And.intro (And.intro hv hk) hK)
  have HG := hid hg
  have Hsz := hid h.sz
  have Hbase := hid h.bel
  have HNx := hid (fun (W : World) (hb : Below w0.heap.size w0 W) => refTNext_own pt A' n' c' vD vs N l (v : Int) bt W (ht.on hb) hok ⟨by omega, by omega⟩)
  have HSt := hid (fun (e : Int) (he : -9223372036854775808 ≤ e ∧ e ≤ 9223372036854775807) (W : World) (hb : Below w0.heap.size w0 W) => optStep_spec (N : Int) A n c l x gn po v k e W (ho.on hb) ⟨hga.row.on hb, hga.len, hga.cap, hga.non, hga.lo, hga.hi⟩ hr0 ⟨by omega, by omega⟩ ⟨by omega, by omega⟩ he)
  have HI := hid IH
  have HR : Hid (reachO N l x gn bt ((v : Int), (k : Int)) = meetO ((nextT N l (v : Int) bt).map fun e => (stepO N l x gn v k e).bind (reachO N l x gn bt))) := by
    show _ = _
    rw [reachO_eq hok, if_neg hvb]
  clear h hg F0 M2 hb2 hvb hK ho ht hga IH
  go_enter Try.func57, Try.ntmps57
  go_upto_region 1 with fail
  try simp only [hw2]
  clear hw2
  go_big_quiet (fail)
  go_upto_region 3 with fail
  have HM3 := hid (HM2.out.on (Below.drewN' w2 nq))
  obtain ⟨w3, hw3⟩ : ∃ w3, w2.drewN nq = w3 := ⟨_, rfl⟩
  simp only [hw3]
  rw [hw3] at HM3
  obtain ⟨⟨x0, x1, x2, x3, x4⟩, x5, x6, x7, x8, x9, x10, x11⟩ := HM3.out.1.cells HV.out.1.1 HV.out.1.2
  obtain ⟨y0, y1, y2, _⟩ := HM3.out.2.1.cells
  rw [HV.out.2] at x7
  clear b0 b1 b2 b3 b4 c0 c1 c2 hw3 nq
  go_big_quiet (fail)
  go_upto_region 5 with fail
  have HM4 := hid (HM3.out.on (Below.drewN' w3 nq))
  obtain ⟨w4, hw4⟩ : ∃ w4, w3.drewN nq = w4 := ⟨_, rfl⟩
  simp only [hw4]
  rw [hw4] at HM4
  clear x0 x1 x2 x3 x4 x5 x6 x7 x8 x9 x10 x11 y0 y1 y2 hw4 nq
  obtain ⟨⟨x0, x1, x2, x3, x4⟩, _⟩ := HM4.out.1.cells HV.out.1.1 HV.out.1.2
  obtain ⟨y0, y1, y2, y3, y4⟩ := HM4.out.2.1.cells
  obtain ⟨L, hL⟩ : ∃ L, nextT N l (v : Int) bt = L := ⟨_, rfl⟩
  rw [hL] at HNx HR
  have hb4 : Below w0.heap.size w0 w4.drew := HM4.out.1.bel.drew
  have HNy := hid (HNx.out _ hb4)
  clear hb4
  go_region_held3 (fun W => W.cell? ⟨B, 1, none⟩ = some (.pointer (some ⟨pt, 0, none⟩)) ∧ W.cell? ⟨B, 2, none⟩ = some (.int .i64 bt) ∧ W.cell? ⟨w.heap.size, 0, none⟩ = some (.int .i64 (v : Int)))
    (first | exact ⟨x1, x2, y0⟩ | exact s5)
    (first | (go_at_call 15; (with_reducible refine HNy.out.mono ?_); rintro e1 w5 ⟨vL, rfl, hoL, hb5⟩; obtain ⟨A5, c5, rfl⟩ := own_form hoL; have HM5 := hid ((HM4.out.on (Below.drewN' w4 1)).on hb5); have HoL := hid hoL; have s5 : w5.cell? ⟨B, 1, none⟩ = some (.pointer (some ⟨pt, 0, none⟩)) ∧ w5.cell? ⟨B, 2, none⟩ = some (.int .i64 bt) ∧ w5.cell? ⟨w.heap.size, 0, none⟩ = some (.int .i64 (v : Int)) := ⟨(HM5.out.1.cells HV.out.1.1 HV.out.1.2).1.2.1, (HM5.out.1.cells HV.out.1.1 HV.out.1.2).1.2.2.1, HM5.out.2.1.cells.1⟩; clear hoL hb5))
  clear x0 x1 x2 x3 x4 y0 y1 y2 y3 y4 s5 HNy HM2 HM3
  obtain ⟨n5, hn5⟩ : ∃ n5, L.length = n5 := ⟨_, rfl⟩
  simp only [hn5]
  have hL240 : n5 ≤ 240 := by
    rw [← hn5, ← hL]
    have := nextT_len N l (v : Int) bt
    have := hok.1
    omega
  have HE0 := hid (show LpSt w0 base B KB EB kb eb cK cE po pt bt N m K D (w5.alloc (.cells #[.int .i64 0, .int .i64 0] 92)) w5.heap.size 0 0 (w5.alloc (.cells #[.int .i64 0, .int .i64 0] 92)) from
    ⟨HM5.out.1.on ((Below.refl _ _).alloc (Nat.le_refl _) _), by simp, heap_alloc_new w5 _, fun _ _ _ => rfl, HM5.out.1.sz⟩)
  have HFS := hid (show FBx w base v k 0 0 (w5.alloc (.cells #[.int .i64 0, .int .i64 0] 92)) from HM5.out.2.1.on ((Below.refl _ _).alloc (Nat.le_refl _) _))
  have hoL' := own_mono HoL.out (show w.heap.size ≤ w4.drew.heap.size from HM4.out.2.2.size)
  have HOS := hid (show (w5.alloc (.cells #[.int .i64 0, .int .i64 0] 92)).ownsRow w.heap.size 3 1 (.slice A5 L.length c5) L.length (icells L) from own_below hoL' ((Below.refl _ _).alloc (Nat.le_refl _) _))
  have HOB := hid (show ∀ g, (Value.slice A5 L.length c5).ownBlock = some g → g < w5.heap.size from fun g hgb => by
    rcases HoL.out.2 with ⟨h1, _⟩ | ⟨g', cap, cur, h1, _, h3, _⟩
    · rw [h1] at hgb; cases hgb
    · rw [h1] at hgb
      have e : some g' = some g := hgb
      injection e with e
      subst e
      exact blk_lt h3)
  have hEw : w.heap.size + 1 < w5.heap.size := blk_lt HM5.out.2.1.res
  obtain ⟨P, hP⟩ : ∃ P, L.map (fun e => (stepO N l x gn v k e).bind (reachO N l x gn bt)) = P := ⟨_, rfl⟩
  rw [hP] at HR
  have hPl : P.length = n5 := by rw [← hP, List.length_map, hn5]
  have HP := hid (And.intro hP hPl)
  have HLm := hid (And.intro hL hn5)
  rw [hn5] at HOS HOB
  clear hoL' hP hPl hL
  go_wp2_with fail
  obtain ⟨E, hE⟩ : ∃ E, w5.heap.size = E := ⟨_, rfl⟩
  obtain ⟨wS, hwS⟩ : ∃ wS, w5.alloc (.cells #[.int .i64 0, .int .i64 0] 92) = wS := ⟨_, rfl⟩
  simp only [hE, hwS]
  rw [hwS, hE] at HE0
  rw [hwS] at HFS HOS
  rw [hE] at HOB hEw
  clear hE hwS
  have HLo := hid (show ∀ (i : Nat) (e : Int), L[i]? = some e → -9223372036854775808 ≤ e ∧ e ≤ 9223372036854775807 from fun i e he => by
    have hm := List.mem_of_getElem? he
    rw [← HLm.out.1] at hm
    obtain ⟨k', _, _, _, rfl, _, hk', _⟩ := nextT_mem hok hm
    have := hok.1
    omega)
  go_loopw [7, 9, 10, 11, 12] (fun okv iv _ _ _ wr => ∃ (i : Nat) (ok : Bool) (K1 : Nat → Nat → Int) (D1 : Nat → Nat → Int × Int) (ea eb1 : Int), i ≤ n5 ∧ okv = .bool ok ∧ iv = .int .i64 i ∧ Hid (LpSt w0 base B KB EB kb eb cK cE po pt bt N m K1 D1 wS E ea eb1 wr) ∧ Hid (GoodM N m (reachO N l x gn bt) K1 D1) ∧ Hid (PreC P i ok ea eb1)) (fun _ iv _ _ _ _ => n5 - (intOf iv).toNat)
  case atStart => exact ⟨0, _, K, D, 0, 0, Nat.zero_le _, rfl, rfl, HE0, HG, fun _ => by rw [HP.out.2], fun h => by omega⟩
  case round =>
    obtain ⟨i, ok, K1, D1, ea, eb1, hi, rfl, rfl, HLp, HGd, HPc⟩ := hrel
    by_cases hlt : i < n5
    · cases ok with
      | true =>
        have kl : decide ((i : Int) < (n5 : Int)) = true := decide_eq_true (by omega)
        obtain ⟨e, he⟩ : ∃ e, L[i]? = some e := ⟨L[i]'(by rw [HLm.out.2]; exact hlt), List.getElem?_eq_getElem _⟩
        have hown := HLp.out.own HOS.out (by have := Hsz.out; exact this) HOB.out
        obtain ⟨g, rfl⟩ : ∃ g, A5 = some ⟨g, 0, none⟩ := by
          rcases hown.2 with ⟨_, h1⟩ | ⟨g, cap, cur, h1, _⟩
          · omega
          · simp only [Value.slice.injEq] at h1; exact ⟨g, h1.1⟩
        have zl := hown.cells (g := g) rfl i (.int .i64 e) (by unfold icells; rw [List.getElem?_map, he]; rfl)
        rw [Go.WideShapes.add_plain, Nat.zero_add] at zl
        have kli : (i : Int) < (n5 : Int) := by omega
        have hFB := HLp.out.fbx HFS.out Hsz.out hEw
        obtain ⟨y0, y1, _, _, _⟩ := hFB.cells
        obtain ⟨⟨x0, x1, x2, x3, x4⟩, _⟩ := HLp.out.mem.cells HV.out.1.1 HV.out.1.2
        have hq : P[i]? = some ((stepO N l x gn v k e).bind (reachO N l x gn bt)) := by rw [← HP.out.1, List.getElem?_map, he]; rfl
        have HQ := hid hq
        have HEe := hid (HLo.out i e he)
        have Hee := hid he
        have HEm := hid (List.mem_of_getElem? he)
        have HSe := hid (fun W hb => HSt.out e HEe.out W hb)
        obtain ⟨so, hso⟩ : ∃ so, stepO N l x gn v k e = so := ⟨_, rfl⟩
        rw [hso] at HSe HQ
        have Hso := hid hso
        obtain ⟨q1, q2, is, hstep, hsoq⟩ : ∃ (q1 q2 : Int) (is : Bool), stepV so = .tuple #[.agg #[.int .i64 q1, .int .i64 q2], .bool is] ∧ so = if is = true then some (q1, q2) else none := by
          cases so with
          | none => exact ⟨0, 0, false, rfl, rfl⟩
          | some p => exact ⟨p.1, p.2, true, rfl, rfl⟩
        rw [hstep] at HSe
        have Hsq := hid hsoq
        have hbA : Below w0.heap.size w0 wr.drew := HLp.out.mem.bel.drew
        have hbB : Below w0.heap.size w0 (wr.alloc (.cells #[.int .i64 0, .int .i64 0] 92)).drew := (HLp.out.mem.bel.alloc HLp.out.mem.bel.size _).drew
        have HSA := hid (HSe.out _ hbA)
        have HSB := hid (HSe.out _ hbB)
        have HLB := hid ((HLp.out.on ((Below.refl _ _).alloc (Nat.le_refl _) (.cells #[.int .i64 0, .int .i64 0] 92))).on (Below.drewN' (wr.alloc (.cells #[.int .i64 0, .int .i64 0] 92)) 1))
        have HNB := hid (heap_alloc_new wr (.cells #[.int .i64 0, .int .i64 0] 92))
        have HFC := hid (show ∀ wx, LpSt w0 base B KB EB kb eb cK cE po pt bt N m K1 D1 wS E ea eb1 wx → wx.cell? ⟨B, 0, none⟩ = some (.pointer (some ⟨po, 0, none⟩)) ∧ wx.cell? ⟨w.heap.size, 0, none⟩ = some (.int .i64 (v : Int)) ∧ wx.cell? ⟨w.heap.size, 1, none⟩ = some (.int .i64 (k : Int)) ∧ wx.cell? ⟨g, i, none⟩ = some (.int .i64 e) from fun wx hx => by
          have hFB := hx.fbx HFS.out Hsz.out hEw
          have zl := (hx.own HOS.out Hsz.out HOB.out).cells (g := g) rfl i (.int .i64 e) (by unfold icells; rw [List.getElem?_map, Hee.out]; rfl)
          rw [Go.WideShapes.add_plain, Nat.zero_add] at zl
          exact ⟨(hx.mem.cells HV.out.1.1 HV.out.1.2).1.1, hFB.cells.1, hFB.cells.2.1, zl⟩)
        have Hlt := hid HLp.out.lt
        clear hown hFB hq hso hbA hbB hstep hsoq
        go_upto_region 11 with fail
        go_cut [10, 11] from 74 to 114 (fun p isv wx => ∃ nb, p = .pointer (some ⟨nb, 0, none⟩) ∧ isv = .bool is ∧ E < nb ∧ Hid (wx.heap[nb]? = some (.cells #[.int .i64 q1, .int .i64 q2] 92 (0, 0))) ∧ Hid (LpSt w0 base B KB EB kb eb cK cE po pt bt N m K1 D1 wS E ea eb1 wx))
        case first =>
          go_region_held3 (fun W => W.cell? ⟨B, 0, none⟩ = some (.pointer (some ⟨po, 0, none⟩)) ∧ W.cell? ⟨w.heap.size, 0, none⟩ = some (.int .i64 (v : Int)) ∧ W.cell? ⟨w.heap.size, 1, none⟩ = some (.int .i64 (k : Int)) ∧ W.cell? ⟨g, i, none⟩ = some (.int .i64 e))
            (first | go_keep | exact ⟨x0, y0, y1, zl⟩ | exact s5 | exact s6 | exact HFC.out _ HLB.out | exact HFC.out _ ((HL6.out.far Hlt.out _).far Hlt.out _))
            (first
              | (go_at_call 56; (with_reducible refine HSA.out.mono ?_); rintro e1 w6 ⟨rfl, hb6⟩; have HL6 := hid ((HLp.out.on (Below.drewN' wr 1)).on hb6); have s5 := HFC.out _ HL6.out)
              | (go_at_call 56; (with_reducible refine HSB.out.mono ?_); rintro e1 w6 ⟨rfl, hb6⟩; have HL6 := hid (HLB.out.on hb6); have s6 := HFC.out _ HL6.out; have HN6 := hid (box_below HNB.out ((Below.drewN' (wr.alloc (.cells #[.int .i64 0, .int .i64 0] 92)) 1).trans (hb6.mono (Nat.le_refl _))) (blk_lt HNB.out)); obtain ⟨n0, n1, n2⟩ := box_cells HN6.out))
          · go_wp2_with fail
            go_meet
            exact ⟨w6.heap.size, rfl, rfl, HL6.out.lt, heap_alloc_new w6 _, HL6.out.on ((Below.refl _ _).alloc (Nat.le_refl _) _)⟩
          · go_wp2_with fail
            go_meet
            exact ⟨wr.heap.size, rfl, rfl, Hlt.out, heap_setCell_same _ _ 1 _ _ (.int .i64 q2) (heap_setCell_same w6 _ 0 _ _ (.int .i64 q1) HN6.out), (HL6.out.far Hlt.out _).far Hlt.out _⟩
        case rest =>
          obtain ⟨nb, rfl, rfl, hEn, HNb, HL7⟩ := hcut
          have HL8 := hid (HL7.out.on ((Below.refl _ _).alloc (Nat.le_refl _) (.cells #[.int .i64 0, .int .i64 0] 92)))
          have HN8 := hid (box_below HNb.out (Below.alloc (Below.refl _ _) (Nat.le_refl _) (.cells #[.int .i64 0, .int .i64 0] 92)) (blk_lt HNb.out))
          have HF8 := hid (heap_alloc_new wc (.cells #[.int .i64 0, .int .i64 0] 92))
          have hEF : E < wc.heap.size := HL7.out.lt
          clear x0 x1 x2 x3 x4 y0 y1 zl HSA HSB HLB HNB HFC HSe
          cases is with
          | false =>
            obtain ⟨d0, d1, d2⟩ := HL7.out.ecells
            obtain ⟨g0, g1, g2⟩ := HL8.out.ecells
            have HPn := hid (HPc.out.next (is := false) (a := 0) (b := 0) HQ.out (by rw [Hsq.out]; rfl))
            go_wp2_with fail
            go_roundw
            case rel => exact ⟨i + 1, false, K1, D1, 0, 0, by omega, rfl, by go_num, (HL7.out.putE 0 0).on ((Below.refl _ _).alloc (Nat.le_refl _) (.cells #[.int .i64 0, .int .i64 0] 92)), HGd, HPn⟩
            case measure => simp [intOf]; omega
          | true =>
            have hs1 : stepO N l x gn v k e = some (q1, q2) := by rw [Hso.out, Hsq.out]; rfl
            obtain ⟨vb, kq, hvb', hkq, hq1, hq2⟩ : ∃ vb kq : Nat, vb < N ∧ kq < m ∧ q1 = (vb : Int) ∧ q2 = (kq : Int) := by
              obtain ⟨_, _, vb, kq, _, _, _, _, _, _, _, h1, hpq, _, h2, _⟩ := stepO_form hr0 hs1
              injection hpq with p1 p2
              exact ⟨vb, kq, by omega, by rw [← hm]; exact h2, p1, p2⟩
            subst hq1 hq2
            have hnear := next_near hok (b := bt) (p := ((v : Int), (k : Int))) (q := ((vb : Int), (kq : Int))) (e := e) (by show e ∈ nextT N l (v : Int) bt; rw [HLm.out.1]; exact HEm.out) hs1
            have HCl := hid (HI.out vb kq K1 D1 _ hnear hvb' hkq HL8.out.mem HGd.out)
            obtain ⟨n0, n1, n2⟩ := box_cells HN8.out
            obtain ⟨n3, n4, n5'⟩ := box_cells HNb.out
            clear hs1 hvb' hkq hnear
            have qe := eq2_run
            obtain ⟨zi, hzi⟩ : ∃ zi, ((i : Int) == 0) = zi := ⟨_, rfl⟩
            cases zi with
            | true =>
              go_wp2_with (first | (go_at_call 57; (with_reducible refine HCl.out.mono ?_); rintro e2 w9 ⟨K2, D2, a2, b2, ok2, rfl, hR2, hM2, hG2, hK2⟩; have HR2 := hid hR2; have HG2 := hid hG2; have HL9 := hid (HL8.out.call hM2 hK2); have HF9 := hid ((hK2.2 wc.heap.size (by have := HL7.out.bE; omega) (by simp)).trans HF8.out); clear hR2 hM2 hG2 hK2; obtain ⟨f0, f1, f2⟩ := box_cells HF9.out; obtain ⟨d0, d1, d2⟩ := HL9.out.ecells))
              · go_roundw
                case rel =>
                  have hok2 : ok2 = true := by assumption
                  have he : so.bind (reachO N l x gn bt) = if ok2 = true then some (a2, b2) else none := by rw [Hsq.out]; exact HR2.out
                  have hn := HPc.out.next (is := ok2) (a := a2) (b := b2) HQ.out he
                  rw [hok2, hzi] at hn
                  exact ⟨i + 1, _, K2, D2, a2, b2, by omega, rfl, by go_num, ((HL9.out.far hEF _).far hEF _).putE a2 b2, HG2, hn⟩
                case measure => simp [intOf]; omega
              · go_roundw
                case rel =>
                  have hok2 : ok2 = false := by simpa using (by assumption : ¬ok2 = true)
                  have he : so.bind (reachO N l x gn bt) = if ok2 = true then some (a2, b2) else none := by rw [Hsq.out]; exact HR2.out
                  have hn := HPc.out.next (is := ok2) (a := a2) (b := b2) HQ.out he
                  rw [hok2] at hn
                  exact ⟨i + 1, _, K2, D2, a2, b2, by omega, rfl, by go_num, ((HL9.out.far hEF _).far hEF _).putE a2 b2, HG2, hn⟩
                case measure => simp [intOf]; omega
            | false =>
              go_wp2_with (first | (go_at_call 57; (with_reducible refine HCl.out.mono ?_); rintro e2 w9 ⟨K2, D2, a2, b2, ok2, rfl, hR2, hM2, hG2, hK2⟩; have HR2 := hid hR2; have HG2 := hid hG2; have HL9 := hid (HL8.out.call hM2 hK2); have HF9 := hid ((hK2.2 wc.heap.size (by have := HL7.out.bE; omega) (by simp)).trans HF8.out); clear hR2 hM2 hG2 hK2; obtain ⟨f0, f1, f2⟩ := box_cells HF9.out; obtain ⟨d0, d1, d2⟩ := HL9.out.ecells))
              · go_roundw
                case rel =>
                  have hok2 : ok2 = true := by assumption
                  have he : so.bind (reachO N l x gn bt) = if ok2 = true then some (a2, b2) else none := by rw [Hsq.out]; exact HR2.out
                  have hn := HPc.out.next (is := ok2) (a := a2) (b := b2) HQ.out he
                  rw [hok2, hzi] at hn
                  exact ⟨i + 1, _, K2, D2, a2, b2, by omega, rfl, by go_num, ((HL9.out.far hEF _).far hEF _).putE a2 b2, HG2, hn⟩
                case measure => simp [intOf]; omega
              · go_roundw
                case rel =>
                  have hok2 : ok2 = false := by simpa using (by assumption : ¬ok2 = true)
                  have he : so.bind (reachO N l x gn bt) = if ok2 = true then some (a2, b2) else none := by rw [Hsq.out]; exact HR2.out
                  have hn := HPc.out.next (is := ok2) (a := a2) (b := b2) HQ.out he
                  rw [hok2] at hn
                  exact ⟨i + 1, _, K2, D2, a2, b2, by omega, rfl, by go_num, ((HL9.out.far hEF _).far hEF _).putE a2 b2, HG2, hn⟩
                case measure => simp [intOf]; omega
      | false =>
        have kl : decide ((i : Int) < (n5 : Int)) = true := decide_eq_true (by omega)
        have HPn := hid (HPc.out.stop (by rw [HP.out.2]; exact hi))
        have HRn := hid (HR.out.trans HPn.out)
        obtain ⟨y0, y1, y2, y3, y4⟩ := (HLp.out.fbx HFS.out Hsz.out hEw).cells
        obtain ⟨⟨x0, x1, x2, x3, x4⟩, x5, x6, x7, x8, x9, x10, x11⟩ := HLp.out.mem.cells HV.out.1.1 HV.out.1.2
        obtain ⟨g0, g1, g2⟩ := HLp.out.ecells
        go_upto_region 17 with fail
        go_still_tail 11, (by kernel_rfl)
        change wpList _ _ _ _ _ wr.drew
        have HLkd := hid (HLp.out.on (Below.drewN' wr 1))
        clear x0 x1 x2 x3 x4 x5 x6 x7 x8 x9 x10 x11 y0 y1 y2 y3 y4 g0 g1 g2
        obtain ⟨wkd, hwk⟩ : ∃ wd, wr.drew = wd := ⟨_, rfl⟩
        have hwk' : wr.drewN 1 = wkd := hwk
        rw [hwk'] at HLkd
        rw [hwk]
        clear hwk hwk'
        obtain ⟨y0, y1, y2, y3, y4⟩ := (HLkd.out.fbx HFS.out Hsz.out hEw).cells
        obtain ⟨⟨x0, x1, x2, x3, x4⟩, x5, x6, x7, x8, x9, x10, x11⟩ := HLkd.out.mem.cells HV.out.1.1 HV.out.1.2
        obtain ⟨g0, g1, g2⟩ := HLkd.out.ecells
        have fk := x10 k
        have fe := x11 (k * 2)
        have fe2 := x11 (k * 2 + 1)
        go_upto_region 21 with fail
        have HL2 := hid (HLkd.out.setK (k := k) HV.out.1.1 2)
        obtain ⟨w12, hw12⟩ : ∃ x, wkd.setCell ⟨kb v, k, none⟩ (.int .i64 2) = x := ⟨_, rfl⟩
        simp only [hw12]
        rw [hw12] at HL2
        clear hw12 fk fe fe2
        clear x0 x1 x2 x3 x4 x5 x6 x7 x8 x9 x10 x11 y0 y1 y2 y3 y4 g0 g1 g2
        obtain ⟨y0, y1, y2, y3, y4⟩ := (HL2.out.fbx HFS.out Hsz.out hEw).cells
        obtain ⟨⟨x0, x1, x2, x3, x4⟩, x5, x6, x7, x8, x9, x10, x11⟩ := HL2.out.mem.cells HV.out.1.1 HV.out.1.2
        obtain ⟨g0, g1, g2⟩ := HL2.out.ecells
        obtain ⟨da, hda⟩ : ∃ a, (D1 v k).1 = a := ⟨_, rfl⟩
        obtain ⟨db, hdb⟩ : ∃ a, (D1 v k).2 = a := ⟨_, rfl⟩
        rw [hda] at x8
        rw [hdb] at x9
        have HDD := hid (And.intro hda hdb)
        clear hda hdb
        have M6 := (HL2.out.mem.far (g := w.heap.size + 1) (j := 0) (by have := Hsz.out; omega) (.int .i64 da)).far (g := w.heap.size + 1) (j := 1) (by have := Hsz.out; omega) (.int .i64 db)
        have F6 := (HL2.out.fbx HFS.out Hsz.out hEw).put da db
        obtain ⟨⟨p0, p1, p2, p3, p4⟩, p5, p6, p7, p8, p9, p10, p11⟩ := M6.cells HV.out.1.1 HV.out.1.2
        obtain ⟨r0, r1, r2, r3, r4⟩ := F6.cells
        rw [HDD.out.1] at p8
        rw [HDD.out.2] at p9
        clear M6 F6
        have f0 := y2 0
        have f1 := y2 1
        go_region_held3 (fun W => W.cell? ⟨w.heap.size, 0, none⟩ = some (.int .i64 (v : Int)) ∧ W.cell? ⟨w.heap.size, 1, none⟩ = some (.int .i64 (k : Int)) ∧ W.cell? ⟨B, 4, none⟩ = some (.slice (some ⟨EB, 0, none⟩) N cE) ∧ W.cell? ⟨EB, v, none⟩ = some (.slice (some ⟨eb v, 0, none⟩) m m) ∧ W.cell? ⟨eb v, k * 2, none⟩ = some (.int .i64 da) ∧ W.cell? ⟨eb v, k * 2 + 1, none⟩ = some (.int .i64 db))
          (first | exact ⟨y0, y1, x4, x6, x8, x9⟩ | exact ⟨r0, r1, p4, p6, p8, p9⟩) (fail)
        all_goals go_wp2_with fail
        have L7 := HL2.out.on (Below.drewN' w12 1)
        have F7 := (L7.fbx HFS.out Hsz.out hEw).put da db
        refine bodyPost_ret (results_cellrow_tmp (p := 4) (u := 5) (fn := Try.f57) rfl _ _ _ _ _ _ _ rfl F7.res Try.underlying92 rfl (by kernel_rfl)) rfl ?_
        exact ⟨_, _, da, db, false, rfl, (HRn.out.trans rfl), (L7.mem.far (by have := Hsz.out; omega) _).far (by have := Hsz.out; omega) _, goodM_none HGd.out HV.out.1.1 HV.out.1.2 HRn.out, F7.kp⟩
    · obtain rfl : i = n5 := by omega
      have kl : decide ((i : Int) < (i : Int)) = false := decide_eq_false (by omega)
      cases ok with
      | false =>
        have HPn := hid (HPc.out.stop (by rw [HP.out.2]; exact Nat.le_refl _))
        have HRn := hid (HR.out.trans HPn.out)
        obtain ⟨y0, y1, y2, y3, y4⟩ := (HLp.out.fbx HFS.out Hsz.out hEw).cells
        obtain ⟨⟨x0, x1, x2, x3, x4⟩, x5, x6, x7, x8, x9, x10, x11⟩ := HLp.out.mem.cells HV.out.1.1 HV.out.1.2
        obtain ⟨g0, g1, g2⟩ := HLp.out.ecells
        go_upto_region 17 with fail
        go_still_tail 11, (by kernel_rfl)
        change wpList _ _ _ _ _ wr.drew
        have HLkd := hid (HLp.out.on (Below.drewN' wr 1))
        clear x0 x1 x2 x3 x4 x5 x6 x7 x8 x9 x10 x11 y0 y1 y2 y3 y4 g0 g1 g2
        obtain ⟨wkd, hwk⟩ : ∃ wd, wr.drew = wd := ⟨_, rfl⟩
        have hwk' : wr.drewN 1 = wkd := hwk
        rw [hwk'] at HLkd
        rw [hwk]
        clear hwk hwk'
        obtain ⟨y0, y1, y2, y3, y4⟩ := (HLkd.out.fbx HFS.out Hsz.out hEw).cells
        obtain ⟨⟨x0, x1, x2, x3, x4⟩, x5, x6, x7, x8, x9, x10, x11⟩ := HLkd.out.mem.cells HV.out.1.1 HV.out.1.2
        obtain ⟨g0, g1, g2⟩ := HLkd.out.ecells
        have fk := x10 k
        have fe := x11 (k * 2)
        have fe2 := x11 (k * 2 + 1)
        go_upto_region 21 with fail
        have HL2 := hid (HLkd.out.setK (k := k) HV.out.1.1 2)
        obtain ⟨w12, hw12⟩ : ∃ x, wkd.setCell ⟨kb v, k, none⟩ (.int .i64 2) = x := ⟨_, rfl⟩
        simp only [hw12]
        rw [hw12] at HL2
        clear hw12 fk fe fe2
        clear x0 x1 x2 x3 x4 x5 x6 x7 x8 x9 x10 x11 y0 y1 y2 y3 y4 g0 g1 g2
        obtain ⟨y0, y1, y2, y3, y4⟩ := (HL2.out.fbx HFS.out Hsz.out hEw).cells
        obtain ⟨⟨x0, x1, x2, x3, x4⟩, x5, x6, x7, x8, x9, x10, x11⟩ := HL2.out.mem.cells HV.out.1.1 HV.out.1.2
        obtain ⟨g0, g1, g2⟩ := HL2.out.ecells
        obtain ⟨da, hda⟩ : ∃ a, (D1 v k).1 = a := ⟨_, rfl⟩
        obtain ⟨db, hdb⟩ : ∃ a, (D1 v k).2 = a := ⟨_, rfl⟩
        rw [hda] at x8
        rw [hdb] at x9
        have HDD := hid (And.intro hda hdb)
        clear hda hdb
        have M6 := (HL2.out.mem.far (g := w.heap.size + 1) (j := 0) (by have := Hsz.out; omega) (.int .i64 da)).far (g := w.heap.size + 1) (j := 1) (by have := Hsz.out; omega) (.int .i64 db)
        have F6 := (HL2.out.fbx HFS.out Hsz.out hEw).put da db
        obtain ⟨⟨p0, p1, p2, p3, p4⟩, p5, p6, p7, p8, p9, p10, p11⟩ := M6.cells HV.out.1.1 HV.out.1.2
        obtain ⟨r0, r1, r2, r3, r4⟩ := F6.cells
        rw [HDD.out.1] at p8
        rw [HDD.out.2] at p9
        clear M6 F6
        have f0 := y2 0
        have f1 := y2 1
        go_region_held3 (fun W => W.cell? ⟨w.heap.size, 0, none⟩ = some (.int .i64 (v : Int)) ∧ W.cell? ⟨w.heap.size, 1, none⟩ = some (.int .i64 (k : Int)) ∧ W.cell? ⟨B, 4, none⟩ = some (.slice (some ⟨EB, 0, none⟩) N cE) ∧ W.cell? ⟨EB, v, none⟩ = some (.slice (some ⟨eb v, 0, none⟩) m m) ∧ W.cell? ⟨eb v, k * 2, none⟩ = some (.int .i64 da) ∧ W.cell? ⟨eb v, k * 2 + 1, none⟩ = some (.int .i64 db))
          (first | exact ⟨y0, y1, x4, x6, x8, x9⟩ | exact ⟨r0, r1, p4, p6, p8, p9⟩) (fail)
        all_goals go_wp2_with fail
        have L7 := HL2.out.on (Below.drewN' w12 1)
        have F7 := (L7.fbx HFS.out Hsz.out hEw).put da db
        refine bodyPost_ret (results_cellrow_tmp (p := 4) (u := 5) (fn := Try.f57) rfl _ _ _ _ _ _ _ rfl F7.res Try.underlying92 rfl (by kernel_rfl)) rfl ?_
        exact ⟨_, _, da, db, false, rfl, (HRn.out.trans rfl), (L7.mem.far (by have := Hsz.out; omega) _).far (by have := Hsz.out; omega) _, goodM_none HGd.out HV.out.1.1 HV.out.1.2 HRn.out, F7.kp⟩
      | true =>
        have HPs := hid (show meetO P = some (ea, eb1) from by
          have hpc := HPc.out
          have hl := HP.out.2
          have h0 : 0 < i := by
            rcases Nat.eq_zero_or_pos i with h0 | h0
            · have := hpc.1 h0
              rw [hl, h0] at this
              cases this
            · exact h0
          rw [← hl] at hpc h0
          exact hpc.all h0)
        have HRs := hid (HR.out.trans HPs.out)
        obtain ⟨y0, y1, y2, y3, y4⟩ := (HLp.out.fbx HFS.out Hsz.out hEw).cells
        obtain ⟨⟨x0, x1, x2, x3, x4⟩, x5, x6, x7, x8, x9, x10, x11⟩ := HLp.out.mem.cells HV.out.1.1 HV.out.1.2
        obtain ⟨g0, g1, g2⟩ := HLp.out.ecells
        go_upto_region 17 with fail
        go_still_tail 11, (by kernel_rfl)
        change wpList _ _ _ _ _ wr.drew
        have HLkd := hid (HLp.out.on (Below.drewN' wr 1))
        clear x0 x1 x2 x3 x4 x5 x6 x7 x8 x9 x10 x11 y0 y1 y2 y3 y4 g0 g1 g2
        obtain ⟨wkd, hwk⟩ : ∃ wd, wr.drew = wd := ⟨_, rfl⟩
        have hwk' : wr.drewN 1 = wkd := hwk
        rw [hwk'] at HLkd
        rw [hwk]
        clear hwk hwk'
        obtain ⟨y0, y1, y2, y3, y4⟩ := (HLkd.out.fbx HFS.out Hsz.out hEw).cells
        obtain ⟨⟨x0, x1, x2, x3, x4⟩, x5, x6, x7, x8, x9, x10, x11⟩ := HLkd.out.mem.cells HV.out.1.1 HV.out.1.2
        obtain ⟨g0, g1, g2⟩ := HLkd.out.ecells
        have fk := x10 k
        have fe := x11 (k * 2)
        have fe2 := x11 (k * 2 + 1)
        go_upto_region 19 with fail
        have HL2 := hid (HLkd.out.setK (k := k) HV.out.1.1 2)
        obtain ⟨w12, hw12⟩ : ∃ x, wkd.setCell ⟨kb v, k, none⟩ (.int .i64 2) = x := ⟨_, rfl⟩
        simp only [hw12]
        rw [hw12] at HL2
        clear hw12 fk fe fe2
        clear x0 x1 x2 x3 x4 x5 x6 x7 x8 x9 x10 x11 y0 y1 y2 y3 y4 g0 g1 g2
        obtain ⟨y0, y1, y2, y3, y4⟩ := (HL2.out.fbx HFS.out Hsz.out hEw).cells
        obtain ⟨⟨x0, x1, x2, x3, x4⟩, x5, x6, x7, x8, x9, x10, x11⟩ := HL2.out.mem.cells HV.out.1.1 HV.out.1.2
        obtain ⟨g0, g1, g2⟩ := HL2.out.ecells
        go_still_tail 11, (by kernel_rfl)
        change wpList _ _ _ _ _ w12.drew
        have HLmd := hid (HL2.out.on (Below.drewN' w12 1))
        clear x0 x1 x2 x3 x4 x5 x6 x7 x8 x9 x10 x11 y0 y1 y2 y3 y4 g0 g1 g2
        obtain ⟨wmd, hwm⟩ : ∃ wd, w12.drew = wd := ⟨_, rfl⟩
        have hwm' : w12.drewN 1 = wmd := hwm
        rw [hwm'] at HLmd
        rw [hwm]
        clear hwm hwm'
        obtain ⟨y0, y1, y2, y3, y4⟩ := (HLmd.out.fbx HFS.out Hsz.out hEw).cells
        obtain ⟨⟨x0, x1, x2, x3, x4⟩, x5, x6, x7, x8, x9, x10, x11⟩ := HLmd.out.mem.cells HV.out.1.1 HV.out.1.2
        obtain ⟨g0, g1, g2⟩ := HLmd.out.ecells
        have fk := x10 k
        have fe := x11 (k * 2)
        have fe2 := x11 (k * 2 + 1)
        go_upto_region 20 with fail
        have HL3 := hid (HLmd.out.setK (k := k) HV.out.1.1 1)
        obtain ⟨w13, hw13⟩ : ∃ x, wmd.setCell ⟨kb v, k, none⟩ (.int .i64 1) = x := ⟨_, rfl⟩
        simp only [hw13]
        rw [hw13] at HL3
        clear hw13 fk fe fe2
        clear x0 x1 x2 x3 x4 x5 x6 x7 x8 x9 x10 x11 y0 y1 y2 y3 y4 g0 g1 g2
        obtain ⟨y0, y1, y2, y3, y4⟩ := (HL3.out.fbx HFS.out Hsz.out hEw).cells
        obtain ⟨⟨x0, x1, x2, x3, x4⟩, x5, x6, x7, x8, x9, x10, x11⟩ := HL3.out.mem.cells HV.out.1.1 HV.out.1.2
        obtain ⟨g0, g1, g2⟩ := HL3.out.ecells
        go_still_tail 12, (by kernel_rfl)
        change wpList _ _ _ _ _ w13.drew
        have HLnd := hid (HL3.out.on (Below.drewN' w13 1))
        clear x0 x1 x2 x3 x4 x5 x6 x7 x8 x9 x10 x11 y0 y1 y2 y3 y4 g0 g1 g2
        obtain ⟨wnd, hwn⟩ : ∃ wd, w13.drew = wd := ⟨_, rfl⟩
        have hwn' : w13.drewN 1 = wnd := hwn
        rw [hwn'] at HLnd
        rw [hwn]
        clear hwn hwn'
        obtain ⟨y0, y1, y2, y3, y4⟩ := (HLnd.out.fbx HFS.out Hsz.out hEw).cells
        obtain ⟨⟨x0, x1, x2, x3, x4⟩, x5, x6, x7, x8, x9, x10, x11⟩ := HLnd.out.mem.cells HV.out.1.1 HV.out.1.2
        obtain ⟨g0, g1, g2⟩ := HLnd.out.ecells
        have fk := x10 k
        have fe := x11 (k * 2)
        have fe2 := x11 (k * 2 + 1)
        go_upto_region 21 with fail
        have HL4 := hid (HLnd.out.setD (k := k) HV.out.1.1 ea eb1)
        obtain ⟨w14, hw14⟩ : ∃ x, (wnd.setCell ⟨eb v, k * 2, none⟩ (.int .i64 ea)).setCell ⟨eb v, k * 2 + 1, none⟩ (.int .i64 eb1) = x := ⟨_, rfl⟩
        simp only [hw14]
        rw [hw14] at HL4
        clear hw14 fk fe fe2
        clear x0 x1 x2 x3 x4 x5 x6 x7 x8 x9 x10 x11 y0 y1 y2 y3 y4 g0 g1 g2
        obtain ⟨y0, y1, y2, y3, y4⟩ := (HL4.out.fbx HFS.out Hsz.out hEw).cells
        obtain ⟨⟨x0, x1, x2, x3, x4⟩, x5, x6, x7, x8, x9, x10, x11⟩ := HL4.out.mem.cells HV.out.1.1 HV.out.1.2
        obtain ⟨g0, g1, g2⟩ := HL4.out.ecells
        obtain ⟨da, hda⟩ : ∃ a, ((updM D1 v k (ea, eb1)) v k).1 = a := ⟨_, rfl⟩
        obtain ⟨db, hdb⟩ : ∃ a, ((updM D1 v k (ea, eb1)) v k).2 = a := ⟨_, rfl⟩
        rw [hda] at x8
        rw [hdb] at x9
        have HDD := hid (And.intro hda hdb)
        clear hda hdb
        have M6 := (HL4.out.mem.far (g := w.heap.size + 1) (j := 0) (by have := Hsz.out; omega) (.int .i64 da)).far (g := w.heap.size + 1) (j := 1) (by have := Hsz.out; omega) (.int .i64 db)
        have F6 := (HL4.out.fbx HFS.out Hsz.out hEw).put da db
        obtain ⟨⟨p0, p1, p2, p3, p4⟩, p5, p6, p7, p8, p9, p10, p11⟩ := M6.cells HV.out.1.1 HV.out.1.2
        obtain ⟨r0, r1, r2, r3, r4⟩ := F6.cells
        rw [HDD.out.1] at p8
        rw [HDD.out.2] at p9
        clear M6 F6
        have f0 := y2 0
        have f1 := y2 1
        go_region_held3 (fun W => W.cell? ⟨w.heap.size, 0, none⟩ = some (.int .i64 (v : Int)) ∧ W.cell? ⟨w.heap.size, 1, none⟩ = some (.int .i64 (k : Int)) ∧ W.cell? ⟨B, 4, none⟩ = some (.slice (some ⟨EB, 0, none⟩) N cE) ∧ W.cell? ⟨EB, v, none⟩ = some (.slice (some ⟨eb v, 0, none⟩) m m) ∧ W.cell? ⟨eb v, k * 2, none⟩ = some (.int .i64 da) ∧ W.cell? ⟨eb v, k * 2 + 1, none⟩ = some (.int .i64 db))
          (first | exact ⟨y0, y1, x4, x6, x8, x9⟩ | exact ⟨r0, r1, p4, p6, p8, p9⟩) (fail)
        all_goals go_wp2_with fail
        have L7 := HL4.out.on (Below.drewN' w14 1)
        have F7 := (L7.fbx HFS.out Hsz.out hEw).put da db
        refine bodyPost_ret (results_cellrow_tmp (p := 4) (u := 5) (fn := Try.f57) rfl _ _ _ _ _ _ _ rfl F7.res Try.underlying92 rfl (by kernel_rfl)) rfl ?_
        exact ⟨_, _, da, db, true, rfl, (by rw [HRs.out, ← HDD.out.1, ← HDD.out.2]; simp [updM]), (L7.mem.far (by have := Hsz.out; omega) _).far (by have := Hsz.out; omega) _, goodM_some HGd.out HV.out.1.1 HV.out.1.2 HRs.out, F7.kp⟩
end
end Go.Proofs.Ytkemcgbedapkcaa

/- The reference's (*reach).from at any state. -/
namespace Go.Proofs.Ytkemcgbedapkcaa
open Go.RowKit
set_option maxHeartbeats 6400000
set_option maxRecDepth 100000
theorem from_any {w0 : World} {base B KB EB : Nat} {kb eb : Nat → Nat} {cK cE po pt : Nat} {bt : Int} {N m : Nat} {A : Option Addr} {n c : Nat} {l : List Lnk} {x : Wnt} {gn : List Bool} {A' : Option Addr} {n' c' : Nat} {vD : Value} {vs : List Value} (hga : GArg w0 (N : Int) A n c l) (ho : OptAt (N : Int) A n c l x gn po w0) (hr0 : rightS (N : Int) l x = 0) (hok : GOk N l) (ht : RAt pt A' n' c' vD vs N l w0) (hm : (ptsS x).length = m) :
    ∀ (f v k : Nat) (K : Nat → Nat → Int) (D : Nat → Nat → Int × Int) (w : World), (distT N l (v : Int) bt).toNat ≤ f → v < N → k < m → RcM w0 base B KB EB kb eb cK cE po pt bt N m K D w → GoodM N m (reachO N l x gn bt) K D →
      Calls Try.prog 57 #[.pointer (some ⟨B, 0, none⟩), .agg #[.int .i64 v, .int .i64 k]] w (FromAns w0 base B KB EB kb eb cK cE po pt bt N m (reachO N l x gn bt) v k w) := by
  intro f
  induction f with
  | zero =>
    intro v k K D w hf hv hk h hg
    by_cases hvb : (v : Int) = bt
    · exact from_here v k w h hg hv hk hvb (by rw [reachO_eq hok, if_pos hvb])
    · by_cases hK : K v k = 0
      · exact from_new hga ho hr0 hok ht hm v k w h hg hv hk hvb hK (fun v' k' K D wx hlt => by omega)
      · exact from_kept v k w h hg hv hk hvb hK
  | succ f ih =>
    intro v k K D w hf hv hk h hg
    by_cases hvb : (v : Int) = bt
    · exact from_here v k w h hg hv hk hvb (by rw [reachO_eq hok, if_pos hvb])
    · by_cases hK : K v k = 0
      · exact from_new hga ho hr0 hok ht hm v k w h hg hv hk hvb hK (fun v' k' K D wx hlt h1 h2 h3 h4 => ih v' k' K D wx (by omega) h1 h2 h3 h4)
      · exact from_kept v k w h hg hv hk hvb hK
end Go.Proofs.Ytkemcgbedapkcaa
