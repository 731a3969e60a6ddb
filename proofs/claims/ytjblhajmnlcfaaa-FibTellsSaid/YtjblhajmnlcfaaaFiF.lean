/- FibTells. -/
import Derived.Test.YtjblhajmnlcfaaaFiE
namespace Go.Proofs.Ytjblhajmnlcfaaa
open Go.RowKit
set_option maxHeartbeats 12800000
set_option maxRecDepth 100000
/-- Two boxes: a graph's and a segment's. -/
def HeldG (w : World) (nd : Int) (A : Option Addr) (n c : Nat) (s : Sg) (w' : World) : Prop := Held w nd A n c w' ∧ w'.heap[w.heap.size + 1]? = some (.cells #[.bool s.edge, .int .i64 s.too] 26 (0, 0))
theorem HeldG.start (w : World) (nd : Int) (A : Option Addr) (n c : Nat) (s : Sg) : HeldG w nd A n c s ((w.alloc (.cells #[.int .i64 nd, .slice A n c] 24)).alloc (.cells #[.bool s.edge, .int .i64 s.too] 26)) := by
  refine ⟨(Held.start w nd A n c).next ((Below.refl _ _).alloc (Nat.le_refl _) _), ?_⟩
  have := heap_alloc_new (w.alloc (.cells #[.int .i64 nd, .slice A n c] 24)) (.cells #[.bool s.edge, .int .i64 s.too] 26)
  rwa [show (w.alloc (.cells #[.int .i64 nd, .slice A n c] 24)).heap.size = w.heap.size + 1 by simp] at this
theorem HeldG.next {w w' w'' : World} {nd : Int} {A : Option Addr} {n c : Nat} {s : Sg} (h : HeldG w nd A n c s w') (hb : Below w'.heap.size w' w'') : HeldG w nd A n c s w'' := ⟨h.1.next hb, box_below h.2 hb (pst_lt2 h.2)⟩
theorem ftells_any (h : FibSpec 12 6 8 10) (nd : Int) (A : Option Addr) (n c : Nat) (l : List Lnk) (s : Sg) (x : Int) (Al : Option Addr) (nl cl : Nat) (sl : List Sg) (ttl : Int) (Ae : Option Addr) (ne ce : Nat) (es : List En) (w : World) (hg : RLnk w w.heap.size A n l) (hc : n ≤ c) (hA : A = none → n = 0 ∧ c = 0) (hnd : J64 nd) (hs : J64 s.too) (hx : J64 x) (hl : RSeg w w.heap.size Al nl sl) (hlc : nl ≤ cl) (hln : Al = none → nl = 0 ∧ cl = 0) (hlr : ∀ s ∈ sl, J64 s.too) (ht : J64 ttl) (he : REn w w.heap.size Ae ne es) (hec : ne ≤ ce) (hen : Ae = none → ne = 0 ∧ ce = 0) (her : ∀ e ∈ es, J64 e.lab) :
    Calls Try.prog 3 #[.agg #[.int .i64 nd, .slice A n c], .agg #[.bool s.edge, .int .i64 s.too], .int .i64 x, .slice Al nl cl, .int .i64 ttl, .slice Ae ne ce] w fun e w' => e = .returned (.bool true) ∧ Below w.heap.size w w' := by
  have hS := HeldG.start w nd A n c s
  have HAl := hid (fun (W : World) (hh : HeldG w nd A n c s W) => (alive19 h W).mono fun _ _ h2 => (⟨h2.1, hh.next h2.2⟩ : _ ∧ HeldG w nd A n c s _))
  obtain ⟨a0, a1⟩ := hS.1.cells
  by_cases c1 : 130 < n
  · have t1 : decide ((130 : Int) < (n : Int)) = true := by simp; omega
    clear h hg hA hs hx hl hln hlr ht he hen her hc hlc hec hnd c1
    go_enter Try.func3, Try.ntmps3
    go_wp2_with (go_at_call 5; (with_reducible refine (HAl.out _ hS).mono ?_); rintro e' w1 ⟨rfl, h1⟩; obtain ⟨k0, k1⟩ := h1.1.cells)
    go_ret
    exact ⟨rfl, h1.1.1⟩
  · have t1 : decide ((130 : Int) < (n : Int)) = false := by simp; omega
    by_cases c2 : 40 < nl
    · have t2 : decide ((40 : Int) < (nl : Int)) = true := by simp; omega
      clear h hg hA hs hx hl hln hlr ht he hen her hc hlc hec hnd c1 c2
      go_enter Try.func3, Try.ntmps3
      go_wp2_with (go_at_call 5; (with_reducible refine (HAl.out _ hS).mono ?_); rintro e' w1 ⟨rfl, h1⟩; obtain ⟨k0, k1⟩ := h1.1.cells)
      go_ret
      exact ⟨rfl, h1.1.1⟩
    · have t2 : decide ((40 : Int) < (nl : Int)) = false := by simp; omega
      by_cases c3 : 40 < ne
      · have t3 : decide ((40 : Int) < (ne : Int)) = true := by simp; omega
        clear h hg hA hs hx hl hln hlr ht he hen her hc hlc hec hnd c1 c2 c3
        go_enter Try.func3, Try.ntmps3
        go_wp2_with (go_at_call 5; (with_reducible refine (HAl.out _ hS).mono ?_); rintro e' w1 ⟨rfl, h1⟩; obtain ⟨k0, k1⟩ := h1.1.cells)
        go_ret
        exact ⟨rfl, h1.1.1⟩
      · have t3 : decide ((40 : Int) < (ne : Int)) = false := by simp; omega
        have hga : GArg w nd A n c l := ⟨hg, by omega, hc, hA, hnd.1, hnd.2⟩
        have hga2 : ∀ W, HeldG w nd A n c s W → GArg W nd A n c l := fun W hh => ⟨hh.1.on hg, by omega, hc, hA, hnd.1, hnd.2⟩
        obtain ⟨o, ho⟩ : ∃ o, segOf (checkS nd l).2 nd n x = o := ⟨_, rfl⟩
        obtain ⟨se, st, ok, hv⟩ : ∃ se st ok, segV o = .tuple #[.agg #[.bool se, .int .i64 st], .bool ok] := by
          cases o with
          | none => exact ⟨false, 0, false, rfl⟩
          | some q => exact ⟨q.edge, q.too, true, rfl⟩
        obtain ⟨o2, ho2⟩ : ∃ o2, segsS (segOf (checkS nd l).2 nd n) es = o2 := ⟨_, rfl⟩
        obtain ⟨L2, hL2⟩ : ∃ L2, o2.getD [] = L2 := ⟨_, rfl⟩
        obtain ⟨ok2, hok2⟩ : ∃ ok2, o2.isSome = ok2 := ⟨_, rfl⟩
        obtain ⟨X, hX⟩ : ∃ X, stackS sl ttl = X := ⟨_, rfl⟩
        obtain ⟨lv, hlv⟩ : ∃ lv, labelS s = lv := ⟨_, rfl⟩
        have HSeg : Hid (∀ W, HeldG w nd A n c s W → Calls Try.prog 6 #[.agg #[.int .i64 nd, .slice A n c], .int .i64 x] W fun e w' => e = .returned (.tuple #[.agg #[.bool se, .int .i64 st], .bool ok]) ∧ HeldG w nd A n c s w' ∧ Below W.heap.size W w') := fun W hh => by
          refine (h.seg nd A n c l x W (hga2 W hh) hx).mono ?_
          rw [ho, hv]
          exact fun _ _ h2 => ⟨h2.1, hh.next h2.2, h2.2⟩
        have HSeg2 : Hid (∀ W, HeldG w nd A n c s W → Calls Try.prog 7 #[.agg #[.int .i64 nd, .slice A n c], .int .i64 x] W fun e w' => e = .returned (.tuple #[.agg #[.bool se, .int .i64 st], .bool ok]) ∧ HeldG w nd A n c s w' ∧ Below W.heap.size W w') := fun W hh => by
          refine (refSegOf_any nd A n c l x W (hh.1.on hg) (by omega)).mono ?_
          rw [ho, hv]
          exact fun _ _ h2 => ⟨h2.1, hh.next h2.2, h2.2⟩
        have hlb : ∀ W, HeldG w nd A n c s W → RSeg W W.heap.size Al nl sl := fun W hh => hl.on hh.1.1
        have heb : ∀ W, HeldG w nd A n c s W → REn W W.heap.size Ae ne es := fun W hh => he.on hh.1.1
        have HSt : Hid (∀ W, HeldG w nd A n c s W → Calls Try.prog 8 #[.slice Al nl cl, .int .i64 ttl] W (EnAns X W)) := fun W hh => by
          rw [← hX]; exact h.stack Al nl cl sl ttl W (hlb W hh) (by omega) hlc hln hlr ht
        have HSt2 : Hid (∀ W, HeldG w nd A n c s W → Calls Try.prog 9 #[.slice Al nl cl, .int .i64 ttl] W (EnAns X W)) := fun W hh => by
          rw [← hX]; exact refStack_ans Al nl cl sl ttl W (hlb W hh) (by omega)
        have HSs : Hid (∀ W, HeldG w nd A n c s W → Calls Try.prog 10 #[.agg #[.int .i64 nd, .slice A n c], .slice Ae ne ce] W fun e w' => ∃ A' c', e = .returned (.tuple #[.slice A' L2.length c', .bool ok2]) ∧ RSeg w' w'.heap.size A' L2.length L2 ∧ Below W.heap.size W w') := fun W hh => by
          have := h.segs nd A n c l Ae ne ce es W (hga2 W hh) (heb W hh) (by omega) hec hen her
          rw [ho2] at this
          unfold SgAns at this
          rw [hL2, hok2] at this
          exact this
        have HSs2 : Hid (∀ W, HeldG w nd A n c s W → Calls Try.prog 11 #[.agg #[.int .i64 nd, .slice A n c], .slice Ae ne ce] W fun e w' => ∃ A' c', e = .returned (.tuple #[.slice A' L2.length c', .bool ok2]) ∧ RSeg w' w'.heap.size A' L2.length L2 ∧ Below W.heap.size W w') := fun W hh => by
          have := refSegs_ans nd A n c l Ae ne ce es W (hh.1.on hg) (by omega) (heb W hh) (by omega)
          rw [ho2] at this
          unfold SgAns at this
          rw [hL2, hok2] at this
          exact this
        have HLb : Hid (∀ W, HeldG w nd A n c s W → Calls Try.prog 12 #[.agg #[.bool s.edge, .int .i64 s.too]] W fun e w' => e = .returned (.int .i64 lv) ∧ HeldG w nd A n c s w' ∧ Below W.heap.size W w') := fun W hh => by
          refine (h.label s W hs).mono ?_
          rw [hlv]
          exact fun _ _ h2 => ⟨h2.1, hh.next h2.2, h2.2⟩
        have HLb2 : Hid (∀ W, HeldG w nd A n c s W → Calls Try.prog 13 #[.agg #[.bool s.edge, .int .i64 s.too]] W fun e w' => e = .returned (.int .i64 lv) ∧ HeldG w nd A n c s w' ∧ Below W.heap.size W w') := fun W hh => by
          refine (refLabel_any s W).mono ?_
          rw [hlv]
          exact fun _ _ h2 => ⟨h2.1, hh.next h2.2, h2.2⟩
        have hL2n : L2.length ≤ 40 := by
          have h1 := he.1
          rw [← hL2, ← ho2]
          unfold segsS
          split
          · simp only [Option.getD_some, List.length_map]; omega
          · simp
        have hXn : X.length ≤ 40 := by
          have h1 := hl.1
          rw [← hX]
          unfold stackS
          split
          · rw [entsUp_len]; omega
          · simp
        clear h hg hA hs hx hl hln hlr ht he hen her hc hlc hec hnd c1 c2 c3 hga hga2 ho hv ho2 hL2 hok2 hX hlv hlb heb
        go_enter Try.func3, Try.ntmps3
        go_upto_region 10 with (first
          | (go_at_call 5; (with_reducible refine (HAl.out _ hS).mono ?_); rintro e' w1 ⟨rfl, h1⟩; obtain ⟨k0, k1⟩ := h1.1.cells)
          | (go_at_call 6; (with_reducible refine (HSeg.out _ h1).mono ?_); rintro e' w2 ⟨rfl, h2, hb2⟩; have h3 := h2.next ((Below.refl _ _).alloc (Nat.le_refl _) (.cells #[.bool se, .int .i64 st] 26)); have HX1 := hid (heap_alloc_new w2 (.cells #[.bool se, .int .i64 st] 26)); obtain ⟨k2, k3⟩ := h3.1.cells)
          | (go_at_call 7; (with_reducible refine (HSeg2.out _ h3).mono ?_); rintro e' w4 ⟨rfl, h4, hb4⟩; have h5 := h4.next ((Below.refl _ _).alloc (Nat.le_refl _) (.cells #[.bool se, .int .i64 st] 26)); have HX1' := hid (box_below HX1.out hb4 (by simp)); have HX2 := hid (heap_alloc_new w4 (.cells #[.bool se, .int .i64 st] 26)); have HX1'' := hid (box_below HX1'.out ((Below.refl w4.heap.size w4).alloc (Nat.le_refl _) (.cells #[.bool se, .int .i64 st] 26)) (pst_lt2 HX1'.out)))
          | (go_at_call 8; (with_reducible refine (HSt.out _ h5).mono ?_); rintro e' w6 ⟨Ax, cx, rfl, _, rx, hb6⟩; have h6 := h5.next hb6; have RX := hid rx)
          | (go_at_call 9; (with_reducible refine (HSt2.out _ h6).mono ?_); rintro e' w7 ⟨Ay, cy, rfl, _, ry, hb7⟩; have h7 := h6.next hb7; have RY := hid ry; have RX7 := hid (RX.out.on hb7); obtain ⟨k4, k5⟩ := h7.1.cells)
          | (go_at_call 10; (with_reducible refine (HSs.out _ h7).mono ?_); rintro e' w8 ⟨Ap, cp, rfl, rp, hb8⟩; have h8 := h7.next hb8; have RP := hid rp; obtain ⟨k6, k7⟩ := h8.1.cells)
          | (go_at_call 11; (with_reducible refine (HSs2.out _ h8).mono ?_); rintro e' w9 ⟨Aq, cq, rfl, rq, hb9⟩; have h9 := h8.next hb9; have RQ := hid rq))
        have hX1 := box_below (box_below (box_below (box_below HX1''.out hb6 (pst_lt2 HX1''.out)) hb7 (pst_lt2 (box_below HX1''.out hb6 (pst_lt2 HX1''.out)))) hb8 (pst_lt2 (box_below (box_below HX1''.out hb6 (pst_lt2 HX1''.out)) hb7 (pst_lt2 (box_below HX1''.out hb6 (pst_lt2 HX1''.out)))))) hb9 (pst_lt2 (box_below (box_below (box_below HX1''.out hb6 (pst_lt2 HX1''.out)) hb7 (pst_lt2 (box_below HX1''.out hb6 (pst_lt2 HX1''.out)))) hb8 (pst_lt2 (box_below (box_below HX1''.out hb6 (pst_lt2 HX1''.out)) hb7 (pst_lt2 (box_below HX1''.out hb6 (pst_lt2 HX1''.out)))))))
        have hX2 := box_below (box_below (box_below (box_below HX2.out hb6 (pst_lt2 HX2.out)) hb7 (pst_lt2 (box_below HX2.out hb6 (pst_lt2 HX2.out)))) hb8 (pst_lt2 (box_below (box_below HX2.out hb6 (pst_lt2 HX2.out)) hb7 (pst_lt2 (box_below HX2.out hb6 (pst_lt2 HX2.out)))))) hb9 (pst_lt2 (box_below (box_below (box_below HX2.out hb6 (pst_lt2 HX2.out)) hb7 (pst_lt2 (box_below HX2.out hb6 (pst_lt2 HX2.out)))) hb8 (pst_lt2 (box_below (box_below HX2.out hb6 (pst_lt2 HX2.out)) hb7 (pst_lt2 (box_below HX2.out hb6 (pst_lt2 HX2.out)))))))
        have RX9 := hid ((RX7.out.on hb8).on hb9)
        have RY9 := hid ((RY.out.on hb8).on hb9)
        have RP9 := hid (RP.out.on hb9)
        obtain ⟨B1, hB1⟩ : ∃ B1, w2.heap.size = B1 := ⟨_, rfl⟩
        obtain ⟨B2, hB2⟩ : ∃ B2, w4.heap.size = B2 := ⟨_, rfl⟩
        rw [hB1] at hX1 ⊢
        rw [hB2] at hX2 ⊢
        have HX1f := hid hX1
        have HX2f := hid hX2
        have H9 := hid h9
        clear hX1 hX2 HX1 HX1' HX1'' HX2 RX RX7 RY RP h1 h2 h3 h4 h5 h6 h7 h8 h9 hb2 hb4 hb6 hb7 hb8 hb9 k0 k1 k2 k3 k4 k5 k6 k7 a0 a1 hB1 hB2 hS t1 t2 t3
        have HK : Hid (∀ W, Below w9.heap.size w9 W → HeldG w nd A n c s W ∧ (W.cell? ⟨w.heap.size + 1, 0, none⟩ = some (.bool s.edge) ∧ W.cell? ⟨w.heap.size + 1, 1, none⟩ = some (.int .i64 s.too) ∧ W.cell? ⟨B1, 0, none⟩ = some (.bool se) ∧ W.cell? ⟨B1, 1, none⟩ = some (.int .i64 st) ∧ W.cell? ⟨B2, 0, none⟩ = some (.bool se) ∧ W.cell? ⟨B2, 1, none⟩ = some (.int .i64 st))) := fun W hb => by
          have h1 := H9.out.next hb
          have x1 := box_below HX1f.out hb (pst_lt2 HX1f.out)
          have x2 := box_below HX2f.out hb (pst_lt2 HX2f.out)
          obtain ⟨d0, d1, -⟩ := box_cells h1.2
          obtain ⟨e0, e1, -⟩ := box_cells x1
          obtain ⟨f0, f1, -⟩ := box_cells x2
          exact ⟨h1, d0, d1, e0, e1, f0, f1⟩
        have hD := HK.out _ (Below.drew (Below.refl _ _))
        have hD1 := hD.1
        have sD := hD.2
        have hbD : Below w9.heap.size w9 w9.drew := Below.drew (Below.refl _ _)
        have HSm : Hid (∀ W, Below w9.heap.size w9 W → Calls Try.prog 14 #[.slice Ap L2.length cp, .slice Aq L2.length cq] W fun e w' => e = .returned (.bool true) ∧ Below W.heap.size W w') := fun W hb => sameSegs_any Ap Aq L2.length cp cq L2 W (RP9.out.on hb) (RQ.out.on hb) (by omega)
        have hne : ∀ W : World, (binOp .neq 26 (.agg #[.bool se, .int .i64 st]) (.agg #[.bool se, .int .i64 st])).run Try.prog W = .ok (.bool false) W := fun W => (seg_ne ⟨se, st⟩ ⟨se, st⟩ W).trans (by simp)
        have v1 : (lv != lv) = false := by simp
        have v2 : (ok != ok) = false := by simp
        have v3 : (ok2 != ok2) = false := by simp
        have v4 : ((X.length : Int) != (X.length : Int)) = false := by simp
        have v5 : (X.length != X.length) = false := by simp
        clear hD
        go_region_held3 (fun W => W.cell? ⟨w.heap.size + 1, 0, none⟩ = some (.bool s.edge) ∧ W.cell? ⟨w.heap.size + 1, 1, none⟩ = some (.int .i64 s.too) ∧ W.cell? ⟨B1, 0, none⟩ = some (.bool se) ∧ W.cell? ⟨B1, 1, none⟩ = some (.int .i64 st) ∧ W.cell? ⟨B2, 0, none⟩ = some (.bool se) ∧ W.cell? ⟨B2, 1, none⟩ = some (.int .i64 st))
          (first | go_keep | exact s10 | exact s11 | exact s12 | exact sD)
          (first
            | (go_at_call 12; (with_reducible refine (HLb.out _ hD1).mono ?_); rintro e' w10 ⟨rfl, h10, hb10⟩; have B10 := hid (hbD.trans hb10); have s10 := (HK.out _ B10.out).2)
            | (go_at_call 13; (with_reducible refine (HLb2.out _ h10).mono ?_); rintro e' w11 ⟨rfl, h11, hb11⟩; have B11 := hid (B10.out.trans (hb11.mono B10.out.size)); have s11 := (HK.out _ B11.out).2)
            | (go_at_call 14; (with_reducible refine (HSm.out _ B11.out).mono ?_); rintro e' w12 ⟨rfl, hb12⟩; have B12 := hid (B11.out.trans (hb12.mono B11.out.size)); have s12 := (HK.out _ B12.out).2))
        have RX12 := hid (RX9.out.on B12.out)
        have RY12 := hid (RY9.out.on B12.out)
        have H12 := hid (HK.out _ B12.out).1
        clear hD1 sD s10 s11 s12 h10 h11 hb10 hb11 hb12 hbD hne v1 v2 v3 v4 v5
        go_wp2_with fail
        obtain ⟨m, hm⟩ : ∃ m, X.length = m := ⟨_, rfl⟩
        rw [hm] at RX12 RY12 hXn ⊢
        go_loopw [24] (fun iv wr => ∃ k : Nat, k ≤ m ∧ iv = .int .i64 k ∧ Hid (Below w12.heap.size w12 wr)) (fun iv _ => m - (intOf iv).toNat)
        case atStart => exact ⟨0, Nat.zero_le _, rfl, Below.refl _ _⟩
        case round =>
          obtain ⟨k, hk, rfl, HB⟩ := hrel
          by_cases hlt : k < m
          · obtain ⟨e, he⟩ : ∃ e, X[k]? = some e := ⟨X[k]'(by omega), List.getElem?_eq_getElem _⟩
            obtain ⟨b, off, rfl, hbl, hc⟩ := RX12.out.2 (by omega)
            obtain ⟨b', off', rfl, hbl', hc'⟩ := RY12.out.2 (by omega)
            have q0 := (HB.out.cell (p := ⟨b, off + k * 4, none⟩) hbl).trans (hc k e he).1
            have q1 := (HB.out.cell (p := ⟨b, off + k * 4 + 1, none⟩) hbl).trans (hc k e he).2.1
            have q2 := (HB.out.cell (p := ⟨b, off + k * 4 + 2, none⟩) hbl).trans (hc k e he).2.2.1
            have q3 := (HB.out.cell (p := ⟨b, off + k * 4 + 3, none⟩) hbl).trans (hc k e he).2.2.2
            have r0 := (HB.out.cell (p := ⟨b', off' + k * 4, none⟩) hbl').trans (hc' k e he).1
            have r1 := (HB.out.cell (p := ⟨b', off' + k * 4 + 1, none⟩) hbl').trans (hc' k e he).2.1
            have r2 := (HB.out.cell (p := ⟨b', off' + k * 4 + 2, none⟩) hbl').trans (hc' k e he).2.2.1
            have r3 := (HB.out.cell (p := ⟨b', off' + k * 4 + 3, none⟩) hbl').trans (hc' k e he).2.2.2
            have hne := fun W : World => ent_ne e W
            have t1 : decide ((k : Int) < (m : Int)) = true := decide_eq_true (by omega)
            have t2 : decide (k < m) = true := decide_eq_true hlt
            have i0 : (0 : Int) ≤ (k : Int) := by omega
            have i1 : (k : Int) < (m : Int) := by omega
            have ewk : IntKind.i64.wrap ((k : Int) + 1) = (k : Int) + 1 := by rw [IntKind.wrap_i64]; omega
            have Hm := hid hm
            clear he hc hc' hm
            go_wp2_with fail
            go_big_quiet (fail)
            go_wp2_with fail
            go_roundw
            case rel => exact ⟨k + 1, by omega, by go_num, ⟨HB.out.os, HB.out.tape, HB.out.output, HB.out.size, HB.out.block⟩⟩
            case measure => simp [intOf]; omega
          · obtain rfl : k = m := by omega
            have t1 : decide ((k : Int) < (k : Int)) = false := decide_eq_false (by omega)
            have t2 : decide (k < k) = false := decide_eq_false (by omega)
            have Hm := hid hm
            clear hm
            go_wp2_with fail
            go_ret
            exact ⟨rfl, (H12.out.1.next HB.out).1⟩
end Go.Proofs.Ytjblhajmnlcfaaa
