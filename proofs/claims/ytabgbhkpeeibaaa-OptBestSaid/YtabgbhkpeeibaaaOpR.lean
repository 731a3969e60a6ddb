/- OptBest, in its bounds. -/
import Derived.Test.YtabgbhkpeeibaaaOpQ
import Derived.Deep.RegionHeld3
namespace Go.Proofs.Ytabgbhkpeeibaaa
open Go.RowKit
set_option maxHeartbeats 64000000
set_option maxRecDepth 100000
theorem goW_rng {nd : Int} {l : List Lnk} {gn : List Bool} {P : List Int} {r : Int × Nat × Int} (hck : (checkS nd l).2 = 0) (hl : l.length ≤ 1000) : ∀ (es : List Int) (v : Int) (k : Nat), goW l gn P es v k = some r → ∀ e ∈ es, -9223372036854775808 ≤ e ∧ e ≤ 9223372036854775807
  | [], _, _, _ => fun e he => by cases he
  | f :: es, v, k, h => fun e he => by
    rw [goW] at h
    split at h
    · rename_i hh
      obtain ⟨r1, h1, -⟩ := Option.map_eq_some_iff.1 h
      rcases List.mem_cons.1 he with rfl | he
      · obtain ⟨K, a, b, rfl, hK, -⟩ := ends_facts hck hh.1
        omega
      · exact goW_rng hck hl es _ _ h1 e he
    · cases h
theorem new_row2 {w : World} {o : Obj} {xs : List Value} {cs : Array Value} {t : TypeId} (h : cs = xs.toArray) : ∀ (j : Nat) (u : Value), xs[j]? = some u → ((w.alloc o).alloc (.cells cs t)).cell? ((⟨w.heap.size + 1, 0, none⟩ : Addr).add j) = some u := by
  intro j u hu
  have := new_row (w := w.alloc o) (t := t) h j u hu
  rwa [show (w.alloc o).heap.size = w.heap.size + 1 from by simp] at this
theorem optBest_in (hO : OptSpec 9 12 14 18 16) (nd : Int) (A : Option Addr) (n c : Nat) (x : Wnt) (y : WSl) (l : List Lnk) (Ad : Option Addr) (n' c' : Nat) (dn : List Bool) (Ae : Option Addr) (ne ce : Nat) (pk : List Int) (w : World) (hg : GArg w nd A n c l) (hs : smallB nd n = true) (hw : WArg w x y) (hd : DArg w Ad n' c' dn) (hpk : RInt w w.heap.size Ae ne pk) (hne : 60 ≤ ne) (hf : fewB y = true) (hc0 : (costS nd l x dn).2 = 0) :
    Calls Try.prog 4 #[.agg #[.int .i64 nd, .slice A n c], .agg #[.int .i64 x.frm, .int .i64 x.too, .int .i64 x.bnd, .slice y.av y.nv y.cv, .slice y.an y.nn y.cn, .slice y.al y.nl y.cl, .slice y.ac y.nc y.cc], .slice Ad n' c', .slice Ae ne ce] w fun e w' => e = .returned (.bool true) ∧ Below w.heap.size w w' := by
  have hr0 := cost_right hc0
  have hS := Held2.start w nd A n c x y
  have hn16 : nd ≤ 10 ∧ n ≤ 16 := by unfold smallB at hs; simp only [Bool.and_eq_true, decide_eq_true_eq] at hs; exact hs
  have hl4 : y.nv ≤ 20 ∧ y.nn ≤ 60 ∧ y.nl ≤ 60 ∧ y.nc ≤ 60 := by
    unfold fewB at hf
    simp only [Bool.and_eq_true, decide_eq_true_eq] at hf
    omega
  obtain ⟨l1, l2, l3, l4⟩ := hl4
  obtain ⟨n1, n2⟩ := hn16
  have t2 : decide ((200 : Int) < (n' : Int)) = false := by have := hd.len; simp; omega
  have t3 : decide ((ne : Int) < (60 : Int)) = false := by simp; omega
  have t4 : ((0 : Int) != 0) = false := by decide
  have HA := hid (fun (w' : World) (h : Held2 w nd A n c x y w') => h.calls (alive15 hO w'))
  have HSm := hid (fun (w' : World) (h : Held2 w nd A n c x y w') => h.calls (small_any nd A n c w'))
  have HFw := hid (fun (w' : World) (h : Held2 w nd A n c x y w') => h.calls (few_any x y w'))
  have HN := hid (fun (z : Int) (W : World) => onum_any z W)
  rw [hs] at HSm
  rw [hf] at HFw
  have HC := hid (fun (w' : World) (h : Held2 w nd A n c x y w') => h.calls (hO.cost nd A n c l x y Ad n' c' dn w' (hg.on h.1) (hw.on h.1) (hd.on h.1) (by omega) (by omega) (by omega) (by omega)))
  have HHs := hid (fun (Ax : Option Addr) (nx cx : Nat) (es : List Int) (w' : World) (h : Held2 w nd A n c x y w') (he : EArg w' Ax nx cx es) => (hO.has nd A n c l x y Ad n' c' dn Ax nx cx es w' (hg.on h.1) (hw.on h.1) (hd.on h.1) (by omega) (by omega) (by omega) (by omega) he).mono fun _ _ h4 => (⟨h4.1, h.next h4.2, h4.2⟩ : _ ∧ Held2 w nd A n c x y _ ∧ Below w'.heap.size w' _))
  have HSt := hid (fun (v k e : Int) (w' : World) (h : Held2 w nd A n c x y w') (h1 : -9223372036854775808 ≤ v ∧ v ≤ 9223372036854775807) (h2 : -9223372036854775808 ≤ k ∧ k ≤ 9223372036854775807) (h3 : -9223372036854775808 ≤ e ∧ e ≤ 9223372036854775807) => (hO.step nd A n c l x y Ad n' c' dn v k e w' (hg.on h.1) (hw.on h.1) (hd.on h.1) (by omega) (by omega) (by omega) (by omega) h1 h2 h3).mono fun _ _ h4 => (⟨h4.1, h.next h4.2, h4.2⟩ : _ ∧ Held2 w nd A n c x y _ ∧ Below w'.heap.size w' _))
  have hll := hg.row.1
  have HPr := hid (fun (w' : World) (h : Held2 w nd A n c x y w') => (bl_out (m := n) (by rw [prunedS_n hr0, hll]) (by omega) (refDown_spec nd A n c l x y Ad n' c' dn w' (hg.on h.1) (hw.on h.1) (hd.on h.1) (by omega) (by omega) (by omega) (by omega))).mono fun _ _ ⟨A', c', h1, h2, h3⟩ => (⟨A', c', h1, h2, h.next h3⟩ : ∃ A' c', _ = Ending.returned (.slice A' n c') ∧ DArg _ A' n c' (prunedS nd l x dn) ∧ Held2 w nd A n c x y _))
  have HSs := hid (fun (w' : World) (h : Held2 w nd A n c x y w') => (hO.start x y w' (hw.on h.1) (by omega)).mono fun _ _ h4 => (⟨h4.1, h.next h4.2, h4.2⟩ : _ ∧ Held2 w nd A n c x y _ ∧ Below w'.heap.size w' _))
  have HGo := hid (fun (w' : World) (h : Held2 w nd A n c x y w') => (hO.goal x y w' (hw.on h.1) (by omega)).mono fun _ _ h4 => (⟨h4.1, h.next h4.2, h4.2⟩ : _ ∧ Held2 w nd A n c x y _ ∧ Below w'.heap.size w' _))
  obtain ⟨hck, hpt, hvl⟩ := right_ok hr0
  have hP5 : (x.via ++ [x.too]).length ≤ 5 := by rw [List.length_append, List.length_singleton]; omega
  have hB0 := binv_start (dn := dn) hr0 n1 hc0
  have hst : startS x = (x.frm, ((runN x.frm (x.via ++ [x.too]) : Nat) : Int)) := by
    unfold startS comeS
    rw [if_pos (by omega), show ptsS x = x.frm :: (x.via ++ [x.too]) from rfl]
    simp
  have hEnd := hid (fun (v : Int) (q : Nat) (sm : Int) (es : List Int) => binv_end (nd := nd) (l := l) (x := x) (dn := dn) (v := v) (q := q) (sm := sm) (es := es) hc0)
  have hOn := hid (fun (v : Int) (q : Nat) (sm : Int) (es : List Int) (cost : Int) => binv_on (nd := nd) (l := l) (x := x) (gn := prunedS nd l x dn) (cost := cost) (v := v) (q := q) (sm := sm) (es := es) hr0)
  have hSt := hid (fun (v : Int) (q : Nat) (sm : Int) (es : List Int) (cost : Int) (K : Nat) (p : Int × Int) => binv_step (nd := nd) (l := l) (x := x) (gn := prunedS nd l x dn) (cost := cost) (v := v) (q := q) (sm := sm) (es := es) (K := K) (p := p) hr0 n1)
  have hSS : Hid (∀ (v k e : Int), stepS nd l x dn v k e = stepO nd l x (prunedS nd l x dn) v k e) := fun v k e => by unfold stepS; rw [if_pos hc0]
  rw [hst] at HSs
  rw [hc0] at HC
  obtain ⟨cost, hcost⟩ : ∃ cost, (costS nd l x dn).1 = cost := ⟨_, rfl⟩
  obtain ⟨gn, hgn⟩ : ∃ gn, prunedS nd l x dn = gn := ⟨_, rfl⟩
  obtain ⟨q0, hq0⟩ : ∃ q0, runN x.frm (x.via ++ [x.too]) = q0 := ⟨_, rfl⟩
  rw [hcost] at HC hB0 hEnd
  rw [hgn] at HPr hB0 hEnd hOn hSt hSS
  rw [hq0] at HSs hB0
  have HQ0 := hid hq0
  have hlen := hid hw.via.row.1
  have hnon := hw.via.non
  have HB0 := hid hB0
  have HCk := hid hck
  have HLk := hid hg.row
  have HPk := hid hpk
  have HV := hid (fun (w' : World) (h : Held2 w nd A n c x y w') => (hw.via.on h.1).row)
  have HGL : Hid ((goalS x).1 = x.too ∧ (goalS x).2 = ((x.via ++ [x.too]).length : Int)) := ⟨rfl, by show (x.via.length : Int) + 1 = _; simp⟩
  obtain ⟨g1, hg1⟩ : ∃ g1, (goalS x).1 = g1 := ⟨_, rfl⟩
  obtain ⟨g2, hg2⟩ : ∃ g2, (goalS x).2 = g2 := ⟨_, rfl⟩
  rw [hg1, hg2] at HGo HGL
  have HEnds := hid (fun (e : Int) (he : e ≤ 9223372036854775807) (w' : World) (h : Held2 w nd A n c x y w') => (refEnds_any nd A n c l e w' (hg.on h.1).row (by omega) he).mono fun _ _ h2 => (⟨h2.1, h.next h2.2, h2.2⟩ : _ ∧ Held2 w nd A n c x y _ ∧ Below w'.heap.size w' _))
  obtain ⟨i5, Ai0, Az00, Az10, Az20⟩ := info_parts int_info
  have Ai := hid Ai0
  have Az0 := hid Az00
  have Az1 := hid Az10
  have Az2 := hid Az20
  clear Ai0 Az00 Az10 Az20 hs hw hd hf hr0 hc0 hck hpt hO hB0 hst hcost hgn hq0 hg1 hg2 hpk hg
  go_enter Try.func4, Try.ntmps4
  go_upto_region 9 with (first
    | (go_at_call 7; (with_reducible refine (HA.out _ hS).mono ?_); rintro e' w1 ⟨rfl, h1⟩; obtain ⟨g0, g1⟩ := h1.g; obtain ⟨g2, g3, g4, g5, g6, g7, g8⟩ := h1.v)
    | (go_at_call 20; (with_reducible refine (HSm.out _ h1).mono ?_); rintro e' w2 ⟨rfl, h2⟩; obtain ⟨q0, q1⟩ := h2.g; obtain ⟨q2, q3, q4, q5, q6, q7, q8⟩ := h2.v)
    | (go_at_call 8; (with_reducible refine (HFw.out _ h2).mono ?_); rintro e' w3 ⟨rfl, h3⟩; obtain ⟨r0, r1⟩ := h3.g; obtain ⟨r2, r3, r4, r5, r6, r7, r8⟩ := h3.v)
    | (go_at_call 9; (with_reducible refine (HC.out _ h3).mono ?_); rintro e' w4 ⟨rfl, h4⟩; obtain ⟨s0, s1⟩ := h4.g; obtain ⟨s2, s3, s4, s5, s6, s7, s8⟩ := h4.v)
    | (go_at_call 11; (with_reducible refine (HN.out _ _).mono ?_); rintro _ _ ⟨rfl, rfl⟩)
    | (go_at_call 21; (with_reducible refine (HPr.out _ h4).mono ?_); rintro e' w6 ⟨A6, c6, rfl, hd6, h6⟩; have HD6 := hid hd6; clear hd6; obtain ⟨u0, u1⟩ := h6.g; obtain ⟨u2, u3, u4, u5, u6, u7, u8⟩ := h6.v)
    | (go_at_call 12; (with_reducible refine (HSs.out _ h6).mono ?_); rintro e' w7 ⟨rfl, h7, b7⟩; have HD7 := hid (HD6.out.on b7); clear b7 HD6))
  clear g0 g1 g2 g3 g4 g5 g6 g7 g8 q0 q1 q2 q3 q4 q5 q6 q7 q8 r0 r1 r2 r3 r4 r5 r6 r7 r8 s0 s1 s2 s3 s4 s5 s6 s7 s8 u0 u1 u2 u3 u4 u5 u6 u7 u8 t2 t3 t4
  have H7 := hid h7
  have hlt7 : w7.heap.size < (w7.alloc (.cells #[.int .i64 x.frm, .int .i64 (q0 : Int)] 29)).heap.size := by simp
  go_wp2_with fail
  go_loopw [14, 15, 16] (fun a b i wr => ∃ (es : List Int) (v sm : Int) (q : Nat), a = .int .i64 sm ∧ i = .int .i64 (es.length : Nat) ∧ Hid (wr.ownsRow (w7.heap.size + 1) 3 1 b es.length (icells es)) ∧ Hid (wr.heap[w7.heap.size]? = some (.cells #[.int .i64 v, .int .i64 (q : Int)] 29 (0, 0))) ∧ Hid (Below w7.heap.size w7 wr) ∧ Hid (BInv nd l x gn cost v q sm es)) (fun _ _ i _ => 60 - (intOf i).toNat)
  case atStart => exact ⟨[], x.frm, 0, q0, rfl, rfl, World.ownsRow_nil _ _ _ _, heap_alloc_new w7 _, (Below.refl _ _).alloc (Nat.le_refl _) _, HB0.out⟩
  case round =>
    obtain ⟨es, v, sm, q, rfl, rfl, HO, HX, HB, HI⟩ := hrel
    obtain ⟨Ae1, ce1, rfl⟩ := own_form HO.out
    have hlow := HI.out.low
    have hi60 : es.length ≤ 49 := by omega
    have hlr : w7.heap.size < wr.heap.size := blk_lt HX.out
    have hrng := HI.out.rng
    have hqle := HI.out.qle
    have t1 : decide ((es.length : Int) < 60) = true := decide_eq_true (by omega)
    have HK : Hid (∀ W, Below wr.heap.size wr W → Held2 w nd A n c x y W ∧ (W.cell? ⟨w7.heap.size, 0, none⟩ = some (.int .i64 v) ∧ W.cell? ⟨w7.heap.size, 1, none⟩ = some (.int .i64 (q : Int))) ∧ Below w7.heap.size w7 W) := fun W hb => by
      have hb7 := HB.out.trans (hb.mono HB.out.size)
      have hx := box_below HX.out hb hlr
      exact ⟨H7.out.next hb7, ⟨by rw [cell_of_row _ _ _ _ _ _ hx]; rfl, by rw [cell_of_row _ _ _ _ _ _ hx]; rfl⟩, hb7⟩
    have HS12 : Hid (∀ W, Below wr.heap.size wr W → W.cell? ⟨w.heap.size + 1, 0, none⟩ = some (.int .i64 x.frm) ∧ W.cell? ⟨w.heap.size + 1, 1, none⟩ = some (.int .i64 x.too) ∧ W.cell? ⟨w.heap.size + 1, 2, none⟩ = some (.int .i64 x.bnd) ∧ W.cell? ⟨w.heap.size + 1, 3, none⟩ = some (.slice y.av y.nv y.cv) ∧ W.cell? ⟨w.heap.size + 1, 4, none⟩ = some (.slice y.an y.nn y.cn) ∧ W.cell? ⟨w.heap.size + 1, 5, none⟩ = some (.slice y.al y.nl y.cl) ∧ W.cell? ⟨w.heap.size + 1, 6, none⟩ = some (.slice y.ac y.nc y.cc) ∧ W.cell? ⟨w7.heap.size, 0, none⟩ = some (.int .i64 v) ∧ W.cell? ⟨w7.heap.size, 1, none⟩ = some (.int .i64 (q : Int))) := fun W hb => by
      have h1 := HK.out W hb
      obtain ⟨c2, c3, c4, c5, c6, c7, c8⟩ := h1.1.v
      exact ⟨c2, c3, c4, c5, c6, c7, c8, h1.2.1.1, h1.2.1.2⟩
    have s0 := HS12.out _ (Below.refl _ _)
    have sD := HS12.out _ (Below.drew (Below.refl _ _))
    have hK0 := (HK.out _ (Below.drew (Below.refl _ _))).1
    by_cases hqe : q = (x.via ++ [x.too]).length
    · have hvt := HI.out.last hqe
      have hn2 : ∀ W : World, (binOp .neq 29 (.agg #[.int .i64 v, .int .i64 (q : Int)]) (.agg #[.int .i64 g1, .int .i64 g2])).run Try.prog W = .ok (.bool false) W := fun W => by
        rw [neq2_run, HGL.out.1, HGL.out.2, hvt, hqe]; simp
      have Hqe := hid hqe
      have Hvt := hid hvt
      clear hvt hqe hqle hlow hrng hi60
      go_wp2_with fail
      go_region_held3 (fun W => W.cell? ⟨w.heap.size + 1, 0, none⟩ = some (.int .i64 x.frm) ∧ W.cell? ⟨w.heap.size + 1, 1, none⟩ = some (.int .i64 x.too) ∧ W.cell? ⟨w.heap.size + 1, 2, none⟩ = some (.int .i64 x.bnd) ∧ W.cell? ⟨w.heap.size + 1, 3, none⟩ = some (.slice y.av y.nv y.cv) ∧ W.cell? ⟨w.heap.size + 1, 4, none⟩ = some (.slice y.an y.nn y.cn) ∧ W.cell? ⟨w.heap.size + 1, 5, none⟩ = some (.slice y.al y.nl y.cl) ∧ W.cell? ⟨w.heap.size + 1, 6, none⟩ = some (.slice y.ac y.nc y.cc) ∧ W.cell? ⟨w7.heap.size, 0, none⟩ = some (.int .i64 v) ∧ W.cell? ⟨w7.heap.size, 1, none⟩ = some (.int .i64 (q : Int)))
        (first | go_keep | exact s8 | exact sD)
        (first | (go_at_call 14; (with_reducible refine (HGo.out _ hK0).mono ?_); rintro e' w8 ⟨rfl, h8, b8⟩; have s8 := HS12.out _ ((Below.drew (Below.refl _ _)).trans b8)))
      have HBb := hid ((Below.drew (Below.refl _ _)).trans b8 : Below wr.heap.size wr w8)
      clear b8 s8 sD s0 hn2 hK0
      have HM5 := hid hP5
      obtain ⟨m, hm⟩ : ∃ m, (x.via ++ [x.too]).length = m := ⟨_, rfl⟩
      rw [hm] at hP5
      have hmn : 0 + y.nv + 1 = m := by have := hlen.out; simp at hm; omega
      have hmn2 : y.nv + 1 = m := by omega
      have Hm := hid hm
      clear hm
      go_upto_region 29 with fail
      go_cut [22] (fun q wx => ∃ (Ap : Option Addr) (cp : Nat), q = .slice Ap m cp ∧ Hid (Below w8.heap.size w8 wx ∧ RInt wx wx.heap.size Ap m (x.via ++ [x.too])))
      case first =>
        go_wp2_with fail
        have hlt6 := h8.lt
        have HSb : Hid (∀ W, Below w8.heap.size w8 W → W.cell? ⟨w.heap.size, 0, none⟩ = some (.int .i64 nd) ∧ W.cell? ⟨w.heap.size, 1, none⟩ = some (.slice A n c) ∧ W.cell? ⟨w.heap.size + 1, 0, none⟩ = some (.int .i64 x.frm) ∧ W.cell? ⟨w.heap.size + 1, 1, none⟩ = some (.int .i64 x.too) ∧ W.cell? ⟨w.heap.size + 1, 2, none⟩ = some (.int .i64 x.bnd) ∧ W.cell? ⟨w.heap.size + 1, 3, none⟩ = some (.slice y.av y.nv y.cv) ∧ W.cell? ⟨w.heap.size + 1, 4, none⟩ = some (.slice y.an y.nn y.cn) ∧ W.cell? ⟨w.heap.size + 1, 5, none⟩ = some (.slice y.al y.nl y.cl) ∧ W.cell? ⟨w.heap.size + 1, 6, none⟩ = some (.slice y.ac y.nc y.cc)) := fun W hb => (h8.next hb).s
        have R6 := hid (HV.out _ h8.drew)
        have bd : Below w8.heap.size w8 w8.drew := (Below.refl _ _).drew
        have BD := hid bd
        have BA := hid (bd.alloc (Nat.le_refl _) (.cells #[.int .i64 x.too] 3))
        have R7 := hid (HV.out _ (h8.next BA.out))
        clear bd
        refine region_ord 7 (fun W => W.cell? ⟨w.heap.size, 0, none⟩ = some (.int .i64 nd) ∧ W.cell? ⟨w.heap.size, 1, none⟩ = some (.slice A n c) ∧ W.cell? ⟨w.heap.size + 1, 0, none⟩ = some (.int .i64 x.frm) ∧ W.cell? ⟨w.heap.size + 1, 1, none⟩ = some (.int .i64 x.too) ∧ W.cell? ⟨w.heap.size + 1, 2, none⟩ = some (.int .i64 x.bnd) ∧ W.cell? ⟨w.heap.size + 1, 3, none⟩ = some (.slice y.av y.nv y.cv) ∧ W.cell? ⟨w.heap.size + 1, 4, none⟩ = some (.slice y.an y.nn y.cn) ∧ W.cell? ⟨w.heap.size + 1, 5, none⟩ = some (.slice y.al y.nl y.cl) ∧ W.cell? ⟨w.heap.size + 1, 6, none⟩ = some (.slice y.ac y.nc y.cc)) (by kernel_rfl) (HSb.out _ BD.out) (fun hHeld => ?_)
        refine OrdF.take (i := 0) (v := ?_) rfl (by kernel_rfl) (fun _ _ _ h => h) (by rfl) ?_ (by assumption) ?_
        (rotate_left; focus (intro w' hSw; (try dsimp only at hSw); go_simp; (try with_reducible rfl)))
        try simp only [List.getElem_toArray, List.getElem_cons_zero, Act.put, List.setIfInBounds_toArray, List.set_cons_zero, List.set_cons_succ]
        refine OrdF.take (i := 1) (v := ?_) rfl (by kernel_rfl) (fun _ _ _ h => h) (by rfl) ?_ (by assumption) ?_
        (rotate_left; focus (intro w' hSw; (try dsimp only at hSw); go_simp; (try with_reducible rfl)))
        try simp only [List.getElem_toArray, List.getElem_cons_succ, List.getElem_cons_zero, Act.put, List.setIfInBounds_toArray, List.set_cons_zero, List.set_cons_succ]
        refine OrdF.take (i := 3) (v := ?_) rfl (by kernel_rfl) (fun _ _ _ h => h) (by rfl) ?_ (by assumption) ?_
        (rotate_left; focus (intro w' hSw; (try dsimp only at hSw); go_simp; (try with_reducible rfl)))
        try simp only [List.getElem_toArray, List.getElem_cons_succ, List.getElem_cons_zero, Act.put, List.setIfInBounds_toArray, List.set_cons_zero, List.set_cons_succ]
        refine OrdF.take (i := 4) (v := ?_) rfl (by kernel_rfl) (fun _ _ _ h => h) (by rfl) ?_ (by assumption) ?_
        (rotate_left; focus (intro w' hSw; (try dsimp only at hSw); go_simp; (try with_reducible rfl)))
        try simp only [List.getElem_toArray, List.getElem_cons_succ, List.getElem_cons_zero, Act.put, List.setIfInBounds_toArray, List.set_cons_zero, List.set_cons_succ]
        refine OrdF.two (i := 2) (j := 5) rfl rfl (by kernel_rfl) (fun K hK => ?_) (fun K hK => ?_)
        · (refine step_append_opt (by rfl) (.const (.slice none 0 0)) (.tmp 140) 25 (by rfl) w8.heap.size 3 i5 (.int .i64 0) 1 8 Try.underlying25 Ai.out Az0.out Az1.out Az2.out rfl (by decide) none 0 0 [] (by rfl) (World.ownsRow_nil _ _ _ _) y.av y.nv y.cv (icells x.via) (by rfl) hnon (by rw [icells_len, hlen.out]; omega) (ints_src R6.out) (icells_one _) (by unfold maxLen; omega) (by omega) (by simp; try omega) ?_; intro D7 c7 wd hown7 hg7; have HG7 := hid hg7; have HO7 := hid hown7; clear hown7 hg7)
          have HB7 := hid (BD.out.grown HG7.out (by simp) (fun q hq => by simp [Value.ownBlock] at hq))
          try go_wp2_with fail
          refine hK.out _ _ (HSb.out _ HB7.out) (fun hHeld => ?_)
          clear hK K
          try simp only [List.getElem_toArray, List.getElem_cons_succ, List.getElem_cons_zero, Act.put, List.setIfInBounds_toArray, List.set_cons_zero, List.set_cons_succ]
          refine OrdF.one (i := 5) rfl (by kernel_rfl) (fun K hK => ?_)
          try simp only [List.getElem_toArray, List.getElem_cons_succ, List.getElem_cons_zero, Act.put, List.setIfInBounds_toArray, List.set_cons_zero, List.set_cons_succ]
          go_simp
          try go_wp2_with fail
          refine hK.out _ _ (HSb.out _ (HB7.out.alloc HB7.out.size _)) (fun hHeld => ?_)
          clear hK K
          try simp only [List.getElem_toArray, List.getElem_cons_succ, List.getElem_cons_zero, Act.put, List.setIfInBounds_toArray, List.set_cons_zero, List.set_cons_succ]
          refine OrdF.one (i := 6) rfl (by kernel_rfl) (fun K hK => ?_)
          (refine step_append_opt (by rfl) (.tmp 141) (.tmp 144) 25 (by rfl) w8.heap.size 3 i5 (.int .i64 0) 1 8 Try.underlying25 Ai.out Az0.out Az1.out Az2.out rfl (by decide) _ _ _ _ (by first | rfl | (rw [Nat.zero_add]; rfl)) (HO7.out.alloc _) (some ⟨wd.heap.size, 0, none⟩) 1 1 (icells [x.too]) (by rfl) (fun h => by cases h) (by rfl) (one_src (heap_alloc_new wd _)) (icells_one _) (by unfold maxLen; omega) (by omega) (by have := HB7.out.size; simp at this ⊢; omega) ?_; intro D8 c8 wf hown8 hg8; have HO8 := hid hown8; have HG8 := hid hg8; clear hown8 hg8)
          have HB8 := hid ((HB7.out.alloc HB7.out.size _).grown HG8.out (by have := HB7.out.size; simp at this ⊢; omega) (fun q hq => (HO7.out.lt q hq).1))
          try go_wp2_with fail
          refine hK.out _ _ (HSb.out _ HB8.out) (fun hHeld => ?_)
          clear hK K
          try simp only [List.getElem_toArray, List.getElem_cons_succ, List.getElem_cons_zero, Act.put, List.setIfInBounds_toArray, List.set_cons_zero, List.set_cons_succ]
          refine OrdF.last (n := 7) rfl (by kernel_rfl) (fun K hK => ?_)
          try simp only [List.getElem_toArray, List.getElem_cons_succ, List.getElem_cons_zero, Act.put, List.setIfInBounds_toArray, List.set_cons_zero, List.set_cons_succ]
          go_simp
          refine hK.out _ _ ?_
          clear hK K
          try simp only [List.getElem_toArray, List.getElem_cons_succ, List.getElem_cons_zero, Act.put, List.setIfInBounds_toArray, List.set_cons_zero, List.set_cons_succ]
          go_wp2_with fail
          go_meet
          exact ⟨_, _, by first | rfl | rw [hmn2], HB8.out, path_end HO8.out hlen.out hmn⟩
        · try simp only [List.getElem_toArray, List.getElem_cons_succ, List.getElem_cons_zero, Act.put, List.setIfInBounds_toArray, List.set_cons_zero, List.set_cons_succ]
          go_simp
          try go_wp2_with fail
          refine hK.out _ _ (HSb.out _ BA.out) (fun hHeld => ?_)
          clear hK K
          try simp only [List.getElem_toArray, List.getElem_cons_succ, List.getElem_cons_zero, Act.put, List.setIfInBounds_toArray, List.set_cons_zero, List.set_cons_succ]
          refine OrdF.one (i := 2) rfl (by kernel_rfl) (fun K hK => ?_)
          (refine step_append_opt (by rfl) (.const (.slice none 0 0)) (.tmp 140) 25 (by rfl) w8.heap.size 3 i5 (.int .i64 0) 1 8 Try.underlying25 Ai.out Az0.out Az1.out Az2.out rfl (by decide) none 0 0 [] (by rfl) (World.ownsRow_nil _ _ _ _) y.av y.nv y.cv (icells x.via) (by rfl) hnon (by rw [icells_len, hlen.out]; omega) (ints_src R7.out) (icells_one _) (by unfold maxLen; omega) (by omega) (by simp; try omega) ?_; intro D7 c7 wd hown7 hg7; have HG7 := hid hg7; have HO7 := hid hown7; clear hown7 hg7)
          have HB7 := hid (BA.out.grown HG7.out (by simp) (fun q hq => by simp [Value.ownBlock] at hq))
          try go_wp2_with fail
          refine hK.out _ _ (HSb.out _ HB7.out) (fun hHeld => ?_)
          clear hK K
          try simp only [List.getElem_toArray, List.getElem_cons_succ, List.getElem_cons_zero, Act.put, List.setIfInBounds_toArray, List.set_cons_zero, List.set_cons_succ]
          refine OrdF.one (i := 6) rfl (by kernel_rfl) (fun K hK => ?_)
          (refine step_append_opt (by rfl) (.tmp 141) (.tmp 144) 25 (by rfl) w8.heap.size 3 i5 (.int .i64 0) 1 8 Try.underlying25 Ai.out Az0.out Az1.out Az2.out rfl (by decide) _ _ _ _ (by first | rfl | (rw [Nat.zero_add]; rfl)) (HO7.out) (some ⟨w8.heap.size, 0, none⟩) 1 1 (icells [x.too]) (by rfl) (fun h => by cases h) (by rfl) (one_src ((HG7.out.block w8.heap.size (by simp) (by simp [Value.ownBlock])).trans (heap_alloc_new w8.drew _))) (icells_one _) (by unfold maxLen; omega) (by omega) (by have := HB7.out.size; simp at this ⊢; omega) ?_; intro D8 c8 wf hown8 hg8; have HO8 := hid hown8; have HG8 := hid hg8; clear hown8 hg8)
          have HB8 := hid (HB7.out.grown HG8.out HB7.out.size (fun q hq => (HO7.out.lt q hq).1))
          try go_wp2_with fail
          refine hK.out _ _ (HSb.out _ HB8.out) (fun hHeld => ?_)
          clear hK K
          try simp only [List.getElem_toArray, List.getElem_cons_succ, List.getElem_cons_zero, Act.put, List.setIfInBounds_toArray, List.set_cons_zero, List.set_cons_succ]
          refine OrdF.last (n := 7) rfl (by kernel_rfl) (fun K hK => ?_)
          try simp only [List.getElem_toArray, List.getElem_cons_succ, List.getElem_cons_zero, Act.put, List.setIfInBounds_toArray, List.set_cons_zero, List.set_cons_succ]
          go_simp
          refine hK.out _ _ ?_
          clear hK K
          try simp only [List.getElem_toArray, List.getElem_cons_succ, List.getElem_cons_zero, Act.put, List.setIfInBounds_toArray, List.set_cons_zero, List.set_cons_succ]
          go_wp2_with fail
          go_meet
          exact ⟨_, _, by first | rfl | rw [hmn2], HB8.out, path_end HO8.out hlen.out hmn⟩
      case rest =>
        obtain ⟨Ap, cp, rfl, HX9⟩ := hcut
        rename World => wq
        obtain ⟨z1, z2, z3, sg, z4⟩ := hEnd.out v q sm es HI.out Hqe.out
        obtain ⟨P, hPP⟩ : ∃ P, x.via ++ [x.too] = P := ⟨_, rfl⟩
        rw [hPP] at HX9 Hm Hqe HGL z4
        have HBX := hid (HBb.out.trans (HX9.out.1.mono HBb.out.size))
        obtain ⟨bp, op, rfl, hbp, hcp⟩ := HX9.out.2.2 (by omega)
        have HKq : Hid (∀ W, Below wq.heap.size wq W → Below wr.heap.size wr W) := fun W hb => HBX.out.trans (hb.mono HBX.out.size)
        have HPc : Hid (∀ W, Below wq.heap.size wq W → ∀ j u, P[j]? = some u → W.cell? ⟨bp, op + j, none⟩ = some (.int .i64 u)) := fun W hb j u hu => (hb.cell (p := ⟨bp, op + j, none⟩) hbp).trans (hcp j u hu)
        obtain ⟨CG0, CG1⟩ := (HK.out _ (HKq.out _ (Below.refl _ _))).1.g
        obtain ⟨CG2, CG3, CG4, CG5, CG6, CG7, CG8⟩ := (HK.out _ (HKq.out _ (Below.refl _ _))).1.v
        clear hcp HX9
        go_upto_block 4 with fail
        go_cut [24] (fun qv wz => qv = .int .i64 (runN x.frm P : Nat) ∧ Hid (Below wq.heap.size wq wz))
        case first =>
          go_wp2_with fail
          go_loopw [24] (fun i wz => ∃ j : Nat, j ≤ runN x.frm P ∧ i = .int .i64 j ∧ Hid (Below wq.heap.size wq wz)) (fun i _ => m - (intOf i).toNat)
          case atStart => exact ⟨0, Nat.zero_le _, rfl, Below.refl _ _⟩
          case round =>
            obtain ⟨j, hj, rfl, HB⟩ := hrel
            by_cases hlt : j < m
            · have d1 : decide ((j : Int) < (m : Int)) = true := decide_eq_true (by omega)
              have d2 : decide (j < m) = true := decide_eq_true hlt
              obtain ⟨u, hu⟩ : ∃ u, P[j]? = some u := ⟨_, List.getElem?_eq_getElem (by have := Hm.out; omega)⟩
              have hc := HPc.out _ HB.out j u hu
              obtain ⟨r1, r2⟩ := run_more hj hu
              have hi1 : (0 : Int) ≤ (j : Int) := by omega
              have hi2 : (j : Int) < (m : Int) := by omega
              have ewk : IntKind.i64.wrap ((j : Int) + 1) = (j : Int) + 1 := by rw [IntKind.wrap_i64]; omega
              by_cases h2 : u = x.frm
              · have hj2 := r1 h2
                subst h2
                clear r1 r2 hu hj
                go_wp2_with fail
                go_roundw
                case rel => exact ⟨j + 1, hj2, by go_num, HB⟩
                case measure => simp [intOf]; omega
              · have d4 : (u == x.frm) = false := by rw [beq_eq_false_iff_ne]; exact h2
                have d5 : decide (u = x.frm) = false := decide_eq_false h2
                have hj2 := hid (r2 h2)
                clear r1 r2 hu hj
                go_wp2_with fail
                go_meet
                exact ⟨by rw [hj2.out], HB⟩
            · have hj2 := hid (run_all hj (by have := Hm.out; omega))
              have d1 : decide ((j : Int) < (m : Int)) = false := decide_eq_false (by omega)
              have d2 : decide (j < m) = false := decide_eq_false hlt
              clear hj
              go_wp2_with fail
              go_meet
              exact ⟨by rw [hj2.out], HB⟩
        case rest =>
          obtain ⟨rfl, HB0⟩ := hcut
          clear CG0 CG1 CG2 CG3 CG4 CG5 CG6 CG7 CG8
          have HZ := hid z4
          have HZ1 := hid z1; have HZ2 := hid z2; have HZ3 := hid z3
          clear z1 z2 z3 z4
          have hlow2 := HI.out.low
          have hel : es.length ≤ 49 := by omega
          have herng : Hid (∀ e ∈ es, -9223372036854775808 ≤ e ∧ e ≤ 9223372036854775807) := goW_rng HCk.out (by have := HLk.out.1; omega) es _ _ HZ.out
          have HOe : Hid (∀ W, Below wr.heap.size wr W → EArg W Ae1 es.length ce1 es) := fun W hb => by
            obtain ⟨A', c', he, _, hri⟩ := own_ints (own_below HO.out hb) rfl
            cases he
            exact ⟨hri, by omega, herng.out⟩
          have HKz : Hid (∀ W, Below wq.heap.size wq W → Held2 w nd A n c x y W) := fun W hb => (HK.out _ (HKq.out _ hb)).1
          go_wp2_with fail
          go_loopw [23, 24, 25] (fun a b i wz => ∃ (i' k : Nat) (v' : Int), i' ≤ es.length ∧ a = .int .i64 v' ∧ b = .int .i64 k ∧ i = .int .i64 i' ∧ k ≤ m ∧ Hid (∃ s', goW l gn P (es.drop i') v' k = some (x.too, P.length, s')) ∧ Hid (Below wq.heap.size wq wz)) (fun _ _ i _ => es.length - (intOf i).toNat)
          case atStart => exact ⟨0, _, _, Nat.zero_le _, rfl, rfl, rfl, by have := runN_le x.frm P; have := Hm.out; omega, ⟨sg, HZ.out⟩, HB0.out⟩
          case round =>
            obtain ⟨i, k, v', hi, rfl, rfl, rfl, hk, HG, HB⟩ := hrel
            by_cases hlt : i < es.length
            · have d1 : decide ((i : Int) < (es.length : Int)) = true := decide_eq_true (by omega)
              have d2 : decide (i < es.length) = true := decide_eq_true hlt
              obtain ⟨e, he⟩ : ∃ e, es[i]? = some e := ⟨_, List.getElem?_eq_getElem (by omega)⟩
              have hEr := (HOe.out _ (HKq.out _ HB.out)).row
              obtain ⟨be, oe, rfl, hbe, hce0⟩ := hEr.2 (by omega)
              have hce := hce0 i e he
              have HSx : Hid (∀ W, Below wq.heap.size wq W → W.cell? ⟨w.heap.size, 0, none⟩ = some (.int .i64 nd) ∧ W.cell? ⟨w.heap.size, 1, none⟩ = some (.slice A n c) ∧ W.cell? ⟨be, oe + i, none⟩ = some (.int .i64 e)) := fun W hb => by
                have h1 := (HOe.out _ (HKq.out _ hb)).row
                obtain ⟨be', oe', hbe', -, hce'⟩ := h1.2 (by omega)
                cases hbe'
                exact ⟨(HKz.out _ hb).g.1, (HKz.out _ hb).g.2, hce' i e he⟩
              obtain ⟨e1, e2⟩ := herng.out e (List.mem_of_getElem? he)
              have i6 : (i : Int) < (es.length : Int) := by omega
              have i7 : (0 : Int) ≤ (i : Int) := by omega
              have hdr : es.drop i = e :: es.drop (i + 1) := by
                rw [List.drop_eq_getElem_cons (by omega)]
                congr 1
                exact (List.getElem?_eq_some_iff.1 he).2
              obtain ⟨s', hGe⟩ := HG.out
              rw [hdr, goW] at hGe
              have HEN := hid (HEnds.out e e2)
              have hBd := (Below.drew HB.out : Below wq.heap.size wq _)
              have hdw := HKz.out _ hBd
              have sD := HSx.out _ hBd
              split at hGe
              · rename_i hh
                obtain ⟨ha1, ha2, ha3⟩ := hh
                obtain ⟨b', hbb⟩ : ∃ b', (endsS l e).2.1 = b' := ⟨_, rfl⟩
                obtain ⟨a', haa⟩ : ∃ a', (endsS l e).1 = a' := ⟨_, rfl⟩
                obtain ⟨ok', hok⟩ : ∃ ok', (endsS l e).2.2 = ok' := ⟨_, rfl⟩
                rw [hbb] at hGe
                rw [hbb, haa, hok] at HEN
                obtain ⟨qr, hqr, hqr2⟩ := Option.map_eq_some_iff.1 hGe
                obtain ⟨qa, qb, qc⟩ := qr
                simp only [Prod.mk.injEq] at hqr2
                obtain ⟨rfl, rfl, hqc⟩ := hqr2
                have HG2 : Hid (∃ s', goW l gn P (es.drop (i + 1)) b' (k + runN b' (P.drop k)) = some (x.too, P.length, s')) := ⟨qc, hqr⟩
                have hkr : k + runN b' (P.drop k) ≤ m := by have := run_le_drop b' P (n := k) (by have := Hm.out; omega); have := Hm.out; omega
                clear hGe hqr hqc hce hce0 hdr ha1 ha2 ha3 hbb haa hok hEr
                go_wp2_with fail
                go_region_held3 (fun W => W.cell? ⟨w.heap.size, 0, none⟩ = some (.int .i64 nd) ∧ W.cell? ⟨w.heap.size, 1, none⟩ = some (.slice A n c) ∧ W.cell? ⟨be, oe + i, none⟩ = some (.int .i64 e))
                  (first | go_keep | exact s9 | exact sD)
                  (first | (go_at_call 22; (with_reducible refine (HEN.out _ hdw).mono ?_); rintro e' w9 ⟨rfl, h9, b9⟩; have s9 := HSx.out _ (hBd.trans (b9.mono hBd.size))))
                have HB9 := hid (hBd.trans (b9.mono hBd.size))
                clear b9 s9 sD h9 hdw hBd
                have ewo : IntKind.i64.wrap ((i : Int) + 1) = (i : Int) + 1 := by rw [IntKind.wrap_i64]; omega
                go_wp2_with fail
                go_loopw [24] (fun i wz => ∃ j : Nat, j ≤ runN b' (P.drop k) ∧ i = .int .i64 (k + j : Nat) ∧ Hid (Below wq.heap.size wq wz)) (fun i _ => m - (intOf i).toNat)
                case atStart => exact ⟨0, Nat.zero_le _, rfl, HB9⟩
                case round =>
                  obtain ⟨j, hj, rfl, HB⟩ := hrel
                  obtain ⟨J, hJ⟩ : ∃ J, k + j = J := ⟨_, rfl⟩
                  have hJm : J ≤ m := by omega
                  rw [hJ]
                  by_cases hlt : J < m
                  · have d1 : decide ((J : Int) < (m : Int)) = true := decide_eq_true (by omega)
                    have d2 : decide (J < m) = true := decide_eq_true hlt
                    obtain ⟨u, hu⟩ : ∃ u, P[J]? = some u := ⟨_, List.getElem?_eq_getElem (by have := Hm.out; omega)⟩
                    have hc := HPc.out _ HB.out J u hu
                    obtain ⟨r1, r2⟩ := run_more hj (u := u) (by rw [List.getElem?_drop, hJ]; exact hu)
                    have hi1 : (0 : Int) ≤ (J : Int) := by omega
                    have hi2 : (J : Int) < (m : Int) := by omega
                    have ewk : IntKind.i64.wrap ((J : Int) + 1) = (J : Int) + 1 := by rw [IntKind.wrap_i64]; omega
                    by_cases h2 : u = b'
                    · have hj2 := r1 h2
                      subst h2
                      clear r1 r2 hu hj
                      have HJ := hid hJ
                      clear hJ
                      go_wp2_with fail
                      go_roundw
                      case rel => exact ⟨j + 1, hj2, by rw [← Nat.add_assoc, HJ.out]; go_num, HB⟩
                      case measure => simp [intOf]; omega
                    · have d4 : (u == b') = false := by rw [beq_eq_false_iff_ne]; exact h2
                      have d5 : decide (u = b') = false := decide_eq_false h2
                      have hj2 := hid (r2 h2)
                      have HJ := hid hJ
                      clear r1 r2 hu hj hJ
                      have HG3 := HG2.out
                      rw [hj2.out, HJ.out] at HG3
                      have HG4 := hid HG3
                      clear HG3
                      go_wp2_with fail
                      go_roundw
                      case rel => exact ⟨i + 1, J, _, by omega, rfl, rfl, by go_num, hJm, HG4, HB⟩
                      case measure => simp [intOf]; omega
                  · have hj2 := hid (run_all hj (by rw [List.length_drop]; have := Hm.out; omega))
                    have d1 : decide ((J : Int) < (m : Int)) = false := decide_eq_false (by omega)
                    have d2 : decide (J < m) = false := decide_eq_false hlt
                    have HJ := hid hJ
                    clear hj hJ
                    have HG3 := HG2.out
                    rw [hj2.out, HJ.out] at HG3
                    have HG4 := hid HG3
                    clear HG3
                    go_wp2_with fail
                    go_roundw
                    case rel => exact ⟨i + 1, J, _, by omega, rfl, rfl, by go_num, hJm, HG4, HB⟩
                    case measure => simp [intOf]; omega
              · cases hGe
            · obtain rfl : i = es.length := by omega
              have d1 : decide ((es.length : Int) < (es.length : Int)) = false := decide_eq_false (by omega)
              have d2 : decide (es.length < es.length) = false := decide_eq_false (by omega)
              obtain ⟨s', hGe⟩ := HG.out
              rw [List.drop_length] at hGe
              simp only [goW, Option.some.injEq, Prod.mk.injEq] at hGe
              obtain ⟨hv1, hk1, -⟩ := hGe
              have hkm : k = m := by rw [hk1]; exact Hm.out
              have hn3 : ∀ W : World, (binOp .eql 29 (.agg #[.int .i64 v, .int .i64 (q : Int)]) (.agg #[.int .i64 g1, .int .i64 g2])).run Try.prog W = .ok (.bool true) W := fun W => by
                rw [eql2_run, HGL.out.1, HGL.out.2, Hvt.out, Hqe.out]; simp
              have y1 : (sm == cost) = true := by rw [HZ1.out]; exact beq_self_eq_true _
              have y2 : ((k : Int) == (m : Int)) = true := by rw [hkm]; exact beq_self_eq_true _
              have y2' : (k == m) = true := by rw [hkm]; exact beq_self_eq_true _
              have y3 : (v' == x.too) = true := by rw [hv1]; exact beq_self_eq_true _
              have y4 : decide (sm = cost) = true := decide_eq_true HZ1.out
              have y5 : decide (v' = x.too) = true := decide_eq_true hv1
              have HS40 : Hid (∀ W, Below wq.heap.size wq W → W.cell? ⟨w.heap.size, 0, none⟩ = some (.int .i64 nd) ∧ W.cell? ⟨w.heap.size, 1, none⟩ = some (.slice A n c) ∧ W.cell? ⟨w.heap.size + 1, 0, none⟩ = some (.int .i64 x.frm) ∧ W.cell? ⟨w.heap.size + 1, 1, none⟩ = some (.int .i64 x.too) ∧ W.cell? ⟨w.heap.size + 1, 2, none⟩ = some (.int .i64 x.bnd) ∧ W.cell? ⟨w.heap.size + 1, 3, none⟩ = some (.slice y.av y.nv y.cv) ∧ W.cell? ⟨w.heap.size + 1, 4, none⟩ = some (.slice y.an y.nn y.cn) ∧ W.cell? ⟨w.heap.size + 1, 5, none⟩ = some (.slice y.al y.nl y.cl) ∧ W.cell? ⟨w.heap.size + 1, 6, none⟩ = some (.slice y.ac y.nc y.cc) ∧ W.cell? ⟨w7.heap.size, 0, none⟩ = some (.int .i64 v) ∧ W.cell? ⟨w7.heap.size, 1, none⟩ = some (.int .i64 (q : Int))) := fun W hb => by
                have h1 := HK.out W (HKq.out _ hb)
                obtain ⟨c0, c1⟩ := h1.1.g
                obtain ⟨c2, c3, c4, c5, c6, c7, c8⟩ := h1.1.v
                exact ⟨c0, c1, c2, c3, c4, c5, c6, c7, c8, h1.2.1.1, h1.2.1.2⟩
              have HHe := hid (fun (W : World) (hb : Below wq.heap.size wq W) => HHs.out Ae1 es.length ce1 es W (HKz.out _ hb) (HOe.out _ (HKq.out _ hb)))
              rw [HZ2.out] at HHe
              have HGz := hid (fun (W : World) (hb : Below wq.heap.size wq W) => HGo.out W (HKz.out _ hb))
              clear hv1 hk1 hkm
              have sD := HS40.out _ (Below.drew HB.out)
              have hBd := (Below.drew HB.out : Below wq.heap.size wq _)
              go_wp2_with fail
              go_region_held3 (fun W => W.cell? ⟨w.heap.size, 0, none⟩ = some (.int .i64 nd) ∧ W.cell? ⟨w.heap.size, 1, none⟩ = some (.slice A n c) ∧ W.cell? ⟨w.heap.size + 1, 0, none⟩ = some (.int .i64 x.frm) ∧ W.cell? ⟨w.heap.size + 1, 1, none⟩ = some (.int .i64 x.too) ∧ W.cell? ⟨w.heap.size + 1, 2, none⟩ = some (.int .i64 x.bnd) ∧ W.cell? ⟨w.heap.size + 1, 3, none⟩ = some (.slice y.av y.nv y.cv) ∧ W.cell? ⟨w.heap.size + 1, 4, none⟩ = some (.slice y.an y.nn y.cn) ∧ W.cell? ⟨w.heap.size + 1, 5, none⟩ = some (.slice y.al y.nl y.cl) ∧ W.cell? ⟨w.heap.size + 1, 6, none⟩ = some (.slice y.ac y.nc y.cc) ∧ W.cell? ⟨w7.heap.size, 0, none⟩ = some (.int .i64 v) ∧ W.cell? ⟨w7.heap.size, 1, none⟩ = some (.int .i64 (q : Int)))
                (first | go_keep | exact s10 | exact s9 | exact sD)
                (first
                  | (go_at_call 14; (with_reducible refine (HGz.out _ hBd).mono ?_); rintro e' w9 ⟨rfl, h9, b9⟩; have B9 := hid (hBd.trans (b9.mono hBd.size)); have s9 := HS40.out _ B9.out)
                  | (go_at_call 16; (with_reducible refine (HHe.out _ B9.out).mono ?_); rintro e' w10 ⟨rfl, h10, b10⟩; have B10 := hid (B9.out.trans (b10.mono B9.out.size)); have s10 := HS40.out _ B10.out))
              go_wp2_with fail
              go_ret
              exact ⟨rfl, h10.1⟩

    · have hqlt : q < (x.via ++ [x.too]).length := by omega
      have hn2 : ∀ W : World, (binOp .neq 29 (.agg #[.int .i64 v, .int .i64 (q : Int)]) (.agg #[.int .i64 g1, .int .i64 g2])).run Try.prog W = .ok (.bool true) W := fun W => by
        rw [neq2_run, HGL.out.1, HGL.out.2]
        have : ((q : Int) == ((x.via ++ [x.too]).length : Int)) = false := by rw [beq_eq_false_iff_ne]; omega
        rw [this]; simp
      have Hqlt := hid hqlt
      clear hqlt hqe hlow
      go_wp2_with fail
      go_region_held3 (fun W => W.cell? ⟨w.heap.size + 1, 0, none⟩ = some (.int .i64 x.frm) ∧ W.cell? ⟨w.heap.size + 1, 1, none⟩ = some (.int .i64 x.too) ∧ W.cell? ⟨w.heap.size + 1, 2, none⟩ = some (.int .i64 x.bnd) ∧ W.cell? ⟨w.heap.size + 1, 3, none⟩ = some (.slice y.av y.nv y.cv) ∧ W.cell? ⟨w.heap.size + 1, 4, none⟩ = some (.slice y.an y.nn y.cn) ∧ W.cell? ⟨w.heap.size + 1, 5, none⟩ = some (.slice y.al y.nl y.cl) ∧ W.cell? ⟨w.heap.size + 1, 6, none⟩ = some (.slice y.ac y.nc y.cc) ∧ W.cell? ⟨w7.heap.size, 0, none⟩ = some (.int .i64 v) ∧ W.cell? ⟨w7.heap.size, 1, none⟩ = some (.int .i64 (q : Int)))
        (first | go_keep | exact s8 | exact sD)
        (first | (go_at_call 14; (with_reducible refine (HGo.out _ hK0).mono ?_); rintro e' w8 ⟨rfl, h8, b8⟩; have s8 := HS12.out _ ((Below.drew (Below.refl _ _)).trans b8)))
      have HB8 := hid ((Below.drew (Below.refl _ _)).trans b8 : Below wr.heap.size wr w8)
      clear b8 s8 sD s0 h8 hn2
      go_wp2_with fail
      have hN2 : IntKind.i64.wrap (2 * (n : Int)) = ((2 * n : Nat) : Int) := by rw [IntKind.wrap_i64]; push_cast; omega
      obtain ⟨N2, hN2e⟩ : ∃ N2, 2 * n = N2 := ⟨_, rfl⟩
      rw [hN2e] at hN2
      have hN2l : N2 ≤ 32 := by omega
      have HN2 := hid hN2e
      clear hN2e
      go_loopw [17, 18] (fun b i wx => ∃ j : Nat, j ≤ N2 ∧ i = .int .i64 j ∧ Hid (wx.ownsRow wr.heap.size 3 1 b (maysS nd l x dn v q j).length (icells (maysS nd l x dn v q j))) ∧ Hid (Below wr.heap.size wr wx)) (fun _ i _ => N2 - (intOf i).toNat)
      case atStart => exact ⟨0, Nat.zero_le _, rfl, World.ownsRow_nil _ _ _ _, HB8.out⟩
      case round =>
        obtain ⟨j, hj, rfl, HM, HBx⟩ := hrel
        obtain ⟨Am, cm, rfl⟩ := own_form HM.out
        rename World => wx
        obtain ⟨HW, HW2, HW3⟩ := HK.out _ HBx.out
        obtain ⟨CG0, CG1⟩ := HW.g; obtain ⟨CG2, CG3, CG4, CG5, CG6, CG7, CG8⟩ := HW.v
        obtain ⟨CB0, CB1⟩ := HW2
        by_cases hjl : j < N2
        · have d1 : decide ((j : Int) < (N2 : Int)) = true := decide_eq_true (by omega)
          have d2 : decide (j < N2) = true := decide_eq_true hjl
          have ewk : IntKind.i64.wrap ((j : Int) + 1) = (j : Int) + 1 := by rw [IntKind.wrap_i64]; omega
          have hStep := HSt.out v (q : Int) (j : Int) wx HW (by omega) (by omega) (by omega)
          have hsz := HBx.out.size
          cases hs : stepS nd l x dn v (q : Int) (j : Int) with
          | none =>
            rw [hs, show stepV none = Value.tuple #[.agg #[.int .i64 0, .int .i64 0], .bool false] from rfl] at hStep
            have hStep2 := hid hStep
            have HM2 : Hid ((maysS nd l x dn v q (j + 1)) = maysS nd l x dn v q j) := maysS_none hs
            clear hStep hs
            go_wp2_with (go_at_call 18; (with_reducible refine (hStep2.out).mono ?_); rintro e' w9 ⟨rfl, h9, b9⟩)
            have HO9 := hid (own_below (own_below HM.out b9) ((Below.refl _ _).alloc (Nat.le_refl _) (.cells #[.int .i64 0, .int .i64 0] 29)))
            have HB9 := hid ((HBx.out.trans (b9.mono hsz)).alloc (Nat.le_trans hsz b9.size) (.cells #[.int .i64 0, .int .i64 0] 29))
            clear b9
            go_roundw
            case rel => exact ⟨j + 1, by omega, by go_num, by rw [HM2.out]; exact HO9.out, HB9.out⟩
            case measure => simp [intOf]; omega
          | some p =>
            rw [hs, show stepV (some p) = Value.tuple #[.agg #[.int .i64 p.1, .int .i64 p.2], .bool true] from rfl] at hStep
            have hStep2 := hid hStep
            have HM2 : Hid ((maysS nd l x dn v q (j + 1)) = maysS nd l x dn v q j ++ [(j : Int)]) := maysS_some hs
            have hML := maysS_len nd l x dn v (q : Int) j
            have HRh := hid (fun (v8 : Value) (w8 : World) (h : w8.ownsRow wr.heap.size 3 1 v8 ((maysS nd l x dn v q j).length + 1) (icells (maysS nd l x dn v q j) ++ icells [(j : Int)])) => (by rw [HM2.out, List.length_append, show icells (maysS nd l x dn v q j ++ [(j : Int)]) = icells (maysS nd l x dn v q j) ++ icells [(j : Int)] from by simp [icells]]; exact h : w8.ownsRow wr.heap.size 3 1 v8 (maysS nd l x dn v q (j + 1)).length (icells (maysS nd l x dn v q (j + 1)))))
            obtain ⟨p1, hp1⟩ : ∃ p1, p.1 = p1 := ⟨_, rfl⟩
            obtain ⟨p2, hp2⟩ : ∃ p2, p.2 = p2 := ⟨_, rfl⟩
            rw [hp1, hp2] at hStep2
            have HO8 := hid (fun (w9 : World) (b9 : Below wx.heap.size wx w9) => own_below (own_below HM.out b9) ((Below.refl _ _).alloc (Nat.le_refl _) (.cells #[.int .i64 p1, .int .i64 p2] 29)))
            have HB8x := hid (fun (w9 : World) (b9 : Below wx.heap.size wx w9) => (HBx.out.trans (b9.mono hsz)).alloc (Nat.le_trans hsz b9.size) (.cells #[.int .i64 p1, .int .i64 p2] 29))
            clear hStep hs hp1 hp2
            go_wp2_with (first
              | (go_at_call 18; (with_reducible refine (hStep2.out).mono ?_); rintro e' w9 ⟨rfl, h9, b9⟩; have B9 := hid b9; clear b9)
              | (at_builtin; refine wpList_append_own _ rfl (.tmp 94) (.tmp 96) 25 rfl wr.heap.size 3 i5 (.int .i64 0) 1 8 Try.underlying25 Ai.out Az0.out Az1.out Az2.out rfl (by decide) _ _ _ rfl ((HO8.out _ B9.out).alloc _) ⟨_, 0, none⟩ 1 1 (icells [(j : Int)]) rfl rfl (new_row2 (show _ = (icells [(j : Int)]).toArray from rfl)) (icells_one _) (by unfold maxLen; omega) (by omega) (by have := (HB8x.out _ B9.out).size; simp at this ⊢; omega) ?_; intro v8 w8 hown8 hg8 _; have HO9 := hid hown8; have HB9 := hid (Below.grown ((HB8x.out _ B9.out).alloc (HB8x.out _ B9.out).size _) hg8 (by have := (HB8x.out _ B9.out).size; simp at this ⊢; omega) (fun q hq => ((HO8.out _ B9.out).lt q hq).1)); clear hown8))
            go_roundw
            case rel => exact ⟨j + 1, by omega, by go_num, HRh.out _ _ HO9.out, HB9.out⟩
            case measure => simp [intOf]; omega
        · obtain rfl : j = N2 := by omega
          have d1 : decide ((j : Int) < (j : Int)) = false := decide_eq_false (by omega)
          obtain ⟨K0, hK0, hsome⟩ := hOn.out v q sm es cost HI.out Hqlt.out
          have hpos : 0 < (maysS nd l x dn v (q : Int) j).length := maysS_pos (K := K0) (by have := HN2.out; omega) (by rw [hSS.out]; exact hsome)
          have hmj := maysS_len nd l x dn v (q : Int) j
          have hz0 : (((maysS nd l x dn v (q : Int) j).length : Int) == 0) = false := beq_eq_false_iff_ne.2 (by omega)
          clear hsome
          obtain ⟨pv, hpv⟩ : ∃ pv, pk[es.length]? = some pv := ⟨_, List.getElem?_eq_getElem (by have := HPk.out.1; omega)⟩
          obtain ⟨bp, op, rfl, hbp, hcp⟩ := HPk.out.2 (by omega)
          have cpk := (HW.1.cell (p := ⟨bp, op + es.length, none⟩) hbp).trans (hcp es.length pv hpv)
          obtain ⟨r, hr⟩ : ∃ r : Nat, pv % 1024 = (r : Int) := ⟨(pv % 1024).toNat, by omega⟩
          have hmask : bits .and .i64 pv 1023 = (r : Int) := (i64_mask_any 10 (by omega) 1023 (by decide) pv).trans hr
          obtain ⟨ix, hix⟩ : ∃ ix, r % (maysS nd l x dn v (q : Int) j).length = ix := ⟨_, rfl⟩
          have hixl : ix < (maysS nd l x dn v (q : Int) j).length := by rw [← hix]; exact Nat.mod_lt _ hpos
          have htm : Int.tmod (r : Int) ((maysS nd l x dn v (q : Int) j).length : Int) = (ix : Int) := by rw [← hix]; rfl
          obtain ⟨Kv, hKv⟩ : ∃ e, (maysS nd l x dn v (q : Int) j)[ix]? = some e := ⟨_, List.getElem?_eq_getElem hixl⟩
          obtain ⟨K, rfl, hKj, p, hp⟩ := maysS_mem (List.mem_of_getElem? hKv)
          obtain ⟨Am', cm', hAe, hcm', hrm⟩ := own_ints HM.out rfl
          cases hAe
          obtain ⟨bm, om, rfl, hbm, hcm⟩ := hrm.2 hpos
          have cmay := hcm ix _ hKv
          obtain ⟨q', hq', hK2, hdn, hI2⟩ := hSt.out v q sm es cost K p HI.out (by rw [← hSS.out]; exact hp)
          obtain ⟨qq, hqq⟩ : ∃ qq, K / 2 = qq := ⟨_, rfl⟩
          have dq : Int.tdiv (K : Int) 2 = (qq : Int) := by rw [← hqq]; rfl
          have hqn : qq < n := by omega
          have iq1 : (qq : Int) < (n : Int) := by omega
          have iq0 : (0 : Int) ≤ (qq : Int) := by omega
          have iqw : IntKind.i64.wrap (qq : Int) = (qq : Int) := by rw [IntKind.wrap_i64]; omega
          have ix1 : (ix : Int) < ((maysS nd l x dn v (q : Int) j).length : Int) := by omega
          have ix0 : (0 : Int) ≤ (ix : Int) := by omega
          have ixw : IntKind.i64.wrap (ix : Int) = (ix : Int) := by rw [IntKind.wrap_i64]; omega
          have ie1 : (es.length : Int) < (ne : Int) := by omega
          have ie0 : (0 : Int) ≤ (es.length : Int) := by omega
          obtain ⟨b6, o6, rfl, hb6, hc6⟩ := ((HD7.out.on HW3).row).2 (by omega)
          have hg6 := (HD7.out.row).1
          obtain ⟨gb, hgb⟩ : ∃ gb, gn[qq]? = some gb := ⟨_, List.getElem?_eq_getElem (by omega)⟩
          have hgf : gb = false := by
            have : isDn gn qq = gb := by unfold isDn; rw [List.getD_eq_getElem?_getD, hgb]; rfl
            rw [← this, ← hqq]; exact hdn
          subst hgf
          have cgn := hc6 qq false hgb
          obtain ⟨bL, oL, rfl, hbL, hcL⟩ := HLk.out.2 (by omega)
          obtain ⟨xl, hxl⟩ : ∃ xl, l[qq]? = some xl := ⟨_, List.getElem?_eq_getElem (by omega)⟩
          have hmet : met l K = xl.m := by unfold met; rw [hqq, List.getD_eq_getElem?_getD, hxl]; rfl
          have cme := (HW.1.cell (p := ⟨bL, oL + qq * 4 + 2, none⟩) hbL).trans (hcL qq xl hxl).2.2.1
          have hm1 := met_pos HCk.out hK2
          have hm2 := met_top HCk.out hK2
          rw [hmet] at hm1 hm2 hI2
          have hsml := HI.out.sml
          have ews : IntKind.i64.wrap (sm + xl.m) = sm + xl.m := by rw [IntKind.wrap_i64]; omega
          have ewi : IntKind.i64.wrap ((es.length : Int) + 1) = ((es.length + 1 : Nat) : Int) := by rw [IntKind.wrap_i64]; push_cast; omega
          obtain ⟨e1, he1⟩ : ∃ e1, es.length + 1 = e1 := ⟨_, rfl⟩
          rw [he1] at ewi
          have HE1 := hid he1
          have HI2 := hid hI2
          have HQ' := hid hq'
          have hStep := HSt.out v (q : Int) (K : Int)
          rw [hp, show stepV (some p) = Value.tuple #[.agg #[.int .i64 p.1, .int .i64 p.2], .bool true] from rfl] at hStep
          have hStep2 := hid hStep
          have HOx := hid (own_below HO.out HBx.out)
          have HXx := hid (box_below HX.out HBx.out hlr)
          have HW3' := hid HW3
          have HWh := hid HW
          have hszx := HBx.out.size
          have HRh := hid (fun (v8 : Value) (w8 : World) (h : w8.ownsRow (w7.heap.size + 1) 3 1 v8 (es.length + 1) (icells es ++ icells [(K : Int)])) => (by rw [List.length_append, show icells (es ++ [(K : Int)]) = icells es ++ icells [(K : Int)] from by simp [icells]]; exact h : w8.ownsRow (w7.heap.size + 1) 3 1 v8 (es ++ [(K : Int)]).length (icells (es ++ [(K : Int)]))))
          obtain ⟨p1, hp1⟩ : ∃ p1, p.1 = p1 := ⟨_, rfl⟩
          obtain ⟨p2, hp2⟩ : ∃ p2, p.2 = p2 := ⟨_, rfl⟩
          rw [hp1] at HI2 hStep2
          rw [hp2] at HQ' hStep2
          have hvr := hid hrng
          have hqr := hid hqle
          clear hpv hcp hr hix hKv hKj hp hrm hcm hq' hdn hI2 hqq hc6 hg6 hgb hcL hxl hmet hm1 hm2 hsml he1 hStep hp1 hp2 HW3 hK0 hmj hrng hqle
          go_wp2_with (first
            | (at_builtin; refine wpList_append_own _ rfl (.tmp 126) (.tmp 128) 25 rfl (w7.heap.size + 1) 3 i5 (.int .i64 0) 1 8 Try.underlying25 Ai.out Az0.out Az1.out Az2.out rfl (by decide) _ _ _ rfl (HOx.out.alloc _) ⟨_, 0, none⟩ 1 1 (icells [(K : Int)]) rfl rfl (new_row (show _ = (icells [(K : Int)]).toArray from rfl)) (icells_one _) (by unfold maxLen; omega) (by omega) (by simp; omega) ?_; intro v8 w8 hown8 hg8 _; have HO8 := hid hown8; have HX8 := hid (box_app HXx.out (Nat.lt_succ_self _) HOx.out hg8); have HB8y := hid (Below.grown (HW3'.out.alloc (by omega) _) hg8 (by simp; omega) (fun q hq => by have := (HOx.out.lt q hq).1; omega)); have h8 := H7.out.next HB8y.out; obtain ⟨cg0, cg1⟩ := h8.g; obtain ⟨cg2, cg3, cg4, cg5, cg6, cg7, cg8⟩ := h8.v; obtain ⟨cb0, cb1, cbf⟩ := box_cells HX8.out; clear hown8)
            | (go_at_call 18; (with_reducible refine (hStep2.out _ h8 (by have := hvr.out; omega) (by have := hqr.out; omega) (by omega)).mono ?_); rintro e' w9 ⟨rfl, h9, b9⟩; have HX9 := hid (box_below HX8.out b9 (blk_lt HX8.out)); have HO9 := hid (own_below HO8.out b9); have HB9 := hid (HB8y.out.trans (b9.mono HB8y.out.size)); clear b9; obtain ⟨cd0, cd1, cdf⟩ := box_cells HX9.out))
          go_roundw
          case rel => exact ⟨es ++ [(K : Int)], p1, sm + xl.m, q', rfl, by rw [List.length_append, List.length_singleton, HE1.out], own_set (own_set (HRh.out _ _ HO9.out) (Nat.lt_succ_self _) _) (Nat.lt_succ_self _) _, by rw [← HQ'.out]; exact box_set1 (box_set0 HX9.out), (HB9.out.setCell (p := ⟨w7.heap.size, 0, none⟩) (Nat.le_refl _) _).setCell (p := ⟨w7.heap.size, 1, none⟩) (Nat.le_refl _) _, HI2.out⟩
          case measure => have := HE1.out; simp [intOf]; omega

/-- OptBest, at every input. -/
theorem optBest_any (hO : OptSpec 9 12 14 18 16) (nd : Int) (A : Option Addr) (n c : Nat) (x : Wnt) (y : WSl) (l : List Lnk) (Ad : Option Addr) (n' c' : Nat) (dn : List Bool) (Ae : Option Addr) (ne ce : Nat) (pk : List Int) (w : World) (hr : RLnk w w.heap.size A n l) (hc : n ≤ c) (hA : A = none → n = 0 ∧ c = 0) (h0 : -9223372036854775808 ≤ nd ∧ nd ≤ 9223372036854775807) (hw : WArg w x y) (hd : RBl w w.heap.size Ad n' dn) (hdc : n' ≤ c') (hdn : Ad = none → n' = 0 ∧ c' = 0) (hpk : RInt w w.heap.size Ae ne pk) :
    Calls Try.prog 4 #[.agg #[.int .i64 nd, .slice A n c], .agg #[.int .i64 x.frm, .int .i64 x.too, .int .i64 x.bnd, .slice y.av y.nv y.cv, .slice y.an y.nn y.cn, .slice y.al y.nl y.cl, .slice y.ac y.nc y.cc], .slice Ad n' c', .slice Ae ne ce] w fun e w' => e = .returned (.bool true) ∧ Below w.heap.size w w' := by
  by_cases h : smallB nd n = false ∨ fewB y = false ∨ 200 < n' ∨ ne < 60 ∨ (costS nd l x dn).2 ≠ 0
  · exact optBest_out hO nd A n c x y l Ad n' c' dn Ae ne ce w hr hc hA hw hd hdc hdn h0 h
  · have hs : smallB nd n = true := by cases e : smallB nd n with
      | true => rfl
      | false => exact absurd (Or.inl e) h
    have hf : fewB y = true := by cases e : fewB y with
      | true => rfl
      | false => exact absurd (Or.inr (Or.inl e)) h
    have hn16 : n ≤ 16 := by unfold smallB at hs; simp only [Bool.and_eq_true, decide_eq_true_eq] at hs; omega
    have h1 : ¬ 200 < n' := fun e => h (Or.inr (Or.inr (Or.inl e)))
    have h2 : ¬ ne < 60 := fun e => h (Or.inr (Or.inr (Or.inr (Or.inl e))))
    have h3 : (costS nd l x dn).2 = 0 := Classical.byContradiction fun e => h (Or.inr (Or.inr (Or.inr (Or.inr e))))
    exact optBest_in hO nd A n c x y l Ad n' c' dn Ae ne ce pk w ⟨hr, by omega, hc, hA, h0.1, h0.2⟩ hs hw ⟨hd, by omega, hdc, hdn⟩ hpk (by omega) hf h3
end Go.Proofs.Ytabgbhkpeeibaaa
