/- (*waymarkref15.Opt).Step. -/
import Derived.Test.YtabgbhkpeeibaaaOpF
import Derived.Test.YtabgbhkpeeibaaaOpC
import Derived.StillTailTactics
import Derived.Laws.ResultCell
import Derived.Laws.Rows
namespace Go.Proofs.Ytabgbhkpeeibaaa
open Go.RowKit
set_option maxHeartbeats 6400000
set_option maxRecDepth 100000
def stepV : Option (Int × Int) → Value
  | none => .tuple #[.agg #[.int .i64 0, .int .i64 0], .bool false]
  | some p => .tuple #[.agg #[.int .i64 p.1, .int .i64 p.2], .bool true]
theorem results_cellrow_tmp {P : Program} {fn : Func} {p u : Tmp} {ty : TypeId} (h : fn.results = #[.cell p ty, .tmp u]) (tmps : Array Value) (w : World) (g : Nat) (t : TypeId) (cs : Array Value) (fr : Nat × Nat) (d : TypeDesc)
    (hp : tmps.getD p undef = .pointer (some ⟨g, 0, none⟩)) (hg : w.heap[g]? = some (.cells cs t fr))
    (hu : P.underlying ty = some d) (hd : (match d with | .struct _ | .array _ _ => true | _ => false) = true) (hi : (P.info? ty).map (·.size) = some cs.size) :
    (results fn tmps).run P w = .ok (.tuple #[.agg cs, tmps.getD u undef]) w := by
  rw [results_cell_tmp h, hp]
  simp [asAddr, Result.andThen, run_loadVar_row w g t ty cs fr d hg hu hd hi]
/-- Two boxes: a state's, and the result's. -/
def HeldQ (w : World) (v k : Int) (w' : World) : Prop :=
  Below w.heap.size w w' ∧ w'.heap[w.heap.size]? = some (.cells #[.int .i64 v, .int .i64 k] 29 (0, 0)) ∧ w'.heap[w.heap.size + 1]? = some (.cells #[.int .i64 0, .int .i64 0] 29 (0, 0))
theorem HeldQ.start (w : World) (v k : Int) : HeldQ w v k ((w.alloc (.cells #[.int .i64 v, .int .i64 k] 29)).alloc (.cells #[.int .i64 0, .int .i64 0] 29)) := by
  refine ⟨((Below.refl _ w).alloc (Nat.le_refl _) _).alloc (by simp) _, (Below.heap_alloc _ _ _ (by simp)).trans (heap_alloc_new w _), ?_⟩
  have := heap_alloc_new (w.alloc (.cells #[.int .i64 v, .int .i64 k] 29)) (.cells #[.int .i64 0, .int .i64 0] 29)
  rw [show (w.alloc (.cells #[.int .i64 v, .int .i64 k] 29)).heap.size = w.heap.size + 1 by simp] at this
  exact this
theorem HeldQ.next {w w' w'' : World} {v k : Int} (h : HeldQ w v k w') (hb : Below w'.heap.size w' w'') : HeldQ w v k w'' :=
  ⟨h.1.trans (hb.mono h.1.size), box_below h.2.1 hb (blk_lt h.2.1), box_below h.2.2 hb (blk_lt h.2.2)⟩
theorem HeldQ.put {w w' : World} {v k a b : Int} (h : HeldQ w v k w') : Hid (((w'.setCell ⟨w.heap.size + 1, 0, none⟩ (.int .i64 a)).setCell ⟨w.heap.size + 1, 1, none⟩ (.int .i64 b)).heap[w.heap.size + 1]? = some (.cells #[.int .i64 a, .int .i64 b] 29 (0, 0)) ∧ Below w.heap.size w ((w'.setCell ⟨w.heap.size + 1, 0, none⟩ (.int .i64 a)).setCell ⟨w.heap.size + 1, 1, none⟩ (.int .i64 b))) :=
  ⟨box_set1 (box_set0 h.2.2), (h.1.setCell (by simp) _).setCell (by simp) _⟩
def OptStepSpec (f : Nat) : Prop := ∀ (nd : Int) (A : Option Addr) (n c : Nat) (l : List Lnk) (x : Wnt) (gn : List Bool) (B : Nat) (v k e : Int) (w : World), OptAt nd A n c l x gn B w → GArg w nd A n c l → rightS nd l x = 0 → -9223372036854775808 ≤ v ∧ v ≤ 9223372036854775807 → -9223372036854775808 ≤ k ∧ k ≤ 9223372036854775807 → -9223372036854775808 ≤ e ∧ e ≤ 9223372036854775807 →
  Calls Try.prog f #[.pointer (some ⟨B, 0, none⟩), .agg #[.int .i64 v, .int .i64 k], .int .i64 e] w fun x' w' => x' = .returned (stepV (stepO nd l x gn v k e)) ∧ Below w.heap.size w w'
theorem next_len {nd : Int} {l : List Lnk} {gn : List Bool} {tw : List Int} {v : Int} (h : l.length ≤ 120) : (nextS nd l gn tw v).length ≤ 240 := by
  unfold nextS
  split
  · refine Nat.le_trans (List.length_filter_le _ _) ?_
    unfold outS
    refine Nat.le_trans (List.length_filter_le _ _) ?_
    simp; omega
  · simp
theorem Below.drewN' (w : World) (q : Nat) : Below w.heap.size w (w.drewN q) := ⟨rfl, rfl, rfl, Nat.le_refl _, fun _ _ => rfl⟩
theorem optStep_spec : OptStepSpec 33 := by
  intro nd A n c l x gn B v k e w ho hg hr0 hv hk he
  obtain ⟨hck, hpv, hv4⟩ := right_ok hr0
  have hml := ptsS_len x
  obtain ⟨Ap, cp, Ag, cg, vF, vs, hx1, hp, hdg, hown, hfar⟩ := ho
  obtain ⟨m, hm⟩ : ∃ m, (ptsS x).length = m := ⟨_, rfl⟩
  rw [hm] at hx1 hp hown
  have hm2 : 2 ≤ m ∧ m ≤ 6 := by omega
  have hS := HeldQ.start w v k
  have HB := hid (fun W (hb : Below w.heap.size w W) => box_below hx1 hb (blk_lt hx1))
  obtain ⟨a, b, ok, hE⟩ : ∃ a b ok, endsS l e = (a, b, ok) := ⟨_, _, _, rfl⟩
  have HE := hid (fun W (hh : HeldQ w v k W) => (refEnds_any nd A n c l e W (hg.on hh.1).row (by have := hg.len; omega) he.2).mono fun _ _ h => (⟨h.1, hh.next h.2⟩ : _ ∧ HeldQ w v k _))
  rw [hE] at HE
  obtain ⟨s0, s1, s2, s3, s4, -⟩ := box5_cells (HB.out _ hS.1)
  have hcg := hg.len
  have hne : B ≠ w.heap.size := by have := blk_lt hx1; omega
  have ewm : IntKind.i64.wrap ((m : Int) - 1) = (m : Int) - 1 := by rw [IntKind.wrap_i64]; omega
  have HR4 : Hid (vs.length = m) := by have := hown.1; show _ = _; omega
  cases ok with
  | false =>
    clear hx1 hp hown hfar hdg hpv
    have HV : Hid (stepO nd l x gn v k e = none) := by show _ = _; unfold stepO; rw [if_neg]; rw [hE]; simp
    clear HR4
    go_enter Try.func33, Try.ntmps33
    go_wp2_with (go_at_call 22; (with_reducible refine (HE.out _ hS).mono ?_); rintro e' w3 ⟨rfl, hh3⟩; have HH3 := hid hh3; obtain ⟨z0, z1, z2⟩ := box_cells hh3.2.1; obtain ⟨y0, y1, y2⟩ := box_cells hh3.2.2; have hb3 := (box5_cells (HB.out w3 hh3.1)); obtain ⟨o0, o1, o2, o3, o4, -⟩ := hb3; clear hh3)
    go_big_quiet (fail)
    go_wp2_with fail
    have HG := (HH3.out.next (Below.drewN' w3 nq)).put (a := 0) (b := 0)
    refine bodyPost_ret (results_cellrow_tmp (p := 6) (u := 7) (fn := Try.f33) rfl _ _ _ _ _ _ _ rfl HG.out.1 Try.underlying29 rfl (by kernel_rfl)) rfl ?_
    exact ⟨by rw [HV.out]; rfl, HG.out.2⟩
  | true =>
    by_cases ha : a = v
    · obtain rfl := ha
      have ta : (a != a) = false := by simp
      by_cases hk0 : k < 0
      · have tk : decide (k < 0) = true := decide_eq_true hk0
        clear hx1 hp hown hfar hdg hpv
        have HV : Hid (stepO nd l x gn a k e = none) := by show _ = _; unfold stepO; rw [if_neg]; intro hh; omega
        clear HR4
        go_enter Try.func33, Try.ntmps33
        go_wp2_with (go_at_call 22; (with_reducible refine (HE.out _ hS).mono ?_); rintro e' w3 ⟨rfl, hh3⟩; have HH3 := hid hh3; obtain ⟨z0, z1, z2⟩ := box_cells hh3.2.1; obtain ⟨y0, y1, y2⟩ := box_cells hh3.2.2; have hb3 := (box5_cells (HB.out w3 hh3.1)); obtain ⟨o0, o1, o2, o3, o4, -⟩ := hb3; clear hh3)
        go_big_quiet (fail)
        go_wp2_with fail
        have HG := (HH3.out.next (Below.drewN' w3 nq)).put (a := 0) (b := 0)
        refine bodyPost_ret (results_cellrow_tmp (p := 6) (u := 7) (fn := Try.f33) rfl _ _ _ _ _ _ _ rfl HG.out.1 Try.underlying29 rfl (by kernel_rfl)) rfl ?_
        exact ⟨by rw [HV.out]; rfl, HG.out.2⟩
      · have tk : decide (k < 0) = false := decide_eq_false hk0
        obtain ⟨K, rfl⟩ := Int.eq_ofNat_of_zero_le (show 0 ≤ k by omega)
        by_cases hkm : (m : Int) - 1 ≤ (K : Int)
        · have tm : decide ((m : Int) - 1 ≤ (K : Int)) = true := decide_eq_true hkm
          clear hx1 hp hown hfar hdg hpv
          have HV : Hid (stepO nd l x gn a (K : Int) e = none) := by show _ = _; unfold stepO; rw [if_neg]; intro hh; rw [hm] at hh; omega
          clear HR4
          go_enter Try.func33, Try.ntmps33
          go_wp2_with (go_at_call 22; (with_reducible refine (HE.out _ hS).mono ?_); rintro e' w3 ⟨rfl, hh3⟩; have HH3 := hid hh3; obtain ⟨z0, z1, z2⟩ := box_cells hh3.2.1; obtain ⟨y0, y1, y2⟩ := box_cells hh3.2.2; have hb3 := (box5_cells (HB.out w3 hh3.1)); obtain ⟨o0, o1, o2, o3, o4, -⟩ := hb3; clear hh3)
          go_big_quiet (fail)
          go_wp2_with fail
          have HG := (HH3.out.next (Below.drewN' w3 nq)).put (a := 0) (b := 0)
          refine bodyPost_ret (results_cellrow_tmp (p := 6) (u := 7) (fn := Try.f33) rfl _ _ _ _ _ _ _ rfl HG.out.1 Try.underlying29 rfl (by kernel_rfl)) rfl ?_
          exact ⟨by rw [HV.out]; rfl, HG.out.2⟩
        · have tm : decide ((m : Int) - 1 ≤ (K : Int)) = false := decide_eq_false hkm
          have hlt : K + 1 < m := by omega
          have hfl := hown.lt
          rcases hown.2 with ⟨-, h0⟩ | ⟨gf, capf, cur, rfl, -, -, -, -, -, -⟩
          · omega
          obtain ⟨u, hu⟩ : ∃ u, vs[K + 1]? = some u := ⟨_, List.getElem?_eq_getElem (by have := HR4.out; omega)⟩
          have hgf := (hfl gf rfl).2
          have hcu : w.cell? ⟨gf, K + 1, none⟩ = some u := by
            have := hown.cells (g := gf) rfl _ _ hu
            rwa [Go.WideShapes.add_plain, Nat.zero_add] at this
          have hpt := hpv _ (List.mem_of_getElem? (pts_at (x := x) (k := K + 1) (by omega)))
          have hrow := hfar (K + 1) u hu
          have hstep : Hid (stepO nd l x gn a (K : Int) e = if e ∈ nextS nd l gn (fromS nd l gn ((ptsS x).getD (K + 1) 0)) a then some (comeS (ptsS x) b (K : Int)) else none) := by
            show _ = _
            unfold stepO
            rw [hE, hm, show ((K : Int) + 1).toNat = K + 1 by omega]
            by_cases hin : e ∈ nextS nd l gn (fromS nd l gn ((ptsS x).getD (K + 1) 0)) a
            · rw [if_pos hin, if_pos ⟨rfl, rfl, by omega, by omega, hin⟩]
            · rw [if_neg hin, if_neg (fun hh => hin hh.2.2.2.2)]
          obtain ⟨pt, hpt2⟩ : ∃ pt, (ptsS x).getD (K + 1) 0 = pt := ⟨_, rfl⟩
          rw [hpt2] at hpt hrow hstep
          have hfl2 := (fromS_row (gn := gn) hck hpt).1
          have hsm : ∀ z ∈ fromS nd l gn pt, -1099511627776 ≤ z ∧ z ≤ 1099511627776 := fun z hz => by have := fromS_mem z hz; omega
          obtain ⟨N, hN⟩ : ∃ N, nd.toNat = N := ⟨_, rfl⟩
          have hck2 := checkS_ok hck
          rw [hN] at hrow hfl2
          obtain ⟨A2, c2, rfl, hc2, hr2⟩ := own_ints hrow hfl2
          have hN1 : 1 ≤ N ∧ N ≤ 40 := by omega
          have ht : TArg w A2 N c2 (fromS nd l gn pt) := ⟨hr2, by omega, hc2, fun hA => (by obtain ⟨bb, oo, h5, -⟩ := hr2.2 (by omega); rw [h5] at hA; cases hA), hsm⟩
          obtain ⟨tw, hto⟩ : ∃ tw, fromS nd l gn pt = tw := ⟨_, rfl⟩
          rw [hto] at ht hstep
          obtain ⟨m2, hm2e⟩ : ∃ m2, (nextS nd l gn tw a).length = m2 := ⟨_, rfl⟩
          have HN := hid (fun W (hb : Below w.heap.size w W) => ints_out (m := m2) hm2e (refNext_spec nd A n c l Ag n cg gn A2 N c2 tw a W (hg.on hb) (hdg.on hb) (ht.on hb) (by omega) (by omega)))
          have HCm := hid (fun W (hb : Below w.heap.size w W) => come_any Ap m cp (ptsS x) b (K : Int) W (hp.on hb) (by omega) (by omega))
          have hm3 : m2 ≤ 240 := by rw [← hm2e]; exact next_len (by have := hg.row.1; omega)
          obtain ⟨L, hL⟩ : ∃ L, nextS nd l gn tw a = L := ⟨_, rfl⟩
          rw [hL] at HN hstep hm2e
          obtain ⟨q1, q2, hq⟩ : ∃ q1 q2, comeS (ptsS x) b (K : Int) = (q1, q2) := ⟨_, _, rfl⟩
          rw [hq] at HCm hstep
          have HCU := hid (fun W (hb : Below w.heap.size w W) => (hb.cell (p := ⟨gf, K + 1, none⟩) hgf).trans hcu)
          have ek : IntKind.i64.wrap ((K : Int) + 1) = (K : Int) + 1 := by rw [IntKind.wrap_i64]; omega
          have hki : (K : Int) + 1 < (m : Int) := by omega
          have hki0 : (0 : Int) ≤ (K : Int) + 1 := by omega
          clear hx1 hp hown hfar hdg hpv hu hcu hrow hpt hpt2 hfl2 hsm hN hck2 hr2 ht hto hL hq hfl hgf hm hml HR4
          go_enter Try.func33, Try.ntmps33
          go_wp2_with (go_at_call 22; (with_reducible refine (HE.out _ hS).mono ?_); rintro e' w3 ⟨rfl, hh3⟩; have HH3 := hid hh3; obtain ⟨z0, z1, z2⟩ := box_cells hh3.2.1; have hb3 := (box5_cells (HB.out w3 hh3.1)); obtain ⟨o0, o1, o2, o3, o4, -⟩ := hb3; clear hh3)
          go_big_quiet (fail)
          go_wp2_with fail
          have HQ := hid (HH3.out.next (Below.drewN' w3 nq))
          obtain ⟨wq, hwq⟩ : ∃ wq, w3.drewN nq = wq := ⟨_, rfl⟩
          rw [hwq] at HQ ⊢
          clear hwq o0 o1 o2 o3 o4 z0 z1 z2 HH3 s0 s1 s2 s3 s4
          obtain ⟨z0, z1, z2⟩ := box_cells HQ.out.2.1
          obtain ⟨o0, o1, o2, o3, o4, -⟩ := box5_cells (HB.out wq HQ.out.1)
          have ocu := HCU.out wq HQ.out.1
          go_still_tail 18, (by kernel_rfl)
          change wpList _ _ _ _ _ wq.drew
          have HQ2 := hid (HQ.out.next ((Below.refl _ wq).drew))
          have HQ2b := hid HQ2.out.1
          obtain ⟨wd, hwd⟩ : ∃ wd, wq.drew = wd := ⟨_, rfl⟩
          rw [hwd] at HQ2 HQ2b ⊢
          clear hwd o0 o1 o2 o3 o4 z0 z1 z2 ocu HQ ek
          go_wp2_with (go_at_call 44; (with_reducible refine (HN.out _ HQ2b.out).mono ?_); rintro e' w5 ⟨A5, c5, rfl, ⟨hr5, hc5, hn5⟩, hb5⟩; have HQ5 := hid (HQ2.out.next hb5); have HR5 := hid hr5; clear hb5 hr5 hn5)
          obtain ⟨z0, z1, z2⟩ := box_cells HQ5.out.2.1
          obtain ⟨y0, y1, y2⟩ := box_cells HQ5.out.2.2
          obtain ⟨o0, o1, o2, o3, o4, -⟩ := box5_cells (HB.out w5 HQ5.out.1)
          go_loopw [12] (fun iv wr => ∃ i : Nat, i ≤ m2 ∧ iv = .int .i64 i ∧ wr = w5 ∧ Hid (e ∉ L.take i)) (fun iv _ => m2 - (intOf iv).toNat)
          case atStart => exact ⟨0, Nat.zero_le _, rfl, rfl, by show e ∉ L.take 0; simp⟩
          case round =>
            obtain ⟨i, hi, rfl, rfl, HT⟩ := hrel
            have ewi : IntKind.i64.wrap ((i : Int) + 1) = (i : Int) + 1 := by rw [IntKind.wrap_i64]; omega
            by_cases hlti : i < m2
            · have hii : (i : Int) < (m2 : Int) := by omega
              have t1 : decide ((i : Int) < (m2 : Int)) = true := decide_eq_true hii
              have t2 : decide (i < m2) = true := decide_eq_true hlti
              obtain ⟨g5, hg5⟩ : ∃ g5, L[i]? = some g5 := ⟨_, List.getElem?_eq_getElem (by rw [hm2e]; exact hlti)⟩
              obtain ⟨b5, o5, rfl, hl5, hcell5⟩ := HR5.out.2 (by omega)
              have hc := hcell5 i g5 hg5
              clear hcell5
              have HG5 := hid hg5
              clear hg5
              by_cases hee : g5 = e
              · obtain rfl := hee
                have HV : Hid (stepO nd l x gn a (K : Int) g5 = some (q1, q2)) := by show _ = _; rw [hstep.out, if_pos (List.mem_of_getElem? HG5.out)]
                clear ewi
                go_wp2_with fail
                go_still_tail 8, (by kernel_rfl)
                change wpList _ _ _ _ _ wr.drew
                have HQ6 := hid (HQ5.out.next ((Below.refl _ wr).drew))
                have HQ6b := hid HQ6.out.1
                obtain ⟨w6, hw6⟩ : ∃ w6, wr.drew = w6 := ⟨_, rfl⟩
                rw [hw6] at HQ6 HQ6b ⊢
                clear hw6 z0 z1 z2 y0 y1 y2 o0 o1 o2 o3 o4 hc
                go_wp2_with (go_at_call 30; (with_reducible refine (HCm.out _ HQ6b.out).mono ?_); rintro e' w7 ⟨rfl, hb7⟩; have HQ7 := hid (HQ6.out.next hb7); obtain ⟨y0, y1, y2⟩ := box_cells HQ7.out.2.2; clear hb7)
                have HG := HQ7.out.put (a := q1) (b := q2)
                refine bodyPost_ret (results_cellrow_tmp (p := 6) (u := 7) (fn := Try.f33) rfl _ _ _ _ _ _ _ rfl HG.out.1 Try.underlying29 rfl (by kernel_rfl)) rfl ?_
                exact ⟨by rw [HV.out]; rfl, HG.out.2⟩
              · have te : (g5 == e) = false := beq_false_of_ne hee
                have HTn : Hid (e ∉ L.take (i + 1)) := by
                  show e ∉ _
                  rw [List.take_add_one, HG5.out]
                  intro hh
                  rcases List.mem_append.1 hh with hh | hh
                  · exact HT.out hh
                  · simp at hh; exact hee hh.symm
                clear hee
                go_wp2_with fail
                clear ewi
                go_roundw
                case rel => exact ⟨i + 1, by omega, by go_num, by first | rfl | trivial, HTn⟩
                case measure => simp [intOf]; omega
            · obtain rfl : i = m2 := by omega
              have t1 : decide ((i : Int) < (i : Int)) = false := by simp
              have t2 : decide (i < i) = false := by simp
              have HV : Hid (stepO nd l x gn a (K : Int) e = none) := by show _ = _; rw [hstep.out, if_neg]; rw [← List.take_of_length_le (Nat.le_of_eq hm2e)]; exact HT.out
              clear ewi
              go_wp2_with fail
              have HG := HQ5.out.put (a := 0) (b := 0)
              refine bodyPost_ret (results_cellrow_tmp (p := 6) (u := 7) (fn := Try.f33) rfl _ _ _ _ _ _ _ rfl HG.out.1 Try.underlying29 rfl (by kernel_rfl)) rfl ?_
              exact ⟨by rw [HV.out]; rfl, HG.out.2⟩
    · have ta : (a != v) = true := bne_iff_ne.2 ha
      clear hx1 hp hown hfar hdg hpv
      have HV : Hid (stepO nd l x gn v k e = none) := by show _ = _; unfold stepO; rw [if_neg]; intro hh; rw [hE] at hh; exact ha hh.2.1
      clear HR4
      go_enter Try.func33, Try.ntmps33
      go_wp2_with (go_at_call 22; (with_reducible refine (HE.out _ hS).mono ?_); rintro e' w3 ⟨rfl, hh3⟩; have HH3 := hid hh3; obtain ⟨z0, z1, z2⟩ := box_cells hh3.2.1; obtain ⟨y0, y1, y2⟩ := box_cells hh3.2.2; have hb3 := (box5_cells (HB.out w3 hh3.1)); obtain ⟨o0, o1, o2, o3, o4, -⟩ := hb3; clear hh3)
      go_big_quiet (fail)
      go_wp2_with fail
      have HG := (HH3.out.next (Below.drewN' w3 nq)).put (a := 0) (b := 0)
      refine bodyPost_ret (results_cellrow_tmp (p := 6) (u := 7) (fn := Try.f33) rfl _ _ _ _ _ _ _ rfl HG.out.1 Try.underlying29 rfl (by kernel_rfl)) rfl ?_
      exact ⟨by rw [HV.out]; rfl, HG.out.2⟩
end Go.Proofs.Ytabgbhkpeeibaaa
