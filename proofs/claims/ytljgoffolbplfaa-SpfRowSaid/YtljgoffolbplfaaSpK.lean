/- SpfRow. -/
import Derived.Test.YtljgoffolbplfaaSpJ
import Derived.Test.YtljgoffolbplfaaSpL
import Derived.Deep.RegionLaw
namespace Go.Proofs.Ytljgoffolbplfaa
open Go.RowKit
set_option maxHeartbeats 6400000
set_option maxRecDepth 100000
theorem lnk_row (a b m c : Int) : #[Value.int .i64 a, Value.int .i64 b, Value.int .i64 m, Value.int .i64 c] = (lcells [⟨a, b, m, c⟩]).toArray := rfl
theorem row_from (M : List Int) {N s : Nat} (dn : List Bool) (go : Nat) (h1 : 1 ≤ N) (h2 : N ≤ 29) (hs : s < N + 1) (hdn : ∀ k, k < N → isDn dn k = decide (k = go)) :
    fromS ((N : Int) + 1) (rowL M N) dn (s : Int) = (List.range (N + 1)).map fun v => if ovR s v go then -1 else dR M s v := by
  have hg := row_ok M h1 h2
  have hc : (checkS ((N : Int) + 1) (rowL M N)).2 = 0 := by
    unfold checkS
    rw [rowL_len, if_neg (by omega), if_neg (by omega)]
    exact hg.2.2.2
  unfold fromS
  rw [if_pos ⟨hc, by omega, by omega⟩, show ((N : Int) + 1).toNat = N + 1 by omega, Int.toNat_natCast]
  exact distS_eq hg (row_dist M dn go hs hdn)
theorem row_in (hF : FromSpec 27) (A : Option Addr) (N c : Nat) (M : List Int) (s go : Nat) (w : World) (hr : RInt w w.heap.size A N M) (hN : 1 ≤ N) (hN2 : N ≤ 29) (hs : s < N + 1) (hgo : go < N) :
    Calls Try.prog 10 #[.slice A N c, .int .i64 (s : Int), .int .i64 (go : Int)] w fun e w' => e = .returned (.bool true) ∧ Below w.heap.size w w' := by
  obtain ⟨i5, hi, hz0, hz1, hz2⟩ := info_parts (show (Try.prog.info? 41).map (fun i => (i.zero, i.size, i.bytes)) = some (some (.agg #[.int .i64 0, .int .i64 0, .int .i64 0, .int .i64 0]), 4, 32) by kernel_rfl)
  have Ai := hid hi; have Az0 := hid hz0; have Az1 := hid hz1; have Az2 := hid hz2
  clear hi hz0 hz1 hz2
  obtain ⟨j5, hi, hz0, hz1, hz2⟩ := info_parts (show (Try.prog.info? 4).map (fun i => (i.zero, i.size, i.bytes)) = some (some (.bool false), 1, 1) by kernel_rfl)
  have Bi := hid hi; have Bz0 := hid hz0; have Bz1 := hid hz1; have Bz2 := hid hz2
  clear hi hz0 hz1 hz2
  have t1 : decide ((N : Int) + 1 < 2) = false := by simp; omega
  have t2 : decide (30 < (N : Int) + 1) = false := by simp; omega
  have t3 : decide ((s : Int) < 0) = false := by simp
  have t4 : decide ((N : Int) + 1 ≤ (s : Int)) = false := by simp; omega
  have t5 : decide ((go : Int) < 0) = false := by simp
  have t6 : decide ((N : Int) ≤ (go : Int)) = false := by simp; omega
  have t6' : decide (N ≤ go) = false := by simp; omega
  have HR := hid hr
  have hl := hr.1
  have HA := hid (alive_any hF)
  have HFs := hid hF
  clear hr hF
  go_enter Try.func10, Try.ntmps10
  go_wp2_with (go_at_call 25; (with_reducible refine (HA.out _).mono ?_); rintro e' w1 ⟨rfl, hb1⟩)
  go_loopw [10] (fun i wr => ∃ (k : Nat) (v : Value), k ≤ N ∧ i = .int .i64 k ∧ Hid (wr.heap[w1.heap.size]? = some (.cells #[.int .i64 ((N : Int) + 1), v] 24 (0, 0))) ∧ Hid (wr.ownsRow (w1.heap.size + 1) 41 4 v k (lcells (rowL M k))) ∧ Hid (Below w1.heap.size w1 wr) ∧ w1.heap.size + 1 ≤ wr.heap.size) (fun i _ => N - (intOf i).toNat)
  case atStart => exact ⟨0, .slice none 0 0, Nat.zero_le _, rfl, heap_alloc_new _ _, World.ownsRow_nil _ _ _ _, (Below.alloc (Below.refl _ _) (Nat.le_refl _) _), by simp⟩
  case round =>
    obtain ⟨k, v, hk, rfl, HX, HO, HB, hsz⟩ := hrel
    obtain ⟨e0, e1, e2⟩ := box_cells HX.out
    have f1 := e2 1
    clear e2
    by_cases hlt : k < N
    · obtain ⟨x, hx⟩ : ∃ x, M[k]? = some x := ⟨M[k]'(by omega), List.getElem?_eq_getElem _⟩
      obtain ⟨bM, oM, rfl, hbM, hcM⟩ := HR.out.2 (by omega)
      have cx := ((hb1.trans (HB.out.mono hb1.size)).cell (p := ⟨bM, oM + k, none⟩) hbM).trans (hcM k x hx)
      have hMk := hid (hcM k x hx)
      have hlo : w1.heap.size < wr.heap.size := by omega
      have hbw : bM < wr.heap.size := by have h1 := hb1.size; have h2 := HB.out.size; omega
      have hand : bits .and .i64 x 1023 = x % 1024 := i64_mask_any 10 (by omega) 1023 (by decide) x
      have hx0 : 0 ≤ x % 1024 ∧ x % 1024 < 1024 := by omega
      obtain ⟨y, hy⟩ : ∃ y, x % 1024 = y := ⟨_, rfl⟩
      rw [hy] at hand hx0
      obtain ⟨hy0, hy1⟩ := hx0
      have HY : Hid (rowL M (k + 1) = rowL M k ++ [⟨(k : Int), (k : Int) + 1, 1 + y, 0⟩]) := by
        show _ = _
        simp only [rowL, rm]
        rw [List.getD_eq_getElem?_getD, hx, ← hy]; rfl
      clear hcM hx hy
      go_wp2_with fail
      have HOd : Hid (wr.drew.ownsRow (w1.heap.size + 1) 41 4 v k (lcells (rowL M k))) := HO.out
      have ew1 : IntKind.i64.wrap ((k : Int) + 1) = (k : Int) + 1 := IntWalk.i64_in _ (by omega)
      have ew2 : IntKind.i64.wrap (1 + y) = 1 + y := IntWalk.i64_in _ (by omega)
      go_region_law (first
        | ((refine step_append_some (by rfl) (.tmp 61) (.tmp 72) 22 (by rfl) (w1.heap.size + 1) 41 i5 (.agg #[.int .i64 0, .int .i64 0, .int .i64 0, .int .i64 0]) 4 32 Try.underlying22 Ai.out Az0.out Az1.out Az2.out rfl (by decide) v k (lcells (rowL M k)) (by rfl) (HOd.out.alloc _) ⟨wr.heap.size, 0, none⟩ 1 1 (lcells [⟨(k : Int), (k : Int) + 1, 1 + y, 0⟩]) (by rfl) (by rfl) (new_row (w := wr.drew) (lnk_row _ _ _ _)) (lcells_one _) (by unfold maxLen; omega) (by omega) (by simp; omega) ?_; intro A4 c4 w4 hown4 hg4; have hX4 := box_app (wr := wr.drew) HX.out (by omega) HOd.out hg4; have HX4 := hid hX4; obtain ⟨q0, q1, q2⟩ := box_cells hX4; have f4 := q2 1; have hb4 := below_app (w1 := w1) (wr := wr.drew) HB.out.drew (by omega) HOd.out hg4; have HB4 := hid hb4; have s4 := And.intro q1 (((hb1.trans (hb4.mono hb1.size)).cell (p := ⟨bM, oM + k, none⟩) hbM).trans hMk.out); clear hX4 q2; have HO4 := hid hown4; clear hown4)))
      · clear ew1 ew2
        go_wp2_with fail
        go_roundw
        case rel => exact ⟨k + 1, _, by omega, by go_num, box_set1 HX4.out, by rw [HY.out, lcells_app]; exact own_set HO4.out (by show w1.heap.size < _; omega) _, HB4.out.setCell (Nat.le_refl _) _, by have := HB4.out.size; have h4 := hg4.size; simp at h4 ⊢; omega⟩
        case measure => simp [intOf]; omega
      · clear ew1 ew2
        go_wp2_with fail
        go_roundw
        case rel => exact ⟨k + 1, _, by omega, by go_num, box_set1 HX4.out, by rw [HY.out, lcells_app]; exact own_set HO4.out (by show w1.heap.size < _; omega) _, HB4.out.setCell (Nat.le_refl _) _, by have := HB4.out.size; have h4 := hg4.size; simp at h4 ⊢; omega⟩
        case measure => simp [intOf]; omega
      · clear ew1 ew2
        go_wp2_with fail
        go_roundw
        case rel => exact ⟨k + 1, _, by omega, by go_num, box_set1 HX4.out, by rw [HY.out, lcells_app]; exact own_set HO4.out (by show w1.heap.size < _; omega) _, HB4.out.setCell (Nat.le_refl _) _, by have := HB4.out.size; have h4 := hg4.size; simp at h4 ⊢; omega⟩
        case measure => simp [intOf]; omega
    · obtain rfl : N = k := by omega
      obtain ⟨A5, c5, rfl, hc5, hr5⟩ := own_lnks HO.out (rowL_len _ _)
      have HR5 := hid hr5
      clear hr5
      have hlo : w1.heap.size < wr.heap.size := by omega
      obtain ⟨bL, oL, rfl, hbL, hcL⟩ := HR5.out.2 (by omega)
      clear hcL
      have HGa := hid (fun (w' : World) (hb : Below wr.heap.size wr w') => (⟨HR5.out.on hb, by omega, hc5, fun h => (by cases h), by omega, by omega⟩ : GArg w' ((N : Int) + 1) (some ⟨bL, oL, none⟩) N c5 (rowL M N)))
      have L1 := row_from M [] N hN hN2 hs (fun k hk => by rw [show decide (k = N) = false from by simp; omega]; rfl)
      have L2 := row_from M ((List.range N).map fun j => if j = go then true else false) go hN hN2 hs (fun k hk => by rw [isDn_map hk]; by_cases h : k = go <;> simp [h])
      obtain ⟨D1, hD1⟩ : ∃ D1, ((List.range (N + 1)).map fun v => if ovR s v N then -1 else dR M s v) = D1 := ⟨_, rfl⟩
      obtain ⟨D2, hD2⟩ : ∃ D2, ((List.range (N + 1)).map fun v => if ovR s v go then -1 else dR M s v) = D2 := ⟨_, rfl⟩
      have HD1 := hid hD1
      have HD2 := hid hD2
      rw [hD1] at L1
      rw [hD2] at L2
      have N1 : D1.length = N + 1 := by rw [← hD1]; simp
      have N2 : D2.length = N + 1 := by rw [← hD2]; simp
      have HF1 := hid (fun (w' : World) (hb : Below wr.heap.size wr w') => ints_out N1 (L1 ▸ HFs.out ((N : Int) + 1) (some ⟨bL, oL, none⟩) N c5 (rowL M N) none 0 0 [] (s : Int) w' (HGa.out w' hb) (DArg.nil w') (by omega) (by omega)))
      have HF2 := hid (fun (G : Nat) (w' : World) (hb : Below wr.heap.size wr w') (hd : DArg w' (some ⟨G, 0, none⟩) N N ((List.range N).map fun j => if j = go then true else false)) => ints_out N2 (L2 ▸ HFs.out ((N : Int) + 1) (some ⟨bL, oL, none⟩) N c5 (rowL M N) (some ⟨G, 0, none⟩) N N _ (s : Int) w' (HGa.out w' hb) hd (by omega) (by omega)))
      have HG1 : Hid (∀ v : Nat, v < N + 1 → D1[v]? = some (dR M s v)) := fun v hv => by
        rw [← HD1.out, List.getElem?_map, List.getElem?_range hv]
        have : ovR s v N = false := by unfold ovR; simp; omega
        simp [this]
      have HG2 : Hid (∀ v : Nat, v < N + 1 → D2[v]? = some (if ovR s v go then -1 else dR M s v)) := fun v hv => by
        rw [← HD2.out, List.getElem?_map, List.getElem?_range hv]; rfl
      clear L1 L2 hD1 hD2 N1 N2
      go_wp2_with (first
        | (at_make; refine wpList_make_full _ rfl (.tmp 76) (.tmp 76) 43 rfl wr.heap.size 4 j5 (.bool false) 1 Try.underlying43 Bi.out Bz0.out Bz1.out _ _ _ _ N rfl rfl (by omega) (by omega) (by rw [Bz2.out]; omega) (by unfold maxLen; omega) (Nat.le_refl _) ?_; intro w3 hown3 hg3; have HM3 := hid (BRow.made hown3); have b3 := grown_below hg3; have HX3 := hid (box_below HX.out b3 (by omega)); obtain ⟨q0, q1, _⟩ := box_cells HX3.out; have cm := HM3.out.cell hgo; have fm := HM3.out.frozen go; have HM4 := hid (HM3.out.set (e := go) true); have b4 : Below wr.heap.size wr (w3.setCell ⟨wr.heap.size, go, none⟩ (.bool true)) := b3.setCell (Nat.le_refl _) _; have HQ1 := hid (HF1.out _ b4); clear hown3 hg3)
        | (go_at_call 27; (with_reducible refine HQ1.out.mono ?_); rintro e' w5 ⟨A6, c6, rfl, r6, b5⟩; have R6 := hid r6.1; clear r6; have b05 := b4.trans (b5.mono b4.size); have HX5 := hid (box_below HX.out b05 hlo); obtain ⟨q2, q3, _⟩ := box_cells HX5.out; have HQ2 := hid (HF2.out wr.heap.size _ b05 (DArg.mk (HM4.out.on b5).toRBl (by omega) (Nat.le_refl _) (fun h => by cases h))))
        | (go_at_call 27; (with_reducible refine HQ2.out.mono ?_); rintro e' w6 ⟨A7, c7, rfl, r7, b6⟩; have R7 := hid r7.1; clear r7; have b06 := b05.trans (b6.mono b05.size); have R67 := hid (R6.out.on b6)))
      have HX6 := hid (box_below HX.out b06 hlo)
      have HR6 := hid (HR5.out.on b06)
      have h06 := b06.size
      obtain ⟨bA, oA, rfl, _, _⟩ := R67.out.2 (by omega)
      obtain ⟨bB, oB, rfl, _, _⟩ := R7.out.2 (by omega)
      have hlo6 : w1.heap.size < w6.heap.size := by omega
      have HBall : Hid (Below w.heap.size w w6) := hb1.trans ((HB.out.trans (b06.mono (by omega))).mono hb1.size)
      clear q0 q1 q2 q3 cm fm e0 e1 f1
      go_loopw [14] (fun ii wx => ∃ i : Nat, i ≤ N + 1 ∧ ii = .int .i64 i ∧ Hid (Below w6.heap.size w6 wx)) (fun ii _ => N + 1 - (intOf ii).toNat)
      case atStart => exact ⟨0, Nat.zero_le _, rfl, Below.refl _ _⟩
      case round =>
        obtain ⟨i, hi, rfl, HBx⟩ := hrel
        by_cases hiN : i < N + 1
        · have tiN : decide ((i : Int) < (N : Int) + 1) = true := by simp; omega
          go_wp2_with fail
          go_loopw [15, 16, 17] (fun sm ov kk wx => ∃ k : Nat, k ≤ N ∧ kk = .int .i64 k ∧ sm = .int .i64 (part M s i k) ∧ ov = .bool (over s i go k) ∧ Hid (Below w6.heap.size w6 wx)) (fun _ _ kk _ => N - (intOf kk).toNat)
          case atStart => exact ⟨0, Nat.zero_le _, rfl, by rw [part_zero], by simp [over], HBx.out⟩
          case round =>
            obtain ⟨k, hk, rfl, rfl, rfl, HBy⟩ := hrel
            by_cases hkN : k < N
            · have hm := part_top M s i k
              have hrm := rm_pos M k
              have HI := hid (fun h => part_in M (s := s) (i := i) (K := k) h)
              have HOt := hid (fun h => part_out M (s := s) (i := i) (K := k) h)
              have HOi := hid (fun h => over_in (s := s) (i := i) (go := go) (K := k) h)
              have HOo := hid (fun h => over_out (s := s) (i := i) (go := go) (K := k) h)
              obtain ⟨sm, hsm⟩ : ∃ sm, part M s i k = sm := ⟨_, rfl⟩
              obtain ⟨ov, hov⟩ : ∃ ov, over s i go k = ov := ⟨_, rfl⟩
              rw [hsm] at hm HI HOt
              rw [hov] at HOi HOo
              simp only [hsm, hov]
              have hm1 := hm.1
              have hm2 : sm ≤ 100000 := by omega
              obtain ⟨x0, x1, _⟩ := box_cells (box_below HX6.out HBy.out hlo6)
              have cmt := ((HR6.out.below HBy.out).metAt (rowL_get M hkN)).1
              simp only at cmt
              obtain ⟨r, hr⟩ : ∃ r, rm M k = r := ⟨_, rfl⟩
              rw [hr] at cmt hrm HI
              obtain ⟨hr1, hr2⟩ := hrm
              clear hsm hov hm hr
              rcases Nat.lt_or_ge k s with h1 | h1 <;> rcases Nat.lt_or_ge k i with h2 | h2
              · have a1 : decide (s ≤ k) = false := by simp; omega
                have a2 : decide (k < i) = true := by simp; omega
                have a3 : decide (i ≤ k) = false := by simp; omega
                have a4 : decide (k < s) = true := by simp; omega
                have HP := hid (HOt.out (by omega))
                have HV := hid (HOo.out (by omega))
                clear h1 h2
                go_wp2_with fail
                go_roundw
                case rel => exact ⟨k + 1, by omega, by go_num, by rw [HP.out], by rw [HV.out], HBy.out⟩
                case measure => simp [intOf]; omega
              · have a1 : decide (s ≤ k) = false := by simp; omega
                have a2 : decide (k < i) = false := by simp; omega
                have a3 : decide (i ≤ k) = true := by simp; omega
                have a4 : decide (k < s) = true := by simp; omega
                have HP := hid (HI.out (by omega))
                have HV0 := hid (HOi.out (by omega))
                clear h1 h2
                cases ov with
                | true =>
                  have HV : Hid (over s i go (k + 1) = true) := by show _ = _; rw [HV0.out]; rfl
                  go_wp2_with fail
                  go_roundw
                  case rel => exact ⟨k + 1, by omega, by go_num, by rw [HP.out], by rw [HV.out], HBy.out⟩
                  case measure => simp [intOf]; omega
                | false =>
                  by_cases hkg : k = go
                  · have u : ((k : Int) == (go : Int)) = true := by simp; omega
                    have HV : Hid (over s i go (k + 1) = true) := by show _ = _; rw [HV0.out, decide_eq_true hkg]; rfl
                    clear hkg
                    go_wp2_with fail
                    go_roundw
                    case rel => exact ⟨k + 1, by omega, by go_num, by rw [HP.out], by rw [HV.out], HBy.out⟩
                    case measure => simp [intOf]; omega
                  · have u : ((k : Int) == (go : Int)) = false := by simp; omega
                    have HV : Hid (over s i go (k + 1) = false) := by show _ = _; rw [HV0.out, decide_eq_false hkg]; rfl
                    clear hkg
                    go_wp2_with fail
                    go_roundw
                    case rel => exact ⟨k + 1, by omega, by go_num, by rw [HP.out], by rw [HV.out], HBy.out⟩
                    case measure => simp [intOf]; omega
              · have a1 : decide (s ≤ k) = true := by simp; omega
                have a2 : decide (k < i) = true := by simp; omega
                have a3 : decide (i ≤ k) = false := by simp; omega
                have a4 : decide (k < s) = false := by simp; omega
                have HP := hid (HI.out (by omega))
                have HV0 := hid (HOi.out (by omega))
                clear h1 h2
                cases ov with
                | true =>
                  have HV : Hid (over s i go (k + 1) = true) := by show _ = _; rw [HV0.out]; rfl
                  go_wp2_with fail
                  go_roundw
                  case rel => exact ⟨k + 1, by omega, by go_num, by rw [HP.out], by rw [HV.out], HBy.out⟩
                  case measure => simp [intOf]; omega
                | false =>
                  by_cases hkg : k = go
                  · have u : ((k : Int) == (go : Int)) = true := by simp; omega
                    have HV : Hid (over s i go (k + 1) = true) := by show _ = _; rw [HV0.out, decide_eq_true hkg]; rfl
                    clear hkg
                    go_wp2_with fail
                    go_roundw
                    case rel => exact ⟨k + 1, by omega, by go_num, by rw [HP.out], by rw [HV.out], HBy.out⟩
                    case measure => simp [intOf]; omega
                  · have u : ((k : Int) == (go : Int)) = false := by simp; omega
                    have HV : Hid (over s i go (k + 1) = false) := by show _ = _; rw [HV0.out, decide_eq_false hkg]; rfl
                    clear hkg
                    go_wp2_with fail
                    go_roundw
                    case rel => exact ⟨k + 1, by omega, by go_num, by rw [HP.out], by rw [HV.out], HBy.out⟩
                    case measure => simp [intOf]; omega
              · have a1 : decide (s ≤ k) = true := by simp; omega
                have a2 : decide (k < i) = false := by simp; omega
                have a3 : decide (i ≤ k) = true := by simp; omega
                have a4 : decide (k < s) = false := by simp; omega
                have HP := hid (HOt.out (by omega))
                have HV := hid (HOo.out (by omega))
                clear h1 h2
                go_wp2_with fail
                go_roundw
                case rel => exact ⟨k + 1, by omega, by go_num, by rw [HP.out], by rw [HV.out], HBy.out⟩
                case measure => simp [intOf]; omega
            · obtain rfl : N = k := by omega
              have G1 := HG1.out i (by omega)
              have G2 := HG2.out i (by omega)
              have hpa := part_all M (s := s) (i := i) (N := N) (by omega)
              have hoa := over_all (s := s) (i := i) hgo
              have cA := ((R67.out.below HBy.out).cellAt G1).1
              have cB := ((R7.out.below HBy.out).cellAt G2).1
              rw [hpa, hoa]
              obtain ⟨dd, hdd⟩ : ∃ dd, dR M s i = dd := ⟨_, rfl⟩
              rw [hdd] at cA cB
              simp only [hdd]
              clear G1 G2 hpa hoa hdd
              cases hov : ovR s i go with
              | true =>
                rw [hov] at cB
                simp only [if_true] at cB
                clear hov
                go_wp2_with fail
                go_roundw
                case rel => exact ⟨i + 1, by omega, by go_num, HBy.out⟩
                case measure => simp [intOf]; omega
              | false =>
                rw [hov] at cB
                simp only [Bool.false_eq_true, if_false] at cB
                clear hov
                go_wp2_with fail
                go_roundw
                case rel => exact ⟨i + 1, by omega, by go_num, HBy.out⟩
                case measure => simp [intOf]; omega
        · obtain rfl : i = N + 1 := by omega
          go_wp2_with fail
          go_ret
          exact ⟨rfl, HBall.out.trans (HBx.out.mono HBall.out.size)⟩
theorem row_not (hF : FromSpec 27) (A : Option Addr) (N c : Nat) (s go : Int) (w : World) (hm : N ≤ 9223372036854775807) (h : ¬(1 ≤ N ∧ N ≤ 29 ∧ 0 ≤ s ∧ s < (N : Int) + 1 ∧ 0 ≤ go ∧ go < (N : Int))) :
    Calls Try.prog 10 #[.slice A N c, .int .i64 s, .int .i64 go] w fun e w' => e = .returned (.bool true) ∧ Below w.heap.size w w' := by
  have HA := hid (alive_any hF)
  clear hF
  by_cases hN : N = 0
  · subst hN
    clear h hm
    go_enter Try.func10, Try.ntmps10
    go_wp2_with (go_at_call 25; (with_reducible refine (HA.out _).mono ?_); rintro e' w1 ⟨rfl, hb1⟩)
    go_ret
    exact ⟨rfl, hb1⟩
  · by_cases hN2 : 29 < N
    · by_cases hN3 : N = 9223372036854775807
      · subst hN3
        have tw : wrap64 9223372036854775808 = -9223372036854775808 := by unfold wrap64; omega
        clear h hm hN hN2
        go_enter Try.func10, Try.ntmps10
        go_wp2_with (go_at_call 25; (with_reducible refine (HA.out _).mono ?_); rintro e' w1 ⟨rfl, hb1⟩)
        go_ret
        exact ⟨rfl, hb1⟩
      · have t1 : decide ((N : Int) + 1 < 2) = false := by simp; omega
        have t2 : decide (30 < (N : Int) + 1) = true := by simp; omega
        have hm2 : N ≤ 9223372036854775806 := by omega
        clear h hm hN hN2 hN3
        go_enter Try.func10, Try.ntmps10
        go_wp2_with (go_at_call 25; (with_reducible refine (HA.out _).mono ?_); rintro e' w1 ⟨rfl, hb1⟩)
        go_ret
        exact ⟨rfl, hb1⟩
    · have t1 : decide ((N : Int) + 1 < 2) = false := by simp; omega
      have t2 : decide (30 < (N : Int) + 1) = false := by simp; omega
      have hm2 : N ≤ 29 := by omega
      by_cases h1 : s < 0
      · have t3 : decide (s < 0) = true := by simpa using h1
        clear h hm hN hN2 h1
        go_enter Try.func10, Try.ntmps10
        go_wp2_with (go_at_call 25; (with_reducible refine (HA.out _).mono ?_); rintro e' w1 ⟨rfl, hb1⟩)
        go_ret
        exact ⟨rfl, hb1⟩
      · have t3 : decide (s < 0) = false := by simpa using h1
        by_cases h2 : (N : Int) + 1 ≤ s
        · have t4 : decide ((N : Int) + 1 ≤ s) = true := by simpa using h2
          clear h hm hN hN2 h1 h2
          go_enter Try.func10, Try.ntmps10
          go_wp2_with (go_at_call 25; (with_reducible refine (HA.out _).mono ?_); rintro e' w1 ⟨rfl, hb1⟩)
          go_ret
          exact ⟨rfl, hb1⟩
        · have t4 : decide ((N : Int) + 1 ≤ s) = false := by simpa using h2
          by_cases h3 : go < 0
          · have t5 : decide (go < 0) = true := by simpa using h3
            clear h hm hN hN2 h1 h2 h3
            go_enter Try.func10, Try.ntmps10
            go_wp2_with (go_at_call 25; (with_reducible refine (HA.out _).mono ?_); rintro e' w1 ⟨rfl, hb1⟩)
            go_ret
            exact ⟨rfl, hb1⟩
          · have t5 : decide (go < 0) = false := by simpa using h3
            have t6 : decide ((N : Int) ≤ go) = true := by simp; omega
            clear h hm hN hN2 h1 h2 h3
            go_enter Try.func10, Try.ntmps10
            go_wp2_with (go_at_call 25; (with_reducible refine (HA.out _).mono ?_); rintro e' w1 ⟨rfl, hb1⟩)
            go_ret
            exact ⟨rfl, hb1⟩
theorem row_any (hF : FromSpec 27) (A : Option Addr) (N c : Nat) (M : List Int) (s go : Int) (w : World) (hr : RInt w w.heap.size A N M) (hm : N ≤ maxLen) :
    Calls Try.prog 10 #[.slice A N c, .int .i64 s, .int .i64 go] w fun e w' => e = .returned (.bool true) ∧ Below w.heap.size w w' := by
  by_cases h : 1 ≤ N ∧ N ≤ 29 ∧ 0 ≤ s ∧ s < (N : Int) + 1 ∧ 0 ≤ go ∧ go < (N : Int)
  · obtain ⟨h1, h2, h3, h4, h5, h6⟩ := h
    obtain ⟨S, rfl⟩ := Int.eq_ofNat_of_zero_le h3
    obtain ⟨G, rfl⟩ := Int.eq_ofNat_of_zero_le h5
    exact row_in hF A N c M S G w hr h1 h2 (by omega) (by omega)
  · exact row_not hF A N c s go w (by unfold maxLen at hm; omega) h
end Go.Proofs.Ytljgoffolbplfaa
