/- Merged: SpC SpD SpE WgD SpM. -/
import Derived.Test.YtkemcgbedapkcaaG02
import Derived.Deep.RegionHeld3
/- waymarkref1.From. -/
namespace Go.Proofs.Ytkemcgbedapkcaa
open Go.RowKit
set_option maxHeartbeats 6400000
set_option maxRecDepth 100000
/-- What a function answers that makes a row of numbers. -/
def IntAns (L : List Int) (w : World) (e : Ending) (w' : World) : Prop :=
  ∃ v, e = .returned v ∧ w'.ownsRow w.heap.size 3 1 v L.length (icells L) ∧ Below w.heap.size w w'
theorem refFrom_not (nd : Int) (A : Option Addr) (n c : Nat) (l : List Lnk) (Ad : Option Addr) (n' c' : Nat) (dn : List Bool) (s : Int) (w : World) (hr : RLnk w w.heap.size A n l) (h : ¬((checkS nd l).2 = 0 ∧ 0 ≤ s ∧ s < nd)) :
    Calls Try.prog 14 #[.agg #[.int .i64 nd, .slice A n c], .slice Ad n' c', .int .i64 s] w (IntAns (fromS nd l dn s) w) := by
  have Q : fromS nd l dn s = [] := by unfold fromS; rw [if_neg h]
  rw [Q]
  have hS := Held.start w nd A n c
  have HK' := hid (fun (w' : World) (h : Held w nd A n c w') => h.calls (refCheck_any nd A n c l w' (h.on hr)))
  have HNd := hid (fun (w' : World) (h : Held w nd A n c w') => h.calls (node_any nd A n c s w'))
  obtain ⟨k1, hk1⟩ : ∃ k1, (checkS nd l).1 = k1 := ⟨_, rfl⟩
  obtain ⟨g0, g1⟩ := hS.cells
  by_cases h2 : (checkS nd l).2 = 0
  · rw [hk1, h2] at HK'
    have tE : ((0 : Int) != 0) = false := by decide
    have hb : (decide (0 ≤ s) && decide (s < nd)) = false := by
      rcases (show ¬(0 ≤ s) ∨ ¬(s < nd) by omega) with h3 | h3 <;> simp [h3]
    rw [hb] at HNd
    clear hr h h2 hk1 hb Q
    go_enter Try.func14, Try.ntmps14
    go_wp2_with (first
      | (go_at_call 22; (with_reducible refine (HK'.out _ hS).mono ?_); rintro e' w1 ⟨rfl, h1⟩; obtain ⟨g2, g3⟩ := h1.cells)
      | (go_at_call 23; (with_reducible refine (HNd.out _ h1).mono ?_); rintro e' w2 ⟨rfl, h3⟩; obtain ⟨g4, g5⟩ := h3.cells))
    go_ret
    exact ⟨_, rfl, World.ownsRow_nil _ _ _ _, h3.1⟩
  · obtain ⟨k2, hk2⟩ : ∃ k2, (checkS nd l).2 = k2 := ⟨_, rfl⟩
    rw [hk1, hk2] at HK'
    have t1 : (k2 != 0) = true := by rw [← hk2]; simpa using h2
    clear hr h h2 hk1 hk2 Q
    go_enter Try.func14, Try.ntmps14
    go_wp2_with (first
      | (go_at_call 22; (with_reducible refine (HK'.out _ hS).mono ?_); rintro e' w1 ⟨rfl, h1⟩; obtain ⟨g2, g3⟩ := h1.cells))
    go_ret
    exact ⟨_, rfl, World.ownsRow_nil _ _ _ _, h1.1⟩
/-- The row while it is filled with -1. -/
def filled (N k : Nat) : List Int := List.replicate k (-1) ++ List.replicate (N - k) 0
theorem filled_zero (N : Nat) : filled N 0 = List.replicate N 0 := by simp [filled]
theorem filled_all (N : Nat) : filled N N = List.replicate N (-1) := by simp [filled]
theorem filled_len {N k : Nat} (h : k ≤ N) : (filled N k).length = N := by simp [filled]; omega
theorem filled_set {N k : Nat} (h : k < N) : (filled N k).set k (-1) = filled N (k + 1) := by
  unfold filled
  rw [List.set_append_right _ _ (by simp)]
  obtain ⟨m, hm⟩ : ∃ m, N - k = m + 1 := ⟨N - k - 1, by omega⟩
  rw [hm, show N - (k + 1) = m by omega, List.replicate_succ (n := m), List.length_replicate, Nat.sub_self, List.set_cons_zero, List.replicate_succ' (n := k), List.append_assoc]
  rfl
def boolN : Value → Nat
  | .bool true => 1
  | _ => 0
/-- What an inner round keeps: if nothing turned, nothing so far was open. -/
def Turned (l : List Lnk) (dn : List Bool) (d d' : List Int) (b : Bool) (k : Nat) : Prop := (b = false → d' = d ∧ ∀ j, j < k → cloAt l dn d j) ∧ (b = true → sumP d' < sumP d)
theorem Turned.no {l : List Lnk} {dn : List Bool} {d d' : List Int} {b : Bool} {k : Nat} (h : Turned l dn d d' b k) (hc : cloAt l dn d' k) : Turned l dn d d' b (k + 1) := by
  refine ⟨fun hb => ?_, h.2⟩
  obtain ⟨h1, h2⟩ := h.1 hb
  refine ⟨h1, fun j hj => ?_⟩
  rcases Nat.lt_succ_iff_lt_or_eq.1 hj with hj | rfl
  · exact h2 j hj
  · rw [← h1]; exact hc
theorem Turned.yes {l : List Lnk} {dn : List Bool} {d d' d'' : List Int} {b : Bool} {k : Nat} (h : Turned l dn d d' b k) (hc : sumP d'' < sumP d') : Turned l dn d d'' true (k + 1) := by
  refine ⟨fun hb => (by cases hb), fun _ => ?_⟩
  cases b with
  | true => exact Nat.lt_trans hc (h.2 rfl)
  | false => rw [(h.1 rfl).1] at hc; exact hc
theorem refFrom_in (nd : Nat) (A : Option Addr) (n c : Nat) (l : List Lnk) (Ad : Option Addr) (n' c' : Nat) (dn : List Bool) (s : Nat) (w : World) (hr : RLnk w w.heap.size A n l) (hd : RBl w w.heap.size Ad n' dn) (h : (checkS (nd : Int) l).2 = 0) (hs : s < nd) :
    Calls Try.prog 14 #[.agg #[.int .i64 (nd : Int), .slice A n c], .slice Ad n' c', .int .i64 (s : Int)] w (IntAns (fromS (nd : Int) l dn (s : Int)) w) := by
  have hg := gok_of h
  have Q : fromS (nd : Int) l dn (s : Int) = distS nd l dn s := by unfold fromS; rw [if_pos ⟨h, by omega, by omega⟩]; rfl
  rw [Q]
  have hS := Held.start w (nd : Int) A n c
  have HK' := hid (fun (w' : World) (h : Held w (nd : Int) A n c w') => h.calls (refCheck_any (nd : Int) A n c l w' (h.on hr)))
  have HNd := hid (fun (w' : World) (h : Held w (nd : Int) A n c w') => h.calls (node_any (nd : Int) A n c (s : Int) w'))
  obtain ⟨k1, hk1⟩ : ∃ k1, (checkS (nd : Int) l).1 = k1 := ⟨_, rfl⟩
  rw [hk1, h] at HK'
  have hb : (decide (0 ≤ (s : Int)) && decide ((s : Int) < (nd : Int))) = true := by simp; omega
  rw [hb] at HNd
  obtain ⟨g0, g1⟩ := hS.cells
  obtain ⟨i5, hi, hz0, hz1, hz2⟩ := info_parts (show (Try.prog.info? 3).map (fun i => (i.zero, i.size, i.bytes)) = some (some (.int .i64 0), 1, 8) by kernel_rfl)
  have Ai := hid hi; have Az0 := hid hz0; have Az1 := hid hz1; have Az2 := hid hz2
  clear hi hz0 hz1 hz2
  have hn : n ≤ 120 := by rw [← hr.1]; exact hg.1
  have hl := hr.1
  have hnd : nd ≤ 40 := hg.2.2.1
  have HG := hid hg
  have HRL := hid hr
  have HRD := hid hd
  have HE := hid (fun (k : Nat) (hk : k < 240) (w' : World) (h : Held w (nd : Int) A n c w') => refEnds_any (nd : Int) A n c l (k : Int) w' (h.on hr) (by omega) (by omega))
  have tE : ((0 : Int) != 0) = false := by decide
  clear hr hd h hk1 hb Q hg
  go_enter Try.func14, Try.ntmps14
  go_wp2_with (first
    | (go_at_call 22; (with_reducible refine (HK'.out _ hS).mono ?_); rintro e' w1 ⟨rfl, h1⟩; obtain ⟨g2, g3⟩ := h1.cells)
    | (go_at_call 23; (with_reducible refine (HNd.out _ h1).mono ?_); rintro e' w2 ⟨rfl, h2⟩; obtain ⟨g4, g5⟩ := h2.cells)
    | (at_make; refine wpList_make_full _ rfl (.tmp 31) (.tmp 31) 40 rfl w2.heap.size 3 i5 (.int .i64 0) 1 Try.underlying40 Ai.out Az0.out Az1.out _ _ _ _ nd rfl rfl rfl rfl (by rw [Az2.out]; omega) (by unfold maxLen; omega) (Nat.le_refl _) ?_; intro w3 hown3 hg3; have HR3 := hid (IRow.made hown3); have h3 := h2.next (grown_below hg3); clear hown3 hg3))
  obtain ⟨G, hG⟩ : ∃ G, w2.heap.size = G := ⟨_, rfl⟩
  have hwG : w.heap.size < G := by rw [← hG]; exact h2.lt
  rw [hG] at HR3
  simp only [hG]
  clear hG g0 g1 g2 g3 g4 g5
  go_loopw [10] (fun i wr => ∃ k : Nat, k ≤ nd ∧ i = .int .i64 k ∧ Hid (IRow wr G (filled nd k)) ∧ Hid (Held w (nd : Int) A n c wr)) (fun i _ => nd - (intOf i).toNat)
  case atStart => exact ⟨0, Nat.zero_le _, rfl, by rw [filled_zero]; exact HR3.out, h3⟩
  case round =>
    obtain ⟨k, hk, rfl, HI, HH⟩ := hrel
    obtain ⟨e0, e1⟩ := HH.out.cells
    by_cases hlt : k < nd
    · have d0 := HI.out.cell (dAt_get (v := k) (by rw [filled_len hk]; exact hlt))
      have f0 := HI.out.frozen k
      go_wp2_with fail
      go_roundw
      case rel => exact ⟨k + 1, by omega, by go_num, by rw [← filled_set hlt]; exact HI.out.set (-1), HH.out.set hwG⟩
      case measure => simp [intOf]; omega
    · obtain rfl : nd = k := by omega
      have d0 := HI.out.cell (dAt_get (v := s) (by rw [filled_len hk]; exact hs))
      have f0 := HI.out.frozen s
      have HI2 : Hid (IRow (wr.setCell ⟨G, s, none⟩ (.int .i64 0)) G ((List.replicate nd (-1)).set s 0)) := by rw [← filled_all]; exact HI.out.set 0
      have HP2 := hid (PInv.start (l := l) (dn := dn) hs)
      have HH2 : Hid (Held w (nd : Int) A n c (wr.setCell ⟨G, s, none⟩ (.int .i64 0))) := HH.out.set hwG
      go_wp2_with fail
      go_loopw [11] (fun more wr => ∃ (b : Bool) (d : List Int), more = .bool b ∧ Hid (IRow wr G d) ∧ Hid (PInv nd l dn s d) ∧ Hid (b = false → ∀ j, j < 2 * l.length → cloAt l dn d j) ∧ Hid (Held w (nd : Int) A n c wr)) (fun more wr => potW wr G + boolN more)
      case atStart => exact ⟨true, _, rfl, HI2.out, HP2.out, fun h => (by cases h), HH2.out⟩
      case round =>
        obtain ⟨bo, d, rfl, HI4, HP4, HC4, HH4⟩ := hrel
        obtain ⟨z0, z1⟩ := HH4.out.cells
        clear e0 e1 d0 f0
        cases bo with
        | false =>
          have HD4 := hid (HP4.out.done (HC4.out rfl))
          go_wp2_with fail
          go_ret
          exact ⟨_, rfl, by rw [distS_eq HG.out HD4.out, HP4.out.len]; exact HI4.out.owned HP4.out.len (by omega) (by unfold maxLen; omega), HH4.out.1⟩
        | true =>
          obtain ⟨M, hM⟩ : ∃ M, potW wr G = M := ⟨_, rfl⟩
          have HM := hid (hM.symm.trans HI4.out.pot)
          have HMp := hid hM
          clear hM
          go_wp2_with fail
          go_loopw [11, 12] (fun more kk wx => ∃ (j : Nat) (bb : Bool) (d' : List Int), j ≤ 2 * n ∧ kk = .int .i64 j ∧ more = .bool bb ∧ Hid (IRow wx G d') ∧ Hid (PInv nd l dn s d') ∧ Hid (Turned l dn d d' bb j) ∧ Hid (Held w (nd : Int) A n c wx)) (fun _ kk _ => 2 * n - (intOf kk).toNat)
          case atStart => exact ⟨0, false, d, Nat.zero_le _, rfl, rfl, HI4.out, HP4.out, ⟨fun _ => ⟨rfl, fun j hj => absurd hj (Nat.not_lt_zero j)⟩, fun h => (by cases h)⟩, HH4.out⟩
          case round =>
            obtain ⟨k, bb, d', hk2, rfl, rfl, HIx, HPx, HTx, HHx⟩ := hrel
            obtain ⟨x0, x1⟩ := HHx.out.cells
            by_cases hkn : k < 2 * n
            · obtain ⟨a, b, x, hx, hE, hf, ht, hm, ha, hb, hab, hm1, hm2⟩ := edge_facts HG.out (k := k) (by rw [hl]; exact hkn)
              have HEk := hid (fun (w' : World) (h : Held w (nd : Int) A n c w') => HE.out k (by omega) w' h)
              simp only [hE] at HEk
              have Hf := hid hf; have Ht := hid ht; have Hm := hid hm
              clear hf ht hm hE
              obtain ⟨q, hq⟩ : ∃ q, k / 2 = q := ⟨_, rfl⟩
              rw [hq] at hx
              have hqn : q < n := by omega
              have d1 : Int.tdiv (k : Int) 2 = (q : Int) := by rw [← hq]; rfl
              obtain ⟨bL, oL, rfl, hbL, hcL⟩ := HRL.out.2 (by omega)
              have cM := hid (hcL q x hx).2.2.1
              have HD := hid (fun (w' : World) (h : Held w (nd : Int) (some ⟨bL, oL, none⟩) n c w') => isDown_any Ad n' c' dn q w' (HRD.out.on h.1) (by omega))
              obtain ⟨m, hm'⟩ : ∃ m, x.m = m := ⟨_, rfl⟩
              rw [hm'] at cM Hm hm1 hm2
              have Hlen := hid HPx.out.len
              have hda := HPx.out.bound hnd ha
              have hdb := HPx.out.bound hnd hb
              have Ga := hid (dAt_get (d := d') (v := a) (by rw [Hlen.out]; exact ha))
              have Gb := hid (dAt_get (d := d') (v := b) (by rw [Hlen.out]; exact hb))
              have Hno := hid (fun h => HTx.out.no (cloAt_no Hf.out Ht.out Hm.out h))
              have Hyes := hid (fun hu h0 hn => HPx.out.relax HG.out (k := k) (by rw [hl]; exact hkn) hu Hf.out Ht.out Hm.out ha hb hab hm1 hm2 h0 hn)
              rw [hq] at Hno Hyes
              obtain ⟨da, hda'⟩ : ∃ da, dAt d' (a : Int) = da := ⟨_, rfl⟩
              obtain ⟨db, hdb'⟩ : ∃ db, dAt d' (b : Int) = db := ⟨_, rfl⟩
              rw [hda'] at Ga Hno Hyes hda
              rw [hdb'] at Gb Hno Hyes hdb
              obtain ⟨hda1, hda2⟩ := hda
              obtain ⟨hdb1, hdb2⟩ := hdb
              have hnda : a < nd := ha
              clear hx hcL hda' hdb' hq hm'
              by_cases c1 : 0 ≤ da
              · have t1 : decide (0 ≤ da) = true := by simpa using c1
                cases hu : isDn dn q with
                | true =>
                  rw [hu] at HD Hno
                  have HQ := hid (Hno.out (.inr (.inl rfl)))
                  clear hu
                  go_wp2_with (first
                    | (go_at_call 13; (with_reducible refine (HEk.out _ HHx.out).mono ?_); rintro e' w5 ⟨rfl, hb5⟩; have h5 := HHx.out.next hb5; have i5 := HIx.out.on hb5; obtain ⟨y0, y1⟩ := h5.cells; have ca := i5.cell Ga.out; have cb := i5.cell Gb.out; have fb := i5.frozen b; have cm := (h5.1.cell (p := ⟨bL, oL + q * 4 + 2, none⟩) hbL).trans cM.out)
                    | (go_at_call 24; (with_reducible refine (HD.out _ (h5.drewN _)).mono ?_); rintro _ _ ⟨rfl, rfl⟩)
                    | go_big_quiet (fail))
                  go_roundw
                  case rel => exact ⟨k + 1, bb, d', by omega, by go_num, rfl, i5.drewN nq, HPx.out, HQ.out, h5.drewN nq⟩
                  case measure => simp [intOf]; omega
                | false =>
                  rw [hu] at HD
                  by_cases c2 : db < 0
                  · have t2 : decide (db < 0) = true := by simpa using c2
                    have HQ := hid (Hyes.out hu c1 (.inl c2))
                    clear hu
                    go_wp2_with (first
                      | (go_at_call 13; (with_reducible refine (HEk.out _ HHx.out).mono ?_); rintro e' w5 ⟨rfl, hb5⟩; have h5 := HHx.out.next hb5; have i5 := HIx.out.on hb5; obtain ⟨y0, y1⟩ := h5.cells; have ca := i5.cell Ga.out; have cb := i5.cell Gb.out; have fb := i5.frozen b; have cm := (h5.1.cell (p := ⟨bL, oL + q * 4 + 2, none⟩) hbL).trans cM.out)
                      | (go_at_call 24; (with_reducible refine (HD.out _ (h5.drewN _)).mono ?_); rintro _ _ ⟨rfl, rfl⟩)
                      | go_big_quiet (fail))
                    go_roundw
                    case rel => exact ⟨k + 1, true, _, by omega, by go_num, rfl, (i5.drewN nq).set _, HQ.out.1, HTx.out.yes HQ.out.2, (h5.drewN nq).set hwG⟩
                    case measure => simp [intOf]; omega
                  · have t2 : decide (db < 0) = false := by simpa using c2
                    by_cases c3 : da + m < db
                    · have t3 : decide (da + m < db) = true := by simpa using c3
                      have HQ := hid (Hyes.out hu c1 (.inr c3))
                      clear hu
                      go_wp2_with (first
                        | (go_at_call 13; (with_reducible refine (HEk.out _ HHx.out).mono ?_); rintro e' w5 ⟨rfl, hb5⟩; have h5 := HHx.out.next hb5; have i5 := HIx.out.on hb5; obtain ⟨y0, y1⟩ := h5.cells; have ca := i5.cell Ga.out; have cb := i5.cell Gb.out; have fb := i5.frozen b; have cm := (h5.1.cell (p := ⟨bL, oL + q * 4 + 2, none⟩) hbL).trans cM.out)
                        | (go_at_call 24; (with_reducible refine (HD.out _ (h5.drewN _)).mono ?_); rintro _ _ ⟨rfl, rfl⟩)
                        | go_big_quiet (fail))
                      go_roundw
                      case rel => exact ⟨k + 1, true, _, by omega, by go_num, rfl, (i5.drewN nq).set _, HQ.out.1, HTx.out.yes HQ.out.2, (h5.drewN nq).set hwG⟩
                      case measure => simp [intOf]; omega
                    · have t3 : decide (da + m < db) = false := by simpa using c3
                      have HQ := hid (Hno.out (.inr (.inr ⟨by omega, by omega⟩)))
                      clear hu
                      go_wp2_with (first
                        | (go_at_call 13; (with_reducible refine (HEk.out _ HHx.out).mono ?_); rintro e' w5 ⟨rfl, hb5⟩; have h5 := HHx.out.next hb5; have i5 := HIx.out.on hb5; obtain ⟨y0, y1⟩ := h5.cells; have ca := i5.cell Ga.out; have cb := i5.cell Gb.out; have fb := i5.frozen b; have cm := (h5.1.cell (p := ⟨bL, oL + q * 4 + 2, none⟩) hbL).trans cM.out)
                        | (go_at_call 24; (with_reducible refine (HD.out _ (h5.drewN _)).mono ?_); rintro _ _ ⟨rfl, rfl⟩)
                        | go_big_quiet (fail))
                      go_roundw
                      case rel => exact ⟨k + 1, bb, d', by omega, by go_num, rfl, i5.drewN nq, HPx.out, HQ.out, h5.drewN nq⟩
                      case measure => simp [intOf]; omega
              · have t1 : decide (0 ≤ da) = false := by simpa using c1
                have HQ := hid (Hno.out (.inl (by omega)))
                go_wp2_with (first
                  | (go_at_call 13; (with_reducible refine (HEk.out _ HHx.out).mono ?_); rintro e' w5 ⟨rfl, hb5⟩; have h5 := HHx.out.next hb5; have i5 := HIx.out.on hb5; obtain ⟨y0, y1⟩ := h5.cells; have ca := i5.cell Ga.out; have cb := i5.cell Gb.out; have fb := i5.frozen b; have cm := (h5.1.cell (p := ⟨bL, oL + q * 4 + 2, none⟩) hbL).trans cM.out)
                  | (go_at_call 24; (with_reducible refine (HD.out _ (h5.drewN _)).mono ?_); rintro _ _ ⟨rfl, rfl⟩)
                  | go_big_quiet (fail))
                go_roundw
                case rel => exact ⟨k + 1, bb, d', by omega, by go_num, rfl, i5.drewN nq, HPx.out, HQ.out, h5.drewN nq⟩
                case measure => simp [intOf]; omega
            · obtain rfl : k = 2 * n := by omega
              have HC5 : Hid (bb = false → ∀ j, j < 2 * l.length → cloAt l dn d' j) := fun h => by
                have := HTx.out.1 h
                rw [this.1, hl]
                exact this.2
              have HM5 : Hid (potW wr G + boolN (.bool bb) < M + boolN (.bool true)) := by
                show _ < _
                rw [HIx.out.pot, HM.out]
                cases bb with
                | true => have := HTx.out.2 rfl; simp only [boolN]; omega
                | false => rw [(HTx.out.1 rfl).1]; simp only [boolN]; omega
              go_wp2_with fail
              go_roundw
              case rel => exact ⟨bb, d', rfl, HIx.out, HPx.out, HC5.out, HHx.out⟩
              case measure => rw [HMp.out]; exact HM5.out
theorem refFrom_any (nd : Int) (A : Option Addr) (n c : Nat) (l : List Lnk) (Ad : Option Addr) (n' c' : Nat) (dn : List Bool) (s : Int) (w : World) (hr : RLnk w w.heap.size A n l) (hd : RBl w w.heap.size Ad n' dn) :
    Calls Try.prog 14 #[.agg #[.int .i64 nd, .slice A n c], .slice Ad n' c', .int .i64 s] w (IntAns (fromS nd l dn s) w) := by
  by_cases h : (checkS nd l).2 = 0 ∧ 0 ≤ s ∧ s < nd
  · obtain ⟨N, rfl⟩ := Int.eq_ofNat_of_zero_le (show 0 ≤ nd by omega)
    obtain ⟨S, rfl⟩ := Int.eq_ofNat_of_zero_le h.2.1
    exact refFrom_in N A n c l Ad n' c' dn S w hr hd h.1 (by omega)
  · exact refFrom_not nd A n c l Ad n' c' dn s w hr h
end Go.Proofs.Ytkemcgbedapkcaa

/- waymarkref1.Next. -/
namespace Go.Proofs.Ytkemcgbedapkcaa
open Go.RowKit
set_option maxHeartbeats 6400000
set_option maxRecDepth 100000
/-- Does an edge lead on? -/
def onS (l : List Lnk) (dn : List Bool) (to : List Int) (node : Int) (e : Int) : Bool := !isDn dn (e.toNat / 2) && decide (0 ≤ dAt to (tov l e.toNat)) && (dAt to node - dAt to (tov l e.toNat) == met l e.toNat)
/-- What Next answers. -/
def nextS (nd : Int) (l : List Lnk) (dn : List Bool) (to : List Int) (node : Int) : List Int :=
  if (checkS nd l).2 = 0 ∧ (to.length : Int) = nd ∧ 0 ≤ node ∧ node < nd ∧ 0 < dAt to node then (outS l node (2 * l.length)).filter (onS l dn to node) else []
theorem refNext_not (nd : Int) (A : Option Addr) (n c : Nat) (l : List Lnk) (Ad : Option Addr) (n' c' : Nat) (dn : List Bool) (At : Option Addr) (n2 c2 : Nat) (to : List Int) (s : Int) (w : World) (hr : RLnk w w.heap.size A n l) (ht : RInt w w.heap.size At n2 to)
    (h : ¬((checkS nd l).2 = 0 ∧ (to.length : Int) = nd ∧ 0 ≤ s ∧ s < nd ∧ 0 < dAt to s)) :
    Calls Try.prog 25 #[.agg #[.int .i64 nd, .slice A n c], .slice Ad n' c', .slice At n2 c2, .int .i64 s] w (IntAns (nextS nd l dn to s) w) := by
  have Q : nextS nd l dn to s = [] := by unfold nextS; rw [if_neg h]
  rw [Q]
  have hS := Held.start w nd A n c
  have HK' := hid (fun (w' : World) (h : Held w nd A n c w') => h.calls (refCheck_any nd A n c l w' (h.on hr)))
  have HNd := hid (fun (w' : World) (h : Held w nd A n c w') => h.calls (node_any nd A n c s w'))
  obtain ⟨k1, hk1⟩ : ∃ k1, (checkS nd l).1 = k1 := ⟨_, rfl⟩
  obtain ⟨g0, g1⟩ := hS.cells
  have hlen := ht.1
  by_cases h2 : (checkS nd l).2 = 0
  · rw [hk1, h2] at HK'
    have tE : ((0 : Int) != 0) = false := by decide
    by_cases h3 : (n2 : Int) = nd
    · have t3 : ((n2 : Int) != nd) = false := by simpa using h3
      by_cases h4 : 0 ≤ s ∧ s < nd
      · have hb : (decide (0 ≤ s) && decide (s < nd)) = true := by simp [h4]
        rw [hb] at HNd
        obtain ⟨v, rfl⟩ := Int.eq_ofNat_of_zero_le h4.1
        have hv : v < n2 := by omega
        obtain ⟨bt, ot, rfl, hbt, hct⟩ := ht.2 (by omega)
        have ct := hct v _ (dAt_get (by omega))
        obtain ⟨x, hx⟩ : ∃ x, dAt to (v : Int) = x := ⟨_, rfl⟩
        rw [hx] at ct
        have t5 : decide (x ≤ 0) = true := by rw [← hx]; simp; omega
        have CT := hid (fun (w' : World) (h' : Held w nd A n c w') => (h'.1.cell (p := ⟨bt, ot + v, none⟩) hbt).trans ct)
        clear hr h h2 hk1 hb Q h4 ht hct hx h3 hlen ct
        go_enter Try.func25, Try.ntmps25
        go_wp2_with (first
          | (go_at_call 22; (with_reducible refine (HK'.out _ hS).mono ?_); rintro e' w1 ⟨rfl, h1⟩; obtain ⟨g2, g3⟩ := h1.cells)
          | (go_at_call 23; (with_reducible refine (HNd.out _ h1).mono ?_); rintro e' w2 ⟨rfl, h3⟩; obtain ⟨g4, g5⟩ := h3.cells; have cc := CT.out _ h3))
        go_ret
        exact ⟨_, rfl, World.ownsRow_nil _ _ _ _, h3.1⟩
      · have hb : (decide (0 ≤ s) && decide (s < nd)) = false := by
          rcases (show ¬(0 ≤ s) ∨ ¬(s < nd) by omega) with h5 | h5 <;> simp [h5]
        rw [hb] at HNd
        clear hr h h2 hk1 hb Q h4 ht h3 hlen
        go_enter Try.func25, Try.ntmps25
        go_wp2_with (first
          | (go_at_call 22; (with_reducible refine (HK'.out _ hS).mono ?_); rintro e' w1 ⟨rfl, h1⟩; obtain ⟨g2, g3⟩ := h1.cells)
          | (go_at_call 23; (with_reducible refine (HNd.out _ h1).mono ?_); rintro e' w2 ⟨rfl, h3⟩; obtain ⟨g4, g5⟩ := h3.cells))
        go_ret
        exact ⟨_, rfl, World.ownsRow_nil _ _ _ _, h3.1⟩
    · have t3 : ((n2 : Int) != nd) = true := by simpa using h3
      clear hr h h2 hk1 Q ht h3 hlen
      go_enter Try.func25, Try.ntmps25
      go_wp2_with (first
        | (go_at_call 22; (with_reducible refine (HK'.out _ hS).mono ?_); rintro e' w1 ⟨rfl, h1⟩; obtain ⟨g2, g3⟩ := h1.cells))
      go_ret
      exact ⟨_, rfl, World.ownsRow_nil _ _ _ _, h1.1⟩
  · obtain ⟨k2, hk2⟩ : ∃ k2, (checkS nd l).2 = k2 := ⟨_, rfl⟩
    rw [hk1, hk2] at HK'
    have t1 : (k2 != 0) = true := by rw [← hk2]; simpa using h2
    clear hr h h2 hk1 hk2 Q ht hlen
    go_enter Try.func25, Try.ntmps25
    go_wp2_with (first
      | (go_at_call 22; (with_reducible refine (HK'.out _ hS).mono ?_); rintro e' w1 ⟨rfl, h1⟩; obtain ⟨g2, g3⟩ := h1.cells))
    go_ret
    exact ⟨_, rfl, World.ownsRow_nil _ _ _ _, h1.1⟩
end Go.Proofs.Ytkemcgbedapkcaa

/- waymarkref1.Next: the row. -/
namespace Go.Proofs.Ytkemcgbedapkcaa
open Go.RowKit
set_option maxHeartbeats 6400000
set_option maxRecDepth 100000
theorem take_filter_succ {L : List Int} {k : Nat} {x : Int} (p : Int → Bool) (h : L[k]? = some x) : (L.take (k + 1)).filter p = (L.take k).filter p ++ if p x then [x] else [] := by
  obtain ⟨hk, hx⟩ := List.getElem?_eq_some_iff.1 h
  rw [List.take_succ_eq_append_getElem hk, List.filter_append, hx]
  congr 1
  cases hp : p x <;> simp [hp]
theorem filter_len (L : List Int) (k : Nat) (p : Int → Bool) : ((L.take k).filter p).length ≤ k := by
  refine Nat.le_trans (List.length_filter_le _ _) ?_
  rw [List.length_take]; omega
theorem refNext_in (nd : Nat) (A : Option Addr) (n c : Nat) (l : List Lnk) (Ad : Option Addr) (n' c' : Nat) (dn : List Bool) (At : Option Addr) (c2 : Nat) (to : List Int) (v : Nat) (w : World) (hr : RLnk w w.heap.size A n l) (hd : RBl w w.heap.size Ad n' dn) (ht : RInt w w.heap.size At nd to)
    (h : (checkS (nd : Int) l).2 = 0) (hv : v < nd) (h0 : 0 < dAt to (v : Int)) (hto : ∀ x ∈ to, -1099511627776 ≤ x ∧ x ≤ 1099511627776) :
    Calls Try.prog 25 #[.agg #[.int .i64 (nd : Int), .slice A n c], .slice Ad n' c', .slice At nd c2, .int .i64 (v : Int)] w (IntAns (nextS (nd : Int) l dn to (v : Int)) w) := by
  have hg := gok_of h
  have hlen := ht.1
  have Q : nextS (nd : Int) l dn to (v : Int) = (outS l (v : Int) (2 * l.length)).filter (onS l dn to (v : Int)) := by unfold nextS; rw [if_pos ⟨h, by omega, by omega, by omega, h0⟩]
  rw [Q]
  have hS := Held.start w (nd : Int) A n c
  have HK' := hid (fun (w' : World) (h : Held w (nd : Int) A n c w') => h.calls (refCheck_any (nd : Int) A n c l w' (h.on hr)))
  have HNd := hid (fun (w' : World) (h : Held w (nd : Int) A n c w') => h.calls (node_any (nd : Int) A n c (v : Int) w'))
  obtain ⟨k1, hk1⟩ : ∃ k1, (checkS (nd : Int) l).1 = k1 := ⟨_, rfl⟩
  rw [hk1, h] at HK'
  have hb : (decide (0 ≤ (v : Int)) && decide ((v : Int) < (nd : Int))) = true := by simp; omega
  rw [hb] at HNd
  obtain ⟨g0, g1⟩ := hS.cells
  obtain ⟨i5, hi, hz0, hz1, hz2⟩ := info_parts (show (Try.prog.info? 3).map (fun i => (i.zero, i.size, i.bytes)) = some (some (.int .i64 0), 1, 8) by kernel_rfl)
  have Ai := hid hi; have Az0 := hid hz0; have Az1 := hid hz1; have Az2 := hid hz2
  clear hi hz0 hz1 hz2
  have hn : n ≤ 120 := by rw [← hr.1]; exact hg.1
  have hl := hr.1
  have hnd : nd ≤ 40 := hg.2.2.1
  have HG := hid hg
  have HRL := hid hr
  have HRD := hid hd
  have HE := hid (fun (k : Nat) (hk : k < 240) (w' : World) (h : Held w (nd : Int) A n c w') => refEnds_any (nd : Int) A n c l (k : Int) w' (h.on hr) (by omega) (by omega))
  have HO := hid (fun (w' : World) (h' : Held w (nd : Int) A n c w') => held_out h' (refOut_any (nd : Int) A n c l (v : Int) w' (h'.on hr) (by omega)))
  have HT := hid ht
  have HB := hid hto
  obtain ⟨L, hL⟩ : ∃ L, outS l (v : Int) (2 * l.length) = L := ⟨_, rfl⟩
  obtain ⟨m, hM⟩ : ∃ m, L.length = m := ⟨_, rfl⟩
  have hm : m ≤ 240 := by rw [← hM, ← hL]; exact Nat.le_trans (outS_len _ _ _) (by omega)
  simp only [hL, hM] at HO ⊢
  have HLs := hid hL
  have HM := hid hM
  have Hlen := hid hlen
  obtain ⟨bt, ot, rfl, hbt, hct⟩ := ht.2 (by omega)
  have HCT := hid hct
  have ct := hct v _ (dAt_get (by omega))
  obtain ⟨dv, hdv⟩ : ∃ dv, dAt to (v : Int) = dv := ⟨_, rfl⟩
  have HDV := hid hdv
  have hdv2 := hto _ (List.mem_of_getElem? (dAt_get (d := to) (v := v) (by omega)))
  rw [hdv] at ct h0 hdv2
  have t5 : decide (dv ≤ 0) = false := by simp; omega
  have CT := hid (fun (w' : World) (h' : Held w (nd : Int) A n c w') => (h'.1.cell (p := ⟨bt, ot + v, none⟩) hbt).trans ct)
  have tE : ((0 : Int) != 0) = false := by decide
  have t3 : ((nd : Int) != (nd : Int)) = false := by simp
  clear hr hd h hk1 hb Q hg ht hto hL hM hct ct hdv hlen
  go_enter Try.func25, Try.ntmps25
  go_wp2_with (first
    | (go_at_call 22; (with_reducible refine (HK'.out _ hS).mono ?_); rintro e' w1 ⟨rfl, h1⟩; obtain ⟨g2, g3⟩ := h1.cells)
    | (go_at_call 23; (with_reducible refine (HNd.out _ h1).mono ?_); rintro e' w2 ⟨rfl, h2⟩; obtain ⟨g4, g5⟩ := h2.cells; have cc := CT.out _ h2)
    | (go_at_call 39; (with_reducible refine (HO.out _ h2).mono ?_); rintro e' w5 ⟨A6, c6, rfl, hi5, hb5, h5⟩; have HI5 := hid hi5; clear hi5))
  clear g0 g1 g2 g3 g4 g5
  go_loopw [11, 13] (fun vv i wr => ∃ k : Nat, k ≤ m ∧ i = .int .i64 k ∧ Hid (wr.ownsRow w5.heap.size 3 1 vv ((L.take k).filter (onS l dn to (v : Int))).length (icells ((L.take k).filter (onS l dn to (v : Int))))) ∧ Hid (Below w5.heap.size w5 wr)) (fun _ i _ => m - (intOf i).toNat)
  case atStart => exact ⟨0, Nat.zero_le _, rfl, World.ownsRow_nil _ _ _ _, Below.refl _ _⟩
  case round =>
    obtain ⟨k, hk, rfl, HOw, HBw⟩ := hrel
    have HHw := hid (h5.next HBw.out)
    obtain ⟨x0, x1⟩ := HHw.out.cells
    by_cases hkm : k < m
    · obtain ⟨xx, hx⟩ : ∃ x, L[k]? = some x := ⟨L[k]'(by rw [HM.out]; exact hkm), List.getElem?_eq_getElem _⟩
      have HX := hid hx
      have hx' := hx
      rw [← HLs.out] at hx'
      obtain ⟨e, rfl, he, _, _⟩ := row_next hx'
      rw [hl] at he
      have HF := hid (take_filter_succ (onS l dn to (v : Int)) hx)
      have hfl := filter_len L k (onS l dn to (v : Int))
      have HFl := hid hfl
      obtain ⟨a, b, x, hxl, hE, hf, htv, hmt, ha, hbn, _, hm1, hm2⟩ := edge_facts HG.out (k := e) (by rw [hl]; exact he)
      have hev : onS l dn to (v : Int) (e : Int) = (!isDn dn (e / 2) && decide (0 ≤ dAt to (b : Int)) && (dAt to (v : Int) - dAt to (b : Int) == x.m)) := by
        unfold onS; rw [Int.toNat_natCast, htv, hmt]
      rw [HDV.out] at hev
      have Hev := hid hev
      have HEk := hid (fun (w' : World) (h : Held w (nd : Int) A n c w') => HE.out e (by omega) w' h)
      simp only [hE] at HEk
      clear hf htv hmt hE hx hx' hev hfl
      obtain ⟨q, hq⟩ : ∃ q, e / 2 = q := ⟨_, rfl⟩
      have hqn : q < n := by omega
      have d1 : Int.tdiv (e : Int) 2 = (q : Int) := by rw [← hq]; rfl
      rw [hq] at hxl Hev
      obtain ⟨bL, oL, rfl, hbL, hcL⟩ := HRL.out.2 (by omega)
      have cM := hid (hcL q x hxl).2.2.1
      obtain ⟨mm, hm'⟩ : ∃ mm, x.m = mm := ⟨_, rfl⟩
      rw [hm'] at cM Hev hm1 hm2
      have HD := hid (fun (w' : World) (h : Held w (nd : Int) (some ⟨bL, oL, none⟩) n c w') => isDown_any Ad n' c' dn q w' (HRD.out.on h.1) (by omega))
      have Gb := dAt_get (d := to) (v := b) (by rw [Hlen.out]; exact hbn)
      have hdb := HB.out _ (List.mem_of_getElem? Gb)
      have cB := hid (HCT.out b _ Gb)
      obtain ⟨db, hdb'⟩ : ∃ db, dAt to (b : Int) = db := ⟨_, rfl⟩
      rw [hdb'] at hdb cB Hev
      obtain ⟨hdb1, hdb2⟩ := hdb
      obtain ⟨hdv1, hdv3⟩ := hdv2
      obtain ⟨b6, o6, rfl, hb6, hc6⟩ := HI5.out.2 (by omega)
      have cL := hid (hc6 k _ HX.out)
      have cl0 := (HBw.out.cell (p := ⟨b6, o6 + k, none⟩) hb6).trans cL.out
      have HHd := HHw.out.drew
      clear hxl hcL hc6 hdb' hq hm' Gb
      have HE1 := hid (HEk.out _ HHd)
      have HOd : Hid (wr.drew.ownsRow w5.heap.size 3 1 u11 ((L.take k).filter (onS l dn to (v : Int))).length (icells ((L.take k).filter (onS l dn to (v : Int))))) := HOw.out
      have HBd := hid (HBw.out.drew)
      have HS5 := hid (HBw.out.size)
      have HFa := hid (fun (w7 : World) (hb7 : Below wr.drew.heap.size wr.drew w7) => (⟨HHd.next hb7, HBd.out.trans (hb7.mono HS5.out), own_below HOd.out hb7⟩ : Held w (nd : Int) (some ⟨bL, oL, none⟩) n c w7 ∧ Below w5.heap.size w5 w7 ∧ w7.ownsRow w5.heap.size 3 1 u11 ((L.take k).filter (onS l dn to (v : Int))).length (icells ((L.take k).filter (onS l dn to (v : Int))))))
      clear HEk HHd
      go_wp2_with fail
      go_region_held3 (fun w' => w'.cell? ⟨w.heap.size, 0, none⟩ = some (.int .i64 (nd : Int)) ∧ w'.cell? ⟨w.heap.size, 1, none⟩ = some (.slice (some ⟨bL, oL, none⟩) n c) ∧ w'.cell? ⟨b6, o6 + k, none⟩ = some (.int .i64 (e : Int)))
        (first
          | go_keep
          | exact s7)
        (first
          | (go_at_call 13; (with_reducible refine HE1.out.mono ?_); rintro e' w7 ⟨rfl, hb7⟩; obtain ⟨h7, hb57, ho7⟩ := HFa.out _ hb7; have HO7 := hid ho7; clear ho7; have s7 := And.intro h7.cells.1 (And.intro h7.cells.2 ((hb57.cell (p := ⟨b6, o6 + k, none⟩) hb6).trans cL.out))))
      go_wp2_with fail
      obtain ⟨y0, y1, cl7⟩ := s7
      have cb7 := (h7.1.cell (p := ⟨bt, ot + b, none⟩) hbt).trans cB.out
      have cv7 := CT.out _ h7
      have cm7 := (h7.1.cell (p := ⟨bL, oL + q * 4 + 2, none⟩) hbL).trans cM.out
      clear x0 x1 cl0
      cases hu : isDn dn q with
      | true =>
        rw [hu] at HD
        have HQ : Hid ((L.take (k + 1)).filter (onS l dn to (v : Int)) = (L.take k).filter (onS l dn to (v : Int))) := by
          show _ = _
          rw [HF.out, Hev.out, hu]; simp
        clear hu
        go_wp2_with (go_big_quiet ((go_at_call 24; exact Calls.quiet_of_same ((HD.out _ (h7.drewN _)).mono fun e w' h => ⟨h.1, h.2.symm⟩))))
        go_roundw
        case rel => exact ⟨k + 1, by omega, by go_num, by rw [HQ.out]; exact HO7.out, below_drewN hb57⟩
        case measure => simp [intOf]; omega
      | false =>
        rw [hu] at HD
        by_cases c2 : 0 ≤ db
        · have t2 : decide (0 ≤ db) = true := by simpa using c2
          by_cases c3 : dv - db = mm
          · have t4 : (dv - db == mm) = true := by simpa using c3
            have HQ : Hid ((L.take (k + 1)).filter (onS l dn to (v : Int)) = (L.take k).filter (onS l dn to (v : Int)) ++ [(e : Int)]) := by
              show _ = _
              rw [HF.out, Hev.out, hu, t2, t4]; rfl
            clear hu c3
            go_wp2_with (first
              | (at_builtin; refine wpList_append_own _ rfl (.tmp 100) (.tmp 105) 40 rfl w5.heap.size 3 i5 (.int .i64 0) 1 8 Try.underlying40 Ai.out Az0.out Az1.out Az2.out rfl (by decide) _ _ _ rfl (World.ownsRow.alloc (w := w7.drewN nq) HO7.out _) ⟨w7.heap.size, 0, none⟩ 1 1 (icells [(e : Int)]) rfl rfl (new_row (w := w7.drewN nq) (int_row _)) (icells_one _) (by unfold maxLen; have := HFl.out; omega) (by have := HFl.out; omega) (by have := hb57.size; simp; omega) ?_; intro v8 w8 hown8 hg8 _; have HO8 := hid hown8; have hb8 : Below w5.heap.size w5 w8 := Below.grown ((below_drewN hb57).alloc hb57.size _) hg8 (by have := hb57.size; simp; omega) (fun q hq => (HO7.out.lt q hq).1))
              | go_big_quiet ((go_at_call 24; exact Calls.quiet_of_same ((HD.out _ (h7.drewN _)).mono fun e w' h => ⟨h.1, h.2.symm⟩))))
            go_roundw
            case rel => exact ⟨k + 1, by omega, by go_num, by rw [HQ.out, List.length_append, icells_app]; exact HO8.out, hb8⟩
            case measure => simp [intOf]; omega
          · have t4 : (dv - db == mm) = false := by simpa using c3
            have HQ : Hid ((L.take (k + 1)).filter (onS l dn to (v : Int)) = (L.take k).filter (onS l dn to (v : Int))) := by
              show _ = _
              rw [HF.out, Hev.out, hu, t2, t4]; simp
            clear hu c3
            go_wp2_with (go_big_quiet ((go_at_call 24; exact Calls.quiet_of_same ((HD.out _ (h7.drewN _)).mono fun e w' h => ⟨h.1, h.2.symm⟩))))
            go_roundw
            case rel => exact ⟨k + 1, by omega, by go_num, by rw [HQ.out]; exact HO7.out, below_drewN hb57⟩
            case measure => simp [intOf]; omega
        · have t2 : decide (0 ≤ db) = false := by simpa using c2
          have HQ : Hid ((L.take (k + 1)).filter (onS l dn to (v : Int)) = (L.take k).filter (onS l dn to (v : Int))) := by
            show _ = _
            rw [HF.out, Hev.out, hu, t2]; simp
          clear hu
          go_wp2_with (go_big_quiet ((go_at_call 24; exact Calls.quiet_of_same ((HD.out _ (h7.drewN _)).mono fun e w' h => ⟨h.1, h.2.symm⟩))))
          go_roundw
          case rel => exact ⟨k + 1, by omega, by go_num, by rw [HQ.out]; exact HO7.out, below_drewN hb57⟩
          case measure => simp [intOf]; omega
    · obtain rfl : m = k := by omega
      have HQ : Hid ((L.take m).filter (onS l dn to (v : Int)) = L.filter (onS l dn to (v : Int))) := by
        show _ = _
        rw [List.take_of_length_le (by rw [HM.out]; omega)]
      have hb05 := h5.1
      go_wp2_with fail
      go_ret
      exact ⟨_, rfl, by rw [← HQ.out]; exact own_mono HOw.out hb05.size, hb05.trans (HBw.out.mono hb05.size)⟩
theorem refNext_any (nd : Int) (A : Option Addr) (n c : Nat) (l : List Lnk) (Ad : Option Addr) (n' c' : Nat) (dn : List Bool) (At : Option Addr) (n2 c2 : Nat) (to : List Int) (s : Int) (w : World) (hr : RLnk w w.heap.size A n l) (hd : RBl w w.heap.size Ad n' dn) (ht : RInt w w.heap.size At n2 to)
    (hto : ∀ x ∈ to, -1099511627776 ≤ x ∧ x ≤ 1099511627776) :
    Calls Try.prog 25 #[.agg #[.int .i64 nd, .slice A n c], .slice Ad n' c', .slice At n2 c2, .int .i64 s] w (IntAns (nextS nd l dn to s) w) := by
  by_cases h : (checkS nd l).2 = 0 ∧ (to.length : Int) = nd ∧ 0 ≤ s ∧ s < nd ∧ 0 < dAt to s
  · obtain ⟨N, rfl⟩ := Int.eq_ofNat_of_zero_le (show 0 ≤ nd by omega)
    obtain ⟨S, rfl⟩ := Int.eq_ofNat_of_zero_le h.2.2.1
    have h2 : n2 = N := by rw [← ht.1]; omega
    subst h2
    exact refNext_in n2 A n c l Ad n' c' dn At c2 to S w hr hd ht h.1 (by omega) h.2.2.2.2 hto
  · exact refNext_not nd A n c l Ad n' c' dn At n2 c2 to s w hr ht h
end Go.Proofs.Ytkemcgbedapkcaa

/- What a call gets: a graph, links that are down, a row of numbers. -/
namespace Go.Proofs.Ytkemcgbedapkcaa
open Go.RowKit
/-- A graph, links that are down, a row of numbers as a call gets them. -/
structure GArg (w : World) (nd : Int) (A : Option Addr) (n c : Nat) (l : List Lnk) : Prop where
  row : RLnk w w.heap.size A n l
  len : n ≤ 130
  cap : n ≤ c
  non : A = none → n = 0 ∧ c = 0
  lo : -9223372036854775808 ≤ nd
  hi : nd ≤ 9223372036854775807
structure DArg (w : World) (A : Option Addr) (n c : Nat) (dn : List Bool) : Prop where
  row : RBl w w.heap.size A n dn
  len : n ≤ 200
  cap : n ≤ c
  non : A = none → n = 0 ∧ c = 0
structure TArg (w : World) (A : Option Addr) (n c : Nat) (to : List Int) : Prop where
  row : RInt w w.heap.size A n to
  len : n ≤ 60
  cap : n ≤ c
  non : A = none → n = 0 ∧ c = 0
  small : ∀ x ∈ to, -1099511627776 ≤ x ∧ x ≤ 1099511627776
theorem GArg.on {w w' : World} {nd : Int} {A : Option Addr} {n c : Nat} {l : List Lnk} (h : GArg w nd A n c l) (hb : Below w.heap.size w w') : GArg w' nd A n c l := ⟨h.row.on hb, h.len, h.cap, h.non, h.lo, h.hi⟩
theorem DArg.on {w w' : World} {A : Option Addr} {n c : Nat} {l : List Bool} (h : DArg w A n c l) (hb : Below w.heap.size w w') : DArg w' A n c l := ⟨h.row.on hb, h.len, h.cap, h.non⟩
theorem TArg.on {w w' : World} {A : Option Addr} {n c : Nat} {l : List Int} (h : TArg w A n c l) (hb : Below w.heap.size w w') : TArg w' A n c l := ⟨h.row.on hb, h.len, h.cap, h.non, h.small⟩
theorem DArg.nil (w : World) : DArg w none 0 0 [] := ⟨⟨rfl, fun h => by omega⟩, by omega, by omega, fun _ => ⟨rfl, rfl⟩⟩
end Go.Proofs.Ytkemcgbedapkcaa

/- What a law asks of From, To, Next. -/
namespace Go.Proofs.Ytkemcgbedapkcaa
open Go.RowKit
set_option maxHeartbeats 6400000
set_option maxRecDepth 100000
theorem dist_from {nd : Nat} {l : List Lnk} {dn : List Bool} {s : Nat} (hg : GOk nd l) : ∀ (N : Nat) (d : List Int), PInv nd l dn s d → sumP d ≤ N → ∃ d', PInv nd l dn s d' ∧ DistOk nd l dn s d' := by
  intro N
  induction N with
  | zero =>
    intro d h hN
    by_cases hc : ∀ k, k < 2 * l.length → cloAt l dn d k
    · exact ⟨d, h, h.done hc⟩
    · exfalso
      simp only [Classical.not_forall] at hc
      obtain ⟨k, hk, hc⟩ := hc
      obtain ⟨a, b, x, _, _, hf, ht, hm, ha, hb, hab, hm1, hm2⟩ := edge_facts hg hk
      unfold cloAt at hc
      simp only [Classical.not_imp] at hc
      obtain ⟨hu, h0, hn⟩ := hc
      rw [hf] at h0
      rw [ht, hf, hm] at hn
      have := (h.relax hg hk hu hf ht hm ha hb hab hm1 hm2 h0 (by omega)).2
      omega
  | succ N ih =>
    intro d h hN
    by_cases hc : ∀ k, k < 2 * l.length → cloAt l dn d k
    · exact ⟨d, h, h.done hc⟩
    · simp only [Classical.not_forall] at hc
      obtain ⟨k, hk, hc⟩ := hc
      obtain ⟨a, b, x, _, _, hf, ht, hm, ha, hb, hab, hm1, hm2⟩ := edge_facts hg hk
      unfold cloAt at hc
      simp only [Classical.not_imp] at hc
      obtain ⟨hu, h0, hn⟩ := hc
      rw [hf] at h0
      rw [ht, hf, hm] at hn
      have hr := h.relax hg hk hu hf ht hm ha hb hab hm1 hm2 h0 (by omega)
      exact ih _ hr.1 (by have := hr.2; omega)
theorem dist_ok {nd : Nat} {l : List Lnk} {dn : List Bool} {s : Nat} (hg : GOk nd l) (hs : s < nd) : DistOk nd l dn s (distS nd l dn s) := by
  obtain ⟨d, _, hd⟩ := dist_from (dn := dn) hg _ _ (PInv.start hs) (Nat.le_refl _)
  rw [distS_eq hg hd]
  exact hd
theorem dist_top {nd : Nat} {l : List Lnk} {dn : List Bool} {s : Nat} (hg : GOk nd l) (hs : s < nd) {v : Nat} (hv : v < nd) : dAt (distS nd l dn s) (v : Int) ≤ 654311424 := by
  obtain ⟨d', hp, hd⟩ := dist_from (dn := dn) hg _ _ (PInv.start hs) (Nat.le_refl _)
  rw [distS_eq hg hd]
  exact (hp.bound hg.2.2.1 hv).2
theorem fromS_mem {nd : Int} {l : List Lnk} {dn : List Bool} {s : Int} : ∀ x ∈ fromS nd l dn s, -1 ≤ x ∧ x ≤ 654311424 := by
  intro x hx
  unfold fromS at hx
  split at hx
  · rename_i h
    obtain ⟨N, rfl⟩ := Int.eq_ofNat_of_zero_le (show 0 ≤ nd by omega)
    obtain ⟨S, rfl⟩ := Int.eq_ofNat_of_zero_le h.2.1
    have hg := gok_of h.1
    have hs : S < N := by omega
    rw [Int.toNat_natCast, Int.toNat_natCast] at hx
    obtain ⟨i, hi, rfl⟩ := List.getElem_of_mem hx
    have hok := dist_ok (dn := dn) hg hs
    have hiN : i < N := by rw [← hok.len]; exact hi
    have e : (distS N l dn S)[i] = dAt (distS N l dn S) (i : Int) := by
      have := dAt_get hi
      rw [List.getElem?_eq_getElem hi] at this
      exact Option.some.inj this
    rw [e]
    exact ⟨hok.low i hiN, dist_top hg hs hiN⟩
  · cases hx
def FromSpec (f : Nat) : Prop := ∀ (nd : Int) (A : Option Addr) (n c : Nat) (l : List Lnk) (Ad : Option Addr) (n' c' : Nat) (dn : List Bool) (s : Int) (w : World), GArg w nd A n c l → DArg w Ad n' c' dn → -9223372036854775808 ≤ s → s ≤ 9223372036854775807 →
  Calls Try.prog f #[.agg #[.int .i64 nd, .slice A n c], .slice Ad n' c', .int .i64 s] w (IntAns (fromS nd l dn s) w)
def NextSpec (f : Nat) : Prop := ∀ (nd : Int) (A : Option Addr) (n c : Nat) (l : List Lnk) (Ad : Option Addr) (n' c' : Nat) (dn : List Bool) (At : Option Addr) (n2 c2 : Nat) (to : List Int) (s : Int) (w : World), GArg w nd A n c l → DArg w Ad n' c' dn → TArg w At n2 c2 to → -9223372036854775808 ≤ s → s ≤ 9223372036854775807 →
  Calls Try.prog f #[.agg #[.int .i64 nd, .slice A n c], .slice Ad n' c', .slice At n2 c2, .int .i64 s] w (IntAns (nextS nd l dn to s) w)
theorem refFrom_spec : FromSpec 14 := fun nd A n c l Ad n' c' dn s w hg hd _ _ => refFrom_any nd A n c l Ad n' c' dn s w hg.row hd.row
theorem refNext_spec : NextSpec 25 := fun nd A n c l Ad n' c' dn At n2 c2 to s w hg hd ht _ _ => refNext_any nd A n c l Ad n' c' dn At n2 c2 to s w hg.row hd.row ht.row ht.small
/-- What a call gives that makes a row of numbers: the row, read, and whose it is. -/
theorem ints_out {f : Nat} {args : Array Value} {L : List Int} {w : World} {m : Nat} (hL : L.length = m) (hc : Calls Try.prog f args w (IntAns L w)) :
    Calls Try.prog f args w fun e w' => ∃ A c, e = .returned (.slice A m c) ∧ (RInt w' w'.heap.size A m L ∧ m ≤ c ∧ (A = none → m = 0 ∧ c = 0)) ∧ Below w.heap.size w w' := by
  refine hc.mono ?_
  rintro e' w' ⟨v, rfl, hown, hb⟩
  rw [hL] at hown
  obtain ⟨A, c, rfl, hle, hr⟩ := own_ints hown hL
  refine ⟨A, c, rfl, ⟨hr, hle, fun hA => ?_⟩, hb⟩
  subst hA
  rcases hown.2 with ⟨h1, h2⟩ | ⟨g, cap, cur, h1, _⟩
  · simp only [Value.slice.injEq] at h1; exact ⟨h2, h1.2.2⟩
  · simp at h1
theorem from_one : fromS 1 [] [] 0 = [0] := by
  have hg : GOk 1 [] := ⟨by decide, by decide, by decide, by decide⟩
  have hd : DistOk 1 [] [] 0 [0] := by
    refine ⟨rfl, rfl, fun v hv => ?_, fun k hk => by simp at hk, fun v hv h0 => by omega⟩
    obtain rfl : v = 0 := by omega
    decide
  unfold fromS
  rw [if_pos (by decide)]
  exact distS_eq hg hd
theorem from_two : fromS 2 [⟨0, 1, 7, 0⟩] [] 0 = [0, 7] := by
  have hg : GOk 2 [⟨0, 1, 7, 0⟩] := ⟨by decide, by decide, by decide, by decide⟩
  have hd : DistOk 2 [⟨0, 1, 7, 0⟩] [] 0 [0, 7] := by
    refine ⟨rfl, rfl, fun v hv => ?_, fun k hk => ?_, fun v hv h0 _ => ?_⟩
    · rcases (show v = 0 ∨ v = 1 by omega) with rfl | rfl <;> decide
    · simp at hk
      rcases (show k = 0 ∨ k = 1 by omega) with rfl | rfl <;> decide
    · obtain rfl : v = 1 := by omega
      exact ⟨0, by decide, by decide, by decide, by decide, by decide⟩
  unfold fromS
  rw [if_pos (by decide)]
  exact distS_eq hg hd
end Go.Proofs.Ytkemcgbedapkcaa
