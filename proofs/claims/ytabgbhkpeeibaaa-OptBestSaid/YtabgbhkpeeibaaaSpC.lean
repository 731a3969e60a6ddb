/- waymarkref1.From. -/
import Derived.Test.YtabgbhkpeeibaaaSpB
import Derived.Test.YtabgbhkpeeibaaaRfA
import Derived.Test.YtabgbhkpeeibaaaRfB
namespace Go.Proofs.Ytabgbhkpeeibaaa
open Go.RowKit
set_option maxHeartbeats 6400000
set_option maxRecDepth 100000
/-- What a function answers that makes a row of numbers. -/
def IntAns (L : List Int) (w : World) (e : Ending) (w' : World) : Prop :=
  ∃ v, e = .returned v ∧ w'.ownsRow w.heap.size 3 1 v L.length (icells L) ∧ Below w.heap.size w w'
theorem refFrom_not (nd : Int) (A : Option Addr) (n c : Nat) (l : List Lnk) (Ad : Option Addr) (n' c' : Nat) (dn : List Bool) (s : Int) (w : World) (hr : RLnk w w.heap.size A n l) (h : ¬((checkS nd l).2 = 0 ∧ 0 ≤ s ∧ s < nd)) :
    Calls Try.prog 25 #[.agg #[.int .i64 nd, .slice A n c], .slice Ad n' c', .int .i64 s] w (IntAns (fromS nd l dn s) w) := by
  have Q : fromS nd l dn s = [] := by unfold fromS; rw [if_neg h]
  rw [Q]
  have hS := Held.start w nd A n c
  have HK' := hid (fun (w' : World) (h : Held w nd A n c w') => h.calls (refCheck_any nd A n c l w' (h.on hr)))
  have HNd := hid (fun (w' : World) (h : Held w nd A n c w') => h.calls (node_any nd A n c s w'))
  obtain ⟨k1, hk1⟩ : ∃ k1, (checkS nd l).1 = k1 := ⟨_, rfl⟩
  obtain ⟨g0, g1⟩ := hS.cells
  by_cases h2 : (checkS nd l).2 = 0
  · rw [hk1, h2] at HK'
    have tE : ((0 : Int) != 0) = false := by decide
    have hb : (decide (0 ≤ s) && decide (s < nd)) = false := by
      rcases (show ¬(0 ≤ s) ∨ ¬(s < nd) by omega) with h3 | h3 <;> simp [h3]
    rw [hb] at HNd
    clear hr h h2 hk1 hb Q
    go_enter Try.func25, Try.ntmps25
    go_wp2_with (first
      | (go_at_call 24; (with_reducible refine (HK'.out _ hS).mono ?_); rintro e' w1 ⟨rfl, h1⟩; obtain ⟨g2, g3⟩ := h1.cells)
      | (go_at_call 36; (with_reducible refine (HNd.out _ h1).mono ?_); rintro e' w2 ⟨rfl, h3⟩; obtain ⟨g4, g5⟩ := h3.cells))
    go_ret
    exact ⟨_, rfl, World.ownsRow_nil _ _ _ _, h3.1⟩
  · obtain ⟨k2, hk2⟩ : ∃ k2, (checkS nd l).2 = k2 := ⟨_, rfl⟩
    rw [hk1, hk2] at HK'
    have t1 : (k2 != 0) = true := by rw [← hk2]; simpa using h2
    clear hr h h2 hk1 hk2 Q
    go_enter Try.func25, Try.ntmps25
    go_wp2_with (first
      | (go_at_call 24; (with_reducible refine (HK'.out _ hS).mono ?_); rintro e' w1 ⟨rfl, h1⟩; obtain ⟨g2, g3⟩ := h1.cells))
    go_ret
    exact ⟨_, rfl, World.ownsRow_nil _ _ _ _, h1.1⟩
/-- The row while it is filled with -1. -/
def filled (N k : Nat) : List Int := List.replicate k (-1) ++ List.replicate (N - k) 0
theorem filled_zero (N : Nat) : filled N 0 = List.replicate N 0 := by simp [filled]
theorem filled_all (N : Nat) : filled N N = List.replicate N (-1) := by simp [filled]
theorem filled_len {N k : Nat} (h : k ≤ N) : (filled N k).length = N := by simp [filled]; omega
theorem filled_set {N k : Nat} (h : k < N) : (filled N k).set k (-1) = filled N (k + 1) := by
  unfold filled
  rw [List.set_append_right _ _ (by simp)]
  obtain ⟨m, hm⟩ : ∃ m, N - k = m + 1 := ⟨N - k - 1, by omega⟩
  rw [hm, show N - (k + 1) = m by omega, List.replicate_succ (n := m), List.length_replicate, Nat.sub_self, List.set_cons_zero, List.replicate_succ' (n := k), List.append_assoc]
  rfl
def boolN : Value → Nat
  | .bool true => 1
  | _ => 0
/-- What an inner round keeps: if nothing turned, nothing so far was open. -/
def Turned (l : List Lnk) (dn : List Bool) (d d' : List Int) (b : Bool) (k : Nat) : Prop := (b = false → d' = d ∧ ∀ j, j < k → cloAt l dn d j) ∧ (b = true → sumP d' < sumP d)
theorem Turned.no {l : List Lnk} {dn : List Bool} {d d' : List Int} {b : Bool} {k : Nat} (h : Turned l dn d d' b k) (hc : cloAt l dn d' k) : Turned l dn d d' b (k + 1) := by
  refine ⟨fun hb => ?_, h.2⟩
  obtain ⟨h1, h2⟩ := h.1 hb
  refine ⟨h1, fun j hj => ?_⟩
  rcases Nat.lt_succ_iff_lt_or_eq.1 hj with hj | rfl
  · exact h2 j hj
  · rw [← h1]; exact hc
theorem Turned.yes {l : List Lnk} {dn : List Bool} {d d' d'' : List Int} {b : Bool} {k : Nat} (h : Turned l dn d d' b k) (hc : sumP d'' < sumP d') : Turned l dn d d'' true (k + 1) := by
  refine ⟨fun hb => (by cases hb), fun _ => ?_⟩
  cases b with
  | true => exact Nat.lt_trans hc (h.2 rfl)
  | false => rw [(h.1 rfl).1] at hc; exact hc
theorem refFrom_in (nd : Nat) (A : Option Addr) (n c : Nat) (l : List Lnk) (Ad : Option Addr) (n' c' : Nat) (dn : List Bool) (s : Nat) (w : World) (hr : RLnk w w.heap.size A n l) (hd : RBl w w.heap.size Ad n' dn) (h : (checkS (nd : Int) l).2 = 0) (hs : s < nd) :
    Calls Try.prog 25 #[.agg #[.int .i64 (nd : Int), .slice A n c], .slice Ad n' c', .int .i64 (s : Int)] w (IntAns (fromS (nd : Int) l dn (s : Int)) w) := by
  have hg := gok_of h
  have Q : fromS (nd : Int) l dn (s : Int) = distS nd l dn s := by unfold fromS; rw [if_pos ⟨h, by omega, by omega⟩]; rfl
  rw [Q]
  have hS := Held.start w (nd : Int) A n c
  have HK' := hid (fun (w' : World) (h : Held w (nd : Int) A n c w') => h.calls (refCheck_any (nd : Int) A n c l w' (h.on hr)))
  have HNd := hid (fun (w' : World) (h : Held w (nd : Int) A n c w') => h.calls (node_any (nd : Int) A n c (s : Int) w'))
  obtain ⟨k1, hk1⟩ : ∃ k1, (checkS (nd : Int) l).1 = k1 := ⟨_, rfl⟩
  rw [hk1, h] at HK'
  have hb : (decide (0 ≤ (s : Int)) && decide ((s : Int) < (nd : Int))) = true := by simp; omega
  rw [hb] at HNd
  obtain ⟨g0, g1⟩ := hS.cells
  obtain ⟨i5, hi, hz0, hz1, hz2⟩ := info_parts (show (Try.prog.info? 3).map (fun i => (i.zero, i.size, i.bytes)) = some (some (.int .i64 0), 1, 8) by kernel_rfl)
  have Ai := hid hi; have Az0 := hid hz0; have Az1 := hid hz1; have Az2 := hid hz2
  clear hi hz0 hz1 hz2
  have hn : n ≤ 120 := by rw [← hr.1]; exact hg.1
  have hl := hr.1
  have hnd : nd ≤ 40 := hg.2.2.1
  have HG := hid hg
  have HRL := hid hr
  have HRD := hid hd
  have HE := hid (fun (k : Nat) (hk : k < 240) (w' : World) (h : Held w (nd : Int) A n c w') => refEnds_any (nd : Int) A n c l (k : Int) w' (h.on hr) (by omega) (by omega))
  have tE : ((0 : Int) != 0) = false := by decide
  clear hr hd h hk1 hb Q hg
  go_enter Try.func25, Try.ntmps25
  go_wp2_with (first
    | (go_at_call 24; (with_reducible refine (HK'.out _ hS).mono ?_); rintro e' w1 ⟨rfl, h1⟩; obtain ⟨g2, g3⟩ := h1.cells)
    | (go_at_call 36; (with_reducible refine (HNd.out _ h1).mono ?_); rintro e' w2 ⟨rfl, h2⟩; obtain ⟨g4, g5⟩ := h2.cells)
    | (at_make; refine wpList_make_full _ rfl (.tmp 31) (.tmp 31) 25 rfl w2.heap.size 3 i5 (.int .i64 0) 1 Try.underlying25 Ai.out Az0.out Az1.out _ _ _ _ nd rfl rfl rfl rfl (by rw [Az2.out]; omega) (by unfold maxLen; omega) (Nat.le_refl _) ?_; intro w3 hown3 hg3; have HR3 := hid (IRow.made hown3); have h3 := h2.next (grown_below hg3); clear hown3 hg3))
  obtain ⟨G, hG⟩ : ∃ G, w2.heap.size = G := ⟨_, rfl⟩
  have hwG : w.heap.size < G := by rw [← hG]; exact h2.lt
  rw [hG] at HR3
  simp only [hG]
  clear hG g0 g1 g2 g3 g4 g5
  go_loopw [10] (fun i wr => ∃ k : Nat, k ≤ nd ∧ i = .int .i64 k ∧ Hid (IRow wr G (filled nd k)) ∧ Hid (Held w (nd : Int) A n c wr)) (fun i _ => nd - (intOf i).toNat)
  case atStart => exact ⟨0, Nat.zero_le _, rfl, by rw [filled_zero]; exact HR3.out, h3⟩
  case round =>
    obtain ⟨k, hk, rfl, HI, HH⟩ := hrel
    obtain ⟨e0, e1⟩ := HH.out.cells
    by_cases hlt : k < nd
    · have d0 := HI.out.cell (dAt_get (v := k) (by rw [filled_len hk]; exact hlt))
      have f0 := HI.out.frozen k
      go_wp2_with fail
      go_roundw
      case rel => exact ⟨k + 1, by omega, by go_num, by rw [← filled_set hlt]; exact HI.out.set (-1), HH.out.set hwG⟩
      case measure => simp [intOf]; omega
    · obtain rfl : nd = k := by omega
      have d0 := HI.out.cell (dAt_get (v := s) (by rw [filled_len hk]; exact hs))
      have f0 := HI.out.frozen s
      have HI2 : Hid (IRow (wr.setCell ⟨G, s, none⟩ (.int .i64 0)) G ((List.replicate nd (-1)).set s 0)) := by rw [← filled_all]; exact HI.out.set 0
      have HP2 := hid (PInv.start (l := l) (dn := dn) hs)
      have HH2 : Hid (Held w (nd : Int) A n c (wr.setCell ⟨G, s, none⟩ (.int .i64 0))) := HH.out.set hwG
      go_wp2_with fail
      go_loopw [11] (fun more wr => ∃ (b : Bool) (d : List Int), more = .bool b ∧ Hid (IRow wr G d) ∧ Hid (PInv nd l dn s d) ∧ Hid (b = false → ∀ j, j < 2 * l.length → cloAt l dn d j) ∧ Hid (Held w (nd : Int) A n c wr)) (fun more wr => potW wr G + boolN more)
      case atStart => exact ⟨true, _, rfl, HI2.out, HP2.out, fun h => (by cases h), HH2.out⟩
      case round =>
        obtain ⟨bo, d, rfl, HI4, HP4, HC4, HH4⟩ := hrel
        obtain ⟨z0, z1⟩ := HH4.out.cells
        clear e0 e1 d0 f0
        cases bo with
        | false =>
          have HD4 := hid (HP4.out.done (HC4.out rfl))
          go_wp2_with fail
          go_ret
          exact ⟨_, rfl, by rw [distS_eq HG.out HD4.out, HP4.out.len]; exact HI4.out.owned HP4.out.len (by omega) (by unfold maxLen; omega), HH4.out.1⟩
        | true =>
          obtain ⟨M, hM⟩ : ∃ M, potW wr G = M := ⟨_, rfl⟩
          have HM := hid (hM.symm.trans HI4.out.pot)
          have HMp := hid hM
          clear hM
          go_wp2_with fail
          go_loopw [11, 12] (fun more kk wx => ∃ (j : Nat) (bb : Bool) (d' : List Int), j ≤ 2 * n ∧ kk = .int .i64 j ∧ more = .bool bb ∧ Hid (IRow wx G d') ∧ Hid (PInv nd l dn s d') ∧ Hid (Turned l dn d d' bb j) ∧ Hid (Held w (nd : Int) A n c wx)) (fun _ kk _ => 2 * n - (intOf kk).toNat)
          case atStart => exact ⟨0, false, d, Nat.zero_le _, rfl, rfl, HI4.out, HP4.out, ⟨fun _ => ⟨rfl, fun j hj => absurd hj (Nat.not_lt_zero j)⟩, fun h => (by cases h)⟩, HH4.out⟩
          case round =>
            obtain ⟨k, bb, d', hk2, rfl, rfl, HIx, HPx, HTx, HHx⟩ := hrel
            obtain ⟨x0, x1⟩ := HHx.out.cells
            by_cases hkn : k < 2 * n
            · obtain ⟨a, b, x, hx, hE, hf, ht, hm, ha, hb, hab, hm1, hm2⟩ := edge_facts HG.out (k := k) (by rw [hl]; exact hkn)
              have HEk := hid (fun (w' : World) (h : Held w (nd : Int) A n c w') => HE.out k (by omega) w' h)
              simp only [hE] at HEk
              have Hf := hid hf; have Ht := hid ht; have Hm := hid hm
              clear hf ht hm hE
              obtain ⟨q, hq⟩ : ∃ q, k / 2 = q := ⟨_, rfl⟩
              rw [hq] at hx
              have hqn : q < n := by omega
              have d1 : Int.tdiv (k : Int) 2 = (q : Int) := by rw [← hq]; rfl
              obtain ⟨bL, oL, rfl, hbL, hcL⟩ := HRL.out.2 (by omega)
              have cM := hid (hcL q x hx).2.2.1
              have HD := hid (fun (w' : World) (h : Held w (nd : Int) (some ⟨bL, oL, none⟩) n c w') => isDown_any Ad n' c' dn q w' (HRD.out.on h.1) (by omega))
              obtain ⟨m, hm'⟩ : ∃ m, x.m = m := ⟨_, rfl⟩
              rw [hm'] at cM Hm hm1 hm2
              have Hlen := hid HPx.out.len
              have hda := HPx.out.bound hnd ha
              have hdb := HPx.out.bound hnd hb
              have Ga := hid (dAt_get (d := d') (v := a) (by rw [Hlen.out]; exact ha))
              have Gb := hid (dAt_get (d := d') (v := b) (by rw [Hlen.out]; exact hb))
              have Hno := hid (fun h => HTx.out.no (cloAt_no Hf.out Ht.out Hm.out h))
              have Hyes := hid (fun hu h0 hn => HPx.out.relax HG.out (k := k) (by rw [hl]; exact hkn) hu Hf.out Ht.out Hm.out ha hb hab hm1 hm2 h0 hn)
              rw [hq] at Hno Hyes
              obtain ⟨da, hda'⟩ : ∃ da, dAt d' (a : Int) = da := ⟨_, rfl⟩
              obtain ⟨db, hdb'⟩ : ∃ db, dAt d' (b : Int) = db := ⟨_, rfl⟩
              rw [hda'] at Ga Hno Hyes hda
              rw [hdb'] at Gb Hno Hyes hdb
              obtain ⟨hda1, hda2⟩ := hda
              obtain ⟨hdb1, hdb2⟩ := hdb
              have hnda : a < nd := ha
              clear hx hcL hda' hdb' hq hm'
              by_cases c1 : 0 ≤ da
              · have t1 : decide (0 ≤ da) = true := by simpa using c1
                cases hu : isDn dn q with
                | true =>
                  rw [hu] at HD Hno
                  have HQ := hid (Hno.out (.inr (.inl rfl)))
                  clear hu
                  go_wp2_with (first
                    | (go_at_call 22; (with_reducible refine (HEk.out _ HHx.out).mono ?_); rintro e' w5 ⟨rfl, hb5⟩; have h5 := HHx.out.next hb5; have i5 := HIx.out.on hb5; obtain ⟨y0, y1⟩ := h5.cells; have ca := i5.cell Ga.out; have cb := i5.cell Gb.out; have fb := i5.frozen b; have cm := (h5.1.cell (p := ⟨bL, oL + q * 4 + 2, none⟩) hbL).trans cM.out)
                    | (go_at_call 34; (with_reducible refine (HD.out _ (h5.drewN _)).mono ?_); rintro _ _ ⟨rfl, rfl⟩)
                    | go_big_quiet (fail))
                  go_roundw
                  case rel => exact ⟨k + 1, bb, d', by omega, by go_num, rfl, i5.drewN nq, HPx.out, HQ.out, h5.drewN nq⟩
                  case measure => simp [intOf]; omega
                | false =>
                  rw [hu] at HD
                  by_cases c2 : db < 0
                  · have t2 : decide (db < 0) = true := by simpa using c2
                    have HQ := hid (Hyes.out hu c1 (.inl c2))
                    clear hu
                    go_wp2_with (first
                      | (go_at_call 22; (with_reducible refine (HEk.out _ HHx.out).mono ?_); rintro e' w5 ⟨rfl, hb5⟩; have h5 := HHx.out.next hb5; have i5 := HIx.out.on hb5; obtain ⟨y0, y1⟩ := h5.cells; have ca := i5.cell Ga.out; have cb := i5.cell Gb.out; have fb := i5.frozen b; have cm := (h5.1.cell (p := ⟨bL, oL + q * 4 + 2, none⟩) hbL).trans cM.out)
                      | (go_at_call 34; (with_reducible refine (HD.out _ (h5.drewN _)).mono ?_); rintro _ _ ⟨rfl, rfl⟩)
                      | go_big_quiet (fail))
                    go_roundw
                    case rel => exact ⟨k + 1, true, _, by omega, by go_num, rfl, (i5.drewN nq).set _, HQ.out.1, HTx.out.yes HQ.out.2, (h5.drewN nq).set hwG⟩
                    case measure => simp [intOf]; omega
                  · have t2 : decide (db < 0) = false := by simpa using c2
                    by_cases c3 : da + m < db
                    · have t3 : decide (da + m < db) = true := by simpa using c3
                      have HQ := hid (Hyes.out hu c1 (.inr c3))
                      clear hu
                      go_wp2_with (first
                        | (go_at_call 22; (with_reducible refine (HEk.out _ HHx.out).mono ?_); rintro e' w5 ⟨rfl, hb5⟩; have h5 := HHx.out.next hb5; have i5 := HIx.out.on hb5; obtain ⟨y0, y1⟩ := h5.cells; have ca := i5.cell Ga.out; have cb := i5.cell Gb.out; have fb := i5.frozen b; have cm := (h5.1.cell (p := ⟨bL, oL + q * 4 + 2, none⟩) hbL).trans cM.out)
                        | (go_at_call 34; (with_reducible refine (HD.out _ (h5.drewN _)).mono ?_); rintro _ _ ⟨rfl, rfl⟩)
                        | go_big_quiet (fail))
                      go_roundw
                      case rel => exact ⟨k + 1, true, _, by omega, by go_num, rfl, (i5.drewN nq).set _, HQ.out.1, HTx.out.yes HQ.out.2, (h5.drewN nq).set hwG⟩
                      case measure => simp [intOf]; omega
                    · have t3 : decide (da + m < db) = false := by simpa using c3
                      have HQ := hid (Hno.out (.inr (.inr ⟨by omega, by omega⟩)))
                      clear hu
                      go_wp2_with (first
                        | (go_at_call 22; (with_reducible refine (HEk.out _ HHx.out).mono ?_); rintro e' w5 ⟨rfl, hb5⟩; have h5 := HHx.out.next hb5; have i5 := HIx.out.on hb5; obtain ⟨y0, y1⟩ := h5.cells; have ca := i5.cell Ga.out; have cb := i5.cell Gb.out; have fb := i5.frozen b; have cm := (h5.1.cell (p := ⟨bL, oL + q * 4 + 2, none⟩) hbL).trans cM.out)
                        | (go_at_call 34; (with_reducible refine (HD.out _ (h5.drewN _)).mono ?_); rintro _ _ ⟨rfl, rfl⟩)
                        | go_big_quiet (fail))
                      go_roundw
                      case rel => exact ⟨k + 1, bb, d', by omega, by go_num, rfl, i5.drewN nq, HPx.out, HQ.out, h5.drewN nq⟩
                      case measure => simp [intOf]; omega
              · have t1 : decide (0 ≤ da) = false := by simpa using c1
                have HQ := hid (Hno.out (.inl (by omega)))
                go_wp2_with (first
                  | (go_at_call 22; (with_reducible refine (HEk.out _ HHx.out).mono ?_); rintro e' w5 ⟨rfl, hb5⟩; have h5 := HHx.out.next hb5; have i5 := HIx.out.on hb5; obtain ⟨y0, y1⟩ := h5.cells; have ca := i5.cell Ga.out; have cb := i5.cell Gb.out; have fb := i5.frozen b; have cm := (h5.1.cell (p := ⟨bL, oL + q * 4 + 2, none⟩) hbL).trans cM.out)
                  | (go_at_call 34; (with_reducible refine (HD.out _ (h5.drewN _)).mono ?_); rintro _ _ ⟨rfl, rfl⟩)
                  | go_big_quiet (fail))
                go_roundw
                case rel => exact ⟨k + 1, bb, d', by omega, by go_num, rfl, i5.drewN nq, HPx.out, HQ.out, h5.drewN nq⟩
                case measure => simp [intOf]; omega
            · obtain rfl : k = 2 * n := by omega
              have HC5 : Hid (bb = false → ∀ j, j < 2 * l.length → cloAt l dn d' j) := fun h => by
                have := HTx.out.1 h
                rw [this.1, hl]
                exact this.2
              have HM5 : Hid (potW wr G + boolN (.bool bb) < M + boolN (.bool true)) := by
                show _ < _
                rw [HIx.out.pot, HM.out]
                cases bb with
                | true => have := HTx.out.2 rfl; simp only [boolN]; omega
                | false => rw [(HTx.out.1 rfl).1]; simp only [boolN]; omega
              go_wp2_with fail
              go_roundw
              case rel => exact ⟨bb, d', rfl, HIx.out, HPx.out, HC5.out, HHx.out⟩
              case measure => rw [HMp.out]; exact HM5.out
theorem refFrom_any (nd : Int) (A : Option Addr) (n c : Nat) (l : List Lnk) (Ad : Option Addr) (n' c' : Nat) (dn : List Bool) (s : Int) (w : World) (hr : RLnk w w.heap.size A n l) (hd : RBl w w.heap.size Ad n' dn) :
    Calls Try.prog 25 #[.agg #[.int .i64 nd, .slice A n c], .slice Ad n' c', .int .i64 s] w (IntAns (fromS nd l dn s) w) := by
  by_cases h : (checkS nd l).2 = 0 ∧ 0 ≤ s ∧ s < nd
  · obtain ⟨N, rfl⟩ := Int.eq_ofNat_of_zero_le (show 0 ≤ nd by omega)
    obtain ⟨S, rfl⟩ := Int.eq_ofNat_of_zero_le h.2.1
    exact refFrom_in N A n c l Ad n' c' dn S w hr hd h.1 (by omega)
  · exact refFrom_not nd A n c l Ad n' c' dn s w hr h
end Go.Proofs.Ytabgbhkpeeibaaa
