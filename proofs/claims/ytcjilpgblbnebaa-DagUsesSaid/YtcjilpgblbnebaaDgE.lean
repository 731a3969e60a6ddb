/- waymarkref1.Uses. -/
import Derived.Test.YtcjilpgblbnebaaDgD
namespace Go.Proofs.Ytcjilpgblbnebaa
open Go.RowKit
set_option maxHeartbeats 12800000
set_option maxRecDepth 100000
def onU (l : List Lnk) (dn : List Bool) (a b : List Int) (t : Int) (e : Int) : Bool := !isDn dn (e.toNat / 2) && decide (0 ≤ dAt a (frm l e.toNat)) && decide (0 ≤ dAt b (tov l e.toNat)) && (dAt a (frm l e.toNat) + met l e.toNat + dAt b (tov l e.toNat) == dAt a t)
def edgesL (m : Nat) : List Int := (List.range m).map (fun (i : Nat) => (i : Int))
theorem edgesL_get {m k : Nat} (h : k < m) : (edgesL m)[k]? = some (k : Int) := by
  unfold edgesL
  rw [List.getElem?_map, List.getElem?_range h]; rfl
theorem edgesL_len (m : Nat) : (edgesL m).length = m := by unfold edgesL; simp
/-- What Uses tells. -/
noncomputable def usesS (nd : Int) (l : List Lnk) (dn : List Bool) (s t : Int) : List Int := open Classical in
  if (checkS nd l).2 = 0 ∧ 0 ≤ s ∧ s < nd ∧ 0 ≤ t ∧ t < nd ∧ 0 ≤ dAt (distS nd.toNat l dn s.toNat) t then
    (edgesL (2 * l.length)).filter (onU l dn (distS nd.toNat l dn s.toNat) (distS nd.toNat l dn t.toNat) t)
  else []
theorem refUses_in (N : Nat) (A : Option Addr) (n c : Nat) (l : List Lnk) (Ad : Option Addr) (n' c' : Nat) (dn : List Bool) (S T : Nat) (w : World) (hg : GArg w (N : Int) A n c l) (hd : DArg w Ad n' c' dn) (h0 : (checkS (N : Int) l).2 = 0) (hS2 : S < N) (hT : T < N) (hx0 : 0 ≤ dAt (distS N l dn S) (T : Int)) :
    Calls Try.prog 13 #[.agg #[.int .i64 (N : Int), .slice A n c], .slice Ad n' c', .int .i64 (S : Int), .int .i64 (T : Int)] w (IntAns ((edgesL (2 * l.length)).filter (onU l dn (distS N l dn S) (distS N l dn T) (T : Int))) w) := by
  have hok := gok_of h0
  have hN : N ≤ 40 := hok.2.2.1
  have hl := hg.row.1
  have hn : n ≤ 120 := by rw [← hl]; exact hok.1
  have hS := Held.start w (N : Int) A n c
  obtain ⟨g0, g1⟩ := hS.cells
  have HF : ∀ (X : Nat), X < N → Hid (∀ w', Held w (N : Int) A n c w' → Calls Try.prog 16 #[.agg #[.int .i64 (N : Int), .slice A n c], .slice Ad n' c', .int .i64 (X : Int)] w' fun e w'' => ∃ g cap, e = .returned (.slice (some ⟨g, 0, none⟩) N cap) ∧ g < w''.heap.size ∧ (∀ (i : Nat), i < N → w''.cell? ⟨g, i, none⟩ = some (.int .i64 (dAt (distS N l dn X) (i : Int)))) ∧ Held w (N : Int) A n c w'' ∧ Below w'.heap.size w' w'') := by
    intro X hX w' hh
    have hf := refFrom_spec (N : Int) A n c l Ad n' c' dn (X : Int) w' (hg.on hh.1) (hd.on hh.1) (by omega) (by omega)
    have Q : fromS (N : Int) l dn (X : Int) = distS N l dn X := by unfold fromS; rw [if_pos ⟨h0, by omega, by omega⟩, Int.toNat_natCast, Int.toNat_natCast]
    rw [Q] at hf
    refine hf.mono ?_
    rintro e' w'' ⟨v, rfl, hown, hb⟩
    have hdl := (dist_ok (dn := dn) hok hX).len
    rw [hdl] at hown
    obtain ⟨g, cap, rfl, _, hgs, hgc⟩ := own_lo hown (by omega)
    exact ⟨g, cap, rfl, hgs, fun i hi => hgc i _ (dAt_get (by rw [hdl]; exact hi)), hh.next hb, hb⟩
  have HFa := HF S hS2
  have HFb := HF T hT
  have Hra : Hid (∀ v : Nat, v < N → -1 ≤ dAt (distS N l dn S) (v : Int) ∧ dAt (distS N l dn S) (v : Int) ≤ 654311424) := fun v hv => ⟨(dist_ok (dn := dn) hok hS2).low v hv, dist_top hok hS2 hv⟩
  have Hrb : Hid (∀ v : Nat, v < N → -1 ≤ dAt (distS N l dn T) (v : Int) ∧ dAt (distS N l dn T) (v : Int) ≤ 654311424) := fun v hv => ⟨(dist_ok (dn := dn) hok hT).low v hv, dist_top hok hT hv⟩
  obtain ⟨a, ha⟩ : ∃ a, distS N l dn S = a := ⟨_, rfl⟩
  obtain ⟨b, hb⟩ : ∃ b, distS N l dn T = b := ⟨_, rfl⟩
  rw [ha] at HFa Hra hx0
  rw [hb] at HFb Hrb
  rw [ha, hb]
  obtain ⟨x, hx⟩ : ∃ x, dAt a (T : Int) = x := ⟨_, rfl⟩
  rw [hx] at hx0
  have Hx := hid hx
  have t1 : ((N : Int) == 0) = false := by simp; omega
  have t2 : decide (x < 0) = false := by simpa using hx0
  have HE := hid (fun (k : Nat) (hk : k < 240) (w' : World) (h : Held w (N : Int) A n c w') => refEnds_any (N : Int) A n c l (k : Int) w' (hg.row.on h.1) (by omega) (by omega))
  have HDn := hid (fun (q : Nat) (hq : q < 240) (w' : World) (h : Held w (N : Int) A n c w') => isDown_any Ad n' c' dn q w' (hd.row.on h.1) (by omega))
  have Hrow := hid hg.row
  have HOK := hid hok
  obtain ⟨P, hP⟩ : ∃ P, onU l dn a b (T : Int) = P := ⟨_, rfl⟩
  obtain ⟨E, hE⟩ : ∃ E, edgesL (2 * l.length) = E := ⟨_, rfl⟩
  rw [hP, hE]
  have HP := hid hP
  have HEd : Hid (∀ k : Nat, k < 2 * n → E[k]? = some (k : Int)) := fun k hk => by rw [← hE]; exact edgesL_get (by omega)
  have HEl : Hid (E.length = 2 * n) := by show _ = _; rw [← hE, edgesL_len, hl]
  obtain ⟨i5, hi, hz0, hz1, hz2⟩ := info_parts (show (Try.prog.info? 3).map (fun i => (i.zero, i.size, i.bytes)) = some (some (.int .i64 0), 1, 8) by kernel_rfl)
  have Ai := hid hi; have Az0 := hid hz0; have Az1 := hid hz1; have Az2 := hid hz2
  have hw : IntKind.i64.wrap (2 * (n : Int)) = 2 * (n : Int) := by rw [IntKind.wrap_i64]; omega
  clear hi hz0 hz1 hz2 hg hd h0 hok ha hb hx hP hE HF
  go_enter Try.func13, Try.ntmps13
  go_wp2_with (first
    | (go_at_call 16; (with_reducible refine (HFa.out _ hS).mono ?_); rintro e' w1 ⟨ga, ca, rfl, hga, ha1, h1, hb1⟩; have Ha1 := hid ha1; obtain ⟨g2, g3⟩ := h1.cells; clear ha1)
    | (go_at_call 16; (with_reducible refine (HFb.out _ h1).mono ?_); rintro e' w2 ⟨gb, cb, rfl, hgb, hb2', h2, hb2⟩; have Hb2 := hid hb2'; obtain ⟨g4, g5⟩ := h2.cells; have Ha2 := hid (fun (i : Nat) (hi : i < N) => (hb2.cell (p := ⟨ga, i, none⟩) hga).trans (Ha1.out i hi)); have cT := (Ha2.out T hT); rw [Hx.out] at cT; clear hb2'))
  have H2 := hid h2
  clear g0 g1 g2 g3 g4 g5 cT h1
  go_loopw [11, 12] (fun vv i wr => ∃ k : Nat, k ≤ 2 * n ∧ i = .int .i64 k ∧ Hid (wr.ownsRow w2.heap.size 3 1 vv ((E.take k).filter P).length (icells ((E.take k).filter P))) ∧ Hid (Below w2.heap.size w2 wr)) (fun _ i _ => 2 * n - (intOf i).toNat)
  case atStart => exact ⟨0, Nat.zero_le _, rfl, World.ownsRow_nil _ _ _ _, Below.refl _ _⟩
  case round =>
    obtain ⟨k, hk, rfl, HOw, HBw⟩ := hrel
    have HHw := hid (H2.out.next HBw.out)
    obtain ⟨x0, x1⟩ := HHw.out.cells
    by_cases hkm : k < 2 * n
    · have HX := hid (HEd.out k hkm)
      have HFi := hid (take_filter_succ P HX.out)
      have hfl := filter_len E k P
      have HFl := hid hfl
      obtain ⟨fa, tb, xl, hxl, hE, hf, htv, hmt, hfan, htbn, _, hm1, hm2⟩ := edge_facts HOK.out (k := k) (by rw [hl]; exact hkm)
      have hev : P (k : Int) = (!isDn dn (k / 2) && decide (0 ≤ dAt a (fa : Int)) && decide (0 ≤ dAt b (tb : Int)) && (dAt a (fa : Int) + xl.m + dAt b (tb : Int) == x)) := by
        rw [← HP.out]; unfold onU; rw [Int.toNat_natCast, hf, htv, hmt, Hx.out]
      have HEk := hid (HE.out k (by omega))
      rw [hE] at HEk
      obtain ⟨q, hq⟩ : ∃ q, k / 2 = q := ⟨_, rfl⟩
      have hqn : q < n := by omega
      have d1 : Int.tdiv (k : Int) 2 = (q : Int) := by rw [← hq]; rfl
      have hq3 : q ≤ 1000 := by omega
      rw [hq] at hxl hev
      obtain ⟨bL, oL, rfl, hbL, hcL⟩ := Hrow.out.2 (by omega)
      have cM := hid (hcL q xl hxl).2.2.1
      obtain ⟨mm, hm'⟩ : ∃ mm, xl.m = mm := ⟨_, rfl⟩
      rw [hm'] at cM hev hm1 hm2
      have HDk := hid (HDn.out q (by omega))
      obtain ⟨da, hda⟩ : ∃ da, dAt a (fa : Int) = da := ⟨_, rfl⟩
      obtain ⟨db, hdb⟩ : ∃ db, dAt b (tb : Int) = db := ⟨_, rfl⟩
      have ca := hid (Ha2.out fa hfan)
      have cb := hid (Hb2.out tb htbn)
      have ct := hid (Ha2.out T hT)
      rw [Hx.out] at ct
      have hra := Hra.out fa hfan
      have hrb := Hrb.out tb htbn
      rw [hda] at ca hev hra
      rw [hdb] at cb hev hrb
      obtain ⟨hra1, hra2⟩ := hra
      obtain ⟨hrb1, hrb2⟩ := hrb
      have Hev := hid hev
      have hw5 : IntKind.i64.wrap (da + mm) = da + mm := by rw [IntKind.wrap_i64]; omega
      have hw6 : IntKind.i64.wrap (da + mm + db) = da + mm + db := by rw [IntKind.wrap_i64]; omega
      have HAll : Hid (∀ w', Below wr.heap.size wr w' → (Held w (N : Int) (some ⟨bL, oL, none⟩) n c w' ∧ Below w2.heap.size w2 w' ∧ w'.ownsRow w2.heap.size 3 1 u11 ((E.take k).filter P).length (icells ((E.take k).filter P))) ∧ w'.cell? ⟨w.heap.size, 0, none⟩ = some (.int .i64 (N : Int)) ∧ w'.cell? ⟨w.heap.size, 1, none⟩ = some (.slice (some ⟨bL, oL, none⟩) n c) ∧ w'.cell? ⟨ga, fa, none⟩ = some (.int .i64 da) ∧ w'.cell? ⟨gb, tb, none⟩ = some (.int .i64 db) ∧ w'.cell? ⟨ga, T, none⟩ = some (.int .i64 x) ∧ w'.cell? ⟨bL, oL + q * 4 + 2, none⟩ = some (.int .i64 mm)) := by
        intro w' hb'
        have h5' := HHw.out.next hb'
        have hb5' : Below w2.heap.size w2 w' := HBw.out.trans (hb'.mono HBw.out.size)
        exact ⟨⟨h5', hb5', own_below HOw.out hb'⟩, h5'.cells.1, h5'.cells.2, (hb5'.cell (p := ⟨ga, fa, none⟩) (Nat.lt_of_lt_of_le hga hb2.size)).trans ca.out, (hb5'.cell (p := ⟨gb, tb, none⟩) hgb).trans cb.out, (hb5'.cell (p := ⟨ga, T, none⟩) (Nat.lt_of_lt_of_le hga hb2.size)).trans ct.out, (h5'.1.cell (p := ⟨bL, oL + q * 4 + 2, none⟩) hbL).trans cM.out⟩
      have hev0 := hev
      clear hf htv hmt hE hxl hcL hda hdb hm' hev hfl hq
      cases hu : isDn dn q with
      | true =>
        rw [hu] at HDk
        have HQ : Hid ((E.take (k + 1)).filter P = (E.take k).filter P) := by
          show _ = _
          rw [HFi.out, Hev.out, hu]; simp
        clear hev0
        go_wp2_with (first
          | (go_at_call 17; (with_reducible refine (HEk.out _ HHw.out).mono ?_); rintro e' w7 ⟨rfl, hb7⟩; obtain ⟨⟨h7, hb27, ho7⟩, z0, z1, z2, z3, z4, z5⟩ := HAll.out _ hb7; have HO7 := hid ho7; clear ho7)
          | go_big_quiet ((go_at_call 18; exact Calls.quiet_of_same ((HDk.out _ (h7.drewN _)).mono fun e w' h => ⟨h.1, h.2.symm⟩))))
        go_roundw
        case rel => exact ⟨k + 1, by omega, by go_num, by rw [HQ.out]; exact HO7.out, below_drewN hb27⟩
        case measure => simp [intOf]; omega
      | false =>
        rw [hu] at HDk
        by_cases ca0 : 0 ≤ da
        · have t3 : decide (0 ≤ da) = true := by simpa using ca0
          by_cases cb0 : 0 ≤ db
          · have t4 : decide (0 ≤ db) = true := by simpa using cb0
            by_cases cs : da + mm + db = x
            · have t5 : (da + mm + db == x) = true := by simpa using cs
              have HQ : Hid ((E.take (k + 1)).filter P = (E.take k).filter P ++ [(k : Int)]) := by
                show _ = _
                rw [HFi.out, Hev.out, hu, t3, t4, t5]; rfl
              clear hev0 cs hu
              go_wp2_with (first
                | (go_at_call 17; (with_reducible refine (HEk.out _ HHw.out).mono ?_); rintro e' w7 ⟨rfl, hb7⟩; obtain ⟨⟨h7, hb27, ho7⟩, z0, z1, z2, z3, z4, z5⟩ := HAll.out _ hb7; have HO7 := hid ho7; clear ho7)
                | (at_builtin; refine wpList_append_own _ rfl (.tmp 97) (.tmp 99) 33 rfl w2.heap.size 3 i5 (.int .i64 0) 1 8 Try.underlying33 Ai.out Az0.out Az1.out Az2.out rfl (by decide) _ _ _ rfl (World.ownsRow.alloc (w := w7.drewN nq) HO7.out _) ⟨w7.heap.size, 0, none⟩ 1 1 (icells [(k : Int)]) rfl rfl (new_row (w := w7.drewN nq) (int_row _)) (icells_one _) (by unfold maxLen; have := HFl.out; omega) (by have := HFl.out; omega) (by have := hb27.size; simp; omega) ?_; intro v8 w8 hown8 hg8 _; have HO8 := hid hown8; have hb8 : Below w2.heap.size w2 w8 := Below.grown ((below_drewN hb27).alloc hb27.size _) hg8 (by have := hb27.size; simp; omega) (fun q hq => (HO7.out.lt q hq).1))
                | go_big_quiet ((go_at_call 18; exact Calls.quiet_of_same ((HDk.out _ (h7.drewN _)).mono fun e w' h => ⟨h.1, h.2.symm⟩))))
              go_roundw
              case rel => exact ⟨k + 1, by omega, by go_num, by rw [HQ.out, List.length_append, icells_app]; exact HO8.out, hb8⟩
              case measure => simp [intOf]; omega
            · have t5 : (da + mm + db == x) = false := by simpa using cs
              have HQ : Hid ((E.take (k + 1)).filter P = (E.take k).filter P) := by
                show _ = _
                rw [HFi.out, Hev.out, hu, t3, t4, t5]; simp
              clear hev0
              go_wp2_with (first
                | (go_at_call 17; (with_reducible refine (HEk.out _ HHw.out).mono ?_); rintro e' w7 ⟨rfl, hb7⟩; obtain ⟨⟨h7, hb27, ho7⟩, z0, z1, z2, z3, z4, z5⟩ := HAll.out _ hb7; have HO7 := hid ho7; clear ho7)
                | go_big_quiet ((go_at_call 18; exact Calls.quiet_of_same ((HDk.out _ (h7.drewN _)).mono fun e w' h => ⟨h.1, h.2.symm⟩))))
              go_roundw
              case rel => exact ⟨k + 1, by omega, by go_num, by rw [HQ.out]; exact HO7.out, below_drewN hb27⟩
              case measure => simp [intOf]; omega
          · have t4 : decide (0 ≤ db) = false := by simpa using cb0
            have HQ : Hid ((E.take (k + 1)).filter P = (E.take k).filter P) := by
              show _ = _
              rw [HFi.out, Hev.out, hu, t3, t4]; simp
            clear hev0
            go_wp2_with (first
              | (go_at_call 17; (with_reducible refine (HEk.out _ HHw.out).mono ?_); rintro e' w7 ⟨rfl, hb7⟩; obtain ⟨⟨h7, hb27, ho7⟩, z0, z1, z2, z3, z4, z5⟩ := HAll.out _ hb7; have HO7 := hid ho7; clear ho7)
              | go_big_quiet ((go_at_call 18; exact Calls.quiet_of_same ((HDk.out _ (h7.drewN _)).mono fun e w' h => ⟨h.1, h.2.symm⟩))))
            go_roundw
            case rel => exact ⟨k + 1, by omega, by go_num, by rw [HQ.out]; exact HO7.out, below_drewN hb27⟩
            case measure => simp [intOf]; omega
        · have t3 : decide (0 ≤ da) = false := by simpa using ca0
          have HQ : Hid ((E.take (k + 1)).filter P = (E.take k).filter P) := by
            show _ = _
            rw [HFi.out, Hev.out, hu, t3]; simp
          clear hev0
          go_wp2_with (first
            | (go_at_call 17; (with_reducible refine (HEk.out _ HHw.out).mono ?_); rintro e' w7 ⟨rfl, hb7⟩; obtain ⟨⟨h7, hb27, ho7⟩, z0, z1, z2, z3, z4, z5⟩ := HAll.out _ hb7; have HO7 := hid ho7; clear ho7)
            | go_big_quiet ((go_at_call 18; exact Calls.quiet_of_same ((HDk.out _ (h7.drewN _)).mono fun e w' h => ⟨h.1, h.2.symm⟩))))
          go_roundw
          case rel => exact ⟨k + 1, by omega, by go_num, by rw [HQ.out]; exact HO7.out, below_drewN hb27⟩
          case measure => simp [intOf]; omega
    · obtain rfl : k = 2 * n := by omega
      have HQ : Hid ((E.take (2 * n)).filter P = E.filter P) := by
        show _ = _
        rw [List.take_of_length_le (by rw [HEl.out]; omega)]
      have hb05 := H2.out.1
      go_wp2_with fail
      go_ret
      exact ⟨_, rfl, by rw [← HQ.out]; exact own_mono HOw.out hb05.size, hb05.trans (HBw.out.mono hb05.size)⟩
theorem refUses_no (nd : Int) (A : Option Addr) (n c : Nat) (l : List Lnk) (Ad : Option Addr) (n' c' : Nat) (dn : List Bool) (s t : Int) (w : World) (hg : GArg w nd A n c l) (hd : DArg w Ad n' c' dn) (hs : -9223372036854775808 ≤ s ∧ s ≤ 9223372036854775807) (ht : -9223372036854775808 ≤ t ∧ t ≤ 9223372036854775807)
    (h : ¬((checkS nd l).2 = 0 ∧ 0 ≤ s ∧ s < nd ∧ 0 ≤ t ∧ t < nd ∧ 0 ≤ dAt (distS nd.toNat l dn s.toNat) t)) :
    Calls Try.prog 13 #[.agg #[.int .i64 nd, .slice A n c], .slice Ad n' c', .int .i64 s, .int .i64 t] w (IntAns [] w) := by
  have hS := Held.start w nd A n c
  obtain ⟨g0, g1⟩ := hS.cells
  have HFs := hid (fun (w' : World) (h : Held w nd A n c w') => refFrom_spec nd A n c l Ad n' c' dn s w' (hg.on h.1) (hd.on h.1) hs.1 hs.2)
  have HFt := hid (fun (w' : World) (h : Held w nd A n c w') => refFrom_spec nd A n c l Ad n' c' dn t w' (hg.on h.1) (hd.on h.1) ht.1 ht.2)
  by_cases h1 : (checkS nd l).2 = 0 ∧ 0 ≤ s ∧ s < nd
  · obtain ⟨N, rfl⟩ := Int.eq_ofNat_of_zero_le (show 0 ≤ nd by omega)
    obtain ⟨S, rfl⟩ := Int.eq_ofNat_of_zero_le h1.2.1
    have hok := gok_of h1.1
    have hS2 : S < N := by omega
    have Q : fromS (N : Int) l dn (S : Int) = distS N l dn S := by unfold fromS; rw [if_pos h1, Int.toNat_natCast, Int.toNat_natCast]
    have hdl := (dist_ok (dn := dn) hok hS2).len
    rw [Int.toNat_natCast, Int.toNat_natCast] at h
    simp only [Q] at HFs
    have t1 : ((N : Int) == 0) = false := by simp; omega
    by_cases h2 : 0 ≤ t ∧ t < (N : Int)
    · obtain ⟨T, rfl⟩ := Int.eq_ofNat_of_zero_le h2.1
      have hT2 : T < N := by omega
      have Q2 : fromS (N : Int) l dn (T : Int) = distS N l dn T := by unfold fromS; rw [if_pos ⟨h1.1, h2.1, h2.2⟩, Int.toNat_natCast, Int.toNat_natCast]
      have hdl2 := (dist_ok (dn := dn) hok hT2).len
      simp only [Q2] at HFt
      obtain ⟨x, hx⟩ : ∃ x, dAt (distS N l dn S) (T : Int) = x := ⟨_, rfl⟩
      have hxn : x < 0 := by rw [← hx]; exact Int.not_le.1 (fun h3 => h ⟨h1.1, h1.2.1, h1.2.2, h2.1, h2.2, h3⟩)
      have t2 : decide (x < 0) = true := by simpa using hxn
      have hgt := hx ▸ dAt_get (d := distS N l dn S) (v := T) (by rw [hdl]; exact hT2)
      obtain ⟨D, hD⟩ : ∃ D, distS N l dn S = D := ⟨_, rfl⟩
      obtain ⟨D2, hD2⟩ : ∃ D2, distS N l dn T = D2 := ⟨_, rfl⟩
      simp only [hD] at HFs
      simp only [hD2] at HFt
      rw [hD] at hgt hdl
      rw [hD2] at hdl2
      have Hgt := hid hgt
      have Hdl := hid hdl
      have Hdl2 := hid hdl2
      clear hg hd h h1 hok Q Q2 hx hxn hgt hD hD2 hdl hdl2
      go_enter Try.func13, Try.ntmps13
      go_wp2_with (first
        | (go_at_call 16; (with_reducible refine (HFs.out _ hS).mono ?_); rintro e' w1 ⟨v1, rfl, hown1, hb1⟩; rw [Hdl.out] at hown1; obtain ⟨g, cap, rfl, _, hgs, hgc⟩ := own_lo hown1 (by omega); have h1 := hS.next hb1; obtain ⟨g2, g3⟩ := h1.cells; have hcs := hid (hgc T _ Hgt.out); clear hgc hown1)
        | (go_at_call 16; (with_reducible refine (HFt.out _ h1).mono ?_); rintro e' w2 ⟨v2, rfl, hown2, hb2⟩; rw [Hdl2.out] at hown2; obtain ⟨A2, c2, rfl⟩ := own_form hown2; have h2 := h1.next hb2; obtain ⟨g4, g5⟩ := h2.cells; have cS := (hb2.cell (p := ⟨g, T, none⟩) hgs).trans hcs.out; clear hown2))
      go_ret
      exact ⟨_, rfl, World.ownsRow_nil _ _ _ _, h2.1⟩
    · have Q2 : fromS (N : Int) l dn t = [] := by unfold fromS; rw [if_neg (fun h3 => h2 h3.2)]
      simp only [Q2] at HFt
      obtain ⟨D, hD⟩ : ∃ D, distS N l dn S = D := ⟨_, rfl⟩
      simp only [hD] at HFs
      rw [hD] at hdl
      have Hdl := hid hdl
      clear hg hd h h1 hok Q Q2 hD hdl
      go_enter Try.func13, Try.ntmps13
      go_wp2_with (first
        | (go_at_call 16; (with_reducible refine (HFs.out _ hS).mono ?_); rintro e' w1 ⟨v1, rfl, hown1, hb1⟩; rw [Hdl.out] at hown1; obtain ⟨A1, c1, rfl⟩ := own_form hown1; have h1 := hS.next hb1; obtain ⟨g2, g3⟩ := h1.cells; clear hown1)
        | (go_at_call 16; (with_reducible refine (HFt.out _ h1).mono ?_); rintro e' w2 ⟨v2, rfl, hown2, hb2⟩; obtain ⟨A2, c2, rfl⟩ := own_form hown2; have h2 := h1.next hb2; clear hown2))
      go_ret
      exact ⟨_, rfl, World.ownsRow_nil _ _ _ _, h2.1⟩
  · have Q : fromS nd l dn s = [] := by unfold fromS; rw [if_neg h1]
    simp only [Q] at HFs
    obtain ⟨D2, hD2⟩ : ∃ D2, fromS nd l dn t = D2 := ⟨_, rfl⟩
    simp only [hD2] at HFt
    clear hg hd h h1 Q hD2
    go_enter Try.func13, Try.ntmps13
    go_wp2_with (first
      | (go_at_call 16; (with_reducible refine (HFs.out _ hS).mono ?_); rintro e' w1 ⟨v1, rfl, hown1, hb1⟩; obtain ⟨A1, c1, rfl⟩ := own_form hown1; have h1 := hS.next hb1; obtain ⟨g2, g3⟩ := h1.cells; clear hown1)
      | (go_at_call 16; (with_reducible refine (HFt.out _ h1).mono ?_); rintro e' w2 ⟨v2, rfl, hown2, hb2⟩; obtain ⟨A2, c2, rfl⟩ := own_form hown2; have h2 := h1.next hb2; clear hown2))
    go_ret
    exact ⟨_, rfl, World.ownsRow_nil _ _ _ _, h2.1⟩
theorem refUses_any (nd : Int) (A : Option Addr) (n c : Nat) (l : List Lnk) (Ad : Option Addr) (n' c' : Nat) (dn : List Bool) (s t : Int) (w : World) (hg : GArg w nd A n c l) (hd : DArg w Ad n' c' dn) (hs : -9223372036854775808 ≤ s ∧ s ≤ 9223372036854775807) (ht : -9223372036854775808 ≤ t ∧ t ≤ 9223372036854775807) :
    Calls Try.prog 13 #[.agg #[.int .i64 nd, .slice A n c], .slice Ad n' c', .int .i64 s, .int .i64 t] w (IntAns (usesS nd l dn s t) w) := by
  by_cases h : (checkS nd l).2 = 0 ∧ 0 ≤ s ∧ s < nd ∧ 0 ≤ t ∧ t < nd ∧ 0 ≤ dAt (distS nd.toNat l dn s.toNat) t
  · have Q : usesS nd l dn s t = _ := if_pos h
    rw [Q]
    obtain ⟨N, rfl⟩ := Int.eq_ofNat_of_zero_le (show 0 ≤ nd by omega)
    obtain ⟨S, rfl⟩ := Int.eq_ofNat_of_zero_le h.2.1
    obtain ⟨T, rfl⟩ := Int.eq_ofNat_of_zero_le h.2.2.2.1
    simp only [Int.toNat_natCast] at h ⊢
    exact refUses_in N A n c l Ad n' c' dn S T w hg hd h.1 (by omega) (by omega) h.2.2.2.2.2
  · have Q : usesS nd l dn s t = _ := if_neg h
    rw [Q]
    exact refUses_no nd A n c l Ad n' c' dn s t w hg hd hs ht h
end Go.Proofs.Ytcjilpgblbnebaa
