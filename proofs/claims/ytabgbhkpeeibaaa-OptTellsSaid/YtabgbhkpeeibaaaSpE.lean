/- waymarkref1.Next: the row. -/
import Derived.Test.YtabgbhkpeeibaaaSpD
namespace Go.Proofs.Ytabgbhkpeeibaaa
open Go.RowKit
set_option maxHeartbeats 6400000
set_option maxRecDepth 100000
theorem take_filter_succ {L : List Int} {k : Nat} {x : Int} (p : Int → Bool) (h : L[k]? = some x) : (L.take (k + 1)).filter p = (L.take k).filter p ++ if p x then [x] else [] := by
  obtain ⟨hk, hx⟩ := List.getElem?_eq_some_iff.1 h
  rw [List.take_succ_eq_append_getElem hk, List.filter_append, hx]
  congr 1
  cases hp : p x <;> simp [hp]
theorem filter_len (L : List Int) (k : Nat) (p : Int → Bool) : ((L.take k).filter p).length ≤ k := by
  refine Nat.le_trans (List.length_filter_le _ _) ?_
  rw [List.length_take]; omega
theorem refNext_in (nd : Nat) (A : Option Addr) (n c : Nat) (l : List Lnk) (Ad : Option Addr) (n' c' : Nat) (dn : List Bool) (At : Option Addr) (c2 : Nat) (to : List Int) (v : Nat) (w : World) (hr : RLnk w w.heap.size A n l) (hd : RBl w w.heap.size Ad n' dn) (ht : RInt w w.heap.size At nd to)
    (h : (checkS (nd : Int) l).2 = 0) (hv : v < nd) (h0 : 0 < dAt to (v : Int)) (hto : ∀ x ∈ to, -1099511627776 ≤ x ∧ x ≤ 1099511627776) :
    Calls Try.prog 44 #[.agg #[.int .i64 (nd : Int), .slice A n c], .slice Ad n' c', .slice At nd c2, .int .i64 (v : Int)] w (IntAns (nextS (nd : Int) l dn to (v : Int)) w) := by
  have hg := gok_of h
  have hlen := ht.1
  have Q : nextS (nd : Int) l dn to (v : Int) = (outS l (v : Int) (2 * l.length)).filter (onS l dn to (v : Int)) := by unfold nextS; rw [if_pos ⟨h, by omega, by omega, by omega, h0⟩]
  rw [Q]
  have hS := Held.start w (nd : Int) A n c
  have HK' := hid (fun (w' : World) (h : Held w (nd : Int) A n c w') => h.calls (refCheck_any (nd : Int) A n c l w' (h.on hr)))
  have HNd := hid (fun (w' : World) (h : Held w (nd : Int) A n c w') => h.calls (node_any (nd : Int) A n c (v : Int) w'))
  obtain ⟨k1, hk1⟩ : ∃ k1, (checkS (nd : Int) l).1 = k1 := ⟨_, rfl⟩
  rw [hk1, h] at HK'
  have hb : (decide (0 ≤ (v : Int)) && decide ((v : Int) < (nd : Int))) = true := by simp; omega
  rw [hb] at HNd
  obtain ⟨g0, g1⟩ := hS.cells
  obtain ⟨i5, hi, hz0, hz1, hz2⟩ := info_parts (show (Try.prog.info? 3).map (fun i => (i.zero, i.size, i.bytes)) = some (some (.int .i64 0), 1, 8) by kernel_rfl)
  have Ai := hid hi; have Az0 := hid hz0; have Az1 := hid hz1; have Az2 := hid hz2
  clear hi hz0 hz1 hz2
  have hn : n ≤ 120 := by rw [← hr.1]; exact hg.1
  have hl := hr.1
  have hnd : nd ≤ 40 := hg.2.2.1
  have HG := hid hg
  have HRL := hid hr
  have HRD := hid hd
  have HE := hid (fun (k : Nat) (hk : k < 240) (w' : World) (h : Held w (nd : Int) A n c w') => refEnds_any (nd : Int) A n c l (k : Int) w' (h.on hr) (by omega) (by omega))
  have HO := hid (fun (w' : World) (h' : Held w (nd : Int) A n c w') => held_out h' (refOut_any (nd : Int) A n c l (v : Int) w' (h'.on hr) (by omega)))
  have HT := hid ht
  have HB := hid hto
  obtain ⟨L, hL⟩ : ∃ L, outS l (v : Int) (2 * l.length) = L := ⟨_, rfl⟩
  obtain ⟨m, hM⟩ : ∃ m, L.length = m := ⟨_, rfl⟩
  have hm : m ≤ 240 := by rw [← hM, ← hL]; exact Nat.le_trans (outS_len _ _ _) (by omega)
  simp only [hL, hM] at HO ⊢
  have HLs := hid hL
  have HM := hid hM
  have Hlen := hid hlen
  obtain ⟨bt, ot, rfl, hbt, hct⟩ := ht.2 (by omega)
  have HCT := hid hct
  have ct := hct v _ (dAt_get (by omega))
  obtain ⟨dv, hdv⟩ : ∃ dv, dAt to (v : Int) = dv := ⟨_, rfl⟩
  have HDV := hid hdv
  have hdv2 := hto _ (List.mem_of_getElem? (dAt_get (d := to) (v := v) (by omega)))
  rw [hdv] at ct h0 hdv2
  have t5 : decide (dv ≤ 0) = false := by simp; omega
  have CT := hid (fun (w' : World) (h' : Held w (nd : Int) A n c w') => (h'.1.cell (p := ⟨bt, ot + v, none⟩) hbt).trans ct)
  have tE : ((0 : Int) != 0) = false := by decide
  have t3 : ((nd : Int) != (nd : Int)) = false := by simp
  clear hr hd h hk1 hb Q hg ht hto hL hM hct ct hdv hlen
  go_enter Try.func44, Try.ntmps44
  go_wp2_with (first
    | (go_at_call 24; (with_reducible refine (HK'.out _ hS).mono ?_); rintro e' w1 ⟨rfl, h1⟩; obtain ⟨g2, g3⟩ := h1.cells)
    | (go_at_call 36; (with_reducible refine (HNd.out _ h1).mono ?_); rintro e' w2 ⟨rfl, h2⟩; obtain ⟨g4, g5⟩ := h2.cells; have cc := CT.out _ h2)
    | (go_at_call 58; (with_reducible refine (HO.out _ h2).mono ?_); rintro e' w5 ⟨A6, c6, rfl, hi5, hb5, h5⟩; have HI5 := hid hi5; clear hi5))
  clear g0 g1 g2 g3 g4 g5
  go_loopw [11, 13] (fun vv i wr => ∃ k : Nat, k ≤ m ∧ i = .int .i64 k ∧ Hid (wr.ownsRow w5.heap.size 3 1 vv ((L.take k).filter (onS l dn to (v : Int))).length (icells ((L.take k).filter (onS l dn to (v : Int))))) ∧ Hid (Below w5.heap.size w5 wr)) (fun _ i _ => m - (intOf i).toNat)
  case atStart => exact ⟨0, Nat.zero_le _, rfl, World.ownsRow_nil _ _ _ _, Below.refl _ _⟩
  case round =>
    obtain ⟨k, hk, rfl, HOw, HBw⟩ := hrel
    have HHw := hid (h5.next HBw.out)
    obtain ⟨x0, x1⟩ := HHw.out.cells
    by_cases hkm : k < m
    · obtain ⟨xx, hx⟩ : ∃ x, L[k]? = some x := ⟨L[k]'(by rw [HM.out]; exact hkm), List.getElem?_eq_getElem _⟩
      have HX := hid hx
      have hx' := hx
      rw [← HLs.out] at hx'
      obtain ⟨e, rfl, he, _, _⟩ := row_next hx'
      rw [hl] at he
      have HF := hid (take_filter_succ (onS l dn to (v : Int)) hx)
      have hfl := filter_len L k (onS l dn to (v : Int))
      have HFl := hid hfl
      obtain ⟨a, b, x, hxl, hE, hf, htv, hmt, ha, hbn, _, hm1, hm2⟩ := edge_facts HG.out (k := e) (by rw [hl]; exact he)
      have hev : onS l dn to (v : Int) (e : Int) = (!isDn dn (e / 2) && decide (0 ≤ dAt to (b : Int)) && (dAt to (v : Int) - dAt to (b : Int) == x.m)) := by
        unfold onS; rw [Int.toNat_natCast, htv, hmt]
      rw [HDV.out] at hev
      have Hev := hid hev
      have HEk := hid (fun (w' : World) (h : Held w (nd : Int) A n c w') => HE.out e (by omega) w' h)
      simp only [hE] at HEk
      clear hf htv hmt hE hx hx' hev hfl
      obtain ⟨q, hq⟩ : ∃ q, e / 2 = q := ⟨_, rfl⟩
      have hqn : q < n := by omega
      have d1 : Int.tdiv (e : Int) 2 = (q : Int) := by rw [← hq]; rfl
      rw [hq] at hxl Hev
      obtain ⟨bL, oL, rfl, hbL, hcL⟩ := HRL.out.2 (by omega)
      have cM := hid (hcL q x hxl).2.2.1
      obtain ⟨mm, hm'⟩ : ∃ mm, x.m = mm := ⟨_, rfl⟩
      rw [hm'] at cM Hev hm1 hm2
      have HD := hid (fun (w' : World) (h : Held w (nd : Int) (some ⟨bL, oL, none⟩) n c w') => isDown_any Ad n' c' dn q w' (HRD.out.on h.1) (by omega))
      have Gb := dAt_get (d := to) (v := b) (by rw [Hlen.out]; exact hbn)
      have hdb := HB.out _ (List.mem_of_getElem? Gb)
      have cB := hid (HCT.out b _ Gb)
      obtain ⟨db, hdb'⟩ : ∃ db, dAt to (b : Int) = db := ⟨_, rfl⟩
      rw [hdb'] at hdb cB Hev
      obtain ⟨hdb1, hdb2⟩ := hdb
      obtain ⟨hdv1, hdv3⟩ := hdv2
      obtain ⟨b6, o6, rfl, hb6, hc6⟩ := HI5.out.2 (by omega)
      have cL := hid (hc6 k _ HX.out)
      have cl0 := (HBw.out.cell (p := ⟨b6, o6 + k, none⟩) hb6).trans cL.out
      have HHd := HHw.out.drew
      clear hxl hcL hc6 hdb' hq hm' Gb
      have HE1 := hid (HEk.out _ HHd)
      have HOd : Hid (wr.drew.ownsRow w5.heap.size 3 1 u11 ((L.take k).filter (onS l dn to (v : Int))).length (icells ((L.take k).filter (onS l dn to (v : Int))))) := HOw.out
      have HBd := hid (HBw.out.drew)
      have HS5 := hid (HBw.out.size)
      have HFa := hid (fun (w7 : World) (hb7 : Below wr.drew.heap.size wr.drew w7) => (⟨HHd.next hb7, HBd.out.trans (hb7.mono HS5.out), own_below HOd.out hb7⟩ : Held w (nd : Int) (some ⟨bL, oL, none⟩) n c w7 ∧ Below w5.heap.size w5 w7 ∧ w7.ownsRow w5.heap.size 3 1 u11 ((L.take k).filter (onS l dn to (v : Int))).length (icells ((L.take k).filter (onS l dn to (v : Int))))))
      clear HEk HHd
      go_wp2_with fail
      go_region_held3 (fun w' => w'.cell? ⟨w.heap.size, 0, none⟩ = some (.int .i64 (nd : Int)) ∧ w'.cell? ⟨w.heap.size, 1, none⟩ = some (.slice (some ⟨bL, oL, none⟩) n c) ∧ w'.cell? ⟨b6, o6 + k, none⟩ = some (.int .i64 (e : Int)))
        (first
          | go_keep
          | exact s7)
        (first
          | (go_at_call 22; (with_reducible refine HE1.out.mono ?_); rintro e' w7 ⟨rfl, hb7⟩; obtain ⟨h7, hb57, ho7⟩ := HFa.out _ hb7; have HO7 := hid ho7; clear ho7; have s7 := And.intro h7.cells.1 (And.intro h7.cells.2 ((hb57.cell (p := ⟨b6, o6 + k, none⟩) hb6).trans cL.out))))
      go_wp2_with fail
      obtain ⟨y0, y1, cl7⟩ := s7
      have cb7 := (h7.1.cell (p := ⟨bt, ot + b, none⟩) hbt).trans cB.out
      have cv7 := CT.out _ h7
      have cm7 := (h7.1.cell (p := ⟨bL, oL + q * 4 + 2, none⟩) hbL).trans cM.out
      clear x0 x1 cl0
      cases hu : isDn dn q with
      | true =>
        rw [hu] at HD
        have HQ : Hid ((L.take (k + 1)).filter (onS l dn to (v : Int)) = (L.take k).filter (onS l dn to (v : Int))) := by
          show _ = _
          rw [HF.out, Hev.out, hu]; simp
        clear hu
        go_wp2_with (go_big_quiet ((go_at_call 34; exact Calls.quiet_of_same ((HD.out _ (h7.drewN _)).mono fun e w' h => ⟨h.1, h.2.symm⟩))))
        go_roundw
        case rel => exact ⟨k + 1, by omega, by go_num, by rw [HQ.out]; exact HO7.out, below_drewN hb57⟩
        case measure => simp [intOf]; omega
      | false =>
        rw [hu] at HD
        by_cases c2 : 0 ≤ db
        · have t2 : decide (0 ≤ db) = true := by simpa using c2
          by_cases c3 : dv - db = mm
          · have t4 : (dv - db == mm) = true := by simpa using c3
            have HQ : Hid ((L.take (k + 1)).filter (onS l dn to (v : Int)) = (L.take k).filter (onS l dn to (v : Int)) ++ [(e : Int)]) := by
              show _ = _
              rw [HF.out, Hev.out, hu, t2, t4]; rfl
            clear hu c3
            go_wp2_with (first
              | (at_builtin; refine wpList_append_own _ rfl (.tmp 100) (.tmp 105) 25 rfl w5.heap.size 3 i5 (.int .i64 0) 1 8 Try.underlying25 Ai.out Az0.out Az1.out Az2.out rfl (by decide) _ _ _ rfl (World.ownsRow.alloc (w := w7.drewN nq) HO7.out _) ⟨w7.heap.size, 0, none⟩ 1 1 (icells [(e : Int)]) rfl rfl (new_row (w := w7.drewN nq) (int_row _)) (icells_one _) (by unfold maxLen; have := HFl.out; omega) (by have := HFl.out; omega) (by have := hb57.size; simp; omega) ?_; intro v8 w8 hown8 hg8 _; have HO8 := hid hown8; have hb8 : Below w5.heap.size w5 w8 := Below.grown ((below_drewN hb57).alloc hb57.size _) hg8 (by have := hb57.size; simp; omega) (fun q hq => (HO7.out.lt q hq).1))
              | go_big_quiet ((go_at_call 34; exact Calls.quiet_of_same ((HD.out _ (h7.drewN _)).mono fun e w' h => ⟨h.1, h.2.symm⟩))))
            go_roundw
            case rel => exact ⟨k + 1, by omega, by go_num, by rw [HQ.out, List.length_append, icells_app]; exact HO8.out, hb8⟩
            case measure => simp [intOf]; omega
          · have t4 : (dv - db == mm) = false := by simpa using c3
            have HQ : Hid ((L.take (k + 1)).filter (onS l dn to (v : Int)) = (L.take k).filter (onS l dn to (v : Int))) := by
              show _ = _
              rw [HF.out, Hev.out, hu, t2, t4]; simp
            clear hu c3
            go_wp2_with (go_big_quiet ((go_at_call 34; exact Calls.quiet_of_same ((HD.out _ (h7.drewN _)).mono fun e w' h => ⟨h.1, h.2.symm⟩))))
            go_roundw
            case rel => exact ⟨k + 1, by omega, by go_num, by rw [HQ.out]; exact HO7.out, below_drewN hb57⟩
            case measure => simp [intOf]; omega
        · have t2 : decide (0 ≤ db) = false := by simpa using c2
          have HQ : Hid ((L.take (k + 1)).filter (onS l dn to (v : Int)) = (L.take k).filter (onS l dn to (v : Int))) := by
            show _ = _
            rw [HF.out, Hev.out, hu, t2]; simp
          clear hu
          go_wp2_with (go_big_quiet ((go_at_call 34; exact Calls.quiet_of_same ((HD.out _ (h7.drewN _)).mono fun e w' h => ⟨h.1, h.2.symm⟩))))
          go_roundw
          case rel => exact ⟨k + 1, by omega, by go_num, by rw [HQ.out]; exact HO7.out, below_drewN hb57⟩
          case measure => simp [intOf]; omega
    · obtain rfl : m = k := by omega
      have HQ : Hid ((L.take m).filter (onS l dn to (v : Int)) = L.filter (onS l dn to (v : Int))) := by
        show _ = _
        rw [List.take_of_length_le (by rw [HM.out]; omega)]
      have hb05 := h5.1
      go_wp2_with fail
      go_ret
      exact ⟨_, rfl, by rw [← HQ.out]; exact own_mono HOw.out hb05.size, hb05.trans (HBw.out.mono hb05.size)⟩
theorem refNext_any (nd : Int) (A : Option Addr) (n c : Nat) (l : List Lnk) (Ad : Option Addr) (n' c' : Nat) (dn : List Bool) (At : Option Addr) (n2 c2 : Nat) (to : List Int) (s : Int) (w : World) (hr : RLnk w w.heap.size A n l) (hd : RBl w w.heap.size Ad n' dn) (ht : RInt w w.heap.size At n2 to)
    (hto : ∀ x ∈ to, -1099511627776 ≤ x ∧ x ≤ 1099511627776) :
    Calls Try.prog 44 #[.agg #[.int .i64 nd, .slice A n c], .slice Ad n' c', .slice At n2 c2, .int .i64 s] w (IntAns (nextS nd l dn to s) w) := by
  by_cases h : (checkS nd l).2 = 0 ∧ (to.length : Int) = nd ∧ 0 ≤ s ∧ s < nd ∧ 0 < dAt to s
  · obtain ⟨N, rfl⟩ := Int.eq_ofNat_of_zero_le (show 0 ≤ nd by omega)
    obtain ⟨S, rfl⟩ := Int.eq_ofNat_of_zero_le h.2.2.1
    have h2 : n2 = N := by rw [← ht.1]; omega
    subst h2
    exact refNext_in n2 A n c l Ad n' c' dn At c2 to S w hr hd ht h.1 (by omega) h.2.2.2.2 hto
  · exact refNext_not nd A n c l Ad n' c' dn At n2 c2 to s w hr ht h
end Go.Proofs.Ytabgbhkpeeibaaa
