/- spf.Next. -/
import Derived.Test.YtabgbhkpeeibaaaDjE
namespace Go.Proofs.Ytabgbhkpeeibaaa
open Go.RowKit
set_option maxHeartbeats 6400000
set_option maxRecDepth 100000
/-- What the program asks of an edge. -/
def onP (l : List Lnk) (dn : List Bool) (to : List Int) (node : Int) (e : Int) : Bool := !isDn dn (e.toNat / 2) && isNextS (dAt to node) (dAt to (tov l e.toNat)) (met l e.toNat)
theorem onP_onS {l : List Lnk} {dn : List Bool} {to : List Int} {node : Int} (h : 0 < dAt to node) : onP l dn to node = onS l dn to node := by
  funext e
  unfold onP onS isNextS
  rw [Bool.and_assoc]
  congr 1
  rw [Bool.eq_iff_iff]
  simp only [decide_eq_true_eq, Bool.and_eq_true, beq_iff_eq]
  exact ⟨fun h1 => ⟨h1.2.1, h1.2.2⟩, fun h1 => ⟨h, h1.1, h1.2⟩⟩
theorem next_eq {nd : Int} {l : List Lnk} {dn : List Bool} {to : List Int} {v : Int} (h1 : (checkS nd l).2 = 0) (h2 : (to.length : Int) = nd) (h3 : 0 ≤ v) (h4 : v < nd) : nextS nd l dn to v = (outS l v (2 * l.length)).filter (onP l dn to v) := by
  by_cases h : 0 < dAt to v
  · unfold nextS
    rw [if_pos ⟨h1, h2, h3, h4, h⟩, onP_onS h]
  · unfold nextS
    rw [if_neg (fun hh => h hh.2.2.2.2)]
    symm
    rw [List.filter_eq_nil_iff]
    intro e _ he
    unfold onP isNextS at he
    simp only [Bool.and_eq_true, decide_eq_true_eq] at he
    exact h he.2.1
theorem next_no (nd : Int) (A : Option Addr) (n c : Nat) (l : List Lnk) (Ad : Option Addr) (n' c' : Nat) (dn : List Bool) (At : Option Addr) (n2 c2 : Nat) (to : List Int) (s : Int) (w : World) (hr : RLnk w w.heap.size A n l) (ht : RInt w w.heap.size At n2 to)
    (h : ¬((checkS nd l).2 = 0 ∧ 0 ≤ s ∧ s < nd ∧ (n2 : Int) = nd)) :
    Calls Try.prog 42 #[.agg #[.int .i64 nd, .slice A n c], .slice Ad n' c', .slice At n2 c2, .int .i64 s] w (IntAns (nextS nd l dn to s) w) := by
  have Q : nextS nd l dn to s = [] := by unfold nextS; rw [if_neg (fun hh => h ⟨hh.1, hh.2.2.1, hh.2.2.2.1, by rw [← ht.1]; exact hh.2.1⟩)]
  rw [Q]
  have hS := Held.start w nd A n c
  have HK := hid (fun (w' : World) (h : Held w nd A n c w') => h.calls (hasNode_any nd A n c l s w' (h.on hr)))
  obtain ⟨g0, g1⟩ := hS.cells
  by_cases h2 : (checkS nd l).2 = 0 ∧ 0 ≤ s ∧ s < nd
  · have hb : hasNodeS nd l s = true := by unfold hasNodeS; rw [decide_eq_true_iff]; exact h2
    rw [hb] at HK
    have t3 : ((n2 : Int) != nd) = true := by simp; exact fun e => h ⟨h2.1, h2.2.1, h2.2.2, e⟩
    clear hr ht h h2 hb Q
    go_enter Try.func42, Try.ntmps42
    go_wp2_with (go_at_call 52; (with_reducible refine (HK.out _ hS).mono ?_); rintro e' w1 ⟨rfl, h1⟩; obtain ⟨g2, g3⟩ := h1.cells)
    go_ret
    exact ⟨_, rfl, World.ownsRow_nil _ _ _ _, h1.1⟩
  · have hb : hasNodeS nd l s = false := by unfold hasNodeS; rw [decide_eq_false_iff_not]; exact h2
    rw [hb] at HK
    clear hr ht h h2 hb Q
    go_enter Try.func42, Try.ntmps42
    go_wp2_with (go_at_call 52; (with_reducible refine (HK.out _ hS).mono ?_); rintro e' w1 ⟨rfl, h1⟩; obtain ⟨g2, g3⟩ := h1.cells)
    go_ret
    exact ⟨_, rfl, World.ownsRow_nil _ _ _ _, h1.1⟩
theorem next_in (nd : Nat) (A : Option Addr) (n c : Nat) (l : List Lnk) (Ad : Option Addr) (n' c' : Nat) (dn : List Bool) (At : Option Addr) (c2 : Nat) (to : List Int) (v : Nat) (w : World) (hr : RLnk w w.heap.size A n l) (hd : RBl w w.heap.size Ad n' dn) (ht : RInt w w.heap.size At nd to)
    (h : (checkS (nd : Int) l).2 = 0) (hv : v < nd) (hto : ∀ x ∈ to, -1099511627776 ≤ x ∧ x ≤ 1099511627776) :
    Calls Try.prog 42 #[.agg #[.int .i64 (nd : Int), .slice A n c], .slice Ad n' c', .slice At nd c2, .int .i64 (v : Int)] w (IntAns (nextS (nd : Int) l dn to (v : Int)) w) := by
  have hg := gok_of h
  have hlen := ht.1
  have Q := next_eq (dn := dn) (to := to) (v := (v : Int)) h (by omega) (by omega) (by omega)
  rw [Q]
  have hS := Held.start w (nd : Int) A n c
  have HK := hid (fun (w' : World) (h : Held w (nd : Int) A n c w') => h.calls (hasNode_any (nd : Int) A n c l (v : Int) w' (h.on hr)))
  have hb : hasNodeS (nd : Int) l (v : Int) = true := by unfold hasNodeS; rw [decide_eq_true_iff]; exact ⟨h, by omega, by omega⟩
  rw [hb] at HK
  obtain ⟨g0, g1⟩ := hS.cells
  obtain ⟨i5, hi, hz0, hz1, hz2⟩ := info_parts (show (Try.prog.info? 3).map (fun i => (i.zero, i.size, i.bytes)) = some (some (.int .i64 0), 1, 8) by kernel_rfl)
  have Ai := hid hi; have Az0 := hid hz0; have Az1 := hid hz1; have Az2 := hid hz2
  clear hi hz0 hz1 hz2
  have hn : n ≤ 120 := by rw [← hr.1]; exact hg.1
  have hl := hr.1
  have hnd : nd ≤ 40 := hg.2.2.1
  have HG := hid hg
  have HDn := hid (fun (k : Nat) (hk : k < 240) (w' : World) (h : Held w (nd : Int) A n c w') => isDown2_any Ad n' c' dn k w' (hd.on h.1) (by omega))
  have HM := hid (fun (k : Nat) (hk : k < 2 * n) (w' : World) (h : Held w (nd : Int) A n c w') => metric_any (nd : Int) A n c l k w' (h.on hr) hk (by omega))
  have HE := hid (fun (k : Nat) (hk : k < 2 * n) (w' : World) (h : Held w (nd : Int) A n c w') => end_any (nd : Int) A n c l k w' (h.on hr) hk (by omega))
  have HO := hid (fun (w' : World) (h' : Held w (nd : Int) A n c w') => held_out h' (out_any (nd : Int) A n c l (v : Int) w' (h'.on hr) (by omega)))
  have HB := hid hto
  obtain ⟨L, hL⟩ : ∃ L, outS l (v : Int) (2 * l.length) = L := ⟨_, rfl⟩
  obtain ⟨m, hM⟩ : ∃ m, L.length = m := ⟨_, rfl⟩
  have hm : m ≤ 240 := by rw [← hM, ← hL]; exact Nat.le_trans (outS_len _ _ _) (by omega)
  simp only [hL, hM] at HO ⊢
  have HLs := hid hL
  have HM2 := hid hM
  have Hlen := hid hlen
  obtain ⟨bT, ot, rfl, hbt, hct⟩ := ht.2 (by omega)
  have HCT := hid hct
  have ct := hct v _ (dAt_get (by omega))
  obtain ⟨dv, hdv⟩ : ∃ dv, dAt to (v : Int) = dv := ⟨_, rfl⟩
  have HDV := hid hdv
  have hdv2 := hto _ (List.mem_of_getElem? (dAt_get (d := to) (v := v) (by omega)))
  rw [hdv] at ct hdv2
  have Hdv2 := hid hdv2
  have Ct := hid ct
  have t3 : ((nd : Int) != (nd : Int)) = false := by simp
  obtain ⟨P, hP⟩ : ∃ P, onP l dn to (v : Int) = P := ⟨_, rfl⟩
  rw [hP]
  have HP := hid hP
  clear hr hd h hb Q hg ht hto hL hM hct ct hdv hdv2 hlen hP
  go_enter Try.func42, Try.ntmps42
  go_wp2_with (first
    | (go_at_call 52; (with_reducible refine (HK.out _ hS).mono ?_); rintro e' w1 ⟨rfl, h1⟩; obtain ⟨g2, g3⟩ := h1.cells)
    | (go_at_call 53; (with_reducible refine (HO.out _ h1).mono ?_); rintro e' w5 ⟨A6, c6, rfl, hi5, hb5, h5⟩; have HI5 := hid hi5; clear hi5))
  clear g0 g1 g2 g3 hS HK HO
  go_loopw [9, 11, 27] (fun vv _ i wr => ∃ k : Nat, k ≤ m ∧ i = .int .i64 k ∧ Hid (wr.ownsRow w5.heap.size 3 1 vv ((L.take k).filter P).length (icells ((L.take k).filter P))) ∧ Hid (Below w5.heap.size w5 wr)) (fun _ _ i _ => m - (intOf i).toNat)
  case atStart => exact ⟨0, Nat.zero_le _, rfl, World.ownsRow_nil _ _ _ _, Below.refl _ _⟩
  case round =>
    obtain ⟨k, hk, rfl, HOw, HBw⟩ := hrel
    have HHw := hid (h5.next HBw.out)
    by_cases hkm : k < m
    · obtain ⟨xx, hx⟩ : ∃ x, L[k]? = some x := ⟨L[k]'(by rw [HM2.out]; exact hkm), List.getElem?_eq_getElem _⟩
      have HX := hid hx
      have hx' := hx
      rw [← HLs.out] at hx'
      obtain ⟨e, rfl, he, _, _⟩ := row_next hx'
      rw [hl] at he
      have HF := hid (take_filter_succ P hx)
      have hfl := filter_len L k P
      have HFl := hid hfl
      obtain ⟨a, b, x, hxl, _, hf, htv, hmt, ha, hbn, _, hm1, hm2⟩ := edge_facts HG.out (k := e) (by rw [hl]; exact he)
      have hev : P (e : Int) = (!isDn dn (e / 2) && isNextS dv (dAt to (b : Int)) x.m) := by
        rw [← HP.out]; unfold onP; rw [Int.toNat_natCast, htv, hmt, HDV.out]
      have Hev := hid hev
      have HDk := hid (HDn.out e (by omega))
      have HMk := hid (HM.out e he)
      have HEk := hid (HE.out e he)
      rw [hmt] at HMk
      rw [htv] at HEk
      obtain ⟨mm, hm'⟩ : ∃ mm, x.m = mm := ⟨_, rfl⟩
      rw [hm'] at HMk Hev hm1 hm2
      have Gb := dAt_get (d := to) (v := b) (by rw [Hlen.out]; exact hbn)
      have hdb := HB.out _ (List.mem_of_getElem? Gb)
      have cB := hid (HCT.out b _ Gb)
      obtain ⟨db, hdb'⟩ : ∃ db, dAt to (b : Int) = db := ⟨_, rfl⟩
      rw [hdb'] at hdb cB Hev
      have HN := hid (fun (w' : World) => isNext_any dv db mm w' Hdv2.out hdb)
      obtain ⟨b6, o6, rfl, hb6, hc6⟩ := HI5.out.2 (by omega)
      have cL := hid (hc6 k _ HX.out)
      clear hf htv hmt hx hx' hev hfl hxl hc6 hdb' hm' Gb hdb ha hm1 hm2
      have HAll : Hid (∀ w', Below wr.drew.heap.size wr.drew w' → (Held w (nd : Int) A n c w' ∧ Below w5.heap.size w5 w' ∧ w'.ownsRow w5.heap.size 3 1 u9 ((L.take k).filter P).length (icells ((L.take k).filter P))) ∧ (w'.cell? ⟨w.heap.size, 0, none⟩ = some (.int .i64 (nd : Int)) ∧ w'.cell? ⟨w.heap.size, 1, none⟩ = some (.slice A n c) ∧ w'.cell? ⟨b6, o6 + k, none⟩ = some (.int .i64 (e : Int)) ∧ w'.cell? ⟨bT, ot + v, none⟩ = some (.int .i64 dv) ∧ w'.cell? ⟨bT, ot + b, none⟩ = some (.int .i64 db))) := by
        intro w' hb'
        have h5' := HHw.out.drew.next hb'
        have hb5' : Below w5.heap.size w5 w' := HBw.out.drew.trans (hb'.mono HBw.out.size)
        have hoD : wr.drew.ownsRow w5.heap.size 3 1 u9 ((L.take k).filter P).length (icells ((L.take k).filter P)) := HOw.out
        exact ⟨⟨h5', hb5', own_below hoD hb'⟩, h5'.cells.1, h5'.cells.2, (hb5'.cell (p := ⟨b6, o6 + k, none⟩) hb6).trans cL.out, (h5'.1.cell (p := ⟨bT, ot + v, none⟩) hbt).trans Ct.out, (h5'.1.cell (p := ⟨bT, ot + b, none⟩) hbt).trans cB.out⟩
      have sD := (HAll.out _ (Below.refl _ _)).2
      have hhD := HHw.out.drew
      have ec0 := (HBw.out.cell (p := ⟨b6, o6 + k, none⟩) hb6).trans cL.out
      obtain ⟨z0, z1, z2, z3, z4⟩ := sD
      cases hu : isDn dn (e / 2) with
      | true =>
        rw [hu] at HDk
        have HQ : Hid ((L.take (k + 1)).filter P = (L.take k).filter P) := by
          show _ = _
          rw [HF.out, Hev.out, hu]; simp
        clear hu
        go_wp2_with fail
        go_big_quiet ((go_at_call 54; exact Calls.quiet_of_same ((HDk.out _ (HHw.out.drewN _)).mono fun e w' h => ⟨h.1, h.2.symm⟩)))
        go_wp2_with fail
        go_roundw
        case rel => exact ⟨k + 1, by omega, by go_num, by rw [HQ.out]; exact HOw.out, below_drewN HBw.out⟩
        case measure => simp [intOf]; omega
      | false =>
        rw [hu] at HDk
        cases hbn2 : isNextS dv db mm with
        | true =>
          rw [hbn2] at HN
          have HQ : Hid ((L.take (k + 1)).filter P = (L.take k).filter P ++ [(e : Int)]) := by
            show _ = _
            rw [HF.out, Hev.out, hu, hbn2]; rfl
          clear hu hbn2
          go_wp2_with fail
          go_region_held3 (fun w' => w'.cell? ⟨w.heap.size, 0, none⟩ = some (.int .i64 (nd : Int)) ∧ w'.cell? ⟨w.heap.size, 1, none⟩ = some (.slice A n c) ∧ w'.cell? ⟨b6, o6 + k, none⟩ = some (.int .i64 (e : Int)) ∧ w'.cell? ⟨bT, ot + v, none⟩ = some (.int .i64 dv) ∧ w'.cell? ⟨bT, ot + b, none⟩ = some (.int .i64 db))
            (first
              | go_keep
              | exact s9
              | exact s8)
            (first
              | (go_at_call 54; (with_reducible refine (HDk.out _ hhD).mono ?_); rintro _ _ ⟨rfl, rfl⟩)
              | (go_at_call 56; (with_reducible refine (HEk.out _ hhD).mono ?_); rintro e' w8 ⟨rfl, b8⟩; obtain ⟨a8, s8⟩ := HAll.out _ b8; have HA8 := hid a8; clear a8)
              | (go_at_call 57; (with_reducible refine (HMk.out _ HA8.out.1).mono ?_); rintro e' w9 ⟨rfl, b9⟩; obtain ⟨a9, s9⟩ := HAll.out _ (bt b8 b9); have HA9 := hid a9; clear a9)
              | (go_at_call 55; (with_reducible refine (HN.out _).mono ?_); rintro _ _ ⟨rfl, rfl⟩))
          obtain ⟨h9, hb59, ho9⟩ := HA9.out
          have HO9 := hid ho9
          clear ho9
          go_wp2_with (first
            | (at_builtin; refine wpList_append_own _ rfl (.tmp 51) (.tmp 53) 25 rfl w5.heap.size 3 i5 (.int .i64 0) 1 8 Try.underlying25 Ai.out Az0.out Az1.out Az2.out rfl (by decide) _ _ _ rfl (HO9.out.alloc _) ⟨w9.heap.size, 0, none⟩ 1 1 (icells [(e : Int)]) rfl rfl (new_row (int_row _)) (icells_one _) (by unfold maxLen; have := HFl.out; omega) (by have := HFl.out; omega) (by have := hb59.size; simp; omega) ?_; intro v10 w10 hown10 hg10 _; have HO10 := hid hown10; have hb10 : Below w5.heap.size w5 w10 := Below.grown (hb59.alloc hb59.size _) hg10 (by have := hb59.size; simp; omega) (fun q hq => (HO9.out.lt q hq).1)))
          go_roundw
          case rel => exact ⟨k + 1, by omega, by go_num, by rw [HQ.out, List.length_append, icells_app]; exact HO10.out, hb10⟩
          case measure => simp [intOf]; omega
        | false =>
          rw [hbn2] at HN
          have HQ : Hid ((L.take (k + 1)).filter P = (L.take k).filter P) := by
            show _ = _
            rw [HF.out, Hev.out, hu, hbn2]; simp
          clear hu hbn2
          go_wp2_with fail
          go_region_held3 (fun w' => w'.cell? ⟨w.heap.size, 0, none⟩ = some (.int .i64 (nd : Int)) ∧ w'.cell? ⟨w.heap.size, 1, none⟩ = some (.slice A n c) ∧ w'.cell? ⟨b6, o6 + k, none⟩ = some (.int .i64 (e : Int)) ∧ w'.cell? ⟨bT, ot + v, none⟩ = some (.int .i64 dv) ∧ w'.cell? ⟨bT, ot + b, none⟩ = some (.int .i64 db))
            (first
              | go_keep
              | exact s9
              | exact s8)
            (first
              | (go_at_call 54; (with_reducible refine (HDk.out _ hhD).mono ?_); rintro _ _ ⟨rfl, rfl⟩)
              | (go_at_call 56; (with_reducible refine (HEk.out _ hhD).mono ?_); rintro e' w8 ⟨rfl, b8⟩; obtain ⟨a8, s8⟩ := HAll.out _ b8; have HA8 := hid a8; clear a8)
              | (go_at_call 57; (with_reducible refine (HMk.out _ HA8.out.1).mono ?_); rintro e' w9 ⟨rfl, b9⟩; obtain ⟨a9, s9⟩ := HAll.out _ (bt b8 b9); have HA9 := hid a9; clear a9)
              | (go_at_call 55; (with_reducible refine (HN.out _).mono ?_); rintro _ _ ⟨rfl, rfl⟩))
          obtain ⟨h9, hb59, ho9⟩ := HA9.out
          have HO9 := hid ho9
          clear ho9
          go_wp2_with fail
          go_roundw
          case rel => exact ⟨k + 1, by omega, by go_num, by rw [HQ.out]; exact HO9.out, hb59⟩
          case measure => simp [intOf]; omega
    · obtain rfl : m = k := by omega
      have HQ : Hid ((L.take m).filter P = L.filter P) := by
        show _ = _
        rw [List.take_of_length_le (by rw [HM2.out]; omega)]
      have hb05 := h5.1
      go_wp2_with fail
      go_ret
      exact ⟨_, rfl, by rw [← HQ.out]; exact own_mono HOw.out hb05.size, hb05.trans (HBw.out.mono hb05.size)⟩
theorem next_spec : NextSpec 42 := by
  intro nd A n c l Ad n' c' dn At n2 c2 to s w hg hd ht hs1 hs2
  by_cases h : (checkS nd l).2 = 0 ∧ 0 ≤ s ∧ s < nd ∧ (n2 : Int) = nd
  · obtain ⟨N, rfl⟩ := Int.eq_ofNat_of_zero_le (show 0 ≤ nd by omega)
    obtain ⟨S, rfl⟩ := Int.eq_ofNat_of_zero_le h.2.1
    obtain rfl : n2 = N := by omega
    exact next_in n2 A n c l Ad n' c' dn At c2 to S w hg.row hd.row ht.row h.1 (by omega) ht.small
  · exact next_no nd A n c l Ad n' c' dn At n2 c2 to s w hg.row ht.row h
end Go.Proofs.Ytabgbhkpeeibaaa
