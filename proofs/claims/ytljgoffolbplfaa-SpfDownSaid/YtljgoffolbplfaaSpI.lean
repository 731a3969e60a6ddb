/- SpfLess. -/
import Derived.Test.YtljgoffolbplfaaSpH
namespace Go.Proofs.Ytljgoffolbplfaa
open Go.RowKit
set_option maxHeartbeats 6400000
set_option maxRecDepth 100000
theorem RInt.cellAt {w : World} {B b o n i : Nat} {l : List Int} {x : Int} (h : RInt w B (some ⟨b, o, none⟩) n l) (hx : l[i]? = some x) : w.cell? ⟨b, o + i, none⟩ = some (.int .i64 x) ∧ b < B := by
  have hi := (List.getElem?_eq_some_iff.1 hx).1
  rw [h.1] at hi
  obtain ⟨b', o', he, hb, hc⟩ := h.2 (by omega)
  simp only [Option.some.injEq, Addr.mk.injEq] at he
  obtain ⟨rfl, rfl, _⟩ := he
  exact ⟨hc i x hx, hb⟩
theorem RLnk.metAt {w : World} {B b o n q : Nat} {l : List Lnk} {x : Lnk} (h : RLnk w B (some ⟨b, o, none⟩) n l) (hx : l[q]? = some x) : w.cell? ⟨b, o + q * 4 + 2, none⟩ = some (.int .i64 x.m) ∧ b < B := by
  have hi := (List.getElem?_eq_some_iff.1 hx).1
  rw [h.1] at hi
  obtain ⟨b', o', he, hb, hc⟩ := h.2 (by omega)
  simp only [Option.some.injEq, Addr.mk.injEq] at he
  obtain ⟨rfl, rfl, _⟩ := he
  exact ⟨(hc q x hx).2.2.1, hb⟩
/-- What the marks of SpfLess hold after k edges. -/
def Made (l : List Lnk) (dn : List Bool) (D : List Int) (s k : Nat) (H : Nat → Bool) : Prop :=
  H s = true ∧ ∀ v j : Nat, j < k → isDn dn (j / 2) = false → 0 ≤ dAt D (frm l j) → tov l j = (v : Int) → dAt D (v : Int) = dAt D (frm l j) + met l j → H v = true
theorem Made.skip {l : List Lnk} {dn : List Bool} {D : List Int} {s k a : Nat} {H : Nat → Bool} (h : Made l dn D s k H) (hf : frm l k = (a : Int)) (hc : isDn dn (k / 2) = true ∨ dAt D (a : Int) < 0) : Made l dn D s (k + 1) H := by
  refine ⟨h.1, fun v j hj hu h0 ht he => ?_⟩
  rcases Nat.lt_succ_iff_lt_or_eq.1 hj with hj | rfl
  · exact h.2 v j hj hu h0 ht he
  · rcases hc with hc | hc
    · rw [hu] at hc; cases hc
    · rw [hf] at h0; omega
theorem Made.mark {l : List Lnk} {dn : List Bool} {D : List Int} {s k a b : Nat} {m : Int} {H : Nat → Bool} (h : Made l dn D s k H) (hf : frm l k = (a : Int)) (ht : tov l k = (b : Int)) (hm : met l k = m) (x : Bool) (hx : x = (H b || (dAt D (b : Int) == dAt D (a : Int) + m))) :
    Made l dn D s (k + 1) (fun j => if j = b then x else H j) := by
  refine ⟨?_, fun v j hj hu h0 htv he => ?_⟩
  · show (if s = b then x else H s) = true
    split
    · rename_i hsb; rw [hx, ← hsb, h.1]; rfl
    · exact h.1
  · show (if v = b then x else H v) = true
    rcases Nat.lt_succ_iff_lt_or_eq.1 hj with hj | rfl
    · have := h.2 v j hj hu h0 htv he
      split
      · rename_i hvb; rw [hx, ← hvb, this]; rfl
      · exact this
    · have hvb : v = b := by rw [ht] at htv; omega
      subst hvb
      rw [if_pos rfl, hx]
      rw [hf, hm] at he
      rw [he]
      simp
theorem less_not (hF : FromSpec 27) (nd : Int) (A : Option Addr) (n c : Nat) (l : List Lnk) (Ad : Option Addr) (n' c' : Nat) (s : Int) (w : World) (hr : RLnk w w.heap.size A n l) (h : ¬((checkS nd l).2 = 0 ∧ n' ≤ 200 ∧ 0 ≤ s ∧ s < nd)) :
    Calls Try.prog 9 #[.agg #[.int .i64 nd, .slice A n c], .slice Ad n' c', .int .i64 s] w fun e w' => e = .returned (.bool true) ∧ Below w.heap.size w w' := by
  have hS := Held.start w nd A n c
  have HA := hid (fun (w' : World) (h : Held w nd A n c w') => h.calls (alive_any hF w'))
  have HK' := hid (fun (w' : World) (h : Held w nd A n c w') => h.calls (refCheck_any nd A n c l w' (h.on hr)))
  obtain ⟨k1, hk1⟩ : ∃ k1, (checkS nd l).1 = k1 := ⟨_, rfl⟩
  by_cases h2 : (checkS nd l).2 = 0
  · rw [hk1, h2] at HK'
    have tE : ((0 : Int) != 0) = false := by decide
    by_cases h3 : 200 < n'
    · have t1 : decide ((200 : Int) < (n' : Int)) = true := by simp; omega
      clear hr h h2 h3 hk1 hF
      go_enter Try.func9, Try.ntmps9
      go_wp2_with (first
        | (go_at_call 25; (with_reducible refine (HA.out _ hS).mono ?_); rintro e' w1 ⟨rfl, h1⟩; obtain ⟨g0, g1⟩ := h1.cells)
        | (go_at_call 16; (with_reducible refine (HK'.out _ h1).mono ?_); rintro e' w2 ⟨rfl, h2⟩; obtain ⟨g2, g3⟩ := h2.cells))
      go_ret
      exact ⟨rfl, h2.1⟩
    · have t1 : decide ((200 : Int) < (n' : Int)) = false := by simp; omega
      by_cases h4 : s < 0
      · have t2 : decide (s < 0) = true := by simpa using h4
        clear hr h h2 h3 h4 hk1 hF
        go_enter Try.func9, Try.ntmps9
        go_wp2_with (first
          | (go_at_call 25; (with_reducible refine (HA.out _ hS).mono ?_); rintro e' w1 ⟨rfl, h1⟩; obtain ⟨g0, g1⟩ := h1.cells)
          | (go_at_call 16; (with_reducible refine (HK'.out _ h1).mono ?_); rintro e' w2 ⟨rfl, h2⟩; obtain ⟨g2, g3⟩ := h2.cells))
        go_ret
        exact ⟨rfl, h2.1⟩
      · have t2 : decide (s < 0) = false := by simpa using h4
        have t3 : decide (nd ≤ s) = true := by simp; omega
        clear hr h h2 h3 h4 hk1 hF
        go_enter Try.func9, Try.ntmps9
        go_wp2_with (first
          | (go_at_call 25; (with_reducible refine (HA.out _ hS).mono ?_); rintro e' w1 ⟨rfl, h1⟩; obtain ⟨g0, g1⟩ := h1.cells)
          | (go_at_call 16; (with_reducible refine (HK'.out _ h1).mono ?_); rintro e' w2 ⟨rfl, h2⟩; obtain ⟨g2, g3⟩ := h2.cells))
        go_ret
        exact ⟨rfl, h2.1⟩
  · obtain ⟨k2, hk2⟩ : ∃ k2, (checkS nd l).2 = k2 := ⟨_, rfl⟩
    rw [hk1, hk2] at HK'
    have t1 : (k2 != 0) = true := by rw [← hk2]; simpa using h2
    clear hr h h2 hk1 hk2 hF
    go_enter Try.func9, Try.ntmps9
    go_wp2_with (first
      | (go_at_call 25; (with_reducible refine (HA.out _ hS).mono ?_); rintro e' w1 ⟨rfl, h1⟩; obtain ⟨g0, g1⟩ := h1.cells)
      | (go_at_call 16; (with_reducible refine (HK'.out _ h1).mono ?_); rintro e' w2 ⟨rfl, h2⟩; obtain ⟨g2, g3⟩ := h2.cells))
    go_ret
    exact ⟨rfl, h2.1⟩
theorem less_in (hF : FromSpec 27) (hT : FromSpec 28) (nd : Nat) (A : Option Addr) (n c : Nat) (l : List Lnk) (Ad : Option Addr) (n' c' : Nat) (dn : List Bool) (s : Nat) (w : World) (hga : GArg w (nd : Int) A n c l) (hda : DArg w Ad n' c' dn) (h : (checkS (nd : Int) l).2 = 0) (hs : s < nd) :
    Calls Try.prog 9 #[.agg #[.int .i64 (nd : Int), .slice A n c], .slice Ad n' c', .int .i64 (s : Int)] w fun e w' => e = .returned (.bool true) ∧ Below w.heap.size w w' := by
  have hg := gok_of h
  have hr := hga.row
  have hS := Held.start w (nd : Int) A n c
  have HA := hid (fun (w' : World) (h : Held w (nd : Int) A n c w') => h.calls (alive_any hF w'))
  have HK' := hid (fun (w' : World) (h : Held w (nd : Int) A n c w') => h.calls (refCheck_any (nd : Int) A n c l w' (h.on hr)))
  obtain ⟨k1, hk1⟩ : ∃ k1, (checkS (nd : Int) l).1 = k1 := ⟨_, rfl⟩
  rw [hk1, h] at HK'
  have Q : fromS (nd : Int) l dn (s : Int) = distS nd l dn s := by unfold fromS; rw [if_pos ⟨h, by omega, by omega⟩]; rfl
  obtain ⟨D, hD⟩ : ∃ D, distS nd l dn s = D := ⟨_, rfl⟩
  have hok := dist_ok (dn := dn) hg hs
  rw [hD] at hok Q
  have hDl := hok.len
  have HOK := hid hok
  have HDl := hid hDl
  have HTop : Hid (∀ v : Nat, v < nd → -1 ≤ dAt D (v : Int) ∧ dAt D (v : Int) ≤ 654311424) := fun v hv => ⟨hok.low v hv, by rw [← hD]; exact dist_top hg hs hv⟩
  have hn : n ≤ 120 := by rw [← hr.1]; exact hg.1
  have hl := hr.1
  have hnd : nd ≤ 40 := hg.2.2.1
  have hn' := hda.len
  have HF := hid (fun (w' : World) (h : Held w (nd : Int) A n c w') => held_ints h hDl (Q ▸ hF (nd : Int) A n c l Ad n' c' dn (s : Int) w' (hga.on h.1) (hda.on h.1) (by omega) (by omega)))
  have HT := hid (fun (w' : World) (h : Held w (nd : Int) A n c w') => held_ints h hDl (Q ▸ hT (nd : Int) A n c l Ad n' c' dn (s : Int) w' (hga.on h.1) (hda.on h.1) (by omega) (by omega)))
  have HSd := hid (fun (A1 A2 : Option Addr) (c1 c2 : Nat) (w' : World) (h1 : RInt w' w'.heap.size A1 nd D) (h2 : RInt w' w'.heap.size A2 nd D) => same_any A1 A2 nd c1 c2 D w' h1 h2 (by omega))
  have HE := hid (fun (k : Nat) (hk : k < 240) (w' : World) (h : Held w (nd : Int) A n c w') => refEnds_any (nd : Int) A n c l (k : Int) w' (h.on hr) (by omega) (by omega))
  have HG := hid hg
  have HRL := hid hr
  have HRD := hid hda.row
  obtain ⟨i5, hi, hz0, hz1, hz2⟩ := info_parts (show (Try.prog.info? 4).map (fun i => (i.zero, i.size, i.bytes)) = some (some (.bool false), 1, 1) by kernel_rfl)
  have Ai := hid hi; have Az0 := hid hz0; have Az1 := hid hz1; have Az2 := hid hz2
  clear hi hz0 hz1 hz2
  have tE : ((0 : Int) != 0) = false := by decide
  have t1 : decide ((200 : Int) < (n' : Int)) = false := by simp; omega
  have t2 : decide ((s : Int) < 0) = false := by simp
  have t3 : decide ((nd : Int) ≤ (s : Int)) = false := by simp; omega
  have t4 : ((nd : Int) != (nd : Int)) = false := by simp
  have hds : D[s]? = some 0 := by have := dAt_get (d := D) (v := s) (by rw [hDl]; exact hs); rwa [hok.src] at this
  have Hds := hid hds
  clear hr hga hda h hk1 Q hD hok hDl hF hT hg hds
  go_enter Try.func9, Try.ntmps9
  go_wp2_with (first
    | (go_at_call 25; (with_reducible refine (HA.out _ hS).mono ?_); rintro e' w1 ⟨rfl, h1⟩; obtain ⟨g0, g1⟩ := h1.cells)
    | (go_at_call 16; (with_reducible refine (HK'.out _ h1).mono ?_); rintro e' w2 ⟨rfl, h2⟩; obtain ⟨g2, g3⟩ := h2.cells)
    | (go_at_call 27; (with_reducible refine (HF.out _ h2).mono ?_); rintro e' w3 ⟨A3, c3, rfl, r3, b3, h3⟩; obtain ⟨g4, g5⟩ := h3.cells; have R3 := hid r3.1; clear r3)
    | (go_at_call 28; (with_reducible refine (HT.out _ h3).mono ?_); rintro e' w4 ⟨A4, c4, rfl, r4, b4, h4⟩; obtain ⟨g6, g7⟩ := h4.cells; have R4 := hid r4.1; clear r4; have R34 := hid (R3.out.on b4); obtain ⟨bD, oD, rfl, hbD, hcD⟩ := R34.out.2 (by omega); have cs4 := hcD s 0 Hds.out; clear hcD)
    | (go_at_call 20; (with_reducible refine (HSd.out _ _ _ _ _ R34.out R4.out).mono ?_); rintro e' w5 ⟨rfl, b5⟩; have h5 := h4.next b5; obtain ⟨g8, g9⟩ := h5.cells; have R5 := hid (R34.out.on b5))
    | (at_make; refine wpList_make_full _ rfl (.tmp 74) (.tmp 74) 43 rfl w5.heap.size 4 i5 (.bool false) 1 Try.underlying43 Ai.out Az0.out Az1.out _ _ _ _ nd rfl rfl rfl rfl (by rw [Az2.out]; omega) (by unfold maxLen; omega) (Nat.le_refl _) ?_; intro w6 hown6 hg6; have HM6 := hid (BRow.made hown6); have b6 := grown_below hg6; have h6 := h5.next b6; have R6 := hid (R5.out.on b6); have cm6 := HM6.out.cell hs; have fm6 := HM6.out.frozen s; clear hown6 hg6))
  have hwG : w.heap.size < w5.heap.size := h5.lt
  go_loopw [13] (fun i wr => ∃ (k : Nat) (H : Nat → Bool), k ≤ 2 * n ∧ i = .int .i64 k ∧ Hid (BRow wr w5.heap.size nd H) ∧ Hid (Made l dn D s k H) ∧ Hid (Below w5.heap.size w5 wr) ∧ Hid (Held w (nd : Int) A n c wr)) (fun i _ => 2 * n - (intOf i).toNat)
  case atStart => exact ⟨0, _, Nat.zero_le _, rfl, HM6.out.set true, ⟨if_pos rfl, fun v j hj => absurd hj (Nat.not_lt_zero j)⟩, b6.setCell (Nat.le_refl _) _, h6.set hwG⟩
  case round =>
    obtain ⟨k, H, hk, rfl, HBr, HMd, HBw, HHw⟩ := hrel
    obtain ⟨x0, x1⟩ := HHw.out.cells
    clear g0 g1 g2 g3 g4 g5 g6 g7 g8 g9 cs4 cm6 fm6
    by_cases hkn : k < 2 * n
    · obtain ⟨a, b, x, hx, hE, hf, ht, hm, ha, hb, hab, hm1, hm2⟩ := edge_facts HG.out (k := k) (by rw [hl]; exact hkn)
      have HEk := hid (fun (w' : World) (h : Held w (nd : Int) A n c w') => HE.out k (by omega) w' h)
      simp only [hE] at HEk
      have hclo := HOK.out.clo k (by rw [hl]; exact hkn)
      rw [hf, ht, hm] at hclo
      have hsk := HMd.out.skip hf
      have hmk := HMd.out.mark hf ht hm
      have Hclo := hid hclo
      have Hsk := hid hsk
      have Hmk := hid hmk
      clear hf ht hm hE hclo hsk hmk
      obtain ⟨q, hq⟩ : ∃ q, k / 2 = q := ⟨_, rfl⟩
      rw [hq] at hx Hclo Hsk
      have hqn : q < n := by omega
      have d1 : Int.tdiv (k : Int) 2 = (q : Int) := by rw [← hq]; rfl
      obtain ⟨bL, oL, rfl, hbL, hcL⟩ := HRL.out.2 (by omega)
      have HD := hid (fun (w' : World) (h : Held w (nd : Int) (some ⟨bL, oL, none⟩) n c w') => isDown_any Ad n' c' dn q w' (HRD.out.on h.1) (by omega))
      have Ga := hid (dAt_get (d := D) (v := a) (by rw [HDl.out]; exact ha))
      have Gb := hid (dAt_get (d := D) (v := b) (by rw [HDl.out]; exact hb))
      obtain ⟨m, hm'⟩ : ∃ m, x.m = m := ⟨_, rfl⟩
      have cM := hid (hcL q x hx).2.2.1
      rw [hm'] at cM Hclo Hmk hm1 hm2
      have hma := HTop.out a ha
      obtain ⟨da, hda'⟩ : ∃ da, dAt D (a : Int) = da := ⟨_, rfl⟩
      obtain ⟨db, hdb'⟩ : ∃ db, dAt D (b : Int) = db := ⟨_, rfl⟩
      rw [hda'] at Ga Hclo Hsk Hmk hma
      rw [hdb'] at Gb Hclo Hmk
      obtain ⟨hma1, hma2⟩ := hma
      obtain ⟨hB, hHb⟩ : ∃ hB, H b = hB := ⟨_, rfl⟩
      rw [hHb] at Hmk
      have HHb := hid hHb
      clear hx hcL hda' hdb' hq hm' hHb
      cases hu : isDn dn q with
      | true =>
        rw [hu] at HD Hsk
        have HQ := hid (Hsk.out (.inl rfl))
        clear hu
        go_wp2_with (first
          | (go_at_call 18; (with_reducible refine (HEk.out _ HHw.out).mono ?_); rintro e' w7 ⟨rfl, hb7⟩; have h7 := HHw.out.next hb7; have HB7 := hid (HBr.out.on hb7); have hb57 := HBw.out.trans (hb7.mono HBw.out.size); obtain ⟨y0, y1⟩ := h7.cells; have ca := ((R5.out.below hb57).cellAt Ga.out).1; have cb := ((R5.out.below hb57).cellAt Gb.out).1; have cH := HB7.out.cell hb; (rw [HHb.out] at cH); have fH := HB7.out.frozen b; have cm := (h7.1.cell (p := ⟨bL, oL + q * 4 + 2, none⟩) hbL).trans cM.out)
          | (go_at_call 31; (with_reducible refine (HD.out _ h7).mono ?_); rintro _ _ ⟨rfl, rfl⟩)
          | go_big_quiet (fail))
        go_roundw
        case rel => exact ⟨k + 1, H, by omega, by go_num, HB7.out, HQ.out, hb57, h7⟩
        case measure => simp [intOf]; omega
      | false =>
        rw [hu] at HD Hclo
        clear hu
        by_cases c1 : da < 0
        · have t5 : decide (da < 0) = true := by simpa using c1
          have HQ := hid (Hsk.out (.inr c1))
          go_wp2_with (first
            | (go_at_call 18; (with_reducible refine (HEk.out _ HHw.out).mono ?_); rintro e' w7 ⟨rfl, hb7⟩; have h7 := HHw.out.next hb7; have HB7 := hid (HBr.out.on hb7); have hb57 := HBw.out.trans (hb7.mono HBw.out.size); obtain ⟨y0, y1⟩ := h7.cells; have ca := ((R5.out.below hb57).cellAt Ga.out).1; have cb := ((R5.out.below hb57).cellAt Gb.out).1; have cH := HB7.out.cell hb; (rw [HHb.out] at cH); have fH := HB7.out.frozen b; have cm := (h7.1.cell (p := ⟨bL, oL + q * 4 + 2, none⟩) hbL).trans cM.out)
            | (go_at_call 31; (with_reducible refine (HD.out _ h7).mono ?_); rintro _ _ ⟨rfl, rfl⟩)
            | go_big_quiet (fail))
          go_roundw
          case rel => exact ⟨k + 1, H, by omega, by go_num, HB7.out, HQ.out, hb57, h7⟩
          case measure => simp [intOf]; omega
        · have t5 : decide (da < 0) = false := by simpa using c1
          obtain ⟨c2, c3⟩ := Hclo.out rfl (by omega)
          have t6 : decide (db < 0) = false := by simp; omega
          have t7 : decide (da + m < db) = false := by simp; omega
          cases hB with
          | true =>
            have HQ := hid (Hmk.out true (by simp))
            go_wp2_with (first
              | (go_at_call 18; (with_reducible refine (HEk.out _ HHw.out).mono ?_); rintro e' w7 ⟨rfl, hb7⟩; have h7 := HHw.out.next hb7; have HB7 := hid (HBr.out.on hb7); have hb57 := HBw.out.trans (hb7.mono HBw.out.size); obtain ⟨y0, y1⟩ := h7.cells; have ca := ((R5.out.below hb57).cellAt Ga.out).1; have cb := ((R5.out.below hb57).cellAt Gb.out).1; have cH := HB7.out.cell hb; (rw [HHb.out] at cH); have fH := HB7.out.frozen b; have cm := (h7.1.cell (p := ⟨bL, oL + q * 4 + 2, none⟩) hbL).trans cM.out)
              | (go_at_call 31; (with_reducible refine (HD.out _ h7).mono ?_); rintro _ _ ⟨rfl, rfl⟩)
              | go_big_quiet (fail))
            go_roundw
            case rel => exact ⟨k + 1, _, by omega, by go_num, (HB7.out.drewN nq).set _, HQ.out, (below_drewN hb57).setCell (Nat.le_refl _) _, (h7.drewN nq).set hwG⟩
            case measure => simp [intOf]; omega
          | false =>
            by_cases c4 : db = da + m
            · have t8 : (db == da + m) = true := by simpa using c4
              have HQ := hid (Hmk.out true (by rw [t8]; rfl))
              clear c4
              go_wp2_with (first
                | (go_at_call 18; (with_reducible refine (HEk.out _ HHw.out).mono ?_); rintro e' w7 ⟨rfl, hb7⟩; have h7 := HHw.out.next hb7; have HB7 := hid (HBr.out.on hb7); have hb57 := HBw.out.trans (hb7.mono HBw.out.size); obtain ⟨y0, y1⟩ := h7.cells; have ca := ((R5.out.below hb57).cellAt Ga.out).1; have cb := ((R5.out.below hb57).cellAt Gb.out).1; have cH := HB7.out.cell hb; (rw [HHb.out] at cH); have fH := HB7.out.frozen b; have cm := (h7.1.cell (p := ⟨bL, oL + q * 4 + 2, none⟩) hbL).trans cM.out)
                | (go_at_call 31; (with_reducible refine (HD.out _ h7).mono ?_); rintro _ _ ⟨rfl, rfl⟩)
                | go_big_quiet (fail))
              go_roundw
              case rel => exact ⟨k + 1, _, by omega, by go_num, (HB7.out.drewN nq).set _, HQ.out, (below_drewN hb57).setCell (Nat.le_refl _) _, (h7.drewN nq).set hwG⟩
              case measure => simp [intOf]; omega
            · have t8 : (db == da + m) = false := by simpa using c4
              have HQ := hid (Hmk.out false (by rw [t8]; rfl))
              clear c4
              go_wp2_with (first
                | (go_at_call 18; (with_reducible refine (HEk.out _ HHw.out).mono ?_); rintro e' w7 ⟨rfl, hb7⟩; have h7 := HHw.out.next hb7; have HB7 := hid (HBr.out.on hb7); have hb57 := HBw.out.trans (hb7.mono HBw.out.size); obtain ⟨y0, y1⟩ := h7.cells; have ca := ((R5.out.below hb57).cellAt Ga.out).1; have cb := ((R5.out.below hb57).cellAt Gb.out).1; have cH := HB7.out.cell hb; (rw [HHb.out] at cH); have fH := HB7.out.frozen b; have cm := (h7.1.cell (p := ⟨bL, oL + q * 4 + 2, none⟩) hbL).trans cM.out)
                | (go_at_call 31; (with_reducible refine (HD.out _ h7).mono ?_); rintro _ _ ⟨rfl, rfl⟩)
                | go_big_quiet (fail))
              go_roundw
              case rel => exact ⟨k + 1, _, by omega, by go_num, (HB7.out.drewN nq).set _, HQ.out, (below_drewN hb57).setCell (Nat.le_refl _) _, (h7.drewN nq).set hwG⟩
              case measure => simp [intOf]; omega
    · obtain rfl : k = 2 * n := by omega
      have HAll : Hid (∀ v : Nat, v < nd → 0 ≤ dAt D (v : Int) → H v = true) := fun v hv h0 => by
        by_cases hvs : v = s
        · rw [hvs]; exact HMd.out.1
        · obtain ⟨j, hj, hu, ht, hf, he⟩ := HOK.out.via v hv hvs h0
          rw [hl] at hj
          exact HMd.out.2 v j hj hu hf ht he
      go_wp2_with fail
      go_loopw [18] (fun i wx => ∃ k : Nat, k ≤ nd ∧ i = .int .i64 k ∧ Hid (BRow wx w5.heap.size nd H) ∧ Hid (Below w5.heap.size w5 wx) ∧ Hid (Held w (nd : Int) A n c wx)) (fun i _ => nd - (intOf i).toNat)
      case atStart => exact ⟨0, Nat.zero_le _, rfl, HBr.out, HBw.out, HHw.out⟩
      case round =>
        clear x0 x1
        obtain ⟨k, hk, rfl, HBx, HBy, HHx⟩ := hrel
        obtain ⟨x0, x1⟩ := HHx.out.cells
        by_cases hkn : k < nd
        · have Gk := dAt_get (d := D) (v := k) (by rw [HDl.out]; exact hkn)
          have ck := ((R5.out.below HBy.out).cellAt Gk).1
          have cm := HBx.out.cell hkn
          have hak := HAll.out k hkn
          obtain ⟨dk, hdk⟩ : ∃ dk, dAt D (k : Int) = dk := ⟨_, rfl⟩
          rw [hdk] at ck hak
          clear Gk hdk
          by_cases c1 : 0 ≤ dk
          · rw [hak c1] at cm
            have t5 : decide (0 ≤ dk) = true := by simpa using c1
            clear hak
            go_wp2_with fail
            go_roundw
            case rel => exact ⟨k + 1, by omega, by go_num, HBx.out, HBy.out, HHx.out⟩
            case measure => simp [intOf]; omega
          · have t5 : decide (0 ≤ dk) = false := by simpa using c1
            clear hak
            go_wp2_with fail
            go_roundw
            case rel => exact ⟨k + 1, by omega, by go_num, HBx.out, HBy.out, HHx.out⟩
            case measure => simp [intOf]; omega
        · obtain rfl : nd = k := by omega
          go_wp2_with fail
          go_ret
          exact ⟨rfl, HHx.out.1⟩
theorem less_any (hF : FromSpec 27) (hT : FromSpec 28) (nd : Int) (A : Option Addr) (n c : Nat) (l : List Lnk) (Ad : Option Addr) (n' c' : Nat) (dn : List Bool) (s : Int) (w : World) (hr : RLnk w w.heap.size A n l) (hc : n ≤ c) (hA : A = none → n = 0 ∧ c = 0) (hd : RBl w w.heap.size Ad n' dn) (hc' : n' ≤ c') (hA' : Ad = none → n' = 0 ∧ c' = 0)
    (h1 : -9223372036854775808 ≤ nd ∧ nd ≤ 9223372036854775807) :
    Calls Try.prog 9 #[.agg #[.int .i64 nd, .slice A n c], .slice Ad n' c', .int .i64 s] w fun e w' => e = .returned (.bool true) ∧ Below w.heap.size w w' := by
  by_cases h : (checkS nd l).2 = 0 ∧ n' ≤ 200 ∧ 0 ≤ s ∧ s < nd
  · obtain ⟨N, rfl⟩ := Int.eq_ofNat_of_zero_le (show 0 ≤ nd by omega)
    obtain ⟨S, rfl⟩ := Int.eq_ofNat_of_zero_le h.2.2.1
    have hn := (checkS_ok h.1).1
    rw [hr.1] at hn
    exact less_in hF hT N A n c l Ad n' c' dn S w ⟨hr, by omega, hc, hA, h1.1, h1.2⟩ ⟨hd, h.2.1, hc', hA'⟩ h.1 (by omega)
  · exact less_not hF nd A n c l Ad n' c' s w hr h
end Go.Proofs.Ytljgoffolbplfaa
