/- DagUses: there is a way. -/
import Derived.Test.YtcjilpgblbnebaaDgJ
namespace Go.Proofs.Ytcjilpgblbnebaa
open Go.RowKit
set_option maxHeartbeats 12800000
set_option maxRecDepth 100000
theorem duses_way (h : DagSpec 10 9 12) (N : Nat) (A : Option Addr) (n c : Nat) (l : List Lnk) (Ad : Option Addr) (n' c' : Nat) (dn : List Bool) (S T : Nat) (w : World) (hg : GArg w (N : Int) A n c l) (hd : DArg w Ad n' c' dn) (h0 : (checkS (N : Int) l).2 = 0) (hn : n ≤ 60) (hS2 : S < N) (hT : T < N) (hST : S ≠ T) (hx : 0 ≤ dAt (distS N l dn S) (T : Int)) :
    Calls Try.prog 5 #[.agg #[.int .i64 (N : Int), .slice A n c], .slice Ad n' c', .int .i64 (S : Int), .int .i64 (T : Int)] w fun e w' => e = .returned (.bool true) ∧ Below w.heap.size w w' := by
  have HA := hid (fun (w' : World) (hh : Held w (N : Int) A n c w') => hh.calls (alive_any h w'))
  have HK := hid (fun (w' : World) (hh : Held w (N : Int) A n c w') => hh.calls (refCheck_any (N : Int) A n c l w' (hh.on hg.row)))
  have hS := Held.start w (N : Int) A n c
  obtain ⟨g0, g1⟩ := hS.cells
  have hok := gok_of h0
  have hN : N ≤ 40 := hok.2.2.1
  have hll := hg.row.1
  have hw := ways_one (dn := dn) hok hS2 hT
  have hcap : (waysS (N : Int) l dn (S : Int) (T : Int)).1 ≤ capB := by
    unfold waysS
    split
    · exact Nat.min_le_right _ _
    · exact Nat.zero_le _
  have HC := hid (fun (w' : World) (hh : Held w (N : Int) A n c w') => (h.count (N : Int) A n c l Ad n' c' dn (S : Int) (T : Int) w' (hg.on hh.1) (hd.on hh.1) ⟨by omega, by omega⟩ ⟨by omega, by omega⟩).mono (fun e w'' h2 => (⟨h2.1, hh.next h2.2, h2.2⟩ : _ ∧ Held w (N : Int) A n c w'' ∧ Below w'.heap.size w' w'')))
  have HU := hid (fun (w' : World) (hh : Held w (N : Int) A n c w') => h.uses (N : Int) A n c l Ad n' c' dn (S : Int) (T : Int) w' (hg.on hh.1) (hd.on hh.1) ⟨by omega, by omega⟩ ⟨by omega, by omega⟩)
  have HE := hid (fun (k : Nat) (hk : k < 240) (w' : World) (h : Held w (N : Int) A n c w') => refEnds_any (N : Int) A n c l (k : Int) w' (hg.row.on h.1) (by omega) (by omega))
  have HDn := hid (fun (q : Nat) (hq : q < 240) (w' : World) (h : Held w (N : Int) A n c w') => isDown_any Ad n' c' dn q w' (hd.row.on h.1) (by omega))
  have hmem := fun e : Int => uses_mem (dn := dn) hok hS2 hT hx (e := e)
  have hso := uses_sorted (N : Int) l dn (S : Int) (T : Int)
  have hlen := usesS_len (N : Int) l dn (S : Int) (T : Int)
  obtain ⟨L, hL⟩ : ∃ L, usesS (N : Int) l dn (S : Int) (T : Int) = L := ⟨_, rfl⟩
  obtain ⟨m, hm⟩ : ∃ m, L.length = m := ⟨_, rfl⟩
  rw [hL] at hlen hso
  simp only [hL] at HU hmem
  rw [hm] at hlen
  have HU2 : Hid (∀ w', Held w (N : Int) A n c w' → Calls Try.prog 12 #[.agg #[.int .i64 (N : Int), .slice A n c], .slice Ad n' c', .int .i64 (S : Int), .int .i64 (T : Int)] w' fun e w'' => ∃ A5 c5, e = .returned (.slice A5 m c5) ∧ RInt w'' w''.heap.size A5 m L ∧ Below w'.heap.size w' w'' ∧ Held w (N : Int) A n c w'') := by
    intro w' hh
    have h1 := HU.out w' hh
    unfold RowAns at h1
    rw [hm] at h1
    exact h1.mono fun _ _ ⟨A5, c5, e1, e2, e3⟩ => ⟨A5, c5, e1, e2, e3, hh.next e3⟩
  obtain ⟨y, hy⟩ : ∃ y, (waysS (N : Int) l dn (S : Int) (T : Int)).1 = y := ⟨_, rfl⟩
  simp only [hy] at HC
  have hy0 : y ≠ 0 := by rw [← hy]; intro h5; have := hw.1.1 h5; omega
  have t8 : ((y : Int) == 0) = false := by simp; omega
  have Hmem := hid hmem
  have HOK := hid hok
  have Hm := hid hm
  have HSo : Hid (∀ (u v : Nat) (x y : Int), u < v → L[u]? = some x → L[v]? = some y → x < y) := by
    intro u v x y huv hu hv
    rw [List.pairwise_iff_getElem] at hso
    obtain ⟨hu1, hu2⟩ := List.getElem?_eq_some_iff.1 hu
    obtain ⟨hv1, hv2⟩ := List.getElem?_eq_some_iff.1 hv
    have := hso u v hu1 hv1 huv
    rw [hu2, hv2] at this
    exact this
  obtain ⟨k1, hk1⟩ : ∃ k1, (checkS (N : Int) l).1 = k1 := ⟨_, rfl⟩
  rw [hk1, h0] at HK
  have tE : ((0 : Int) != 0) = false := by decide
  have hn2 := hd.len
  have t1 : decide ((60 : Int) < (n : Int)) = false := by simp; omega
  have t1' : decide (60 < n) = false := by simp; omega
  have t2 : decide ((200 : Int) < (n' : Int)) = false := by simp; omega
  have t2' : decide (200 < n') = false := by simp; omega
  have t3 : decide ((S : Int) < 0) = false := by simp
  have t4 : decide ((N : Int) ≤ (S : Int)) = false := by simp; omega
  have t4' : decide (N ≤ S) = false := by simp; omega
  have t5 : decide ((T : Int) < 0) = false := by simp
  have t6 : decide ((N : Int) ≤ (T : Int)) = false := by simp; omega
  have t6' : decide (N ≤ T) = false := by simp; omega
  have t7 : ((S : Int) == (T : Int)) = false := by simp; omega
  obtain ⟨i5, hi, hz0, hz1, hz2⟩ := info_parts (show (Try.prog.info? 3).map (fun i => (i.zero, i.size, i.bytes)) = some (some (.int .i64 0), 1, 8) by kernel_rfl)
  have Ai := hid hi; have Az0 := hid hz0; have Az1 := hid hz1; have Az2 := hid hz2
  have Hx := hid hx
  clear hi hz0 hz1 hz2 h hg hd h0 hok hw hcap hL hk1 hm hso hmem HU hy hx
  go_enter Try.func5, Try.ntmps5
  go_wp2_with (first
    | (go_at_call 7; (with_reducible refine (HA.out _ hS).mono ?_); rintro e' w1 ⟨rfl, h1⟩; obtain ⟨g2, g3⟩ := h1.cells)
    | (go_at_call 15; (with_reducible refine (HK.out _ h1).mono ?_); rintro e' w2 ⟨rfl, h2⟩; obtain ⟨g4, g5⟩ := h2.cells)
    | (go_at_call 12; (with_reducible refine (HU2.out _ h2).mono ?_); rintro e' w3 ⟨A3, c3, rfl, r3, hb3, h3⟩; obtain ⟨g6, g7⟩ := h3.cells; have HR3 := hid r3; clear r3)
    | (go_at_call 10; (with_reducible refine (HC.out _ h3).mono ?_); rintro e' w4 ⟨rfl, h4, hb4⟩; obtain ⟨g8, g9⟩ := h4.cells; have HR4 := hid (HR3.out.on hb4); clear hb4)
    | (at_make; (first
        | (refine wpList_make_full _ rfl (.tmp 101) (.tmp 101) 33 rfl w4.heap.size 3 i5 (.int .i64 0) 1 Try.underlying33 Ai.out Az0.out Az1.out _ _ _ _ N rfl rfl rfl rfl (by rw [Az2.out]; omega) (by unfold maxLen; omega) (Nat.le_refl _) ?_; intro w5 hown5 hg5; have HI5 := hid (IRow.made hown5); have b5 := grown_below hg5; have h5 := h4.next b5; obtain ⟨x0, x1⟩ := h5.cells; clear hown5 hg5)
        | (refine wpList_make_full _ rfl (.tmp 104) (.tmp 104) 33 rfl w5.heap.size 3 i5 (.int .i64 0) 1 Try.underlying33 Ai.out Az0.out Az1.out _ _ _ _ N rfl rfl rfl rfl (by rw [Az2.out]; omega) (by unfold maxLen; omega) (Nat.le_refl _) ?_; intro w6 hown6 hg6; have HO6 := hid (IRow.made hown6); have b6 := grown_below hg6; have h6 := h5.next b6; obtain ⟨y0, y1⟩ := h6.cells; clear hown6 hg6))))
  obtain ⟨GI, hGI⟩ : ∃ GI, w4.heap.size = GI := ⟨_, rfl⟩
  obtain ⟨GO, hGO⟩ : ∃ GO, w5.heap.size = GO := ⟨_, rfl⟩
  have hwG : w.heap.size < GI := by rw [← hGI]; exact h4.lt
  have HI6 : Hid (IRow w6 GI (List.replicate N 0)) := by rw [← hGI]; exact HI5.out.on b6
  have HB46 : Hid (Below w4.heap.size w4 w6) := b5.trans (b6.mono b5.size)
  have hGIO : GI < GO := by rw [← hGO, ← hGI]; exact HI5.out.lt
  rw [hGO] at HO6
  have H6 := hid h6
  have H4 := hid h4
  have hG4 : w4.heap.size ≤ GI := by omega
  simp only [hGI, hGO]
  clear g0 g1 g2 g3 g4 g5 g6 g7 g8 g9 x0 x1 y0 y1 h1 h2 h3 h4 h5 h6 b5 b6 HR3 HI5 HA HK HC HU2 hS hb3 t8
  go_loopw [16] (fun ii wr => ∃ (i : Nat) (dI dO : List Int), i ≤ m ∧ ii = .int .i64 i ∧ Hid (IRow wr GI dI) ∧ Hid (IRow wr GO dO) ∧ Hid (Tel N L (tov l) i dI) ∧ Hid (Tel N L (frm l) i dO) ∧ Hid (Held w (N : Int) A n c wr) ∧ Hid (Below w4.heap.size w4 wr)) (fun ii _ => m - (intOf ii).toNat)
  case atStart => exact ⟨0, _, _, Nat.zero_le _, rfl, HI6, HO6, Tel.zero _ _ _, Tel.zero _ _ _, H6, HB46⟩
  case round =>
    obtain ⟨i, dI, dO, hi, rfl, HIx, HOx, HTI, HTO, HHx, HBx⟩ := hrel
    obtain ⟨z0, z1⟩ := HHx.out.cells
    by_cases hlt : i < m
    · obtain ⟨ei, hei⟩ : ∃ ei, L[i]? = some ei := ⟨L[i]'(by rw [Hm.out]; exact hlt), List.getElem?_eq_getElem _⟩
      obtain ⟨k, rfl, hus⟩ := (Hmem.out _).1 (List.mem_of_getElem? hei)
      obtain ⟨a, b, _, _, hE, hf, hto, _, ha, hb, _⟩ := edge_facts HOK.out hus.1
      have hk2 : k < 240 := by have := hus.1; omega
      have HEk := hid (HE.out k hk2)
      rw [hE] at HEk
      obtain ⟨q, hq⟩ : ∃ q, k / 2 = q := ⟨_, rfl⟩
      have d1 : Int.tdiv (k : Int) 2 = (q : Int) := by rw [← hq]; rfl
      have hq3 : q ≤ 1000 := by omega
      have hdn := hus.2.1
      rw [hq] at hdn
      have HDk := hid (HDn.out q (by omega))
      rw [hdn] at HDk
      obtain ⟨b7, o7, rfl, hb7, hc7⟩ := HR4.out.2 (by omega)
      have cE := hid (hc7 i _ hei)
      obtain ⟨xO, hxO⟩ : ∃ xO, dAt dO (a : Int) = xO := ⟨_, rfl⟩
      obtain ⟨xI, hxI⟩ : ∃ xI, dAt dI (b : Int) = xI := ⟨_, rfl⟩
      have rO := HTO.out.2 a ha
      have rI := HTI.out.2 b hb
      rw [hxO] at rO
      rw [hxI] at rI
      have hw1 : IntKind.i64.wrap (xO + 1) = xO + 1 := by rw [IntKind.wrap_i64]; have := rO.1; have := rO.2.1; omega
      have hw2 : IntKind.i64.wrap (xI + 1) = xI + 1 := by rw [IntKind.wrap_i64]; have := rI.1; have := rI.2.1; omega
      have HTO2 := hid (HTO.out.step hei hf ha (x := xO + 1) (by rw [hxO]))
      have HTI2 := hid (HTI.out.step hei hto hb (x := xI + 1) (by rw [hxI]))
      have HgO := hid (hxO ▸ dAt_get (d := dO) (v := a) (by rw [HTO.out.1]; exact ha))
      have HgI := hid (hxI ▸ dAt_get (d := dI) (v := b) (by rw [HTI.out.1]; exact hb))
      have HAll : Hid (∀ w', Below wr.drew.heap.size wr.drew w' → (Held w (N : Int) A n c w' ∧ Below w4.heap.size w4 w' ∧ IRow w' GI dI ∧ IRow w' GO dO) ∧ (w'.cell? ⟨w.heap.size, 0, none⟩ = some (.int .i64 (N : Int)) ∧ w'.cell? ⟨w.heap.size, 1, none⟩ = some (.slice A n c) ∧ w'.cell? ⟨b7, o7 + i, none⟩ = some (.int .i64 (k : Int)))) := by
        intro w' hb'
        have hb4' : Below w4.heap.size w4 w' := HBx.out.drew.trans (hb'.mono HBx.out.size)
        have h5' := HHx.out.drew.next hb'
        exact ⟨⟨h5', hb4', (HIx.out.on ((Below.refl _ _).drew)).on hb', (HOx.out.on ((Below.refl _ _).drew)).on hb'⟩, h5'.cells.1, h5'.cells.2, (hb4'.cell (p := ⟨b7, o7 + i, none⟩) hb7).trans cE.out⟩
      obtain ⟨hA0, d0, d2, d3⟩ := HAll.out _ (Below.refl _ _)
      have i1 : (0 : Int) ≤ (i : Int) := by omega
      have i2 : (i : Int) < (m : Int) := by omega
      have hIO : GI ≠ GO := by omega
      have hOI : GO ≠ GI := by omega
      have Hei := hid hei
      clear hE hf hto hq hdn hxO hxI hei rO rI hus
      go_wp2_with fail
      go_region_held3 (fun w' => w'.cell? ⟨w.heap.size, 0, none⟩ = some (.int .i64 (N : Int)) ∧ w'.cell? ⟨w.heap.size, 1, none⟩ = some (.slice A n c) ∧ w'.cell? ⟨b7, o7 + i, none⟩ = some (.int .i64 (k : Int)))
        (first
          | go_keep
          | exact s9)
        (first
          | (go_at_call 17; (with_reducible refine (HEk.out _ hA0.1).mono ?_); rintro e' w9 ⟨rfl, b9⟩; obtain ⟨⟨h9, hb49, hi9, ho9⟩, s9⟩ := HAll.out _ b9; have HI9 := hid hi9; have HO9 := hid ho9; clear hi9 ho9))
      obtain ⟨u0, u1, u2⟩ := s9
      have cO := HO9.out.cell HgO.out
      have cI := HI9.out.cell HgI.out
      have fO := HO9.out.frozen a
      have fI := HI9.out.frozen b
      clear d0 d2 d3 z0 z1
      by_cases hi0 : i = 0
      · have t9 : decide ((0 : Int) < (i : Int)) = false := by simp; omega
        have t9' : decide (0 < i) = false := by simp; omega
        have u3 : w9.cell? ⟨b7, o7, none⟩ = some (.int .i64 (k : Int)) := by have h8 := u2; rw [hi0] at h8; exact h8
        have hi0 := hid hi0
        go_wp2_with (go_big_quiet ((go_at_call 18; exact Calls.quiet_of_same ((HDk.out _ (h9.drewN _)).mono fun e w' h => ⟨h.1, h.2.symm⟩))))
        clear hw1 hw2
        go_roundw
        case rel => exact ⟨i + 1, _, _, by omega, by rw [hi0.out]; rfl, (HI9.out.drewN nq).setO hIO |>.set _, ((HO9.out.drewN nq).set _).setO hOI, HTI2, HTO2, ((h9.drewN nq).set (by omega)).set hwG, ((below_drewN hb49).setCell (by show _ ≤ GO; omega) _).setCell (by show _ ≤ GI; omega) _⟩
        case measure => have h8 := hi0.out; simp [intOf]; omega
      · obtain ⟨j, rfl⟩ : ∃ j, i = j + 1 := ⟨i - 1, by omega⟩
        obtain ⟨ej, hej⟩ : ∃ ej, L[j]? = some ej := ⟨L[j]'(by rw [Hm.out]; omega), List.getElem?_eq_getElem _⟩
        have hlt2 : ej < (k : Int) := HSo.out j (j + 1) _ _ (by omega) hej Hei.out
        have u4 : w9.cell? ⟨b7, o7 + j, none⟩ = some (.int .i64 ej) := (hb49.cell (p := ⟨b7, o7 + j, none⟩) hb7).trans (hc7 j _ hej)
        have v5 : decide ((k : Int) ≤ ej) = false := by simp; omega
        have v6 : decide ((0 : Int) < ((j + 1 : Nat) : Int)) = true := decide_eq_true (by omega)
        have v7 : decide ((0 : Int) < (j : Int) + 1) = true := decide_eq_true (by omega)
        have v8 : decide (0 < j + 1) = true := decide_eq_true (by omega)
        have v9 : (0 : Int) ≤ (j : Int) := by omega
        have va : (j : Int) < (m : Int) := by omega
        have vb : (j : Int) + 1 < (m : Int) := by omega
        have vc : IntKind.i64.wrap (j : Int) = (j : Int) := by rw [IntKind.wrap_i64]; omega
        have vd : IntKind.i64.wrap ((j : Int) + 1) = (j : Int) + 1 := by rw [IntKind.wrap_i64]; omega
        clear hej hlt2 hi0
        go_wp2_with (go_big_quiet ((go_at_call 18; exact Calls.quiet_of_same ((HDk.out _ (h9.drewN _)).mono fun e w' h => ⟨h.1, h.2.symm⟩))))
        clear hw1 hw2 vc vd
        go_roundw
        case rel => exact ⟨j + 1 + 1, _, _, by omega, by go_num, (HI9.out.drewN nq).setO hIO |>.set _, ((HO9.out.drewN nq).set _).setO hOI, HTI2, HTO2, ((h9.drewN nq).set (by omega)).set hwG, ((below_drewN hb49).setCell (by show _ ≤ GO; omega) _).setCell (by show _ ≤ GI; omega) _⟩
        case measure => simp [intOf]; omega
    · obtain rfl : i = m := by omega
      have hI := fun (u : Nat) (hu : u < N) => HTI.out.all Hm.out hu Hmem.out
      have hO := fun (u : Nat) (hu : u < N) => HTO.out.all Hm.out hu Hmem.out
      have HI := hid hI
      have HO := hid hO
      have HIl := hid HTI.out.1
      have HOl := hid HTO.out.1
      have HIg := hid (fun (u : Nat) (hu : u < N) => dAt_get (d := dI) (v := u) (by rw [HTI.out.1]; exact hu))
      have HOg := hid (fun (u : Nat) (hu : u < N) => dAt_get (d := dO) (v := u) (by rw [HTO.out.1]; exact hu))
      have HI0 := hid (fun (u : Nat) (hu : u < N) => (HTI.out.2 u hu).1)
      have HO0 := hid (fun (u : Nat) (hu : u < N) => (HTO.out.2 u hu).1)
      clear hI hO z0 z1
      go_wp2_with fail
      go_loopw [20] (fun uu wx => ∃ u : Nat, u ≤ N ∧ uu = .int .i64 u ∧ Hid (IRow wx GI dI) ∧ Hid (IRow wx GO dO) ∧ Hid (Held w (N : Int) A n c wx)) (fun uu _ => N - (intOf uu).toNat)
      case atStart => exact ⟨0, Nat.zero_le _, rfl, HIx, HOx, HHx⟩
      case round =>
        obtain ⟨u, hu, rfl, HIy, HOy, HHy⟩ := hrel
        obtain ⟨z0, z1⟩ := HHy.out.cells
        by_cases hun : u < N
        · obtain ⟨p, hp⟩ : ∃ p, dAt dI (u : Int) = p := ⟨_, rfl⟩
          obtain ⟨q, hq⟩ : ∃ q, dAt dO (u : Int) = q := ⟨_, rfl⟩
          have cI := HIy.out.cell (HIg.out u hun)
          have cO := HOy.out.cell (HOg.out u hun)
          rw [hp] at cI
          rw [hq] at cO
          have i1 : (0 : Int) ≤ (u : Int) := by omega
          have i2 : (u : Int) < (N : Int) := by omega
          by_cases huS : u = S
          · have t9 : ((u : Int) != (S : Int)) = false := by simp; omega
            clear huS hp hq
            go_wp2_with (go_big_quiet (fail))
            go_roundw
            case rel => exact ⟨u + 1, by omega, by go_num, HIy.out.drewN nq, HOy.out.drewN nq, HHy.out.drewN nq⟩
            case measure => simp [intOf]; omega
          · have t9 : ((u : Int) != (S : Int)) = true := by simp; omega
            by_cases huT : u = T
            · have ta : ((u : Int) != (T : Int)) = false := by simp; omega
              clear huS huT hp hq
              go_wp2_with (go_big_quiet (fail))
              go_roundw
              case rel => exact ⟨u + 1, by omega, by go_num, HIy.out.drewN nq, HOy.out.drewN nq, HHy.out.drewN nq⟩
              case measure => simp [intOf]; omega
            · have ta : ((u : Int) != (T : Int)) = true := by simp; omega
              have hb := us_both (dn := dn) HOK.out hS2 hT hun huS huT
              have h1 := HI.out u hun
              have h2 := HO.out u hun
              rw [hp] at h1
              rw [hq] at h2
              have h3 : (0 < p) ↔ (0 < q) := h1.trans (hb.trans h2.symm)
              by_cases h4 : 0 < p
              · have tb : decide (0 < p) = true := decide_eq_true h4
                have tc : decide (0 < q) = true := decide_eq_true (h3.1 h4)
                clear huS huT hp hq hb h1 h2 h3 h4
                go_wp2_with (go_big_quiet (fail))
                go_roundw
                case rel => exact ⟨u + 1, by omega, by go_num, HIy.out.drewN nq, HOy.out.drewN nq, HHy.out.drewN nq⟩
                case measure => simp [intOf]; omega
              · have tb : decide (0 < p) = false := decide_eq_false h4
                have tc : decide (0 < q) = false := decide_eq_false (fun h => h4 (h3.2 h))
                clear huS huT hp hq hb h1 h2 h3 h4
                go_wp2_with (go_big_quiet (fail))
                go_roundw
                case rel => exact ⟨u + 1, by omega, by go_num, HIy.out.drewN nq, HOy.out.drewN nq, HHy.out.drewN nq⟩
                case measure => simp [intOf]; omega
        · obtain rfl : N = u := by omega
          have hX := us_in (dn := dn) (S := S) (T := T) HOK.out hS2 hT (fun e => hST e.symm) Hx.out (by rw [(dist_ok HOK.out hT).src]; exact Int.le_refl _) (by rw [(dist_ok (dn := dn) HOK.out hT).src, Int.add_zero])
          have hXo := us_out (dn := dn) (S := S) (T := T) HOK.out hT hS2 hST (by rw [(dist_ok HOK.out hS2).src]; exact Int.le_refl _) (by rw [dist_sym HOK.out hT hS2]; exact Hx.out) (by rw [(dist_ok (dn := dn) HOK.out hS2).src, dist_sym HOK.out hT hS2, Int.zero_add])
          have hXi : ¬∃ k, Us N l dn S T k ∧ tov l k = (S : Int) := fun ⟨k, h1, h2⟩ => (us_first HOK.out hS2 hT h1).1 h2
          have hXt : ¬∃ k, Us N l dn S T k ∧ frm l k = (T : Int) := fun ⟨k, h1, h2⟩ => (us_first HOK.out hS2 hT h1).2 h2
          obtain ⟨p1, hp1⟩ : ∃ p, dAt dI (S : Int) = p := ⟨_, rfl⟩
          obtain ⟨p2, hp2⟩ : ∃ p, dAt dO (T : Int) = p := ⟨_, rfl⟩
          obtain ⟨p3, hp3⟩ : ∃ p, dAt dO (S : Int) = p := ⟨_, rfl⟩
          obtain ⟨p4, hp4⟩ : ∃ p, dAt dI (T : Int) = p := ⟨_, rfl⟩
          have c1 := HIy.out.cell (HIg.out S hS2)
          have c2 := HOy.out.cell (HOg.out T hT)
          have c3' := HOy.out.cell (HOg.out S hS2)
          have c4 := HIy.out.cell (HIg.out T hT)
          have e1 := HI.out S hS2
          have e2 := HO.out T hT
          have e3 := HO.out S hS2
          have e4 := HI.out T hT
          have f1 := HI0.out S hS2
          have f2 := HO0.out T hT
          rw [hp1] at c1 e1 f1
          rw [hp2] at c2 e2 f2
          rw [hp3] at c3' e3
          rw [hp4] at c4 e4
          have g1 : ¬ 0 < p1 := fun h => hXi (e1.1 h)
          have g2 : ¬ 0 < p2 := fun h => hXt (e2.1 h)
          have s1 : (p1 == 0) = true := by simp; omega
          have s2 : (p2 == 0) = true := by simp; omega
          have s3 : decide (0 < p3) = true := decide_eq_true (e3.2 hXo)
          have s4 : decide (0 < p4) = true := decide_eq_true (e4.2 hX)
          clear hX hXo hXi hXt hp1 hp2 hp3 hp4 e1 e2 e3 e4 f1 f2 g1 g2
          go_wp2_with fail
          go_ret
          exact ⟨rfl, HHy.out.1⟩
theorem duses_any (h : DagSpec 10 9 12) (nd : Int) (A : Option Addr) (n c : Nat) (l : List Lnk) (Ad : Option Addr) (n' c' : Nat) (dn : List Bool) (s t : Int) (w : World) (hr : RLnk w w.heap.size A n l) (hc : n ≤ c) (hA : A = none → n = 0 ∧ c = 0) (hd : RBl w w.heap.size Ad n' dn) (hc' : n' ≤ c') (hA' : Ad = none → n' = 0 ∧ c' = 0) (hr1 : -9223372036854775808 ≤ nd ∧ nd ≤ 9223372036854775807) :
    Calls Try.prog 5 #[.agg #[.int .i64 nd, .slice A n c], .slice Ad n' c', .int .i64 s, .int .i64 t] w fun e w' => e = .returned (.bool true) ∧ Below w.heap.size w w' := by
  by_cases hn : (checkS nd l).2 = 0 ∧ n ≤ 60 ∧ n' ≤ 200 ∧ 0 ≤ s ∧ s < nd ∧ 0 ≤ t ∧ t < nd
  · obtain ⟨h0, h1, h2, h3, h4, h5, h6⟩ := hn
    obtain ⟨N, rfl⟩ := Int.eq_ofNat_of_zero_le (show 0 ≤ nd by omega)
    obtain ⟨S, rfl⟩ := Int.eq_ofNat_of_zero_le h3
    obtain ⟨T, rfl⟩ := Int.eq_ofNat_of_zero_le h5
    have hg : GArg w (N : Int) A n c l := ⟨hr, by omega, hc, hA, hr1.1, hr1.2⟩
    have hd2 : DArg w Ad n' c' dn := ⟨hd, h2, hc', hA'⟩
    by_cases hx : S = T ∨ dAt (distS N l dn S) (T : Int) < 0
    · exact duses_same h N A n c l Ad n' c' dn S T w hg hd2 h0 h1 (by omega) (by omega) hx
    · exact duses_way h N A n c l Ad n' c' dn S T w hg hd2 h0 h1 (by omega) (by omega) (fun e => hx (.inl e)) (Int.not_lt.1 (fun e => hx (.inr e)))
  · exact duses_not h nd A n c l Ad n' c' s t w hr hn
end Go.Proofs.Ytcjilpgblbnebaa
