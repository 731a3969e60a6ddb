/- TablesTell: a graph that is right. -/
import Derived.Test.YtiklfbbefchhlaaTbK
import Derived.Laws.StructEq
namespace Go.Proofs.Ytiklfbbefchhlaa
open Go.RowKit
set_option maxHeartbeats 12800000
set_option maxRecDepth 100000
theorem tell_in (h : TabSpec 7 10 11 14) (N : Nat) (A : Option Addr) (n c : Nat) (l : List Lnk) (a b : Int) (w : World) (hg : GAny w (N : Int) A n c l) (hn : n ≤ 40) (h0 : (checkS (N : Int) l).2 = 0) (ha : In64 a) (hb : In64 b) :
    Calls Try.prog 3 #[.agg #[.int .i64 (N : Int), .slice A n c], .int .i64 a, .int .i64 b] w fun e w' => e = .returned (.bool true) ∧ Below w.heap.size w w' := by
  have HA := hid (fun (w' : World) (hh : Held w (N : Int) A n c w') => hh.calls (alive_any h w'))
  obtain ⟨TabAt, ho, hgr⟩ := h
  have hS := Held.start w (N : Int) A n c
  obtain ⟨g0, g1⟩ := hS.cells
  have HNum := hid num_any
  have hl := hg.row.1
  have hok := gok_of h0
  have hN : N ≤ 40 := hok.2.2.1
  have HN := hid (fun (w' : World) (hh : Held w (N : Int) A n c w') => show Calls Try.prog 7 #[.agg #[.int .i64 (N : Int), .slice A n c]] w' fun e w'' => ∃ p, e = .returned (.tuple #[.pointer (some p), .int .i64 0]) ∧ HeldT TabAt w (N : Int) A n c p N l w'' by
    obtain ⟨M, hM, _, hc⟩ := (new_held ho hg hh).1 h0
    obtain rfl : N = M := by omega
    exact hc)
  have HR := hid (fun (p : Addr) (w' : World) (hh : HeldT TabAt w (N : Int) A n c p N l w') => new_ref ho.keep hg h0 hh)
  have HGr := hid (fun (p p' : Addr) (w' : World) (hh : HeldT TabAt w (N : Int) A n c p N l w') (hr : RefAt w' p' N l) => graph_hq ho.keep hgr hok hl hh hr)
  have HK := hid (fun (p p' : Addr) (BX : Nat) (Ag : Option Addr) (cg : Nat) (w' w'' : World) (hh : HQ TabAt w N A n c l p p' BX Ag cg w') (hb : Below w'.heap.size w' w'') => hh.next ho.keep hb)
  have HD := hid (fun (a b : Int) (ha : In64 a) (hb : In64 b) (p p' : Addr) (BX : Nat) (Ag : Option Addr) (cg : Nat) (w' : World) (hh : HQ TabAt w N A n c l p p' BX Ag cg w') => dist_hq ho hok a b ha hb w' hh)
  have HX := hid (fun (a b : Int) (ha : In64 a) (hb : In64 b) (p p' : Addr) (BX : Nat) (Ag : Option Addr) (cg : Nat) (w' : World) (hh : HQ TabAt w N A n c l p p' BX Ag cg w') => next_hq ho hok a b ha hb w' hh)
  have HSm := hid (fun (A1 A2 : Option Addr) (m c1 c2 : Nat) (L : List Int) (w' : World) (h1 : RInt w' w'.heap.size A1 m L) (h2 : RInt w' w'.heap.size A2 m L) (hm : m ≤ 1000) => same_any A1 A2 m c1 c2 L w' h1 h2 (by omega))
  have Hlen := hid (fun (a b : Int) => show (nextT N l a b).length ≤ 1000 by have := nextT_len N l a b; omega)
  have HDab := hid (HD.out a b ha hb)
  have HXab := hid (HX.out a b ha hb)
  have Hlab := hid (Hlen.out a b)
  have Hrow := hid hg.row
  obtain ⟨D, hD⟩ : ∃ D, distT N l a b = D := ⟨_, rfl⟩
  obtain ⟨L, hL⟩ : ∃ L, nextT N l a b = L := ⟨_, rfl⟩
  obtain ⟨m, hm⟩ : ∃ m, L.length = m := ⟨_, rfl⟩
  rw [hD] at HDab
  rw [hL] at HXab Hlab
  rw [hm] at HXab Hlab
  have t0 : decide ((40 : Int) < (n : Int)) = false := by simp; omega
  have t0' : decide (40 < n) = false := by simp; omega
  have t1 : ((0 : Int) != 0) = false := by decide
  have t2 : ((N : Int) != (N : Int)) = false := by simp
  have t3 : ((n : Int) != (n : Int)) = false := by simp
  have t4 : (D != D) = false := by simp
  clear hD hL hm ho hgr h0 hg hl hok ha hb
  go_enter Try.func3, Try.ntmps3
  go_wp2_with (first
    | (go_at_call 6; (with_reducible refine (HA.out _ hS).mono ?_); rintro e' w1 ⟨rfl, h1⟩; obtain ⟨g2, g3⟩ := h1.cells)
    | (go_at_call 7; (with_reducible refine (HN.out _ h1).mono ?_); rintro e' w2 ⟨p, rfl, h2⟩; obtain ⟨g4, g5⟩ := h2.held.cells)
    | (go_at_call 8; (with_reducible refine (HR.out _ _ h2).mono ?_); rintro e' w3 ⟨p', rfl, h3, r3⟩; obtain ⟨g6, g7⟩ := h3.held.cells)
    | (go_at_call 9; (with_reducible refine (HNum.out _ _).mono ?_); rintro _ _ ⟨rfl, rfl⟩)
    | (go_at_call 10; (with_reducible refine (HGr.out _ _ _ h3 r3).mono ?_); rintro e' w4 ⟨Ag, cg, rfl, q4⟩; have HQ4 := hid q4; obtain ⟨x0, x1, _⟩ := box_cells q4.box; obtain ⟨y0, y1⟩ := q4.held.cells; clear q4)
    | (go_at_call 11; (with_reducible refine (HDab.out _ _ _ _ _ _ HQ4.out).1.mono ?_); rintro e' w5 ⟨rfl, q5⟩; have HQ5 := hid q5; clear q5)
    | (go_at_call 12; (with_reducible refine (HDab.out _ _ _ _ _ _ HQ5.out).2.mono ?_); rintro e' w6 ⟨rfl, q6⟩; have HQ6 := hid q6; clear q6)
    | (go_at_call 14; (with_reducible refine (HXab.out _ _ _ _ _ _ HQ6.out).1.mono ?_); rintro e' w7 ⟨A7, c7, rfl, r7, b7, q7⟩; have HQ7 := hid q7; have HR7 := hid r7; clear q7 r7)
    | (go_at_call 15; (with_reducible refine (HXab.out _ _ _ _ _ _ HQ7.out).2.mono ?_); rintro e' w8 ⟨A8, c8, rfl, r8, b8, q8⟩; have HQ8 := hid q8; have HR8 := hid r8; have HR78 := hid (HR7.out.on b8); clear q8 r8)
    | (go_at_call 13; (with_reducible refine (HSm.out _ _ _ _ _ _ _ HR78.out HR8.out Hlab.out).mono ?_); rintro e' w9 ⟨rfl, b9⟩; have HQ9 := hid (HK.out _ _ _ _ _ _ _ HQ8.out b9); clear b9))
  obtain ⟨BX, hBX⟩ : ∃ BX, w4.heap.size = BX := ⟨_, rfl⟩
  rw [hBX] at HQ9
  simp only [hBX]
  clear hBX g0 g1 g2 g3 g4 g5 g6 g7 x0 x1 y0 y1 HR7 HR8 HR78 HQ4 HQ5 HQ6 HQ7 HQ8 h1 h2 h3 r3 b7 b8 HA HN HR HGr HDab HXab t1 t4
  go_loopw [13] (fun i wr => ∃ k : Nat, k ≤ n ∧ i = .int .i64 k ∧ Hid (HQ TabAt w N A n c l p p' BX Ag cg wr)) (fun i _ => n - (intOf i).toNat)
  case atStart => exact ⟨0, Nat.zero_le _, rfl, HQ9⟩
  case round =>
    obtain ⟨k, hk, rfl, HS⟩ := hrel
    obtain ⟨z0, z1⟩ := HS.out.held.cells
    obtain ⟨v0, v1, _⟩ := box_cells HS.out.box
    by_cases hlt : k < n
    · obtain ⟨x, hx⟩ : ∃ x, l[k]? = some x := ⟨l[k]'(by rw [Hrow.out.1]; exact hlt), List.getElem?_eq_getElem _⟩
      obtain ⟨bL, oL, rfl, hbL, hcL⟩ := Hrow.out.2 (by omega)
      obtain ⟨bG, oG, rfl, hbG, hcG⟩ := HS.out.lnk.2 (by omega)
      obtain ⟨k0, k1, k2, k3⟩ := hcG k x hx
      obtain ⟨m0, m1, m2, m3⟩ := hcL k x hx
      have hbw := HS.out.held.1
      have m0' := (hbw.cell (p := ⟨bL, oL + k * 4, none⟩) hbL).trans m0
      have m1' := (hbw.cell (p := ⟨bL, oL + k * 4 + 1, none⟩) hbL).trans m1
      have m2' := (hbw.cell (p := ⟨bL, oL + k * 4 + 2, none⟩) hbL).trans m2
      have m3' := (hbw.cell (p := ⟨bL, oL + k * 4 + 3, none⟩) hbL).trans m3
      have n40 := ne40 x
      have g40' := g40
      clear hcL hcG hx m0 m1 m2 m3
      go_wp2_with fail
      go_big_quiet (fail)
      clear n40 g40'
      go_wp2_with fail
      go_roundw
      case rel => exact ⟨k + 1, by omega, by go_num, HK.out _ _ _ _ _ _ _ HS.out (below_drewN (Below.refl _ _))⟩
      case measure => simp [intOf]; omega
    · obtain rfl : n = k := by omega
      go_wp2_with fail
      clear v0 v1 z0 z1 hlt
      go_loopw [14, 15] (fun i _ wx => ∃ k : Nat, k ≤ N ∧ i = .int .i64 k ∧ Hid (HQ TabAt w N A n c l p p' BX Ag cg wx)) (fun i _ _ => N - (intOf i).toNat)
      case atStart => exact ⟨0, Nat.zero_le _, rfl, HS⟩
      case round =>
        obtain ⟨k, hk2, rfl, HT⟩ := hrel
        obtain ⟨z0, z1⟩ := HT.out.held.cells
        by_cases hlt : k < N
        · go_wp2_with fail
          go_loopw [15] (fun j wy => ∃ q : Nat, q ≤ N ∧ j = .int .i64 q ∧ Hid (HQ TabAt w N A n c l p p' BX Ag cg wy)) (fun j _ => N - (intOf j).toNat)
          case atStart => exact ⟨0, Nat.zero_le _, rfl, HT⟩
          case round =>
            obtain ⟨q, hq, rfl, HU⟩ := hrel
            obtain ⟨u0, u1⟩ := HU.out.held.cells
            by_cases hlq : q < N
            · have HDk := hid (HD.out (k : Int) (q : Int) ⟨by omega, by omega⟩ ⟨by omega, by omega⟩)
              have HXk := hid (HX.out (k : Int) (q : Int) ⟨by omega, by omega⟩ ⟨by omega, by omega⟩)
              have Hlk := hid (Hlen.out (k : Int) (q : Int))
              obtain ⟨D1, hD1⟩ : ∃ D1, distT N l (k : Int) (q : Int) = D1 := ⟨_, rfl⟩
              obtain ⟨L1, hL1⟩ : ∃ L1, nextT N l (k : Int) (q : Int) = L1 := ⟨_, rfl⟩
              obtain ⟨m1, hm1⟩ : ∃ m1, L1.length = m1 := ⟨_, rfl⟩
              rw [hD1] at HDk
              rw [hL1] at HXk Hlk
              rw [hm1] at HXk Hlk
              have t5 : (D1 != D1) = false := by simp
              clear hD1 hL1 hm1
              go_wp2_with (first
                | (go_at_call 11; (with_reducible refine (HDk.out _ _ _ _ _ _ HU.out).1.mono ?_); rintro e' w5 ⟨rfl, q5⟩; have HQ5 := hid q5; clear q5)
                | (go_at_call 12; (with_reducible refine (HDk.out _ _ _ _ _ _ HQ5.out).2.mono ?_); rintro e' w6 ⟨rfl, q6⟩; have HQ6 := hid q6; clear q6)
                | (go_at_call 14; (with_reducible refine (HXk.out _ _ _ _ _ _ HQ6.out).1.mono ?_); rintro e' w7 ⟨A7, c7, rfl, r7, b7, q7⟩; have HQ7 := hid q7; have HR7 := hid r7; clear q7 r7)
                | (go_at_call 15; (with_reducible refine (HXk.out _ _ _ _ _ _ HQ7.out).2.mono ?_); rintro e' w8 ⟨A8, c8, rfl, r8, b8, q8⟩; have HQ8 := hid q8; have HR8 := hid r8; have HR78 := hid (HR7.out.on b8); clear q8 r8)
                | (go_at_call 13; (with_reducible refine (HSm.out _ _ _ _ _ _ _ HR78.out HR8.out Hlk.out).mono ?_); rintro e' w10 ⟨rfl, b9⟩; have HQ10 := hid (HK.out _ _ _ _ _ _ _ HQ8.out b9); clear b9))
              go_roundw
              case rel => exact ⟨q + 1, by omega, by go_num, HQ10⟩
              case measure => simp [intOf]; omega
            · obtain rfl : N = q := by omega
              go_wp2_with fail
              go_roundw
              case rel => exact ⟨k + 1, by omega, by go_num, HU⟩
              case measure => simp [intOf]; omega
        · obtain rfl : N = k := by omega
          go_wp2_with fail
          go_ret
          exact ⟨rfl, HT.out.held.1⟩
theorem tell_any (h : TabSpec 7 10 11 14) (nd : Int) (A : Option Addr) (n c : Nat) (l : List Lnk) (a b : Int) (w : World) (hg : GAny w nd A n c l) (ha : In64 a) (hb : In64 b) :
    Calls Try.prog 3 #[.agg #[.int .i64 nd, .slice A n c], .int .i64 a, .int .i64 b] w fun e w' => e = .returned (.bool true) ∧ Below w.heap.size w w' := by
  by_cases h4 : 40 < n
  · exact tell_not h nd A n c l a b w hg (.inl h4)
  · by_cases h0 : (checkS nd l).2 = 0
    · obtain ⟨_, h2, _, _⟩ := checkS_ok h0
      obtain ⟨N, rfl⟩ := Int.eq_ofNat_of_zero_le (show 0 ≤ nd by omega)
      exact tell_in h N A n c l a b w hg (by omega) h0 ha hb
    · exact tell_not h nd A n c l a b w hg (.inr h0)
end Go.Proofs.Ytiklfbbefchhlaa
