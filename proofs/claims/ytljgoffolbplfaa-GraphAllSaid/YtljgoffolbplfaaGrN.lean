/- GraphAll. -/
import Derived.Test.YtljgoffolbplfaaGrM
namespace Go.Proofs.Ytljgoffolbplfaa
open Go.RowKit
set_option maxHeartbeats 6400000
set_option maxRecDepth 100000
theorem all_not (nd : Int) (A : Option Addr) (n c : Nat) (l : List Lnk) (w : World) (hr : RLnk w w.heap.size A n l) (h : (checkS nd l).2 ≠ 0) :
    Calls Try.prog 6 #[.agg #[.int .i64 nd, .slice A n c]] w fun e w' => e = .returned (.bool true) ∧ Below w.heap.size w w' := by
  have hS := Held.start w nd A n c
  have HA := hid (fun (w' : World) (h : Held w nd A n c w') => h.calls (alive_any w'))
  have HK' := hid (fun (w' : World) (h : Held w nd A n c w') => h.calls (refCheck_any nd A n c l w' (h.on hr)))
  obtain ⟨k1, hk1⟩ : ∃ k1, (checkS nd l).1 = k1 := ⟨_, rfl⟩
  obtain ⟨k2, hk2⟩ : ∃ k2, (checkS nd l).2 = k2 := ⟨_, rfl⟩
  rw [hk1, hk2] at HK'
  have t1 : (k2 != 0) = true := by rw [← hk2]; simpa using h
  clear hr h hk1 hk2
  go_enter Try.func6, Try.ntmps6
  go_wp2_with (first
    | (go_at_call 14; (with_reducible refine (HA.out _ hS).mono ?_); rintro e' w1 ⟨rfl, h1⟩; obtain ⟨g0, g1⟩ := h1.cells)
    | (go_at_call 16; (with_reducible refine (HK'.out _ h1).mono ?_); rintro e' w3 ⟨rfl, h3⟩; obtain ⟨g4, g5⟩ := h3.cells))
  go_ret
  exact ⟨rfl, h3.1⟩
theorem out_row {nd : Int} {A : Option Addr} {n c : Nat} {l : List Lnk} {node : Int} {w : World} {N : Nat} (hr : RLnk w w.heap.size A n l) (hn : n ≤ 1000) (hN : 2 * n = N) :
    Calls Try.prog 21 #[.agg #[.int .i64 nd, .slice A n c], .int .i64 node] w fun e w' => ∃ (A' : Option Addr) (m c' : Nat), e = .returned (.slice A' m c') ∧ (outS l node N).length = m ∧ w'.ownsRow w.heap.size 3 1 (.slice A' m c') m (icells (outS l node N)) ∧ Below w.heap.size w w' := by
  refine (out_any nd A n c l node w hr hn).mono ?_
  rintro e' w' ⟨v, rfl, hown, hb⟩
  rw [hr.1, hN] at hown
  obtain ⟨A', c', rfl⟩ := own_shape hown
  exact ⟨A', _, c', rfl, rfl, hown, hb⟩
theorem out_none {f : Nat} {args : Array Value} {l : List Lnk} {node : Int} {w : World} {N : Nat} (hc : Calls Try.prog f args w fun e w' => ∃ (A' : Option Addr) (m c' : Nat), e = .returned (.slice A' m c') ∧ (outS l node N).length = m ∧ w'.ownsRow w.heap.size 3 1 (.slice A' m c') m (icells (outS l node N)) ∧ Below w.heap.size w w')
    (h : ∀ e, e < N → frm l e ≠ node) : Calls Try.prog f args w fun e w' => ∃ (A' : Option Addr) (c' : Nat), e = .returned (.slice A' 0 c') ∧ Below w.heap.size w w' := by
  refine hc.mono ?_
  rintro e' w' ⟨A', m, c', rfl, hm, _, hb⟩
  rw [outS_none h] at hm
  subst hm
  exact ⟨A', c', rfl, hb⟩
theorem own_ri {w : World} {base m c : Nat} {A : Option Addr} {l : List Int} (h : w.ownsRow base 3 1 (.slice A m c) m (icells l)) (hl : l.length = m) : RInt w w.heap.size A m l := by
  obtain ⟨A', cap', hv, _, hr⟩ := own_ints h hl
  simp only [Value.slice.injEq] at hv
  obtain ⟨rfl, _, _⟩ := hv
  exact hr
theorem all_in (d : Nat) (A : Option Addr) (n c : Nat) (l : List Lnk) (w : World) (hr : RLnk w w.heap.size A n l) (h : (checkS (d : Int) l).2 = 0) :
    Calls Try.prog 6 #[.agg #[.int .i64 (d : Int), .slice A n c]] w fun e w' => e = .returned (.bool true) ∧ Below w.heap.size w w' := by
  have hS := Held.start w (d : Int) A n c
  obtain ⟨hn, hd1, hd2, hck⟩ := checkS_ok h
  have hl := hr.1
  rw [hl] at hn
  obtain ⟨i5, hi, hz0, hz1, hz2⟩ := info_parts (show (Try.prog.info? 4).map (fun i => (i.zero, i.size, i.bytes)) = some (some (.bool false), 1, 1) by kernel_rfl)
  have Ai := hid hi; have Az0 := hid hz0; have Az1 := hid hz1; have Az2 := hid hz2
  clear hi hz0 hz1 hz2
  obtain ⟨N, hN⟩ : ∃ N, 2 * n = N := ⟨_, rfl⟩
  have HF : Hid (∀ e, e < N → 0 ≤ frm l e ∧ frm l e < (d : Int)) := fun e he => frm_range hck (by omega)
  have HA := hid (fun (w' : World) (h : Held w (d : Int) A n c w') => h.calls (alive_any w'))
  have HK' := hid (fun (w' : World) (h : Held w (d : Int) A n c w') => h.calls (refCheck_any (d : Int) A n c l w' (h.on hr)))
  have HO := hid (fun (i : Int) (w' : World) (h : Held w (d : Int) A n c w') => out_row (nd := (d : Int)) (c := c) (node := i) (h.on hr) (by omega) hN)
  have HE := hid (fun (w' : World) (h : Held w (d : Int) A n c w') => h.calls (ends_any (d : Int) A n c l (N : Int) w' (h.on hr) (by omega) (by omega)))
  have hE : endsS l (N : Int) = (0, 0, false) := endsS_none (by omega)
  rw [hE] at HE
  have HB : Hid (∀ w, Calls Try.prog 23 #[.int .i64 (-1)] w fun x w' => x = .returned (.int .i64 (-1)) ∧ w = w') := fun w => back_any (-1) w (by omega)
  obtain ⟨k1, hk1⟩ : ∃ k1, (checkS (d : Int) l).1 = k1 := ⟨_, rfl⟩
  rw [hk1, h] at HK'
  have tE : ((0 : Int) != 0) = false := by decide
  have hN2 : (2 * (n : Int)) = (N : Int) := by omega
  clear hr h hk1 hE hck
  go_enter Try.func6, Try.ntmps6
  go_wp2_with (first
    | (go_at_call 14; (with_reducible refine (HA.out _ hS).mono ?_); rintro e' w1 ⟨rfl, h1⟩; obtain ⟨g0, g1⟩ := h1.cells)
    | (go_at_call 16; (with_reducible refine (HK'.out _ h1).mono ?_); rintro e' w2 ⟨rfl, h2⟩; obtain ⟨g4, g5⟩ := h2.cells)
    | (at_make; refine wpList_make_full _ rfl (.tmp 30) (.tmp 30) 43 rfl w2.heap.size 4 i5 (.bool false) 1 Try.underlying43 Ai.out Az0.out Az1.out _ _ _ _ N rfl rfl (by omega) (by omega) (by rw [Az2.out]; omega) (by unfold maxLen; omega) (Nat.le_refl _) ?_; intro w3 hown3 hg3; have HR3 := hid (BRow.made hown3); have h3 := h2.next (grown_below hg3); clear hown3 hg3))
  obtain ⟨G, hG⟩ : ∃ G, w2.heap.size = G := ⟨_, rfl⟩
  have hwG : w.heap.size < G := by rw [← hG]; exact h2.lt
  rw [hG] at HR3
  simp only [hG]
  clear hG g0 g1 g4 g5
  go_loopw [7, 8] (fun cnt ii wr => ∃ (i q : Nat), i ≤ d ∧ ii = .int .i64 i ∧ cnt = .int .i64 q ∧ Hid (q = cntB l (i : Int) N) ∧ Hid (BRow wr G N (marks l (i : Int) N 0)) ∧ Hid (Held w (d : Int) A n c wr)) (fun _ ii _ => d - (intOf ii).toNat)
  case atStart => exact ⟨0, 0, Nat.zero_le _, rfl, rfl, (cntB_zero (fun e he => (HF.out e he).1)).symm, HR3.out.congr (fun e he => marks_zero (HF.out e he).1), h3⟩
  case round =>
    obtain ⟨i, q, hi, rfl, rfl, HC, HR, HH⟩ := hrel
    obtain ⟨e0, e1⟩ := HH.out.cells
    have hqN : q ≤ N := by have := HC.out; have := cntB_le l (i : Int) N; omega
    by_cases hlt : i < d
    · have HOi := hid (HO.out (i : Int) wr HH.out)
      go_wp2_with (go_at_call 21; (with_reducible refine HOi.out.mono ?_); rintro e' w4 ⟨A4, m, c4, rfl, hm, hown4, hb4⟩; have HM := hid hm; have HO4 := hid hown4; have HR4 := hid (HR.out.on hb4); have HH4 := hid (HH.out.next hb4); clear hm hown4)
      have hGs : G < wr.heap.size := HR.out.lt
      obtain ⟨S, hS'⟩ : ∃ S, wr.heap.size = S := ⟨_, rfl⟩
      rw [hS'] at HO4 hGs
      go_loopw [7, 10] (fun cnt kk wx => ∃ (k p : Nat), k ≤ m ∧ kk = .int .i64 k ∧ cnt = .int .i64 p ∧ Hid (p = q + k) ∧ Hid (BRow wx G N (marks l (i : Int) N k)) ∧ Hid (Held w (d : Int) A n c wx) ∧ Hid (wx.ownsRow S 3 1 (.slice A4 m c4) m (icells (outS l (i : Int) N)))) (fun _ kk _ => m - (intOf kk).toNat)
      case atStart => exact ⟨0, q, Nat.zero_le _, rfl, rfl, rfl, HR4.out, HH4.out, HO4.out⟩
      case round =>
        obtain ⟨k, p, hk, rfl, rfl, HP, HRx, HHx, HOx⟩ := hrel
        have hmN : m ≤ N := by rw [← HM.out]; exact outS_len _ _ _
        have hpN : p ≤ 1000 := by have := HP.out; omega
        by_cases hkm : k < m
        · obtain ⟨x, hx⟩ : ∃ x, (outS l (i : Int) N)[k]? = some x := ⟨(outS l (i : Int) N)[k]'(by rw [HM.out]; exact hkm), List.getElem?_eq_getElem _⟩
          obtain ⟨e, rfl, heN, hf, hnm⟩ := row_next hx
          obtain ⟨b4, o4, rfl, hb4', hc4⟩ := (own_ri HOx.out HM.out).2 (by omega)
          have c0 := hc4 k _ hx
          have d0 := HRx.out.cell heN
          rw [marks_new hf hnm] at d0
          have f0 := HRx.out.frozen e
          have HX := hid (fun j => marks_step hx j)
          have HX2 : Hid (∀ nq, BRow ((wr.drewN nq).setCell ⟨G, e, none⟩ (.bool true)) G N (marks l (i : Int) N (k + 1))) := fun nq => (HRx.out.drewN nq).set true |>.congr (fun j _ => HX.out j)
          have t1 : decide ((e : Int) < 0) = false := by simp
          have t2 : decide ((N : Int) ≤ (e : Int)) = false := by simp; omega
          have t2' : decide (N ≤ e) = false := by simp; omega
          cases k with
          | zero =>
            clear hc4 hx hf hnm
            have z0 : ((0 : Nat) : Int) = 0 := rfl
            simp only [z0]
            rw [Nat.add_zero] at c0
            go_wp2_with fail
            go_big_quiet (fail)
            go_wp2_with fail
            go_roundw
            case rel => exact ⟨0 + 1, p + 1, by omega, by go_num, by go_num, hid (by have := HP.out; omega), HX2.out nq, (HHx.out.drewN nq).set hwG, own_set (own_below HOx.out (below_drewN (Below.refl _ _))) hGs _⟩
            case measure => simp [intOf]; omega
          | succ j =>
            obtain ⟨y, hy⟩ : ∃ y, (outS l (i : Int) N)[j]? = some y := ⟨(outS l (i : Int) N)[j]'(by rw [HM.out]; omega), List.getElem?_eq_getElem _⟩
            have c1 := hc4 j _ hy
            have hyx := sorted_at (outS_sorted l (i : Int) N) hy hx (by omega)
            have t3 : decide ((e : Int) ≤ y) = false := by simp; omega
            clear hc4 hx hf hnm hy
            go_wp2_with fail
            go_big_quiet (fail)
            go_wp2_with fail
            go_roundw
            case rel => exact ⟨j + 1 + 1, p + 1, by omega, by go_num, by go_num, hid (by have := HP.out; omega), HX2.out nq, (HHx.out.drewN nq).set hwG, own_set (own_below HOx.out (below_drewN (Below.refl _ _))) hGs _⟩
            case measure => simp [intOf]; omega
        · obtain rfl : k = m := by omega
          have HC2 : Hid (p = cntB l ((i + 1 : Nat) : Int) N) := by
            have h1 := cntB_succ l (i : Int) N
            have h2 := HP.out
            have h3 := HC.out
            rw [HM.out] at h1
            show p = cntB l (((i : Nat) : Int) + 1) N
            omega
          have HR2 : Hid (BRow wr G N (marks l ((i + 1 : Nat) : Int) N 0)) := HRx.out.congr (fun j hj => marks_end HM.out hj)
          go_wp2_with fail
          go_roundw
          case rel => exact ⟨i + 1, p, by omega, by go_num, rfl, HC2.out, HR2.out, HHx.out⟩
          case measure => simp [intOf]; omega
    · obtain rfl : i = d := by omega
      have hq : q = N := HC.out.trans (cntB_all (fun e he => (HF.out e he).2))
      have tq : ((N : Int) == (N : Int)) = true := by simp
      subst hq
      have HOm := hid (fun (w' : World) (h : Held w (i : Int) A n c w') => out_none (HO.out (-1) w' h) (fun e he => by have := (HF.out e he).1; omega))
      have HOd := hid (fun (w' : World) (h : Held w (i : Int) A n c w') => out_none (HO.out (i : Int) w' h) (fun e he => by have := (HF.out e he).2; omega))
      go_wp2_with (first
        | (go_at_call 17; (with_reducible refine (HE.out _ HH.out).mono ?_); rintro e' w5 ⟨rfl, h5⟩; obtain ⟨g6, g7⟩ := h5.cells)
        | (go_at_call 21; (with_reducible refine (HOm.out _ h5).mono ?_); rintro e' w6 ⟨A6, c6, rfl, hb6⟩; have h6 := h5.next hb6; obtain ⟨g8, g9⟩ := h6.cells)
        | (go_at_call 21; (with_reducible refine (HOd.out _ h6).mono ?_); rintro e' w7 ⟨A7, c7, rfl, hb7⟩; have h7 := h6.next hb7; obtain ⟨g10, g11⟩ := h7.cells)
        | (go_at_call 23; (with_reducible refine (HB.out _).mono ?_); rintro _ _ ⟨rfl, rfl⟩))
      go_ret
      exact ⟨rfl, h7.1⟩
theorem all_any (nd : Int) (A : Option Addr) (n c : Nat) (l : List Lnk) (w : World) (hr : RLnk w w.heap.size A n l) :
    Calls Try.prog 6 #[.agg #[.int .i64 nd, .slice A n c]] w fun e w' => e = .returned (.bool true) ∧ Below w.heap.size w w' := by
  by_cases h : (checkS nd l).2 = 0
  · obtain ⟨d, rfl⟩ := Int.eq_ofNat_of_zero_le (show 0 ≤ nd by have := (checkS_ok h).2.1; omega)
    exact all_in d A n c l w hr h
  · exact all_not nd A n c l w hr h
end Go.Proofs.Ytljgoffolbplfaa
