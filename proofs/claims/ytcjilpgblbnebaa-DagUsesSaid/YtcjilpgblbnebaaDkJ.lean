/- dag.Uses. -/
import Derived.Test.YtcjilpgblbnebaaDkH
import Derived.Test.YtcjilpgblbnebaaDgF
import Derived.Test.YtcjilpgblbnebaaDkS
import Derived.Lib.SortBridge
namespace Go.Proofs.Ytcjilpgblbnebaa
open Go.RowKit
set_option maxHeartbeats 6400000
set_option maxRecDepth 100000
theorem put_size {w1 : World} {blk off n : Nat} {d : Array Int} : (Go.Sort.putRow (Value.int .i64) (Go.Sort.ahead w1 n) blk off d).heap.size = w1.heap.size := by
  simp [Go.Sort.putRow, Go.Sort.mapBlock, Go.Sort.ahead]
theorem sorted_below {w w1 : World} {B blk off n : Nat} {d : Array Int} {os : Array Obj} (h : Below B w w1) (hB : B ≤ blk) (hlt : blk < w1.heap.size) : Below B w (Go.Sort.grow (Go.Sort.putRow (Value.int .i64) (Go.Sort.ahead w1 n) blk off d) os) := by
  refine ⟨h.os, h.tape, h.output, ?_, fun k hk => ?_⟩
  · have := h.size
    rw [Go.Sort.size_grow, put_size]
    omega
  · rw [Go.Sort.heap_grow_old _ _ (by rw [put_size]; omega)]
    refine Eq.trans ?_ (h.block k hk)
    show (w1.heap.modify blk _)[k]? = _
    rw [Array.getElem?_modify, if_neg (by omega)]
/-- A row of ints that the call made, sorted in place. -/
theorem sort_own {w w1 : World} {B m c : Nat} {A : Option Addr} {L : List Int} (hown : w1.ownsRow B 3 1 (.slice A m c) m (icells L)) (hL : L.length = m) (hm : m ≤ 10000) (hb : Below B w w1) :
    Calls Try.prog 23 #[.slice A m c] w1 fun e w' => e = .returned (.tuple #[]) ∧ RInt w' w'.heap.size A m (L.mergeSort fun x y => decide (x ≤ y)) ∧ Below B w w' := by
  rcases Nat.eq_zero_or_pos m with h0 | h0
  · subst h0
    refine (slices_Sort_int_none A c w1).mono ?_
    rintro e' w' ⟨rfl, rfl⟩
    obtain rfl := List.length_eq_zero_iff.1 hL
    exact ⟨rfl, ⟨by simp, fun h => by omega⟩, hb⟩
  · rcases hown.2 with ⟨_, h1⟩ | ⟨g, cap, cur, he, hg, hh, _⟩
    · omega
    simp only [Value.slice.injEq, true_and] at he
    obtain ⟨rfl, rfl⟩ := he
    have hlt := heap_lt hh
    have hc : ∀ j, j < L.length → w1.cell? ⟨g, 0 + j, none⟩ = some (.int .i64 (L.getD j 0)) := by
      intro j hj
      have h2 : (icells L)[j]? = some (.int .i64 L[j]) := by simp [icells, hj]
      have k1 := hown.cells (g := g) rfl _ _ h2
      rw [Go.WideShapes.add_plain] at k1
      rw [k1, List.getD_eq_getElem?_getD, List.getElem?_eq_getElem hj]
      rfl
    have hH := Go.Lib.holds_of_ints (w := w1) (b := g) (off := 0) (n := L.length) (zs := L) (Nat.le_refl _) hc (fun j _ => frozen_of_row _ _ _ _ _ hh)
    rw [List.take_of_length_le (Nat.le_refl _)] at hH
    have hs := slices_Sort_int g 0 c L w1 hH hlt (by omega)
    rw [hL] at hs
    refine hs.mono ?_
    rintro e' w' ⟨rfl, n, os, rfl⟩
    have hl2 : (L.mergeSort fun x y => decide (x ≤ y)).length = m := by rw [List.length_mergeSort, hL]
    refine ⟨rfl, ⟨hl2, fun _ => ⟨g, 0, rfl, ?_, fun i x hx => ?_⟩⟩, sorted_below hb hg hlt⟩
    · rw [Go.Sort.size_grow, put_size]; omega
    · rw [Go.Lib.sorted_world (Value.int .i64) w1 g 0 n L.toArray (L.mergeSort fun x y => decide (x ≤ y)) os hH (by simp)]
      have hi := (List.getElem?_eq_some_iff.1 hx).1
      have h3 := Go.Lib.cells_sorted_ints (W := w1) (b := g) (off := 0) (n := L.length) (q := n) (zs := L) (ys := L.mergeSort fun x y => decide (x ≤ y)) (os := os) (Nat.le_refl _) (by rw [List.length_mergeSort]) hc i (by rw [List.length_append]; omega)
      rw [h3, List.getD_eq_getElem?_getD, List.getElem?_append_left hi, hx]
      rfl
theorem uses_in (N : Nat) (A : Option Addr) (n c : Nat) (l : List Lnk) (Ad : Option Addr) (n' c' : Nat) (dn : List Bool) (S T : Nat) (w : World) (hr : GArg w (N : Int) A n c l) (hd : DArg w Ad n' c' dn) (h : (checkS (N : Int) l).2 = 0) (hS : S < N) (hT : T < N) (h0 : 0 ≤ dAt (distS N l dn T) (S : Int)) :
    Calls Try.prog 12 #[.agg #[.int .i64 (N : Int), .slice A n c], .slice Ad n' c', .int .i64 (S : Int), .int .i64 (T : Int)] w (RowAns (usesS (N : Int) l dn (S : Int) (T : Int)) w) := by
  have hok := gok_of h
  have hnd : N ≤ 40 := hok.2.2.1
  have hSt := Held.start w (N : Int) A n c
  have HSp : Hid (Calls Try.prog 21 #[.agg #[.int .i64 (N : Int), .slice A n c], .slice Ad n' c', .int .i64 (S : Int), .int .i64 (T : Int)] (w.alloc (.cells #[.int .i64 (N : Int), .slice A n c] 24)) fun e w' => ∃ v L m, e = .returned (.tuple #[v, .bool true]) ∧ StpIn N L ∧ ((L.map (·.e)).mergeSort fun x y => decide (x ≤ y)) = usesS (N : Int) l dn (S : Int) (T : Int) ∧ w'.ownsRow (w.heap.size + 1) 54 3 v m (scells L) ∧ L.length = m ∧ m ≤ 9600 ∧ Held w (N : Int) A n c w') := by
    refine (steps_in N A n c l Ad n' c' dn S T _ (hr.on hSt.1) (hd.on hSt.1) h hS hT h0).mono ?_
    rintro e w' ⟨v, vs, rfl, hf, hown, hl, hb⟩
    rw [size_alloc_eq] at hown
    exact ⟨v, _, _, rfl, steps_stp hok hS hT hf, uses_eq hok hS hT hf h0, hown, rfl, hl, hSt.next hb⟩
  obtain ⟨g0, g1⟩ := hSt.cells
  obtain ⟨X, hX⟩ : ∃ X, usesS (N : Int) l dn (S : Int) (T : Int) = X := ⟨_, rfl⟩
  rw [hX] at HSp ⊢
  obtain ⟨i5, hi, hz0, hz1, hz2⟩ := info_parts (show (Try.prog.info? 3).map (fun i => (i.zero, i.size, i.bytes)) = some (some (.int .i64 0), 1, 8) by kernel_rfl)
  have Ai := hid hi; have Az0 := hid hz0; have Az1 := hid hz1; have Az2 := hid hz2
  clear hi hz0 hz1 hz2 hr hd h h0 hok hX
  go_enter Try.func12, Try.ntmps12
  go_wp2_with (first
    | (go_at_call 21; (with_reducible refine HSp.out.mono ?_); rintro e' w1 ⟨v1, L, m, rfl, hin, hfin, hown1, hLm, hm, h1⟩; obtain ⟨AL, cL, rfl, hmc, hcL⟩ := own_stps hown1 hLm; obtain ⟨g2, g3⟩ := h1.cells; have HIn := hid hin; have HFin := hid hfin; have HLm := hid hLm; have HcL := hid hcL; clear hin hfin hown1 hLm hcL))
  have HcL2 : Hid (∀ (i : Nat) (e : Stp), L[i]? = some e → ∃ b, AL = some ⟨b, 0, none⟩ ∧ b < w1.heap.size ∧ w1.cell? ⟨b, i * 3, none⟩ = some (.int .i64 e.e) ∧ w1.cell? ⟨b, i * 3 + 1, none⟩ = some (.int .i64 e.a) ∧ w1.cell? ⟨b, i * 3 + 2, none⟩ = some (.int .i64 e.b)) := by
    intro i e he
    have := (List.getElem?_eq_some_iff.1 he).1
    have h4 := HLm.out
    obtain ⟨b, e1, _, e2, e3⟩ := HcL.out (by omega)
    exact ⟨b, e1, by omega, e3 i e he⟩
  clear HcL g0 g1 g2 g3 HSp hSt
  go_loopw [11, 13, 24] (fun vv _ i wr => ∃ k : Nat, k ≤ m ∧ i = .int .i64 k ∧ Hid (wr.ownsRow w1.heap.size 3 1 vv ((L.take k).map (·.e)).length (icells ((L.take k).map (·.e)))) ∧ Hid (Below w1.heap.size w1 wr)) (fun _ _ i _ => m - (intOf i).toNat)
  case atStart => exact ⟨0, Nat.zero_le _, rfl, World.ownsRow_nil _ _ _ _, Below.refl _ _⟩
  case round =>
    obtain ⟨k, hk, rfl, HOw, HBw⟩ := hrel
    by_cases hlt : k < m
    · obtain ⟨s, hs⟩ : ∃ s, L[k]? = some s := ⟨L[k]'(by rw [HLm.out]; exact hlt), List.getElem?_eq_getElem _⟩
      obtain ⟨e, a, b, rfl, ha, hb, _⟩ := HIn.out s (List.mem_of_getElem? hs)
      obtain ⟨bl, rfl, hbl, q0, q1, q2⟩ := HcL2.out k _ hs
      simp only at q0 q1 q2
      have r0 := (HBw.out.cell (p := ⟨bl, k * 3, none⟩) hbl).trans q0
      have r1 := (HBw.out.cell (p := ⟨bl, k * 3 + 1, none⟩) hbl).trans q1
      have r2 := (HBw.out.cell (p := ⟨bl, k * 3 + 2, none⟩) hbl).trans q2
      have Hstep : Hid ((L.take (k + 1)).map (·.e) = (L.take k).map (·.e) ++ [(e : Int)]) := by
        show _ = _
        rw [List.take_add_one, hs]
        simp
      have HLk : Hid (((L.take k).map (·.e)).length ≤ 9600) := by
        show _ ≤ _
        rw [List.length_map, List.length_take]
        omega
      clear hs q0 q1 q2
      go_wp2_with (first
        | (at_builtin; refine wpList_append_own _ rfl _ _ 33 rfl w1.heap.size 3 i5 (.int .i64 0) 1 8 Try.underlying33 Ai.out Az0.out Az1.out Az2.out rfl (by decide) _ _ _ rfl ((HOw.out.alloc _).alloc _) ⟨wr.heap.size + 1, 0, none⟩ 1 1 (icells [(e : Int)]) rfl rfl (by have hn := new_row (w := wr.alloc (.cells #[.int .i64 (e : Int), .int .i64 (a : Int), .int .i64 (b : Int)] 54)) (t := 3) (int_row (e : Int)); rw [size_alloc_eq] at hn; exact hn) (icells_one _) (by unfold maxLen; have := HLk.out; omega) (by have := HLk.out; omega) (by have := HBw.out.size; simp; omega) ?_; intro v10 w10 hown10 hg10 _; have HO10 := hid hown10; have hb10 : Below w1.heap.size w1 w10 := Below.grown ((HBw.out.alloc HBw.out.size _).alloc (by have := HBw.out.size; simp; omega) _) hg10 (by have := HBw.out.size; simp; omega) (fun q hq => (HOw.out.lt q hq).1)))
      go_roundw
      case rel => exact ⟨k + 1, by omega, by go_num, by rw [Hstep.out, List.length_append, icells_app]; exact HO10.out, hb10⟩
      case measure => simp [intOf]; omega
    · obtain rfl : k = m := by omega
      have HQ : Hid (L.take k = L) := List.take_of_length_le (by rw [HLm.out]; omega)
      rw [HQ.out] at HOw
      obtain ⟨A5, c5, hv⟩ := own_form HOw.out
      have hlen : (L.map (·.e)).length = k := by rw [List.length_map, HLm.out]
      rw [hlen] at HOw hv
      subst hv
      have HSo := hid (sort_own HOw.out hlen (by omega) HBw.out)
      rw [HFin.out] at HSo
      have hXl : Hid (X.length = k) := by show _ = _; rw [← HFin.out, List.length_mergeSort]; exact hlen
      clear hlen
      go_wp2_with (first
        | (go_at_call 23; (with_reducible refine HSo.out.mono ?_); rintro e' w7 ⟨rfl, hR7, hb7⟩; have HR7 := hid hR7; clear hR7))
      go_ret
      exact ⟨A5, c5, by rw [hXl.out]; rfl, by rw [hXl.out]; exact HR7.out, h1.1.trans (hb7.mono h1.1.size)⟩
theorem dagUses_any : ∀ (nd : Int) (A : Option Addr) (n c : Nat) (l : List Lnk) (Ad : Option Addr) (n' c' : Nat) (dn : List Bool) (s t : Int) (w : World), GArg w nd A n c l → DArg w Ad n' c' dn → (-9223372036854775808 ≤ s ∧ s ≤ 9223372036854775807) → (-9223372036854775808 ≤ t ∧ t ≤ 9223372036854775807) →
    Calls Try.prog 12 #[.agg #[.int .i64 nd, .slice A n c], .slice Ad n' c', .int .i64 s, .int .i64 t] w (RowAns (usesS nd l dn s t) w) := by
  intro nd A n c l Ad n' c' dn s t w hr hd hs ht
  by_cases hw : NoWay nd l dn s t
  · have Q : usesS nd l dn s t = [] := by
      unfold usesS
      rw [if_neg]
      rintro ⟨h1, h2, h3, h4, h5, h6⟩
      obtain ⟨N, rfl⟩ := Int.eq_ofNat_of_zero_le (show 0 ≤ nd by omega)
      obtain ⟨T, rfl⟩ := Int.eq_ofNat_of_zero_le h4
      obtain ⟨S, rfl⟩ := Int.eq_ofNat_of_zero_le h2
      refine hw ⟨h1, h4, h5, h2, h3, ?_⟩
      rw [Int.toNat_natCast, Int.toNat_natCast] at h6 ⊢
      rw [dist_sym (gok_of h1) (by omega) (by omega)]
      exact h6
    rw [Q]
    have hSt := Held.start w nd A n c
    have HSp := hid (steps_no nd A n c l Ad n' c' dn s t _ (hr.on hSt.1) (hd.on hSt.1) hs ht hw)
    have HSo := hid (fun (w1 : World) => slices_Sort_int_none none 0 w1)
    obtain ⟨g0, g1⟩ := hSt.cells
    clear hr hd hs ht hw Q
    go_enter Try.func12, Try.ntmps12
    go_wp2_with (first
      | (go_at_call 21; (with_reducible refine HSp.out.mono ?_); rintro e' w1 ⟨rfl, hb1⟩))
    refine wp_loop_rounds 1 ?_
    rw [rounds_succ]
    go_wp2_with (first
      | (go_at_call 23; (with_reducible refine (HSo.out _).mono ?_); rintro e' w7 ⟨rfl, rfl⟩))
    go_ret
    exact ⟨none, 0, rfl, ⟨rfl, fun h => by simp at h⟩, hSt.1.trans (hb1.mono hSt.1.size)⟩
  · unfold NoWay at hw
    obtain ⟨h1, h2, h3, h4, h5, h6⟩ := Classical.not_not.1 hw
    obtain ⟨N, rfl⟩ := Int.eq_ofNat_of_zero_le (show 0 ≤ nd by omega)
    obtain ⟨T, rfl⟩ := Int.eq_ofNat_of_zero_le h2
    obtain ⟨S, rfl⟩ := Int.eq_ofNat_of_zero_le h4
    rw [Int.toNat_natCast, Int.toNat_natCast] at h6
    exact uses_in N A n c l Ad n' c' dn S T w hr hd h1 (by omega) (by omega) h6
end Go.Proofs.Ytcjilpgblbnebaa
