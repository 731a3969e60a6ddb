/- TablesNext. -/
import Derived.Test.YtiklfbbefchhlaaTbE
import Derived.Test.YtiklfbbefchhlaaRfB
namespace Go.Proofs.Ytiklfbbefchhlaa
open Go.RowKit
set_option maxHeartbeats 6400000
set_option maxRecDepth 100000
theorem bt {a b c : World} (h1 : Below a.heap.size a b) (h2 : Below b.heap.size b c) : Below a.heap.size a c := h1.trans (h2.mono h1.size)
theorem take1 {P : Program} {ops : Array Oper} {Q : Exit → Act → World → Prop} {md : Region.Mode} {S : World → Prop} {i : Nat} {oi : Oper} {v : Value} {fuel : Nat} {listed : Array Bool} {a : Act} {w : World} (hi : ops[i]? = some oi)
    (hs : Region.noSelect ops = true) (hf : Region.free md ops listed i = true) (hr : (Region.ready md ops listed).contains i = true) (hQ : ∀ c a w, Q (.panic c) (a.put oi.dst v) w → Q (.panic c) a w)
    (hw : Region.wanted oi (yielded ops a.tmps) = true) (hy : ∀ w, S w → (execOp a.eval oi).run P w = .ok (.value v) w) (hS : S w) (h : wpAnyH P md ops Q S fuel (listed.setIfInBounds i true) (a.put oi.dst v) w) : wpAnyH P md ops Q S (fuel + 1) listed a w :=
  wpAnyH_take hi hs hf hr hQ (.inl ⟨hw, hy⟩) hS h
theorem dead1 {P : Program} {ops : Array Oper} {Q : Exit → Act → World → Prop} {md : Region.Mode} {S : World → Prop} {i : Nat} {oi : Oper} {fuel : Nat} {listed : Array Bool} {a : Act} {w : World} (hi : ops[i]? = some oi)
    (hs : Region.noSelect ops = true) (hf : Region.free md ops listed i = true) (hr : (Region.ready md ops listed).contains i = true) (hQ : ∀ c a w, Q (.panic c) (a.put oi.dst undef) w → Q (.panic c) a w)
    (hw : Region.wanted oi (yielded ops a.tmps) = false) (hS : S w) (h : wpAnyH P md ops Q S fuel (listed.setIfInBounds i true) (a.put oi.dst undef) w) : wpAnyH P md ops Q S (fuel + 1) listed a w :=
  wpAnyH_take hi hs hf hr hQ (.inr ⟨hw, rfl⟩) hS h
theorem tnext_any (h : TabSpec 7 10 11 14) (nd : Int) (A : Option Addr) (n c : Nat) (l : List Lnk) (a b : Int) (w : World) (hg : GAny w nd A n c l) (ha : In64 a) (hb : In64 b) :
    Calls Try.prog 5 #[.agg #[.int .i64 nd, .slice A n c], .int .i64 a, .int .i64 b] w fun e w' => e = .returned (.bool true) ∧ Below w.heap.size w w' := by
  have HA := hid (fun (w' : World) (hh : Held w nd A n c w') => hh.calls (alive_any h w'))
  obtain ⟨TabAt, ho, _⟩ := h
  have hS := Held.start w nd A n c
  obtain ⟨g0, g1⟩ := hS.cells
  have HNum := hid num_any
  have hl := hg.row.1
  by_cases h0 : (checkS nd l).2 = 0
  · obtain ⟨h1, _⟩ := checkS_ok h0
    have HN := hid (fun (w' : World) (hh : Held w nd A n c w') => (new_held ho hg hh).1 h0)
    obtain ⟨N, rfl⟩ : ∃ N : Nat, nd = (N : Int) := by obtain ⟨_, h2, _, _⟩ := checkS_ok h0; exact Int.eq_ofNat_of_zero_le (by omega)
    have hok := gok_of h0
    have HN2 := hid (fun (w' : World) (hh : Held w (N : Int) A n c w') => show Calls Try.prog 7 #[.agg #[.int .i64 (N : Int), .slice A n c]] w' fun e w'' => ∃ p, e = .returned (.tuple #[.pointer (some p), .int .i64 0]) ∧ HeldT TabAt w (N : Int) A n c p N l w'' by
      obtain ⟨M, hM, _, hc⟩ := HN.out w' hh
      obtain rfl : N = M := by omega
      exact hc)
    have HD := hid (fun (a b : Int) (ha : In64 a) (hb : In64 b) (p : Addr) (w' : World) (hh : HeldT TabAt w (N : Int) A n c p N l w') => ho.dist w' p N l a b hh.tab hok ha hb)
    have HK := hid (fun (p : Addr) (w' w'' : World) (hh : HeldT TabAt w (N : Int) A n c p N l w') (hb : Below w'.heap.size w' w'') => hh.next ho.keep hb)
    have HX := hid (fun (p : Addr) (w' : World) (hh : HeldT TabAt w (N : Int) A n c p N l w') => ho.next w' p N l a b hh.tab hok ha hb)
    have HE := hid (fun (k : Nat) (hk : k < 240) (w' : World) (h : Held w (N : Int) A n c w') => refEnds_any (N : Int) A n c l (k : Int) w' (hg.row.on h.1) (by omega) (by omega))
    have Hrow := hid hg.row
    have HOK := hid hok
    obtain ⟨L, hL⟩ : ∃ L, nextT N l a b = L := ⟨_, rfl⟩
    obtain ⟨m, hm⟩ : ∃ m, L.length = m := ⟨_, rfl⟩
    obtain ⟨D, hD⟩ : ∃ D, distT N l a b = D := ⟨_, rfl⟩
    have hDr := distT_range hok a b
    rw [hD] at hDr
    have hm2 : m ≤ 240 := by rw [← hm, ← hL]; have := nextT_len N l a b; omega
    have HD1 := hid (HD.out a b ha hb)
    rw [hD] at HD1
    have HX1 : Hid (∀ (p : Addr) (w' : World), HeldT TabAt w (N : Int) A n c p N l w' → Calls Try.prog 14 #[.pointer (some p), .int .i64 a, .int .i64 b] w' fun e w'' => ∃ A7 c7, e = .returned (.slice A7 m c7) ∧ RInt w'' w''.heap.size A7 m L ∧ Below w'.heap.size w' w'') := by
      intro p w' hh
      have := HX.out p w' hh
      rw [hL] at this
      unfold RowAns at this
      rw [hm] at this
      exact this
    have HL := hid hL
    have HSo : Hid (∀ (u v : Nat) (x y : Int), u < v → L[u]? = some x → L[v]? = some y → x < y) := by
      intro u v x y huv hu hv
      have hp := nextT_sorted N l a b
      rw [hL, List.pairwise_iff_getElem] at hp
      obtain ⟨hu1, hu2⟩ := List.getElem?_eq_some_iff.1 hu
      obtain ⟨hv1, hv2⟩ := List.getElem?_eq_some_iff.1 hv
      have := hp u v hu1 hv1 huv
      rw [hu2, hv2] at this
      exact this
    have Hm := hid hm
    have HDD := hid hD
    have Hsome := nextT_some hok a b
    rw [hL, hm, hD] at Hsome
    have Hend : (decide ((0 : Int) < (m : Int)) == decide (0 < D)) = true := by
      by_cases c0 : 0 < m
      · simp [c0, Hsome.1 c0]
      · simp [c0]
        have : ¬ 0 < D := fun h => c0 (Hsome.2 h)
        omega
    have HHend := hid Hend
    have t0 : decide ((130 : Int) < (n : Int)) = false := by simp; omega
    have t0' : decide (130 < n) = false := by simp; omega
    clear HN HX hL hm hD ho hg h0 hok Hsome Hend
    go_enter Try.func5, Try.ntmps5
    go_wp2_with (first
      | (go_at_call 6; (with_reducible refine (HA.out _ hS).mono ?_); rintro e' w1 ⟨rfl, h1⟩; obtain ⟨g2, g3⟩ := h1.cells)
      | (go_at_call 7; (with_reducible refine (HN2.out _ h1).mono ?_); rintro e' w2 ⟨p, rfl, h2⟩; obtain ⟨g4, g5⟩ := h2.held.cells)
      | (go_at_call 9; (with_reducible refine (HNum.out _ _).mono ?_); rintro _ _ ⟨rfl, rfl⟩)
      | (go_at_call 14; (with_reducible refine (HX1.out _ _ h2).mono ?_); rintro e' w3 ⟨A7, c7, rfl, hr3, hb3⟩; have h3 := HK.out _ _ _ h2 hb3; have HR3 := hid hr3; clear hr3)
      | (go_at_call 11; (with_reducible refine (HD1.out _ _ h3).mono ?_); rintro e' w4 ⟨rfl, hb4⟩; have h4 := HK.out _ _ _ h3 hb4; have HR4 := hid (HR3.out.on hb4)))
    clear g0 g1 g2 g3 g4 g5
    go_loopw [12] (fun i wr => ∃ k : Nat, k ≤ m ∧ i = .int .i64 k ∧ Hid (Below w4.heap.size w4 wr)) (fun i _ => m - (intOf i).toNat)
    case atStart => exact ⟨0, Nat.zero_le _, rfl, Below.refl _ _⟩
    case round =>
      obtain ⟨i, hi, rfl, HBw⟩ := hrel
      have HHw := hid (HK.out _ _ _ h4 HBw.out)
      by_cases hlt : i < m
      · obtain ⟨ei, hei⟩ : ∃ ei, L[i]? = some ei := ⟨L[i]'(by rw [Hm.out]; exact hlt), List.getElem?_eq_getElem _⟩
        obtain ⟨k, _, y, x, rfl, hA', hk, hx, hE, hy, hdy⟩ := nextT_mem HOK.out (HL.out ▸ List.mem_of_getElem? hei)
        clear hA'
        have hk2 : k < 2 * n := by omega
        have HEk := hid (HE.out k (by omega))
        rw [hE] at HEk
        rw [HDD.out] at hdy
        have HDy := hid (HD.out (y : Int) b ⟨by omega, by omega⟩ hb)
        rw [hdy] at HDy
        obtain ⟨q, hq⟩ : ∃ q, k / 2 = q := ⟨_, rfl⟩
        have d1 : Int.tdiv (k : Int) 2 = (q : Int) := by rw [← hq]; rfl
        rw [hq] at hx
        have hqn : q < n := by omega
        have hq3 : q ≤ 1000 := by omega
        have i1 : (0 : Int) ≤ (q : Int) := by omega
        have i2 : (q : Int) < (n : Int) := by omega
        have i3 : (0 : Int) ≤ (i : Int) := by omega
        have i4 : (i : Int) < (m : Int) := by omega
        have i5 : IntKind.i64.wrap (q : Int) = (q : Int) := by rw [IntKind.wrap_i64]; omega
        obtain ⟨bL, oL, rfl, hbL, hcL⟩ := Hrow.out.2 (by omega)
        have cM := hid (hcL q x hx).2.2.1
        obtain ⟨mm, hmm⟩ : ∃ mm, x.m = mm := ⟨_, rfl⟩
        rw [hmm] at cM HDy
        have hmr : 1 ≤ mm ∧ mm ≤ 16777216 := by
          obtain ⟨_, _, x', hx', _, _, _, hm', _, _, _, h1', h2'⟩ := edge_facts HOK.out hk
          rw [hq, hx] at hx'
          injection hx' with hx'
          subst hx'
          omega
        have hw : IntKind.i64.wrap (D - mm) = D - mm := by rw [IntKind.wrap_i64]; omega
        obtain ⟨b7, o7, rfl, hb7, hc7⟩ := HR4.out.2 (by omega)
        have cE := hid (hc7 i _ hei)
        have ec0 := (HBw.out.cell (p := ⟨b7, o7 + i, none⟩) hb7).trans cE.out
        have s1 : (a != a) = false := by simp
        have s2 : (D - mm != D - mm) = false := by simp
        have HHd : Hid (∀ w', Below wr.drew.heap.size wr.drew w' → HeldT TabAt w (N : Int) (some ⟨bL, oL, none⟩) n c p N l w' ∧ (w'.cell? ⟨w.heap.size, 0, none⟩ = some (.int .i64 (N : Int)) ∧ w'.cell? ⟨w.heap.size, 1, none⟩ = some (.slice (some ⟨bL, oL, none⟩) n c) ∧ w'.cell? ⟨b7, o7 + i, none⟩ = some (.int .i64 (k : Int))) ∧ Below w4.heap.size w4 w') := by
          intro w' hb'
          have hb2 : Below w4.heap.size w4 w' := HBw.out.drew.trans (hb'.mono HBw.out.size)
          have h5 := HK.out _ _ _ h4 hb2
          exact ⟨h5, ⟨h5.held.cells.1, h5.held.cells.2, (hb2.cell (p := ⟨b7, o7 + i, none⟩) hb7).trans cE.out⟩, hb2⟩
        obtain ⟨hD0, ⟨z0, z1, z2⟩, _⟩ := HHd.out _ (Below.refl _ _)
        have Hei := hid hei
        clear hE hdy hx hq hcL hmm hei
        go_wp2_with fail
        go_region_held3 (fun w' => w'.cell? ⟨w.heap.size, 0, none⟩ = some (.int .i64 (N : Int)) ∧ w'.cell? ⟨w.heap.size, 1, none⟩ = some (.slice (some ⟨bL, oL, none⟩) n c) ∧ w'.cell? ⟨b7, o7 + i, none⟩ = some (.int .i64 (k : Int)))
          (first
            | go_keep
            | exact s9)
          (first
            | (go_at_call 16; (with_reducible refine (HEk.out _ hD0.held).mono ?_); rintro e' w9 ⟨rfl, b9⟩; obtain ⟨h9, s9, hb49⟩ := HHd.out _ b9; have HB9 := hid hb49; clear hb49))
        go_wp2_with fail
        have HHe : Hid (∀ w', Below w9.drew.heap.size w9.drew w' → HeldT TabAt w (N : Int) (some ⟨bL, oL, none⟩) n c p N l w' ∧ (w'.cell? ⟨w.heap.size, 1, none⟩ = some (.slice (some ⟨bL, oL, none⟩) n c) ∧ w'.cell? ⟨b7, o7 + i, none⟩ = some (.int .i64 (k : Int)) ∧ w'.cell? ⟨bL, oL + q * 4 + 2, none⟩ = some (.int .i64 mm)) ∧ Below w4.heap.size w4 w') := by
          intro w' hb'
          have hb2 : Below w4.heap.size w4 w' := HB9.out.drew.trans (hb'.mono HB9.out.size)
          have h5 := HK.out _ _ _ h4 hb2
          exact ⟨h5, ⟨h5.held.cells.2, (hb2.cell (p := ⟨b7, o7 + i, none⟩) hb7).trans cE.out, (h5.held.1.cell (p := ⟨bL, oL + q * 4 + 2, none⟩) hbL).trans cM.out⟩, hb2⟩
        have hE0 := (HHe.out _ (Below.refl _ _)).1
        clear z0 z1 z2 s9 ec0
        cases i with
        | zero =>
          obtain ⟨_, ⟨z1, z2, z3⟩, _⟩ := HHe.out _ (Below.refl _ _)
          simp only [Nat.add_zero] at z2 HHe
          refine wp_region_held_drew (S := fun w' => w'.cell? ⟨w.heap.size, 1, none⟩ = some (.slice (some ⟨bL, oL, none⟩) n c) ∧ w'.cell? ⟨b7, o7, none⟩ = some (.int .i64 (k : Int)) ∧ w'.cell? ⟨bL, oL + q * 4 + 2, none⟩ = some (.int .i64 mm)) (by kernel_rfl) ⟨z1, z2, z3⟩ (fun hHeld => ?_)
          refine take1 (i := 0) (v := ?_) rfl (by kernel_rfl) (by kernel_rfl) (by kernel_rfl) (fun _ _ _ h => h) (by rfl) ?_ (by assumption) ?_
          (rotate_left; focus (intro w' hSw; (try dsimp only at hSw); go_simp; (try with_reducible rfl)))
          try simp only [List.getElem_toArray, List.getElem_cons_zero, Act.put, List.setIfInBounds_toArray, List.set_cons_zero, List.set_cons_succ]
          refine take1 (i := 1) (v := ?_) rfl (by kernel_rfl) (by kernel_rfl) (by kernel_rfl) (fun _ _ _ h => h) (by rfl) ?_ (by assumption) ?_
          (rotate_left; focus (intro w' hSw; (try dsimp only at hSw); go_simp; (try with_reducible rfl)))
          try simp only [List.getElem_toArray, List.getElem_cons_succ, List.getElem_cons_zero, Act.put, List.setIfInBounds_toArray, List.set_cons_zero, List.set_cons_succ]
          refine take1 (i := 2) (v := ?_) rfl (by kernel_rfl) (by kernel_rfl) (by kernel_rfl) (fun _ _ _ h => h) (by rfl) ?_ (by assumption) ?_
          (rotate_left; focus (intro w' hSw; (try dsimp only at hSw); go_simp; (try with_reducible rfl)))
          try simp only [List.getElem_toArray, List.getElem_cons_succ, List.getElem_cons_zero, Act.put, List.setIfInBounds_toArray, List.set_cons_zero, List.set_cons_succ]
          refine take1 (i := 3) (v := ?_) rfl (by kernel_rfl) (by kernel_rfl) (by kernel_rfl) (fun _ _ _ h => h) (by rfl) ?_ (by assumption) ?_
          (rotate_left; focus (intro w' hSw; (try dsimp only at hSw); go_simp; (try with_reducible rfl)))
          try simp only [List.getElem_toArray, List.getElem_cons_succ, List.getElem_cons_zero, Act.put, List.setIfInBounds_toArray, List.set_cons_zero, List.set_cons_succ]
          refine take1 (i := 4) (v := ?_) rfl (by kernel_rfl) (by kernel_rfl) (by kernel_rfl) (fun _ _ _ h => h) (by rfl) ?_ (by assumption) ?_
          (rotate_left; focus (intro w' hSw; (try dsimp only at hSw); go_simp; (try with_reducible rfl)))
          try simp only [List.getElem_toArray, List.getElem_cons_succ, List.getElem_cons_zero, Act.put, List.setIfInBounds_toArray, List.set_cons_zero, List.set_cons_succ]
          refine take1 (i := 5) (v := ?_) rfl (by kernel_rfl) (by kernel_rfl) (by kernel_rfl) (fun _ _ _ h => h) (by rfl) ?_ (by assumption) ?_
          (rotate_left; focus (intro w' hSw; (try dsimp only at hSw); go_simp; (try with_reducible rfl)))
          try simp only [List.getElem_toArray, List.getElem_cons_succ, List.getElem_cons_zero, Act.put, List.setIfInBounds_toArray, List.set_cons_zero, List.set_cons_succ]
          refine take1 (i := 6) (v := ?_) rfl (by kernel_rfl) (by kernel_rfl) (by kernel_rfl) (fun _ _ _ h => h) (by rfl) ?_ (by assumption) ?_
          (rotate_left; focus (intro w' hSw; (try dsimp only at hSw); go_simp; (try with_reducible rfl)))
          try simp only [List.getElem_toArray, List.getElem_cons_succ, List.getElem_cons_zero, Act.put, List.setIfInBounds_toArray, List.set_cons_zero, List.set_cons_succ]
          refine take1 (i := 7) (v := ?_) rfl (by kernel_rfl) (by kernel_rfl) (by kernel_rfl) (fun _ _ _ h => h) (by rfl) ?_ (by assumption) ?_
          (rotate_left; focus (intro w' hSw; (try dsimp only at hSw); go_simp; (try with_reducible rfl)))
          try simp only [List.getElem_toArray, List.getElem_cons_succ, List.getElem_cons_zero, Act.put, List.setIfInBounds_toArray, List.set_cons_zero, List.set_cons_succ]
          refine take1 (i := 8) (v := ?_) rfl (by kernel_rfl) (by kernel_rfl) (by kernel_rfl) (fun _ _ _ h => h) (by rfl) ?_ (by assumption) ?_
          (rotate_left; focus (intro w' hSw; (try dsimp only at hSw); go_simp; (try with_reducible rfl)))
          try simp only [List.getElem_toArray, List.getElem_cons_succ, List.getElem_cons_zero, Act.put, List.setIfInBounds_toArray, List.set_cons_zero, List.set_cons_succ]
          refine take1 (i := 9) (v := ?_) rfl (by kernel_rfl) (by kernel_rfl) (by kernel_rfl) (fun _ _ _ h => h) (by rfl) ?_ (by assumption) ?_
          (rotate_left; focus (intro w' hSw; (try dsimp only at hSw); go_simp; (try with_reducible rfl)))
          try simp only [List.getElem_toArray, List.getElem_cons_succ, List.getElem_cons_zero, Act.put, List.setIfInBounds_toArray, List.set_cons_zero, List.set_cons_succ]
          refine take1 (i := 10) (v := ?_) rfl (by kernel_rfl) (by kernel_rfl) (by kernel_rfl) (fun _ _ _ h => h) (by rfl) ?_ (by assumption) ?_
          (rotate_left; focus (intro w' hSw; (try dsimp only at hSw); go_simp; (try with_reducible rfl)))
          try simp only [List.getElem_toArray, List.getElem_cons_succ, List.getElem_cons_zero, Act.put, List.setIfInBounds_toArray, List.set_cons_zero, List.set_cons_succ]
          refine take1 (i := 12) (v := ?_) rfl (by kernel_rfl) (by kernel_rfl) (by kernel_rfl) (fun _ _ _ h => h) (by rfl) ?_ (by assumption) ?_
          (rotate_left; focus (intro w' hSw; (try dsimp only at hSw); go_simp; (try with_reducible rfl)))
          try simp only [List.getElem_toArray, List.getElem_cons_succ, List.getElem_cons_zero, Act.put, List.setIfInBounds_toArray, List.set_cons_zero, List.set_cons_succ]
          refine take1 (i := 13) (v := ?_) rfl (by kernel_rfl) (by kernel_rfl) (by kernel_rfl) (fun _ _ _ h => h) (by rfl) ?_ (by assumption) ?_
          (rotate_left; focus (intro w' hSw; (try dsimp only at hSw); go_simp; (try with_reducible rfl)))
          try simp only [List.getElem_toArray, List.getElem_cons_succ, List.getElem_cons_zero, Act.put, List.setIfInBounds_toArray, List.set_cons_zero, List.set_cons_succ]
          refine take1 (i := 14) (v := ?_) rfl (by kernel_rfl) (by kernel_rfl) (by kernel_rfl) (fun _ _ _ h => h) (by rfl) ?_ (by assumption) ?_
          (rotate_left; focus (intro w' hSw; (try dsimp only at hSw); go_simp; (try with_reducible rfl)))
          try simp only [List.getElem_toArray, List.getElem_cons_succ, List.getElem_cons_zero, Act.put, List.setIfInBounds_toArray, List.set_cons_zero, List.set_cons_succ]
          refine take1 (i := 15) (v := ?_) rfl (by kernel_rfl) (by kernel_rfl) (by kernel_rfl) (fun _ _ _ h => h) (by rfl) ?_ (by assumption) ?_
          (rotate_left; focus (intro w' hSw; (try dsimp only at hSw); go_simp; (try with_reducible rfl)))
          try simp only [List.getElem_toArray, List.getElem_cons_succ, List.getElem_cons_zero, Act.put, List.setIfInBounds_toArray, List.set_cons_zero, List.set_cons_succ]
          refine take1 (i := 16) (v := ?_) rfl (by kernel_rfl) (by kernel_rfl) (by kernel_rfl) (fun _ _ _ h => h) (by rfl) ?_ (by assumption) ?_
          (rotate_left; focus (intro w' hSw; (try dsimp only at hSw); go_simp; (try with_reducible rfl)))
          try simp only [List.getElem_toArray, List.getElem_cons_succ, List.getElem_cons_zero, Act.put, List.setIfInBounds_toArray, List.set_cons_zero, List.set_cons_succ]
          refine take1 (i := 17) (v := ?_) rfl (by kernel_rfl) (by kernel_rfl) (by kernel_rfl) (fun _ _ _ h => h) (by rfl) ?_ (by assumption) ?_
          (rotate_left; focus (intro w' hSw; (try dsimp only at hSw); go_simp; (try with_reducible rfl)))
          try simp only [List.getElem_toArray, List.getElem_cons_succ, List.getElem_cons_zero, Act.put, List.setIfInBounds_toArray, List.set_cons_zero, List.set_cons_succ]
          refine take1 (i := 18) (v := ?_) rfl (by kernel_rfl) (by kernel_rfl) (by kernel_rfl) (fun _ _ _ h => h) (by rfl) ?_ (by assumption) ?_
          (rotate_left; focus (intro w' hSw; (try dsimp only at hSw); go_simp; (try with_reducible rfl)))
          try simp only [List.getElem_toArray, List.getElem_cons_succ, List.getElem_cons_zero, Act.put, List.setIfInBounds_toArray, List.set_cons_zero, List.set_cons_succ]
          refine take1 (i := 19) (v := ?_) rfl (by kernel_rfl) (by kernel_rfl) (by kernel_rfl) (fun _ _ _ h => h) (by rfl) ?_ (by assumption) ?_
          (rotate_left; focus (intro w' hSw; (try dsimp only at hSw); go_simp; (try with_reducible rfl)))
          try simp only [List.getElem_toArray, List.getElem_cons_succ, List.getElem_cons_zero, Act.put, List.setIfInBounds_toArray, List.set_cons_zero, List.set_cons_succ]
          refine take1 (i := 20) (v := ?_) rfl (by kernel_rfl) (by kernel_rfl) (by kernel_rfl) (fun _ _ _ h => h) (by rfl) ?_ (by assumption) ?_
          (rotate_left; focus (intro w' hSw; (try dsimp only at hSw); go_simp; (try with_reducible rfl)))
          try simp only [List.getElem_toArray, List.getElem_cons_succ, List.getElem_cons_zero, Act.put, List.setIfInBounds_toArray, List.set_cons_zero, List.set_cons_succ]
          refine take1 (i := 21) (v := ?_) rfl (by kernel_rfl) (by kernel_rfl) (by kernel_rfl) (fun _ _ _ h => h) (by rfl) ?_ (by assumption) ?_
          (rotate_left; focus (intro w' hSw; (try dsimp only at hSw); go_simp; (try with_reducible rfl)))
          try simp only [List.getElem_toArray, List.getElem_cons_succ, List.getElem_cons_zero, Act.put, List.setIfInBounds_toArray, List.set_cons_zero, List.set_cons_succ]
          refine take1 (i := 22) (v := ?_) rfl (by kernel_rfl) (by kernel_rfl) (by kernel_rfl) (fun _ _ _ h => h) (by rfl) ?_ (by assumption) ?_
          (rotate_left; focus (intro w' hSw; (try dsimp only at hSw); go_simp; (try with_reducible rfl)))
          try simp only [List.getElem_toArray, List.getElem_cons_succ, List.getElem_cons_zero, Act.put, List.setIfInBounds_toArray, List.set_cons_zero, List.set_cons_succ]
          refine take1 (i := 23) (v := ?_) rfl (by kernel_rfl) (by kernel_rfl) (by kernel_rfl) (fun _ _ _ h => h) (by rfl) ?_ (by assumption) ?_
          (rotate_left; focus (intro w' hSw; (try dsimp only at hSw); go_simp; (try with_reducible rfl)))
          try simp only [List.getElem_toArray, List.getElem_cons_succ, List.getElem_cons_zero, Act.put, List.setIfInBounds_toArray, List.set_cons_zero, List.set_cons_succ]
          refine wpAnyH_ready (rs := [11]) (by kernel_rfl) (by simp) ?_
          refine AllReadyH.cons rfl (fun K hK => ?_) AllReadyH.nil
          try simp only [List.getElem_toArray, List.getElem_cons_succ, List.getElem_cons_zero]
          go_simp
          (go_at_call 11; (with_reducible refine (HDy.out _ _ hE0).mono ?_); rintro e' w10 ⟨rfl, b10⟩; obtain ⟨h10, s10, hb410⟩ := HHe.out _ b10; have HB10 := hid hb410; clear hb410)
          try go_wp2_with fail
          refine hK.out _ _ s10 (fun hHeld => ?_)
          clear hK K
          try simp only [List.getElem_toArray, List.getElem_cons_succ, List.getElem_cons_zero, Act.put, List.setIfInBounds_toArray, List.set_cons_zero, List.set_cons_succ]
          refine take1 (i := 24) (v := ?_) rfl (by kernel_rfl) (by kernel_rfl) (by kernel_rfl) (fun _ _ _ h => h) (by rfl) ?_ (by assumption) ?_
          (rotate_left; focus (intro w' hSw; (try dsimp only at hSw); go_simp; (try with_reducible rfl)))
          try simp only [List.getElem_toArray, List.getElem_cons_succ, List.getElem_cons_zero, Act.put, List.setIfInBounds_toArray, List.set_cons_zero, List.set_cons_succ]
          refine take1 (i := 25) (v := ?_) rfl (by kernel_rfl) (by kernel_rfl) (by kernel_rfl) (fun _ _ _ h => h) (by rfl) ?_ (by assumption) ?_
          (rotate_left; focus (intro w' hSw; (try dsimp only at hSw); go_simp; (try with_reducible rfl)))
          try simp only [List.getElem_toArray, List.getElem_cons_succ, List.getElem_cons_zero, Act.put, List.setIfInBounds_toArray, List.set_cons_zero, List.set_cons_succ]
          refine take1 (i := 26) (v := ?_) rfl (by kernel_rfl) (by kernel_rfl) (by kernel_rfl) (fun _ _ _ h => h) (by rfl) ?_ (by assumption) ?_
          (rotate_left; focus (intro w' hSw; (try dsimp only at hSw); go_simp; (try with_reducible rfl)))
          try simp only [List.getElem_toArray, List.getElem_cons_succ, List.getElem_cons_zero, Act.put, List.setIfInBounds_toArray, List.set_cons_zero, List.set_cons_succ]
          refine take1 (i := 27) (v := ?_) rfl (by kernel_rfl) (by kernel_rfl) (by kernel_rfl) (fun _ _ _ h => h) (by rfl) ?_ (by assumption) ?_
          (rotate_left; focus (intro w' hSw; (try dsimp only at hSw); go_simp; (try with_reducible rfl)))
          try simp only [List.getElem_toArray, List.getElem_cons_succ, List.getElem_cons_zero, Act.put, List.setIfInBounds_toArray, List.set_cons_zero, List.set_cons_succ]
          refine take1 (i := 28) (v := ?_) rfl (by kernel_rfl) (by kernel_rfl) (by kernel_rfl) (fun _ _ _ h => h) (by rfl) ?_ (by assumption) ?_
          (rotate_left; focus (intro w' hSw; (try dsimp only at hSw); go_simp; (try with_reducible rfl)))
          try simp only [List.getElem_toArray, List.getElem_cons_succ, List.getElem_cons_zero, Act.put, List.setIfInBounds_toArray, List.set_cons_zero, List.set_cons_succ]
          refine take1 (i := 29) (v := ?_) rfl (by kernel_rfl) (by kernel_rfl) (by kernel_rfl) (fun _ _ _ h => h) (by rfl) ?_ (by assumption) ?_
          (rotate_left; focus (intro w' hSw; (try dsimp only at hSw); go_simp; (try with_reducible rfl)))
          try simp only [List.getElem_toArray, List.getElem_cons_succ, List.getElem_cons_zero, Act.put, List.setIfInBounds_toArray, List.set_cons_zero, List.set_cons_succ]
          refine dead1 (i := 30) rfl (by kernel_rfl) (by kernel_rfl) (by kernel_rfl) (fun _ _ _ h => h) (by rfl) (by assumption) ?_
          try simp only [List.getElem_toArray, List.getElem_cons_succ, List.getElem_cons_zero, Act.put, List.setIfInBounds_toArray, List.set_cons_zero, List.set_cons_succ]
          refine dead1 (i := 31) rfl (by kernel_rfl) (by kernel_rfl) (by kernel_rfl) (fun _ _ _ h => h) (by rfl) (by assumption) ?_
          try simp only [List.getElem_toArray, List.getElem_cons_succ, List.getElem_cons_zero, Act.put, List.setIfInBounds_toArray, List.set_cons_zero, List.set_cons_succ]
          refine dead1 (i := 32) rfl (by kernel_rfl) (by kernel_rfl) (by kernel_rfl) (fun _ _ _ h => h) (by rfl) (by assumption) ?_
          try simp only [List.getElem_toArray, List.getElem_cons_succ, List.getElem_cons_zero, Act.put, List.setIfInBounds_toArray, List.set_cons_zero, List.set_cons_succ]
          refine dead1 (i := 33) rfl (by kernel_rfl) (by kernel_rfl) (by kernel_rfl) (fun _ _ _ h => h) (by rfl) (by assumption) ?_
          try simp only [List.getElem_toArray, List.getElem_cons_succ, List.getElem_cons_zero, Act.put, List.setIfInBounds_toArray, List.set_cons_zero, List.set_cons_succ]
          refine dead1 (i := 34) rfl (by kernel_rfl) (by kernel_rfl) (by kernel_rfl) (fun _ _ _ h => h) (by rfl) (by assumption) ?_
          try simp only [List.getElem_toArray, List.getElem_cons_succ, List.getElem_cons_zero, Act.put, List.setIfInBounds_toArray, List.set_cons_zero, List.set_cons_succ]
          refine dead1 (i := 35) rfl (by kernel_rfl) (by kernel_rfl) (by kernel_rfl) (fun _ _ _ h => h) (by rfl) (by assumption) ?_
          try simp only [List.getElem_toArray, List.getElem_cons_succ, List.getElem_cons_zero, Act.put, List.setIfInBounds_toArray, List.set_cons_zero, List.set_cons_succ]
          refine dead1 (i := 36) rfl (by kernel_rfl) (by kernel_rfl) (by kernel_rfl) (fun _ _ _ h => h) (by rfl) (by assumption) ?_
          try simp only [List.getElem_toArray, List.getElem_cons_succ, List.getElem_cons_zero, Act.put, List.setIfInBounds_toArray, List.set_cons_zero, List.set_cons_succ]
          refine dead1 (i := 37) rfl (by kernel_rfl) (by kernel_rfl) (by kernel_rfl) (fun _ _ _ h => h) (by rfl) (by assumption) ?_
          try simp only [List.getElem_toArray, List.getElem_cons_succ, List.getElem_cons_zero, Act.put, List.setIfInBounds_toArray, List.set_cons_zero, List.set_cons_succ]
          refine dead1 (i := 38) rfl (by kernel_rfl) (by kernel_rfl) (by kernel_rfl) (fun _ _ _ h => h) (by rfl) (by assumption) ?_
          try simp only [List.getElem_toArray, List.getElem_cons_succ, List.getElem_cons_zero, Act.put, List.setIfInBounds_toArray, List.set_cons_zero, List.set_cons_succ]
          refine dead1 (i := 39) rfl (by kernel_rfl) (by kernel_rfl) (by kernel_rfl) (fun _ _ _ h => h) (by rfl) (by assumption) ?_
          try simp only [List.getElem_toArray, List.getElem_cons_succ, List.getElem_cons_zero, Act.put, List.setIfInBounds_toArray, List.set_cons_zero, List.set_cons_succ]
          refine take1 (i := 40) (v := ?_) rfl (by kernel_rfl) (by kernel_rfl) (by kernel_rfl) (fun _ _ _ h => h) (by rfl) ?_ (by assumption) ?_
          (rotate_left; focus (intro w' hSw; (try dsimp only at hSw); go_simp; (try with_reducible rfl)))
          try simp only [List.getElem_toArray, List.getElem_cons_succ, List.getElem_cons_zero, Act.put, List.setIfInBounds_toArray, List.set_cons_zero, List.set_cons_succ]
          refine take1 (i := 41) (v := ?_) rfl (by kernel_rfl) (by kernel_rfl) (by kernel_rfl) (fun _ _ _ h => h) (by rfl) ?_ (by assumption) ?_
          (rotate_left; focus (intro w' hSw; (try dsimp only at hSw); go_simp; (try with_reducible rfl)))
          try simp only [List.getElem_toArray, List.getElem_cons_succ, List.getElem_cons_zero, Act.put, List.setIfInBounds_toArray, List.set_cons_zero, List.set_cons_succ]
          refine wpAnyH_done (by kernel_rfl) ?_ _
          go_wp2_with fail
          go_roundw
          case rel => exact ⟨1, by omega, by go_num, HB10.out⟩
          case measure => simp [intOf]; omega
        | succ j =>
          obtain ⟨ej, hej⟩ : ∃ ej, L[j]? = some ej := ⟨L[j]'(by rw [Hm.out]; omega), List.getElem?_eq_getElem _⟩
          have hlt2 : ej < (k : Int) := HSo.out j (j + 1) _ _ (by omega) hej Hei.out
          have t5 : decide ((k : Int) ≤ ej) = false := by simp; omega
          have cJ := hid (hc7 j _ hej)
          have HHf : Hid (∀ w', Below w9.drew.heap.size w9.drew w' → HeldT TabAt w (N : Int) (some ⟨bL, oL, none⟩) n c p N l w' ∧ (w'.cell? ⟨w.heap.size, 1, none⟩ = some (.slice (some ⟨bL, oL, none⟩) n c) ∧ w'.cell? ⟨b7, o7 + (j + 1), none⟩ = some (.int .i64 (k : Int)) ∧ w'.cell? ⟨bL, oL + q * 4 + 2, none⟩ = some (.int .i64 mm) ∧ w'.cell? ⟨b7, o7 + j, none⟩ = some (.int .i64 ej)) ∧ Below w4.heap.size w4 w') := by
            intro w' hb'
            obtain ⟨q1, q2, q3⟩ := HHe.out w' hb'
            exact ⟨q1, ⟨q2.1, q2.2.1, q2.2.2, (q3.cell (p := ⟨b7, o7 + j, none⟩) hb7).trans cJ.out⟩, q3⟩
          obtain ⟨_, ⟨z1, z2, z3, z4⟩, _⟩ := HHf.out _ (Below.refl _ _)
          clear hej hlt2 hc7
          have i6 : (j : Int) < (m : Int) := by omega
          have i7 : (0 : Int) ≤ (j : Int) := by omega
          have i10 : (j : Int) + 1 < (m : Int) := by omega
          have i11 : (0 : Int) ≤ (j : Int) + 1 := by omega
          have i8 : IntKind.i64.wrap (j : Int) = (j : Int) := by rw [IntKind.wrap_i64]; omega
          have i9 : IntKind.i64.wrap ((j : Int) + 1) = (j : Int) + 1 := by rw [IntKind.wrap_i64]; omega
          go_region_held3 (fun w' => w'.cell? ⟨w.heap.size, 1, none⟩ = some (.slice (some ⟨bL, oL, none⟩) n c) ∧ w'.cell? ⟨b7, o7 + (j + 1), none⟩ = some (.int .i64 (k : Int)) ∧ w'.cell? ⟨bL, oL + q * 4 + 2, none⟩ = some (.int .i64 mm) ∧ w'.cell? ⟨b7, o7 + j, none⟩ = some (.int .i64 ej))
            (first
              | go_keep
              | exact s10)
            (first
              | (go_at_call 11; (with_reducible refine (HDy.out _ _ hE0).mono ?_); rintro e' w10 ⟨rfl, b10⟩; obtain ⟨h10, s10, hb410⟩ := HHf.out _ b10; have HB10 := hid hb410; clear hb410))
          go_wp2_with fail
          go_roundw
          case rel => exact ⟨j + 1 + 1, by omega, by go_num, HB10.out⟩
          case measure => simp [intOf]; omega
      · obtain rfl : i = m := by omega
        have hb04 := h4.held.1
        have HE2 := HHend.out
        go_wp2_with fail
        go_ret
        exact ⟨ret_bool (by simpa using HHend.out), hb04.trans (HBw.out.mono hb04.size)⟩
  · have HN := hid (fun (w' : World) (hh : Held w nd A n c w') => (new_held ho hg hh).2 h0)
    obtain ⟨k, hk⟩ : ∃ k, (checkS nd l).2 = k := ⟨_, rfl⟩
    rw [hk] at HN h0
    have t1 : (k != 0) = true := by simpa using h0
    by_cases hn : 130 < n
    · have t0 : decide ((130 : Int) < (n : Int)) = true := by simp; omega
      have t0' : decide (130 < n) = true := by simp; omega
      clear hk h0 hg hl hn ho
      go_enter Try.func5, Try.ntmps5
      go_wp2_with (first
        | (go_at_call 6; (with_reducible refine (HA.out _ hS).mono ?_); rintro e' w1 ⟨rfl, h1⟩; obtain ⟨g2, g3⟩ := h1.cells)
        | (go_at_call 7; (with_reducible refine (HN.out _ h1).mono ?_); rintro e' w2 ⟨rfl, h2⟩; obtain ⟨g4, g5⟩ := h2.cells))
      go_ret
      exact ⟨rfl, h2.1⟩
    · have t0 : decide ((130 : Int) < (n : Int)) = false := by simp; omega
      have t0' : decide (130 < n) = false := by simp; omega
      clear hk h0 hg hl hn ho
      go_enter Try.func5, Try.ntmps5
      go_wp2_with (first
        | (go_at_call 6; (with_reducible refine (HA.out _ hS).mono ?_); rintro e' w1 ⟨rfl, h1⟩; obtain ⟨g2, g3⟩ := h1.cells)
        | (go_at_call 7; (with_reducible refine (HN.out _ h1).mono ?_); rintro e' w2 ⟨rfl, h2⟩; obtain ⟨g4, g5⟩ := h2.cells)
        | (go_at_call 9; (with_reducible refine (HNum.out _ _).mono ?_); rintro _ _ ⟨rfl, rfl⟩))
      go_ret
      exact ⟨rfl, h2.1⟩
end Go.Proofs.Ytiklfbbefchhlaa
