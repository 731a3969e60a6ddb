/- SpfDown. -/
import Derived.Test.YtljgoffolbplfaaSpI
namespace Go.Proofs.Ytljgoffolbplfaa
open Go.RowKit
set_option maxHeartbeats 6400000
set_option maxRecDepth 100000
theorem dist_mono {nd : Nat} {l : List Lnk} {dn dn' : List Bool} {s : Nat} {d d' : List Int} (hg : GOk nd l) (h : DistOk nd l dn s d) (h' : DistOk nd l dn' s d') (hud : ∀ k, k < 2 * l.length → isDn dn (k / 2) = false → isDn dn' (k / 2) = false) :
    ∀ (N : Nat) (v : Nat), v < nd → 0 ≤ dAt d (v : Int) → dAt d (v : Int) ≤ (N : Int) → 0 ≤ dAt d' (v : Int) ∧ dAt d' (v : Int) ≤ dAt d (v : Int) := by
  intro N
  induction N with
  | zero =>
    intro v hv h0 h1
    by_cases hs : v = s
    · subst hs; rw [h'.src]; omega
    · obtain ⟨k, hk, _, ht, hf, he⟩ := h.via v hv hs h0
      obtain ⟨a, b, x, _, _, hfa, _, hm, _, _, _, hm1, _⟩ := edge_facts hg hk
      omega
  | succ N ih =>
    intro v hv h0 h1
    by_cases hs : v = s
    · subst hs; rw [h'.src]; omega
    · obtain ⟨k, hk, hu, ht, hf, he⟩ := h.via v hv hs h0
      obtain ⟨a, b, x, _, _, hfa, _, hm, ha, _, _, hm1, _⟩ := edge_facts hg hk
      rw [hfa] at hf he
      obtain ⟨i1, i2⟩ := ih a ha hf (by omega)
      have := h'.clo k hk (hud k hk hu) (by rw [hfa]; exact i1)
      rw [ht, hfa] at this
      omega
theorem BRow.other {w : World} {G N b j : Nat} {H : Nat → Bool} {u : Value} (h : BRow w G N H) (hb : G ≠ b) : BRow (w.setCell ⟨b, j, none⟩ u) G N H := by
  obtain ⟨cs, h1, h2⟩ := h
  exact ⟨cs, (heap_setCell_other _ _ _ _ hb).trans h1, h2⟩
theorem BRow.toRBl {w : World} {G N : Nat} {H : Nat → Bool} (h : BRow w G N H) : RBl w w.heap.size (some ⟨G, 0, none⟩) N ((List.range N).map H) := by
  refine ⟨by simp, fun _ => ⟨G, 0, rfl, h.lt, fun i x hx => ?_⟩⟩
  simp only [List.getElem?_map, Option.map_eq_some_iff] at hx
  obtain ⟨j, hj, rfl⟩ := hx
  have hi : i < N := by
    have := (List.getElem?_eq_some_iff.1 hj).1
    simpa using this
  rw [List.getElem?_range hi] at hj
  injection hj with hj
  subst hj
  have := h.cell hi
  simpa using this
theorem isDn_map {N i : Nat} {H : Nat → Bool} (h : i < N) : isDn ((List.range N).map H) i = H i := by
  unfold isDn
  rw [List.getD_eq_getElem?_getD, List.getElem?_map, List.getElem?_range h]; rfl
/-- The marks of SpfDown after k links. -/
def mr1 (dn : List Bool) (li k i : Nat) : Bool := decide (i < k) && (isDn dn i || decide (i = li))
def mr2 (k i : Nat) : Bool := decide (i < k)
theorem mr1_step (dn : List Bool) (li k j : Nat) : mr1 dn li (k + 1) j = if j = k then (isDn dn k || decide (k = li)) else mr1 dn li k j := by
  unfold mr1
  by_cases h : j = k
  · subst h; simp
  · rw [if_neg h, show decide (j < k + 1) = decide (j < k) from by rw [decide_eq_decide]; omega]
theorem mr2_step (k j : Nat) : mr2 (k + 1) j = if j = k then true else mr2 k j := by
  unfold mr2
  by_cases h : j = k
  · subst h; simp
  · rw [if_neg h, decide_eq_decide]; omega
theorem down_not (hF : FromSpec 27) (nd : Int) (A : Option Addr) (n c : Nat) (l : List Lnk) (Ad : Option Addr) (n' c' : Nat) (s li : Int) (w : World) (hr : RLnk w w.heap.size A n l) (h : ¬((checkS nd l).2 = 0 ∧ n' ≤ 200 ∧ 0 ≤ s ∧ s < nd ∧ 0 ≤ li ∧ li < (n : Int))) :
    Calls Try.prog 11 #[.agg #[.int .i64 nd, .slice A n c], .slice Ad n' c', .int .i64 s, .int .i64 li] w fun e w' => e = .returned (.bool true) ∧ Below w.heap.size w w' := by
  have hS := Held.start w nd A n c
  have HA := hid (fun (w' : World) (h : Held w nd A n c w') => h.calls (alive_any hF w'))
  have HK' := hid (fun (w' : World) (h : Held w nd A n c w') => h.calls (refCheck_any nd A n c l w' (h.on hr)))
  obtain ⟨k1, hk1⟩ : ∃ k1, (checkS nd l).1 = k1 := ⟨_, rfl⟩
  by_cases h2 : (checkS nd l).2 = 0
  · rw [hk1, h2] at HK'
    have tE : ((0 : Int) != 0) = false := by decide
    by_cases h3 : 200 < n'
    · have t1 : decide ((200 : Int) < (n' : Int)) = true := by simp; omega
      clear hr h h2 h3 hk1 hF
      go_enter Try.func11, Try.ntmps11
      go_wp2_with (first
        | (go_at_call 25; (with_reducible refine (HA.out _ hS).mono ?_); rintro e' w1 ⟨rfl, h1⟩; obtain ⟨g0, g1⟩ := h1.cells)
        | (go_at_call 16; (with_reducible refine (HK'.out _ h1).mono ?_); rintro e' w2 ⟨rfl, h2⟩; obtain ⟨g2, g3⟩ := h2.cells))
      go_ret
      exact ⟨rfl, h2.1⟩
    · have t1 : decide ((200 : Int) < (n' : Int)) = false := by simp; omega
      by_cases h4 : s < 0
      · have t2 : decide (s < 0) = true := by simpa using h4
        clear hr h h2 h3 h4 hk1 hF
        go_enter Try.func11, Try.ntmps11
        go_wp2_with (first
          | (go_at_call 25; (with_reducible refine (HA.out _ hS).mono ?_); rintro e' w1 ⟨rfl, h1⟩; obtain ⟨g0, g1⟩ := h1.cells)
          | (go_at_call 16; (with_reducible refine (HK'.out _ h1).mono ?_); rintro e' w2 ⟨rfl, h2⟩; obtain ⟨g2, g3⟩ := h2.cells))
        go_ret
        exact ⟨rfl, h2.1⟩
      · have t2 : decide (s < 0) = false := by simpa using h4
        by_cases h5 : nd ≤ s
        · have t3 : decide (nd ≤ s) = true := by simpa using h5
          clear hr h h2 h3 h4 h5 hk1 hF
          go_enter Try.func11, Try.ntmps11
          go_wp2_with (first
            | (go_at_call 25; (with_reducible refine (HA.out _ hS).mono ?_); rintro e' w1 ⟨rfl, h1⟩; obtain ⟨g0, g1⟩ := h1.cells)
            | (go_at_call 16; (with_reducible refine (HK'.out _ h1).mono ?_); rintro e' w2 ⟨rfl, h2⟩; obtain ⟨g2, g3⟩ := h2.cells))
          go_ret
          exact ⟨rfl, h2.1⟩
        · have t3 : decide (nd ≤ s) = false := by simpa using h5
          by_cases h6 : li < 0
          · have t4 : decide (li < 0) = true := by simpa using h6
            clear hr h h2 h3 h4 h5 h6 hk1 hF
            go_enter Try.func11, Try.ntmps11
            go_wp2_with (first
              | (go_at_call 25; (with_reducible refine (HA.out _ hS).mono ?_); rintro e' w1 ⟨rfl, h1⟩; obtain ⟨g0, g1⟩ := h1.cells)
              | (go_at_call 16; (with_reducible refine (HK'.out _ h1).mono ?_); rintro e' w2 ⟨rfl, h2⟩; obtain ⟨g2, g3⟩ := h2.cells))
            go_ret
            exact ⟨rfl, h2.1⟩
          · have t4 : decide (li < 0) = false := by simpa using h6
            have t5 : decide ((n : Int) ≤ li) = true := by simp; omega
            clear hr h h2 h3 h4 h5 h6 hk1 hF
            go_enter Try.func11, Try.ntmps11
            go_wp2_with (first
              | (go_at_call 25; (with_reducible refine (HA.out _ hS).mono ?_); rintro e' w1 ⟨rfl, h1⟩; obtain ⟨g0, g1⟩ := h1.cells)
              | (go_at_call 16; (with_reducible refine (HK'.out _ h1).mono ?_); rintro e' w2 ⟨rfl, h2⟩; obtain ⟨g2, g3⟩ := h2.cells))
            go_ret
            exact ⟨rfl, h2.1⟩
  · obtain ⟨k2, hk2⟩ : ∃ k2, (checkS nd l).2 = k2 := ⟨_, rfl⟩
    rw [hk1, hk2] at HK'
    have t1 : (k2 != 0) = true := by rw [← hk2]; simpa using h2
    clear hr h h2 hk1 hk2 hF
    go_enter Try.func11, Try.ntmps11
    go_wp2_with (first
      | (go_at_call 25; (with_reducible refine (HA.out _ hS).mono ?_); rintro e' w1 ⟨rfl, h1⟩; obtain ⟨g0, g1⟩ := h1.cells)
      | (go_at_call 16; (with_reducible refine (HK'.out _ h1).mono ?_); rintro e' w2 ⟨rfl, h2⟩; obtain ⟨g2, g3⟩ := h2.cells))
    go_ret
    exact ⟨rfl, h2.1⟩
theorem down_in (hF : FromSpec 27) (nd : Nat) (A : Option Addr) (n c : Nat) (l : List Lnk) (Ad : Option Addr) (n' c' : Nat) (dn : List Bool) (s li : Nat) (w : World) (hga : GArg w (nd : Int) A n c l) (hda : DArg w Ad n' c' dn) (h : (checkS (nd : Int) l).2 = 0) (hs : s < nd) (hli : li < n) :
    Calls Try.prog 11 #[.agg #[.int .i64 (nd : Int), .slice A n c], .slice Ad n' c', .int .i64 (s : Int), .int .i64 (li : Int)] w fun e w' => e = .returned (.bool true) ∧ Below w.heap.size w w' := by
  have hg := gok_of h
  have hr := hga.row
  have hS := Held.start w (nd : Int) A n c
  have HA := hid (fun (w' : World) (h : Held w (nd : Int) A n c w') => h.calls (alive_any hF w'))
  have HK' := hid (fun (w' : World) (h : Held w (nd : Int) A n c w') => h.calls (refCheck_any (nd : Int) A n c l w' (h.on hr)))
  obtain ⟨k1, hk1⟩ : ∃ k1, (checkS (nd : Int) l).1 = k1 := ⟨_, rfl⟩
  rw [hk1, h] at HK'
  have hn : n ≤ 120 := by rw [← hr.1]; exact hg.1
  have hl := hr.1
  have hnd : nd ≤ 40 := hg.2.2.1
  have hn' := hda.len
  have Q : ∀ dn, fromS (nd : Int) l dn (s : Int) = distS nd l dn s := by intro dn; unfold fromS; rw [if_pos ⟨h, by omega, by omega⟩]; rfl
  have hA1 := dist_ok (dn := dn) hg hs
  have hA2 := dist_ok (dn := (List.range n).map (mr1 dn li n)) hg hs
  have hA3 := dist_ok (dn := (List.range n).map (mr2 n)) hg hs
  have hmono := dist_mono hg hA2 hA1 (fun k hk hu => by
    rw [isDn_map (by omega)] at hu
    unfold mr1 at hu
    rw [decide_eq_true (show k / 2 < n by omega)] at hu
    simp at hu
    exact hu.1)
  have hall : ∀ v : Nat, v < nd → v ≠ s → dAt (distS nd l ((List.range n).map (mr2 n)) s) (v : Int) = -1 := by
    intro v hv hvs
    have hlow := hA3.low v hv
    by_cases h0 : 0 ≤ dAt (distS nd l ((List.range n).map (mr2 n)) s) (v : Int)
    · obtain ⟨k, hk, hu, _⟩ := hA3.via v hv hvs h0
      rw [isDn_map (by omega)] at hu
      unfold mr2 at hu
      rw [decide_eq_true (show k / 2 < n by omega)] at hu
      cases hu
    · omega
  have HF := hid (fun (dn : List Bool) (Ad : Option Addr) (n' c' : Nat) (w' : World) (h : Held w (nd : Int) A n c w') (hd : DArg w' Ad n' c' dn) => held_ints h (dist_ok (dn := dn) hg hs).len (Q dn ▸ hF (nd : Int) A n c l Ad n' c' dn (s : Int) w' (hga.on h.1) hd (by omega) (by omega)))
  obtain ⟨D1, hD1⟩ : ∃ D1, distS nd l dn s = D1 := ⟨_, rfl⟩
  obtain ⟨D2, hD2⟩ : ∃ D2, distS nd l ((List.range n).map (mr1 dn li n)) s = D2 := ⟨_, rfl⟩
  obtain ⟨D3, hD3⟩ : ∃ D3, distS nd l ((List.range n).map (mr2 n)) s = D3 := ⟨_, rfl⟩
  have HF1 := hid (HF.out dn)
  have HF2 := hid (HF.out ((List.range n).map (mr1 dn li n)))
  have HF3 := hid (HF.out ((List.range n).map (mr2 n)))
  rw [hD1] at HF1 hA1 hmono
  rw [hD2] at HF2 hA2 hmono
  rw [hD3] at HF3 hA3 hall
  have Hmono : Hid (∀ v : Nat, v < nd → 0 ≤ dAt D2 (v : Int) → 0 ≤ dAt D1 (v : Int) ∧ dAt D1 (v : Int) ≤ dAt D2 (v : Int)) := fun v hv h0 => hmono (dAt D2 (v : Int)).toNat v hv h0 (by omega)
  have Hall := hid hall
  have Hsrc := hid hA3.src
  have HL1 := hid hA1.len
  have HL2 := hid hA2.len
  have HL3 := hid hA3.len
  have HDA := hid hda
  have HD := hid (fun (i : Nat) (hi : i < 200) (w' : World) (h : Held w (nd : Int) A n c w') => isDown_any Ad n' c' dn i w' (hda.row.on h.1) (by omega))
  obtain ⟨i5, hi, hz0, hz1, hz2⟩ := info_parts (show (Try.prog.info? 4).map (fun i => (i.zero, i.size, i.bytes)) = some (some (.bool false), 1, 1) by kernel_rfl)
  have Ai := hid hi; have Az0 := hid hz0; have Az1 := hid hz1; have Az2 := hid hz2
  clear hi hz0 hz1 hz2
  have tE : ((0 : Int) != 0) = false := by decide
  have t1 : decide ((200 : Int) < (n' : Int)) = false := by simp; omega
  have t2 : decide ((s : Int) < 0) = false := by simp
  have t3 : decide ((nd : Int) ≤ (s : Int)) = false := by simp; omega
  have t4 : decide ((li : Int) < 0) = false := by simp
  have t5 : decide ((n : Int) ≤ (li : Int)) = false := by simp; omega
  have t6 : ((nd : Int) != (nd : Int)) = false := by simp
  clear hr hga hda h hk1 Q hF hg hA1 hA2 hA3 hmono hall hD1 hD2 hD3 HF
  go_enter Try.func11, Try.ntmps11
  go_wp2_with (first
    | (go_at_call 25; (with_reducible refine (HA.out _ hS).mono ?_); rintro e' w1 ⟨rfl, h1⟩; obtain ⟨g0, g1⟩ := h1.cells)
    | (go_at_call 16; (with_reducible refine (HK'.out _ h1).mono ?_); rintro e' w2 ⟨rfl, h2⟩; obtain ⟨g2, g3⟩ := h2.cells)
    | (at_make; refine wpList_make_full _ rfl (.tmp 60) (.tmp 60) 43 rfl w2.heap.size 4 i5 (.bool false) 1 Try.underlying43 Ai.out Az0.out Az1.out _ _ _ _ n rfl rfl rfl rfl (by rw [Az2.out]; omega) (by unfold maxLen; omega) (Nat.le_refl _) ?_; intro w3 hown3 hg3; have HM3 := hid (BRow.made hown3); have b3 := grown_below hg3; have h3 := h2.next b3; obtain ⟨g4, g5⟩ := h3.cells; clear hown3 hg3)
    | (at_make; refine wpList_make_full _ rfl (.tmp 64) (.tmp 64) 43 rfl w3.heap.size 4 i5 (.bool false) 1 Try.underlying43 Ai.out Az0.out Az1.out _ _ _ _ n rfl rfl rfl rfl (by rw [Az2.out]; omega) (by unfold maxLen; omega) (Nat.le_refl _) ?_; intro w4 hown4 hg4; have HM4 := hid (BRow.made hown4); have b4 := grown_below hg4; have h4 := h3.next b4; have HM34 := hid (HM3.out.on b4); clear hown4 hg4))
  have hwG := h2.lt
  have hGG := HM3.out.lt
  clear g0 g1 g2 g3 g4 g5
  go_loopw [14] (fun i wr => ∃ k : Nat, k ≤ n ∧ i = .int .i64 k ∧ Hid (BRow wr w2.heap.size n (mr1 dn li k)) ∧ Hid (BRow wr w3.heap.size n (mr2 k)) ∧ Hid (Held w (nd : Int) A n c wr)) (fun i _ => n - (intOf i).toNat)
  case atStart => exact ⟨0, Nat.zero_le _, rfl, HM34.out.congr (fun e _ => by simp [mr1]), HM4.out.congr (fun e _ => by simp [mr2]), h4⟩
  case round =>
    obtain ⟨k, hk, rfl, H1, H2, HHw⟩ := hrel
    obtain ⟨x0, x1⟩ := HHw.out.cells
    by_cases hkn : k < n
    · have HDk := hid (HD.out k (by omega))
      have c1 := H1.out.cell hkn
      have f1 := H1.out.frozen k
      have c2 := H2.out.cell hkn
      have f2 := H2.out.frozen k
      have S1 : Hid (∀ b, (isDn dn k || decide (k = li)) = b → BRow ((wr.setCell ⟨w2.heap.size, k, none⟩ (.bool b)).setCell ⟨w3.heap.size, k, none⟩ (.bool true)) w2.heap.size n (mr1 dn li (k + 1))) := fun b hb => ((H1.out.set b).congr (fun j _ => by rw [mr1_step, hb])).other (by omega)
      have S2 : Hid (∀ b, BRow ((wr.setCell ⟨w2.heap.size, k, none⟩ (.bool b)).setCell ⟨w3.heap.size, k, none⟩ (.bool true)) w3.heap.size n (mr2 (k + 1))) := fun b => ((H2.out.other (by omega)).set true).congr (fun j _ => mr2_step k j)
      have S3 : Hid (∀ b, Held w (nd : Int) A n c ((wr.setCell ⟨w2.heap.size, k, none⟩ (.bool b)).setCell ⟨w3.heap.size, k, none⟩ (.bool true))) := fun b => (HHw.out.set hwG).set (by omega)
      cases hu : isDn dn k with
      | true =>
        rw [hu] at HDk
        have HQ := hid (S1.out true (by rw [hu]; rfl))
        clear hu
        go_wp2_with (go_at_call 31; (with_reducible refine (HDk.out _ HHw.out).mono ?_); rintro _ _ ⟨rfl, rfl⟩)
        go_roundw
        case rel => exact ⟨k + 1, by omega, by go_num, HQ.out, S2.out _, S3.out _⟩
        case measure => simp [intOf]; omega
      | false =>
        rw [hu] at HDk
        by_cases hkl : k = li
        · have u : ((k : Int) == (li : Int)) = true := by simp; omega
          have HQ := hid (S1.out true (by rw [hu, decide_eq_true hkl]; rfl))
          clear hu hkl
          go_wp2_with (go_at_call 31; (with_reducible refine (HDk.out _ HHw.out).mono ?_); rintro _ _ ⟨rfl, rfl⟩)
          go_roundw
          case rel => exact ⟨k + 1, by omega, by go_num, HQ.out, S2.out _, S3.out _⟩
          case measure => simp [intOf]; omega
        · have u : ((k : Int) == (li : Int)) = false := by simp; omega
          have HQ := hid (S1.out false (by rw [hu, decide_eq_false hkl]; rfl))
          clear hu hkl
          go_wp2_with (go_at_call 31; (with_reducible refine (HDk.out _ HHw.out).mono ?_); rintro _ _ ⟨rfl, rfl⟩)
          go_roundw
          case rel => exact ⟨k + 1, by omega, by go_num, HQ.out, S2.out _, S3.out _⟩
          case measure => simp [intOf]; omega
    · obtain rfl : n = k := by omega
      have RM := hid H1.out.toRBl
      have RA := hid H2.out.toRBl
      have HQ1 := hid (HF1.out Ad n' c' _ HHw.out (HDA.out.on HHw.out.1))
      go_wp2_with (first
        | (go_at_call 27; (with_reducible refine HQ1.out.mono ?_); rintro e' w5 ⟨A5, c5, rfl, r5, b5, h5⟩; obtain ⟨y0, y1⟩ := h5.cells; have R5 := hid r5.1; clear r5)
        | (go_at_call 27; (with_reducible refine (HF2.out _ n n _ h5 (DArg.mk (RM.out.on b5) (by omega) (Nat.le_refl _) (fun h => by cases h))).mono ?_); rintro e' w6 ⟨A6, c6, rfl, r6, b6, h6⟩; obtain ⟨y2, y3⟩ := h6.cells; have R6 := hid r6.1; clear r6)
        | (go_at_call 27; (with_reducible refine (HF3.out _ n n _ h6 (DArg.mk (RA.out.on (bt b5 b6)) (by omega) (Nat.le_refl _) (fun h => by cases h))).mono ?_); rintro e' w7 ⟨A7, c7, rfl, r7, b7, h7⟩; obtain ⟨y4, y5⟩ := h7.cells; have R7 := hid r7.1; clear r7))
      have R57 := hid (R5.out.on (bt b6 b7))
      have R67 := hid (R6.out.on b7)
      clear x0 x1 y0 y1 y2 y3
      go_loopw [18] (fun i wx => ∃ k : Nat, k ≤ nd ∧ i = .int .i64 k ∧ Hid (Below w7.heap.size w7 wx)) (fun i _ => nd - (intOf i).toNat)
      case atStart => exact ⟨0, Nat.zero_le _, rfl, Below.refl _ _⟩
      case round =>
        obtain ⟨k, hk, rfl, HBx⟩ := hrel
        have hx := h7.next HBx.out
        obtain ⟨x0, x1⟩ := hx.cells
        clear y4 y5
        by_cases hkn : k < nd
        · have G1 := dAt_get (d := D1) (v := k) (by rw [HL1.out]; exact hkn)
          have G2 := dAt_get (d := D2) (v := k) (by rw [HL2.out]; exact hkn)
          have G3 := dAt_get (d := D3) (v := k) (by rw [HL3.out]; exact hkn)
          have hmn := Hmono.out k hkn
          have hal := Hall.out k hkn
          obtain ⟨bA, oA, rfl, _, _⟩ := R57.out.2 (by omega)
          obtain ⟨bB, oB, rfl, _, _⟩ := R67.out.2 (by omega)
          obtain ⟨bC, oC, rfl, _, _⟩ := R7.out.2 (by omega)
          have cA := ((R57.out.below HBx.out).cellAt G1).1
          have cB := ((R67.out.below HBx.out).cellAt G2).1
          have cC := ((R7.out.below HBx.out).cellAt G3).1
          obtain ⟨d1, hd1⟩ : ∃ d1, dAt D1 (k : Int) = d1 := ⟨_, rfl⟩
          obtain ⟨d2, hd2⟩ : ∃ d2, dAt D2 (k : Int) = d2 := ⟨_, rfl⟩
          rw [hd1] at cA hmn
          rw [hd2] at cB hmn
          have Hmn := hid hmn
          clear G1 G2 G3 hd1 hd2 hmn
          by_cases hks : k = s
          · subst hks
            rw [Hsrc.out] at cC
            clear hal
            by_cases v2 : 0 ≤ d2
            · obtain ⟨v1, v3⟩ := Hmn.out v2
              have z1 : decide (d1 < 0) = false := by simp; omega
              have z2 : decide (0 ≤ d2) = true := by simpa using v2
              have z3 : decide (d2 < d1) = false := by simp; omega
              go_wp2_with (go_big_quiet (fail))
              go_roundw
              case rel => exact ⟨_, hkn, by go_num, below_drewN HBx.out⟩
              case measure => simp [intOf]; omega
            · have z2 : decide (0 ≤ d2) = false := by simpa using v2
              by_cases v1 : d1 < 0
              · have z1 : decide (d1 < 0) = true := by simpa using v1
                go_wp2_with (go_big_quiet (fail))
                go_roundw
                case rel => exact ⟨_, hkn, by go_num, below_drewN HBx.out⟩
                case measure => simp [intOf]; omega
              · have z1 : decide (d1 < 0) = false := by simpa using v1
                go_wp2_with (go_big_quiet (fail))
                go_roundw
                case rel => exact ⟨_, hkn, by go_num, below_drewN HBx.out⟩
                case measure => simp [intOf]; omega
          · rw [hal hks] at cC
            have u1 : ((k : Int) == (s : Int)) = false := by simp; omega
            have u2 : ((k : Int) != (s : Int)) = true := by simp; omega
            clear hal
            by_cases v2 : 0 ≤ d2
            · obtain ⟨v1, v3⟩ := Hmn.out v2
              have z1 : decide (d1 < 0) = false := by simp; omega
              have z2 : decide (0 ≤ d2) = true := by simpa using v2
              have z3 : decide (d2 < d1) = false := by simp; omega
              go_wp2_with (go_big_quiet (fail))
              go_roundw
              case rel => exact ⟨_, hkn, by go_num, below_drewN HBx.out⟩
              case measure => simp [intOf]; omega
            · have z2 : decide (0 ≤ d2) = false := by simpa using v2
              by_cases v1 : d1 < 0
              · have z1 : decide (d1 < 0) = true := by simpa using v1
                go_wp2_with (go_big_quiet (fail))
                go_roundw
                case rel => exact ⟨_, hkn, by go_num, below_drewN HBx.out⟩
                case measure => simp [intOf]; omega
              · have z1 : decide (d1 < 0) = false := by simpa using v1
                go_wp2_with (go_big_quiet (fail))
                go_roundw
                case rel => exact ⟨_, hkn, by go_num, below_drewN HBx.out⟩
                case measure => simp [intOf]; omega
        · obtain rfl : nd = k := by omega
          go_wp2_with fail
          go_ret
          exact ⟨rfl, hx.1⟩
theorem down_any (hF : FromSpec 27) (nd : Int) (A : Option Addr) (n c : Nat) (l : List Lnk) (Ad : Option Addr) (n' c' : Nat) (dn : List Bool) (s li : Int) (w : World) (hr : RLnk w w.heap.size A n l) (hc : n ≤ c) (hA : A = none → n = 0 ∧ c = 0) (hd : RBl w w.heap.size Ad n' dn) (hc' : n' ≤ c') (hA' : Ad = none → n' = 0 ∧ c' = 0)
    (h1 : -9223372036854775808 ≤ nd ∧ nd ≤ 9223372036854775807) :
    Calls Try.prog 11 #[.agg #[.int .i64 nd, .slice A n c], .slice Ad n' c', .int .i64 s, .int .i64 li] w fun e w' => e = .returned (.bool true) ∧ Below w.heap.size w w' := by
  by_cases h : (checkS nd l).2 = 0 ∧ n' ≤ 200 ∧ 0 ≤ s ∧ s < nd ∧ 0 ≤ li ∧ li < (n : Int)
  · obtain ⟨N, rfl⟩ := Int.eq_ofNat_of_zero_le (show 0 ≤ nd by omega)
    obtain ⟨S, rfl⟩ := Int.eq_ofNat_of_zero_le h.2.2.1
    obtain ⟨L, rfl⟩ := Int.eq_ofNat_of_zero_le h.2.2.2.2.1
    have hn := (checkS_ok h.1).1
    rw [hr.1] at hn
    exact down_in hF N A n c l Ad n' c' dn S L w ⟨hr, by omega, hc, hA, h1.1, h1.2⟩ ⟨hd, h.2.1, hc', hA'⟩ h.1 (by omega) (by omega)
  · exact down_not hF nd A n c l Ad n' c' s li w hr h
end Go.Proofs.Ytljgoffolbplfaa
