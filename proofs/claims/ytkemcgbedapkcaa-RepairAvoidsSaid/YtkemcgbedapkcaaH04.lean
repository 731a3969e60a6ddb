/- Merged: CsI CsJ. -/
import Derived.Test.YtkemcgbedapkcaaH01
import Derived.Test.YtkemcgbedapkcaaH03
import Derived.Deep.RegionHeld3
/- RepairAvoids. -/
namespace Go.Proofs.Ytkemcgbedapkcaa
open Go.RowKit
set_option maxHeartbeats 64000000
set_option maxRecDepth 100000
theorem wrapN {x : Nat} (h : x ≤ 1000000000000) : IntKind.i64.wrap (x : Int) = (x : Int) := by rw [IntKind.wrap_i64]; omega
theorem wrapN64 {x : Nat} (h : x ≤ 1000000000000) : wrap64 (x : Int) = (x : Int) := IntWalk.wrap64_in _ (by omega)
theorem wrapN1 {x : Nat} (h : x ≤ 1000000000000) : IntKind.i64.wrap ((x : Int) + 1) = ((x + 1 : Nat) : Int) := by rw [IntKind.wrap_i64]; push_cast; omega
theorem wrapI {x : Int} (h : 0 ≤ x ∧ x ≤ 1000000000000) : IntKind.i64.wrap x = x := by rw [IntKind.wrap_i64]; omega
theorem repAvoids_in {TabAt : World → Addr → Nat → List Lnk → Prop} (hN : NewOps TabAt 16) (hO : AroundOps TabAt 9) (N : Nat) (A : Option Addr) (n c : Nat) (l : List Lnk) (e t : Int) (Ap : Option Addr) (np cp : Nat) (pk : List Int) (w : World) (hg : GAny w (N : Int) A n c l) (hs : smallB (N : Int) n = true) (hck : (checkS (N : Int) l).2 = 0) (he : In64 e) (ht : In64 t) (hpk : RInt w w.heap.size Ap np pk) (hnp : 200 ≤ np) (h0 : (aroundS N l e t 10).2 = 0) :
    Calls Try.prog 4 #[.agg #[.int .i64 (N : Int), .slice A n c], .int .i64 e, .int .i64 t, .slice Ap np cp] w fun x w' => x = .returned (.bool true) ∧ Below w.heap.size w w' := by
  have hS := Held.start w (N : Int) A n c
  have HA := hid (fun (w' : World) (h : Held w (N : Int) A n c w') => (alive18 hN hO w').mono fun _ _ h1 => (⟨h1.1, h.next h1.2⟩ : _ ∧ Held w (N : Int) A n c _))
  have HSm := hid (fun (w' : World) (h : Held w (N : Int) A n c w') => (small_any (N : Int) A n c w').mono fun _ _ h1 => (⟨h1.1, h.next h1.2⟩ : _ ∧ Held w (N : Int) A n c _))
  have HNum := hid rnum_any
  rw [hs] at HSm
  have hn16 : (N : Int) ≤ 10 ∧ n ≤ 16 := by unfold smallB at hs; simp only [Bool.and_eq_true, decide_eq_true_eq] at hs; exact hs
  obtain ⟨n1, n2⟩ := hn16
  have hll : l.length = n := hg.row.1
  have hok := gok_of hck
  obtain ⟨hE3, hr0, ht0, htN, ha0, haN, hI0⟩ := avoid_start h0
  obtain ⟨k, ea, eb, rfl, hk, hE, -, -⟩ := ends_facts hck hE3
  obtain ⟨t, rfl⟩ := Int.eq_ofNat_of_zero_le ht0
  rw [hll] at hI0 hk
  have hEa : (endsS l (k : Int)).1 = ea := by rw [hE]
  rw [hEa] at hI0 ha0 haN
  obtain ⟨h, hh⟩ : ∃ h, k / 2 = h := ⟨_, rfl⟩
  have hhn : h < n := by omega
  have hhi : (h : Int) < (n : Int) := by omega
  obtain ⟨gn, hgn⟩ : ∃ gn, downA n (k : Int) = gn := ⟨_, rfl⟩
  have hgn2 : gn = (List.replicate n false).set h true := by rw [← hgn]; unfold downA; rw [Int.toNat_natCast, hh]
  have HNot : Hid (∀ K : Nat, isDn gn (K / 2) = false → K / 2 ≠ h) := fun K hK => by
    rw [← hgn] at hK
    have := downA_not hK (by rw [Int.toNat_natCast]; omega)
    rw [Int.toNat_natCast, hh] at this
    exact this
  rw [hgn] at hI0
  obtain ⟨D, hD⟩ : ∃ D, dAt (fromS N l gn ea) (t : Int) = D := ⟨_, rfl⟩
  rw [hD] at hI0
  have hfr := fromS_row (gn := gn) hck (a := ea) ⟨ha0, haN⟩
  have hfl := hfr.1
  rw [Int.toNat_natCast] at hfl
  have hfD := (hfr.2 (t : Int) ht0 htN).1
  rw [Int.toNat_natCast, hD] at hfD
  have HT := hid (show ∀ W, Held w (N : Int) A n c W → Calls Try.prog 8 #[.agg #[.int .i64 (N : Int), .slice A n c]] W fun e w' => ∃ (p pr : Addr), e = .returned (.tuple #[.pointer (some p), .pointer (some pr), .bool true]) ∧ TabAt w' p N l ∧ RefAt w' pr N l ∧ Held w (N : Int) A n c w' from fun W hh => by
    refine (tabs_any hN (N : Int) A n c l W (hg.on hh.1)).mono ?_
    rintro e w' ⟨hb, h1 | h1⟩
    · obtain ⟨_, N', p, pr, h2, h3, h4, h5⟩ := h1
      obtain rfl : N' = N := by omega
      exact ⟨p, pr, h3, h4, h5, hh.next hb⟩
    · exact (h1.1 hck).elim)
  have hlen := aroundS_len (N := N) (l := l) (e := (k : Int)) (t := (t : Int)) (d := 10)
  obtain ⟨R1, hR⟩ : ∃ R1, (aroundS N l (k : Int) (t : Int) 10).1 = R1 := ⟨_, rfl⟩
  rw [hR] at hlen hI0
  obtain ⟨m, hm⟩ : ∃ m, R1.length = m := ⟨_, rfl⟩
  have hm10 : m ≤ 10 := by rw [← hm]; exact hlen
  have hDt : D ≤ 654311424 := by rw [← hD]; exact (hfr.2 (t : Int) ht0 htN).2.2
  have HL := hid (show ∀ (W : World) (p : Addr), TabAt W p N l → Held w (N : Int) A n c W → Calls Try.prog 9 #[.pointer (some p), .int .i64 (k : Int), .int .i64 (t : Int), .int .i64 10] W fun x w' => ∃ B c2, x = .returned (.tuple #[.slice B m c2, .int .i64 0]) ∧ RSeg w' w'.heap.size B m R1 ∧ Held w (N : Int) A n c w' ∧ Below W.heap.size W w' from fun W p hp hh => by
    refine (hO W p N l (k : Int) (t : Int) 10 hp hok (by omega) (by omega) he ht ⟨by omega, by omega⟩).mono ?_
    rintro x w' ⟨B, c2, h1, h3, h2⟩
    rw [h0, hR, hm] at h1
    rw [hR, hm] at h3
    exact ⟨B, c2, h1, h3, hh.next h2, h2⟩)
  have HEnds := hid (fun (e : Int) (he : e ≤ 9223372036854775807) (w' : World) (h : Held w (N : Int) A n c w') => (refEnds_any (N : Int) A n c l e w' (hg.on h.1).row (by omega) he).mono fun _ _ h2 => (⟨h2.1, h.next h2.2, h2.2⟩ : _ ∧ Held w (N : Int) A n c _ ∧ Below w'.heap.size w' _))
  have HE0 := hid (HEnds.out (k : Int) (by omega))
  rw [hE] at HE0
  have HNx := hid (show ∀ (W : World) (pr : Addr) (a b : Int), RefAt W pr N l → In64 a → Calls Try.prog 15 #[.pointer (some pr), .int .i64 a, .int .i64 b] W (RowAns (nextT N l a b) W) from fun W pr a b hp ha => by
    obtain ⟨BT, A', n3, c2, vD, vs, rfl, ht2⟩ := hp
    exact refTNext_any BT A' n3 c2 vD vs N l a b W ht2 hok ha)
  have HF := hid (show ∀ (W : World) (r : Nat), Held w (N : Int) A n c W → W.heap[r]? = some (.cells (bcl ((List.replicate n false).set h true)).toArray 4 (0, 0)) → Calls Try.prog 14 #[.agg #[.int .i64 (N : Int), .slice A n c], .slice (some ⟨r, 0, none⟩) n n, .int .i64 ea] W fun x w' => ∃ b o c2, x = .returned (.slice (some ⟨b, o, none⟩) N c2) ∧ w'.cell? ⟨b, o + t, none⟩ = some (.int .i64 D) ∧ Held w (N : Int) A n c w' ∧ Below W.heap.size W w' from fun W r hh hr => by
    have hd := dArg_row (n := n) hr (by rw [List.length_set, List.length_replicate]) (by omega)
    rw [← hgn2] at hd
    refine (refFrom_any (N : Int) A n c l _ n n gn ea W (hg.on hh.1).row hd.row).mono ?_
    rintro x w' ⟨v, rfl, ho, hb⟩
    obtain ⟨A2, c2, rfl, -, hi⟩ := own_ints ho rfl
    obtain ⟨b, o, rfl, -, hc⟩ := hi.2 (by omega)
    exact ⟨b, o, c2, by rw [hfl], hc t D hfD, hh.next hb, hb⟩)
  have hmk : ∀ W : World, (Instr.makeSlice 43 (.int .i64 (n : Int)) (.int .i64 (n : Int))).run Try.prog W = .ok (.slice (some ⟨W.heap.size, 0, none⟩) n n) (W.alloc (.cells (bcl (List.replicate n false)).toArray 4)) := fun W => by
    obtain ⟨i7, hi7, hy0, hy1, hy2⟩ := info_parts (show (Try.prog.info? 4).map (fun i => (i.zero, i.size, i.bytes)) = some (some (.bool false), 1, 1) by kernel_rfl)
    have := run_makeSlice (P := Try.prog) (w := W) 43 4 i7 (.bool false) Try.underlying43 hi7 hy0 .i64 .i64 (n : Int) (n : Int) (by omega) (by omega) (by rw [hy1]; omega) (by rw [hy2]; omega) (by omega)
    rw [hy1, Int.toNat_natCast, Nat.mul_one] at this
    rw [← made_bcl]
    exact this
  have HMd : Hid (∀ W : World, Held w (N : Int) A n c W → Held w (N : Int) A n c (W.alloc (.cells ((bcl (List.replicate n false)).set h (.bool true)).toArray 4)) ∧ Held w (N : Int) A n c (W.alloc (.cells (bcl (List.replicate n false)).toArray 4)) ∧ (W.alloc (.cells ((bcl (List.replicate n false)).set h (.bool true)).toArray 4)).heap[W.heap.size]? = some (.cells (bcl ((List.replicate n false).set h true)).toArray 4 (0, 0)) ∧ Below W.heap.size W (W.alloc (.cells ((bcl (List.replicate n false)).set h (.bool true)).toArray 4))) := fun W hb => by
    have b1 := (Below.refl W.heap.size W).alloc (Nat.le_refl _) (.cells ((bcl (List.replicate n false)).set h (.bool true)).toArray 4)
    refine ⟨hb.next b1, hb.next ((Below.refl W.heap.size W).alloc (Nat.le_refl _) _), ?_, b1⟩
    rw [heap_alloc_new]
    simp only [bcl, List.map_set]
  have HCell : Hid (∀ W : World, (W.alloc (.cells (bcl (List.replicate n false)).toArray 4)).cell? ⟨W.heap.size, h, none⟩ = some (.bool false)) := fun W => by
    rw [cell_of_row _ _ _ _ _ _ (heap_alloc_new W _)]
    simp [bcl, hhn]
  have HFz : Hid (∀ (W : World) j, (W.alloc (.cells (bcl (List.replicate n false)).toArray 4)).frozen? ⟨W.heap.size, j, none⟩ = false) := fun W j => frozen_of_row _ _ _ _ _ (heap_alloc_new W _)
  have d3 := wrapN64 (x := h) (by omega)
  have d1 : Int.tdiv (k : Int) 2 = (h : Int) := by rw [← hh]; rfl
  have htN2 : t < N := by omega
  have t1 : decide ((np : Int) < (200 : Int)) = false := by simp; omega
  have t2 : ((0 : Int) != 0) = false := by decide
  have HOK := hid hok
  have HR0 := hid hr0
  have HPk := hid hpk
  have HLk := hid hg.row
  have HM := hid hm
  have HI0 := hid hI0
  have hck' := hid hck
  have HDt := hid (fun (v : Int) (hv : 0 ≤ v ∧ v < (N : Int)) => distA_top (N := N) (l := l) (e := (k : Int)) (t := (t : Int)) (gn := gn) (v := v) hr0 hv)
  clear hN hO hg hs hok hck he ht hR hlen hE hE3 hk hh hgn hgn2 hD hfr hfl hfD h0 hr0 hpk hm hI0 hEa htN
  go_enter Try.func4, Try.ntmps4
  go_wp2_with (first
    | (go_at_call 6; (with_reducible refine (HA.out _ hS).mono ?_); rintro e' w1 ⟨rfl, h1⟩; obtain ⟨g0, g1⟩ := h1.cells)
    | (go_at_call 7; (with_reducible refine (HSm.out _ h1).mono ?_); rintro e' w2 ⟨rfl, h2⟩; obtain ⟨q0, q1⟩ := h2.cells)
    | (go_at_call 8; (with_reducible refine (HT.out _ h2).mono ?_); rintro e' w4 ⟨p, pr, rfl, ht4, hr4, h4⟩; have HT4 := hid ht4; have HR4 := hid hr4; clear ht4 hr4)
    | (go_at_call 9; (with_reducible refine (HL.out _ _ HT4.out h4).mono ?_); rintro e' w5 ⟨B, c5, rfl, hs5, h5, hb5⟩; have HS5 := hid hs5; have HR5 := hid (refAt_keep _ _ _ _ _ HR4.out hb5); obtain ⟨r0, r1⟩ := h5.cells; clear hs5 hb5)
    | (go_at_call 12; (with_reducible refine (HNum.out _ _).mono ?_); rintro _ _ ⟨rfl, rfl⟩)
    | (go_at_call 13; (with_reducible refine (HE0.out _ h5).mono ?_); rintro e' w6 ⟨rfl, h6, b6⟩; have HB6 := hid b6; obtain ⟨hA6, hB6', hrow6, bA6⟩ := HMd.out w6 h6; have HRow6 := hid hrow6; have HBA6 := hid bA6; obtain ⟨u0, u1⟩ := h6.cells; obtain ⟨v0, v1⟩ := hA6.cells; obtain ⟨x0, x1⟩ := hB6'.cells; have c0 := HCell.out w6; have f0 := HFz.out w6 h; clear b6 hrow6 bA6)
    | (go_at_call 14; (with_reducible refine (HF.out _ _ hA6 HRow6.out).mono ?_); rintro e' w7 ⟨b7, o7, c7, rfl, k7, h7, bb7⟩; have HB7 := hid bb7; clear bb7))
  have HD3 := hid d3
  clear d3
  have H7 := hid h7
  have HR7 := hid (refAt_keep _ _ _ _ _ (refAt_keep _ _ _ _ _ (refAt_keep _ _ _ _ _ HR5.out HB6.out) HBA6.out) HB7.out)
  have HS7 := hid (((HS5.out.on HB6.out).on HBA6.out).on HB7.out)
  have hA0 : ea + 0 = ea := by omega
  clear g0 g1 q0 q1 r0 r1 u0 u1 v0 v1 x0 x1 c0 f0 hA6 hB6' h1 h2 h4 h5 h6 h7 t1 HT4 HR4 HS5 HR5 HT HL HNum HA HSm HMd HCell HFz HB6 HBA6 HB7 HRow6 HF HE0 hmk k7
  have HAll : Hid (∀ W, Below w7.heap.size w7 W → Held w (N : Int) A n c W ∧ RefAt W pr N l ∧ RSeg W W.heap.size B m R1) := fun W hb => ⟨H7.out.next hb, refAt_keep _ _ _ _ _ HR7.out hb, HS7.out.on hb⟩
  have HNode := hid (fun (i : Nat) (v sm : Int) (nn : Nat) (s : Sg) => ainv_node (N := N) (l := l) (e := (k : Int)) (t := (t : Int)) (gn := gn) (L := R1) (D := D) (i := i) (v := v) (sm := sm) (n := nn) (s := s) (by omega : N ≤ 10))
  have HNext := hid (fun (i : Nat) (b v sm : Int) (nn : Nat) => ninv_next (N := N) (l := l) (e := (k : Int)) (t := (t : Int)) (gn := gn) (L := R1) (D := D) (i := i) (v := v) (sm := sm) (n := nn) (bt := b) HOK.out)
  have HNend := hid (fun (i : Nat) (b v sm : Int) (nn : Nat) => ninv_end (N := N) (l := l) (e := (k : Int)) (t := (t : Int)) (gn := gn) (L := R1) (D := D) (i := i) (v := v) (sm := sm) (n := nn) (bt := b) HOK.out)
  have HNstep := hid (fun (i : Nat) (b v sm e : Int) (nn : Nat) => ninv_step (N := N) (l := l) (e := (k : Int)) (t := (t : Int)) (gn := gn) (L := R1) (D := D) (i := i) (v := v) (sm := sm) (n := nn) (bt := b) (k := e) HOK.out HR0.out)
  have HEdge := hid (fun (i : Nat) (v sm : Int) (nn : Nat) (s : Sg) => ainv_edge (N := N) (l := l) (e := (k : Int)) (t := (t : Int)) (gn := gn) (L := R1) (D := D) (i := i) (v := v) (sm := sm) (n := nn) (s := s) HR0.out)
  have HEnd := hid (fun (i : Nat) (v sm : Int) (nn : Nat) => ainv_end (N := N) (l := l) (e := (k : Int)) (t := (t : Int)) (gn := gn) (L := R1) (D := D) (i := i) (v := v) (sm := sm) (n := nn) HR0.out)
  go_loopw [15, 20, 21, 22] (fun a b cc dd wr => ∃ (i nn : Nat) (v sm : Int), i ≤ m ∧ a = .int .i64 v ∧ b = .int .i64 sm ∧ cc = .int .i64 nn ∧ dd = .int .i64 i ∧ Hid (AInv N l (k : Int) (t : Int) gn R1 D i v sm nn) ∧ Hid (Below w7.heap.size w7 wr)) (fun _ _ _ dd _ => m - (intOf dd).toNat)
  case atStart => exact ⟨0, 0, ea, 0, Nat.zero_le _, rfl, rfl, rfl, rfl, HI0.out, Below.refl _ _⟩
  case round =>
    obtain ⟨i, nn, v, sm, hi, rfl, rfl, rfl, rfl, HI, HB⟩ := hrel
    by_cases hlt : i < m
    · obtain ⟨s, hs⟩ : ∃ s, R1[i]? = some s := ⟨R1[i]'(by rw [HM.out]; exact hlt), List.getElem?_eq_getElem _⟩
      have x1 : decide ((i : Int) < (m : Int)) = true := decide_eq_true (by omega)
      have x2 : decide (i < m) = true := decide_eq_true hlt
      have i0 : (0 : Int) ≤ (i : Int) := by omega
      have i1 : (i : Int) < (m : Int) := by omega
      have HEwi := hid (wrapN1 (x := i) (by omega))
      obtain ⟨bs, os, rfl, hbs, hcs⟩ := HS7.out.2 (by omega)
      obtain ⟨cs0, cs1⟩ := hcs i s hs
      have HC : Hid (∀ W, Below w7.heap.size w7 W → (W.cell? ⟨bs, os + i * 2, none⟩ = some (.bool s.edge) ∧ W.cell? ⟨bs, os + i * 2 + 1, none⟩ = some (.int .i64 s.too)) ∧ W.cell? ⟨w.heap.size, 0, none⟩ = some (.int .i64 (N : Int)) ∧ W.cell? ⟨w.heap.size, 1, none⟩ = some (.slice A n c)) := fun W hb => ⟨⟨(hb.cell (p := ⟨bs, _, none⟩) hbs).trans cs0, (hb.cell (p := ⟨bs, _, none⟩) hbs).trans cs1⟩, (H7.out.next hb).cells⟩
      cases hse : s.edge with
      | false =>
        obtain ⟨hv0, hN0⟩ := HNode.out i v sm nn s HI.out hs hse
        rw [hse] at HC
        obtain ⟨bt, hbt⟩ : ∃ bt, s.too = bt := ⟨_, rfl⟩
        rw [hbt] at HC hN0 hv0
        have HN0 := hid hN0
        clear hs hse hbt hcs cs0 cs1 hN0
        go_wp2_with fail
        go_loopw [15, 20, 21] (fun a b cc wx => ∃ (nn : Nat) (v sm : Int), a = .int .i64 v ∧ b = .int .i64 sm ∧ cc = .int .i64 nn ∧ Hid (NInv N l (k : Int) (t : Int) gn R1 D i bt v sm nn) ∧ Hid (Below w7.heap.size w7 wx)) (fun a _ _ _ => nearT N l (intOf a) bt)
        case atStart => exact ⟨nn, v, sm, rfl, rfl, rfl, HN0.out, HB.out⟩
        case round =>
          clear HN0 hv0 HI HB
          obtain ⟨nn, v, sm, rfl, rfl, rfl, HI, HB⟩ := hrel
          rename World => wx
          obtain ⟨⟨b0, b1⟩, b2, b3⟩ := HC.out _ HB.out
          by_cases hv : v = bt
          · subst hv
            have hne : (v != v) = false := by simp
            have HA1 := hid (HNend.out i v v sm nn HI.out rfl)
            have ewi := HEwi.out
            go_wp2_with fail
            go_roundw
            case rel => exact ⟨i + 1, nn, v, sm, hlt, rfl, rfl, rfl, rfl, HA1.out, HB.out⟩
            case measure => simp [intOf]; omega
          · have hne : (v != bt) = true := by simpa using hv
            have hrng := HI.out.rng
            have hfew := HI.out.few
            have hpos := HNext.out i bt v sm nn HI.out hv
            obtain ⟨X, hX⟩ : ∃ X, nextT N l v bt = X := ⟨_, rfl⟩
            rw [hX] at hpos
            obtain ⟨q, hq⟩ : ∃ q, X.length = q := ⟨_, rfl⟩
            rw [hq] at hpos
            have HXl : Hid (q ≤ 1000) := by show q ≤ 1000; rw [← hq, ← hX]; have := nextT_len N l v bt; omega
            have hz0 : ((q : Int) == 0) = false := beq_eq_false_iff_ne.2 (by omega)
            obtain ⟨pv, hpv⟩ : ∃ pv, pk[nn]? = some pv := ⟨_, List.getElem?_eq_getElem (by have := HPk.out.1; omega)⟩
            obtain ⟨bp, op, rfl, hbp, hcp⟩ := HPk.out.2 (by omega)
            have cpk0 := hcp nn pv hpv
            obtain ⟨r, hr⟩ : ∃ r : Nat, pv % 1024 = (r : Int) := ⟨(pv % 1024).toNat, by omega⟩
            have HMask := hid ((i64_mask_any 10 (by omega) 1023 (by decide) pv).trans hr)
            obtain ⟨ix, hix⟩ : ∃ ix, r % q = ix := ⟨_, rfl⟩
            have hixl : ix < q := by rw [← hix]; exact Nat.mod_lt _ hpos
            have htm : Int.tmod (r : Int) (q : Int) = (ix : Int) := by rw [← hix]; rfl
            obtain ⟨kv, hKv⟩ : ∃ e, X[ix]? = some e := ⟨_, List.getElem?_eq_getElem (by omega)⟩
            obtain ⟨K, b, rfl, hEd, hI2, hnear⟩ := HNstep.out i bt v sm kv nn HI.out hv (by rw [hX]; exact List.mem_of_getElem? hKv)
            have ix1 : (ix : Int) < (q : Int) := by omega
            have ix0 : (0 : Int) ≤ (ix : Int) := by omega
            have HIxw := hid (wrapN (x := ix) (by have := HXl.out; omega))
            have ie1 : (nn : Int) < (np : Int) := by omega
            have ie0 : (0 : Int) ≤ (nn : Int) := by omega
            have e200 : decide ((200 : Int) ≤ (nn : Int)) = false := decide_eq_false (by omega)
            have e200' : decide (200 ≤ nn) = false := decide_eq_false (by omega)
            have HNear := hid hnear
            have hK2 := hEd.lt
            obtain ⟨qq, hqq⟩ : ∃ qq, K / 2 = qq := ⟨_, rfl⟩
            have dq : Int.tdiv (K : Int) 2 = (qq : Int) := by rw [← hqq]; rfl
            have hqn : qq < n := by omega
            have iq1 : (qq : Int) < (n : Int) := by omega
            have iq0 : (0 : Int) ≤ (qq : Int) := by omega
            have HIqw := hid (wrapN (x := qq) (by omega))
            have HDqw := hid (wrapN64 (x := qq) (by omega))
            have hql : qq < l.length := by omega
            have hqh : ((qq : Int) == (h : Int)) = false := by
              have := HNot.out K hEd.up
              rw [hqq] at this
              exact beq_eq_false_iff_ne.2 (by omega)
            have hvv : (v != v) = false := by simp
            obtain ⟨bL, oL, rfl, hbL, hcL⟩ := HLk.out.2 (by omega)
            obtain ⟨xl, hxl⟩ : ∃ xl, l[qq]? = some xl := ⟨_, List.getElem?_eq_getElem hql⟩
            have hmet : met l K = xl.m := by unfold met; rw [hqq, List.getD_eq_getElem?_getD, hxl]; rfl
            have cme0 := (hcL qq xl hxl).2.2.1
            rw [hmet] at hI2
            have hs2 := hI2.sum
            have hl2 := hI2.low
            have hp2 := hI2.sml
            obtain ⟨xm, hxm⟩ : ∃ xm, xl.m = xm := ⟨_, rfl⟩
            rw [hxm] at hI2 hs2 hp2 cme0
            have HEws := hid (wrapI (x := sm + xm) (by omega))
            have HEwn := hid (wrapN1 (x := nn) (by omega))
            have HI2 := hid hI2
            have hE := hEd.ends
            have HEc : Hid (∀ W, Below w7.heap.size w7 W → Calls Try.prog 13 #[.agg #[.int .i64 (N : Int), .slice (some ⟨bL, oL, none⟩) n c], .int .i64 (K : Int)] W fun e w9 => e = .returned (.tuple #[.int .i64 v, .int .i64 b, .bool true]) ∧ (w9.cell? ⟨bs, os + i * 2, none⟩ = some (.bool false) ∧ w9.cell? ⟨w.heap.size, 0, none⟩ = some (.int .i64 (N : Int)) ∧ w9.cell? ⟨w.heap.size, 1, none⟩ = some (.slice (some ⟨bL, oL, none⟩) n c) ∧ w9.cell? ⟨bL, oL + qq * 4 + 2, none⟩ = some (.int .i64 xm)) ∧ Below w7.heap.size w7 w9) := fun W hb => by
              have := HEnds.out (K : Int) (by omega) W (H7.out.next hb)
              rw [hE] at this
              refine this.mono ?_
              rintro e w9 ⟨h1, h2, h3⟩
              have hb9 := hb.trans (h3.mono hb.size)
              obtain ⟨⟨x0, x1⟩, x2, x3⟩ := HC.out _ hb9
              exact ⟨h1, ⟨x0, x2, x3, ((H7.out.next hb9).1.cell (p := ⟨bL, _, none⟩) hbL).trans cme0⟩, hb9⟩
            have HXc : Hid (Calls Try.prog 15 #[.pointer (some pr), .int .i64 v, .int .i64 bt] wx fun e w8 => ∃ b8 o8 c8, e = .returned (.slice (some ⟨b8, o8, none⟩) q c8) ∧ (w8.cell? ⟨b8, o8 + ix, none⟩ = some (.int .i64 (K : Int)) ∧ w8.cell? ⟨bp, op + nn, none⟩ = some (.int .i64 pv) ∧ w8.cell? ⟨w.heap.size, 0, none⟩ = some (.int .i64 (N : Int)) ∧ w8.cell? ⟨w.heap.size, 1, none⟩ = some (.slice (some ⟨bL, oL, none⟩) n c)) ∧ Below w7.heap.size w7 w8) := by
              have := HNx.out wx pr v bt (HAll.out _ HB.out).2.1 ⟨by omega, by omega⟩
              rw [hX] at this
              refine this.mono ?_
              rintro e w8 ⟨A8, c8, h1, h2, h3⟩
              rw [hq] at h1 h2
              obtain ⟨b8, o8, rfl, -, hc8⟩ := h2.2 hpos
              have hb8 := HB.out.trans (h3.mono HB.out.size)
              obtain ⟨-, x2, x3⟩ := HC.out _ hb8
              exact ⟨b8, o8, c8, h1, ⟨hc8 ix _ hKv, ((H7.out.next hb8).1.cell (p := ⟨bp, _, none⟩) hbp).trans cpk0, x2, x3⟩, hb8⟩
            clear hX hq hpv hcp cpk0 hr hix hKv hI2 hs2 hl2 hp2 hcL hxl hmet hxm cme0 hE hEd hqq hnear
            have hmask := HMask.out
            have ixw := HIxw.out
            have iqw := HIqw.out
            have dqw := HDqw.out
            have d3 := HD3.out
            have ews := HEws.out
            have ewn := HEwn.out
            have ewi := HEwi.out
            go_wp2_with (first
              | (go_at_call 15; (with_reducible refine HXc.out.mono ?_); rintro e' w8 ⟨b8, o8, c8, rfl, ⟨y0, y1, y2, y3⟩, hb8⟩; have HB8 := hid hb8; clear hb8)
              | (go_at_call 13; (with_reducible refine (HEc.out _ HB8.out).mono ?_); rintro e' w9 ⟨rfl, ⟨z0, z1, z2, z3⟩, hb9⟩; have HB9 := hid hb9; clear hb9))
            go_roundw
            case rel => exact ⟨nn + 1, b, sm + xm, rfl, rfl, rfl, HI2.out, HB9.out⟩
            case measure => exact HNear.out
      | true =>
        obtain ⟨K, b, hK0, hEd, hI2⟩ := HEdge.out i v sm nn s HI.out hs hse
        rw [hse, hK0] at HC
        have hfew := HI.out.few
        have hK2 := hEd.lt
        obtain ⟨qq, hqq⟩ : ∃ qq, K / 2 = qq := ⟨_, rfl⟩
        have dq : Int.tdiv (K : Int) 2 = (qq : Int) := by rw [← hqq]; rfl
        have hqn : qq < n := by omega
        have iq1 : (qq : Int) < (n : Int) := by omega
        have iq0 : (0 : Int) ≤ (qq : Int) := by omega
        have HIqw := hid (wrapN (x := qq) (by omega))
        have HDqw := hid (wrapN64 (x := qq) (by omega))
        have hql : qq < l.length := by omega
        have hqh : ((qq : Int) == (h : Int)) = false := by
          have := HNot.out K hEd.up
          rw [hqq] at this
          exact beq_eq_false_iff_ne.2 (by omega)
        have hvv : (v != v) = false := by simp
        obtain ⟨bL, oL, rfl, hbL, hcL⟩ := HLk.out.2 (by omega)
        obtain ⟨xl, hxl⟩ : ∃ xl, l[qq]? = some xl := ⟨_, List.getElem?_eq_getElem hql⟩
        have hmet : met l K = xl.m := by unfold met; rw [hqq, List.getD_eq_getElem?_getD, hxl]; rfl
        have cme0 := (hcL qq xl hxl).2.2.1
        rw [hmet] at hI2
        have hs2 := hI2.sum
        have hl2 := hI2.low
        have hp2 := hI2.sml
        obtain ⟨xm, hxm⟩ : ∃ xm, xl.m = xm := ⟨_, rfl⟩
        rw [hxm] at hI2 hs2 hp2 cme0
        have HEws := hid (wrapI (x := sm + xm) (by omega))
        have HEwn := hid (wrapN1 (x := nn) (by omega))
        have HI2 := hid hI2
        have hE := hEd.ends
        have HEc : Hid (∀ W, Below w7.heap.size w7 W → Calls Try.prog 13 #[.agg #[.int .i64 (N : Int), .slice (some ⟨bL, oL, none⟩) n c], .int .i64 (K : Int)] W fun e w9 => e = .returned (.tuple #[.int .i64 v, .int .i64 b, .bool true]) ∧ (w9.cell? ⟨bs, os + i * 2, none⟩ = some (.bool true) ∧ w9.cell? ⟨w.heap.size, 0, none⟩ = some (.int .i64 (N : Int)) ∧ w9.cell? ⟨w.heap.size, 1, none⟩ = some (.slice (some ⟨bL, oL, none⟩) n c) ∧ w9.cell? ⟨bL, oL + qq * 4 + 2, none⟩ = some (.int .i64 xm)) ∧ Below w7.heap.size w7 w9) := fun W hb => by
          have := HEnds.out (K : Int) (by omega) W (H7.out.next hb)
          rw [hE] at this
          refine this.mono ?_
          rintro e w9 ⟨h1, h2, h3⟩
          have hb9 := hb.trans (h3.mono hb.size)
          obtain ⟨⟨x0, x1⟩, x2, x3⟩ := HC.out _ hb9
          exact ⟨h1, ⟨x0, x2, x3, ((H7.out.next hb9).1.cell (p := ⟨bL, _, none⟩) hbL).trans cme0⟩, hb9⟩
        clear hs hse hK0 hcs cs0 cs1 hI2 hs2 hl2 hp2 hcL hxl hmet hxm cme0 hE hEd hqq
        go_wp2_with fail
        go_loopw [15, 20, 21] (fun a b cc wx => a = .int .i64 v ∧ b = .int .i64 sm ∧ cc = .int .i64 nn ∧ Hid (Below w7.heap.size w7 wx)) (fun _ _ _ _ => 0)
        case atStart => exact ⟨rfl, rfl, rfl, HB.out⟩
        case round =>
          clear HI HB
          obtain ⟨rfl, rfl, rfl, HB⟩ := hrel
          rename World => wx
          obtain ⟨⟨b0, b1⟩, b2, b3⟩ := HC.out _ HB.out
          have iqw := HIqw.out
          have dqw := HDqw.out
          have d3 := HD3.out
          have ews := HEws.out
          have ewn := HEwn.out
          have ewi := HEwi.out
          go_wp2_with (first
            | (go_at_call 13; (with_reducible refine (HEc.out _ HB.out).mono ?_); rintro e' w9 ⟨rfl, ⟨z0, z1, z2, z3⟩, hb9⟩; have HB9 := hid hb9; clear hb9))
          go_roundw
          case rel => exact ⟨i + 1, nn + 1, b, sm + xm, hlt, rfl, rfl, rfl, rfl, HI2.out, HB9.out⟩
          case measure => simp [intOf]; omega
    · obtain rfl : i = m := by omega
      have x1 : decide ((i : Int) < (i : Int)) = false := decide_eq_false (by omega)
      have x2 : decide (i < i) = false := decide_eq_false (by omega)
      obtain ⟨rfl, rfl⟩ := HEnd.out i v sm nn HI.out (by have := HM.out; omega)
      go_wp2_with fail
      go_ret
      exact ⟨rfl, H7.out.1.trans (HB.out.mono H7.out.1.size)⟩
end Go.Proofs.Ytkemcgbedapkcaa

/- RepairAvoids, at every input. -/
namespace Go.Proofs.Ytkemcgbedapkcaa
open Go.RowKit
set_option maxHeartbeats 12800000
set_option maxRecDepth 100000
theorem around_err {N : Nat} {l : List Lnk} {e t d : Int} (h : (aroundS N l e t d).2 ≠ 0) : (aroundS N l e t d).1 = [] := by
  unfold aroundS at h ⊢
  split
  · rename_i hc
    rw [if_pos hc] at h
    exact compS_err h
  · rfl
theorem repAvoids_any {TabAt : World → Addr → Nat → List Lnk → Prop} (hN : NewOps TabAt 16) (hO : AroundOps TabAt 9) (nd : Int) (A : Option Addr) (n c : Nat) (l : List Lnk) (e t : Int) (Ap : Option Addr) (np cp : Nat) (pk : List Int) (w : World) (hg : GAny w nd A n c l) (he : In64 e) (ht : In64 t) (hpk : RInt w w.heap.size Ap np pk) :
    Calls Try.prog 4 #[.agg #[.int .i64 nd, .slice A n c], .int .i64 e, .int .i64 t, .slice Ap np cp] w fun x w' => x = .returned (.bool true) ∧ Below w.heap.size w w' := by
  have hS := Held.start w nd A n c
  have HA := hid (fun (w' : World) (h : Held w nd A n c w') => (alive18 hN hO w').mono fun _ _ h1 => (⟨h1.1, h.next h1.2⟩ : _ ∧ Held w nd A n c _))
  have HSm := hid (fun (w' : World) (h : Held w nd A n c w') => (small_any nd A n c w').mono fun _ _ h1 => (⟨h1.1, h.next h1.2⟩ : _ ∧ Held w nd A n c _))
  have HNum := hid rnum_any
  cases hs : smallB nd n with
  | false =>
    rw [hs] at HSm
    clear hN hO hg hs hpk he ht
    go_enter Try.func4, Try.ntmps4
    go_wp2_with (first
      | (go_at_call 6; (with_reducible refine (HA.out _ hS).mono ?_); rintro e' w1 ⟨rfl, h1⟩; obtain ⟨g0, g1⟩ := h1.cells)
      | (go_at_call 7; (with_reducible refine (HSm.out _ h1).mono ?_); rintro e' w2 ⟨rfl, h2⟩; obtain ⟨q0, q1⟩ := h2.cells))
    go_ret
    exact ⟨rfl, h2.1⟩
  | true =>
    by_cases hnp : np < 200
    · rw [hs] at HSm
      have t1 : decide ((np : Int) < (200 : Int)) = true := decide_eq_true (by omega)
      clear hN hO hg hs hpk he ht
      go_enter Try.func4, Try.ntmps4
      go_wp2_with (first
        | (go_at_call 6; (with_reducible refine (HA.out _ hS).mono ?_); rintro e' w1 ⟨rfl, h1⟩; obtain ⟨g0, g1⟩ := h1.cells)
        | (go_at_call 7; (with_reducible refine (HSm.out _ h1).mono ?_); rintro e' w2 ⟨rfl, h2⟩; obtain ⟨q0, q1⟩ := h2.cells))
      go_ret
      exact ⟨rfl, h2.1⟩
    · have t1 : decide ((np : Int) < (200 : Int)) = false := decide_eq_false (by omega)
      by_cases hck : (checkS nd l).2 = 0
      · obtain ⟨N, rfl⟩ : ∃ N : Nat, nd = (N : Int) := ⟨nd.toNat, by have := checkS_ok hck; omega⟩
        by_cases h0 : (aroundS N l e t 10).2 = 0
        · exact repAvoids_in hN hO N A n c l e t Ap np cp pk w hg hs hck he ht hpk (by omega) h0
        · rw [hs] at HSm
          have hok := gok_of hck
          have hn16 : (N : Int) ≤ 10 ∧ n ≤ 16 := by unfold smallB at hs; simp only [Bool.and_eq_true, decide_eq_true_eq] at hs; exact hs
          have hll : l.length = n := hg.row.1
          have hnil := around_err h0
          have HT := hid (show ∀ W, Held w (N : Int) A n c W → Calls Try.prog 8 #[.agg #[.int .i64 (N : Int), .slice A n c]] W fun e w' => ∃ (p pr : Addr), e = .returned (.tuple #[.pointer (some p), .pointer (some pr), .bool true]) ∧ TabAt w' p N l ∧ Held w (N : Int) A n c w' from fun W hh => by
            refine (tabs_any hN (N : Int) A n c l W (hg.on hh.1)).mono ?_
            rintro e w' ⟨hb, h1 | h1⟩
            · obtain ⟨_, N', p, pr, h2, h3, h4, h5⟩ := h1
              obtain rfl : N' = N := by omega
              exact ⟨p, pr, h3, h4, hh.next hb⟩
            · exact (h1.1 hck).elim)
          obtain ⟨er, her⟩ : ∃ er, (aroundS N l e t 10).2 = er := ⟨_, rfl⟩
          rw [her] at h0
          have HL := hid (show ∀ (W : World) (p : Addr), TabAt W p N l → Held w (N : Int) A n c W → Calls Try.prog 9 #[.pointer (some p), .int .i64 e, .int .i64 t, .int .i64 10] W fun x w' => ∃ B c2, x = .returned (.tuple #[.slice B 0 c2, .int .i64 er]) ∧ Held w (N : Int) A n c w' from fun W p hp hh => by
            refine (hO W p N l e t 10 hp hok (by omega) (by omega) he ht ⟨by omega, by omega⟩).mono ?_
            rintro x w' ⟨B, c2, h1, h3, h2⟩
            rw [hnil, her] at h1
            exact ⟨B, c2, h1, hh.next h2⟩)
          have t2 : (er != 0) = true := by simpa using h0
          clear hN hO hg hs hpk he ht hok hck hnil her h0 hll hn16
          go_enter Try.func4, Try.ntmps4
          go_wp2_with (first
            | (go_at_call 6; (with_reducible refine (HA.out _ hS).mono ?_); rintro e' w1 ⟨rfl, h1⟩; obtain ⟨g0, g1⟩ := h1.cells)
            | (go_at_call 7; (with_reducible refine (HSm.out _ h1).mono ?_); rintro e' w2 ⟨rfl, h2⟩; obtain ⟨q0, q1⟩ := h2.cells)
            | (go_at_call 8; (with_reducible refine (HT.out _ h2).mono ?_); rintro e' w4 ⟨p, pr, rfl, ht4, h4⟩; have HT4 := hid ht4; clear ht4)
            | (go_at_call 9; (with_reducible refine (HL.out _ _ HT4.out h4).mono ?_); rintro e' w5 ⟨B, c5, rfl, h5⟩)
            | (go_at_call 12; (with_reducible refine (HNum.out _ _).mono ?_); rintro _ _ ⟨rfl, rfl⟩))
          go_ret
          exact ⟨rfl, h5.1⟩
      · have HT := hid (show ∀ W, Held w nd A n c W → Calls Try.prog 8 #[.agg #[.int .i64 nd, .slice A n c]] W fun e w' => (∃ v1 v2, e = .returned (.tuple #[v1, v2, .bool false])) ∧ Held w nd A n c w' from fun W hh => by
          refine (tabs_any hN nd A n c l W (hg.on hh.1)).mono ?_
          rintro e w' ⟨hb, h1 | h1⟩
          · exact (hck h1.1).elim
          · exact ⟨h1.2, hh.next hb⟩)
        rw [hs] at HSm
        clear hN hO hg hs hpk he ht hck
        go_enter Try.func4, Try.ntmps4
        go_wp2_with (first
          | (go_at_call 6; (with_reducible refine (HA.out _ hS).mono ?_); rintro e' w1 ⟨rfl, h1⟩; obtain ⟨g0, g1⟩ := h1.cells)
          | (go_at_call 7; (with_reducible refine (HSm.out _ h1).mono ?_); rintro e' w2 ⟨rfl, h2⟩; obtain ⟨q0, q1⟩ := h2.cells)
          | (go_at_call 8; (with_reducible refine (HT.out _ h2).mono ?_); rintro e' w4 ⟨⟨v1, v2, rfl⟩, h4⟩))
        go_ret
        exact ⟨rfl, h4.1⟩
end Go.Proofs.Ytkemcgbedapkcaa
