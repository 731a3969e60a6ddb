/- Merged: CqW CqX. -/
import Derived.Test.YtkemcgbedapkcaaG15
import Derived.Test.YtkemcgbedapkcaaG05
/- Seg to a node that is there. -/
namespace Go.Proofs.Ytkemcgbedapkcaa
open Go.RowKit
set_option maxHeartbeats 12800000
set_option maxRecDepth 100000
theorem RcP.midK {w w3 : World} {v k t : Int} {B q m i j : Nat} {KV EV : Value} {kbs ebs : List Nat} {W w6 : World} (h : RcP w w3 v k t B q m i j KV EV kbs ebs W) (hg : W.grownBy w6 KV.ownBlock) : Below w.heap.size w w6 ∧ w6.heap[w3.heap.size]? = some (.cells #[.pointer (some ⟨B, 0, none⟩), .pointer (some ⟨q, 0, none⟩), .int .i64 t, KV, EV] 123 (0, 0)) :=
  ⟨(h.hel.app h.kr.own h.old hg (by decide) (by decide)).1, (hg.block _ (blk_lt h.box) (own_ne h.kr.own h.box (by decide))).trans h.box⟩
theorem RcP.midE {w w3 : World} {v k t : Int} {B q m i j : Nat} {KV EV : Value} {kbs ebs : List Nat} {W w6 : World} (h : RcP w w3 v k t B q m i j KV EV kbs ebs W) (hg : W.grownBy w6 EV.ownBlock) : Below w.heap.size w w6 ∧ w6.heap[w3.heap.size]? = some (.cells #[.pointer (some ⟨B, 0, none⟩), .pointer (some ⟨q, 0, none⟩), .int .i64 t, KV, EV] 123 (0, 0)) :=
  ⟨(h.hel.app h.er.own h.old hg (by decide) (by decide)).1, (hg.block _ (blk_lt h.box) (own_ne h.er.own h.box (by decide))).trans h.box⟩
theorem new_rowm {w : World} {o : Obj} {xs : List Value} {cs : Array Value} {t : TypeId} (h : cs = xs.toArray) : ∀ (j : Nat) (u : Value), xs[j]? = some u → ((w.alloc o).alloc (.cells cs t)).cell? ((⟨w.heap.size + 1, 0, none⟩ : Addr).add j) = some u := by
  intro j u hu
  have := new_row (w := w.alloc o) (t := t) h j u hu
  rwa [show (w.alloc o).heap.size = w.heap.size + 1 from by simp] at this
theorem RcP.start {w w3 : World} {v k t : Int} {B q m : Nat} (h : HeldS w v k false t w3) : RcP w w3 v k t B q m 0 0 (.slice none 0 0) (.slice none 0 0) [] [] (w3.alloc (.cells #[.pointer (some ⟨B, 0, none⟩), .pointer (some ⟨q, 0, none⟩), .int .i64 t, .slice none 0 0, .slice none 0 0] 123)) :=
  ⟨h.next ((Below.refl _ _).alloc (Nat.le_refl _) _), (Below.refl _ _).alloc (Nat.le_refl _) _, heap_alloc_new w3 _, MkR.nil _ _ _ _ _ _, MkR.nil _ _ _ _ _ _, blk_lt h.2.2.2⟩
theorem seg_good (N : Nat) (A : Option Addr) (n c : Nat) (l : List Lnk) (x : Wnt) (gn : List Bool) (B q : Nat) (A' : Option Addr) (n' c' : Nat) (vD : Value) (vs : List Value) (v k t : Int) (w : World) (hga : GArg w (N : Int) A n c l) (ho : OptAt (N : Int) A n c l x gn B w) (hr0 : rightS (N : Int) l x = 0) (hok : GOk N l) (ht : RAt q A' n' c' vD vs N l w) (hb : 0 ≤ t ∧ t < N ∧ 0 ≤ v ∧ v < N ∧ v ≠ t ∧ 0 ≤ k ∧ k < (ptsS x).length) :
    Calls Try.prog 37 #[.pointer (some ⟨B, 0, none⟩), .pointer (some ⟨q, 0, none⟩), .agg #[.int .i64 v, .int .i64 k], .agg #[.bool false, .int .i64 t]] w (SegAns (segO N l x gn (v, k) false t) w) := by
  have HO := hid (show segO N l x gn (v, k) false t = reachO N l x gn t (v, k) from by
    unfold segO
    rw [if_neg (by decide), if_pos hb])
  have hS := HeldS.start w v k false t
  obtain ⟨Ap, cp, b0, b1, b2, hB⟩ := optAt_cells ho
  obtain ⟨m, hm⟩ : ∃ m, (ptsS x).length = m := ⟨_, rfl⟩
  have hm6 : 2 ≤ m ∧ m ≤ 6 := by have := (right_ok hr0).2.2; have := ptsS_len x; omega
  rw [hm] at b2 hb
  have SG := hid (fun (W : World) (h : HeldS w v k false t W) => (⟨(h.1.cell (p := ⟨B, 0, none⟩) hB).trans b0, (h.1.cell (p := ⟨B, 1, none⟩) hB).trans b1, (h.1.cell (p := ⟨B, 2, none⟩) hB).trans b2, h.cells.1, h.cells.2.1, h.cells.2.2.2.1⟩ : W.cell? ⟨B, 0, none⟩ = some (.int .i64 (N : Int)) ∧ W.cell? ⟨B, 1, none⟩ = some (.slice A n c) ∧ W.cell? ⟨B, 2, none⟩ = some (.slice Ap m cp) ∧ W.cell? ⟨w.heap.size, 0, none⟩ = some (.int .i64 v) ∧ W.cell? ⟨w.heap.size, 1, none⟩ = some (.int .i64 k) ∧ W.cell? ⟨w.heap.size + 1, 1, none⟩ = some (.int .i64 t)))
  have HN1 := hid (fun (W : World) (h : HeldS w v k false t W) => (node_is (N : Int) A n c t W).mono fun _ _ h4 => (⟨h4.1, h.next h4.2⟩ : _ ∧ HeldS w v k false t _))
  have HN2 := hid (fun (W : World) (h : HeldS w v k false t W) => (node_is (N : Int) A n c v W).mono fun _ _ h4 => (⟨h4.1, h.next h4.2⟩ : _ ∧ HeldS w v k false t _))
  have HBp := hid (fun (W : World) (h : Below w.heap.size w W) => ((h.cell (p := ⟨B, 2, none⟩) hB).trans b2))
  have HBn := hid (fun (W : World) (h : Below w.heap.size w W) => ((h.cell (p := ⟨B, 0, none⟩) hB).trans b0))
  rw [show nodeB (N : Int) t = true from by unfold nodeB; rw [decide_eq_true hb.1, decide_eq_true hb.2.1]; rfl] at HN1
  rw [show nodeB (N : Int) v = true from by unfold nodeB; rw [decide_eq_true hb.2.2.1, decide_eq_true hb.2.2.2.1]; rfl] at HN2
  have t1 : (v == t) = false := beq_eq_false_iff_ne.2 hb.2.2.2.2.1
  have t2 : decide (k < 0) = false := decide_eq_false (by omega)
  have t3 : decide ((m : Int) ≤ k) = false := decide_eq_false (by omega)
  have hN0 : 0 < N := by omega
  have hN40 : N ≤ 40 := hok.2.2.1
  obtain ⟨V, hV⟩ := Int.eq_ofNat_of_zero_le hb.2.2.1
  obtain ⟨k2, hk2⟩ := Int.eq_ofNat_of_zero_le hb.2.2.2.2.2.1
  have hVN : V < N := by omega
  have hkm : k2 < m := by omega
  have HFrom := hid (show ∀ (w0 wx : World) (base B' KB EB : Nat) (kb eb : Nat → Nat) (cK cE : Nat), Below w.heap.size w w0 → RcM w0 base B' KB EB kb eb cK cE B q t N m (fun _ _ => 0) (fun _ _ => (0, 0)) wx → Calls Try.prog 57 #[.pointer (some ⟨B', 0, none⟩), .agg #[.int .i64 v, .int .i64 k]] wx (FromAns w0 base B' KB EB kb eb cK cE B q t N m (reachO N l x gn t) v k wx) from fun w0 wx base B' KB EB kb eb cK cE hb0 hr => by
    rw [hV, hk2]
    exact from_any (hga.on hb0) (ho.on hb0) hr0 hok (ht.on hb0) hm _ V k2 _ _ wx (Nat.le_refl _) hVN hkm hr (good_zero _ _ _))
  obtain ⟨i5, hi, hz0, hz1, hz2⟩ := info_parts (show (Try.prog.info? 40).map (fun i => (i.zero, i.size, i.bytes)) = some (some (.slice none 0 0), 1, 24) by kernel_rfl)
  have Ai := hid hi; have Az0 := hid hz0; have Az1 := hid hz1; have Az2 := hid hz2
  obtain ⟨i6, hi', hz0', hz1', hz2'⟩ := info_parts (show (Try.prog.info? 94).map (fun i => (i.zero, i.size, i.bytes)) = some (some (.slice none 0 0), 1, 24) by kernel_rfl)
  have Bi := hid hi'; have Bz0 := hid hz0'; have Bz1 := hid hz1'; have Bz2 := hid hz2'
  have hmk1 : ∀ W : World, (Instr.makeSlice 40 (.int .i64 (m : Int)) (.int .i64 (m : Int))).run Try.prog W = .ok (.slice (some ⟨W.heap.size, 0, none⟩) m m) (W.alloc (.cells (madeCells #[.int .i64 0] m) 3)) := fun W => by
    obtain ⟨i7, hi7, hy0, hy1, hy2⟩ := info_parts (show (Try.prog.info? 3).map (fun i => (i.zero, i.size, i.bytes)) = some (some (.int .i64 0), 1, 8) by kernel_rfl)
    have := run_makeSlice (P := Try.prog) (w := W) 40 3 i7 (.int .i64 0) Try.underlying40 hi7 hy0 .i64 .i64 (m : Int) (m : Int) (by omega) (by omega) (by rw [hy1]; omega) (by rw [hy2]; omega) (by omega)
    rw [hy1, Int.toNat_natCast, Nat.mul_one] at this
    exact this
  have hmk2 : ∀ W : World, (Instr.makeSlice 94 (.int .i64 (m : Int)) (.int .i64 (m : Int))).run Try.prog W = .ok (.slice (some ⟨W.heap.size, 0, none⟩) m m) (W.alloc (.cells (madeCells #[.int .i64 0, .int .i64 0] (m * 2)) 92)) := fun W => by
    obtain ⟨i7, hi7, hy0, hy1, hy2⟩ := info_parts (show (Try.prog.info? 92).map (fun i => (i.zero, i.size, i.bytes)) = some (some (.agg #[.int .i64 0, .int .i64 0]), 2, 16) by kernel_rfl)
    have := run_makeSlice (P := Try.prog) (w := W) 94 92 i7 (.agg #[.int .i64 0, .int .i64 0]) Try.underlying94 hi7 hy0 .i64 .i64 (m : Int) (m : Int) (by omega) (by omega) (by rw [hy1]; omega) (by rw [hy2]; omega) (by omega)
    rw [hy1, Int.toNat_natCast] at this
    exact this
  obtain ⟨s0, s1, s2, s3, -, -⟩ := hS.cells
  obtain ⟨s4, s5, s6⟩ := box_cells hS.2.2.2
  clear ho hm b0 b1 b2 hga hr0 hok ht hb hV hk2 hVN hkm hi hz0 hz1 hz2 hi' hz0' hz1' hz2'
  go_enter Try.func37, Try.ntmps37
  go_wp2_with fail
  generalize (((w.alloc (.cells #[.int .i64 v, .int .i64 k] 92)).alloc (.cells #[.bool false, .int .i64 t] 46)).alloc (.cells #[.int .i64 0, .int .i64 0] 92)) = w1 at *
  have h1d := hS.drew
  have s1 := SG.out _ h1d
  go_region_held3 (fun w' => w'.cell? ⟨B, 0, none⟩ = some (.int .i64 (N : Int)) ∧ w'.cell? ⟨B, 1, none⟩ = some (.slice A n c) ∧ w'.cell? ⟨B, 2, none⟩ = some (.slice Ap m cp) ∧ w'.cell? ⟨w.heap.size, 0, none⟩ = some (.int .i64 v) ∧ w'.cell? ⟨w.heap.size, 1, none⟩ = some (.int .i64 k) ∧ w'.cell? ⟨w.heap.size + 1, 1, none⟩ = some (.int .i64 t))
    (first
      | go_keep
      | exact s3
      | exact s2
      | exact s1)
    (first
      | (go_at_call 23; (with_reducible refine (HN1.out _ h1d).mono ?_); rintro e' w2 ⟨rfl, h2⟩; have s2 := SG.out _ h2)
      | (go_at_call 23; (with_reducible refine (HN2.out _ h2).mono ?_); rintro e' w3 ⟨rfl, h3⟩; have s3 := SG.out _ h3))
  clear s1 s2 s3
  have H3 := hid h3
  have HP0 := hid (RcP.start (B := B) (q := q) (m := m) h3)
  obtain ⟨c0, c1, c2, c3, -, -⟩ := h3.cells
  clear h3 h2 h1d hS
  go_wp2_with fail
  clear c0 c1 c2 c3
  go_loopw [11] (fun iv wr => ∃ (i : Nat) (KV EV : Value) (kbs ebs : List Nat), i ≤ N ∧ iv = .int .i64 (i : Int) ∧ Hid (RcP w w3 v k t B q m i i KV EV kbs ebs wr)) (fun iv _ => N - (intOf iv).toNat)
  case atStart => exact ⟨0, _, _, _, _, by omega, rfl, HP0⟩
  case round =>
    obtain ⟨i, KV, EV, kbs, ebs, hiN, rfl, HP⟩ := hrel
    obtain ⟨Ao, co, hKV⟩ := own_form HP.out.kr.own
    obtain ⟨Ae, ce, hEV⟩ := own_form HP.out.er.own
    subst hKV hEV
    have n0 := HBn.out _ HP.out.hel.1
    by_cases hlt : i < N
    · have d1 : decide ((i : Int) < (N : Int)) = true := decide_eq_true (by omega)
      have ewi : IntKind.i64.wrap ((i : Int) + 1) = (i : Int) + 1 := by rw [IntKind.wrap_i64]; omega
      have HSSK := hid (fun (W : World) (hb : Below w.heap.size w W) (hx : W.heap[w3.heap.size]? = some (.cells #[.pointer (some ⟨B, 0, none⟩), .pointer (some ⟨q, 0, none⟩), .int .i64 t, .slice Ao i co, .slice Ae i ce] 123 (0, 0))) => (⟨(box5_cells hx).2.2.2.1, HBp.out W hb⟩ : W.cell? ⟨w3.heap.size, 3, none⟩ = some (.slice Ao i co) ∧ W.cell? ⟨B, 2, none⟩ = some (.slice Ap m cp)))
      go_wp2_with fail
      have HPDK := hid (HP.out.next (Below.refl wr.heap.size wr).drew)
      have HQK := HSSK.out _ HPDK.out.hel.1 HPDK.out.box
      refine region_ord 15 (fun W => W.cell? ⟨w3.heap.size, 3, none⟩ = some (.slice Ao i co) ∧ W.cell? ⟨B, 2, none⟩ = some (.slice Ap m cp)) (by kernel_rfl) HQK (fun hHeld => ?_)
      refine OrdF.take (i := 0) (v := ?_) rfl (by kernel_rfl) (fun _ _ _ h => h) (by rfl) ?_ (by assumption) ?_
      (rotate_left; focus (intro w' hSw; (try dsimp only at hSw); go_simp; (try with_reducible rfl)))
      try simp only [List.getElem_toArray, List.getElem_cons_zero, Act.put, List.setIfInBounds_toArray, List.set_cons_zero, List.set_cons_succ]
      refine OrdF.take (i := 1) (v := ?_) rfl (by kernel_rfl) (fun _ _ _ h => h) (by rfl) ?_ (by assumption) ?_
      (rotate_left; focus (intro w' hSw; (try dsimp only at hSw); go_simp; (try with_reducible rfl)))
      try simp only [List.getElem_toArray, List.getElem_cons_succ, List.getElem_cons_zero, Act.put, List.setIfInBounds_toArray, List.set_cons_zero, List.set_cons_succ]
      refine OrdF.take (i := 2) (v := ?_) rfl (by kernel_rfl) (fun _ _ _ h => h) (by rfl) ?_ (by assumption) ?_
      (rotate_left; focus (intro w' hSw; (try dsimp only at hSw); go_simp; (try with_reducible rfl)))
      try simp only [List.getElem_toArray, List.getElem_cons_succ, List.getElem_cons_zero, Act.put, List.setIfInBounds_toArray, List.set_cons_zero, List.set_cons_succ]
      refine OrdF.take (i := 3) (v := ?_) rfl (by kernel_rfl) (fun _ _ _ h => h) (by rfl) ?_ (by assumption) ?_
      (rotate_left; focus (intro w' hSw; (try dsimp only at hSw); go_simp; (try with_reducible rfl)))
      try simp only [List.getElem_toArray, List.getElem_cons_succ, List.getElem_cons_zero, Act.put, List.setIfInBounds_toArray, List.set_cons_zero, List.set_cons_succ]
      refine OrdF.take (i := 4) (v := ?_) rfl (by kernel_rfl) (fun _ _ _ h => h) (by rfl) ?_ (by assumption) ?_
      (rotate_left; focus (intro w' hSw; (try dsimp only at hSw); go_simp; (try with_reducible rfl)))
      try simp only [List.getElem_toArray, List.getElem_cons_succ, List.getElem_cons_zero, Act.put, List.setIfInBounds_toArray, List.set_cons_zero, List.set_cons_succ]
      refine OrdF.take (i := 5) (v := ?_) rfl (by kernel_rfl) (fun _ _ _ h => h) (by rfl) ?_ (by assumption) ?_
      (rotate_left; focus (intro w' hSw; (try dsimp only at hSw); go_simp; (try with_reducible rfl)))
      try simp only [List.getElem_toArray, List.getElem_cons_succ, List.getElem_cons_zero, Act.put, List.setIfInBounds_toArray, List.set_cons_zero, List.set_cons_succ]
      refine OrdF.take (i := 6) (v := ?_) rfl (by kernel_rfl) (fun _ _ _ h => h) (by rfl) ?_ (by assumption) ?_
      (rotate_left; focus (intro w' hSw; (try dsimp only at hSw); go_simp; (try with_reducible rfl)))
      try simp only [List.getElem_toArray, List.getElem_cons_succ, List.getElem_cons_zero, Act.put, List.setIfInBounds_toArray, List.set_cons_zero, List.set_cons_succ]
      refine OrdF.take (i := 7) (v := ?_) rfl (by kernel_rfl) (fun _ _ _ h => h) (by rfl) ?_ (by assumption) ?_
      (rotate_left; focus (intro w' hSw; (try dsimp only at hSw); go_simp; (try with_reducible rfl)))
      try simp only [List.getElem_toArray, List.getElem_cons_succ, List.getElem_cons_zero, Act.put, List.setIfInBounds_toArray, List.set_cons_zero, List.set_cons_succ]
      refine OrdF.take (i := 8) (v := ?_) rfl (by kernel_rfl) (fun _ _ _ h => h) (by rfl) ?_ (by assumption) ?_
      (rotate_left; focus (intro w' hSw; (try dsimp only at hSw); go_simp; (try with_reducible rfl)))
      try simp only [List.getElem_toArray, List.getElem_cons_succ, List.getElem_cons_zero, Act.put, List.setIfInBounds_toArray, List.set_cons_zero, List.set_cons_succ]
      refine OrdF.take (i := 9) (v := ?_) rfl (by kernel_rfl) (fun _ _ _ h => h) (by rfl) ?_ (by assumption) ?_
      (rotate_left; focus (intro w' hSw; (try dsimp only at hSw); go_simp; (try with_reducible rfl)))
      try simp only [List.getElem_toArray, List.getElem_cons_succ, List.getElem_cons_zero, Act.put, List.setIfInBounds_toArray, List.set_cons_zero, List.set_cons_succ]
      refine OrdF.one (i := 10) rfl (by kernel_rfl) (fun K hK => ?_)
      try simp only [List.getElem_toArray, List.getElem_cons_succ, List.getElem_cons_zero, Act.put, List.setIfInBounds_toArray, List.set_cons_zero, List.set_cons_succ]
      go_simp
      have HPAK := hid (HPDK.out.next ((Below.refl _ _).alloc (Nat.le_refl _) (.cells (madeCells #[.int .i64 0] m) 3)))
      refine hK.out _ _ (HSSK.out _ HPAK.out.hel.1 HPAK.out.box) (fun hHeld => ?_)
      clear hK K
      try simp only [List.getElem_toArray, List.getElem_cons_succ, List.getElem_cons_zero, Act.put, List.setIfInBounds_toArray, List.set_cons_zero, List.set_cons_succ]
      refine OrdF.one (i := 11) rfl (by kernel_rfl) (fun K hK => ?_)
      try simp only [List.getElem_toArray, List.getElem_cons_succ, List.getElem_cons_zero, Act.put, List.setIfInBounds_toArray, List.set_cons_zero, List.set_cons_succ]
      go_simp
      have HPBK := hid (HPAK.out.next ((Below.refl _ _).alloc (Nat.le_refl _) (.cells #[.slice (some ⟨wr.drew.heap.size, 0, none⟩) m m] 40)))
      refine hK.out _ _ (HSSK.out _ HPBK.out.hel.1 HPBK.out.box) (fun hHeld => ?_)
      clear hK K
      try simp only [List.getElem_toArray, List.getElem_cons_succ, List.getElem_cons_zero, Act.put, List.setIfInBounds_toArray, List.set_cons_zero, List.set_cons_succ]
      refine OrdF.one (i := 12) rfl (by kernel_rfl) (fun K hK => ?_)
      (refine step_append_some (by rfl) (.tmp 83) (.tmp 90) 60 (by rfl) (w3.heap.size + 1) 40 i5 (.slice none 0 0) 1 24 Try.underlying60 Ai.out Az0.out Az1.out Az2.out rfl (by decide) (.slice Ao i co) i (kbs.map fun b => .slice (some ⟨b, 0, none⟩) m m) (by go_simp) HPBK.out.kr.own ⟨wr.drew.heap.size + 1, 0, none⟩ 1 1 [.slice (some ⟨wr.drew.heap.size, 0, none⟩) m m] (by go_simp) (by rfl) (new_rowm (by rfl)) (by simp [Value.oneCell']) (by unfold maxLen; omega) (by omega) HPBK.out.lt ?_; intro A6 c6 w6 hown6 hg6; have HOw6 := hid hown6; have HGw6 := hid hg6; obtain ⟨mb, mx⟩ := HPBK.out.midK hg6; have MBK := hid mb; have MXK := hid mx; obtain ⟨p0, p1, p2, p3, p4, pf⟩ := box5_cells mx; have f6 := pf 3; clear hown6 mb mx pf hg6)
      try go_wp2_with fail
      refine hK.out _ _ (HSSK.out _ MBK.out MXK.out) (fun hHeld => ?_)
      clear hK K
      try simp only [List.getElem_toArray, List.getElem_cons_succ, List.getElem_cons_zero, Act.put, List.setIfInBounds_toArray, List.set_cons_zero, List.set_cons_succ]
      refine OrdF.take (i := 13) (v := ?_) rfl (by kernel_rfl) (fun _ _ _ h => h) (by rfl) ?_ (by assumption) ?_
      (rotate_left; focus (intro w' hSw; (try dsimp only at hSw); go_simp; (try with_reducible rfl)))
      try simp only [List.getElem_toArray, List.getElem_cons_succ, List.getElem_cons_zero, Act.put, List.setIfInBounds_toArray, List.set_cons_zero, List.set_cons_succ]
      refine OrdF.take (i := 14) (v := ?_) rfl (by kernel_rfl) (fun _ _ _ h => h) (by rfl) ?_ (by assumption) ?_
      (rotate_left; focus (intro w' hSw; (try dsimp only at hSw); go_simp; (try with_reducible rfl)))
      try simp only [List.getElem_toArray, List.getElem_cons_succ, List.getElem_cons_zero, Act.put, List.setIfInBounds_toArray, List.set_cons_zero, List.set_cons_succ]
      refine OrdF.last (n := 15) rfl (by kernel_rfl) (fun K hK => ?_)
      try simp only [List.getElem_toArray, List.getElem_cons_succ, List.getElem_cons_zero, Act.put]
      go_simp
      try go_wp2_with fail
      refine hK.out _ _ ?_
      clear hK K
      try simp only [List.getElem_toArray, List.getElem_cons_succ, List.getElem_cons_zero, Act.put, List.setIfInBounds_toArray, List.set_cons_zero, List.set_cons_succ]
      have HNK := hid (HPDK.out.putK HOw6.out HGw6.out)
      clear p0 p1 p2 p3 p4 f6
      clear hmk1
      have HP7 := HNK
      clear HNK
      generalize w6.setCell ⟨w3.heap.size, 3, none⟩ (.slice A6 (i + 1) c6) = w7 at *
      have HSSE := hid (fun (W : World) (hb : Below w.heap.size w W) (hx : W.heap[w3.heap.size]? = some (.cells #[.pointer (some ⟨B, 0, none⟩), .pointer (some ⟨q, 0, none⟩), .int .i64 t, .slice A6 (i + 1) c6, .slice Ae i ce] 123 (0, 0))) => (⟨(box5_cells hx).2.2.2.2.1, HBp.out W hb⟩ : W.cell? ⟨w3.heap.size, 4, none⟩ = some (.slice Ae i ce) ∧ W.cell? ⟨B, 2, none⟩ = some (.slice Ap m cp)))
      go_wp2_with fail
      have HPDE := hid (HP7.out.next (Below.refl w7.heap.size w7).drew)
      have HQE := HSSE.out _ HPDE.out.hel.1 HPDE.out.box
      refine region_ord 15 (fun W => W.cell? ⟨w3.heap.size, 4, none⟩ = some (.slice Ae i ce) ∧ W.cell? ⟨B, 2, none⟩ = some (.slice Ap m cp)) (by kernel_rfl) HQE (fun hHeld => ?_)
      refine OrdF.take (i := 0) (v := ?_) rfl (by kernel_rfl) (fun _ _ _ h => h) (by rfl) ?_ (by assumption) ?_
      (rotate_left; focus (intro w' hSw; (try dsimp only at hSw); go_simp; (try with_reducible rfl)))
      try simp only [List.getElem_toArray, List.getElem_cons_zero, Act.put, List.setIfInBounds_toArray, List.set_cons_zero, List.set_cons_succ]
      refine OrdF.take (i := 1) (v := ?_) rfl (by kernel_rfl) (fun _ _ _ h => h) (by rfl) ?_ (by assumption) ?_
      (rotate_left; focus (intro w' hSw; (try dsimp only at hSw); go_simp; (try with_reducible rfl)))
      try simp only [List.getElem_toArray, List.getElem_cons_succ, List.getElem_cons_zero, Act.put, List.setIfInBounds_toArray, List.set_cons_zero, List.set_cons_succ]
      refine OrdF.take (i := 2) (v := ?_) rfl (by kernel_rfl) (fun _ _ _ h => h) (by rfl) ?_ (by assumption) ?_
      (rotate_left; focus (intro w' hSw; (try dsimp only at hSw); go_simp; (try with_reducible rfl)))
      try simp only [List.getElem_toArray, List.getElem_cons_succ, List.getElem_cons_zero, Act.put, List.setIfInBounds_toArray, List.set_cons_zero, List.set_cons_succ]
      refine OrdF.take (i := 3) (v := ?_) rfl (by kernel_rfl) (fun _ _ _ h => h) (by rfl) ?_ (by assumption) ?_
      (rotate_left; focus (intro w' hSw; (try dsimp only at hSw); go_simp; (try with_reducible rfl)))
      try simp only [List.getElem_toArray, List.getElem_cons_succ, List.getElem_cons_zero, Act.put, List.setIfInBounds_toArray, List.set_cons_zero, List.set_cons_succ]
      refine OrdF.take (i := 4) (v := ?_) rfl (by kernel_rfl) (fun _ _ _ h => h) (by rfl) ?_ (by assumption) ?_
      (rotate_left; focus (intro w' hSw; (try dsimp only at hSw); go_simp; (try with_reducible rfl)))
      try simp only [List.getElem_toArray, List.getElem_cons_succ, List.getElem_cons_zero, Act.put, List.setIfInBounds_toArray, List.set_cons_zero, List.set_cons_succ]
      refine OrdF.take (i := 5) (v := ?_) rfl (by kernel_rfl) (fun _ _ _ h => h) (by rfl) ?_ (by assumption) ?_
      (rotate_left; focus (intro w' hSw; (try dsimp only at hSw); go_simp; (try with_reducible rfl)))
      try simp only [List.getElem_toArray, List.getElem_cons_succ, List.getElem_cons_zero, Act.put, List.setIfInBounds_toArray, List.set_cons_zero, List.set_cons_succ]
      refine OrdF.take (i := 6) (v := ?_) rfl (by kernel_rfl) (fun _ _ _ h => h) (by rfl) ?_ (by assumption) ?_
      (rotate_left; focus (intro w' hSw; (try dsimp only at hSw); go_simp; (try with_reducible rfl)))
      try simp only [List.getElem_toArray, List.getElem_cons_succ, List.getElem_cons_zero, Act.put, List.setIfInBounds_toArray, List.set_cons_zero, List.set_cons_succ]
      refine OrdF.take (i := 7) (v := ?_) rfl (by kernel_rfl) (fun _ _ _ h => h) (by rfl) ?_ (by assumption) ?_
      (rotate_left; focus (intro w' hSw; (try dsimp only at hSw); go_simp; (try with_reducible rfl)))
      try simp only [List.getElem_toArray, List.getElem_cons_succ, List.getElem_cons_zero, Act.put, List.setIfInBounds_toArray, List.set_cons_zero, List.set_cons_succ]
      refine OrdF.take (i := 8) (v := ?_) rfl (by kernel_rfl) (fun _ _ _ h => h) (by rfl) ?_ (by assumption) ?_
      (rotate_left; focus (intro w' hSw; (try dsimp only at hSw); go_simp; (try with_reducible rfl)))
      try simp only [List.getElem_toArray, List.getElem_cons_succ, List.getElem_cons_zero, Act.put, List.setIfInBounds_toArray, List.set_cons_zero, List.set_cons_succ]
      refine OrdF.take (i := 9) (v := ?_) rfl (by kernel_rfl) (fun _ _ _ h => h) (by rfl) ?_ (by assumption) ?_
      (rotate_left; focus (intro w' hSw; (try dsimp only at hSw); go_simp; (try with_reducible rfl)))
      try simp only [List.getElem_toArray, List.getElem_cons_succ, List.getElem_cons_zero, Act.put, List.setIfInBounds_toArray, List.set_cons_zero, List.set_cons_succ]
      refine OrdF.one (i := 10) rfl (by kernel_rfl) (fun K hK => ?_)
      try simp only [List.getElem_toArray, List.getElem_cons_succ, List.getElem_cons_zero, Act.put, List.setIfInBounds_toArray, List.set_cons_zero, List.set_cons_succ]
      go_simp
      have HPAE := hid (HPDE.out.next ((Below.refl _ _).alloc (Nat.le_refl _) (.cells (madeCells #[.int .i64 0, .int .i64 0] (m * 2)) 92)))
      refine hK.out _ _ (HSSE.out _ HPAE.out.hel.1 HPAE.out.box) (fun hHeld => ?_)
      clear hK K
      try simp only [List.getElem_toArray, List.getElem_cons_succ, List.getElem_cons_zero, Act.put, List.setIfInBounds_toArray, List.set_cons_zero, List.set_cons_succ]
      refine OrdF.one (i := 11) rfl (by kernel_rfl) (fun K hK => ?_)
      try simp only [List.getElem_toArray, List.getElem_cons_succ, List.getElem_cons_zero, Act.put, List.setIfInBounds_toArray, List.set_cons_zero, List.set_cons_succ]
      go_simp
      have HPBE := hid (HPAE.out.next ((Below.refl _ _).alloc (Nat.le_refl _) (.cells #[.slice (some ⟨w7.drew.heap.size, 0, none⟩) m m] 94)))
      refine hK.out _ _ (HSSE.out _ HPBE.out.hel.1 HPBE.out.box) (fun hHeld => ?_)
      clear hK K
      try simp only [List.getElem_toArray, List.getElem_cons_succ, List.getElem_cons_zero, Act.put, List.setIfInBounds_toArray, List.set_cons_zero, List.set_cons_succ]
      refine OrdF.one (i := 12) rfl (by kernel_rfl) (fun K hK => ?_)
      (refine step_append_some (by rfl) (.tmp 98) (.tmp 105) 121 (by rfl) (w3.heap.size + 1) 94 i6 (.slice none 0 0) 1 24 Try.underlying121 Bi.out Bz0.out Bz1.out Bz2.out rfl (by decide) (.slice Ae i ce) i (ebs.map fun b => .slice (some ⟨b, 0, none⟩) m m) (by go_simp) HPBE.out.er.own ⟨w7.drew.heap.size + 1, 0, none⟩ 1 1 [.slice (some ⟨w7.drew.heap.size, 0, none⟩) m m] (by go_simp) (by rfl) (new_rowm (by rfl)) (by simp [Value.oneCell']) (by unfold maxLen; omega) (by omega) HPBE.out.lt ?_; intro A8 c8 w8 hown6 hg6; have HOw8 := hid hown6; have HGw8 := hid hg6; obtain ⟨mb, mx⟩ := HPBE.out.midE hg6; have MBE := hid mb; have MXE := hid mx; obtain ⟨p0, p1, p2, p3, p4, pf⟩ := box5_cells mx; have f6 := pf 4; clear hown6 mb mx pf hg6)
      try go_wp2_with fail
      refine hK.out _ _ (HSSE.out _ MBE.out MXE.out) (fun hHeld => ?_)
      clear hK K
      try simp only [List.getElem_toArray, List.getElem_cons_succ, List.getElem_cons_zero, Act.put, List.setIfInBounds_toArray, List.set_cons_zero, List.set_cons_succ]
      refine OrdF.take (i := 13) (v := ?_) rfl (by kernel_rfl) (fun _ _ _ h => h) (by rfl) ?_ (by assumption) ?_
      (rotate_left; focus (intro w' hSw; (try dsimp only at hSw); go_simp; (try with_reducible rfl)))
      try simp only [List.getElem_toArray, List.getElem_cons_succ, List.getElem_cons_zero, Act.put, List.setIfInBounds_toArray, List.set_cons_zero, List.set_cons_succ]
      refine OrdF.take (i := 14) (v := ?_) rfl (by kernel_rfl) (fun _ _ _ h => h) (by rfl) ?_ (by assumption) ?_
      (rotate_left; focus (intro w' hSw; (try dsimp only at hSw); go_simp; (try with_reducible rfl)))
      try simp only [List.getElem_toArray, List.getElem_cons_succ, List.getElem_cons_zero, Act.put, List.setIfInBounds_toArray, List.set_cons_zero, List.set_cons_succ]
      refine OrdF.last (n := 15) rfl (by kernel_rfl) (fun K hK => ?_)
      try simp only [List.getElem_toArray, List.getElem_cons_succ, List.getElem_cons_zero, Act.put]
      go_simp
      try go_wp2_with fail
      refine hK.out _ _ ?_
      clear hK K
      try simp only [List.getElem_toArray, List.getElem_cons_succ, List.getElem_cons_zero, Act.put, List.setIfInBounds_toArray, List.set_cons_zero, List.set_cons_succ]
      have HNE := hid (HPDE.out.putE HOw8.out HGw8.out)
      clear p0 p1 p2 p3 p4 f6
      go_wp2_with fail
      go_roundw
      case rel => exact ⟨i + 1, _, _, _, _, by omega, by go_num, HNE⟩
      case measure => simp [intOf]; omega
    · obtain rfl : i = N := by omega
      have d1 : decide ((i : Int) < (i : Int)) = false := decide_eq_false (by omega)
      obtain ⟨KB, EB, cK, cE, hrc⟩ := HP.out.rcm hN0
      have HF := hid (HFrom.out w3 wr _ _ _ _ _ _ _ _ H3.out.1 hrc)
      obtain ⟨c0, c1, c2, c3, -, -⟩ := HP.out.hel.cells
      clear hrc hmk1 hmk2
      go_wp2_with (go_at_call 57; (with_reducible refine HF.out.mono ?_); rintro e' w9 ⟨K', D', a, b, ok, rfl, hR, hrm, -, -⟩; have HR := hid hR; have hh9 := H3.out.next hrm.bel; have HH9 := hid hh9; obtain ⟨x4, x5, x6⟩ := box_cells hh9.2.2.2; have hb10 : Below w9.heap.size w9 (w9.alloc (.cells #[.int .i64 a, .int .i64 b] 92)) := (Below.refl _ _).alloc (Nat.le_refl _) _; have HH10 := hid (hh9.next hb10); obtain ⟨z4, z5, z6⟩ := box_cells HH10.out.2.2.2; clear hR hrm hh9 hb10)
      · have HG := HH10.out.put (a := 0) (b := 0)
        refine bodyPost_ret (results_cellrow_tmp (p := 8) (u := 9) (fn := Try.f37) rfl _ _ _ _ _ _ _ rfl HG.out.1 Try.underlying92 rfl (by kernel_rfl)) rfl ?_
        refine ⟨⟨0, 0, false, rfl, ?_⟩, HG.out.2⟩
        rw [HO.out, HR.out]
        have hok1 : (!ok) = true := by assumption
        have hok2 : ok = false := by simpa using hok1
        subst hok2
        rfl
      · have HG := HH10.out.put (a := a) (b := b)
        refine bodyPost_ret (results_cellrow_tmp (p := 8) (u := 9) (fn := Try.f37) rfl _ _ _ _ _ _ _ rfl HG.out.1 Try.underlying92 rfl (by kernel_rfl)) rfl ?_
        refine ⟨⟨a, b, true, rfl, ?_⟩, HG.out.2⟩
        rw [HO.out, HR.out]
        have hok1 : (!ok) = false := by assumption
        have hok2 : ok = true := by simpa using hok1
        subst hok2
        rfl
end Go.Proofs.Ytkemcgbedapkcaa

/- The reference's (*Opt).Seg. -/
namespace Go.Proofs.Ytkemcgbedapkcaa
open Go.RowKit
set_option maxHeartbeats 6400000
set_option maxRecDepth 100000
theorem refSeg_any (N : Nat) (A : Option Addr) (n c : Nat) (l : List Lnk) (x : Wnt) (gn : List Bool) (B q : Nat) (A' : Option Addr) (n' c' : Nat) (vD : Value) (vs : List Value) (v k : Int) (s : Sg) (w : World) (hga : GArg w (N : Int) A n c l) (ho : OptAt (N : Int) A n c l x gn B w) (hr0 : rightS (N : Int) l x = 0) (hok : GOk N l) (ht : RAt q A' n' c' vD vs N l w) (hv : In64 v) (hk : In64 k) (hs : In64 s.too) :
    Calls Try.prog 37 #[.pointer (some ⟨B, 0, none⟩), .pointer (some ⟨q, 0, none⟩), .agg #[.int .i64 v, .int .i64 k], .agg #[.bool s.edge, .int .i64 s.too]] w (SegAns (segO N l x gn (v, k) s.edge s.too) w) := by
  obtain ⟨e, t⟩ := s
  cases e with
  | true =>
    have := seg_over (N : Int) A n c l x gn B q v k t w ho hga hr0 hv hk hs
    rw [show segO N l x gn (v, k) true t = stepO (N : Int) l x gn v k t from by unfold segO; rw [if_pos rfl]]
    exact this
  | false =>
    by_cases hb : 0 ≤ t ∧ t < N ∧ 0 ≤ v ∧ v < N ∧ v ≠ t ∧ 0 ≤ k ∧ k < (ptsS x).length
    · exact seg_good N A n c l x gn B q A' n' c' vD vs v k t w hga ho hr0 hok ht hb
    · exact seg_bad N A n c l x gn B q v k t w ho hb
end Go.Proofs.Ytkemcgbedapkcaa
