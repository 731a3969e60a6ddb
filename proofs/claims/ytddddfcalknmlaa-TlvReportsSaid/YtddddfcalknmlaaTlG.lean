/- tlv.Get. -/
import Derived.Test.YtddddfcalknmlaaTlS
import Derived.Laws.CopyOwn
import Derived.OwnWalk
namespace Go.Proofs.Ytddddfcalknmlaa
open Go.RowKit
set_option maxHeartbeats 3200000
set_option maxRecDepth 100000
theorem Try.info26 : (Try.prog.info? 26).map (fun i => (i.zero, i.size, i.bytes)) = some (some (.agg #[.int .i64 0, .slice none 0 0]), 2, 32) := by kernel_rfl
theorem RByt.drop_no {w : World} {B n k : Nat} {A A' : Option Addr} {l : List UInt8} (h : RByt w B A n l) (hk : k ≤ n) (hn : n ≤ k) : RByt w B A' (n - k) (l.drop k) :=
  ⟨by rw [List.length_drop, h.1], fun hp => by omega⟩
theorem RByt.drop_at {w : World} {B n k b off : Nat} {l : List UInt8} (h : RByt w B (some ⟨b, off, none⟩) n l) (hk : k ≤ n) : RByt w B (some ⟨b, off + k, none⟩) (n - k) (l.drop k) := by
  refine ⟨by rw [List.length_drop, h.1], fun hn => ?_⟩
  obtain ⟨b', off', h1, h2, h3⟩ := h.2 (by omega)
  simp only [Option.some.injEq, Addr.mk.injEq, and_true] at h1
  obtain ⟨rfl, rfl⟩ := h1
  refine ⟨b, off + k, rfl, h2, fun i x hx => ?_⟩
  rw [List.getElem?_drop] at hx
  rw [Nat.add_assoc]
  exact h3 _ _ hx
theorem RByt.drop_at' {w : World} {B n k c : Nat} {A : Option Addr} {l : List UInt8} (h : RByt w B A n l) (hk : k ≤ n) (hc : n ≤ c) (hne : c ≠ k) : RByt w B (A.map (·.add k)) (n - k) (l.drop k) := by
  have := h.drop hk hc
  rwa [if_neg hne] at this
theorem box_set0 {w : World} {B : Nat} {x0 x1 u : Value} {T : TypeId} (h : w.heap[B]? = some (.cells #[x0, x1] T (0, 0))) : (w.setCell ⟨B, 0, none⟩ u).heap[B]? = some (.cells #[u, x1] T (0, 0)) := heap_setCell_same w B 0 _ T u h
theorem box_set1 {w : World} {B : Nat} {x0 x1 u : Value} {T : TypeId} (h : w.heap[B]? = some (.cells #[x0, x1] T (0, 0))) : (w.setCell ⟨B, 1, none⟩ u).heap[B]? = some (.cells #[x0, u] T (0, 0)) := heap_setCell_same w B 1 _ T u h
theorem box_cells {w : World} {B : Nat} {x0 x1 : Value} {T : TypeId} (h : w.heap[B]? = some (.cells #[x0, x1] T (0, 0))) : w.cell? ⟨B, 0, none⟩ = some x0 ∧ w.cell? ⟨B, 1, none⟩ = some x1 ∧ ∀ j, w.frozen? ⟨B, j, none⟩ = false :=
  ⟨by rw [cell_of_row _ _ _ _ _ _ h]; rfl, by rw [cell_of_row _ _ _ _ _ _ h]; rfl, fun j => frozen_of_row _ _ _ _ _ h⟩
theorem box_below {w w' : World} {B k : Nat} {o : Obj} (h : w.heap[B]? = some o) (hb : Below k w w') (hk : B < k) : w'.heap[B]? = some o := (hb.block B hk).trans h
theorem own_list {w : World} {base n g cap : Nat} {e : TypeId} {xs : List Value} (h : w.ownsRow base e 1 (.slice (some ⟨g, 0, none⟩) n cap) n xs) (hc : cap = n) : ∃ cur : List Value, w.heap[g]? = some (.cells cur.toArray e (0, 0)) ∧ cur.length = n := by
  rcases h.2 with ⟨h', _⟩ | ⟨g', cap', cur, h', _, hg, _, _, hs, _⟩
  · simp at h'
  · simp only [Value.slice.injEq, Option.some.injEq, Addr.mk.injEq, and_true, true_and] at h'
    obtain ⟨rfl, rfl⟩ := h'
    exact ⟨cur.toList, by simpa using hg, by simp; omega⟩
theorem splice_all {α : Type} (L cs : List α) (h : cs.length = L.length) : splice L 0 cs = cs := by simp [splice, h]
theorem own_of_cells {w : World} {base g n : Nat} {e : TypeId} {cs : List Value} (hb : base ≤ g) (h : w.heap[g]? = some (.cells cs.toArray e (0, 0))) (hl : cs.length = n) (hm : n ≤ maxLen) : w.ownsRow base e 1 (.slice (some ⟨g, 0, none⟩) n n) n cs :=
  ⟨by rw [hl]; omega, .inr ⟨g, n, cs.toArray, rfl, hb, h, Nat.le_refl _, hm, by simp [hl], by rw [List.take_of_length_le (by simp [hl])]⟩⟩
theorem copy_src {w : World} {B n : Nat} {A : Option Addr} {cs : List UInt8} (h : RByt w B A n cs) (hn : 0 < n) : ∃ ad, A = some ad ∧ ∀ j v, (bcells cs)[j]? = some v → w.cell? (ad.add j) = some v := by
  obtain ⟨b, off, rfl, _⟩ := h.2 hn
  exact ⟨_, rfl, byt_src h hn⟩
theorem data_own {w3 : World} {g k : Nat} {cs : List UInt8} {cur : List Value} (base : Nat) (hb : base ≤ g) (H3 : Hid (w3.heap[g]? = some (.cells (splice cur 0 (bcells cs)).toArray 5 (0, 0)))) (h1 : cs.length = k) (h2 : cur.length = k) (hm : k ≤ maxLen) :
    w3.ownsRow base 5 1 (.slice (some ⟨g, 0, none⟩) k k) k (bcells cs) := by
  have h := H3.out
  rw [splice_all _ _ (by rw [bcells_len]; omega)] at h
  exact own_of_cells hb h (by rw [bcells_len]; exact h1) hm
theorem gb_chain {wr w2 w3 : World} {B j : Nat} {u : Value} (h2 : Below wr.heap.size wr w2) (h3 : Below wr.heap.size (w2.setCell ⟨B, j, none⟩ u) w3) : wr.grownBy w3 (some B) :=
  ⟨h3.os.trans h2.os, h3.tape.trans h2.tape, h3.output.trans h2.output, Nat.le_trans h2.size (Nat.le_trans (by simp) h3.size), fun k hk hne => (h3.block k hk).trans ((heap_setCell_other _ _ _ _ (fun e => hne (by rw [e]))).trans (h2.block k hk))⟩
theorem own_gb {w w' : World} {B : Nat} {e : TypeId} {size n : Nat} {v : Value} {xs : List Value} (h : w.ownsRow (B + 1) e size v n xs) (hg : w.grownBy w' (some B)) : w'.ownsRow (B + 1) e size v n xs := by
  refine h.kept hg ?_
  cases hv : v.ownBlock with
  | none => exact .inl rfl
  | some k =>
    have := (h.lt k hv).1
    exact .inr (by simp; omega)
theorem OItm.gb {w w' : World} {B : Nat} {xs : List Value} {l : List Itm} (h : OItm w (B + 1) xs l) (hg : w.grownBy w' (some B)) : OItm w' (B + 1) xs l := by
  intro i e he
  obtain ⟨h1, D, c, h2, h3⟩ := h i e he
  exact ⟨h1, D, c, h2, own_gb h3 hg⟩
theorem get_app {w3 w4 : World} {B n : Nat} {v : Value} {xs xs' : List Value} {done' : List Itm} {o ob : Obj} (hown : w3.ownsRow (B + 1) 26 2 v n xs) (hoi : OItm w3 (B + 1) xs' done') (hX : w3.heap[B]? = some ob) (hlt : B < w3.heap.size)
    (hg : (w3.alloc o).grownBy w4 v.ownBlock) : OItm w4 (B + 1) xs' done' ∧ w4.heap[B]? = some ob ∧ Below B w3 w4 := by
  have hbr : Below B w3 w4 := Below.grown ((Below.refl _ _).alloc (by omega) _) hg (by simp; omega) (fun k hk => by have := (hown.lt k hk).1; omega)
  refine ⟨(hoi.below ((Below.refl _ _).alloc (Nat.le_refl _) _)).kept (hown.alloc o) (by decide) hg, ?_, hbr⟩
  rw [hg.block B (by simp; omega) ?_, Below.heap_alloc _ _ _ hlt]
  · exact hX
  · intro hc
    have := (hown.lt B hc.symm).1
    omega
theorem itm_row (t : Int) (D : Option Addr) (n c : Nat) : ∀ u ∈ [Value.int .i64 t, .slice D n c], u.oneCell' = true := by
  intro u hu
  simp at hu
  rcases hu with rfl | rfl <;> rfl
theorem get_any (A : Option Addr) (n c : Nat) (bs : List UInt8) (w : World) (hr : RByt w w.heap.size A n bs) (hc : n ≤ c) (hn : n ≤ 10000000) : Calls Try.prog 10 #[.slice A n c] w (GetIAns bs w) := by
  have Hl := hid hr.1
  have HR := hid hr
  clear hr
  obtain ⟨i5, hi, hz0, hz1, hz2⟩ := info_parts Try.info5
  have Ai := hid hi; have Az0 := hid hz0; have Az1 := hid hz1; have Az2 := hid hz2
  clear hi hz0 hz1 hz2
  obtain ⟨i6, hi, hz0, hz1, hz2⟩ := info_parts Try.info26
  have Bi := hid hi; have Bz0 := hid hz0; have Bz1 := hid hz1; have Bz2 := hid hz2
  clear hi hz0 hz1 hz2
  go_enter Try.func10, Try.ntmps10
  go_wp2_with fail
  refine wp_scope_labels (GetJ bs w) GetM (fun hp => ?_) ?_
  · have HP := hid hp
    clear hp
    go_wp2_with fail
    go_step3
    rename_i K hK
    refine hK _ _ ?_
    refine HP.out 0 _ _ _ ⟨_, _, _, _, _, _, _, _, _, _, _, _, _, _, _, _, _, _, _, _, _, _, _, _, _, _, _, _, _, _, _, _, _, _, _, _, _, _, _, _, _, _, _, _, _, _, rfl, bs, [], [], .int .i64 0, .slice none 0 0, ?_⟩ rfl
    exact ⟨(pre_nil _).symm, HR.out.below ((Below.refl _ _).alloc (Nat.le_refl _) _), hc, heap_alloc_new w _, World.ownsRow_nil _ _ _ _, OItm.nil _ _, by rw [Hl.out]; simp [lab], (Below.refl _ _).alloc (Nat.le_refl _) _⟩
  · rintro l a wr ⟨A', m, c', v, sz, u7, u8, u9, u10, u11, u12, u13, u14, u15, u16, u17, u18, u19, u20, u21, u22, u23, u24, u25, u26, u27, u28, u29, u30, u31, u32, u33, u34, u35, u36, u37, u38, u39, u40, u41, u42, u43, u44, u45, u46, u47, rfl, rest, done, xs, x0, x1, hat, hrd, hmc, hbox, hown, hoi, hdl, hbel⟩
    have HRd := hid hrd
    have HOI := hid hoi
    have HX := hid hbox
    obtain ⟨d0, d1, d2⟩ := box_cells hbox
    rw [Hl.out] at hdl
    have hsz := hbel.size
    have hlt : w.heap.size < wr.heap.size := (Array.getElem?_eq_some_iff.1 hbox).1
    clear hrd hoi hbox
    match l, hat with
    | 0, hat =>
      refine ⟨_, rfl, ?_⟩
      have HA := hid hat
      clear hat
      by_cases h0 : m = 0
      · subst h0
        go_wp2_with fail
        rw [jumps_ret]
        go_ret2
        have hrest : rest = [] := List.length_eq_zero_iff.1 HRd.out.1
        refine .inl ⟨done, by rw [show getI bs = pre done (getI rest) from HA.out, hrest, getI_nil, pre_end], _, xs, rfl, own_mono hown (by omega), HOI.out.mono (by omega), hbel⟩
      · obtain ⟨b, off, rfl, hb, hcell⟩ := HRd.out.2 (by omega)
        obtain ⟨t, r, hrest⟩ : ∃ t r, rest = t :: r := by
          cases rest with
          | nil => exact absurd HRd.out.1.symm h0
          | cons t r => exact ⟨t, r, rfl⟩
        have c0 : wr.cell? ⟨b, off, none⟩ = some (.int .u8 (t.toNat : Int)) := hcell 0 t (by rw [hrest]; rfl)
        have t0 : ((m : Int) == 0) = false := by simp; omega
        have Hrest := hid hrest
        have y := UInt8.toNat_lt t
        have hset : Below w.heap.size wr (wr.setCell ⟨w.heap.size, 0, none⟩ (.int .i64 (t.toNat : Int))) := (Below.refl _ _).setCell (p := ⟨w.heap.size, 0, none⟩) (Nat.le_refl _) _
        have HRn := hid (HRd.out.below hset)
        clear hcell hrest
        go_wp2_with fail
        all_goals
          go_step3
          have hr : rest.drop 1 = r := by rw [Hrest.out]; rfl
          refine ⟨⟨_, _, _, _, _, _, _, _, _, _, _, _, _, _, _, _, _, _, _, _, _, _, _, _, _, _, _, _, _, _, _, _, _, _, _, _, _, _, _, _, _, _, _, _, _, _, rfl, r, done, xs, _, x1, ⟨t, rfl, by rw [show getI bs = pre done (getI rest) from HA.out, Hrest.out]⟩, ?_, by omega, box_set0 HX.out, own_set hown (by simp) _, HOI.out.set (by simp) _, by rw [Hl.out]; simp only [lab] at hdl ⊢; omega, hbel.trans hset⟩, by simp [GetM, lenOf]; omega⟩
          rw [← hr]
          first
            | exact HRn.out.drop_no (by omega) (by omega)
            | exact HRn.out.drop_at (by omega)
    | 1, hat =>
      refine ⟨_, rfl, ?_⟩
      obtain ⟨t, hx0, hat⟩ := hat
      have HA := hid hat
      have HX0 := hid hx0
      clear hat hx0
      by_cases h2 : m < 2
      · have t0 : decide ((m : Int) < 2) = true := by simp; omega
        go_wp2_with fail
        go_step3
        refine ⟨⟨_, _, _, _, _, _, _, _, _, _, _, _, _, _, _, _, _, _, _, _, _, _, _, _, _, _, _, _, _, _, _, _, _, _, _, _, _, _, _, _, _, _, _, _, _, _, rfl, rest, done, xs, x0, x1, ?_, HRd.out, hmc, HX.out, hown, HOI.out, by rw [Hl.out]; simp only [lab] at hdl ⊢; omega, hbel⟩, by simp [GetM, lenOf]⟩
        show getI bs = none
        rw [HA.out, getI_short (by simp) (by have := HRd.out.1; simp; omega)]
        rfl
      · obtain ⟨b, off, rfl, hb, hcell⟩ := HRd.out.2 (by omega)
        obtain ⟨p, q, r, hrest⟩ : ∃ p q r, rest = p :: q :: r := by
          match rest, HRd.out.1 with
          | [], h => simp at h; omega
          | [_], h => simp at h; omega
          | p :: q :: r, _ => exact ⟨p, q, r, rfl⟩
        have c0 : wr.cell? ⟨b, off, none⟩ = some (.int .u8 (p.toNat : Int)) := hcell 0 p (by rw [hrest]; rfl)
        have c1 : wr.cell? ⟨b, off + 1, none⟩ = some (.int .u8 (q.toNat : Int)) := hcell 1 q (by rw [hrest]; rfl)
        have t0 : decide ((m : Int) < 2) = false := by simp; omega
        have Hrest := hid hrest
        have HN := hid (number_any p q)
        clear hcell hrest
        go_wp2_with fail
        go_quiet ((go_at_call 18; exact Calls.quiet_of_same ((HN.out _).mono fun e w' h => ⟨h.1, h.2.symm⟩)))
        go_wp2_with fail
        all_goals
          go_step3
          have hr : rest.drop 2 = r := by rw [Hrest.out]; rfl
          refine ⟨⟨_, _, _, _, _, _, _, _, _, _, _, _, _, _, _, _, _, _, _, _, _, _, _, _, _, _, _, _, _, _, _, _, _, _, _, _, _, _, _, _, _, _, _, _, _, _, rfl, r, done, xs, x0, x1, ⟨t, p, q, HX0.out, rfl, by rw [HA.out, Hrest.out]⟩, ?_, by omega, HX.out, hown, HOI.out, by rw [Hl.out]; simp only [lab] at hdl ⊢; omega, ⟨hbel.os, hbel.tape, hbel.output, hbel.size, hbel.block⟩⟩, by simp [GetM, lenOf]; omega⟩
          rw [← hr]
          first
            | exact HRd.out.drop_no (by omega) (by omega)
            | exact HRd.out.drop_at (by omega)
    | 2, hat =>
      refine ⟨_, rfl, ?_⟩
      have HA := hid hat
      clear hat
      go_wp2_with fail
      rw [jumps_ret]
      go_ret2
      exact .inr ⟨HA.out, rfl, hbel⟩
    | 3, hat =>
      refine ⟨_, rfl, ?_⟩
      obtain ⟨t, p, q, rfl, hszz, hat⟩ := hat
      have HA := hid hat
      obtain ⟨k, hk⟩ : ∃ k, num2 p q = k := ⟨_, rfl⟩
      have Hk := hid hk
      rw [hk] at hszz
      subst hszz
      have hk6 : k < 65536 := by rw [← hk]; exact num2_lt p q
      clear hat hk
      by_cases h2 : m < k
      · have t0 : decide (m < k) = true := by simp; omega
        go_wp2_with fail
        go_step3
        refine ⟨⟨_, _, _, _, _, _, _, _, _, _, _, _, _, _, _, _, _, _, _, _, _, _, _, _, _, _, _, _, _, _, _, _, _, _, _, _, _, _, _, _, _, _, _, _, _, _, rfl, rest, done, xs, _, x1, ?_, HRd.out, hmc, HX.out, hown, HOI.out, by rw [Hl.out]; simp only [lab] at hdl ⊢; omega, hbel⟩, by simp [GetM, lenOf]⟩
        show getI bs = none
        rw [HA.out, getI_cut (by rw [Hk.out, HRd.out.1]; exact h2)]
        rfl
      · have t0 : decide (m < k) = false := by simp; omega
        have y := UInt8.toNat_lt t
        obtain ⟨cs, hcs⟩ : ∃ cs, rest.take k = cs := ⟨_, rfl⟩
        have hcl : cs.length = k := by rw [← hcs, List.length_take, HRd.out.1]; omega
        have Hcs := hid hcs
        have Hcl := hid hcl
        have HD := hid hown
        have htk := HRd.out.take (k := k) (by omega)
        rw [hcs] at htk
        have HTk := hid htk
        clear hcs hcl htk
        go_wp2_with (first
          | (at_make; refine wpList_make_full _ rfl (.tmp 34) (.tmp 34) 23 rfl (w.heap.size + 1) 5 i5 (.int .u8 0) 1 Try.underlying23 Ai.out Az0.out Az1.out _ _ _ _ k rfl rfl rfl rfl (by rw [Az2.out]; omega) (by unfold maxLen; omega) (by omega) ?_; intro w2 hown2 hg2; have hb2 : Below wr.heap.size wr w2 := grown_below hg2; have HX2 := hid (box_below HX.out hb2 hlt); have hv2 := (box_cells HX2.out).2; obtain ⟨hv2, hv3⟩ := hv2; obtain ⟨cur, hcur, hcl⟩ := own_list hown2 rfl; have Hcur := hid hcur; have Hcl2 := hid hcl; have hs2 := hb2.size; clear hown2 hg2 hcur hcl)
          | ((with_reducible refine wpList_copy_splice rfl (.tmp 38) (.tmp 39) 23 23 rfl 5 Try.underlying23 (by rw [Ai.out]; simp [Az1.out]) (some ⟨wr.heap.size, 0, none⟩) A' k k m c' rfl rfl wr.heap.size 0 cur 5 ?c1 (bcells cs) ?c2 ?c3 ?c4 (bcells_one _) wr.heap.size _ (Below.refl _ _) (Nat.le_refl _) ?c5); (case c1 => exact (heap_setCell_other _ _ _ _ (by show _ ≠ w.heap.size; omega)).trans Hcur.out); (case c2 => rw [bcells_len, Hcl.out]; exact (Nat.min_eq_right (by omega)).symm); (case c3 => exact fun h0 => ⟨rfl, copy_src ((HTk.out.below (hb2.mono hsz)).below ((Below.refl _ _).setCell (p := ⟨w.heap.size, 1, none⟩) (Nat.le_refl _) _)) (by rw [bcells_len, Hcl.out] at h0; exact h0)⟩); (case c4 => rw [bcells_len, Hcl.out, Hcl2.out]; omega); intro w3 H3 hb3; (have hg3 := gb_chain hb2 hb3); (have HX3 := hid (box_below (box_set1 HX2.out) hb3 hlt)); (have e012 := box_cells HX3.out); (obtain ⟨e0, e1, e2⟩ := e012); (have hs3 := hg3.size); (have hd3 := data_own (w.heap.size + 1) hlt H3 Hcl.out Hcl2.out (by unfold maxLen; omega)); (have HD3 := hid hd3); (have hown3 := own_gb HD.out hg3); clear hb2 hb3 hv2 hv3 hd3)
          | (at_builtin; refine wpList_append_own _ rfl (.tmp 44) (.tmp 46) 22 rfl (w.heap.size + 1) 26 i6 (.agg #[.int .i64 0, .slice none 0 0]) 2 32 Try.underlying22 Bi.out Bz0.out Bz1.out Bz2.out rfl (by decide) _ _ _ rfl (hown3.alloc _) ⟨w3.heap.size, 0, none⟩ 1 1 [.int .i64 (t.toNat : Int), .slice (some ⟨wr.heap.size, 0, none⟩) k k] rfl rfl (new_row rfl) (itm_row _ _ _ _) (by unfold maxLen; omega) (by omega) (by simp; omega) ?_; intro v4 w4 hown4 hg4 _))
        all_goals
          have hx := hown.1
          have hoi4 := (HOI.out.gb hg3).snoc (e := ⟨(t.toNat : Int), cs⟩) hx (by have := HD3.out; rw [Hcl.out]; exact this)
          rw [show (⟨(t.toNat : Int), cs⟩ : Itm).data.length = k from Hcl.out] at hoi4
          obtain ⟨g1, g2, g3⟩ := get_app hown3 hoi4 HX3.out (by omega) hg4
          have hb3 : Below w.heap.size wr w3 := ⟨hg3.os, hg3.tape, hg3.output, hg3.size, fun q hq => hg3.block q (by omega) (by simp; omega)⟩
          go_step3
          refine ⟨⟨_, _, _, _, _, _, _, _, _, _, _, _, _, _, _, _, _, _, _, _, _, _, _, _, _, _, _, _, _, _, _, _, _, _, _, _, _, _, _, _, _, _, _, _, _, _, rfl, rest.drop k, done ++ [⟨(t.toNat : Int), cs⟩], _, _, _, ?_, ?_, by omega, g2, by rw [List.length_append]; exact hown4, g1, ?_, hbel.trans (hb3.trans g3)⟩, by simp [GetM, lenOf]; omega⟩
          · show getI bs = _
            rw [HA.out, getI_step (by rw [Hk.out, HRd.out.1]; omega), pre_step, Hk.out, Hcs.out]
          · have hr4 := HRd.out.below (hb3.trans g3)
            first
              | exact hr4.drop_no (by omega) (by omega)
              | exact hr4.drop_at' (by omega) hmc (by omega)
          · rw [Hl.out, List.length_append]; simp only [lab, List.length_singleton] at hdl ⊢; omega
    | (l + 4), hat => exact hat.elim
end Go.Proofs.Ytddddfcalknmlaa
