/- tlv.Links. -/
import Derived.Test.YtddddfcalknmlaaTlR
import Derived.StillTailTactics
namespace Go.Proofs.Ytddddfcalknmlaa
open Go.RowKit
set_option maxHeartbeats 3200000
set_option maxRecDepth 100000
theorem Try.info48 : (Try.prog.info? 48).map (fun i => (i.zero, i.size, i.bytes)) = some (some (.agg #[.int .i64 0, .int .i64 0]), 2, 16) := by kernel_rfl
theorem getI_no {f : FuncId} {bs : List UInt8} {v : Value} {w : World} (h : getI bs = none) (hc : Calls Try.prog f #[v] w (GetIAns bs w)) :
    Calls Try.prog f #[v] w fun e w' => e = .returned (.tuple #[.slice none 0 0, .int .i64 2]) ∧ Below w.heap.size w w' := by
  refine hc.mono fun e w' ha => ?_
  rcases ha with ⟨l, h0, _⟩ | ⟨_, he, hb⟩
  · rw [h] at h0; cases h0
  · exact ⟨he, hb⟩
theorem getI_yes {f : FuncId} {bs : List UInt8} {l : List Itm} {v : Value} {w : World} (h : getI bs = some l) (hc : Calls Try.prog f #[v] w (GetIAns bs w)) :
    Calls Try.prog f #[v] w fun e w' => ∃ A c, e = .returned (.tuple #[.slice A l.length c, .int .i64 0]) ∧ RItm w' w'.heap.size A l.length l ∧ Below w.heap.size w w' := by
  refine hc.mono fun e w' ha => ?_
  rcases ha with ⟨l', h0, v', xs, he, ho, hi, hb⟩ | ⟨h0, _⟩
  · rw [h] at h0
    obtain rfl := Option.some.inj h0
    obtain ⟨A, cap, rfl, hr, _⟩ := own_itm ho hi
    exact ⟨A, cap, he, hr, hb⟩
  · rw [h] at h0; cases h0
theorem number_q (a b : UInt8) (w : World) : Calls Try.prog 18 #[.int .u8 (a.toNat : Int), .int .u8 (b.toNat : Int)] w fun e w' => e = .returned (.int .i64 (num2 a b : Nat)) ∧ w' = w :=
  (number_any a b w).mono fun _ _ h => ⟨h.1, h.2.symm⟩
theorem lk_at {d : List UInt8} {x y z : UInt8} (h : d = [x, y, z]) : lk d = (((num2 x y : Nat) : Int), ((z.toNat : Nat) : Int)) := by subst h; rfl
theorem pair_row (a b : Int) : #[Value.int .i64 a, .int .i64 b] = (pcells [(a, b)]).toArray := rfl
theorem kept_app {wr w2 w4 : World} {B e s n : Nat} {v : Value} {xs : List Value} {o : Obj} (hown : wr.ownsRow B e s v n xs) (hg : (w2.drew.alloc o).grownBy w4 v.ownBlock) (k : Nat) (hk : k < B ∨ wr.heap.size ≤ k) (h2 : k < w2.heap.size) (j : Nat) :
    w4.cell? ⟨k, j, none⟩ = w2.cell? ⟨k, j, none⟩ := by
  have h3 : (w2.drew.alloc o).cell? ⟨k, j, none⟩ = w2.cell? ⟨k, j, none⟩ := World.cell?_of_block (Below.heap_alloc w2.drew o k h2)
  rw [hg.cell_far ⟨k, j, none⟩ (by show k < _; simp; omega) ?_, h3]
  intro hc
  have := hown.lt k hc.symm
  omega
theorem below_app4 {wr w2 w4 : World} {B e s n : Nat} {v : Value} {xs : List Value} {o : Obj} (hown : wr.ownsRow B e s v n xs) (hs : B ≤ w2.heap.size) (hg : (w2.drew.alloc o).grownBy w4 v.ownBlock) : Below B w2 w4 := by
  have h := Below.grown ((Below.refl B w2.drew).alloc hs o) hg (by simp; omega) (fun k hk => (hown.lt k hk).1)
  exact ⟨h.os, h.tape, h.output, h.size, h.block⟩
theorem links_any (A : Option Addr) (n c : Nat) (bs : List UInt8) (w : World) (hr : RByt w w.heap.size A n bs) (hc : n ≤ c) (hn : n ≤ 10000000) : Calls Try.prog 12 #[.slice A n c] w (RepAns bs w) := by
  have hG := get_any A n c bs w hr hc hn
  obtain ⟨i5, hi, hz0, hz1, hz2⟩ := info_parts Try.info48
  have Ai := hid hi; have Az0 := hid hz0; have Az1 := hid hz1; have Az2 := hid hz2
  clear hi hz0 hz1 hz2
  cases hg : getI bs with
  | none =>
    have HG := hid (getI_no hg hG)
    have Hq := hid (show repI bs = none by unfold repI; rw [hg]; rfl)
    clear hG hr hg
    go_enter Try.func12, Try.ntmps12
    go_wp2_with (go_at_call 10; (with_reducible refine HG.out.mono ?_); rintro e' w1 ⟨rfl, hb1⟩)
    go_ret2
    exact .inr ⟨Hq.out, rfl, hb1⟩
  | some l =>
    have hll := (getI_len _ _ _ (Nat.le_refl _) hg).1
    rw [hr.1] at hll
    have HG := hid (getI_yes hg hG)
    have Hq := hid (show repI bs = linksOf l by unfold repI; rw [hg]; rfl)
    obtain ⟨N, hN⟩ : ∃ N, l.length = N := ⟨_, rfl⟩
    have Hl := hid hN
    rw [hN] at HG hll
    clear hG hr hg hN
    go_enter Try.func12, Try.ntmps12
    go_wp2_with (go_at_call 10; (with_reducible refine HG.out.mono ?_); rintro e' w1 ⟨A1, c1, rfl, hr1, hb1⟩; have HR1 := hid hr1; clear hr1)
    have hs1 := hb1.size
    go_loopw [6, 19] (fun v i wr => ∃ (k : Nat) (done : List (Int × Int)), k ≤ N ∧ i = .int .i64 k ∧ wr.ownsRow w1.heap.size 48 2 v done.length (pcells done) ∧ Hid (linksOf l = preL done (linksOf (l.drop k))) ∧ done.length ≤ k ∧ Below w1.heap.size w1 wr) (fun _ i _ => N - (intOf i).toNat)
    case atStart => exact ⟨0, [], Nat.zero_le _, rfl, World.ownsRow_nil _ _ _ _, (preL_nil _).symm, Nat.zero_le _, Below.refl _ _⟩
    case round =>
      obtain ⟨k, done, hk, rfl, hown, HA, hdk, hbel⟩ := hrel
      have hs := hbel.size
      by_cases hlt : k < N
      · obtain ⟨e, he⟩ : ∃ e, l[k]? = some e := ⟨l[k]'(by rw [Hl.out]; omega), List.getElem?_eq_getElem _⟩
        obtain ⟨b, off, rfl, hb, hcl⟩ := HR1.out.2 (by omega)
        obtain ⟨c0, D, dc, c1', hrd, _⟩ := hcl k e he
        have d0 := (hbel.cell (p := ⟨b, off + k * 2, none⟩) hb).trans c0
        have d1 := (hbel.cell (p := ⟨b, off + k * 2 + 1, none⟩) hb).trans c1'
        have HD := hid (hrd.below hbel)
        have Hd := hid (linksOf_drop he)
        clear hcl he c0 c1' hrd
        by_cases ht : e.typ = 1
        · have t1 : (e.typ == 1) = true := by simp [ht]
          have t2 : (e.typ != 1) = false := by simp [ht]
          have Ht := hid ht
          clear ht
          have HI := hid (isLink_any D _ dc e.data w1.heap.size (wr.alloc (.cells #[.int .i64 e.typ, .slice D e.data.length dc] 26)) (HD.out.below ((Below.refl _ _).alloc hs _)))
          cases hq : isL e.data with
          | false =>
            have Hq2 := hid hq
            rw [hq] at HI
            clear hq
            go_wp2_with (go_at_call 19; (with_reducible refine HI.out.mono ?_); rintro e' w3 ⟨rfl, rfl⟩)
            go_ret2
            refine .inr ⟨?_, rfl, (hb1.trans (hbel.mono hs1)).alloc (by omega) _⟩
            rw [Hq.out, HA.out, Hd.out, if_pos Ht.out, Hq2.out]; rfl
          | true =>
            obtain ⟨x, y, z, hxyz⟩ : ∃ x y z, e.data = [x, y, z] := by
              have h := hq
              simp only [isL, Bool.and_eq_true, beq_iff_eq] at h
              match hd : e.data, h.1 with
              | [x, y, z], _ => exact ⟨x, y, z, rfl⟩
            have HX := hid hxyz
            have Hq2 := hid hq
            rw [hq] at HI
            have hl3 : e.data.length = 3 := by rw [hxyz]; rfl
            rw [hl3] at HI d1 HD
            obtain ⟨bd, offd, rfl, hbd, hcd⟩ := HD.out.2 (by omega)
            have m0 : wr.cell? ⟨bd, offd, none⟩ = some (.int .u8 (x.toNat : Int)) := hcd 0 x (by rw [hxyz]; rfl)
            have m1 : wr.cell? ⟨bd, offd + 1, none⟩ = some (.int .u8 (y.toNat : Int)) := hcd 1 y (by rw [hxyz]; rfl)
            have m2 : wr.cell? ⟨bd, offd + 2, none⟩ = some (.int .u8 (z.toNat : Int)) := hcd 2 z (by rw [hxyz]; rfl)
            have b0 := UInt8.toNat_lt x
            have b1 := UInt8.toNat_lt y
            have b2 := UInt8.toNat_lt z
            have e6 : IntKind.i64.wrap (z.toNat : Int) = (z.toNat : Int) := IntWalk.i64_in _ (by omega)
            clear hq hl3 hxyz hcd
            go_wp2_with (go_at_call 19; (with_reducible refine HI.out.mono ?_); rintro e' w3 ⟨rfl, rfl⟩)
            obtain ⟨w2, hw2⟩ : ∃ w2, wr.alloc (.cells #[.int .i64 e.typ, .slice (some ⟨bd, offd, none⟩) 3 dc] 26) = w2 := ⟨_, rfl⟩
            have hb2 : Below w1.heap.size wr w2 := by rw [← hw2]; exact (Below.refl _ _).alloc hs _
            have hown2 : w2.ownsRow w1.heap.size 48 2 u6 done.length (pcells done) := by rw [← hw2]; exact hown.alloc _
            have n0 := (hb2.cell (p := ⟨bd, offd, none⟩) hbd).trans m0
            have n1 := (hb2.cell (p := ⟨bd, offd + 1, none⟩) hbd).trans m1
            have n2 := (hb2.cell (p := ⟨bd, offd + 2, none⟩) hbd).trans m2
            have n3 : w2.cell? ⟨wr.heap.size, 1, none⟩ = some (.slice (some ⟨bd, offd, none⟩) 3 dc) := by rw [← hw2, cell_of_row _ _ _ _ _ _ (heap_alloc_new wr _)]; rfl
            have hs2 : w1.heap.size ≤ w2.heap.size := Nat.le_trans hs hb2.size
            have hlt2 : wr.heap.size < w2.heap.size := by rw [← hw2]; simp
            have hz2 : wr.heap.size ≤ w2.heap.size := by omega
            have hs2' : w1.heap.size ≤ wr.heap.size := hs
            rw [hw2]
            clear hw2 m0 m1 m2
            go_region_held3 (fun w' => w'.cell? ⟨wr.heap.size, 1, none⟩ = some (.slice (some ⟨bd, offd, none⟩) 3 dc) ∧ w'.cell? ⟨bd, offd, none⟩ = some (.int .u8 (x.toNat : Int)) ∧ w'.cell? ⟨bd, offd + 1, none⟩ = some (.int .u8 (y.toNat : Int)) ∧ w'.cell? ⟨bd, offd + 2, none⟩ = some (.int .u8 (z.toNat : Int)))
              (first
                | go_keep
                | exact hk4)
              (first
                | (go_at_call 18; refine (number_any x y _).mono ?_; rintro e' w3 ⟨rfl, rfl⟩)
                | ((refine step_append_lies _ (by rfl) (.tmp 30) (.tmp 46) 36 (by rfl) w1.heap.size 48 i5 (.agg #[.int .i64 0, .int .i64 0]) 2 16 Try.underlying36 Ai.out Az0.out Az1.out Az2.out rfl (by decide) u6 done.length (pcells done) (by rfl) (World.ownsRow.alloc (w := w2.drew) hown2 _) ⟨w2.heap.size, 0, none⟩ 1 1 (pcells [((num2 x y : Nat), (z.toNat : Nat))]) (by rfl) (by rfl) (new_row (w := w2.drew) (pair_row _ _)) (pcells_one _) (by decide) (by unfold maxLen; omega) (by omega) (by simp; omega) (w2.heap.size + 1) (by simp) ?_; intro g4 c4 w4 hown4 hg4 _ _; have hk := kept_app hown hg4; have hb4 := below_app4 hown hs2 hg4; have hk4 : w4.cell? ⟨wr.heap.size, 1, none⟩ = some (.slice (some ⟨bd, offd, none⟩) 3 dc) ∧ w4.cell? ⟨bd, offd, none⟩ = some (.int .u8 (x.toNat : Int)) ∧ w4.cell? ⟨bd, offd + 1, none⟩ = some (.int .u8 (y.toNat : Int)) ∧ w4.cell? ⟨bd, offd + 2, none⟩ = some (.int .u8 (z.toNat : Int)) := ⟨(hk _ (.inr (Nat.le_refl _)) hlt2 _).trans n3, (hk _ (.inl hbd) (by omega) _).trans n0, (hk _ (.inl hbd) (by omega) _).trans n1, (hk _ (.inl hbd) (by omega) _).trans n2⟩)))
            go_wp2_with fail
            go_roundw
            case rel =>
              refine ⟨k + 1, done ++ [(((num2 x y : Nat) : Int), ((z.toNat : Nat) : Int))], by omega, by go_num, ?_, ?_, by simp; omega, hbel.trans (hb2.trans hb4)⟩
              · rw [List.length_append, pcells_app]; exact hown4
              · show _ = _
                rw [HA.out, Hd.out, if_pos Ht.out, if_pos Hq2.out, preL_step, lk_at HX.out]
            case measure => simp [intOf]; omega
        · have t1 : (e.typ == 1) = false := by simp [ht]
          have t2 : (e.typ != 1) = true := by simp [ht]
          have Ht := hid ht
          clear ht
          go_wp2_with fail
          go_roundw
          case rel => exact ⟨k + 1, done, by omega, by go_num, hown.alloc _, by rw [HA.out, Hd.out, if_neg Ht.out]; rfl, by omega, hbel.alloc hs _⟩
          case measure => simp [intOf]; omega
      · obtain rfl : k = N := by omega
        go_wp2_with fail
        go_ret2
        refine .inl ⟨done, ?_, _, rfl, own_mono hown hs1, hb1.trans (hbel.mono hs1)⟩
        rw [Hq.out, HA.out, List.drop_of_length_le (by rw [Hl.out]; omega), linksOf, preL_end]
end Go.Proofs.Ytddddfcalknmlaa
