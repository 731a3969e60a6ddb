/- waymarkref1.ReportLinks. -/
import Derived.Test.YtddddfcalknmlaaTlL
namespace Go.Proofs.Ytddddfcalknmlaa
open Go.RowKit
set_option maxHeartbeats 3200000
set_option maxRecDepth 100000
theorem refLinks_any (A : Option Addr) (n c : Nat) (bs : List UInt8) (w : World) (hr : RByt w w.heap.size A n bs) (hc : n ≤ c) (hn : n ≤ 10000000) : Calls Try.prog 13 #[.slice A n c] w (RepAns bs w) := by
  have hG := refGet_any A n c bs w hr hc hn
  obtain ⟨i5, hi, hz0, hz1, hz2⟩ := info_parts Try.info48
  have Ai := hid hi; have Az0 := hid hz0; have Az1 := hid hz1; have Az2 := hid hz2
  clear hi hz0 hz1 hz2
  cases hg : getI bs with
  | none =>
    have HG := hid (getI_no hg hG)
    have Hq := hid (show repI bs = none by unfold repI; rw [hg]; rfl)
    clear hG hr hg
    go_enter Try.func13, Try.ntmps13
    go_wp2_with (go_at_call 11; (with_reducible refine HG.out.mono ?_); rintro e' w1 ⟨rfl, hb1⟩)
    go_ret2
    exact .inr ⟨Hq.out, rfl, hb1⟩
  | some l =>
    have hll := (getI_len _ _ _ (Nat.le_refl _) hg).1
    rw [hr.1] at hll
    have HG := hid (getI_yes hg hG)
    have Hq := hid (show repI bs = linksOf l by unfold repI; rw [hg]; rfl)
    obtain ⟨N, hN⟩ : ∃ N, l.length = N := ⟨_, rfl⟩
    have Hl := hid hN
    rw [hN] at HG hll
    clear hG hr hg hN
    go_enter Try.func13, Try.ntmps13
    go_wp2_with (go_at_call 11; (with_reducible refine HG.out.mono ?_); rintro e' w1 ⟨A1, c1, rfl, hr1, hb1⟩; have HR1 := hid hr1; clear hr1)
    have hs1 := hb1.size
    go_loopw [6, 7] (fun v i wr => ∃ (k : Nat) (done : List (Int × Int)), k ≤ N ∧ i = .int .i64 k ∧ wr.ownsRow w1.heap.size 48 2 v done.length (pcells done) ∧ Hid (linksOf l = preL done (linksOf (l.drop k))) ∧ done.length ≤ k ∧ Below w1.heap.size w1 wr) (fun _ i _ => N - (intOf i).toNat)
    case atStart => exact ⟨0, [], Nat.zero_le _, rfl, World.ownsRow_nil _ _ _ _, (preL_nil _).symm, Nat.zero_le _, Below.refl _ _⟩
    case round =>
      obtain ⟨k, done, hk, rfl, hown, HA, hdk, hbel⟩ := hrel
      have hs := hbel.size
      by_cases hlt : k < N
      · obtain ⟨e, he⟩ : ∃ e, l[k]? = some e := ⟨l[k]'(by rw [Hl.out]; omega), List.getElem?_eq_getElem _⟩
        obtain ⟨b, off, rfl, hb, hcl⟩ := HR1.out.2 (by omega)
        obtain ⟨c0, D, dc, c1', hrd, _⟩ := hcl k e he
        have d0 := (hbel.cell (p := ⟨b, off + k * 2, none⟩) hb).trans c0
        have d1 := (hbel.cell (p := ⟨b, off + k * 2 + 1, none⟩) hb).trans c1'
        have HD := hid (hrd.below hbel)
        have Hd := hid (linksOf_drop he)
        clear hcl he c0 c1' hrd
        by_cases ht : e.typ = 1
        · have t1 : (e.typ == 1) = true := by simp [ht]
          have t2 : (e.typ != 1) = false := by simp [ht]
          have Ht := hid ht
          clear ht
          by_cases hl3 : e.data.length = 3
          · obtain ⟨x, y, z, hxyz⟩ : ∃ x y z, e.data = [x, y, z] := by
              match hd : e.data, hl3 with
              | [x, y, z], _ => exact ⟨x, y, z, rfl⟩
            have HX := hid hxyz
            have b0 := UInt8.toNat_lt x
            have b1 := UInt8.toNat_lt y
            have b2 := UInt8.toNat_lt z
            rw [hl3] at d1 HD
            obtain ⟨bd, offd, rfl, hbd, hcd⟩ := HD.out.2 (by omega)
            have m0 : wr.cell? ⟨bd, offd, none⟩ = some (.int .u8 (x.toNat : Int)) := hcd 0 x (by rw [hxyz]; rfl)
            have m1 : wr.cell? ⟨bd, offd + 1, none⟩ = some (.int .u8 (y.toNat : Int)) := hcd 1 y (by rw [hxyz]; rfl)
            have m2 : wr.cell? ⟨bd, offd + 2, none⟩ = some (.int .u8 (z.toNat : Int)) := hcd 2 z (by rw [hxyz]; rfl)
            have hq : isL e.data = decide (z.toNat ≤ 1) := isL_at hl3 (by rw [hxyz]; rfl)
            have Hq3 := hid hq
            clear hcd hxyz hl3 hq
            by_cases hz : z.toNat ≤ 1
            · have tz : decide ((1 : Int) < (z.toNat : Int)) = false := by simp; omega
              have Hq2 : Hid (isL e.data = true) := by show _ = _; rw [Hq3.out]; exact decide_eq_true hz
              go_wp2_with fail
              have e0 : IntKind.i64.wrap (x.toNat : Int) = (x.toNat : Int) := IntWalk.i64_in _ (by omega)
              have e1 : IntKind.i64.wrap (y.toNat : Int) = (y.toNat : Int) := IntWalk.i64_in _ (by omega)
              have e2 : IntKind.i64.wrap (z.toNat : Int) = (z.toNat : Int) := IntWalk.i64_in _ (by omega)
              have e3 : IntKind.i64.wrap ((x.toNat : Int) * 256) = (x.toNat : Int) * 256 := IntWalk.i64_in _ (by omega)
              have j2 := join2 x y
              have hown2 : wr.drew.ownsRow w1.heap.size 48 2 u6 done.length (pcells done) := hown
              go_region_held3 (fun w' => w'.cell? ⟨bd, offd, none⟩ = some (.int .u8 (x.toNat : Int)) ∧ w'.cell? ⟨bd, offd + 1, none⟩ = some (.int .u8 (y.toNat : Int)) ∧ w'.cell? ⟨bd, offd + 2, none⟩ = some (.int .u8 (z.toNat : Int)))
                (first
                  | go_keep
                  | exact hk4)
                (first
                  | ((refine step_append_lies _ (by rfl) (.tmp 43) (.tmp 59) 36 (by rfl) w1.heap.size 48 i5 (.agg #[.int .i64 0, .int .i64 0]) 2 16 Try.underlying36 Ai.out Az0.out Az1.out Az2.out rfl (by decide) u6 done.length (pcells done) (by rfl) (hown2.alloc _) ⟨wr.heap.size, 0, none⟩ 1 1 (pcells [((num2 x y : Nat), (z.toNat : Nat))]) (by rfl) (by rfl) (new_row (w := wr.drew) (pair_row _ _)) (pcells_one _) (by decide) (by unfold maxLen; clear e0 e1 e2 e3 j2; omega) (by clear e0 e1 e2 e3 j2; omega) (by clear e0 e1 e2 e3 j2; simp; omega) (wr.heap.size + 1) (by simp) ?_; intro g4 c4 w4 hown4 hg4 _ _; have hk := kept_app hown hg4; have hb4 := below_app4 hown hs hg4; have hk4 : w4.cell? ⟨bd, offd, none⟩ = some (.int .u8 (x.toNat : Int)) ∧ w4.cell? ⟨bd, offd + 1, none⟩ = some (.int .u8 (y.toNat : Int)) ∧ w4.cell? ⟨bd, offd + 2, none⟩ = some (.int .u8 (z.toNat : Int)) := ⟨(hk _ (.inl hbd) (by clear e0 e1 e2 e3 j2; omega) _).trans m0, (hk _ (.inl hbd) (by clear e0 e1 e2 e3 j2; omega) _).trans m1, (hk _ (.inl hbd) (by clear e0 e1 e2 e3 j2; omega) _).trans m2⟩)))
              clear e0 e1 e2 e3 j2
              go_wp2_with fail
              go_roundw
              case rel =>
                refine ⟨k + 1, done ++ [(((num2 x y : Nat) : Int), ((z.toNat : Nat) : Int))], by omega, by go_num, ?_, ?_, by simp; omega, hbel.trans hb4⟩
                · rw [List.length_append, pcells_app]; exact hown4
                · show _ = _
                  rw [HA.out, Hd.out, if_pos Ht.out, if_pos Hq2.out, preL_step, lk_at HX.out]
              case measure => simp [intOf]; omega
            · have tz : decide ((1 : Int) < (z.toNat : Int)) = true := by simp; omega
              have Hq2 : Hid (isL e.data = false) := by show _ = _; rw [Hq3.out]; exact decide_eq_false hz
              go_wp2_with fail
              go_ret2
              refine .inr ⟨?_, rfl, (hb1.trans (hbel.mono hs1))⟩
              rw [Hq.out, HA.out, Hd.out, if_pos Ht.out, Hq2.out]; rfl
          · have tl : ((e.data.length : Int) == 3) = false := by simp; omega
            have tl2 : ((e.data.length : Int) != 3) = true := by simp; omega
            have Hq2 := hid (isL_len (d := e.data) rfl hl3)
            clear hl3
            go_wp2_with fail
            go_ret2
            refine .inr ⟨?_, rfl, (hb1.trans (hbel.mono hs1))⟩
            rw [Hq.out, HA.out, Hd.out, if_pos Ht.out, Hq2.out]; rfl
        · have t1 : (e.typ == 1) = false := by simp [ht]
          have t2 : (e.typ != 1) = true := by simp [ht]
          have Ht := hid ht
          clear ht
          go_wp2_with fail
          go_roundw
          case rel => exact ⟨k + 1, done, by omega, by go_num, hown, by rw [HA.out, Hd.out, if_neg Ht.out]; rfl, by omega, hbel⟩
          case measure => simp [intOf]; omega
      · obtain rfl : k = N := by omega
        go_wp2_with fail
        go_ret2
        refine .inl ⟨done, ?_, _, rfl, own_mono hown hs1, hb1.trans (hbel.mono hs1)⟩
        rw [Hq.out, HA.out, List.drop_of_length_le (by rw [Hl.out]; omega), linksOf, preL_end]
end Go.Proofs.Ytddddfcalknmlaa
