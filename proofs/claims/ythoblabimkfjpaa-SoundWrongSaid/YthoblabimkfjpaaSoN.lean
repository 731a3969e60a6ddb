/- SoundWrong. -/
import Derived.Test.YthoblabimkfjpaaSoM
import Derived.Deep.DeepCutAuto
import Derived.Deep.RegionLaw
namespace Go.Proofs.Ythoblabimkfjpaa
open Go.RowKit
set_option maxHeartbeats 12800000
set_option maxRecDepth 100000
theorem swrong_SoN (h : SoundSpec 16 20) (x : Int) (k j : Nat) (hk : k < 10) (hx : x = (k : Int)) (hj : j < 5) (hkl : 0 ≤ k) (hkh : k < 5) (w : World) : Calls Try.prog 6 #[.int .i64 x, .int .i64 (j : Int)] w fun e w' => e = .returned (.bool true) ∧ Below w.heap.size w w' := by
  have HA := hid (alive14 h w)
  have HCk := hid (@wrong_check h k j hk hj)
  have HN := hid (fun x W => num14_any x W)
  have Hx := hid hx
  have t1 : decide (x < 0) = false := by simp; omega
  have t2 : decide ((9 : Int) < x) = false := by simp; omega
  have t3 : decide ((j : Int) < 0) = false := by simp
  have t4 : decide ((4 : Int) < (j : Int)) = false := by simp; omega
  obtain ⟨i5, hi5, hz0, hz1, hz2⟩ := info_parts (show (Try.prog.info? 58).map (fun i => (i.zero, i.size, i.bytes)) = some (some (.agg #[.string ⟨#[]⟩, .int .i64 0, .int .u32 0, .int .i64 0, .int .u32 0, .int .i64 0, .int .i64 0, .int .i64 0, .int .i64 0, .int .i64 0, .int .i64 0, .int .i64 0, .slice none 0 0, .slice none 0 0, .slice none 0 0, .slice none 0 0, .bool false]), 17, 208) by kernel_rfl)
  have Ai := hid hi5; have Az0 := hid hz0; have Az1 := hid hz1; have Az2 := hid hz2
  clear h hx hi5 hz0 hz1 hz2
  go_enter Try.func6, Try.ntmps6
  go_upto_region 5 with (first
    | (go_at_call 14; (with_reducible refine HA.out.mono ?_); rintro e' w1 ⟨rfl, hb1⟩))
  have hl0 := rlnk_new w1 ⟨0, 1, 1, 0⟩
  obtain ⟨wz, hwz⟩ : ∃ wz, (w1.alloc (.cells #[.int .i64 0, .int .i64 1, .int .i64 1, .int .i64 0] 61)).alloc (.cells #[.int .i64 3, .slice (some ⟨w1.heap.size, 0, none⟩) 1 1] 39) = wz := ⟨_, rfl⟩
  have hwzs : wz.heap.size = w1.heap.size + 2 := by rw [← hwz]; simp
  have hbox : wz.heap[w1.heap.size + 1]? = some (.cells #[.int .i64 3, .slice (some ⟨w1.heap.size, 0, none⟩) 1 1] 39 (0, 0)) := by
    have := heap_alloc_new (w1.alloc (.cells #[.int .i64 0, .int .i64 1, .int .i64 1, .int .i64 0] 61)) (.cells #[.int .i64 3, .slice (some ⟨w1.heap.size, 0, none⟩) 1 1] 39)
    rw [hwz] at this
    simpa using this
  have hlk : RLnk wz (w1.heap.size + 1) (some ⟨w1.heap.size, 0, none⟩) 1 [⟨0, 1, 1, 0⟩] := by
    rw [← hwz]
    exact hl0.below (Below.alloc (Below.refl _ _) (by simp) _)
  have hbz : Below w.heap.size w wz := by rw [← hwz]; exact hb1.trans (((Below.refl _ _).alloc (Nat.le_refl _) _ |>.alloc (by simp) _).mono hb1.size)
  rw [hwz]
  clear hwz hl0 t1 t2 t3 t4 hb1
  have Hlk := hid hlk; have Hbox := hid hbox; have Hbz := hid hbz; have Hwzs := hid hwzs
  clear hlk hbox hbz hwzs
  go_wp2_with fail
  go_loopw [7, 8] (fun ov iv wr => ∃ i : Nat, i ≤ 5 ∧ iv = .int .i64 i ∧ Hid (wr.ownsRow wz.heap.size 58 17 ov i (rrow (b5.take i))) ∧ Hid (Below wz.heap.size wz wr)) (fun _ iv _ => 5 - (intOf iv).toNat)
  case atStart => exact ⟨0, by omega, rfl, World.ownsRow_nil _ _ _ _, Below.refl _ _⟩
  case round =>
    obtain ⟨i, hi, rfl, HO, HB⟩ := hrel
    by_cases hlt : i < 5
    · have t5 : decide ((i : Int) < 5) = true := by simp; omega
      obtain ⟨c, hc⟩ : ∃ c, nm5.getD i 0 = c := ⟨_, rfl⟩
      have HP : ∀ W, (Instr.slice 9 (.string ⟨#[97, 98, 99, 100, 101]⟩) (some (.int .i64 (i : Int))) (some (.int .i64 ((i : Int) + 1))) none).run Try.prog W = .ok (.string (txt [c])) W := fun W => run_piece nm5 i c (by rw [← hc]; exact nm5_at hlt) W
      have e5 : IntKind.i64.wrap ((i : Int) + 1) = (i : Int) + 1 := by rw [IntKind.wrap_i64]; omega
      have Hsn := hid (b5_snoc hlt)
      rw [hc] at Hsn
      obtain ⟨Ao, co, ho⟩ := own_form HO.out
      subst ho
      have Hlt := hid hlt
      clear hc hlt
      go_wp2_with (at_builtin; refine wpList_append_own _ rfl (.tmp 39) (.tmp 46) 40 rfl wz.heap.size 58 i5 (.agg #[.string ⟨#[]⟩, .int .i64 0, .int .u32 0, .int .i64 0, .int .u32 0, .int .i64 0, .int .i64 0, .int .i64 0, .int .i64 0, .int .i64 0, .int .i64 0, .int .i64 0, .slice none 0 0, .slice none 0 0, .slice none 0 0, .slice none 0 0, .bool false]) 17 208 Try.underlying40 Ai.out Az0.out Az1.out Az2.out rfl (by decide) (.slice Ao i co) i (rrow (b5.take i)) (by go_simp) (HO.out.alloc _) ⟨wr.heap.size, 0, none⟩ 1 1 (rarr (rl5 c) slN).toList (by go_simp) rfl (new_row (rl5_cells c)) (rl5_one c) (by unfold maxLen; omega) (by omega) (by have := HB.out.size; simp; omega) ?_; intro v8 w8 hown8 hg8 _; have HO8 := hid hown8; have HB8 := hid (Below.grown (HB.out.alloc HB.out.size _) hg8 (by have := HB.out.size; simp; omega) (fun q hq => (HO.out.lt q hq).1)); clear hown8 hg8)
      go_roundw
      case rel => exact ⟨i + 1, by have := Hlt.out; omega, by go_num, by have := HO8.out; rw [← Hsn.out] at this; exact this, HB8⟩
      case measure => have := Hlt.out; simp [intOf]; omega
    · have hi5 : i = 5 := by omega
      subst hi5
      have HO2 : Hid (wr.ownsRow wz.heap.size 58 17 u7 5 (rrow b5)) := HO.out
      obtain ⟨g, cg, rfl, hgw, hgz⟩ := row_form HO2.out (by omega)
      clear HO
      have HO := HO2
      clear HO2
      have e6 : (j : Int) < 5 := by omega
      have hbox := Hbox.out; have hlk := Hlk.out; have hwzs := Hwzs.out
      have hkc : k = 0 ∨ k = 1 ∨ k = 2 ∨ k = 3 ∨ k = 4 := by omega
      rcases hkc with rfl | rfl | rfl | rfl | rfl
      · obtain rfl : x = 0 := by have := Hx.out; omega
        have HO0 : Hid (wr.ownsRow wz.heap.size 58 17 (.slice (some ⟨g, 0, none⟩) 5 cg) 5 (rrow b5)) := HO.out
        have B0 : Below wz.heap.size wz wr := HB.out
        have ck := row_cell HO0.out (b5_at hj) (f := 0) rfl
        rw [Nat.add_zero] at ck
        have fk : wr.frozen? ⟨g, j * 17, none⟩ = false := HO0.out.frozenAt (j * 17)
        have h9 := row_put HO0.out (b5_at hj) (f := 0) (u := .string ⟨#[65]⟩) (q' := (chg 0 (rl5 (nm5.getD j 0)), slN)) (by decide) rfl
        rw [Nat.add_zero] at h9
        have HO1 := hid h9
        clear h9
        have B1 : Below wz.heap.size wz (wr.setCell ⟨g, j * 17, none⟩ (.string ⟨#[65]⟩)) := B0.setCell (by show _ ≤ g; exact hgz) _
        have HW1 : Hid (WArg (wr.setCell ⟨g, j * 17, none⟩ (.string ⟨#[65]⟩)) (chg 0 (rl5 (nm5.getD j 0))).x slN) := warg0 _ _ rfl rfl rfl rfl (chg_bnd (by omega) _)
        have HR1 := hid (wrong_row HO1.out HW1.out)
        obtain ⟨q0, q1, _⟩ := box_cells (box_below hbox B1 (by omega))
        have HL1 := hid ((hlk.below (B1.mono (by omega))).more (B' := (wr.setCell ⟨g, j * 17, none⟩ (.string ⟨#[65]⟩)).heap.size) (by have := B1.size; omega))
        have HCc := hid (HCk.out (slN) (by simp [slN]) _ (some ⟨w1.heap.size, 0, none⟩) (some ⟨g, 0, none⟩) cg HL1.out (by simp) HR1.out)
        clear HO1 HW1 HR1 HL1
        have HK : Hid (er14.getD 0 0 = 3) := rfl
        rw [HK.out] at HCc
        go_upto_region 32 with (first
          | (go_at_call 16; (with_reducible refine HCc.out.mono ?_); rintro e' w5 ⟨rfl, hb5⟩))
        have hb6 := B1.trans (hb5.mono B1.size)
        have hb7 := Hbz.out.trans (hb6.mono Hbz.out.size)
        clear ck fk q0 q1
        go_region_law (go_simp; go_at_call 18; (with_reducible refine (HN.out _ _).mono ?_); rintro _ _ ⟨rfl, rfl⟩)
        all_goals (go_wp2_with fail; go_ret; exact ⟨rfl, (hb7.alloc hb7.size _).drew⟩)
      · obtain rfl : x = 1 := by have := Hx.out; omega
        have HO0 : Hid (wr.ownsRow wz.heap.size 58 17 (.slice (some ⟨g, 0, none⟩) 5 cg) 5 (rrow b5)) := HO.out
        have B0 : Below wz.heap.size wz wr := HB.out
        have ck := row_cell HO0.out (b5_at hj) (f := 0) rfl
        rw [Nat.add_zero] at ck
        have fk : wr.frozen? ⟨g, j * 17, none⟩ = false := HO0.out.frozenAt (j * 17)
        have h9 := row_put HO0.out (b5_at hj) (f := 0) (u := .string ⟨#[]⟩) (q' := (chg 1 (rl5 (nm5.getD j 0)), slN)) (by decide) rfl
        rw [Nat.add_zero] at h9
        have HO1 := hid h9
        clear h9
        have B1 : Below wz.heap.size wz (wr.setCell ⟨g, j * 17, none⟩ (.string ⟨#[]⟩)) := B0.setCell (by show _ ≤ g; exact hgz) _
        have HW1 : Hid (WArg (wr.setCell ⟨g, j * 17, none⟩ (.string ⟨#[]⟩)) (chg 1 (rl5 (nm5.getD j 0))).x slN) := warg0 _ _ rfl rfl rfl rfl (chg_bnd (by omega) _)
        have HR1 := hid (wrong_row HO1.out HW1.out)
        obtain ⟨q0, q1, _⟩ := box_cells (box_below hbox B1 (by omega))
        have HL1 := hid ((hlk.below (B1.mono (by omega))).more (B' := (wr.setCell ⟨g, j * 17, none⟩ (.string ⟨#[]⟩)).heap.size) (by have := B1.size; omega))
        have HCc := hid (HCk.out (slN) (by simp [slN]) _ (some ⟨w1.heap.size, 0, none⟩) (some ⟨g, 0, none⟩) cg HL1.out (by simp) HR1.out)
        clear HO1 HW1 HR1 HL1
        have HK : Hid (er14.getD 1 0 = 3) := rfl
        rw [HK.out] at HCc
        go_upto_region 32 with (first
          | (go_at_call 16; (with_reducible refine HCc.out.mono ?_); rintro e' w5 ⟨rfl, hb5⟩))
        have hb6 := B1.trans (hb5.mono B1.size)
        have hb7 := Hbz.out.trans (hb6.mono Hbz.out.size)
        clear ck fk q0 q1
        go_region_law (go_simp; go_at_call 18; (with_reducible refine (HN.out _ _).mono ?_); rintro _ _ ⟨rfl, rfl⟩)
        all_goals (go_wp2_with fail; go_ret; exact ⟨rfl, (hb7.alloc hb7.size _).drew⟩)
      · obtain rfl : x = 2 := by have := Hx.out; omega
        have HO0 : Hid (wr.ownsRow wz.heap.size 58 17 (.slice (some ⟨g, 0, none⟩) 5 cg) 5 (rrow b5)) := HO.out
        have B0 : Below wz.heap.size wz wr := HB.out
        have ck := row_cell HO0.out (b5_at hj) (f := 10) rfl
        have fk : wr.frozen? ⟨g, j * 17 + 10, none⟩ = false := HO0.out.frozenAt (j * 17 + 10)
        have h9 := row_put HO0.out (b5_at hj) (f := 10) (u := .int .i64 3) (q' := (chg 2 (rl5 (nm5.getD j 0)), slN)) (by decide) rfl
        have HO1 := hid h9
        clear h9
        have B1 : Below wz.heap.size wz (wr.setCell ⟨g, j * 17 + 10, none⟩ (.int .i64 3)) := B0.setCell (by show _ ≤ g; exact hgz) _
        have HW1 : Hid (WArg (wr.setCell ⟨g, j * 17 + 10, none⟩ (.int .i64 3)) (chg 2 (rl5 (nm5.getD j 0))).x slN) := warg0 _ _ rfl rfl rfl rfl (chg_bnd (by omega) _)
        have HR1 := hid (wrong_row HO1.out HW1.out)
        obtain ⟨q0, q1, _⟩ := box_cells (box_below hbox B1 (by omega))
        have HL1 := hid ((hlk.below (B1.mono (by omega))).more (B' := (wr.setCell ⟨g, j * 17 + 10, none⟩ (.int .i64 3)).heap.size) (by have := B1.size; omega))
        have HCc := hid (HCk.out (slN) (by simp [slN]) _ (some ⟨w1.heap.size, 0, none⟩) (some ⟨g, 0, none⟩) cg HL1.out (by simp) HR1.out)
        clear HO1 HW1 HR1 HL1
        have HK : Hid (er14.getD 2 0 = 4) := rfl
        rw [HK.out] at HCc
        go_upto_region 32 with (first
          | (go_at_call 16; (with_reducible refine HCc.out.mono ?_); rintro e' w5 ⟨rfl, hb5⟩))
        have hb6 := B1.trans (hb5.mono B1.size)
        have hb7 := Hbz.out.trans (hb6.mono Hbz.out.size)
        clear ck fk q0 q1
        go_region_law (go_simp; go_at_call 18; (with_reducible refine (HN.out _ _).mono ?_); rintro _ _ ⟨rfl, rfl⟩)
        all_goals (go_wp2_with fail; go_ret; exact ⟨rfl, (hb7.alloc hb7.size _).drew⟩)
      · obtain rfl : x = 3 := by have := Hx.out; omega
        have HO0 : Hid ((wr.alloc (.cells #[.int .i64 (-1)] 3)).ownsRow wz.heap.size 58 17 (.slice (some ⟨g, 0, none⟩) 5 cg) 5 (rrow b5)) := HO.out.alloc _
        have B0 : Below wz.heap.size wz (wr.alloc (.cells #[.int .i64 (-1)] 3)) := HB.out.alloc HB.out.size _
        have ck := row_cell HO0.out (b5_at hj) (f := 12) rfl
        have fk : (wr.alloc (.cells #[.int .i64 (-1)] 3)).frozen? ⟨g, j * 17 + 12, none⟩ = false := HO0.out.frozenAt (j * 17 + 12)
        have ck2 := row_cell HO.out (b5_at hj) (f := 12) rfl
        have fk2 : wr.frozen? ⟨g, j * 17 + 12, none⟩ = false := HO.out.frozenAt (j * 17 + 12)
        have h9 := row_put HO.out (b5_at hj) (f := 12) (u := .slice (some ⟨wr.heap.size, 0, none⟩) 1 1) (q' := (chg 3 (rl5 (nm5.getD j 0)), { slN with av := some ⟨wr.heap.size, 0, none⟩, nv := 1, cv := 1 })) (by decide) rfl
        have HO1 := hid (h9.alloc (.cells #[.int .i64 (-1)] 3))
        clear h9
        have B1 : Below wz.heap.size wz ((wr.setCell ⟨g, j * 17 + 9 + 3, none⟩ (.slice (some ⟨wr.heap.size, 0, none⟩) 1 1)).alloc (.cells #[.int .i64 (-1)] 3)) := (HB.out.setCell (by show _ ≤ g; exact hgz) _).alloc (by rw [size_set]; exact HB.out.size) _
        have HW1 : Hid (WArg ((wr.setCell ⟨g, j * 17 + 9 + 3, none⟩ (.slice (some ⟨wr.heap.size, 0, none⟩) 1 1)).alloc (.cells #[.int .i64 (-1)] 3)) (chg 3 (rl5 (nm5.getD j 0))).x ({ slN with av := some ⟨wr.heap.size, 0, none⟩, nv := 1, cv := 1 })) := ⟨larg_lit (l := [-1]) (m := 1) rfl hgw rfl (by omega) (by decide), larg0 _, larg0 _, larg0 _, chg_bnd (by omega) _⟩
        have HR1 := hid (wrong_row HO1.out HW1.out)
        obtain ⟨q0, q1, _⟩ := box_cells (box_below hbox B1 (by omega))
        have HL1 := hid ((hlk.below (B1.mono (by omega))).more (B' := ((wr.setCell ⟨g, j * 17 + 9 + 3, none⟩ (.slice (some ⟨wr.heap.size, 0, none⟩) 1 1)).alloc (.cells #[.int .i64 (-1)] 3)).heap.size) (by have := B1.size; omega))
        have HCc := hid (HCk.out ({ slN with av := some ⟨wr.heap.size, 0, none⟩, nv := 1, cv := 1 }) (by simp [slN]) _ (some ⟨w1.heap.size, 0, none⟩) (some ⟨g, 0, none⟩) cg HL1.out (by simp) HR1.out)
        clear HO1 HW1 HR1 HL1
        have HK : Hid (er14.getD 3 0 = 4) := rfl
        rw [HK.out] at HCc
        go_upto_region 32 with (first
          | (go_at_call 16; (with_reducible refine HCc.out.mono ?_); rintro e' w5 ⟨rfl, hb5⟩))
        have hb6 := B1.trans (hb5.mono B1.size)
        have hb7 := Hbz.out.trans (hb6.mono Hbz.out.size)
        clear ck fk q0 q1 ck2 fk2
        go_region_law (go_simp; go_at_call 18; (with_reducible refine (HN.out _ _).mono ?_); rintro _ _ ⟨rfl, rfl⟩)
        all_goals (go_wp2_with fail; go_ret; exact ⟨rfl, (hb7.alloc hb7.size _).drew⟩)
      · obtain rfl : x = 4 := by have := Hx.out; omega
        have HO0 : Hid ((wr.alloc (.cells #[.int .i64 (1)] 3)).ownsRow wz.heap.size 58 17 (.slice (some ⟨g, 0, none⟩) 5 cg) 5 (rrow b5)) := HO.out.alloc _
        have B0 : Below wz.heap.size wz (wr.alloc (.cells #[.int .i64 (1)] 3)) := HB.out.alloc HB.out.size _
        have ck := row_cell HO0.out (b5_at hj) (f := 14) rfl
        have fk : (wr.alloc (.cells #[.int .i64 (1)] 3)).frozen? ⟨g, j * 17 + 14, none⟩ = false := HO0.out.frozenAt (j * 17 + 14)
        have ck2 := row_cell HO.out (b5_at hj) (f := 14) rfl
        have fk2 : wr.frozen? ⟨g, j * 17 + 14, none⟩ = false := HO.out.frozenAt (j * 17 + 14)
        have h9 := row_put HO.out (b5_at hj) (f := 14) (u := .slice (some ⟨wr.heap.size, 0, none⟩) 1 1) (q' := (chg 4 (rl5 (nm5.getD j 0)), { slN with al := some ⟨wr.heap.size, 0, none⟩, nl := 1, cl := 1 })) (by decide) rfl
        have HO1 := hid (h9.alloc (.cells #[.int .i64 (1)] 3))
        clear h9
        have B1 : Below wz.heap.size wz ((wr.setCell ⟨g, j * 17 + 9 + 5, none⟩ (.slice (some ⟨wr.heap.size, 0, none⟩) 1 1)).alloc (.cells #[.int .i64 (1)] 3)) := (HB.out.setCell (by show _ ≤ g; exact hgz) _).alloc (by rw [size_set]; exact HB.out.size) _
        have HW1 : Hid (WArg ((wr.setCell ⟨g, j * 17 + 9 + 5, none⟩ (.slice (some ⟨wr.heap.size, 0, none⟩) 1 1)).alloc (.cells #[.int .i64 (1)] 3)) (chg 4 (rl5 (nm5.getD j 0))).x ({ slN with al := some ⟨wr.heap.size, 0, none⟩, nl := 1, cl := 1 })) := ⟨larg0 _, larg0 _, larg_lit (l := [1]) (m := 1) rfl hgw rfl (by omega) (by decide), larg0 _, chg_bnd (by omega) _⟩
        have HR1 := hid (wrong_row HO1.out HW1.out)
        obtain ⟨q0, q1, _⟩ := box_cells (box_below hbox B1 (by omega))
        have HL1 := hid ((hlk.below (B1.mono (by omega))).more (B' := ((wr.setCell ⟨g, j * 17 + 9 + 5, none⟩ (.slice (some ⟨wr.heap.size, 0, none⟩) 1 1)).alloc (.cells #[.int .i64 (1)] 3)).heap.size) (by have := B1.size; omega))
        have HCc := hid (HCk.out ({ slN with al := some ⟨wr.heap.size, 0, none⟩, nl := 1, cl := 1 }) (by simp [slN]) _ (some ⟨w1.heap.size, 0, none⟩) (some ⟨g, 0, none⟩) cg HL1.out (by simp) HR1.out)
        clear HO1 HW1 HR1 HL1
        have HK : Hid (er14.getD 4 0 = 5) := rfl
        rw [HK.out] at HCc
        go_upto_region 32 with (first
          | (go_at_call 16; (with_reducible refine HCc.out.mono ?_); rintro e' w5 ⟨rfl, hb5⟩))
        have hb6 := B1.trans (hb5.mono B1.size)
        have hb7 := Hbz.out.trans (hb6.mono Hbz.out.size)
        clear ck fk q0 q1 ck2 fk2
        go_region_law (go_simp; go_at_call 18; (with_reducible refine (HN.out _ _).mono ?_); rintro _ _ ⟨rfl, rfl⟩)
        all_goals (go_wp2_with fail; go_ret; exact ⟨rfl, (hb7.alloc hb7.size _).drew⟩)
end Go.Proofs.Ythoblabimkfjpaa
