/- The reference's At. -/
import Derived.Test.YthoblabimkfjpaaSoG
import Derived.Test.YthoblabimkfjpaaWdD
import Derived.Test.YthoblabimkfjpaaRuB
import Derived.Deep.RegionHeld3
namespace Go.Proofs.Ythoblabimkfjpaa
open Go.RowKit
set_option maxHeartbeats 12800000
set_option maxRecDepth 100000
theorem refAt_any (A : Option Addr) (n c : Nat) (qs : List (Rul × WSl)) (node : Int) (w : World) (h : RRul w A n c qs) (hn : n ≤ 1000) :
    Calls Try.prog 21 #[.slice A n c, .int .i64 node] w fun e w' => ∃ A' c', e = .returned (.slice A' (atQ node qs).length c') ∧ RRul w' A' (atQ node qs).length c' (atQ node qs) ∧ Below w.heap.size w w' := by
  have HH := hid h
  have Hlen := hid h.len
  obtain ⟨i5, hi5, hz0, hz1, hz2⟩ := info_parts (show (Try.prog.info? 58).map (fun i => (i.zero, i.size, i.bytes)) = some (some (.agg #[.string ⟨#[]⟩, .int .i64 0, .int .u32 0, .int .i64 0, .int .u32 0, .int .i64 0, .int .i64 0, .int .i64 0, .int .i64 0, .int .i64 0, .int .i64 0, .int .i64 0, .slice none 0 0, .slice none 0 0, .slice none 0 0, .slice none 0 0, .bool false]), 17, 208) by kernel_rfl)
  have Ai := hid hi5; have Az0 := hid hz0; have Az1 := hid hz1; have Az2 := hid hz2
  clear h hi5 hz0 hz1 hz2
  go_enter Try.func21, Try.ntmps21
  go_wp2_with fail
  go_loopw [5, 6, 7] (fun ov iv _ wr => ∃ i : Nat, i ≤ n ∧ iv = .int .i64 i ∧ Hid (ASt w ov (atQ node (qs.take i)) wr)) (fun _ iv _ _ => n - (intOf iv).toNat)
  case atStart => exact ⟨0, Nat.zero_le _, rfl, Below.refl _ _, World.ownsRow_nil _ _ _ _, fun _ => rfl⟩
  case round =>
    obtain ⟨i, hi, rfl, HSt⟩ := hrel
    by_cases hlt : i < n
    · obtain ⟨⟨r, y⟩, hq⟩ : ∃ q, qs[i]? = some q := ⟨qs[i]'(by rw [Hlen.out]; exact hlt), List.getElem?_eq_getElem _⟩
      have hRr := HH.out.on HSt.out.bel
      obtain ⟨b, off, rfl, hbb, hc⟩ := hRr.row (by omega)
      have kl : (i : Int) < (n : Int) := by omega
      have zf : wr.cell? ⟨b, off + i * 17 + 9, none⟩ = some (.int .i64 r.x.frm) := hc i _ 9 _ hq rfl
      have zp : wr.cell? ⟨b, off + i * 17 + 1, none⟩ = some (.int .i64 r.pri) := hc i _ 1 _ hq rfl
      have hsn := atQ_snoc node (qs.take i) (r, y)
      rw [show qs.take i ++ [(r, y)] = qs.take (i + 1) by rw [List.take_add_one, hq]; rfl] at hsn
      have Hsn := hid hsn
      have hlen := atQ_len node (qs.take i)
      rw [List.length_take] at hlen
      obtain ⟨out, hout⟩ : ∃ out, atQ node (qs.take i) = out := ⟨_, rfl⟩
      rw [hout] at HSt Hsn hlen
      clear hsn hout
      by_cases hf : r.x.frm = node
      · have t1 : (r.x.frm != node) = false := by simpa using hf
        have Hf := hid hf
        clear hf
        obtain ⟨m, hm⟩ : ∃ m, out.length = m := ⟨_, rfl⟩
        obtain ⟨Ao, co, ho⟩ := own_form HSt.out.own
        rw [hm] at ho hlen
        have Hm := hid hm
        have Hrow := hid hc
        have Hq := hid hq
        have HK0 : Hid (downK out r.pri m = downK out r.pri out.length) := by rw [hm]; exact rfl
        subst ho
        clear hm hq hRr hc
        go_upto_region 7 with fail
        obtain ⟨wo, hwo⟩ : ∃ wo, wo = wr := ⟨_, rfl⟩
        subst hwo
        go_loopw [7] (fun kv wx => ∃ (k : Nat), k ≤ m ∧ kv = .int .i64 k ∧ Hid (downK out r.pri k = downK out r.pri out.length) ∧ Hid (ASt w (.slice Ao m co) out wx) ∧ Hid (Below wo.heap.size wo wx)) (fun kv _ => (intOf kv).toNat)
        case atStart => exact ⟨m, Nat.le_refl _, rfl, HK0, HSt, Below.refl _ _⟩
        case round =>
          obtain ⟨k, hk, rfl, HK, HSx, HBx⟩ := hrel
          have zp2 : wr.cell? ⟨b, off + i * 17 + 1, none⟩ = some (.int .i64 r.pri) := (HBx.out.cell (p := ⟨b, off + i * 17 + 1, none⟩) hbb).trans zp
          by_cases hk0 : k = 0
          · have t2 : decide ((0 : Int) < (k : Int)) = false := by simp; omega
            have t2n : decide (0 < k) = false := by simp; omega
            have HKd : Hid (downK out r.pri out.length = k) := by
              show _ = _
              rw [← HK.out, hk0]; rfl
            clear HK hk0
            go_wp2_with fail
            go_big_quiet (fail)
            obtain ⟨wv, hwv⟩ : ∃ wv, wr.drewN nq = wv := ⟨_, rfl⟩
            have HSv : Hid (ASt w (.slice Ao m co) out wv) := by rw [← hwv]; exact HSx.out.drewN nq
            have HBv : Hid (Below wo.heap.size wo wv) := by rw [← hwv]; exact below_drewN HBx.out
            rw [hwv]
            clear hwv HSx HBx zp2 zp zf t2 t2n
            have HZ : Hid (∀ w', Below wv.heap.size wv w' → w'.cell? ⟨b, off + i * 17, none⟩ = some (.string (txt r.name)) ∧ w'.cell? ⟨b, off + i * 17 + 1, none⟩ = some (.int .i64 r.pri) ∧ w'.cell? ⟨b, off + i * 17 + 2, none⟩ = some (.int .u32 (r.m.sa : Int)) ∧ w'.cell? ⟨b, off + i * 17 + 3, none⟩ = some (.int .i64 r.m.sl) ∧ w'.cell? ⟨b, off + i * 17 + 4, none⟩ = some (.int .u32 (r.m.da : Int)) ∧ w'.cell? ⟨b, off + i * 17 + 5, none⟩ = some (.int .i64 r.m.dl) ∧ w'.cell? ⟨b, off + i * 17 + 6, none⟩ = some (.int .i64 r.m.pr) ∧ w'.cell? ⟨b, off + i * 17 + 7, none⟩ = some (.int .i64 r.m.sp) ∧ w'.cell? ⟨b, off + i * 17 + 8, none⟩ = some (.int .i64 r.m.dp) ∧ w'.cell? ⟨b, off + i * 17 + 9, none⟩ = some (.int .i64 r.x.frm) ∧ w'.cell? ⟨b, off + i * 17 + 10, none⟩ = some (.int .i64 r.x.too) ∧ w'.cell? ⟨b, off + i * 17 + 11, none⟩ = some (.int .i64 r.x.bnd) ∧ w'.cell? ⟨b, off + i * 17 + 12, none⟩ = some (.slice y.av y.nv y.cv) ∧ w'.cell? ⟨b, off + i * 17 + 13, none⟩ = some (.slice y.an y.nn y.cn) ∧ w'.cell? ⟨b, off + i * 17 + 14, none⟩ = some (.slice y.al y.nl y.cl) ∧ w'.cell? ⟨b, off + i * 17 + 15, none⟩ = some (.slice y.ac y.nc y.cc) ∧ w'.cell? ⟨b, off + i * 17 + 16, none⟩ = some (.bool r.strict)) := by
              intro w' hb
              have hbw := HBv.out.trans (hb.mono HBv.out.size)
              have g : ∀ (j : Nat) (v : Value), (rarr r y)[j]? = some v → w'.cell? ⟨b, off + i * 17 + j, none⟩ = some v := fun j v hv => (hbw.cell (p := ⟨b, off + i * 17 + j, none⟩) hbb).trans (Hrow.out i _ j v Hq.out hv)
              exact ⟨g 0 _ rfl, g 1 _ rfl, g 2 _ rfl, g 3 _ rfl, g 4 _ rfl, g 5 _ rfl, g 6 _ rfl, g 7 _ rfl, g 8 _ rfl, g 9 _ rfl, g 10 _ rfl, g 11 _ rfl, g 12 _ rfl, g 13 _ rfl, g 14 _ rfl, g 15 _ rfl, g 16 _ rfl⟩
            have sD := HZ.out wv.drew (Below.drew (Below.refl _ _))
            obtain ⟨z0, z1, z2, z3, z4, z5, z6, z7, z8, z9, z10, z11, z12, z13, z14, z15, z16⟩ := sD
            obtain ⟨Ax, cx, GA, GX, HUp, HFr, F1', F3'⟩ := HSv.out.parts Ai.out Az1.out Hm.out hk
            have F1 := hid F1'; have F3 := hid F3'
            clear F1' F3'
            have L1 : (rrow (out.take k)).length = k * 17 := by rw [rrow_len, List.length_take, Hm.out, Nat.min_eq_left hk]
            have L3 : (rrow (out.drop k)).length = (m - k) * 17 := by rw [rrow_len, List.length_drop, Hm.out]
            have Bd0 : Below wv.heap.size wv wv.drew := Below.drew (Below.refl _ _)
            have Bd1 : Below wv.heap.size wv (wv.alloc (.cells #[.string (txt r.name), .int .i64 r.pri, .int .u32 (r.m.sa : Int), .int .i64 r.m.sl, .int .u32 (r.m.da : Int), .int .i64 r.m.dl, .int .i64 r.m.pr, .int .i64 r.m.sp, .int .i64 r.m.dp, .int .i64 r.x.frm, .int .i64 r.x.too, .int .i64 r.x.bnd, .slice y.av y.nv y.cv, .slice y.an y.nn y.cn, .slice y.al y.nl y.cl, .slice y.ac y.nc y.cc, .bool r.strict] 58)).drew := Below.drew ((Below.refl _ _).alloc (Nat.le_refl _) _)
            have sB := HZ.out _ Bd1
            have FL : Hid (∀ w', Below (wv.alloc (.cells #[.string (txt r.name), .int .i64 r.pri, .int .u32 (r.m.sa : Int), .int .i64 r.m.sl, .int .u32 (r.m.da : Int), .int .i64 r.m.dl, .int .i64 r.m.pr, .int .i64 r.m.sp, .int .i64 r.m.dp, .int .i64 r.x.frm, .int .i64 r.x.too, .int .i64 r.x.bnd, .slice y.av y.nv y.cv, .slice y.an y.nn y.cn, .slice y.al y.nl y.cl, .slice y.ac y.nc y.cc, .bool r.strict] 58)).heap.size (wv.alloc (.cells #[.string (txt r.name), .int .i64 r.pri, .int .u32 (r.m.sa : Int), .int .i64 r.m.sl, .int .u32 (r.m.da : Int), .int .i64 r.m.dl, .int .i64 r.m.pr, .int .i64 r.m.sp, .int .i64 r.m.dp, .int .i64 r.x.frm, .int .i64 r.x.too, .int .i64 r.x.bnd, .slice y.av y.nv y.cv, .slice y.an y.nn y.cn, .slice y.al y.nl y.cl, .slice y.ac y.nc y.cc, .bool r.strict] 58)) w' → ∀ (j : Nat) (u : Value), (rarr r y).toList[j]? = some u → w'.cell? ((⟨wv.heap.size, 0, none⟩ : Addr).add j) = some u) := by
              intro w' hb j u hj
              rw [Go.WideShapes.add_plain]
              have h6 := new_row (w := wv) (xs := (rarr r y).toList) (cs := rarr r y) (t := 58) rfl j u hj
              rw [Go.WideShapes.add_plain] at h6
              exact (hb.cell (p := ⟨wv.heap.size, 0 + j, none⟩) (by rw [size_alloc_eq]; exact Nat.lt_succ_self _)).trans h6
            go_wp2_with fail
            go_region_held3 (fun w' => w'.cell? ⟨b, off + i * 17, none⟩ = some (.string (txt r.name)) ∧ w'.cell? ⟨b, off + i * 17 + 1, none⟩ = some (.int .i64 r.pri) ∧ w'.cell? ⟨b, off + i * 17 + 2, none⟩ = some (.int .u32 (r.m.sa : Int)) ∧ w'.cell? ⟨b, off + i * 17 + 3, none⟩ = some (.int .i64 r.m.sl) ∧ w'.cell? ⟨b, off + i * 17 + 4, none⟩ = some (.int .u32 (r.m.da : Int)) ∧ w'.cell? ⟨b, off + i * 17 + 5, none⟩ = some (.int .i64 r.m.dl) ∧ w'.cell? ⟨b, off + i * 17 + 6, none⟩ = some (.int .i64 r.m.pr) ∧ w'.cell? ⟨b, off + i * 17 + 7, none⟩ = some (.int .i64 r.m.sp) ∧ w'.cell? ⟨b, off + i * 17 + 8, none⟩ = some (.int .i64 r.m.dp) ∧ w'.cell? ⟨b, off + i * 17 + 9, none⟩ = some (.int .i64 r.x.frm) ∧ w'.cell? ⟨b, off + i * 17 + 10, none⟩ = some (.int .i64 r.x.too) ∧ w'.cell? ⟨b, off + i * 17 + 11, none⟩ = some (.int .i64 r.x.bnd) ∧ w'.cell? ⟨b, off + i * 17 + 12, none⟩ = some (.slice y.av y.nv y.cv) ∧ w'.cell? ⟨b, off + i * 17 + 13, none⟩ = some (.slice y.an y.nn y.cn) ∧ w'.cell? ⟨b, off + i * 17 + 14, none⟩ = some (.slice y.al y.nl y.cl) ∧ w'.cell? ⟨b, off + i * 17 + 15, none⟩ = some (.slice y.ac y.nc y.cc) ∧ w'.cell? ⟨b, off + i * 17 + 16, none⟩ = some (.bool r.strict))
            (first
              | go_keep
              | exact sB
              | exact HZ.out _ (B5.alloc B5.size _)
              | exact s7
              | exact s6
              | exact s5)
            (first
              | ((refine step_copy_any (by rfl) (.const (.slice none 0 0)) (.tmp 44) 40 (by rfl) wv.heap.size 58 i5 (.agg #[.string ⟨#[]⟩, .int .i64 0, .int .u32 0, .int .i64 0, .int .u32 0, .int .i64 0, .int .i64 0, .int .i64 0, .int .i64 0, .int .i64 0, .int .i64 0, .int .i64 0, .slice none 0 0, .slice none 0 0, .slice none 0 0, .slice none 0 0, .bool false]) 17 208 Try.underlying40 Ai.out Az0.out Az1.out Az2.out rfl (by decide) (by rfl) Ao k co (rrow (out.take k)) (by go_simp) GA L1 (fun ad had => by first | exact F1.out _ Bd0 ad had | exact F1.out _ Bd1 ad had) (rrow_cells_one _) (by unfold maxLen; omega) (by omega) (by first | exact Nat.le_refl _ | (simp; done)) ?_; intro D5 c5 w5 hown5 hb5; have B5 : Below wv.heap.size wv w5 := (by first | exact Bd0.trans (hb5.mono Bd0.size) | exact Bd1.trans (hb5.mono Bd1.size)); have HO5 := hid hown5; have HB5 := hid hb5; have s5 := HZ.out w5 B5; clear hown5))
              | ((refine step_append_some (by rfl) (.tmp 45) (.tmp 50) 40 (by rfl) wv.heap.size 58 i5 (.agg #[.string ⟨#[]⟩, .int .i64 0, .int .u32 0, .int .i64 0, .int .u32 0, .int .i64 0, .int .i64 0, .int .i64 0, .int .i64 0, .int .i64 0, .int .i64 0, .int .i64 0, .slice none 0 0, .slice none 0 0, .slice none 0 0, .slice none 0 0, .bool false]) 17 208 Try.underlying40 Ai.out Az0.out Az1.out Az2.out rfl (by decide) (.slice D5 k c5) k (rrow (out.take k)) (by go_simp) (HO5.out.alloc _) ⟨w5.heap.size, 0, none⟩ 1 1 (rarr r y).toList (by go_simp) (by rfl) (new_row (by rfl)) (by simp [rarr, Value.oneCell']) (by unfold maxLen; omega) (by omega) (by have := B5.size; simp; omega) ?_; intro D6 c6 w6 hown6 hg6; have B6 : Below wv.heap.size wv w6 := Below.grown (B5.alloc B5.size _) hg6 (by have := B5.size; simp; omega) (fun q hq => (HO5.out.lt q hq).1); have HO6 := hid hown6; have s6 := HZ.out w6 B6; clear hown6 hg6))
              | ((refine step_append_some (by rfl) (.tmp 45) (.tmp 50) 40 (by rfl) wv.heap.size 58 i5 (.agg #[.string ⟨#[]⟩, .int .i64 0, .int .u32 0, .int .i64 0, .int .u32 0, .int .i64 0, .int .i64 0, .int .i64 0, .int .i64 0, .int .i64 0, .int .i64 0, .int .i64 0, .slice none 0 0, .slice none 0 0, .slice none 0 0, .slice none 0 0, .bool false]) 17 208 Try.underlying40 Ai.out Az0.out Az1.out Az2.out rfl (by decide) (.slice D5 k c5) k (rrow (out.take k)) (by go_simp) HO5.out ⟨wv.heap.size, 0, none⟩ 1 1 (rarr r y).toList (by go_simp) (by rfl) (FL.out w5 ((Below.drew (Below.refl _ _)).trans HB5.out)) (by simp [rarr, Value.oneCell']) (by unfold maxLen; omega) (by omega) B5.size ?_; intro D6 c6 w6 hown6 hg6; have B6 : Below wv.heap.size wv w6 := Below.grown B5 hg6 B5.size (fun q hq => (HO5.out.lt q hq).1); have HO6 := hid hown6; have s6 := HZ.out w6 B6; clear hown6 hg6))
              | ((refine step_append_opt (by rfl) (.tmp 51) (.tmp 54) 40 (by rfl) wv.heap.size 58 i5 (.agg #[.string ⟨#[]⟩, .int .i64 0, .int .u32 0, .int .i64 0, .int .u32 0, .int .i64 0, .int .i64 0, .int .i64 0, .int .i64 0, .int .i64 0, .int .i64 0, .int .i64 0, .slice none 0 0, .slice none 0 0, .slice none 0 0, .slice none 0 0, .bool false]) 17 208 Try.underlying40 Ai.out Az0.out Az1.out Az2.out rfl (by decide) D6 c6 (k + 1) (rrow (out.take k) ++ (rarr r y).toList) (by go_simp) HO6.out Ax (m - k) cx (rrow (out.drop k)) (by go_simp) GX L3 (F3.out _ B6) (rrow_cells_one _) (by unfold maxLen; omega) (by omega) B6.size ?_; intro D7 c7 w7 hown7 hg7; have B7 : Below wv.heap.size wv w7 := Below.grown B6 hg7 B6.size (fun q hq => (HO6.out.lt q hq).1); have HO7 := hid hown7; have s7 := HZ.out w7 B7; clear hown7 hg7)))
            all_goals
              have HS7 : Hid (ASt w (.slice D7 (k + 1 + (m - k)) c7) (atQ node (qs.take (i + 1))) w7) := by
                have h7 := HSv.out.put Hm.out hk HKd.out B7 rfl HO7.out
                rw [Hsn.out, if_pos Hf.out]; exact h7
              clear HO7 HO6 HO5
              go_wp2_with fail
              go_roundw
              case rel => exact ⟨i + 1, by omega, by go_num, HS7⟩
              case measure => simp [intOf]; omega
          · obtain ⟨k', hk'⟩ : ∃ k', k = k' + 1 := ⟨k - 1, by omega⟩
            have t2 : decide ((0 : Int) < (k : Int)) = true := by simp; omega
            have t2n : decide (0 < k) = true := by simp; omega
            have e1 : IntKind.i64.wrap ((k : Int) - 1) = (k' : Int) := by rw [IntKind.wrap_i64]; omega
            have hlo : 0 < out.length := by rw [Hm.out]; omega
            obtain ⟨bo, co', hsh, hbo, hbw, hmc⟩ := HSx.out.shape hlo
            simp only [Value.slice.injEq] at hsh
            obtain ⟨rfl, hmm, rfl⟩ := hsh
            clear hmm
            have hmco : m ≤ co := by rw [← Hm.out]; exact hmc
            obtain ⟨⟨rk, yk⟩, hqk⟩ : ∃ q, out[k']? = some q := ⟨out[k']'(by rw [Hm.out]; omega), List.getElem?_eq_getElem _⟩
            have ck := HSx.out.cell hqk (j := 1) (x := .int .i64 rk.pri) rfl
            have k'm : (k' : Int) < (m : Int) := by omega
            by_cases hlt2 : rk.pri < r.pri
            · have t3 : decide (rk.pri < r.pri) = true := by simpa using hlt2
              have HK2 : Hid (downK out r.pri k' = downK out r.pri out.length) := by
                show _ = _
                rw [← HK.out, hk', downK_on hqk hlt2]
              have Hk' := hid hk'
              clear hk' hlt2 hqk hlo
              go_wp2_with fail
              go_big_quiet (fail)
              go_wp2_with fail
              go_roundw
              case rel => exact ⟨k', by have := Hk'.out; omega, by go_num, HK2, HSx.out.drewN _, below_drewN HBx.out⟩
              case measure => have := Hk'.out; simp [intOf]; omega
            · have t3 : decide (rk.pri < r.pri) = false := by simpa using hlt2
              have HKd : Hid (downK out r.pri out.length = k) := by
                show _ = _
                rw [← HK.out, hk', downK_off hqk hlt2]
              have Hk' := hid hk'
              clear hk' hlt2 hqk hlo HK
              go_wp2_with fail
              go_big_quiet (fail)
              obtain ⟨wv, hwv⟩ : ∃ wv, wr.drewN nq = wv := ⟨_, rfl⟩
              have HSv : Hid (ASt w (.slice (some ⟨bo, 0, none⟩) m co) out wv) := by rw [← hwv]; exact HSx.out.drewN nq
              have HBv : Hid (Below wo.heap.size wo wv) := by rw [← hwv]; exact below_drewN HBx.out
              rw [hwv]
              clear hwv HSx HBx ck zp2 zp zf t3 t2 t2n e1
              have HZ : Hid (∀ w', Below wv.heap.size wv w' → w'.cell? ⟨b, off + i * 17, none⟩ = some (.string (txt r.name)) ∧ w'.cell? ⟨b, off + i * 17 + 1, none⟩ = some (.int .i64 r.pri) ∧ w'.cell? ⟨b, off + i * 17 + 2, none⟩ = some (.int .u32 (r.m.sa : Int)) ∧ w'.cell? ⟨b, off + i * 17 + 3, none⟩ = some (.int .i64 r.m.sl) ∧ w'.cell? ⟨b, off + i * 17 + 4, none⟩ = some (.int .u32 (r.m.da : Int)) ∧ w'.cell? ⟨b, off + i * 17 + 5, none⟩ = some (.int .i64 r.m.dl) ∧ w'.cell? ⟨b, off + i * 17 + 6, none⟩ = some (.int .i64 r.m.pr) ∧ w'.cell? ⟨b, off + i * 17 + 7, none⟩ = some (.int .i64 r.m.sp) ∧ w'.cell? ⟨b, off + i * 17 + 8, none⟩ = some (.int .i64 r.m.dp) ∧ w'.cell? ⟨b, off + i * 17 + 9, none⟩ = some (.int .i64 r.x.frm) ∧ w'.cell? ⟨b, off + i * 17 + 10, none⟩ = some (.int .i64 r.x.too) ∧ w'.cell? ⟨b, off + i * 17 + 11, none⟩ = some (.int .i64 r.x.bnd) ∧ w'.cell? ⟨b, off + i * 17 + 12, none⟩ = some (.slice y.av y.nv y.cv) ∧ w'.cell? ⟨b, off + i * 17 + 13, none⟩ = some (.slice y.an y.nn y.cn) ∧ w'.cell? ⟨b, off + i * 17 + 14, none⟩ = some (.slice y.al y.nl y.cl) ∧ w'.cell? ⟨b, off + i * 17 + 15, none⟩ = some (.slice y.ac y.nc y.cc) ∧ w'.cell? ⟨b, off + i * 17 + 16, none⟩ = some (.bool r.strict)) := by
                intro w' hb
                have hbw := HBv.out.trans (hb.mono HBv.out.size)
                have g : ∀ (j : Nat) (v : Value), (rarr r y)[j]? = some v → w'.cell? ⟨b, off + i * 17 + j, none⟩ = some v := fun j v hv => (hbw.cell (p := ⟨b, off + i * 17 + j, none⟩) hbb).trans (Hrow.out i _ j v Hq.out hv)
                exact ⟨g 0 _ rfl, g 1 _ rfl, g 2 _ rfl, g 3 _ rfl, g 4 _ rfl, g 5 _ rfl, g 6 _ rfl, g 7 _ rfl, g 8 _ rfl, g 9 _ rfl, g 10 _ rfl, g 11 _ rfl, g 12 _ rfl, g 13 _ rfl, g 14 _ rfl, g 15 _ rfl, g 16 _ rfl⟩
              have sD := HZ.out wv.drew (Below.drew (Below.refl _ _))
              obtain ⟨z0, z1, z2, z3, z4, z5, z6, z7, z8, z9, z10, z11, z12, z13, z14, z15, z16⟩ := sD
              obtain ⟨Ax, cx, GA, GX, HUp, HFr, F1', F3'⟩ := HSv.out.parts Ai.out Az1.out Hm.out hk
              have F1 := hid F1'; have F3 := hid F3'
              clear F1' F3'
              have L1 : (rrow (out.take k)).length = k * 17 := by rw [rrow_len, List.length_take, Hm.out, Nat.min_eq_left hk]
              have L3 : (rrow (out.drop k)).length = (m - k) * 17 := by rw [rrow_len, List.length_drop, Hm.out]
              have Bd0 : Below wv.heap.size wv wv.drew := Below.drew (Below.refl _ _)
              have Bd1 : Below wv.heap.size wv (wv.alloc (.cells #[.string (txt r.name), .int .i64 r.pri, .int .u32 (r.m.sa : Int), .int .i64 r.m.sl, .int .u32 (r.m.da : Int), .int .i64 r.m.dl, .int .i64 r.m.pr, .int .i64 r.m.sp, .int .i64 r.m.dp, .int .i64 r.x.frm, .int .i64 r.x.too, .int .i64 r.x.bnd, .slice y.av y.nv y.cv, .slice y.an y.nn y.cn, .slice y.al y.nl y.cl, .slice y.ac y.nc y.cc, .bool r.strict] 58)).drew := Below.drew ((Below.refl _ _).alloc (Nat.le_refl _) _)
              have sB := HZ.out _ Bd1
              have FL : Hid (∀ w', Below (wv.alloc (.cells #[.string (txt r.name), .int .i64 r.pri, .int .u32 (r.m.sa : Int), .int .i64 r.m.sl, .int .u32 (r.m.da : Int), .int .i64 r.m.dl, .int .i64 r.m.pr, .int .i64 r.m.sp, .int .i64 r.m.dp, .int .i64 r.x.frm, .int .i64 r.x.too, .int .i64 r.x.bnd, .slice y.av y.nv y.cv, .slice y.an y.nn y.cn, .slice y.al y.nl y.cl, .slice y.ac y.nc y.cc, .bool r.strict] 58)).heap.size (wv.alloc (.cells #[.string (txt r.name), .int .i64 r.pri, .int .u32 (r.m.sa : Int), .int .i64 r.m.sl, .int .u32 (r.m.da : Int), .int .i64 r.m.dl, .int .i64 r.m.pr, .int .i64 r.m.sp, .int .i64 r.m.dp, .int .i64 r.x.frm, .int .i64 r.x.too, .int .i64 r.x.bnd, .slice y.av y.nv y.cv, .slice y.an y.nn y.cn, .slice y.al y.nl y.cl, .slice y.ac y.nc y.cc, .bool r.strict] 58)) w' → ∀ (j : Nat) (u : Value), (rarr r y).toList[j]? = some u → w'.cell? ((⟨wv.heap.size, 0, none⟩ : Addr).add j) = some u) := by
                intro w' hb j u hj
                rw [Go.WideShapes.add_plain]
                have h6 := new_row (w := wv) (xs := (rarr r y).toList) (cs := rarr r y) (t := 58) rfl j u hj
                rw [Go.WideShapes.add_plain] at h6
                exact (hb.cell (p := ⟨wv.heap.size, 0 + j, none⟩) (by rw [size_alloc_eq]; exact Nat.lt_succ_self _)).trans h6
              go_wp2_with fail
              go_region_held3 (fun w' => w'.cell? ⟨b, off + i * 17, none⟩ = some (.string (txt r.name)) ∧ w'.cell? ⟨b, off + i * 17 + 1, none⟩ = some (.int .i64 r.pri) ∧ w'.cell? ⟨b, off + i * 17 + 2, none⟩ = some (.int .u32 (r.m.sa : Int)) ∧ w'.cell? ⟨b, off + i * 17 + 3, none⟩ = some (.int .i64 r.m.sl) ∧ w'.cell? ⟨b, off + i * 17 + 4, none⟩ = some (.int .u32 (r.m.da : Int)) ∧ w'.cell? ⟨b, off + i * 17 + 5, none⟩ = some (.int .i64 r.m.dl) ∧ w'.cell? ⟨b, off + i * 17 + 6, none⟩ = some (.int .i64 r.m.pr) ∧ w'.cell? ⟨b, off + i * 17 + 7, none⟩ = some (.int .i64 r.m.sp) ∧ w'.cell? ⟨b, off + i * 17 + 8, none⟩ = some (.int .i64 r.m.dp) ∧ w'.cell? ⟨b, off + i * 17 + 9, none⟩ = some (.int .i64 r.x.frm) ∧ w'.cell? ⟨b, off + i * 17 + 10, none⟩ = some (.int .i64 r.x.too) ∧ w'.cell? ⟨b, off + i * 17 + 11, none⟩ = some (.int .i64 r.x.bnd) ∧ w'.cell? ⟨b, off + i * 17 + 12, none⟩ = some (.slice y.av y.nv y.cv) ∧ w'.cell? ⟨b, off + i * 17 + 13, none⟩ = some (.slice y.an y.nn y.cn) ∧ w'.cell? ⟨b, off + i * 17 + 14, none⟩ = some (.slice y.al y.nl y.cl) ∧ w'.cell? ⟨b, off + i * 17 + 15, none⟩ = some (.slice y.ac y.nc y.cc) ∧ w'.cell? ⟨b, off + i * 17 + 16, none⟩ = some (.bool r.strict))
              (first
                | go_keep
                | exact sB
                | exact HZ.out _ (B5.alloc B5.size _)
                | exact s7
                | exact s6
                | exact s5)
              (first
                | ((refine step_copy_any (by rfl) (.const (.slice none 0 0)) (.tmp 44) 40 (by rfl) wv.heap.size 58 i5 (.agg #[.string ⟨#[]⟩, .int .i64 0, .int .u32 0, .int .i64 0, .int .u32 0, .int .i64 0, .int .i64 0, .int .i64 0, .int .i64 0, .int .i64 0, .int .i64 0, .int .i64 0, .slice none 0 0, .slice none 0 0, .slice none 0 0, .slice none 0 0, .bool false]) 17 208 Try.underlying40 Ai.out Az0.out Az1.out Az2.out rfl (by decide) (by rfl) (some ⟨bo, 0, none⟩) k co (rrow (out.take k)) (by go_simp) GA L1 (fun ad had => by first | exact F1.out _ Bd0 ad had | exact F1.out _ Bd1 ad had) (rrow_cells_one _) (by unfold maxLen; omega) (by omega) (by first | exact Nat.le_refl _ | (simp; done)) ?_; intro D5 c5 w5 hown5 hb5; have B5 : Below wv.heap.size wv w5 := (by first | exact Bd0.trans (hb5.mono Bd0.size) | exact Bd1.trans (hb5.mono Bd1.size)); have HO5 := hid hown5; have HB5 := hid hb5; have s5 := HZ.out w5 B5; clear hown5))
                | ((refine step_append_some (by rfl) (.tmp 45) (.tmp 50) 40 (by rfl) wv.heap.size 58 i5 (.agg #[.string ⟨#[]⟩, .int .i64 0, .int .u32 0, .int .i64 0, .int .u32 0, .int .i64 0, .int .i64 0, .int .i64 0, .int .i64 0, .int .i64 0, .int .i64 0, .int .i64 0, .slice none 0 0, .slice none 0 0, .slice none 0 0, .slice none 0 0, .bool false]) 17 208 Try.underlying40 Ai.out Az0.out Az1.out Az2.out rfl (by decide) (.slice D5 k c5) k (rrow (out.take k)) (by go_simp) (HO5.out.alloc _) ⟨w5.heap.size, 0, none⟩ 1 1 (rarr r y).toList (by go_simp) (by rfl) (new_row (by rfl)) (by simp [rarr, Value.oneCell']) (by unfold maxLen; omega) (by omega) (by have := B5.size; simp; omega) ?_; intro D6 c6 w6 hown6 hg6; have B6 : Below wv.heap.size wv w6 := Below.grown (B5.alloc B5.size _) hg6 (by have := B5.size; simp; omega) (fun q hq => (HO5.out.lt q hq).1); have HO6 := hid hown6; have s6 := HZ.out w6 B6; clear hown6 hg6))
                | ((refine step_append_some (by rfl) (.tmp 45) (.tmp 50) 40 (by rfl) wv.heap.size 58 i5 (.agg #[.string ⟨#[]⟩, .int .i64 0, .int .u32 0, .int .i64 0, .int .u32 0, .int .i64 0, .int .i64 0, .int .i64 0, .int .i64 0, .int .i64 0, .int .i64 0, .int .i64 0, .slice none 0 0, .slice none 0 0, .slice none 0 0, .slice none 0 0, .bool false]) 17 208 Try.underlying40 Ai.out Az0.out Az1.out Az2.out rfl (by decide) (.slice D5 k c5) k (rrow (out.take k)) (by go_simp) HO5.out ⟨wv.heap.size, 0, none⟩ 1 1 (rarr r y).toList (by go_simp) (by rfl) (FL.out w5 ((Below.drew (Below.refl _ _)).trans HB5.out)) (by simp [rarr, Value.oneCell']) (by unfold maxLen; omega) (by omega) B5.size ?_; intro D6 c6 w6 hown6 hg6; have B6 : Below wv.heap.size wv w6 := Below.grown B5 hg6 B5.size (fun q hq => (HO5.out.lt q hq).1); have HO6 := hid hown6; have s6 := HZ.out w6 B6; clear hown6 hg6))
                | ((refine step_append_opt (by rfl) (.tmp 51) (.tmp 54) 40 (by rfl) wv.heap.size 58 i5 (.agg #[.string ⟨#[]⟩, .int .i64 0, .int .u32 0, .int .i64 0, .int .u32 0, .int .i64 0, .int .i64 0, .int .i64 0, .int .i64 0, .int .i64 0, .int .i64 0, .int .i64 0, .slice none 0 0, .slice none 0 0, .slice none 0 0, .slice none 0 0, .bool false]) 17 208 Try.underlying40 Ai.out Az0.out Az1.out Az2.out rfl (by decide) D6 c6 (k + 1) (rrow (out.take k) ++ (rarr r y).toList) (by go_simp) HO6.out Ax (m - k) cx (rrow (out.drop k)) (by go_simp) GX L3 (F3.out _ B6) (rrow_cells_one _) (by unfold maxLen; omega) (by omega) B6.size ?_; intro D7 c7 w7 hown7 hg7; have B7 : Below wv.heap.size wv w7 := Below.grown B6 hg7 B6.size (fun q hq => (HO6.out.lt q hq).1); have HO7 := hid hown7; have s7 := HZ.out w7 B7; clear hown7 hg7)))
              all_goals
                have HS7 : Hid (ASt w (.slice D7 (k + 1 + (m - k)) c7) (atQ node (qs.take (i + 1))) w7) := by
                  have h7 := HSv.out.put Hm.out hk HKd.out B7 rfl HO7.out
                  rw [Hsn.out, if_pos Hf.out]; exact h7
                clear HO7 HO6 HO5
                go_wp2_with fail
                go_roundw
                case rel => exact ⟨i + 1, by omega, by go_num, HS7⟩
                case measure => simp [intOf]; omega
      · have t1 : (r.x.frm != node) = true := by simpa using hf
        have HS2 : Hid (ASt w u5 (atQ node (qs.take (i + 1))) wr) := by rw [Hsn.out, if_neg hf]; exact HSt.out
        go_wp2_with fail
        go_roundw
        case rel => exact ⟨i + 1, by omega, by go_num, HS2⟩
        case measure => simp [intOf]; omega
    · obtain rfl : i = n := by omega
      have HQ : Hid (qs.take i = qs) := List.take_of_length_le (by rw [Hlen.out]; omega)
      obtain ⟨Ao, co, ho⟩ := own_form HSt.out.own
      have HS := hid HSt.out
      rw [HQ.out] at HS ho
      subst ho
      have HW : Hid (∀ q ∈ atQ node qs, WArg wr q.1.x q.2) := fun q hq => (HH.out.on HS.out.bel).wants q (atQ_mem hq).1
      clear HSt
      go_wp2_with fail
      go_ret
      exact ⟨Ao, co, rfl, own_rrul HS.out.own HW.out, HS.out.bel⟩
end Go.Proofs.Ythoblabimkfjpaa
