/- HeapPlays. -/
import Derived.Test.YtmnlbefmgolciaaHpG
import Derived.StillTailTactics
namespace Go.Proofs.Ytmnlbefmgolciaa
open Go.RowKit
set_option maxHeartbeats 6400000
set_option maxRecDepth 100000
theorem Try.info32 : (Try.prog.info? 32).map (fun i => (i.zero, i.size, i.bytes)) = some (some (.agg #[.int .i64 0, .int .i64 0]), 2, 16) := by kernel_rfl
theorem plays_out (A : Option Addr) (n c : Nat) (w : World) (h : 200 < n) :
    Calls Try.prog 3 #[.slice A n c] w fun e w' => e = .returned (.bool true) ∧ Below w.heap.size w w' := by
  have t : decide ((200 : Int) < (n : Int)) = true := by simp; omega
  clear h
  go_enter Try.func3, Try.ntmps3
  go_wp2_with (go_at_call 5; (with_reducible refine (alive_any _).mono ?_); rintro e' w1 ⟨rfl, hb1⟩)
  go_ret
  exact ⟨rfl, hb1⟩
theorem two_new (w : World) : HeapAt ((w.alloc (.cells #[.pointer none] 27)).alloc (.cells #[.pointer none] 27)) w.heap.size .nil ∧ HeapAt ((w.alloc (.cells #[.pointer none] 27)).alloc (.cells #[.pointer none] 27)) (w.heap.size + 1) .nil := by
  refine ⟨(heap_new w).below ((Below.refl _ _).alloc (Nat.le_refl _) _), ?_⟩
  have := heap_new (w.alloc (.cells #[.pointer none] 27))
  rwa [World.size_alloc] at this
theorem plays_in (A : Option Addr) (n c : Nat) (l : List Acn) (w : World) (hr : RAcn w w.heap.size A n l) (hn : n ≤ 200) :
    Calls Try.prog 3 #[.slice A n c] w fun e w' => e = .returned (.bool true) ∧ Below w.heap.size w w' := by
  have t : decide ((200 : Int) < (n : Int)) = false := by simp; omega
  obtain ⟨i7, hi, hz0, hz1, hz2⟩ := info_parts Try.info32
  have Ci := hid hi; have Cz0 := hid hz0; have Cz1 := hid hz1; have Cz2 := hid hz2
  clear hi hz0 hz1 hz2
  have HR := hid hr
  have Hl := hid hr.1
  clear hr
  go_enter Try.func3, Try.ntmps3
  go_wp2_with (go_at_call 5; (with_reducible refine (alive_any _).mono ?_); rintro e' w1 ⟨rfl, hb1⟩)
  have hs1 := hb1.size
  have H0 := hid (two_new w1)
  have b0 : Below w.heap.size w ((w1.alloc (.cells #[.pointer none] 27)).alloc (.cells #[.pointer none] 27)) := (hb1.alloc hs1 _).alloc (by simp; omega) _
  go_loopw [6, 7] (fun v i wr => ∃ (k m : Nat) (T To : HT) (nw : List (Int × Int)), k ≤ n ∧ i = .int .i64 k ∧ m ≤ k ∧ Hid (nw.length = m) ∧ Hid (T.all.Perm nw) ∧ Hid (HeapAt wr w1.heap.size T) ∧ Hid (HeapAt wr (w1.heap.size + 1) To) ∧ Hid (To.cnt ≤ k) ∧ wr.ownsRow w1.heap.size 32 2 v m (pcells nw) ∧ w1.heap.size ≤ wr.heap.size ∧ Below w.heap.size w wr) (fun _ i _ => n - (intOf i).toNat)
  case atStart => exact ⟨0, 0, .nil, .nil, [], Nat.zero_le _, rfl, Nat.le_refl _, rfl, List.Perm.refl _, H0.out.1, H0.out.2, Nat.le_refl _, World.ownsRow_nil _ _ _ _, by simp; omega, b0⟩
  case round =>
    obtain ⟨k, m, T, To, nw, hk, rfl, hm, Hm, HP, HTr, HTo, HCo, hown, hsr, hbel⟩ := hrel
    by_cases hlt : k < n
    · obtain ⟨e, he⟩ : ∃ e, l[k]? = some e := ⟨l[k]'(by rw [Hl.out]; omega), List.getElem?_eq_getElem _⟩
      obtain ⟨b, off, rfl, hb, hc⟩ := (HR.out.below hbel).2 (by omega)
      obtain ⟨c0, c1, c2⟩ := hc k e he
      clear hc he
      have HPo := hid (push_any (w1.heap.size + 1) (k : Int) (k : Int) To wr HTo.out (by have := HCo.out; omega))
      cases hpop : e.pop with
      | false =>
        rw [hpop] at c0
        clear hpop
        go_wp2_with (go_at_call 6; ((with_reducible refine HPo.out.mono ?_); rintro e' w2 ⟨rfl, To', hTo, pTo, hg⟩; have HTo2 := hid hTo; have HCo2 := hid (show To'.cnt ≤ k + 1 by have := perm_cnt pTo; have := HCo.out; simp [HT.len] at *; omega); have HT2 := hid (HTr.out.other HTo.out (by omega) hg); have hown2 := own_other hown HTo.out hg; have hg2 := gb_below (B := w.heap.size) hg (by omega) hbel.size; have hs2 := Nat.le_trans hsr hg.size; have d0 := (hg2.cell (p := ⟨b, off + k * 3, none⟩) hb).trans c0; have d1 := (hg2.cell (p := ⟨b, off + k * 3 + 1, none⟩) hb).trans c1; have d2 := (hg2.cell (p := ⟨b, off + k * 3 + 2, none⟩) hb).trans c2; have hb2 := hbel.trans hg2; clear hTo pTo hg c0 c1 c2 hown hbel))
        go_still_tail 11, (by kernel_rfl)
        change wpList _ _ _ _ _ w2.drew
        have HPu := hid (push_any w1.heap.size e.key e.val T w2.drew HT2.out.drew (by have := perm_cnt HP.out; have := Hm.out; omega))
        go_wp2_with (go_at_call 6; ((with_reducible refine HPu.out.mono ?_); rintro e' w3 ⟨rfl, T3, hT, pT, hg0⟩; have hg := undrew_gb hg0; have HT3 := hid hT; have HP3 := hid pT; have HTo3 := hid (HTo2.out.other HT2.out (by omega) hg); have hown3 := own_other hown2 HT2.out hg; have hg2 := gb_below (B := w.heap.size) hg (by omega) hb2.size; have hs3 := Nat.le_trans hs2 hg.size; have e1 := (hg2.cell (p := ⟨b, off + k * 3 + 1, none⟩) hb).trans d1; have e2 := (hg2.cell (p := ⟨b, off + k * 3 + 2, none⟩) hb).trans d2; have hb3 := hb2.trans hg2; clear hT pT hg hg0 d0 d1 d2 hown2 hb2))
        go_region_held3 (fun w' => w'.cell? ⟨b, off + k * 3 + 1, none⟩ = some (.int .i64 e.key) ∧ w'.cell? ⟨b, off + k * 3 + 2, none⟩ = some (.int .i64 e.val))
          (first
            | go_keep
            | exact hk4)
          (first
            | ((refine step_append_keeps (by rfl) (.tmp 54) (.tmp 66) 28 (by rfl) w1.heap.size 32 i7 (.agg #[.int .i64 0, .int .i64 0]) 2 16 Try.underlying28 Ci.out Cz0.out Cz1.out Cz2.out rfl (by decide) u6 m (pcells nw) (by rfl) (hown3.alloc _) ⟨w3.heap.size, 0, none⟩ 1 1 (pcells [(e.key, e.val)]) (by rfl) (by rfl) (new_row (w := w3.drew) (pair_row _ _)) (pcells_one _) (by decide) (by unfold maxLen; omega) (by omega) (by simp; omega) ?_; intro g4 c4 w4 hown4 hg4 _; have hb4 := below_app4 hown3 hs3 hg4; have HT4 := hid (HT3.out.app hown3 hg4); have HTo4 := hid (HTo3.out.app hown3 hg4); have hk4 : w4.cell? ⟨b, off + k * 3 + 1, none⟩ = some (.int .i64 e.key) ∧ w4.cell? ⟨b, off + k * 3 + 2, none⟩ = some (.int .i64 e.val) := ⟨(hb4.cell (p := ⟨b, off + k * 3 + 1, none⟩) (by show b < _; omega)).trans e1, (hb4.cell (p := ⟨b, off + k * 3 + 2, none⟩) (by show b < _; omega)).trans e2⟩)))
        have hlen : (nw ++ [(e.key, e.val)]).length = m + 1 := by rw [List.length_append, Hm.out]; rfl
        have hpm : T3.all.Perm (nw ++ [(e.key, e.val)]) := HP3.out.trans ((HP.out.cons _).trans (List.perm_append_singleton _ _).symm)
        have HLn := hid (len_is HT4.out hpm hlen)
        have Hlen := hid hlen
        have HPm := hid hpm
        have hm1 : ((m + 1 : Nat) : Int) = (m : Int) + 1 := by omega
        rw [hm1] at HLn
        clear hlen hpm hm1
        go_wp2_with (go_at_call 8; ((with_reducible refine HLn.out.mono ?_); rintro e' w5 ⟨rfl, rfl⟩))
        rw [← pcells_app] at hown4
        go_roundw
        case rel => exact ⟨k + 1, m + 1, T3, To', _, by omega, by go_num, by omega, Hlen.out, HPm.out, HT4.out, HTo4.out, HCo2.out, hown4, Nat.le_trans hs3 hb4.size, hb3.trans (hb4.mono hs1)⟩
        case measure => simp [intOf]; omega
      | true =>
        rw [hpop] at c0
        clear hpop
        obtain ⟨Aw, cw, hv, hmc⟩ := own_prs hown Hm.out
        subst hv
        have HC0 := hid HCo.out
        cases T with
        | nil =>
          obtain rfl : nw = [] := List.nil_perm.1 HP.out
          obtain rfl : m = 0 := Hm.out.symm
          go_wp2_with (first
            | (go_at_call 6; ((with_reducible refine HPo.out.mono ?_); rintro e' w2 ⟨rfl, To', hTo, pTo, hg⟩; have HTo2 := hid hTo; have HCo2 := hid (show To'.cnt ≤ k + 1 by have := perm_cnt pTo; have := HCo.out; simp [HT.len] at *; omega); have HT2 := hid (HTr.out.other HTo.out (by omega) hg); have hown2 := own_other hown HTo.out hg; have hg2 := gb_below (B := w.heap.size) hg (by omega) hbel.size; have hs2 := Nat.le_trans hsr hg.size; have d0 := (hg2.cell (p := ⟨b, off + k * 3, none⟩) hb).trans c0; have hb2 := hbel.trans hg2; have HPp := hid (pop_none w1.heap.size w2 HT2.out); have HLn := hid (len_is (m := 0) HT2.out (List.Perm.refl _) rfl); clear hTo pTo hg c0 c1 c2 hown hbel))
            | (go_at_call 7; ((with_reducible refine HPp.out.mono ?_); rintro e' w3 ⟨rfl, rfl⟩)))
          refine wp_loop_rounds 1 ?_
          rw [rounds_succ]
          go_wp2_with (go_at_call 8; ((with_reducible refine HLn.out.mono ?_); rintro e' w5 ⟨rfl, rfl⟩))
          go_roundw
          case rel => exact ⟨k + 1, 0, .nil, To', [], by omega, by go_num, by omega, rfl, List.Perm.refl _, HT2.out, HTo2.out, HCo2.out, hown2, hs2, hb2⟩
          case measure => simp [intOf]; omega
        | node b2 x y mm ff =>
          have hmp : 0 < m := by have := perm_cnt HP.out; have := Hm.out; simp [HT.cnt] at *; omega
          have t1 : decide (0 < m) = true := by simpa using hmp
          go_wp2_with (first
            | (go_at_call 6; ((with_reducible refine HPo.out.mono ?_); rintro e' w2 ⟨rfl, To', hTo, pTo, hg⟩; have HTo2 := hid hTo; have HCo2 := hid (show To'.cnt ≤ k + 1 by have := perm_cnt pTo; have := HCo.out; simp [HT.len] at *; omega); have HT2 := hid (HTr.out.other HTo.out (by omega) hg); have hown2 := own_other hown HTo.out hg; have hg2 := gb_below (B := w.heap.size) hg (by omega) hbel.size; have hs2 := Nat.le_trans hsr hg.size; have d0 := (hg2.cell (p := ⟨b, off + k * 3, none⟩) hb).trans c0; have hb2 := hbel.trans hg2; have HPp := hid (pop_some w1.heap.size b2 x y mm ff w2 HT2.out (by have := perm_cnt HP.out; have := Hm.out; omega)); clear hTo pTo hg c0 c1 c2 hown hbel))
            | (go_at_call 7; ((with_reducible refine HPp.out.mono ?_); rintro e' w3 ⟨rfl, T3, hT, pT, hg⟩; have HT3 := hid hT; have HP3 := hid pT; have HTo3 := hid (HTo2.out.other HT2.out (by omega) hg); have hown3 := own_other hown2 HT2.out hg; have hg2 := gb_below (B := w.heap.size) hg (by omega) hb2.size; have hs3 := Nat.le_trans hs2 hg.size; have hb3 := hb2.trans hg2; have HRw := hid (own_rpr hown3 Hm.out); clear hT pT hg d0 hown2 hb2)))
          go_loopw [11, 12] (fun av jv wx => ∃ p j : Nat, av = .int .i64 p ∧ jv = .int .i64 j ∧ j ≤ m ∧ p < j ∧ Hid (LeastAt nw p j) ∧ Below w3.heap.size w3 wx) (fun _ j _ => m - (intOf j).toNat)
          case atStart => exact ⟨0, 1, rfl, rfl, hmp, by omega, least_one nw, Below.refl _ _⟩
          case round =>
            obtain ⟨p, j, rfl, rfl, hj, hp, HLe, hbx⟩ := hrel
            by_cases hjm : j < m
            · obtain ⟨ej, hej⟩ : ∃ ej, nw[j]? = some ej := ⟨nw[j]'(by rw [Hm.out]; omega), List.getElem?_eq_getElem _⟩
              obtain ⟨ep, hep⟩ : ∃ ep, nw[p]? = some ep := ⟨nw[p]'(by rw [Hm.out]; omega), List.getElem?_eq_getElem _⟩
              obtain ⟨g, go, rfl, hgl, hgc⟩ := (HRw.out.below hbx).2 (by omega)
              obtain ⟨j0, j1⟩ := hgc j ej hej
              obtain ⟨p0, p1⟩ := hgc p ep hep
              have Hej := hid hej
              have Hep := hid hep
              clear hgc hej hep
              obtain ⟨jx, jy⟩ := ej
              obtain ⟨px, py⟩ := ep
              rcases (show jx < px ∨ px < jx ∨ (jx = px ∧ jy < py) ∨ (jx = px ∧ py ≤ jy) by omega) with h | h | ⟨rfl, h⟩ | ⟨rfl, h⟩
              · have HN := hid (least_new HLe.out Hep.out Hej.out (.inl h))
                have s1 : decide (jx < px) = true := by simpa using h
                clear h
                go_wp2_with fail
                go_big_quiet (fail)
                go_wp2_with fail
                go_roundw
                case rel => exact ⟨j, j + 1, rfl, by go_num, by omega, by omega, HN.out, hbx.trans ⟨rfl, rfl, rfl, Nat.le_refl _, fun _ _ => rfl⟩⟩
                case measure => simp [intOf]; omega
              · have HN := hid (least_old HLe.out Hep.out Hej.out (.inl h))
                have s1 : decide (jx < px) = false := by simp; omega
                have s2 : (jx == px) = false := by simp; omega
                clear h
                go_wp2_with fail
                go_big_quiet (fail)
                go_wp2_with fail
                go_roundw
                case rel => exact ⟨p, j + 1, rfl, by go_num, by omega, by omega, HN.out, hbx.trans ⟨rfl, rfl, rfl, Nat.le_refl _, fun _ _ => rfl⟩⟩
                case measure => simp [intOf]; omega
              · have HN := hid (least_new HLe.out Hep.out Hej.out (.inr ⟨rfl, Int.le_of_lt h⟩))
                have s1 : decide (jx < jx) = false := by simp
                have s2 : (jx == jx) = true := by simp
                have s3 : decide (jy < py) = true := by simpa using h
                clear h
                go_wp2_with fail
                go_big_quiet (fail)
                go_wp2_with fail
                go_roundw
                case rel => exact ⟨j, j + 1, rfl, by go_num, by omega, by omega, HN.out, hbx.trans ⟨rfl, rfl, rfl, Nat.le_refl _, fun _ _ => rfl⟩⟩
                case measure => simp [intOf]; omega
              · have HN := hid (least_old HLe.out Hep.out Hej.out (.inr ⟨rfl, h⟩))
                have s1 : decide (jx < jx) = false := by simp
                have s2 : (jx == jx) = true := by simp
                have s3 : decide (jy < py) = false := by simp; omega
                clear h
                go_wp2_with fail
                go_big_quiet (fail)
                go_wp2_with fail
                go_roundw
                case rel => exact ⟨p, j + 1, rfl, by go_num, by omega, by omega, HN.out, hbx.trans ⟨rfl, rfl, rfl, Nat.le_refl _, fun _ _ => rfl⟩⟩
                case measure => simp [intOf]; omega
            · obtain rfl : j = m := by omega
              obtain ⟨ep, hep⟩ : ∃ ep, nw[p]? = some ep := ⟨nw[p]'(by rw [Hm.out]; omega), List.getElem?_eq_getElem _⟩
              obtain ⟨rfl, hrest⟩ := least_top HT2.out.2.2 HP.out HLe.out Hm.out.symm hep
              obtain ⟨g, go, rfl, hgl, hgc⟩ := (HRw.out.below hbx).2 (by omega)
              obtain ⟨p0, p1⟩ := hgc p _ hep
              have HRest := hid hrest
              clear hgc hep hrest
              obtain ⟨q, rfl⟩ : ∃ q, j = p + 1 + q := ⟨j - (p + 1), by omega⟩
              have hne := fun W : World => neq2_run W x y x y
              simp only [beq_self_eq_true, Bool.and_self, Bool.not_true] at hne
              go_wp2_with fail
              clear hne p0 p1
              have hown4 : wr.ownsRow w1.heap.size 32 2 (.slice (some ⟨g, go, none⟩) (p + 1 + q) cw) (p + 1 + q) (pcells nw) := own_below hown3 hbx
              have HR4 := hid (HRw.out.on hbx)
              have HT4 := hid (HT3.out.below hbx)
              have HTo4 := hid (HTo3.out.below hbx)
              have hs4 := Nat.le_trans hs3 hbx.size
              have hb4 := hb3.trans (hbx.mono (Nat.le_trans hs1 hs3))
              obtain ⟨z, hz, hsl⟩ := run_from (P := Try.prog) (t := 28) (off := go) (b := g) (cap := cw) Try.underlying28 Ci.out Cz1.out (len := p + 1 + q) (l := p + 1) ((p : Int) + 1) (by omega) (by omega)
              have hsl' : ∀ W : World, (Instr.slice 28 (.slice (some ⟨g, go, none⟩) (p + 1 + q) cw) (some (.int .i64 ((p : Int) + 1))) none none).run Try.prog W = .ok (.slice (some ⟨g, z, none⟩) q (cw - (p + 1))) W := fun W => by rw [hsl W, show p + 1 + q - (p + 1) = q by omega]
              have HS1 := hid (prs_take (p := p) HR4.out (by omega))
              have HRd : ∀ w5 : World, Below wr.heap.size wr w5 → ∀ (j : Nat) (u : Value), (pcells (nw.drop (p + 1)))[j]? = some u → w5.cell? ((⟨g, z, none⟩ : Addr).add j) = some u := fun w5 h5 => prs_drop (HR4.out.on h5) rfl (by omega) hmc hz
              have HS2 := hid HRd
              have ht1 : (pcells (nw.take p)).length = p * 2 := by rw [pcells_len, List.length_take, Hm.out]; omega
              have ht2 : (pcells (nw.drop (p + 1))).length = q * 2 := by rw [pcells_len, List.length_drop, Hm.out]; omega
              have Ht1 := hid ht1
              have Ht2 := hid ht2
              have e1 : IntKind.i64.wrap ((p : Int) + 1) = (p : Int) + 1 := IntWalk.i64_in _ (by omega)
              have e2 : (p : Int) ≤ (cw : Int) := by omega
              have hq : p + q ≤ 200 := by omega
              clear hsl hz HRd ht1 ht2 hown3 hbx hb3 hs3
              go_region_held3 (fun w' => True)
                (trivial)
                (first
                  | ((refine step_copy (by rfl) (.const (.slice none 0 0)) (.tmp 137) 28 (by rfl) w1.heap.size 32 i7 (.agg #[.int .i64 0, .int .i64 0]) 2 16 Try.underlying28 Ci.out Cz0.out Cz1.out Cz2.out rfl (by decide) (by rfl) ⟨g, go, none⟩ p cw (pcells (nw.take p)) (by rfl) Ht1.out HS1.out (pcells_one _) (by unfold maxLen; clear e1; omega) (by clear e1; omega) (by show _ ≤ wr.heap.size; clear e1; omega) ?_; intro D5 c5 w5 hown5 hg5; have hb5 := undrew (grown_below hg5); have HS5 := hid (HS2.out _ hb5); have HT5 := hid (HT4.out.below hb5); have HTo5 := hid (HTo4.out.below hb5); have hs5 := Nat.le_trans hs4 hb5.size; clear hg5))
                  | ((refine step_append_some (by rfl) (.tmp 138) (.tmp 142) 28 (by rfl) w1.heap.size 32 i7 (.agg #[.int .i64 0, .int .i64 0]) 2 16 Try.underlying28 Ci.out Cz0.out Cz1.out Cz2.out rfl (by decide) (.slice D5 p c5) p (pcells (nw.take p)) (by rfl) hown5 ⟨g, z, none⟩ q (cw - (p + 1)) (pcells (nw.drop (p + 1))) (by rfl) Ht2.out HS5.out (pcells_one _) (by unfold maxLen; clear e1; omega) (by clear e1; omega) hs5 ?_; intro D6 c6 w6 hown6 hg6; have HT6 := hid (HT5.out.own hown5 hg6); have HTo6 := hid (HTo5.out.own hown5 hg6); have hb6 : Below w1.heap.size w5 w6 := Below.grown (Below.refl _ _) hg6 hs5 (fun k hk => (hown5.lt k hk).1); clear hg6)))
              have hlen : (nw.take p ++ nw.drop (p + 1)).length = p + q := by rw [List.length_append, List.length_take, List.length_drop, Hm.out]; clear e1; omega
              have hpm := HP3.out.trans HRest.out
              have HLn := hid (len_is HT6.out hpm hlen)
              have Hlen := hid hlen
              have HPm := hid hpm
              have hm1 : ((p + q : Nat) : Int) = (p : Int) + (q : Int) := by clear e1; omega
              rw [hm1] at HLn
              clear hlen hpm hm1 e1 e2 hsl'
              go_wp2_with (go_at_call 8; ((with_reducible refine HLn.out.mono ?_); rintro e' w7 ⟨rfl, rfl⟩))
              rw [← pcells_app] at hown6
              go_roundw
              case rel => exact ⟨k + 1, p + q, T3, To', _, by omega, by go_num, by omega, Hlen.out, HPm.out, HT6.out, HTo6.out, HCo2.out, hown6, Nat.le_trans hs5 hb6.size, hb4.trans ((hb5.mono (Nat.le_trans hs1 hs4)).trans (hb6.mono hs1))⟩
              case measure => simp [intOf]; omega
    · obtain rfl : k = n := by omega
      go_wp2_with fail
      go_ret
      exact ⟨rfl, hbel⟩
theorem plays_any (A : Option Addr) (n c : Nat) (l : List Acn) (w : World) (hr : RAcn w w.heap.size A n l) :
    Calls Try.prog 3 #[.slice A n c] w fun e w' => e = .returned (.bool true) ∧ Below w.heap.size w w' := by
  by_cases h : 200 < n
  · exact plays_out A n c w h
  · exact plays_in A n c l w hr (by omega)
end Go.Proofs.Ytmnlbefmgolciaa
