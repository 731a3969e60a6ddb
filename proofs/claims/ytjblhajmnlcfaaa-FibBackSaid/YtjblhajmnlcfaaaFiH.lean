/- FibBack. -/
import Derived.Test.YtjblhajmnlcfaaaFiG
namespace Go.Proofs.Ytjblhajmnlcfaaa
open Go.RowKit
set_option maxHeartbeats 12800000
set_option maxRecDepth 100000
theorem lnk_row (a b m c : Int) : #[Value.int .i64 a, Value.int .i64 b, Value.int .i64 m, Value.int .i64 c] = (lcells [⟨a, b, m, c⟩]).toArray := rfl
theorem seg_row (s : Sg) : #[Value.bool s.edge, Value.int .i64 s.too] = (scells2 [s]).toArray := rfl
def pickL (nd lk : Int) (pk : List Int) (k : Nat) : List Sg := (pk.take k).map (pickS nd lk)
theorem pickL_succ {nd lk p : Int} {pk : List Int} {k : Nat} (h : pk[k]? = some p) : pickL nd lk pk (k + 1) = pickL nd lk pk k ++ [pickS nd lk p] := by
  unfold pickL
  rw [List.take_add_one, h, List.map_append]; rfl
theorem pickL_len {nd lk : Int} {pk : List Int} {k : Nat} (h : k ≤ pk.length) : (pickL nd lk pk k).length = k := by unfold pickL; rw [List.length_map, List.length_take]; omega
theorem fback_in (h : FibSpec 12 6 8 10) (nd : Int) (N : Nat) (Ap : Option Addr) (np cp : Nat) (pk : List Int) (ttl : Int) (w : World) (hp : RInt w w.heap.size Ap np pk) (h1 : 2 ≤ nd) (h2 : nd ≤ 40) (h3 : 1 ≤ N) (h4 : N ≤ 120) (h5 : np ≤ 30) (ht : J64 ttl) :
    Calls Try.prog 4 #[.int .i64 nd, .int .i64 (N : Int), .slice Ap np cp, .int .i64 ttl] w fun e w' => e = .returned (.bool true) ∧ Below w.heap.size w w' := by
  have HA := hid (alive19 h w)
  have t1 : decide (nd < 2) = false := by simp; omega
  have t2 : decide ((40 : Int) < nd) = false := by simp; omega
  have t3 : decide ((N : Int) < 1) = false := by simp; omega
  have t3n : decide (N < 1) = false := by simp; omega
  have t4 : decide ((120 : Int) < (N : Int)) = false := by simp; omega
  have t5 : decide ((30 : Int) < (np : Int)) = false := by simp; omega
  have hpl := hp.1
  have HP := hid hp
  have HL : Hid (∀ s ∈ pickL nd N pk np, SgOk nd N s) := fun s hs => by
    obtain ⟨p, -, rfl⟩ := List.mem_map.1 hs
    exact pickS_ok h1 h3
  have hll := pickL_len (nd := nd) (lk := N) (pk := pk) (k := np) (by omega)
  have hck := check_rep nd N h1 h2 h4
  obtain ⟨L, hL⟩ : ∃ L, pickL nd N pk np = L := ⟨_, rfl⟩
  rw [hL] at HL hll
  have HLe := hid hL
  have hb := stack_back (nd := nd) (n := N) (L := L) (ttl := ttl) HL.out h2 h4
  have HSt : Hid (∀ (A : Option Addr) (c : Nat) (W : World), RSeg W W.heap.size A np L → np ≤ c → (A = none → np = 0 ∧ c = 0) → Calls Try.prog 8 #[.slice A np c, .int .i64 ttl] W fun e w' => ∃ A' c', e = .returned (.slice A' np c') ∧ (np ≤ c' ∧ (A' = none → np = 0 ∧ c' = 0)) ∧ REn w' w'.heap.size A' np (stackS L ttl) ∧ Below W.heap.size W w') := fun A c W hr hc hn => by
    have := h.stack A np c L ttl W hr (by omega) hc hn (fun s hs => by obtain ⟨a, b, c⟩ := HL.out s hs; unfold J64; cases hh : s.edge with | true => have := b hh; omega | false => have := c hh; omega) ht
    unfold EnAns at this
    rw [hb.1, hll] at this
    exact this
  have HSs : Hid (∀ (A : Option Addr) (c : Nat) (A2 : Option Addr) (c2 : Nat) (W : World), GArg W nd A N c (List.replicate N lkB) → REn W W.heap.size A2 np (stackS L ttl) → np ≤ c2 → (A2 = none → np = 0 ∧ c2 = 0) → Calls Try.prog 10 #[.agg #[.int .i64 nd, .slice A N c], .slice A2 np c2] W fun e w' => ∃ A' c', e = .returned (.tuple #[.slice A' np c', .bool true]) ∧ RSeg w' w'.heap.size A' np L ∧ Below W.heap.size W w') := fun A c A2 c2 W hg hr hc hn => by
    have := h.segs nd A N c (List.replicate N lkB) A2 np c2 (stackS L ttl) W hg hr (by omega) hc hn (stack_lab HL.out h2 h4)
    rw [hck, hb.2] at this
    unfold SgAns at this
    rw [Option.getD_some, hll] at this
    exact this
  obtain ⟨i5, hi, hz0, hz1, hz2⟩ := info_parts (show (Try.prog.info? 42).map (fun i => (i.zero, i.size, i.bytes)) = some (some (.agg #[.int .i64 0, .int .i64 0, .int .i64 0, .int .i64 0]), 4, 32) by kernel_rfl)
  have Ai := hid hi; have Az0 := hid hz0; have Az1 := hid hz1; have Az2 := hid hz2
  clear hi hz0 hz1 hz2
  obtain ⟨i6, hi, hz0, hz1, hz2⟩ := info_parts (show (Try.prog.info? 26).map (fun i => (i.zero, i.size, i.bytes)) = some (some (.agg #[.bool false, .int .i64 0]), 2, 16) by kernel_rfl)
  have Bi := hid hi; have Bz0 := hid hz0; have Bz1 := hid hz1; have Bz2 := hid hz2
  have Hll := hid hll
  clear hi hz0 hz1 hz2 h hp hck hL hb hll
  go_enter Try.func4, Try.ntmps4
  go_upto_region 5 with (first | (go_at_call 5; (with_reducible refine HA.out.mono ?_); rintro e' w1 ⟨rfl, hb1⟩))
  clear t1 t2 t3 t3n t4 t5
  have Hb1 := hid hb1
  have HX0 := hid (heap_alloc_new w1 (.cells #[.int .i64 nd, .slice none 0 0] 24))
  have HB0 := hid ((Below.refl w1.heap.size w1).alloc (Nat.le_refl _) (.cells #[.int .i64 nd, .slice none 0 0] 24))
  obtain ⟨B, hB⟩ : ∃ B, w1.heap.size = B := ⟨_, rfl⟩
  rw [hB] at HX0 HB0 ⊢
  have HBe := hid hB
  clear hb1 hB
  go_wp2_with fail
  go_loopw [11] (fun ii wr => ∃ (i : Nat) (v : Value), i ≤ N ∧ ii = .int .i64 i ∧ Hid (wr.heap[B]? = some (.cells #[.int .i64 nd, v] 24 (0, 0))) ∧ Hid (wr.ownsRow (B + 1) 42 4 v i (lcells (List.replicate i lkB))) ∧ Hid (Below B w1 wr)) (fun ii _ => N - (intOf ii).toNat)
  case atStart => exact ⟨0, .slice none 0 0, Nat.zero_le _, rfl, HX0, World.ownsRow_nil _ _ _ _, HB0⟩
  case round =>
    obtain ⟨i, v, hi, rfl, HX, HO, HB⟩ := hrel
    obtain ⟨x0, x1, xf⟩ := box_cells HX.out
    obtain ⟨Ag, cg, rfl⟩ := own_form HO.out
    by_cases hlt : i < N
    · have ew1 : IntKind.i64.wrap ((i : Int) + 1) = (i : Int) + 1 := by rw [IntKind.wrap_i64]; omega
      have d1 : decide ((i : Int) < (N : Int)) = true := decide_eq_true (by omega)
      have d2 : decide (i < N) = true := decide_eq_true hlt
      have f1 := xf 1
      have hBs : B < wr.heap.size := pst_lt2 HX.out
      have HRp : Hid (List.replicate (i + 1) lkB = List.replicate i lkB ++ [lkB]) := List.replicate_succ'
      clear xf
      go_wp2_with (at_builtin; refine wpList_append_own _ rfl (.tmp 51) (.tmp 53) 22 rfl (B + 1) 42 i5 (.agg #[.int .i64 0, .int .i64 0, .int .i64 0, .int .i64 0]) 4 32 Try.underlying22 Ai.out Az0.out Az1.out Az2.out rfl (by decide) _ _ _ rfl (HO.out.alloc _) ⟨wr.heap.size, 0, none⟩ 1 1 (lcells [lkB]) rfl rfl (new_row (lnk_row _ _ _ _)) (lcells_one _) (by unfold maxLen; omega) (by omega) (by simp; omega) ?_; intro v8 w8 hown8 hg8 _; obtain ⟨A8, c8, rfl⟩ := own_form hown8; have hX8 := box_app HX.out (by omega) HO.out hg8; obtain ⟨q0, q1, q2⟩ := box_cells hX8; have f8 := q2 1; have HX8 := hid hX8; have HO8 := hid hown8; have HB8 := hid (Below.grown (HB.out.alloc (by omega) _) hg8 (by simp; omega) (fun q hq => Nat.le_trans (Nat.le_succ B) (HO.out.lt q hq).1)); clear hown8 hX8 q2)
      go_roundw
      case rel => exact ⟨i + 1, _, by omega, by go_num, box_set1 HX8.out, by rw [HRp.out, lcells_app]; exact own_set HO8.out (by show B < B + 1; omega) _, HB8.out.setCell (Nat.le_refl _) _⟩
      case measure => simp [intOf]; omega
    · obtain rfl : i = N := by omega
      have d1 : decide ((i : Int) < (i : Int)) = false := decide_eq_false (by omega)
      have d2 : decide (i < i) = false := decide_eq_false (by omega)
      clear x0 x1 xf
      rename World => w2
      have hBs : B < w2.heap.size := pst_lt2 HX.out
      obtain ⟨Ag', cg', hge, hgc, hgr⟩ := own_lnks HO.out (by rw [List.length_replicate])
      have hgn := own_none HO.out
      cases hge
      have HGr := hid hgr
      have hw2 : Below w.heap.size w w2 := Hb1.out.trans ((by rw [HBe.out]; exact HB.out : Below w1.heap.size w1 w2).mono Hb1.out.size)
      have Hw2 := hid hw2
      clear hgr hw2
      go_wp2_with fail
      go_loopw [12, 13] (fun lv iv wr => ∃ k : Nat, k ≤ np ∧ iv = .int .i64 k ∧ Hid (wr.ownsRow w2.heap.size 26 2 lv k (scells2 (pickL nd i pk k))) ∧ Hid (Below w2.heap.size w2 wr)) (fun _ iv _ => np - (intOf iv).toNat)
      case atStart => exact ⟨0, Nat.zero_le _, rfl, World.ownsRow_nil _ _ _ _, Below.refl _ _⟩
      case round =>
        obtain ⟨k, hk, rfl, HOs, HBr⟩ := hrel
        obtain ⟨Al, cl, hol⟩ := own_form HOs.out
        subst hol
        by_cases hlt2 : k < np
        · obtain ⟨p, hp⟩ : ∃ p, pk[k]? = some p := ⟨pk[k]'(by omega), List.getElem?_eq_getElem _⟩
          obtain ⟨bp, op, rfl, hbp, hc⟩ := HP.out.2 (by omega)
          have cpk := ((Hw2.out.trans (HBr.out.mono Hw2.out.size)).cell (p := ⟨bp, op + k, none⟩) hbp).trans (hc k p hp)
          have m1 : bits .and .i64 p 4095 = p % 4096 := i64_mask_any 12 (by omega) 4095 (by decide) p
          have m2 : bits .and .i64 p 1 = p % 2 := i64_mask_any 1 (by omega) 1 (by decide) p
          obtain ⟨kk, hkk⟩ : ∃ kk, p % 4096 / 2 = kk := ⟨_, rfl⟩
          have m3 : Int.tdiv (p % 4096) 2 = kk := by rw [Int.tdiv_eq_ediv_of_nonneg (by omega)]; exact hkk
          have m4 : IntKind.i64.wrap kk = kk := by rw [IntKind.wrap_i64]; omega
          have m5 : IntKind.i64.wrap (2 * (i : Int)) = 2 * i := by rw [IntKind.wrap_i64]; omega
          have e1 : decide ((k : Int) < (np : Int)) = true := decide_eq_true (by omega)
          have e2 : decide (k < np) = true := decide_eq_true hlt2
          have i0 : (0 : Int) ≤ (k : Int) := by omega
          have i1 : (k : Int) < (np : Int) := by omega
          have ewk : IntKind.i64.wrap ((k : Int) + 1) = (k : Int) + 1 := by rw [IntKind.wrap_i64]; omega
          by_cases hodd : p % 2 = 1
          · have o1 : (p % 2 == 1) = true := by rw [beq_iff_eq]; exact hodd
            have o2 : decide (p % 2 = 1) = true := decide_eq_true hodd
            obtain ⟨r, hr⟩ : ∃ r, (p % 4096 / 2) % (2 * (i : Int)) = r := ⟨_, rfl⟩
            have hr0 : 0 ≤ r := by rw [← hr]; exact Int.emod_nonneg _ (by omega)
            have hr1 : r < (2 * (i : Int)) := by rw [← hr]; exact Int.emod_lt_of_pos _ (by omega)
            have hrm : Int.tmod kk (2 * (i : Int)) = r := by rw [← hr, ← hkk, Int.tmod_eq_emod_of_nonneg (by omega)]
            have hrw : IntKind.i64.wrap r = r := by rw [IntKind.wrap_i64]; omega
            have hz : ((2 * (i : Int)) == 0) = false := beq_eq_false_iff_ne.2 (by omega)
            have HUp : Hid (pickL nd i pk (k + 1) = pickL nd i pk k ++ [⟨true, r⟩]) := by
              show _ = _
              rw [pickL_succ hp]
              unfold pickS
              rw [if_pos hodd, hr]
            have HRh := hid (fun (v8 : Value) (w8 : World) (h : w8.ownsRow w2.heap.size 26 2 v8 (k + 1) (scells2 (pickL nd i pk k) ++ scells2 [⟨true, r⟩])) => (by rw [HUp.out, scells2_app]; exact h : w8.ownsRow w2.heap.size 26 2 v8 (k + 1) (scells2 (pickL nd i pk (k + 1)))))
            clear hr hr0 hr1 hkk hp hc
            go_wp2_with (at_builtin; refine wpList_append_own _ rfl (.tmp 74) (.tmp 80) 27 rfl w2.heap.size 26 i6 (.agg #[.bool false, .int .i64 0]) 2 16 Try.underlying27 Bi.out Bz0.out Bz1.out Bz2.out rfl (by decide) _ _ _ rfl (HOs.out.alloc _) ⟨wr.heap.size, 0, none⟩ 1 1 (scells2 [⟨true, r⟩]) rfl rfl (new_row (show _ = (scells2 [⟨true, r⟩]).toArray from rfl)) (scells2_one _) (by unfold maxLen; omega) (by omega) (by have := HBr.out.size; simp; omega) ?_; intro v8 w8 hown8 hg8 _; have HO8 := hid hown8; have HB8 := hid (Below.grown (HBr.out.alloc HBr.out.size _) hg8 (by have := HBr.out.size; simp; omega) (fun q hq => (HOs.out.lt q hq).1)); clear hown8)
            go_roundw
            case rel => exact ⟨k + 1, by omega, by go_num, HRh.out _ _ HO8.out, HB8.out⟩
            case measure => simp [intOf]; omega
          · have o1 : (p % 2 == 1) = false := by rw [beq_eq_false_iff_ne]; exact hodd
            have o2 : decide (p % 2 = 1) = false := decide_eq_false hodd
            obtain ⟨r, hr⟩ : ∃ r, (p % 4096 / 2) % nd = r := ⟨_, rfl⟩
            have hr0 : 0 ≤ r := by rw [← hr]; exact Int.emod_nonneg _ (by omega)
            have hr1 : r < nd := by rw [← hr]; exact Int.emod_lt_of_pos _ (by omega)
            have hrm : Int.tmod kk nd = r := by rw [← hr, ← hkk, Int.tmod_eq_emod_of_nonneg (by omega)]
            have hrw : IntKind.i64.wrap r = r := by rw [IntKind.wrap_i64]; omega
            have hz : (nd == 0) = false := beq_eq_false_iff_ne.2 (by omega)
            have HUp : Hid (pickL nd i pk (k + 1) = pickL nd i pk k ++ [⟨false, r⟩]) := by
              show _ = _
              rw [pickL_succ hp]
              unfold pickS
              rw [if_neg hodd, hr]
            have HRh := hid (fun (v8 : Value) (w8 : World) (h : w8.ownsRow w2.heap.size 26 2 v8 (k + 1) (scells2 (pickL nd i pk k) ++ scells2 [⟨false, r⟩])) => (by rw [HUp.out, scells2_app]; exact h : w8.ownsRow w2.heap.size 26 2 v8 (k + 1) (scells2 (pickL nd i pk (k + 1)))))
            clear hr hr0 hr1 hkk hp hc
            go_wp2_with (at_builtin; refine wpList_append_own _ rfl (.tmp 82) (.tmp 87) 27 rfl w2.heap.size 26 i6 (.agg #[.bool false, .int .i64 0]) 2 16 Try.underlying27 Bi.out Bz0.out Bz1.out Bz2.out rfl (by decide) _ _ _ rfl (HOs.out.alloc _) ⟨wr.heap.size, 0, none⟩ 1 1 (scells2 [⟨false, r⟩]) rfl rfl (new_row (show _ = (scells2 [⟨false, r⟩]).toArray from rfl)) (scells2_one _) (by unfold maxLen; omega) (by omega) (by have := HBr.out.size; simp; omega) ?_; intro v8 w8 hown8 hg8 _; have HO8 := hid hown8; have HB8 := hid (Below.grown (HBr.out.alloc HBr.out.size _) hg8 (by have := HBr.out.size; simp; omega) (fun q hq => (HOs.out.lt q hq).1)); clear hown8)
            go_roundw
            case rel => exact ⟨k + 1, by omega, by go_num, HRh.out _ _ HO8.out, HB8.out⟩
            case measure => simp [intOf]; omega
        · obtain rfl : k = np := by omega
          have e1 : decide ((k : Int) < (k : Int)) = false := decide_eq_false (by omega)
          have e2 : decide (k < k) = false := decide_eq_false (by omega)
          obtain ⟨Al', cl', hle, hlc, hlr⟩ := own_segs HOs.out (pickL_len (by omega))
          have hln := own_none HOs.out
          cases hle
          rw [HLe.out] at hlr
          have HSt2 := hid (HSt.out Al cl wr hlr hlc hln)
          have HRl := hid hlr
          have HX2 := hid (box_below HX.out HBr.out (pst_lt2 HX.out))
          clear hlr
          have hGA : Hid (∀ W, Below wr.heap.size wr W → W.cell? ⟨B, 0, none⟩ = some (.int .i64 nd) ∧ W.cell? ⟨B, 1, none⟩ = some (.slice Ag i cg) ∧ GArg W nd Ag i cg (List.replicate i lkB)) := fun W hb => by
            have x2 := box_cells (box_below HX2.out hb (pst_lt2 HX2.out))
            have hb2 := HBr.out.trans (hb.mono HBr.out.size)
            exact ⟨x2.1, x2.2.1, HGr.out.on hb2, by omega, hgc, hgn, by omega, by omega⟩
          have y1 : ((k : Int) == (k : Int)) = true := beq_self_eq_true _
          have y2 : (k == k) = true := beq_self_eq_true _
          clear HX HX2 HO
          go_wp2_with (first
            | (go_at_call 8; (with_reducible refine HSt2.out.mono ?_); rintro e' w3 ⟨A3, c3, rfl, hc3, hr3, hb3⟩; obtain ⟨g0, g1, hga⟩ := hGA.out _ hb3; have HS3 := hid (HSs.out Ag cg A3 c3 w3 hga hr3 hc3.1 hc3.2); have HB3 := hid hb3; clear hga hr3 hc3 hb3)
            | (go_at_call 10; (with_reducible refine HS3.out.mono ?_); rintro e' w4 ⟨A4, c4, rfl, hr4, hb4⟩; have HSm := hid (sameSegs_any A4 Al k c4 cl L w4 hr4 ((HRl.out.on HB3.out).on hb4) (by omega)); have HB4 := hid (HB3.out.trans (hb4.mono HB3.out.size)); clear hr4 hb4)
            | (go_at_call 14; (with_reducible refine HSm.out.mono ?_); rintro e' w5 ⟨rfl, hb5⟩))
          go_ret
          have hf1 := Hw2.out.trans (HBr.out.mono Hw2.out.size)
          have hf2 := hf1.trans (HB4.out.mono hf1.size)
          exact ⟨rfl, hf2.trans (hb5.mono hf2.size)⟩
theorem fback_any (h : FibSpec 12 6 8 10) (nd lk : Int) (Ap : Option Addr) (np cp : Nat) (pk : List Int) (ttl : Int) (w : World) (hp : RInt w w.heap.size Ap np pk) (ht : J64 ttl) :
    Calls Try.prog 4 #[.int .i64 nd, .int .i64 lk, .slice Ap np cp, .int .i64 ttl] w fun e w' => e = .returned (.bool true) ∧ Below w.heap.size w w' := by
  have HA := hid (alive19 h w)
  by_cases c0 : nd < 2
  · have t0 : decide (nd < 2) = true := decide_eq_true (by omega)
    clear h hp ht c0
    go_enter Try.func4, Try.ntmps4
    go_wp2_with (go_at_call 5; (with_reducible refine HA.out.mono ?_); rintro e' w1 ⟨rfl, hb1⟩)
    go_ret
    exact ⟨rfl, hb1⟩
  · have t0 : decide (nd < 2) = false := decide_eq_false (by omega)
    by_cases c1 : 40 < nd
    · have t1 : decide ((40 : Int) < nd) = true := decide_eq_true (by omega)
      clear h hp ht c0 c1
      go_enter Try.func4, Try.ntmps4
      go_wp2_with (go_at_call 5; (with_reducible refine HA.out.mono ?_); rintro e' w1 ⟨rfl, hb1⟩)
      go_ret
      exact ⟨rfl, hb1⟩
    · have t1 : decide ((40 : Int) < nd) = false := decide_eq_false (by omega)
      by_cases c2 : lk < 1
      · have t2 : decide (lk < 1) = true := decide_eq_true (by omega)
        clear h hp ht c0 c1 c2
        go_enter Try.func4, Try.ntmps4
        go_wp2_with (go_at_call 5; (with_reducible refine HA.out.mono ?_); rintro e' w1 ⟨rfl, hb1⟩)
        go_ret
        exact ⟨rfl, hb1⟩
      · have t2 : decide (lk < 1) = false := decide_eq_false (by omega)
        by_cases c3 : 120 < lk
        · have t3 : decide ((120 : Int) < lk) = true := decide_eq_true (by omega)
          clear h hp ht c0 c1 c2 c3
          go_enter Try.func4, Try.ntmps4
          go_wp2_with (go_at_call 5; (with_reducible refine HA.out.mono ?_); rintro e' w1 ⟨rfl, hb1⟩)
          go_ret
          exact ⟨rfl, hb1⟩
        · have t3 : decide ((120 : Int) < lk) = false := decide_eq_false (by omega)
          by_cases c4 : 30 < np
          · have t4 : decide ((30 : Int) < (np : Int)) = true := decide_eq_true (by omega)
            clear h hp ht c0 c1 c2 c3 c4
            go_enter Try.func4, Try.ntmps4
            go_wp2_with (go_at_call 5; (with_reducible refine HA.out.mono ?_); rintro e' w1 ⟨rfl, hb1⟩)
            go_ret
            exact ⟨rfl, hb1⟩
          · have t4 : decide ((30 : Int) < (np : Int)) = false := decide_eq_false (by omega)
            obtain ⟨N, rfl⟩ := Int.eq_ofNat_of_zero_le (show 0 ≤ lk by omega)
            clear t0 t1 t2 t3 t4 HA
            exact fback_in h nd N Ap np cp pk ttl w hp (by omega) (by omega) (by omega) (by omega) (by omega) ht
end Go.Proofs.Ytjblhajmnlcfaaa
