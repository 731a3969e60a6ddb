/- Merged: PqA. -/
import Derived.Test.YtkemcgbedapkcaaG04
import Derived.Test.YtkemcgbedapkcaaG18
import Derived.Laws.Shifts
import Derived.Laws.CopyOwn
/- Cut out of PsA PsB PsC. -/
namespace Go.Proofs.Ytkemcgbedapkcaa
open Go.RowKit
set_option maxHeartbeats 12800000
set_option maxRecDepth 100000
theorem all_take_succ {L : List Int} {k : Nat} {x : Int} (p : Int → Bool) (h : L[k]? = some x) : (L.take (k + 1)).all p = ((L.take k).all p && p x) := by
  rw [List.take_add_one, h]; simp
theorem all_at {L : List Int} {k : Nat} {x : Int} {p : Int → Bool} (h : L[k]? = some x) (hp : p x = false) : L.all p = false := by
  have := List.mem_of_getElem? h
  rw [List.all_eq_false]
  exact ⟨x, this, by simp [hp]⟩
theorem below_any (m : Int) (A : Option Addr) (n c : Nat) (L : List Int) (w : World) (B : Nat) (hr : RInt w B A n L) (hn : n ≤ 1000000) : Calls Try.prog 77 #[.int .i64 m, .slice A n c] w fun e w' => e = .returned (.bool (L.all (nodeB m))) ∧ w = w' := by
  have HR := hid hr
  have hl := hr.1
  clear hr
  go_enter Try.func77, Try.ntmps77
  go_wp2_with fail
  go_loopw [9] (fun i wr => ∃ k : Nat, k ≤ n ∧ i = .int .i64 k ∧ wr = w ∧ Hid ((L.take k).all (nodeB m) = true)) (fun i _ => n - (intOf i).toNat)
  case atStart => exact ⟨0, Nat.zero_le _, rfl, rfl, hid (by simp)⟩
  case round =>
    obtain ⟨k, hk, rfl, hww, HQ⟩ := hrel
    have hws := hww.symm
    subst hws
    clear hww
    by_cases hlt : k < n
    · obtain ⟨x, hx⟩ : ∃ x, L[k]? = some x := ⟨L[k]'(by omega), List.getElem?_eq_getElem _⟩
      obtain ⟨b, off, rfl, hb, hc⟩ := HR.out.2 (by omega)
      have c0 := hc k x hx
      have HM := hid (all_take_succ (nodeB m) hx)
      have HF := hid (fun h : nodeB m x = false => all_at hx h)
      clear hc hx
      by_cases h1 : x < 0
      · have u1 : decide (x < 0) = true := by simpa using h1
        have HV := hid (HF.out (by unfold nodeB; rw [decide_eq_false (by omega : ¬ 0 ≤ x)]; rfl))
        clear h1
        go_wp2_with fail
        go_ret
        exact ⟨by rw [HV.out]; rfl, rfl⟩
      · have u1 : decide (x < 0) = false := by simpa using h1
        by_cases h2 : m ≤ x
        · have u2 : decide (m ≤ x) = true := by simpa using h2
          have HV := hid (HF.out (by unfold nodeB; rw [decide_eq_false (by omega : ¬ x < m), Bool.and_false]))
          clear h1 h2
          go_wp2_with fail
          go_ret
          exact ⟨by rw [HV.out]; rfl, rfl⟩
        · have u2 : decide (m ≤ x) = false := by simpa using h2
          have HQ2 : Hid ((L.take (k + 1)).all (nodeB m) = true) := by
            show _ = _
            rw [HM.out, HQ.out]
            unfold nodeB
            rw [decide_eq_true (by omega : 0 ≤ x), decide_eq_true (by omega : x < m)]; rfl
          clear h1 h2
          go_wp2_with fail
          go_roundw
          case rel => exact ⟨k + 1, by omega, by go_num, by first | rfl | trivial, HQ2.out⟩
          case measure => simp [intOf]; omega
    · obtain rfl : n = k := by omega
      have HV : Hid (L.all (nodeB m) = true) := by
        have := HQ.out
        rw [List.take_of_length_le (by omega)] at this
        exact this
      go_wp2_with fail
      go_ret
      exact ⟨by rw [HV.out]; rfl, rfl⟩
/-- A mask that holds just the numbers of a list. -/
def Mask (s : Nat) (L : List Int) : Prop := s < 18446744073709551616 ∧ ∀ i : Nat, i < 64 → s.testBit i = decide ((i : Int) ∈ L)
theorem mask_nil : Mask 0 [] := ⟨by decide, fun i _ => by simp⟩
theorem bit_lt {i : Nat} (h : i < 64) : 2 ^ i < 18446744073709551616 := by
  have : 2 ^ i ≤ 2 ^ 63 := Nat.pow_le_pow_right (by decide) (by omega)
  omega
theorem shl_one (i : Nat) (h : i < 64) : IntKind.u64.wrap (2 ^ i) = ((2 ^ i : Nat) : Int) := by
  have h2 := bit_lt h
  rw [IntKind.wrap_u64, show ((2 : Int) ^ i) = ((2 ^ i : Nat) : Int) from by push_cast; rfl]
  generalize 2 ^ i = p at h2 ⊢
  omega
theorem mask_or {s : Nat} {L : List Int} {i : Nat} (h : Mask s L) (hi : i < 64) : Mask (s ||| 2 ^ i) (L ++ [(i : Int)]) := by
  refine ⟨?_, fun j hj => ?_⟩
  · have : s ||| 2 ^ i < 2 ^ 64 := Nat.or_lt_two_pow (by have := h.1; omega) (by have := bit_lt hi; omega)
    omega
  · rw [Nat.testBit_or, h.2 j hj, Nat.testBit_two_pow]
    simp only [List.mem_append, List.mem_singleton, Bool.decide_or]
    congr 1
    rw [decide_eq_decide]
    omega
def maskS (L : List Int) : Nat := L.foldl (fun s v => s ||| 2 ^ v.toNat) 0
theorem maskS_snoc (L : List Int) (v : Int) : maskS (L ++ [v]) = maskS L ||| 2 ^ v.toNat := by
  unfold maskS; rw [List.foldl_append]; rfl
theorem mask_take (L : List Int) (hL : ∀ v ∈ L, 0 ≤ v ∧ v < 64) : ∀ k : Nat, k ≤ L.length → Mask (maskS (L.take k)) (L.take k)
  | 0, _ => by simpa [maskS] using mask_nil
  | k + 1, hk => by
    have ih := mask_take L hL k (by omega)
    have hx : L[k]? = some L[k] := List.getElem?_eq_getElem (by omega)
    obtain ⟨h0, h1⟩ := hL L[k] (List.getElem_mem _)
    obtain ⟨i, hi⟩ := Int.eq_ofNat_of_zero_le h0
    rw [List.take_add_one, hx, Option.toList_some, maskS_snoc, hi, Int.toNat_natCast]
    exact mask_or ih (by omega)
theorem mask_all (L : List Int) (hL : ∀ v ∈ L, 0 ≤ v ∧ v < 64) : Mask (maskS L) L := by
  have := mask_take L hL L.length (Nat.le_refl _)
  rwa [List.take_length] at this
theorem setOf_any (A : Option Addr) (n c : Nat) (L : List Int) (w : World) (B : Nat) (hr : RInt w B A n L) (hn : n ≤ 1000000) (hL : ∀ v ∈ L, 0 ≤ v ∧ v < 64) :
    Calls Try.prog 79 #[.slice A n c] w fun e w' => e = .returned (.int .u64 (maskS L : Int)) ∧ w = w' := by
  have HR := hid hr
  have hl := hr.1
  have HL := hid hL
  have HT := hid (mask_take L hL)
  clear hr hL
  go_enter Try.func79, Try.ntmps79
  go_wp2_with fail
  go_loopw [3, 8] (fun t i wr => ∃ k s : Nat, k ≤ n ∧ i = .int .i64 k ∧ t = .int .u64 (s : Int) ∧ wr = w ∧ Hid (s = maskS (L.take k))) (fun _ i _ => n - (intOf i).toNat)
  case atStart => exact ⟨0, 0, Nat.zero_le _, rfl, rfl, rfl, hid (by simp [maskS])⟩
  case round =>
    obtain ⟨k, s, hk, rfl, rfl, hww, HQ⟩ := hrel
    have hws := hww.symm
    subst hws
    clear hww
    by_cases hlt : k < n
    · obtain ⟨x, hx⟩ : ∃ x, L[k]? = some x := ⟨L[k]'(by omega), List.getElem?_eq_getElem _⟩
      obtain ⟨b, off, rfl, hb, hc⟩ := HR.out.2 (by omega)
      have c0 := hc k x hx
      obtain ⟨hx0, hx1⟩ := HL.out x (List.mem_of_getElem? hx)
      obtain ⟨i, rfl⟩ := Int.eq_ofNat_of_zero_le hx0
      have HE := hid (shl_one i (by omega))
      have HO := hid (u64_or_nat s (2 ^ i) (by have := (HT.out k (by omega)).1; rw [← HQ.out] at this; exact this) (bit_lt (by omega)))
      have HM : Hid (s ||| 2 ^ i = maskS (L.take (k + 1))) := by
        show _ = _
        rw [List.take_add_one, hx, Option.toList_some, maskS_snoc, Int.toNat_natCast, HQ.out]
      clear hc hx
      go_wp2_with fail
      go_roundw
      case rel => exact ⟨k + 1, s ||| 2 ^ i, by omega, by go_num, by rw [HE.out, HO.out], by first | rfl | trivial, HM.out⟩
      case measure => simp [intOf]; omega
    · obtain rfl : n = k := by omega
      have HV : Hid (s = maskS L) := by
        have := HQ.out
        rw [List.take_of_length_le (by omega)] at this
        exact this
      go_wp2_with fail
      go_ret
      exact ⟨by rw [← HV.out]; rfl, rfl⟩
theorem mask_has {s : Nat} {L : List Int} {i : Nat} (h : Mask s L) (hi : i < 64) : (bits .and .u64 ((s : Int) / 2 ^ i) 1 == 1) = decide ((i : Int) ∈ L) := by
  rw [← h.2 i hi, show ((s : Int) / 2 ^ i) = ((s / 2 ^ i : Nat) : Int) from by push_cast; rfl]
  have h1 : s / 2 ^ i < 18446744073709551616 := Nat.lt_of_le_of_lt (Nat.div_le_self _ _) h.1
  have h2 := u64_and_nat (s / 2 ^ i) 1 h1 (by decide)
  rw [show ((1 : Nat) : Int) = 1 from rfl] at h2
  rw [h2, Nat.testBit_eq_decide_div_mod_eq, Nat.and_one_is_mod]
  rw [Bool.eq_iff_iff]
  simp only [beq_iff_eq, decide_eq_true_eq]
  omega
theorem hasBit_any (s : Nat) (L : List Int) (v : Int) (w : World) (h : Mask s L) (h0 : 0 ≤ v) (h1 : v < 64) : Calls Try.prog 80 #[.int .u64 (s : Int), .int .i64 v] w fun e w' => e = .returned (.bool (decide (v ∈ L))) ∧ w = w' := by
  obtain ⟨i, rfl⟩ := Int.eq_ofNat_of_zero_le h0
  have HB := hid (mask_has h (i := i) (by omega))
  have hm : min i 64 = i := by omega
  clear h
  go_enter Try.func80, Try.ntmps80
  go_wp2_with fail
  go_ret
  exact ⟨by rw [HB.out]; rfl, rfl⟩
theorem ints_new2 (w : World) (a b : Int) : RInt (w.alloc (.cells #[.int .i64 a, .int .i64 b] 3)) (w.alloc (.cells #[.int .i64 a, .int .i64 b] 3)).heap.size (some ⟨w.heap.size, 0, none⟩) 2 [a, b] := by
  refine ⟨rfl, fun _ => ⟨w.heap.size, 0, rfl, by simp, fun i x hx => ?_⟩⟩
  rw [cell_of_row _ _ _ _ _ _ (heap_alloc_new w _)]
  match i, hx with
  | 0, hx => cases hx; rfl
  | 1, hx => cases hx; rfl
theorem any_not_all (L : List Int) (p : Int → Bool) : L.any (fun v => !p v) = !L.all p := by
  induction L with
  | nil => rfl
  | cons x t ih => rw [List.any_cons, List.all_cons, ih, Bool.not_and]
theorem colB_nodeB (c : Int) : colB c = nodeB 63 c := by
  unfold colB nodeB
  congr 1
  rw [decide_eq_decide]; omega
theorem rightP_bad (nd : Int) (A : Option Addr) (n c : Nat) (l : List Lnk) (x : Wnt) (y : WSl) (w : World) (hr : RLnk w w.heap.size A n l) (h : (checkS nd l).2 ≠ 0) :
    Calls Try.prog 66 #[.agg #[.int .i64 nd, .slice A n c], .agg #[.int .i64 x.frm, .int .i64 x.too, .int .i64 x.bnd, .slice y.av y.nv y.cv, .slice y.an y.nn y.cn, .slice y.al y.nl y.cl, .slice y.ac y.nc y.cc]] w fun e w' => e = .returned (.int .i64 (rightS nd l x)) ∧ Below w.heap.size w w' := by
  have Q : rightS nd l x = (checkS nd l).2 := by unfold rightS; rw [if_pos h]
  rw [Q]
  have hS := Held2.start w nd A n c x y
  have HK := hid (fun (w' : World) (h : Held2 w nd A n c x y w') => h.calls (check_any nd A n c l w' ((hr.below h.1).more h.1.size)))
  obtain ⟨k1, hk1⟩ : ∃ k1, (checkS nd l).1 = k1 := ⟨_, rfl⟩
  obtain ⟨k2, hk2⟩ : ∃ k2, (checkS nd l).2 = k2 := ⟨_, rfl⟩
  rw [hk1, hk2] at HK
  rw [hk2] at h ⊢
  have t0 : (k2 != 0) = true := by simpa using h
  obtain ⟨g0, g1⟩ := hS.g
  clear hr h hk1 hk2 Q
  go_enter Try.func66, Try.ntmps66
  go_wp2_with (go_at_call 26; (with_reducible refine (HK.out _ hS).mono ?_); rintro e' w2 ⟨rfl, h2⟩)
  go_ret
  exact ⟨rfl, h2.1⟩
theorem rightP_in (nd : Int) (A : Option Addr) (n c : Nat) (l : List Lnk) (x : Wnt) (y : WSl) (w : World) (hr : RLnk w w.heap.size A n l) (hw : WArg w x y) (h : (checkS nd l).2 = 0) (hv1 : y.nv ≤ 1000) (hv2 : y.nn ≤ 1000) (hv3 : y.nl ≤ 1000) (hv4 : y.nc ≤ 1000) :
    Calls Try.prog 66 #[.agg #[.int .i64 nd, .slice A n c], .agg #[.int .i64 x.frm, .int .i64 x.too, .int .i64 x.bnd, .slice y.av y.nv y.cv, .slice y.an y.nn y.cn, .slice y.al y.nl y.cl, .slice y.ac y.nc y.cc]] w fun e w' => e = .returned (.int .i64 (rightS nd l x)) ∧ Below w.heap.size w w' := by
  have hS := Held2.start w nd A n c x y
  have hl := hr.1
  have HK := hid (fun (w' : World) (h : Held2 w nd A n c x y w') => h.calls (check_any nd A n c l w' ((hr.below h.1).more h.1.size)))
  obtain ⟨k1, hk1⟩ : ∃ k1, (checkS nd l).1 = k1 := ⟨_, rfl⟩
  rw [hk1, h] at HK
  have t0 : ((0 : Int) != 0) = false := by decide
  obtain ⟨g0, g1⟩ := hS.g
  have HN1 := hid (fun (w' : World) (_ : Held2 w nd A n c x y w') => below_any nd (some ⟨w'.heap.size, 0, none⟩) 2 2 [x.frm, x.too] (w'.alloc (.cells #[.int .i64 x.frm, .int .i64 x.too] 3)) _ (ints_new2 w' x.frm x.too) (by omega))
  have HN2 := hid (fun (w' : World) (h : Held2 w nd A n c x y w') => below_any nd y.av y.nv y.cv x.via w' _ (hw.on h.1).via.row (by omega))
  have HN3 := hid (fun (w' : World) (h : Held2 w nd A n c x y w') => below_any nd y.an y.nn y.cn x.nds w' _ (hw.on h.1).nds.row (by omega))
  have HN4 := hid (fun (w' : World) (h : Held2 w nd A n c x y w') => below_any (n : Int) y.al y.nl y.cl x.lks w' _ (hw.on h.1).lks.row (by omega))
  have HN5 := hid (fun (w' : World) (h : Held2 w nd A n c x y w') => below_any 63 y.ac y.nc y.cc x.cls w' _ (hw.on h.1).cls.row (by omega))
  have HNx := hid (fun (w' : World) (h : Held2 w nd A n c x y w') => h.next (Below.alloc (Below.refl w'.heap.size _) (Nat.le_refl _) (.cells #[.int .i64 x.frm, .int .i64 x.too] 3)))
  have HB : Hid (badB nd x = (!([x.frm, x.too].all (nodeB nd)) || !(x.via.all (nodeB nd)) || !(x.nds.all (nodeB nd)))) := by
    show _ = _
    unfold badB
    rw [any_not_all, any_not_all]
    simp only [List.all_cons, List.all_nil, Bool.and_true, Bool.not_and]
  obtain ⟨b1, hb1⟩ : ∃ b, [x.frm, x.too].all (nodeB nd) = b := ⟨_, rfl⟩
  obtain ⟨b2, hb2⟩ : ∃ b, x.via.all (nodeB nd) = b := ⟨_, rfl⟩
  obtain ⟨b3, hb3⟩ : ∃ b, x.nds.all (nodeB nd) = b := ⟨_, rfl⟩
  obtain ⟨b4, hb4⟩ : ∃ b, x.lks.all (nodeB (n : Int)) = b := ⟨_, rfl⟩
  obtain ⟨b5, hb5⟩ : ∃ b, x.cls.all (nodeB 63) = b := ⟨_, rfl⟩
  rw [hb1] at HN1 HB; rw [hb2] at HN2 HB; rw [hb3] at HN3 HB; rw [hb4] at HN4; rw [hb5] at HN5
  have HR : Hid (rightS nd l x = if badB nd x = true then 4 else if b4 = false then 5 else if b5 = false then 1 else if x.bnd < 0 then 1 else if 4 < y.nv then 6 else 0) := by
    show _ = _
    unfold rightS
    rw [if_neg (fun hh => hh h), any_not_all, hl, hb4, hw.via.row.1, show (fun c => !colB c) = (fun c => !nodeB 63 c) from funext fun c => by rw [colB_nodeB], any_not_all, hb5]
    simp only [Bool.not_eq_true']
  rw [HB.out] at HR
  clear hr hw h hk1 HB hb1 hb2 hb3 hb4 hb5
  cases b1 with
  | false =>
    have HV : Hid (rightS nd l x = 4) := by show _ = _; rw [HR.out]; simp
    clear HR
    go_enter Try.func66, Try.ntmps66
    go_wp2_with (first
      | (go_at_call 26; (with_reducible refine (HK.out _ hS).mono ?_); rintro e' w2 ⟨rfl, h2⟩; obtain ⟨q0, q1⟩ := h2.g; obtain ⟨q2, q3, q4, q5, q6, q7, q8⟩ := h2.v; have h3 := HNx.out _ h2; obtain ⟨p0, p1⟩ := h3.g; obtain ⟨p2, p3, p4, p5, p6, p7, p8⟩ := h3.v)
      | (go_at_call 77; (first | with_reducible refine (HN1.out _ h2).mono ?_ | with_reducible refine (HN2.out _ h3).mono ?_ | with_reducible refine (HN3.out _ h3).mono ?_ | with_reducible refine (HN4.out _ h3).mono ?_ | with_reducible refine (HN5.out _ h3).mono ?_); rintro _ _ ⟨rfl, rfl⟩))
    go_ret
    exact ⟨by rw [HV.out]; rfl, h3.1⟩
  | true =>
    cases b2 with
    | false =>
      have HV : Hid (rightS nd l x = 4) := by show _ = _; rw [HR.out]; simp
      clear HR
      go_enter Try.func66, Try.ntmps66
      go_wp2_with (first
        | (go_at_call 26; (with_reducible refine (HK.out _ hS).mono ?_); rintro e' w2 ⟨rfl, h2⟩; obtain ⟨q0, q1⟩ := h2.g; obtain ⟨q2, q3, q4, q5, q6, q7, q8⟩ := h2.v; have h3 := HNx.out _ h2; obtain ⟨p0, p1⟩ := h3.g; obtain ⟨p2, p3, p4, p5, p6, p7, p8⟩ := h3.v)
        | (go_at_call 77; (first | with_reducible refine (HN1.out _ h2).mono ?_ | with_reducible refine (HN2.out _ h3).mono ?_ | with_reducible refine (HN3.out _ h3).mono ?_ | with_reducible refine (HN4.out _ h3).mono ?_ | with_reducible refine (HN5.out _ h3).mono ?_); rintro _ _ ⟨rfl, rfl⟩))
      go_ret
      exact ⟨by rw [HV.out]; rfl, h3.1⟩
    | true =>
      cases b3 with
      | false =>
        have HV : Hid (rightS nd l x = 4) := by show _ = _; rw [HR.out]; simp
        clear HR
        go_enter Try.func66, Try.ntmps66
        go_wp2_with (first
          | (go_at_call 26; (with_reducible refine (HK.out _ hS).mono ?_); rintro e' w2 ⟨rfl, h2⟩; obtain ⟨q0, q1⟩ := h2.g; obtain ⟨q2, q3, q4, q5, q6, q7, q8⟩ := h2.v; have h3 := HNx.out _ h2; obtain ⟨p0, p1⟩ := h3.g; obtain ⟨p2, p3, p4, p5, p6, p7, p8⟩ := h3.v)
          | (go_at_call 77; (first | with_reducible refine (HN1.out _ h2).mono ?_ | with_reducible refine (HN2.out _ h3).mono ?_ | with_reducible refine (HN3.out _ h3).mono ?_ | with_reducible refine (HN4.out _ h3).mono ?_ | with_reducible refine (HN5.out _ h3).mono ?_); rintro _ _ ⟨rfl, rfl⟩))
        go_ret
        exact ⟨by rw [HV.out]; rfl, h3.1⟩
      | true =>
        cases b4 with
        | false =>
          have HV : Hid (rightS nd l x = 5) := by show _ = _; rw [HR.out]; simp
          clear HR
          go_enter Try.func66, Try.ntmps66
          go_wp2_with (first
            | (go_at_call 26; (with_reducible refine (HK.out _ hS).mono ?_); rintro e' w2 ⟨rfl, h2⟩; obtain ⟨q0, q1⟩ := h2.g; obtain ⟨q2, q3, q4, q5, q6, q7, q8⟩ := h2.v; have h3 := HNx.out _ h2; obtain ⟨p0, p1⟩ := h3.g; obtain ⟨p2, p3, p4, p5, p6, p7, p8⟩ := h3.v)
            | (go_at_call 77; (first | with_reducible refine (HN1.out _ h2).mono ?_ | with_reducible refine (HN2.out _ h3).mono ?_ | with_reducible refine (HN3.out _ h3).mono ?_ | with_reducible refine (HN4.out _ h3).mono ?_ | with_reducible refine (HN5.out _ h3).mono ?_); rintro _ _ ⟨rfl, rfl⟩))
          go_ret
          exact ⟨by rw [HV.out]; rfl, h3.1⟩
        | true =>
          cases b5 with
          | false =>
            have HV : Hid (rightS nd l x = 1) := by show _ = _; rw [HR.out]; simp
            clear HR
            go_enter Try.func66, Try.ntmps66
            go_wp2_with (first
              | (go_at_call 26; (with_reducible refine (HK.out _ hS).mono ?_); rintro e' w2 ⟨rfl, h2⟩; obtain ⟨q0, q1⟩ := h2.g; obtain ⟨q2, q3, q4, q5, q6, q7, q8⟩ := h2.v; have h3 := HNx.out _ h2; obtain ⟨p0, p1⟩ := h3.g; obtain ⟨p2, p3, p4, p5, p6, p7, p8⟩ := h3.v)
              | (go_at_call 77; (first | with_reducible refine (HN1.out _ h2).mono ?_ | with_reducible refine (HN2.out _ h3).mono ?_ | with_reducible refine (HN3.out _ h3).mono ?_ | with_reducible refine (HN4.out _ h3).mono ?_ | with_reducible refine (HN5.out _ h3).mono ?_); rintro _ _ ⟨rfl, rfl⟩))
            go_ret
            exact ⟨by rw [HV.out]; rfl, h3.1⟩
          | true =>
            by_cases c1 : x.bnd < 0
            · have u1 : decide (x.bnd < 0) = true := by simpa using c1
              have HV : Hid (rightS nd l x = 1) := by show _ = _; rw [HR.out]; simp [c1]
              clear HR c1
              go_enter Try.func66, Try.ntmps66
              go_wp2_with (first
                | (go_at_call 26; (with_reducible refine (HK.out _ hS).mono ?_); rintro e' w2 ⟨rfl, h2⟩; obtain ⟨q0, q1⟩ := h2.g; obtain ⟨q2, q3, q4, q5, q6, q7, q8⟩ := h2.v; have h3 := HNx.out _ h2; obtain ⟨p0, p1⟩ := h3.g; obtain ⟨p2, p3, p4, p5, p6, p7, p8⟩ := h3.v)
                | (go_at_call 77; (first | with_reducible refine (HN1.out _ h2).mono ?_ | with_reducible refine (HN2.out _ h3).mono ?_ | with_reducible refine (HN3.out _ h3).mono ?_ | with_reducible refine (HN4.out _ h3).mono ?_ | with_reducible refine (HN5.out _ h3).mono ?_); rintro _ _ ⟨rfl, rfl⟩))
              go_ret
              exact ⟨by rw [HV.out]; rfl, h3.1⟩
            · have u1 : decide (x.bnd < 0) = false := by simpa using c1
              by_cases c2 : 4 < y.nv
              · have u2 : decide ((4 : Int) < (y.nv : Int)) = true := by simp; omega
                have HV : Hid (rightS nd l x = 6) := by show _ = _; rw [HR.out]; simp [c1, c2]
                clear HR c1 c2
                go_enter Try.func66, Try.ntmps66
                go_wp2_with (first
                  | (go_at_call 26; (with_reducible refine (HK.out _ hS).mono ?_); rintro e' w2 ⟨rfl, h2⟩; obtain ⟨q0, q1⟩ := h2.g; obtain ⟨q2, q3, q4, q5, q6, q7, q8⟩ := h2.v; have h3 := HNx.out _ h2; obtain ⟨p0, p1⟩ := h3.g; obtain ⟨p2, p3, p4, p5, p6, p7, p8⟩ := h3.v)
                  | (go_at_call 77; (first | with_reducible refine (HN1.out _ h2).mono ?_ | with_reducible refine (HN2.out _ h3).mono ?_ | with_reducible refine (HN3.out _ h3).mono ?_ | with_reducible refine (HN4.out _ h3).mono ?_ | with_reducible refine (HN5.out _ h3).mono ?_); rintro _ _ ⟨rfl, rfl⟩))
                go_ret
                exact ⟨by rw [HV.out]; rfl, h3.1⟩
              · have u2 : decide ((4 : Int) < (y.nv : Int)) = false := by simp; omega
                have HV : Hid (rightS nd l x = 0) := by show _ = _; rw [HR.out]; simp [c1, c2]
                clear HR c1 c2
                go_enter Try.func66, Try.ntmps66
                go_wp2_with (first
                  | (go_at_call 26; (with_reducible refine (HK.out _ hS).mono ?_); rintro e' w2 ⟨rfl, h2⟩; obtain ⟨q0, q1⟩ := h2.g; obtain ⟨q2, q3, q4, q5, q6, q7, q8⟩ := h2.v; have h3 := HNx.out _ h2; obtain ⟨p0, p1⟩ := h3.g; obtain ⟨p2, p3, p4, p5, p6, p7, p8⟩ := h3.v)
                  | (go_at_call 77; (first | with_reducible refine (HN1.out _ h2).mono ?_ | with_reducible refine (HN2.out _ h3).mono ?_ | with_reducible refine (HN3.out _ h3).mono ?_ | with_reducible refine (HN4.out _ h3).mono ?_ | with_reducible refine (HN5.out _ h3).mono ?_); rintro _ _ ⟨rfl, rfl⟩))
                go_ret
                exact ⟨by rw [HV.out]; rfl, h3.1⟩
theorem right_spec : RightSpec 66 := fun nd A n c l x y w hg hw h1 h2 h3 h4 => by
  by_cases h : (checkS nd l).2 = 0
  · exact rightP_in nd A n c l x y w hg.row hw h (by omega) (by omega) (by omega) (by omega)
  · exact rightP_bad nd A n c l x y w hg.row h
def blc (L : List Bool) : List Value := L.map Value.bool
theorem blc_one (L : List Bool) : ∀ v ∈ blc L, v.oneCell' = true := by
  intro v hv
  simp only [blc, List.mem_map] at hv
  obtain ⟨b, _, rfl⟩ := hv
  rfl
theorem BRow.arr {w : World} {G N : Nat} {H : Nat → Bool} (h : BRow w G N H) : w.heap[G]? = some (.cells (blc ((List.range N).map H)).toArray 4 (0, 0)) := by
  obtain ⟨cs, h1, h2, h3⟩ := h
  rw [h1]
  congr 2
  apply Array.ext_getElem?
  intro i
  rcases Nat.lt_or_ge i N with hi | hi
  · rw [h3 i hi]; simp [blc, List.getElem?_range hi]
  · rw [Array.getElem?_eq_none (by omega)]
    simp [blc, hi]
theorem BRow.ofArr {w : World} {G N : Nat} {L : List Bool} {H : Nat → Bool} (h : w.heap[G]? = some (.cells (blc L).toArray 4 (0, 0))) (hL : L.length = N) (hH : ∀ i, i < N → L[i]? = some (H i)) : BRow w G N H :=
  ⟨_, h, by simp [blc, hL], fun e he => by simp [blc, hH e he]⟩
theorem splice_blc (a b : List Bool) : splice (blc a) 0 (blc b) = blc (splice a 0 b) := by simp [splice, blc]
theorem RBl.src {w : World} {B n m : Nat} {A : Option Addr} {l : List Bool} (h : RBl w B A n l) (hm : m ≤ n) (h0 : 0 < (blc (l.take m)).length) : ∃ ad, A = some ad ∧ ∀ (j : Nat) (v : Value), (blc (l.take m))[j]? = some v → w.cell? (ad.add j) = some v := by
  have h1 := h.1
  have h2 : 0 < n := by simp [blc] at h0; omega
  obtain ⟨b, off, rfl, _, hc⟩ := h.2 h2
  refine ⟨_, rfl, fun j v hv => ?_⟩
  rw [Go.WideShapes.add_plain]
  simp only [blc, List.getElem?_map, Option.map_eq_some_iff] at hv
  obtain ⟨x, hx, rfl⟩ := hv
  rw [List.getElem?_take] at hx
  split at hx
  · exact hc j x hx
  · cases hx
theorem copy_row {n n' : Nat} {dn : List Bool} {w : World} {G : Nat} (hd : dn.length = n') (h : w.heap[G]? = some (.cells (splice (blc ((List.range n).map fun _ => false)) 0 (blc (dn.take (Nat.min n' n)))).toArray 4 (0, 0))) : BRow w G n (isDn dn) := by
  rw [splice_blc] at h
  have hm : Nat.min n' n = min n' n := rfl
  refine BRow.ofArr h (by simp [splice, hm]; omega) fun i hi => ?_
  simp only [splice, List.take_zero, List.nil_append, Nat.zero_add]
  have hlen : (dn.take (Nat.min n' n)).length = min n' n := by simp [hm]; omega
  rw [hlen]
  rcases Nat.lt_or_ge i (min n' n) with h1 | h1
  · rw [List.getElem?_append_left (by rw [hlen]; exact h1), List.getElem?_take_of_lt (by rw [hm]; exact h1)]
    unfold isDn
    rw [List.getD_eq_getElem?_getD, List.getElem?_eq_getElem (by omega)]; rfl
  · rw [List.getElem?_append_right (by rw [hlen]; exact h1), hlen]
    unfold isDn
    rw [List.getD_eq_getElem?_getD, show dn[i]? = none from List.getElem?_eq_none (by omega)]
    rw [List.getElem?_drop, List.getElem?_map, List.getElem?_range (by omega)]; rfl
theorem downP_not (nd : Int) (A : Option Addr) (n c : Nat) (l : List Lnk) (x : Wnt) (y : WSl) (Ad : Option Addr) (n' c' : Nat) (dn : List Bool) (w : World) (hg : GArg w nd A n c l) (hw : WArg w x y) (hv1 : y.nv ≤ 100) (hv2 : y.nn ≤ 100) (hv3 : y.nl ≤ 100) (hv4 : y.nc ≤ 100) (h : rightS nd l x ≠ 0) :
    Calls Try.prog 68 #[.agg #[.int .i64 nd, .slice A n c], .agg #[.int .i64 x.frm, .int .i64 x.too, .int .i64 x.bnd, .slice y.av y.nv y.cv, .slice y.an y.nn y.cn, .slice y.al y.nl y.cl, .slice y.ac y.nc y.cc], .slice Ad n' c'] w (BlAns (prunedS nd l x dn) w) := by
  have Q : prunedS nd l x dn = [] := by unfold prunedS; rw [if_neg h]
  rw [Q]
  have hS := Held2.start w nd A n c x y
  have HR := hid (fun (w' : World) (h : Held2 w nd A n c x y w') => h.calls (right_spec nd A n c l x y w' (hg.on h.1) (hw.on h.1) hv1 hv2 hv3 hv4))
  obtain ⟨r, hrr⟩ : ∃ r, rightS nd l x = r := ⟨_, rfl⟩
  rw [hrr] at HR
  have t1 : (r != 0) = true := by rw [← hrr]; simpa using h
  obtain ⟨g0, g1⟩ := hS.g
  obtain ⟨g2, g3, g4, g5, g6, g7, g8⟩ := hS.v
  clear hg hw h hrr Q
  go_enter Try.func68, Try.ntmps68
  go_wp2_with (go_at_call 66; (with_reducible refine (HR.out _ hS).mono ?_); rintro e' w2 ⟨rfl, h2⟩)
  go_ret
  exact blAns_nil _ _ h2.1
theorem right_zero {nd : Int} {l : List Lnk} {x : Wnt} (h : rightS nd l x = 0) : (checkS nd l).2 = 0 ∧ (∀ v ∈ x.nds, 0 ≤ v ∧ v < nd) ∧ (∀ v ∈ x.lks, 0 ≤ v ∧ v < (l.length : Int)) ∧ (∀ v ∈ x.cls, 0 ≤ v ∧ v < 63) := by
  unfold rightS at h
  split at h
  · omega
  rename_i h1
  split at h
  · omega
  rename_i h2
  split at h
  · omega
  rename_i h3
  split at h
  · omega
  rename_i h4
  have h1' : (checkS nd l).2 = 0 := by omega
  refine ⟨h1', ?_, ?_, ?_⟩
  · intro v hv
    have hb : x.nds.any (fun v => !nodeB nd v) = false := by
      cases hq : x.nds.any (fun v => !nodeB nd v) with
      | false => rfl
      | true => exact absurd (by unfold badB; rw [hq, Bool.or_true]) h2
    have := List.any_eq_false.1 hb v hv
    simpa [nodeB] using this
  · intro v hv
    have := List.any_eq_false.1 (Bool.eq_false_iff.2 h3) v hv
    simpa [nodeB] using this
  · intro v hv
    have := List.any_eq_false.1 (Bool.eq_false_iff.2 h4) v hv
    have h5 : 0 ≤ v ∧ v ≤ 62 := by simpa [colB] using this
    omega
theorem downP_in (nd : Int) (A : Option Addr) (n c : Nat) (l : List Lnk) (x : Wnt) (y : WSl) (Ad : Option Addr) (n' c' : Nat) (dn : List Bool) (w : World) (hg : GArg w nd A n c l) (hw : WArg w x y) (hd : DArg w Ad n' c' dn) (hv1 : y.nv ≤ 100) (hv2 : y.nn ≤ 100) (hv3 : y.nl ≤ 100) (hv4 : y.nc ≤ 100) (h : rightS nd l x = 0) (hnd : nd ≤ 40) (hL : ∀ z ∈ l, (0 ≤ z.a ∧ z.a < nd) ∧ (0 ≤ z.b ∧ z.b < nd) ∧ (0 ≤ z.c ∧ z.c ≤ 62)) :
    Calls Try.prog 68 #[.agg #[.int .i64 nd, .slice A n c], .agg #[.int .i64 x.frm, .int .i64 x.too, .int .i64 x.bnd, .slice y.av y.nv y.cv, .slice y.an y.nn y.cn, .slice y.al y.nl y.cl, .slice y.ac y.nc y.cc], .slice Ad n' c'] w (BlAns (prunedS nd l x dn) w) := by
  have Q : prunedS nd l x dn = (List.range l.length).map (cutB l x dn) := by unfold prunedS; rw [if_pos h]
  rw [Q]
  have hl := hg.row.1
  have hn := hg.len
  have hn' := hd.len
  obtain ⟨_, hz2, hz3, hz4⟩ := right_zero h
  rw [hl] at hz3
  rw [hl]
  have hS := Held2.start w nd A n c x y
  have HR := hid (fun (w' : World) (h : Held2 w nd A n c x y w') => h.calls (right_spec nd A n c l x y w' (hg.on h.1) (hw.on h.1) hv1 hv2 hv3 hv4))
  rw [h] at HR
  have t0 : ((0 : Int) != 0) = false := by decide
  have H1 := hid (fun (w' : World) (h : Held2 w nd A n c x y w') => setOf_any y.an y.nn y.cn x.nds w' _ (hw.on h.1).nds.row (by omega) (fun v hv => ⟨(hz2 v hv).1, by have := (hz2 v hv).2; omega⟩))
  have H2 := hid (fun (w' : World) (h : Held2 w nd A n c x y w') => setOf_any y.ac y.nc y.cc x.cls w' _ (hw.on h.1).cls.row (by omega) (fun v hv => ⟨(hz4 v hv).1, by have := (hz4 v hv).2; omega⟩))
  have M1 := mask_all x.nds (fun v hv => ⟨(hz2 v hv).1, by have := (hz2 v hv).2; omega⟩)
  have M2 := mask_all x.cls (fun v hv => ⟨(hz4 v hv).1, by have := (hz4 v hv).2; omega⟩)
  obtain ⟨s1, hs1⟩ : ∃ s, maskS x.nds = s := ⟨_, rfl⟩
  obtain ⟨s2, hs2⟩ : ∃ s, maskS x.cls = s := ⟨_, rfl⟩
  rw [hs1] at H1 M1
  rw [hs2] at H2 M2
  have H3 := hid (fun (v : Int) (w' : World) (h0 : 0 ≤ v) (h1 : v < 64) => hasBit_any s1 x.nds v w' M1 h0 h1)
  have H4 := hid (fun (v : Int) (w' : World) (h0 : 0 ≤ v) (h1 : v < 64) => hasBit_any s2 x.cls v w' M2 h0 h1)
  obtain ⟨i5, hi, hz0, hz1, hzb⟩ := info_parts (show (Try.prog.info? 4).map (fun i => (i.zero, i.size, i.bytes)) = some (some (.bool false), 1, 1) by kernel_rfl)
  have Ai := hid hi; have Az0 := hid hz0; have Az1 := hid hz1; have Az2 := hid hzb
  have Asz : Hid ((Try.prog.info? 4).map (·.size) = some 1) := by show _ = _; rw [hi]; simp [hz1]
  clear hi hz0 hz1 hzb
  have HRL := hid hg.row
  have HD := hid hd.row
  have HDl := hid hd.row.1
  have HWl := hid hw.lks.row
  have HLl := hid hw.lks.row.1
  have HZ3 := hid hz3
  have HZL := hid hL
  obtain ⟨g0, g1⟩ := hS.g
  obtain ⟨g2, g3, g4, g5, g6, g7, g8⟩ := hS.v
  clear hg hw h hd Q hz2 hz3 hz4 hs1 hs2 M1 M2 hL
  go_enter Try.func68, Try.ntmps68
  go_wp2_with (first
    | (go_at_call 66; (with_reducible refine (HR.out _ hS).mono ?_); rintro e' w2 ⟨rfl, h2⟩; obtain ⟨q0, q1⟩ := h2.g; obtain ⟨q2, q3, q4, q5, q6, q7, q8⟩ := h2.v)
    | (at_make; refine wpList_make_full _ rfl (.tmp 20) (.tmp 20) 43 rfl w2.heap.size 4 i5 (.bool false) 1 Try.underlying43 Ai.out Az0.out Az1.out _ _ _ _ n rfl rfl rfl rfl (by rw [Az2.out]; omega) (by unfold maxLen; omega) (Nat.le_refl _) ?_; intro w3 hown3 hg3; have HM3 := hid (BRow.made hown3); have b3 := grown_below hg3; have h3 := h2.next b3; clear hown3 hg3)
    | ((with_reducible refine wpList_copy_splice rfl (.tmp 22) (.tmp 23) 43 43 rfl 4 Try.underlying43 Asz.out (some ⟨w2.heap.size, 0, none⟩) Ad n n n' c' rfl rfl w2.heap.size 0 (blc ((List.range n).map fun _ => false)) 4 ?c1 (blc (dn.take (Nat.min n' n))) ?c2 ?c3 ?c4 (blc_one _) w2.heap.size w2 b3 (Nat.le_refl _) ?c5); (case c1 => exact HM3.out.arr); (case c2 => have := HDl.out; have hm : Nat.min n' n = min n' n := rfl; simp only [blc, List.length_map, List.length_take, hm]; omega); (case c3 => exact fun h0 => ⟨rfl, ((HD.out.below h3.1).more h3.1.size).src (Nat.min_le_left _ _) h0⟩); (case c4 => have := HDl.out; have hm : Nat.min n' n = min n' n := rfl; simp only [blc, List.length_map, List.length_take, hm, List.length_range]; omega); intro w4 HR4 b4; have h4 := h2.next b4; have HB4 := hid (copy_row HDl.out HR4.out); clear HR4; obtain ⟨p0, p1⟩ := h4.g; obtain ⟨p2, p3, p4, p5, p6, p7, p8⟩ := h4.v))
  have hwG := h2.lt
  clear g0 g1 g2 g3 g4 g5 g6 g7 g8 q0 q1 q2 q3 q4 q5 q6 q7 q8 p0 p1 p2 p3 p4 p5 p6 p7 p8
  go_loopw [28] (fun i wr => ∃ (k : Nat), k ≤ y.nl ∧ i = .int .i64 k ∧ Hid (BRow wr w2.heap.size n (fun j => isDn dn j || decide ((j : Int) ∈ x.lks.take k))) ∧ Hid (Held2 w nd A n c x y wr)) (fun i _ => y.nl - (intOf i).toNat)
  case atStart => exact ⟨0, Nat.zero_le _, rfl, HB4.out.congr (fun e _ => by simp), h4⟩
  case round =>
    obtain ⟨k, hk, rfl, HBr, HHw⟩ := hrel
    have hlo := HHw.out.lt
    have hGl := HBr.out.lt
    by_cases hkn : k < y.nl
    · obtain ⟨v, hv⟩ : ∃ v, x.lks[k]? = some v := ⟨x.lks[k]'(by rw [HLl.out]; exact hkn), List.getElem?_eq_getElem _⟩
      obtain ⟨v0, v1⟩ := HZ3.out v (List.mem_of_getElem? hv)
      obtain ⟨e, rfl⟩ := Int.eq_ofNat_of_zero_le v0
      obtain ⟨bL, oL, hA, hbL, hcL⟩ := HWl.out.2 (by omega)
      have c0 := (HHw.out.1.cell (p := ⟨bL, oL + k, none⟩) hbL).trans (hcL k _ hv)
      have fm := HBr.out.frozen e
      have hen : e < n := by omega
      have cm := HBr.out.cell hen
      have HS : Hid (BRow (wr.setCell ⟨w2.heap.size, e, none⟩ (.bool true)) w2.heap.size n (fun j => isDn dn j || decide ((j : Int) ∈ x.lks.take (k + 1)))) := (HBr.out.set true).congr (fun j _ => by
        show (isDn dn j || decide ((j : Int) ∈ x.lks.take (k + 1))) = if j = e then true else (isDn dn j || decide ((j : Int) ∈ x.lks.take k))
        rw [List.take_add_one, hv, Option.toList_some]
        simp only [List.mem_append, List.mem_singleton, Bool.decide_or]
        by_cases hj : j = e
        · subst hj; simp
        · rw [if_neg hj, decide_eq_false (p := (j : Int) = (e : Int)) (by omega), Bool.or_false])
      have HH2 : Hid (Held2 w nd A n c x y (wr.setCell ⟨w2.heap.size, e, none⟩ (.bool true))) := HHw.out.set hwG
      obtain ⟨p0, p1⟩ := HHw.out.g
      obtain ⟨p2, p3, p4, p5, p6, p7, p8⟩ := HHw.out.v
      rw [hA] at p7 ⊢
      clear hcL hv hA
      go_wp2_with fail
      go_roundw
      case rel => exact ⟨k + 1, by omega, by go_num, HS.out, HH2.out⟩
      case measure => simp [intOf]; omega
    have hkk : k = y.nl := by omega
    have HB5 : Hid (BRow wr w2.heap.size n (fun j => isDn dn j || decide ((j : Int) ∈ x.lks))) := by
      have := HBr.out
      rw [hkk, List.take_of_length_le (by rw [HLl.out]; exact Nat.le_refl _)] at this
      exact this
    subst hkk
    obtain ⟨p0, p1⟩ := HHw.out.g
    obtain ⟨p2, p3, p4, p5, p6, p7, p8⟩ := HHw.out.v
    go_wp2_with fail
    go_big_quiet ((go_at_call 79; first | with_reducible exact Calls.quiet_of_same ((H1.out _ (HHw.out.drewN _)).mono fun e w' h => ⟨h.1, h.2.symm⟩) | with_reducible exact Calls.quiet_of_same ((H2.out _ (HHw.out.drewN _)).mono fun e w' h => ⟨h.1, h.2.symm⟩)))
    obtain ⟨wq, hwq⟩ : ∃ wq, wr.drewN nq = wq := ⟨_, rfl⟩
    have HB6 : Hid (BRow wq w2.heap.size n (fun j => isDn dn j || decide ((j : Int) ∈ x.lks))) := by rw [← hwq]; exact HB5.out.drewN nq
    have h6 : Held2 w nd A n c x y wq := by rw [← hwq]; exact HHw.out.drewN nq
    rw [hwq]
    clear hwq HHw HBr HB5 HB4 hlo hGl p0 p1 p2 p3 p4 p5 p6 p7 p8
    obtain ⟨p0, p1⟩ := h6.g
    go_wp2_with fail
    go_loopw [45] (fun i wr => ∃ (k : Nat), k ≤ n ∧ i = .int .i64 k ∧ Hid (BRow wr w2.heap.size n (fun j => if j < k then cutB l x dn j else (isDn dn j || decide ((j : Int) ∈ x.lks)))) ∧ Hid (Held2 w nd A n c x y wr)) (fun i _ => n - (intOf i).toNat)
    case atStart => exact ⟨0, Nat.zero_le _, rfl, HB6.out.congr (fun e _ => by simp), h6⟩
    case round =>
      obtain ⟨k, hk, rfl, HBr, HHw⟩ := hrel
      have hlo := HHw.out.lt
      have hGl := HBr.out.lt
      by_cases hkn : k < n
      · obtain ⟨z, hz⟩ : ∃ z, l[k]? = some z := ⟨l[k]'(by omega), List.getElem?_eq_getElem _⟩
        obtain ⟨⟨za, za'⟩, ⟨zb, zb'⟩, zc, zc'⟩ := HZL.out z (List.mem_of_getElem? hz)
        obtain ⟨bL, oL, rfl, hbL, hcL⟩ := HRL.out.2 (by omega)
        obtain ⟨l0, l1, l2, l3⟩ := hcL k z hz
        have c0 := (HHw.out.1.cell (p := ⟨bL, oL + k * 4, none⟩) hbL).trans l0
        have c1 := (HHw.out.1.cell (p := ⟨bL, oL + k * 4 + 1, none⟩) hbL).trans l1
        have c2 := (HHw.out.1.cell (p := ⟨bL, oL + k * 4 + 2, none⟩) hbL).trans l2
        have c3 := (HHw.out.1.cell (p := ⟨bL, oL + k * 4 + 3, none⟩) hbL).trans l3
        have cm := HBr.out.cell hkn
        have fm := HBr.out.frozen k
        have HQ : Hid (cutB l x dn k = (isDn dn k || decide ((k : Int) ∈ x.lks) || decide (z.c ∈ x.cls) || decide (z.a ∈ x.nds) || decide (z.b ∈ x.nds))) := by
          show _ = _
          unfold cutB
          rw [List.getD_eq_getElem?_getD, hz]; rfl
        have ha2 : Below wr.heap.size wr (wr.alloc (.cells #[.int .i64 z.a, .int .i64 z.b, .int .i64 z.m, .int .i64 z.c] 49)) := Below.alloc (Below.refl _ _) (Nat.le_refl _) _
        have HHa := hid (HHw.out.next ha2)
        have HBa := hid (HBr.out.on ha2)
        have fma := HBa.out.frozen k
        have cma := HBa.out.cell hkn
        have HS1 : Hid (cutB l x dn k = true → BRow ((wr.setCell ⟨w2.heap.size, k, none⟩ (.bool true)).alloc (.cells #[.int .i64 z.a, .int .i64 z.b, .int .i64 z.m, .int .i64 z.c] 49)) w2.heap.size n (fun j => if j < k + 1 then cutB l x dn j else (isDn dn j || decide ((j : Int) ∈ x.lks)))) := fun hb => BRow.on ((HBr.out.set true).congr (fun j _ => by
          show (if j < k + 1 then cutB l x dn j else (isDn dn j || decide ((j : Int) ∈ x.lks))) = if j = k then true else (if j < k then cutB l x dn j else (isDn dn j || decide ((j : Int) ∈ x.lks)))
          by_cases hj : j = k
          · subst hj; rw [if_pos (by omega), if_pos rfl, hb]
          · rw [if_neg hj]
            by_cases hj2 : j < k
            · rw [if_pos hj2, if_pos (by omega)]
            · rw [if_neg hj2, if_neg (by omega)])) (Below.alloc (Below.refl _ _) (Nat.le_refl _) _)
        have HS2 : Hid (cutB l x dn k = (isDn dn k || decide ((k : Int) ∈ x.lks)) → BRow (wr.alloc (.cells #[.int .i64 z.a, .int .i64 z.b, .int .i64 z.m, .int .i64 z.c] 49)) w2.heap.size n (fun j => if j < k + 1 then cutB l x dn j else (isDn dn j || decide ((j : Int) ∈ x.lks)))) := fun hb => HBa.out.congr (fun j _ => by
          show (if j < k + 1 then cutB l x dn j else (isDn dn j || decide ((j : Int) ∈ x.lks))) = (if j < k then cutB l x dn j else (isDn dn j || decide ((j : Int) ∈ x.lks)))
          by_cases hj : j = k
          · subst hj; rw [if_pos (by omega), if_neg (by omega), hb]
          · by_cases hj2 : j < k
            · rw [if_pos hj2, if_pos (by omega)]
            · rw [if_neg hj2, if_neg (by omega)])
        have HH2 : Hid (Held2 w nd (some ⟨bL, oL, none⟩) n c x y ((wr.setCell ⟨w2.heap.size, k, none⟩ (.bool true)).alloc (.cells #[.int .i64 z.a, .int .i64 z.b, .int .i64 z.m, .int .i64 z.c] 49))) := (HHw.out.set hwG).next (Below.alloc (Below.refl _ _) (Nat.le_refl _) _)
        have K3 := hid (H4.out z.c (wr.alloc (.cells #[.int .i64 z.a, .int .i64 z.b, .int .i64 z.m, .int .i64 z.c] 49)) zc (by omega))
        have K4 := hid (H3.out z.a (wr.alloc (.cells #[.int .i64 z.a, .int .i64 z.b, .int .i64 z.m, .int .i64 z.c] 49)) za (by omega))
        have K5 := hid (H3.out z.b (wr.alloc (.cells #[.int .i64 z.a, .int .i64 z.b, .int .i64 z.m, .int .i64 z.c] 49)) zb (by omega))
        obtain ⟨e3, he3⟩ : ∃ e3, decide (z.c ∈ x.cls) = e3 := ⟨_, rfl⟩
        obtain ⟨e4, he4⟩ : ∃ e4, decide (z.a ∈ x.nds) = e4 := ⟨_, rfl⟩
        obtain ⟨e5, he5⟩ : ∃ e5, decide (z.b ∈ x.nds) = e5 := ⟨_, rfl⟩
        rw [he3] at K3 HQ
        rw [he4] at K4 HQ
        rw [he5] at K5 HQ
        clear l0 l1 l2 l3 hcL hz he3 he4 he5 p0 p1
        cases e4 with
        | true =>
          have HV := hid (HS1.out (by rw [HQ.out]; simp))
          go_wp2_with (go_at_call 80; (first | with_reducible refine K4.out.mono ?_ | with_reducible refine K5.out.mono ?_ | with_reducible refine K3.out.mono ?_); rintro _ _ ⟨rfl, rfl⟩)
          go_roundw
          case rel => exact ⟨k + 1, by omega, by go_num, HV.out, HH2.out⟩
          case measure => simp [intOf]; omega
        | false =>
          cases e5 with
          | true =>
            have HV := hid (HS1.out (by rw [HQ.out]; simp))
            go_wp2_with (go_at_call 80; (first | with_reducible refine K4.out.mono ?_ | with_reducible refine K5.out.mono ?_ | with_reducible refine K3.out.mono ?_); rintro _ _ ⟨rfl, rfl⟩)
            go_roundw
            case rel => exact ⟨k + 1, by omega, by go_num, HV.out, HH2.out⟩
            case measure => simp [intOf]; omega
          | false =>
            cases e3 with
            | true =>
              have HV := hid (HS1.out (by rw [HQ.out]; simp))
              go_wp2_with (go_at_call 80; (first | with_reducible refine K4.out.mono ?_ | with_reducible refine K5.out.mono ?_ | with_reducible refine K3.out.mono ?_); rintro _ _ ⟨rfl, rfl⟩)
              go_roundw
              case rel => exact ⟨k + 1, by omega, by go_num, HV.out, HH2.out⟩
              case measure => simp [intOf]; omega
            | false =>
              have HV := hid (HS2.out (by rw [HQ.out]; simp))
              go_wp2_with (go_at_call 80; (first | with_reducible refine K4.out.mono ?_ | with_reducible refine K5.out.mono ?_ | with_reducible refine K3.out.mono ?_); rintro _ _ ⟨rfl, rfl⟩)
              go_roundw
              case rel => exact ⟨k + 1, by omega, by go_num, HV.out, HHa.out⟩
              case measure => simp [intOf]; omega
      · obtain rfl : n = k := by omega
        go_wp2_with fail
        go_ret
        have hR := (HBr.out.congr (H' := cutB l x dn) (fun e he => by simp [he])).toRBl
        have hL : ((List.range n).map (cutB l x dn)).length = n := by simp
        refine ⟨some ⟨w2.heap.size, 0, none⟩, n, ?_, ?_, ?_, fun h => (by cases h), HHw.out.1⟩
        · rw [hL]; rfl
        · rw [hL]; exact hR
        · rw [hL]; exact Nat.le_refl _
theorem lnkErr_ok {nd : Int} {z : Lnk} (h : lnkErr nd z = 0) : (0 ≤ z.a ∧ z.a < nd) ∧ (0 ≤ z.b ∧ z.b < nd) ∧ (0 ≤ z.c ∧ z.c ≤ 62) := by
  unfold lnkErr at h
  split at h
  · rename_i h1
    split at h
    · rename_i h2
      exact ⟨⟨h1.1, h1.2.1⟩, ⟨h1.2.2.1, h1.2.2.2.1⟩, h2.2.2⟩
    · omega
  · omega
theorem down_spec : DownSpec 68 := fun nd A n c l x y Ad n' c' dn w hg hw hd h1 h2 h3 h4 => by
  by_cases h : rightS nd l x = 0
  · have hc := checkS_ok (right_zero h).1
    exact downP_in nd A n c l x y Ad n' c' dn w hg hw hd h1 h2 h3 h4 h hc.2.2.1 (fun z hz => lnkErr_ok (chk_all hc.2.2.2 z hz))
  · exact downP_not nd A n c l x y Ad n' c' dn w hg hw h1 h2 h3 h4 h
end Go.Proofs.Ytkemcgbedapkcaa
