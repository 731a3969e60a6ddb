/- prune.Right. -/
import Derived.Test.YthoblabimkfjpaaPsA
import Derived.Test.YthoblabimkfjpaaPrB
import Derived.Test.YthoblabimkfjpaaRgA
namespace Go.Proofs.Ythoblabimkfjpaa
open Go.RowKit
set_option maxHeartbeats 6400000
set_option maxRecDepth 100000
theorem ints_new2 (w : World) (a b : Int) : RInt (w.alloc (.cells #[.int .i64 a, .int .i64 b] 3)) (w.alloc (.cells #[.int .i64 a, .int .i64 b] 3)).heap.size (some ⟨w.heap.size, 0, none⟩) 2 [a, b] := by
  refine ⟨rfl, fun _ => ⟨w.heap.size, 0, rfl, by simp, fun i x hx => ?_⟩⟩
  rw [cell_of_row _ _ _ _ _ _ (heap_alloc_new w _)]
  match i, hx with
  | 0, hx => cases hx; rfl
  | 1, hx => cases hx; rfl
theorem any_not_all (L : List Int) (p : Int → Bool) : L.any (fun v => !p v) = !L.all p := by
  induction L with
  | nil => rfl
  | cons x t ih => rw [List.any_cons, List.all_cons, ih, Bool.not_and]
theorem colB_nodeB (c : Int) : colB c = nodeB 63 c := by
  unfold colB nodeB
  congr 1
  rw [decide_eq_decide]; omega
theorem rightP_bad (nd : Int) (A : Option Addr) (n c : Nat) (l : List Lnk) (x : Wnt) (y : WSl) (w : World) (hr : RLnk w w.heap.size A n l) (h : (checkS nd l).2 ≠ 0) :
    Calls Try.prog 42 #[.agg #[.int .i64 nd, .slice A n c], .agg #[.int .i64 x.frm, .int .i64 x.too, .int .i64 x.bnd, .slice y.av y.nv y.cv, .slice y.an y.nn y.cn, .slice y.al y.nl y.cl, .slice y.ac y.nc y.cc]] w fun e w' => e = .returned (.int .i64 (rightS nd l x)) ∧ Below w.heap.size w w' := by
  have Q : rightS nd l x = (checkS nd l).2 := by unfold rightS; rw [if_pos h]
  rw [Q]
  have hS := Held2.start w nd A n c x y
  have HK := hid (fun (w' : World) (h : Held2 w nd A n c x y w') => h.calls (check_any nd A n c l w' ((hr.below h.1).more h.1.size)))
  obtain ⟨k1, hk1⟩ : ∃ k1, (checkS nd l).1 = k1 := ⟨_, rfl⟩
  obtain ⟨k2, hk2⟩ : ∃ k2, (checkS nd l).2 = k2 := ⟨_, rfl⟩
  rw [hk1, hk2] at HK
  rw [hk2] at h ⊢
  have t0 : (k2 != 0) = true := by simpa using h
  obtain ⟨g0, g1⟩ := hS.g
  clear hr h hk1 hk2 Q
  go_enter Try.func42, Try.ntmps42
  go_wp2_with (go_at_call 26; (with_reducible refine (HK.out _ hS).mono ?_); rintro e' w2 ⟨rfl, h2⟩)
  go_ret
  exact ⟨rfl, h2.1⟩
theorem rightP_in (nd : Int) (A : Option Addr) (n c : Nat) (l : List Lnk) (x : Wnt) (y : WSl) (w : World) (hr : RLnk w w.heap.size A n l) (hw : WArg w x y) (h : (checkS nd l).2 = 0) (hv1 : y.nv ≤ 1000) (hv2 : y.nn ≤ 1000) (hv3 : y.nl ≤ 1000) (hv4 : y.nc ≤ 1000) :
    Calls Try.prog 42 #[.agg #[.int .i64 nd, .slice A n c], .agg #[.int .i64 x.frm, .int .i64 x.too, .int .i64 x.bnd, .slice y.av y.nv y.cv, .slice y.an y.nn y.cn, .slice y.al y.nl y.cl, .slice y.ac y.nc y.cc]] w fun e w' => e = .returned (.int .i64 (rightS nd l x)) ∧ Below w.heap.size w w' := by
  have hS := Held2.start w nd A n c x y
  have hl := hr.1
  have HK := hid (fun (w' : World) (h : Held2 w nd A n c x y w') => h.calls (check_any nd A n c l w' ((hr.below h.1).more h.1.size)))
  obtain ⟨k1, hk1⟩ : ∃ k1, (checkS nd l).1 = k1 := ⟨_, rfl⟩
  rw [hk1, h] at HK
  have t0 : ((0 : Int) != 0) = false := by decide
  obtain ⟨g0, g1⟩ := hS.g
  have HN1 := hid (fun (w' : World) (_ : Held2 w nd A n c x y w') => below_any nd (some ⟨w'.heap.size, 0, none⟩) 2 2 [x.frm, x.too] (w'.alloc (.cells #[.int .i64 x.frm, .int .i64 x.too] 3)) _ (ints_new2 w' x.frm x.too) (by omega))
  have HN2 := hid (fun (w' : World) (h : Held2 w nd A n c x y w') => below_any nd y.av y.nv y.cv x.via w' _ (hw.on h.1).via.row (by omega))
  have HN3 := hid (fun (w' : World) (h : Held2 w nd A n c x y w') => below_any nd y.an y.nn y.cn x.nds w' _ (hw.on h.1).nds.row (by omega))
  have HN4 := hid (fun (w' : World) (h : Held2 w nd A n c x y w') => below_any (n : Int) y.al y.nl y.cl x.lks w' _ (hw.on h.1).lks.row (by omega))
  have HN5 := hid (fun (w' : World) (h : Held2 w nd A n c x y w') => below_any 63 y.ac y.nc y.cc x.cls w' _ (hw.on h.1).cls.row (by omega))
  have HNx := hid (fun (w' : World) (h : Held2 w nd A n c x y w') => h.next (Below.alloc (Below.refl w'.heap.size _) (Nat.le_refl _) (.cells #[.int .i64 x.frm, .int .i64 x.too] 3)))
  have HB : Hid (badB nd x = (!([x.frm, x.too].all (nodeB nd)) || !(x.via.all (nodeB nd)) || !(x.nds.all (nodeB nd)))) := by
    show _ = _
    unfold badB
    rw [any_not_all, any_not_all]
    simp only [List.all_cons, List.all_nil, Bool.and_true, Bool.not_and]
  obtain ⟨b1, hb1⟩ : ∃ b, [x.frm, x.too].all (nodeB nd) = b := ⟨_, rfl⟩
  obtain ⟨b2, hb2⟩ : ∃ b, x.via.all (nodeB nd) = b := ⟨_, rfl⟩
  obtain ⟨b3, hb3⟩ : ∃ b, x.nds.all (nodeB nd) = b := ⟨_, rfl⟩
  obtain ⟨b4, hb4⟩ : ∃ b, x.lks.all (nodeB (n : Int)) = b := ⟨_, rfl⟩
  obtain ⟨b5, hb5⟩ : ∃ b, x.cls.all (nodeB 63) = b := ⟨_, rfl⟩
  rw [hb1] at HN1 HB; rw [hb2] at HN2 HB; rw [hb3] at HN3 HB; rw [hb4] at HN4; rw [hb5] at HN5
  have HR : Hid (rightS nd l x = if badB nd x = true then 4 else if b4 = false then 5 else if b5 = false then 1 else if x.bnd < 0 then 1 else if 4 < y.nv then 6 else 0) := by
    show _ = _
    unfold rightS
    rw [if_neg (fun hh => hh h), any_not_all, hl, hb4, hw.via.row.1, show (fun c => !colB c) = (fun c => !nodeB 63 c) from funext fun c => by rw [colB_nodeB], any_not_all, hb5]
    simp only [Bool.not_eq_true']
  rw [HB.out] at HR
  clear hr hw h hk1 HB hb1 hb2 hb3 hb4 hb5
  cases b1 with
  | false =>
    have HV : Hid (rightS nd l x = 4) := by show _ = _; rw [HR.out]; simp
    clear HR
    go_enter Try.func42, Try.ntmps42
    go_wp2_with (first
      | (go_at_call 26; (with_reducible refine (HK.out _ hS).mono ?_); rintro e' w2 ⟨rfl, h2⟩; obtain ⟨q0, q1⟩ := h2.g; obtain ⟨q2, q3, q4, q5, q6, q7, q8⟩ := h2.v; have h3 := HNx.out _ h2; obtain ⟨p0, p1⟩ := h3.g; obtain ⟨p2, p3, p4, p5, p6, p7, p8⟩ := h3.v)
      | (go_at_call 53; (first | with_reducible refine (HN1.out _ h2).mono ?_ | with_reducible refine (HN2.out _ h3).mono ?_ | with_reducible refine (HN3.out _ h3).mono ?_ | with_reducible refine (HN4.out _ h3).mono ?_ | with_reducible refine (HN5.out _ h3).mono ?_); rintro _ _ ⟨rfl, rfl⟩))
    go_ret
    exact ⟨by rw [HV.out]; rfl, h3.1⟩
  | true =>
    cases b2 with
    | false =>
      have HV : Hid (rightS nd l x = 4) := by show _ = _; rw [HR.out]; simp
      clear HR
      go_enter Try.func42, Try.ntmps42
      go_wp2_with (first
        | (go_at_call 26; (with_reducible refine (HK.out _ hS).mono ?_); rintro e' w2 ⟨rfl, h2⟩; obtain ⟨q0, q1⟩ := h2.g; obtain ⟨q2, q3, q4, q5, q6, q7, q8⟩ := h2.v; have h3 := HNx.out _ h2; obtain ⟨p0, p1⟩ := h3.g; obtain ⟨p2, p3, p4, p5, p6, p7, p8⟩ := h3.v)
        | (go_at_call 53; (first | with_reducible refine (HN1.out _ h2).mono ?_ | with_reducible refine (HN2.out _ h3).mono ?_ | with_reducible refine (HN3.out _ h3).mono ?_ | with_reducible refine (HN4.out _ h3).mono ?_ | with_reducible refine (HN5.out _ h3).mono ?_); rintro _ _ ⟨rfl, rfl⟩))
      go_ret
      exact ⟨by rw [HV.out]; rfl, h3.1⟩
    | true =>
      cases b3 with
      | false =>
        have HV : Hid (rightS nd l x = 4) := by show _ = _; rw [HR.out]; simp
        clear HR
        go_enter Try.func42, Try.ntmps42
        go_wp2_with (first
          | (go_at_call 26; (with_reducible refine (HK.out _ hS).mono ?_); rintro e' w2 ⟨rfl, h2⟩; obtain ⟨q0, q1⟩ := h2.g; obtain ⟨q2, q3, q4, q5, q6, q7, q8⟩ := h2.v; have h3 := HNx.out _ h2; obtain ⟨p0, p1⟩ := h3.g; obtain ⟨p2, p3, p4, p5, p6, p7, p8⟩ := h3.v)
          | (go_at_call 53; (first | with_reducible refine (HN1.out _ h2).mono ?_ | with_reducible refine (HN2.out _ h3).mono ?_ | with_reducible refine (HN3.out _ h3).mono ?_ | with_reducible refine (HN4.out _ h3).mono ?_ | with_reducible refine (HN5.out _ h3).mono ?_); rintro _ _ ⟨rfl, rfl⟩))
        go_ret
        exact ⟨by rw [HV.out]; rfl, h3.1⟩
      | true =>
        cases b4 with
        | false =>
          have HV : Hid (rightS nd l x = 5) := by show _ = _; rw [HR.out]; simp
          clear HR
          go_enter Try.func42, Try.ntmps42
          go_wp2_with (first
            | (go_at_call 26; (with_reducible refine (HK.out _ hS).mono ?_); rintro e' w2 ⟨rfl, h2⟩; obtain ⟨q0, q1⟩ := h2.g; obtain ⟨q2, q3, q4, q5, q6, q7, q8⟩ := h2.v; have h3 := HNx.out _ h2; obtain ⟨p0, p1⟩ := h3.g; obtain ⟨p2, p3, p4, p5, p6, p7, p8⟩ := h3.v)
            | (go_at_call 53; (first | with_reducible refine (HN1.out _ h2).mono ?_ | with_reducible refine (HN2.out _ h3).mono ?_ | with_reducible refine (HN3.out _ h3).mono ?_ | with_reducible refine (HN4.out _ h3).mono ?_ | with_reducible refine (HN5.out _ h3).mono ?_); rintro _ _ ⟨rfl, rfl⟩))
          go_ret
          exact ⟨by rw [HV.out]; rfl, h3.1⟩
        | true =>
          cases b5 with
          | false =>
            have HV : Hid (rightS nd l x = 1) := by show _ = _; rw [HR.out]; simp
            clear HR
            go_enter Try.func42, Try.ntmps42
            go_wp2_with (first
              | (go_at_call 26; (with_reducible refine (HK.out _ hS).mono ?_); rintro e' w2 ⟨rfl, h2⟩; obtain ⟨q0, q1⟩ := h2.g; obtain ⟨q2, q3, q4, q5, q6, q7, q8⟩ := h2.v; have h3 := HNx.out _ h2; obtain ⟨p0, p1⟩ := h3.g; obtain ⟨p2, p3, p4, p5, p6, p7, p8⟩ := h3.v)
              | (go_at_call 53; (first | with_reducible refine (HN1.out _ h2).mono ?_ | with_reducible refine (HN2.out _ h3).mono ?_ | with_reducible refine (HN3.out _ h3).mono ?_ | with_reducible refine (HN4.out _ h3).mono ?_ | with_reducible refine (HN5.out _ h3).mono ?_); rintro _ _ ⟨rfl, rfl⟩))
            go_ret
            exact ⟨by rw [HV.out]; rfl, h3.1⟩
          | true =>
            by_cases c1 : x.bnd < 0
            · have u1 : decide (x.bnd < 0) = true := by simpa using c1
              have HV : Hid (rightS nd l x = 1) := by show _ = _; rw [HR.out]; simp [c1]
              clear HR c1
              go_enter Try.func42, Try.ntmps42
              go_wp2_with (first
                | (go_at_call 26; (with_reducible refine (HK.out _ hS).mono ?_); rintro e' w2 ⟨rfl, h2⟩; obtain ⟨q0, q1⟩ := h2.g; obtain ⟨q2, q3, q4, q5, q6, q7, q8⟩ := h2.v; have h3 := HNx.out _ h2; obtain ⟨p0, p1⟩ := h3.g; obtain ⟨p2, p3, p4, p5, p6, p7, p8⟩ := h3.v)
                | (go_at_call 53; (first | with_reducible refine (HN1.out _ h2).mono ?_ | with_reducible refine (HN2.out _ h3).mono ?_ | with_reducible refine (HN3.out _ h3).mono ?_ | with_reducible refine (HN4.out _ h3).mono ?_ | with_reducible refine (HN5.out _ h3).mono ?_); rintro _ _ ⟨rfl, rfl⟩))
              go_ret
              exact ⟨by rw [HV.out]; rfl, h3.1⟩
            · have u1 : decide (x.bnd < 0) = false := by simpa using c1
              by_cases c2 : 4 < y.nv
              · have u2 : decide ((4 : Int) < (y.nv : Int)) = true := by simp; omega
                have HV : Hid (rightS nd l x = 6) := by show _ = _; rw [HR.out]; simp [c1, c2]
                clear HR c1 c2
                go_enter Try.func42, Try.ntmps42
                go_wp2_with (first
                  | (go_at_call 26; (with_reducible refine (HK.out _ hS).mono ?_); rintro e' w2 ⟨rfl, h2⟩; obtain ⟨q0, q1⟩ := h2.g; obtain ⟨q2, q3, q4, q5, q6, q7, q8⟩ := h2.v; have h3 := HNx.out _ h2; obtain ⟨p0, p1⟩ := h3.g; obtain ⟨p2, p3, p4, p5, p6, p7, p8⟩ := h3.v)
                  | (go_at_call 53; (first | with_reducible refine (HN1.out _ h2).mono ?_ | with_reducible refine (HN2.out _ h3).mono ?_ | with_reducible refine (HN3.out _ h3).mono ?_ | with_reducible refine (HN4.out _ h3).mono ?_ | with_reducible refine (HN5.out _ h3).mono ?_); rintro _ _ ⟨rfl, rfl⟩))
                go_ret
                exact ⟨by rw [HV.out]; rfl, h3.1⟩
              · have u2 : decide ((4 : Int) < (y.nv : Int)) = false := by simp; omega
                have HV : Hid (rightS nd l x = 0) := by show _ = _; rw [HR.out]; simp [c1, c2]
                clear HR c1 c2
                go_enter Try.func42, Try.ntmps42
                go_wp2_with (first
                  | (go_at_call 26; (with_reducible refine (HK.out _ hS).mono ?_); rintro e' w2 ⟨rfl, h2⟩; obtain ⟨q0, q1⟩ := h2.g; obtain ⟨q2, q3, q4, q5, q6, q7, q8⟩ := h2.v; have h3 := HNx.out _ h2; obtain ⟨p0, p1⟩ := h3.g; obtain ⟨p2, p3, p4, p5, p6, p7, p8⟩ := h3.v)
                  | (go_at_call 53; (first | with_reducible refine (HN1.out _ h2).mono ?_ | with_reducible refine (HN2.out _ h3).mono ?_ | with_reducible refine (HN3.out _ h3).mono ?_ | with_reducible refine (HN4.out _ h3).mono ?_ | with_reducible refine (HN5.out _ h3).mono ?_); rintro _ _ ⟨rfl, rfl⟩))
                go_ret
                exact ⟨by rw [HV.out]; rfl, h3.1⟩
theorem rightP_any (nd : Int) (A : Option Addr) (n c : Nat) (l : List Lnk) (x : Wnt) (y : WSl) (w : World) (hr : RLnk w w.heap.size A n l) (hw : WArg w x y) (h1 : y.nv ≤ 100) (h2 : y.nn ≤ 100) (h3 : y.nl ≤ 100) (h4 : y.nc ≤ 100) :
    Calls Try.prog 42 #[.agg #[.int .i64 nd, .slice A n c], .agg #[.int .i64 x.frm, .int .i64 x.too, .int .i64 x.bnd, .slice y.av y.nv y.cv, .slice y.an y.nn y.cn, .slice y.al y.nl y.cl, .slice y.ac y.nc y.cc]] w fun e w' => e = .returned (.int .i64 (rightS nd l x)) ∧ Below w.heap.size w w' := by
  by_cases h : (checkS nd l).2 = 0
  · exact rightP_in nd A n c l x y w hr hw h (by omega) (by omega) (by omega) (by omega)
  · exact rightP_bad nd A n c l x y w hr h
end Go.Proofs.Ythoblabimkfjpaa
