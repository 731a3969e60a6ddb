/- waymarkref11.In, mask. -/
import Derived.Test.YtcmkcloapenpnaaDoorPfA
import Derived.Laws.Shifts
namespace Go.Proofs.YtcmkcloapenpnaaDoor
open Go.RowKit
set_option maxHeartbeats 6400000
set_option maxRecDepth 100000
theorem cut32_any (n : Int) (w : World) : Calls Tryd.prog 30 #[.int .i64 n, .int .i64 0, .int .i64 32] w fun e w' => e = .returned (.int .i64 (cut32 n : Int)) ∧ w = w' := by
  by_cases h1 : n < 0
  · have t1 : decide (n < 0) = true := decide_eq_true h1
    have HV : Hid ((cut32 n : Int) = 0) := by show _ = _; unfold cut32; omega
    clear h1
    go_enter Tryd.func30, Tryd.ntmps30
    go_wp2_with fail
    go_ret
    exact ⟨by rw [HV.out]; rfl, rfl⟩
  · have t1 : decide (n < 0) = false := decide_eq_false h1
    by_cases h2 : 32 < n
    · have t2 : decide ((32 : Int) < n) = true := decide_eq_true h2
      have HV : Hid ((cut32 n : Int) = 32) := by show _ = _; unfold cut32; omega
      clear h1 h2
      go_enter Tryd.func30, Tryd.ntmps30
      go_wp2_with fail
      go_ret
      exact ⟨by rw [HV.out]; rfl, rfl⟩
    · have t2 : decide ((32 : Int) < n) = false := decide_eq_false h2
      have HV : Hid ((cut32 n : Int) = n) := by show _ = _; unfold cut32; omega
      clear h1 h2
      go_enter Tryd.func30, Tryd.ntmps30
      go_wp2_with fail
      go_ret
      exact ⟨by rw [HV.out]; rfl, rfl⟩
theorem bit_of (a j : Nat) (ha : a < 4294967296) : bits .and .u32 ((a : Int) / 2 ^ j) 1 = ((a / 2 ^ j % 2 : Nat) : Int) := by
  rw [show ((a : Int) / 2 ^ j) = ((a / 2 ^ j : Nat) : Int) from by push_cast; rfl]
  have h1 : a / 2 ^ j < 4294967296 := Nat.lt_of_le_of_lt (Nat.div_le_self _ _) ha
  have h2 := u32_and_nat (a / 2 ^ j) 1 h1 (by decide)
  rw [show ((1 : Nat) : Int) = 1 from rfl] at h2
  rw [h2, Nat.and_one_is_mod]
theorem in_any (a : Nat) (n : Int) (b : Nat) (w : World) (ha : a < 4294967296) (hb : b < 4294967296) :
    Calls Tryd.prog 15 #[.agg #[.int .u32 (a : Int), .int .i64 n], .int .u32 (b : Int)] w fun e w' => e = .returned (.bool (inS a n b)) ∧ Below w.heap.size w w' := by
  obtain ⟨c, hc⟩ : ∃ c, cut32 n = c := ⟨_, rfl⟩
  have hc32 : c ≤ 32 := by rw [← hc]; exact cut32_le n
  have HC := hid (fun w' => cut32_any n w')
  rw [hc] at HC
  have HI : Hid (inS a n b = (a / 2 ^ (32 - c) == b / 2 ^ (32 - c))) := by show _ = _; unfold inS; rw [hc]
  have h0 : a / 2 ^ 32 = b / 2 ^ 32 := by rw [Nat.div_eq_of_lt (by simpa using ha), Nat.div_eq_of_lt (by simpa using hb)]
  have H0 := hid h0
  have HBit := hid (fun (x j : Nat) (hx : x < 4294967296) => bit_of x j hx)
  clear h0 hc
  go_enter Tryd.func15, Tryd.ntmps15
  go_wp2_with (go_at_call 30; (with_reducible refine (HC.out _).mono ?_); rintro _ _ ⟨rfl, rfl⟩)
  have hX := heap_alloc_new w (.cells #[.int .u32 (a : Int), .int .i64 n] 24)
  have HB0 : Hid (Below w.heap.size w (w.alloc (.cells #[.int .u32 (a : Int), .int .i64 n] 24))) := Below.alloc (Below.refl _ _) (Nat.le_refl _) _
  obtain ⟨w1, hw1⟩ : ∃ w1, w.alloc (.cells #[.int .u32 (a : Int), .int .i64 n] 24) = w1 := ⟨_, rfl⟩
  rw [hw1] at hX HB0 ⊢
  obtain ⟨x0, x1, _⟩ := box_cells hX
  clear hw1
  go_loopw [6] (fun i wr => ∃ k : Nat, k ≤ c ∧ i = .int .i64 k ∧ wr = w1 ∧ Hid (a / 2 ^ (32 - k) = b / 2 ^ (32 - k))) (fun i _ => c - (intOf i).toNat)
  case atStart => exact ⟨0, Nat.zero_le _, rfl, rfl, H0⟩
  case round =>
    obtain ⟨k, hk, rfl, hww, HQ⟩ := hrel
    have hws := hww.symm
    subst hws
    clear hww
    by_cases hlt : k < c
    · obtain ⟨j, hj⟩ : ∃ j, 31 - k = j := ⟨_, rfl⟩
      have hj1 : 32 - k = j + 1 := by omega
      have e1 : IntKind.i64.wrap (31 - (k : Int)) = (j : Int) := by rw [IntKind.wrap_i64]; omega
      have e2 : IntKind.u64.wrap (j : Int) = (j : Int) := by rw [IntKind.wrap_u64]; omega
      have e3 : min j 32 = j := by omega
      have hq := HQ.out
      rw [hj1] at hq
      have hss := same_step hq
      have q1 := HBit.out a j ha
      have q2 := HBit.out b j hb
      by_cases hs : a / 2 ^ j % 2 = b / 2 ^ j % 2
      · have u1 : (((a / 2 ^ j % 2 : Nat) : Int) != ((b / 2 ^ j % 2 : Nat) : Int)) = false := by rw [hs]; simp
        rw [← q1, ← q2] at u1
        have HQ2 : Hid (a / 2 ^ (32 - (k + 1)) = b / 2 ^ (32 - (k + 1))) := by
          show _ = _
          rw [show 32 - (k + 1) = j by omega]; exact hss.2 hs
        clear hq hss hs q1 q2 hj hj1
        go_wp2_with fail
        go_roundw
        case rel => exact ⟨k + 1, by omega, by go_num, by first | rfl | trivial, HQ2.out⟩
        case measure => simp [intOf]; omega
      · have u1 : (((a / 2 ^ j % 2 : Nat) : Int) != ((b / 2 ^ j % 2 : Nat) : Int)) = true := bne_iff_ne.2 (fun h => hs (Int.ofNat_inj.1 h))
        rw [← q1, ← q2] at u1
        have HV : Hid (inS a n b = false) := by
          show _ = _
          rw [HI.out, beq_eq_false_iff_ne]
          intro h
          exact hs (hss.1 (same_less (show 32 - c ≤ j by omega) h))
        clear hq hss hs q1 q2 hj hj1
        go_wp2_with fail
        go_ret
        exact ⟨by rw [HV.out]; rfl, HB0.out⟩
    · obtain rfl : c = k := by omega
      have HV : Hid (inS a n b = true) := by
        show _ = _
        rw [HI.out, HQ.out]; simp
      go_wp2_with fail
      go_ret
      exact ⟨by rw [HV.out]; rfl, HB0.out⟩
theorem shift_back (a k : Nat) (h : a < 4294967296) : (a : Int) / 2 ^ k * 2 ^ k % 4294967296 = ((a / 2 ^ k * 2 ^ k : Nat) : Int) := by
  have h1 : a / 2 ^ k * 2 ^ k < 4294967296 := Nat.lt_of_le_of_lt (Nat.div_mul_le_self _ _) h
  rw [show ((a : Int) / 2 ^ k * 2 ^ k) = ((a / 2 ^ k * 2 ^ k : Nat) : Int) from by push_cast; rfl]
  generalize a / 2 ^ k * 2 ^ k = x at h1 ⊢
  omega
theorem mask_any (a n : Nat) (w : World) (ha : a < 4294967296) (hn : n ≤ 32) : Calls Tryd.prog 27 #[.int .u32 (a : Int), .int .i64 (n : Int)] w fun e w' => e = .returned (.int .u32 (maskS a n : Int)) ∧ w = w' := by
  by_cases h0 : n = 0
  · subst h0
    have HV := hid (maskS_zero ha)
    go_enter Tryd.func27, Tryd.ntmps27
    go_wp2_with fail
    go_ret
    exact ⟨by rw [HV.out]; rfl, rfl⟩
  · have t0 : decide (n = 0) = false := decide_eq_false h0
    obtain ⟨k, hk⟩ : ∃ k, 32 - n = k := ⟨_, rfl⟩
    have e1 : IntKind.i64.wrap (32 - (n : Int)) = (k : Int) := by rw [IntKind.wrap_i64]; omega
    have e2 : IntKind.u64.wrap (k : Int) = (k : Int) := by rw [IntKind.wrap_u64]; omega
    have e3 : min k 32 = k := by omega
    have HV : Hid (maskS a n = a / 2 ^ k * 2 ^ k) := by show _ = _; unfold maskS; rw [hk]
    have HW := hid (shift_back a k ha)
    clear hk h0
    go_enter Tryd.func27, Tryd.ntmps27
    go_wp2_with fail
    go_ret
    exact ⟨by rw [HV.out, ← HW.out]; rfl, rfl⟩
/-- Does a match take a flow? -/
structure Mat where
  sa : Nat
  sl : Int
  da : Nat
  dl : Int
  pr : Int
  sp : Int
  dp : Int
structure Flw where
  s : Nat
  d : Nat
  p : Int
  sp : Int
  dp : Int
def anyB (m t : Int) : Bool := m == 0 || m == t
def matchS (m : Mat) (t : Flw) : Bool := inS m.sa m.sl t.s && inS m.da m.dl t.d && anyB m.pr t.p && anyB m.sp t.sp && anyB m.dp t.dp
/-- Two boxes: a match's and a flow's. -/
def HeldM (w : World) (m : Mat) (t : Flw) (w' : World) : Prop :=
  Below w.heap.size w w' ∧ w'.heap[w.heap.size]? = some (.cells #[.int .u32 (m.sa : Int), .int .i64 m.sl, .int .u32 (m.da : Int), .int .i64 m.dl, .int .i64 m.pr, .int .i64 m.sp, .int .i64 m.dp] 26 (0, 0)) ∧ w'.heap[w.heap.size + 1]? = some (.cells #[.int .u32 (t.s : Int), .int .u32 (t.d : Int), .int .i64 t.p, .int .i64 t.sp, .int .i64 t.dp] 28 (0, 0))
theorem HeldM.start (w : World) (m : Mat) (t : Flw) : HeldM w m t ((w.alloc (.cells #[.int .u32 (m.sa : Int), .int .i64 m.sl, .int .u32 (m.da : Int), .int .i64 m.dl, .int .i64 m.pr, .int .i64 m.sp, .int .i64 m.dp] 26)).alloc (.cells #[.int .u32 (t.s : Int), .int .u32 (t.d : Int), .int .i64 t.p, .int .i64 t.sp, .int .i64 t.dp] 28)) := by
  have b1 : Below w.heap.size w (w.alloc (.cells #[.int .u32 (m.sa : Int), .int .i64 m.sl, .int .u32 (m.da : Int), .int .i64 m.dl, .int .i64 m.pr, .int .i64 m.sp, .int .i64 m.dp] 26)) := Below.alloc (Below.refl _ _) (Nat.le_refl _) _
  refine ⟨b1.alloc b1.size _, box_below (heap_alloc_new w _) (Below.alloc (Below.refl (w.heap.size + 1) _) (by simp) _) (by omega), ?_⟩
  have := heap_alloc_new (w.alloc (.cells #[.int .u32 (m.sa : Int), .int .i64 m.sl, .int .u32 (m.da : Int), .int .i64 m.dl, .int .i64 m.pr, .int .i64 m.sp, .int .i64 m.dp] 26)) (.cells #[.int .u32 (t.s : Int), .int .u32 (t.d : Int), .int .i64 t.p, .int .i64 t.sp, .int .i64 t.dp] 28)
  simpa using this
theorem HeldM.next {w w' w'' : World} {m : Mat} {t : Flw} (h : HeldM w m t w') (hb : Below w'.heap.size w' w'') : HeldM w m t w'' := by
  have hl : w.heap.size + 1 < w'.heap.size := (Array.getElem?_eq_some_iff.1 h.2.2).1
  exact ⟨h.1.trans (hb.mono h.1.size), box_below h.2.1 hb (by omega), box_below h.2.2 hb hl⟩
theorem HeldM.m {w w' : World} {m : Mat} {t : Flw} (h : HeldM w m t w') :
    w'.cell? ⟨w.heap.size, 0, none⟩ = some (.int .u32 (m.sa : Int)) ∧ w'.cell? ⟨w.heap.size, 1, none⟩ = some (.int .i64 m.sl) ∧ w'.cell? ⟨w.heap.size, 2, none⟩ = some (.int .u32 (m.da : Int)) ∧ w'.cell? ⟨w.heap.size, 3, none⟩ = some (.int .i64 m.dl) ∧
    w'.cell? ⟨w.heap.size, 4, none⟩ = some (.int .i64 m.pr) ∧ w'.cell? ⟨w.heap.size, 5, none⟩ = some (.int .i64 m.sp) ∧ w'.cell? ⟨w.heap.size, 6, none⟩ = some (.int .i64 m.dp) := by
  refine ⟨?_, ?_, ?_, ?_, ?_, ?_, ?_⟩ <;> (rw [cell_of_row _ _ _ _ _ _ h.2.1]; rfl)
theorem HeldM.t {w w' : World} {m : Mat} {t : Flw} (h : HeldM w m t w') :
    w'.cell? ⟨w.heap.size + 1, 0, none⟩ = some (.int .u32 (t.s : Int)) ∧ w'.cell? ⟨w.heap.size + 1, 1, none⟩ = some (.int .u32 (t.d : Int)) ∧ w'.cell? ⟨w.heap.size + 1, 2, none⟩ = some (.int .i64 t.p) ∧ w'.cell? ⟨w.heap.size + 1, 3, none⟩ = some (.int .i64 t.sp) ∧ w'.cell? ⟨w.heap.size + 1, 4, none⟩ = some (.int .i64 t.dp) := by
  refine ⟨?_, ?_, ?_, ?_, ?_⟩ <;> (rw [cell_of_row _ _ _ _ _ _ h.2.2]; rfl)
theorem matches_any (m : Mat) (t : Flw) (w : World) (h1 : m.sa < 4294967296) (h2 : m.da < 4294967296) (h3 : t.s < 4294967296) (h4 : t.d < 4294967296) :
    Calls Tryd.prog 17 #[.agg #[.int .u32 (m.sa : Int), .int .i64 m.sl, .int .u32 (m.da : Int), .int .i64 m.dl, .int .i64 m.pr, .int .i64 m.sp, .int .i64 m.dp], .agg #[.int .u32 (t.s : Int), .int .u32 (t.d : Int), .int .i64 t.p, .int .i64 t.sp, .int .i64 t.dp]] w fun e w' => e = .returned (.bool (matchS m t)) ∧ Below w.heap.size w w' := by
  have HM : Hid (matchS m t = (inS m.sa m.sl t.s && inS m.da m.dl t.d && (m.pr == 0 || m.pr == t.p) && (m.sp == 0 || m.sp == t.sp) && (m.dp == 0 || m.dp == t.dp))) := rfl
  have hS := HeldM.start w m t
  have HS := hid (fun w' (hh : HeldM w m t w') => (in_any m.sa m.sl t.s w' h1 h3).mono fun _ _ h => (⟨h.1, hh.next h.2⟩ : _ ∧ HeldM w m t _))
  have HD := hid (fun w' (hh : HeldM w m t w') => (in_any m.da m.dl t.d w' h2 h4).mono fun _ _ h => (⟨h.1, hh.next h.2⟩ : _ ∧ HeldM w m t _))
  obtain ⟨b1, hb1⟩ : ∃ b, inS m.sa m.sl t.s = b := ⟨_, rfl⟩
  obtain ⟨b2, hb2⟩ : ∃ b, inS m.da m.dl t.d = b := ⟨_, rfl⟩
  rw [hb1] at HS HM
  rw [hb2] at HD HM
  obtain ⟨g0, g1, g2, g3, g4, g5, g6⟩ := hS.m
  obtain ⟨k0, k1, k2, k3, k4⟩ := hS.t
  clear hb1 hb2 h1 h2 h3 h4
  cases b1 with
  | false =>
    have HV : Hid (matchS m t = false) := by show _ = _; rw [HM.out]; rfl
    clear HM
    go_enter Tryd.func17, Tryd.ntmps17
    go_wp2_with (first
      | (go_at_call 15; (with_reducible refine (HS.out _ hS).mono ?_); rintro e' w2 ⟨rfl, h2⟩; obtain ⟨p0, p1, p2, p3, p4, p5, p6⟩ := h2.m; obtain ⟨q0, q1, q2, q3, q4⟩ := h2.t)
      | (go_at_call 15; (with_reducible refine (HD.out _ h2).mono ?_); rintro e' w3 ⟨rfl, h3⟩; obtain ⟨x0, x1, x2, x3, x4, x5, x6⟩ := h3.m; obtain ⟨y0, y1, y2, y3, y4⟩ := h3.t))
    go_ret
    exact ⟨by rw [HV.out]; rfl, h2.1⟩
  | true =>
    cases b2 with
    | false =>
      have HV : Hid (matchS m t = false) := by show _ = _; rw [HM.out]; rfl
      clear HM
      go_enter Tryd.func17, Tryd.ntmps17
      go_wp2_with (first
        | (go_at_call 15; (with_reducible refine (HS.out _ hS).mono ?_); rintro e' w2 ⟨rfl, h2⟩; obtain ⟨p0, p1, p2, p3, p4, p5, p6⟩ := h2.m; obtain ⟨q0, q1, q2, q3, q4⟩ := h2.t)
        | (go_at_call 15; (with_reducible refine (HD.out _ h2).mono ?_); rintro e' w3 ⟨rfl, h3⟩; obtain ⟨x0, x1, x2, x3, x4, x5, x6⟩ := h3.m; obtain ⟨y0, y1, y2, y3, y4⟩ := h3.t))
      go_ret
      exact ⟨by rw [HV.out]; rfl, h3.1⟩
    | true =>
      cases z3 : (m.pr == 0) with
      | true =>
        cases z2 : (m.sp == 0) with
        | true =>
          cases z1 : (m.dp == 0) with
          | true =>
            have HV : Hid (matchS m t = true) := by show _ = _; rw [HM.out, z3, z2, z1]; rfl
            clear HM
            go_enter Tryd.func17, Tryd.ntmps17
            go_wp2_with (first
              | (go_at_call 15; (with_reducible refine (HS.out _ hS).mono ?_); rintro e' w2 ⟨rfl, h2⟩; obtain ⟨p0, p1, p2, p3, p4, p5, p6⟩ := h2.m; obtain ⟨q0, q1, q2, q3, q4⟩ := h2.t)
              | (go_at_call 15; (with_reducible refine (HD.out _ h2).mono ?_); rintro e' w3 ⟨rfl, h3⟩; obtain ⟨x0, x1, x2, x3, x4, x5, x6⟩ := h3.m; obtain ⟨y0, y1, y2, y3, y4⟩ := h3.t))
            go_ret
            exact ⟨by rw [HV.out]; rfl, h3.1⟩
          | false =>
            cases y1 : (m.dp == t.dp) with
            | true =>
              have HV : Hid (matchS m t = true) := by show _ = _; rw [HM.out, z3, z2, z1, y1]; rfl
              clear HM
              go_enter Tryd.func17, Tryd.ntmps17
              go_wp2_with (first
                | (go_at_call 15; (with_reducible refine (HS.out _ hS).mono ?_); rintro e' w2 ⟨rfl, h2⟩; obtain ⟨p0, p1, p2, p3, p4, p5, p6⟩ := h2.m; obtain ⟨q0, q1, q2, q3, q4⟩ := h2.t)
                | (go_at_call 15; (with_reducible refine (HD.out _ h2).mono ?_); rintro e' w3 ⟨rfl, h3⟩; obtain ⟨x0, x1, x2, x3, x4, x5, x6⟩ := h3.m; obtain ⟨y0, y1, y2, y3, y4⟩ := h3.t))
              go_ret
              exact ⟨by rw [HV.out]; rfl, h3.1⟩
            | false =>
              have HV : Hid (matchS m t = false) := by show _ = _; rw [HM.out, z3, z2, z1, y1]; simp
              clear HM
              go_enter Tryd.func17, Tryd.ntmps17
              go_wp2_with (first
                | (go_at_call 15; (with_reducible refine (HS.out _ hS).mono ?_); rintro e' w2 ⟨rfl, h2⟩; obtain ⟨p0, p1, p2, p3, p4, p5, p6⟩ := h2.m; obtain ⟨q0, q1, q2, q3, q4⟩ := h2.t)
                | (go_at_call 15; (with_reducible refine (HD.out _ h2).mono ?_); rintro e' w3 ⟨rfl, h3⟩; obtain ⟨x0, x1, x2, x3, x4, x5, x6⟩ := h3.m; obtain ⟨y0, y1, y2, y3, y4⟩ := h3.t))
              go_ret
              exact ⟨by rw [HV.out]; rfl, h3.1⟩
        | false =>
          cases y2 : (m.sp == t.sp) with
          | true =>
            cases z1 : (m.dp == 0) with
            | true =>
              have HV : Hid (matchS m t = true) := by show _ = _; rw [HM.out, z3, z2, y2, z1]; rfl
              clear HM
              go_enter Tryd.func17, Tryd.ntmps17
              go_wp2_with (first
                | (go_at_call 15; (with_reducible refine (HS.out _ hS).mono ?_); rintro e' w2 ⟨rfl, h2⟩; obtain ⟨p0, p1, p2, p3, p4, p5, p6⟩ := h2.m; obtain ⟨q0, q1, q2, q3, q4⟩ := h2.t)
                | (go_at_call 15; (with_reducible refine (HD.out _ h2).mono ?_); rintro e' w3 ⟨rfl, h3⟩; obtain ⟨x0, x1, x2, x3, x4, x5, x6⟩ := h3.m; obtain ⟨y0, y1, y2, y3, y4⟩ := h3.t))
              go_ret
              exact ⟨by rw [HV.out]; rfl, h3.1⟩
            | false =>
              cases y1 : (m.dp == t.dp) with
              | true =>
                have HV : Hid (matchS m t = true) := by show _ = _; rw [HM.out, z3, z2, y2, z1, y1]; rfl
                clear HM
                go_enter Tryd.func17, Tryd.ntmps17
                go_wp2_with (first
                  | (go_at_call 15; (with_reducible refine (HS.out _ hS).mono ?_); rintro e' w2 ⟨rfl, h2⟩; obtain ⟨p0, p1, p2, p3, p4, p5, p6⟩ := h2.m; obtain ⟨q0, q1, q2, q3, q4⟩ := h2.t)
                  | (go_at_call 15; (with_reducible refine (HD.out _ h2).mono ?_); rintro e' w3 ⟨rfl, h3⟩; obtain ⟨x0, x1, x2, x3, x4, x5, x6⟩ := h3.m; obtain ⟨y0, y1, y2, y3, y4⟩ := h3.t))
                go_ret
                exact ⟨by rw [HV.out]; rfl, h3.1⟩
              | false =>
                have HV : Hid (matchS m t = false) := by show _ = _; rw [HM.out, z3, z2, y2, z1, y1]; simp
                clear HM
                go_enter Tryd.func17, Tryd.ntmps17
                go_wp2_with (first
                  | (go_at_call 15; (with_reducible refine (HS.out _ hS).mono ?_); rintro e' w2 ⟨rfl, h2⟩; obtain ⟨p0, p1, p2, p3, p4, p5, p6⟩ := h2.m; obtain ⟨q0, q1, q2, q3, q4⟩ := h2.t)
                  | (go_at_call 15; (with_reducible refine (HD.out _ h2).mono ?_); rintro e' w3 ⟨rfl, h3⟩; obtain ⟨x0, x1, x2, x3, x4, x5, x6⟩ := h3.m; obtain ⟨y0, y1, y2, y3, y4⟩ := h3.t))
                go_ret
                exact ⟨by rw [HV.out]; rfl, h3.1⟩
          | false =>
            have HV : Hid (matchS m t = false) := by show _ = _; rw [HM.out, z3, z2, y2]; simp
            clear HM
            go_enter Tryd.func17, Tryd.ntmps17
            go_wp2_with (first
              | (go_at_call 15; (with_reducible refine (HS.out _ hS).mono ?_); rintro e' w2 ⟨rfl, h2⟩; obtain ⟨p0, p1, p2, p3, p4, p5, p6⟩ := h2.m; obtain ⟨q0, q1, q2, q3, q4⟩ := h2.t)
              | (go_at_call 15; (with_reducible refine (HD.out _ h2).mono ?_); rintro e' w3 ⟨rfl, h3⟩; obtain ⟨x0, x1, x2, x3, x4, x5, x6⟩ := h3.m; obtain ⟨y0, y1, y2, y3, y4⟩ := h3.t))
            go_ret
            exact ⟨by rw [HV.out]; rfl, h3.1⟩
      | false =>
        cases y3 : (m.pr == t.p) with
        | true =>
          cases z2 : (m.sp == 0) with
          | true =>
            cases z1 : (m.dp == 0) with
            | true =>
              have HV : Hid (matchS m t = true) := by show _ = _; rw [HM.out, z3, y3, z2, z1]; rfl
              clear HM
              go_enter Tryd.func17, Tryd.ntmps17
              go_wp2_with (first
                | (go_at_call 15; (with_reducible refine (HS.out _ hS).mono ?_); rintro e' w2 ⟨rfl, h2⟩; obtain ⟨p0, p1, p2, p3, p4, p5, p6⟩ := h2.m; obtain ⟨q0, q1, q2, q3, q4⟩ := h2.t)
                | (go_at_call 15; (with_reducible refine (HD.out _ h2).mono ?_); rintro e' w3 ⟨rfl, h3⟩; obtain ⟨x0, x1, x2, x3, x4, x5, x6⟩ := h3.m; obtain ⟨y0, y1, y2, y3, y4⟩ := h3.t))
              go_ret
              exact ⟨by rw [HV.out]; rfl, h3.1⟩
            | false =>
              cases y1 : (m.dp == t.dp) with
              | true =>
                have HV : Hid (matchS m t = true) := by show _ = _; rw [HM.out, z3, y3, z2, z1, y1]; rfl
                clear HM
                go_enter Tryd.func17, Tryd.ntmps17
                go_wp2_with (first
                  | (go_at_call 15; (with_reducible refine (HS.out _ hS).mono ?_); rintro e' w2 ⟨rfl, h2⟩; obtain ⟨p0, p1, p2, p3, p4, p5, p6⟩ := h2.m; obtain ⟨q0, q1, q2, q3, q4⟩ := h2.t)
                  | (go_at_call 15; (with_reducible refine (HD.out _ h2).mono ?_); rintro e' w3 ⟨rfl, h3⟩; obtain ⟨x0, x1, x2, x3, x4, x5, x6⟩ := h3.m; obtain ⟨y0, y1, y2, y3, y4⟩ := h3.t))
                go_ret
                exact ⟨by rw [HV.out]; rfl, h3.1⟩
              | false =>
                have HV : Hid (matchS m t = false) := by show _ = _; rw [HM.out, z3, y3, z2, z1, y1]; simp
                clear HM
                go_enter Tryd.func17, Tryd.ntmps17
                go_wp2_with (first
                  | (go_at_call 15; (with_reducible refine (HS.out _ hS).mono ?_); rintro e' w2 ⟨rfl, h2⟩; obtain ⟨p0, p1, p2, p3, p4, p5, p6⟩ := h2.m; obtain ⟨q0, q1, q2, q3, q4⟩ := h2.t)
                  | (go_at_call 15; (with_reducible refine (HD.out _ h2).mono ?_); rintro e' w3 ⟨rfl, h3⟩; obtain ⟨x0, x1, x2, x3, x4, x5, x6⟩ := h3.m; obtain ⟨y0, y1, y2, y3, y4⟩ := h3.t))
                go_ret
                exact ⟨by rw [HV.out]; rfl, h3.1⟩
          | false =>
            cases y2 : (m.sp == t.sp) with
            | true =>
              cases z1 : (m.dp == 0) with
              | true =>
                have HV : Hid (matchS m t = true) := by show _ = _; rw [HM.out, z3, y3, z2, y2, z1]; rfl
                clear HM
                go_enter Tryd.func17, Tryd.ntmps17
                go_wp2_with (first
                  | (go_at_call 15; (with_reducible refine (HS.out _ hS).mono ?_); rintro e' w2 ⟨rfl, h2⟩; obtain ⟨p0, p1, p2, p3, p4, p5, p6⟩ := h2.m; obtain ⟨q0, q1, q2, q3, q4⟩ := h2.t)
                  | (go_at_call 15; (with_reducible refine (HD.out _ h2).mono ?_); rintro e' w3 ⟨rfl, h3⟩; obtain ⟨x0, x1, x2, x3, x4, x5, x6⟩ := h3.m; obtain ⟨y0, y1, y2, y3, y4⟩ := h3.t))
                go_ret
                exact ⟨by rw [HV.out]; rfl, h3.1⟩
              | false =>
                cases y1 : (m.dp == t.dp) with
                | true =>
                  have HV : Hid (matchS m t = true) := by show _ = _; rw [HM.out, z3, y3, z2, y2, z1, y1]; rfl
                  clear HM
                  go_enter Tryd.func17, Tryd.ntmps17
                  go_wp2_with (first
                    | (go_at_call 15; (with_reducible refine (HS.out _ hS).mono ?_); rintro e' w2 ⟨rfl, h2⟩; obtain ⟨p0, p1, p2, p3, p4, p5, p6⟩ := h2.m; obtain ⟨q0, q1, q2, q3, q4⟩ := h2.t)
                    | (go_at_call 15; (with_reducible refine (HD.out _ h2).mono ?_); rintro e' w3 ⟨rfl, h3⟩; obtain ⟨x0, x1, x2, x3, x4, x5, x6⟩ := h3.m; obtain ⟨y0, y1, y2, y3, y4⟩ := h3.t))
                  go_ret
                  exact ⟨by rw [HV.out]; rfl, h3.1⟩
                | false =>
                  have HV : Hid (matchS m t = false) := by show _ = _; rw [HM.out, z3, y3, z2, y2, z1, y1]; simp
                  clear HM
                  go_enter Tryd.func17, Tryd.ntmps17
                  go_wp2_with (first
                    | (go_at_call 15; (with_reducible refine (HS.out _ hS).mono ?_); rintro e' w2 ⟨rfl, h2⟩; obtain ⟨p0, p1, p2, p3, p4, p5, p6⟩ := h2.m; obtain ⟨q0, q1, q2, q3, q4⟩ := h2.t)
                    | (go_at_call 15; (with_reducible refine (HD.out _ h2).mono ?_); rintro e' w3 ⟨rfl, h3⟩; obtain ⟨x0, x1, x2, x3, x4, x5, x6⟩ := h3.m; obtain ⟨y0, y1, y2, y3, y4⟩ := h3.t))
                  go_ret
                  exact ⟨by rw [HV.out]; rfl, h3.1⟩
            | false =>
              have HV : Hid (matchS m t = false) := by show _ = _; rw [HM.out, z3, y3, z2, y2]; simp
              clear HM
              go_enter Tryd.func17, Tryd.ntmps17
              go_wp2_with (first
                | (go_at_call 15; (with_reducible refine (HS.out _ hS).mono ?_); rintro e' w2 ⟨rfl, h2⟩; obtain ⟨p0, p1, p2, p3, p4, p5, p6⟩ := h2.m; obtain ⟨q0, q1, q2, q3, q4⟩ := h2.t)
                | (go_at_call 15; (with_reducible refine (HD.out _ h2).mono ?_); rintro e' w3 ⟨rfl, h3⟩; obtain ⟨x0, x1, x2, x3, x4, x5, x6⟩ := h3.m; obtain ⟨y0, y1, y2, y3, y4⟩ := h3.t))
              go_ret
              exact ⟨by rw [HV.out]; rfl, h3.1⟩
        | false =>
          have HV : Hid (matchS m t = false) := by show _ = _; rw [HM.out, z3, y3]; simp
          clear HM
          go_enter Tryd.func17, Tryd.ntmps17
          go_wp2_with (first
            | (go_at_call 15; (with_reducible refine (HS.out _ hS).mono ?_); rintro e' w2 ⟨rfl, h2⟩; obtain ⟨p0, p1, p2, p3, p4, p5, p6⟩ := h2.m; obtain ⟨q0, q1, q2, q3, q4⟩ := h2.t)
            | (go_at_call 15; (with_reducible refine (HD.out _ h2).mono ?_); rintro e' w3 ⟨rfl, h3⟩; obtain ⟨x0, x1, x2, x3, x4, x5, x6⟩ := h3.m; obtain ⟨y0, y1, y2, y3, y4⟩ := h3.t))
          go_ret
          exact ⟨by rw [HV.out]; rfl, h3.1⟩
end Go.Proofs.YtcmkcloapenpnaaDoor
