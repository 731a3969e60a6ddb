/- Landed prefix: Matches. -/
import Derived.Test.YtcmkcloapenpnaaDoorPnD
namespace Go.Proofs.YtcmkcloapenpnaaDoor
open Go.RowKit
set_option maxHeartbeats 6400000
set_option maxRecDepth 100000
theorem matches_land (m : Mat) (t : Flw) (w : World) (h1 : m.sa < 4294967296) (h2 : m.da < 4294967296) (h3 : t.s < 4294967296) (h4 : t.d < 4294967296) :
    Calls Tryd.prog 16 #[.agg #[.int .u32 (m.sa : Int), .int .i64 m.sl, .int .u32 (m.da : Int), .int .i64 m.dl, .int .i64 m.pr, .int .i64 m.sp, .int .i64 m.dp], .agg #[.int .u32 (t.s : Int), .int .u32 (t.d : Int), .int .i64 t.p, .int .i64 t.sp, .int .i64 t.dp]] w fun e w' => e = .returned (.bool (matchS m t)) ∧ Below w.heap.size w w' := by
  have HM : Hid (matchS m t = (inS m.sa m.sl t.s && inS m.da m.dl t.d && (m.pr == 0 || m.pr == t.p) && (m.sp == 0 || m.sp == t.sp) && (m.dp == 0 || m.dp == t.dp))) := rfl
  have hS := HeldM.start w m t
  have HS := hid (fun w' (hh : HeldM w m t w') => (in_land m.sa m.sl t.s w' h1 h3).mono fun _ _ h => (⟨h.1, hh.next h.2⟩ : _ ∧ HeldM w m t _))
  have HD := hid (fun w' (hh : HeldM w m t w') => (in_land m.da m.dl t.d w' h2 h4).mono fun _ _ h => (⟨h.1, hh.next h.2⟩ : _ ∧ HeldM w m t _))
  have F1 := hid (fun W => fits_any m.pr t.p W)
  have F2 := hid (fun W => fits_any m.sp t.sp W)
  have F3 := hid (fun W => fits_any m.dp t.dp W)
  obtain ⟨b1, hb1⟩ : ∃ b, inS m.sa m.sl t.s = b := ⟨_, rfl⟩
  obtain ⟨b2, hb2⟩ : ∃ b, inS m.da m.dl t.d = b := ⟨_, rfl⟩
  obtain ⟨b3, hb3⟩ : ∃ b, (m.pr == 0 || m.pr == t.p) = b := ⟨_, rfl⟩
  obtain ⟨b4, hb4⟩ : ∃ b, (m.sp == 0 || m.sp == t.sp) = b := ⟨_, rfl⟩
  obtain ⟨b5, hb5⟩ : ∃ b, (m.dp == 0 || m.dp == t.dp) = b := ⟨_, rfl⟩
  rw [hb1] at HS HM
  rw [hb2] at HD HM
  rw [hb3] at F1 HM
  rw [hb4] at F2 HM
  rw [hb5] at F3 HM
  obtain ⟨g0, g1, g2, g3, g4, g5, g6⟩ := hS.m
  obtain ⟨k0, k1, k2, k3, k4⟩ := hS.t
  clear hb1 hb2 hb3 hb4 hb5 h1 h2 h3 h4
  cases b1 with
  | false =>
    have HV := HM.out
    clear HM
    replace HV := hid HV
    go_enter Tryd.func16, Tryd.ntmps16
    go_wp2_with (first
      | (go_at_call 14; (with_reducible refine (HS.out _ hS).mono ?_); rintro e' w2 ⟨rfl, h2⟩; obtain ⟨p0, p1, p2, p3, p4, p5, p6⟩ := h2.m; obtain ⟨q0, q1, q2, q3, q4⟩ := h2.t)
      | (go_at_call 14; (with_reducible refine (HD.out _ h2).mono ?_); rintro e' w3 ⟨rfl, h3⟩; obtain ⟨x0, x1, x2, x3, x4, x5, x6⟩ := h3.m; obtain ⟨y0, y1, y2, y3, y4⟩ := h3.t)
      | (go_at_call 32; (with_reducible refine (F1.out _).mono ?_); rintro e' _ ⟨rfl, rfl⟩)
      | (go_at_call 32; (with_reducible refine (F2.out _).mono ?_); rintro e' _ ⟨rfl, rfl⟩)
      | (go_at_call 32; (with_reducible refine (F3.out _).mono ?_); rintro e' _ ⟨rfl, rfl⟩))
    go_ret
    exact ⟨by rw [HV.out]; rfl, h2.1⟩
  | true =>
    cases b2 with
    | false =>
      have HV := HM.out
      clear HM
      replace HV := hid HV
      go_enter Tryd.func16, Tryd.ntmps16
      go_wp2_with (first
        | (go_at_call 14; (with_reducible refine (HS.out _ hS).mono ?_); rintro e' w2 ⟨rfl, h2⟩; obtain ⟨p0, p1, p2, p3, p4, p5, p6⟩ := h2.m; obtain ⟨q0, q1, q2, q3, q4⟩ := h2.t)
        | (go_at_call 14; (with_reducible refine (HD.out _ h2).mono ?_); rintro e' w3 ⟨rfl, h3⟩; obtain ⟨x0, x1, x2, x3, x4, x5, x6⟩ := h3.m; obtain ⟨y0, y1, y2, y3, y4⟩ := h3.t)
        | (go_at_call 32; (with_reducible refine (F1.out _).mono ?_); rintro e' _ ⟨rfl, rfl⟩)
        | (go_at_call 32; (with_reducible refine (F2.out _).mono ?_); rintro e' _ ⟨rfl, rfl⟩)
        | (go_at_call 32; (with_reducible refine (F3.out _).mono ?_); rintro e' _ ⟨rfl, rfl⟩))
      go_ret
      exact ⟨by rw [HV.out]; rfl, h3.1⟩
    | true =>
      cases b3 with
      | false =>
        have HV := HM.out
        clear HM
        replace HV := hid HV
        go_enter Tryd.func16, Tryd.ntmps16
        go_wp2_with (first
          | (go_at_call 14; (with_reducible refine (HS.out _ hS).mono ?_); rintro e' w2 ⟨rfl, h2⟩; obtain ⟨p0, p1, p2, p3, p4, p5, p6⟩ := h2.m; obtain ⟨q0, q1, q2, q3, q4⟩ := h2.t)
          | (go_at_call 14; (with_reducible refine (HD.out _ h2).mono ?_); rintro e' w3 ⟨rfl, h3⟩; obtain ⟨x0, x1, x2, x3, x4, x5, x6⟩ := h3.m; obtain ⟨y0, y1, y2, y3, y4⟩ := h3.t)
          | (go_at_call 32; (with_reducible refine (F1.out _).mono ?_); rintro e' _ ⟨rfl, rfl⟩)
          | (go_at_call 32; (with_reducible refine (F2.out _).mono ?_); rintro e' _ ⟨rfl, rfl⟩)
          | (go_at_call 32; (with_reducible refine (F3.out _).mono ?_); rintro e' _ ⟨rfl, rfl⟩))
        go_ret
        exact ⟨by rw [HV.out]; rfl, h3.1⟩
      | true =>
        cases b4 with
        | false =>
          have HV := HM.out
          clear HM
          replace HV := hid HV
          go_enter Tryd.func16, Tryd.ntmps16
          go_wp2_with (first
            | (go_at_call 14; (with_reducible refine (HS.out _ hS).mono ?_); rintro e' w2 ⟨rfl, h2⟩; obtain ⟨p0, p1, p2, p3, p4, p5, p6⟩ := h2.m; obtain ⟨q0, q1, q2, q3, q4⟩ := h2.t)
            | (go_at_call 14; (with_reducible refine (HD.out _ h2).mono ?_); rintro e' w3 ⟨rfl, h3⟩; obtain ⟨x0, x1, x2, x3, x4, x5, x6⟩ := h3.m; obtain ⟨y0, y1, y2, y3, y4⟩ := h3.t)
            | (go_at_call 32; (with_reducible refine (F1.out _).mono ?_); rintro e' _ ⟨rfl, rfl⟩)
            | (go_at_call 32; (with_reducible refine (F2.out _).mono ?_); rintro e' _ ⟨rfl, rfl⟩)
            | (go_at_call 32; (with_reducible refine (F3.out _).mono ?_); rintro e' _ ⟨rfl, rfl⟩))
          go_ret
          exact ⟨by rw [HV.out]; rfl, h3.1⟩
        | true =>
          cases b5 with
          | false =>
            have HV := HM.out
            clear HM
            replace HV := hid HV
            go_enter Tryd.func16, Tryd.ntmps16
            go_wp2_with (first
              | (go_at_call 14; (with_reducible refine (HS.out _ hS).mono ?_); rintro e' w2 ⟨rfl, h2⟩; obtain ⟨p0, p1, p2, p3, p4, p5, p6⟩ := h2.m; obtain ⟨q0, q1, q2, q3, q4⟩ := h2.t)
              | (go_at_call 14; (with_reducible refine (HD.out _ h2).mono ?_); rintro e' w3 ⟨rfl, h3⟩; obtain ⟨x0, x1, x2, x3, x4, x5, x6⟩ := h3.m; obtain ⟨y0, y1, y2, y3, y4⟩ := h3.t)
              | (go_at_call 32; (with_reducible refine (F1.out _).mono ?_); rintro e' _ ⟨rfl, rfl⟩)
              | (go_at_call 32; (with_reducible refine (F2.out _).mono ?_); rintro e' _ ⟨rfl, rfl⟩)
              | (go_at_call 32; (with_reducible refine (F3.out _).mono ?_); rintro e' _ ⟨rfl, rfl⟩))
            go_ret
            exact ⟨by rw [HV.out]; rfl, h3.1⟩
          | true =>
            have HV := HM.out
            clear HM
            replace HV := hid HV
            go_enter Tryd.func16, Tryd.ntmps16
            go_wp2_with (first
              | (go_at_call 14; (with_reducible refine (HS.out _ hS).mono ?_); rintro e' w2 ⟨rfl, h2⟩; obtain ⟨p0, p1, p2, p3, p4, p5, p6⟩ := h2.m; obtain ⟨q0, q1, q2, q3, q4⟩ := h2.t)
              | (go_at_call 14; (with_reducible refine (HD.out _ h2).mono ?_); rintro e' w3 ⟨rfl, h3⟩; obtain ⟨x0, x1, x2, x3, x4, x5, x6⟩ := h3.m; obtain ⟨y0, y1, y2, y3, y4⟩ := h3.t)
              | (go_at_call 32; (with_reducible refine (F1.out _).mono ?_); rintro e' _ ⟨rfl, rfl⟩)
              | (go_at_call 32; (with_reducible refine (F2.out _).mono ?_); rintro e' _ ⟨rfl, rfl⟩)
              | (go_at_call 32; (with_reducible refine (F3.out _).mono ?_); rintro e' _ ⟨rfl, rfl⟩))
            go_ret
            exact ⟨by rw [HV.out]; rfl, h3.1⟩
end Go.Proofs.YtcmkcloapenpnaaDoor
