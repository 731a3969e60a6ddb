/- WordsWrong: the law. -/
import Derived.Test.YtpnabmndnaiioaaWoG
import Derived.Deep.DeepCutAuto
namespace Go.Proofs.Ytpnabmndnaiioaa
open Go.RowKit
set_option maxHeartbeats 12800000
set_option maxRecDepth 100000
theorem ww_not (h : WordSpec 7) (c : UInt8) (a n : Int) (w : World) (hn : ¬(0 ≤ a ∧ a ≤ 50 ∧ 9990 ≤ n ∧ n ≤ 10010)) :
    Calls Try.prog 4 #[.int .u8 (c.toNat : Int), .int .i64 a, .int .i64 n] w fun e w' => e = .returned (.bool true) ∧ Below w.heap.size w w' := by
  have HA := hid (alive_any h w)
  clear h
  by_cases c0 : a < 0
  · have t0 : decide (a < 0) = true := decide_eq_true c0
    clear hn c0
    go_enter Try.func4, Try.ntmps4
    go_wp2_with (go_at_call 5; (with_reducible refine HA.out.mono ?_); rintro e' w1 ⟨rfl, hb1⟩)
    go_ret
    exact ⟨rfl, hb1⟩
  · have t0 : decide (a < 0) = false := decide_eq_false c0
    by_cases c1 : 50 < a
    · have t1 : decide ((50 : Int) < a) = true := decide_eq_true c1
      clear hn c0 c1
      go_enter Try.func4, Try.ntmps4
      go_wp2_with (go_at_call 5; (with_reducible refine HA.out.mono ?_); rintro e' w1 ⟨rfl, hb1⟩)
      go_ret
      exact ⟨rfl, hb1⟩
    · have t1 : decide ((50 : Int) < a) = false := decide_eq_false c1
      by_cases c2 : n < 9990
      · have t2 : decide (n < 9990) = true := decide_eq_true c2
        clear hn c0 c1 c2
        go_enter Try.func4, Try.ntmps4
        go_wp2_with (go_at_call 5; (with_reducible refine HA.out.mono ?_); rintro e' w1 ⟨rfl, hb1⟩)
        go_ret
        exact ⟨rfl, hb1⟩
      · have t2 : decide (n < 9990) = false := decide_eq_false c2
        have t3 : decide ((10010 : Int) < n) = true := decide_eq_true (by omega)
        clear hn c0 c1 c2
        go_enter Try.func4, Try.ntmps4
        go_wp2_with (go_at_call 5; (with_reducible refine HA.out.mono ?_); rintro e' w1 ⟨rfl, hb1⟩)
        go_ret
        exact ⟨rfl, hb1⟩
theorem byte_row (w : World) (c : UInt8) : RByt (w.alloc (.cells #[.int .u8 (c.toNat : Int)] 5)) (w.heap.size + 1) (some ⟨w.heap.size, 0, none⟩) 1 [c] := by
  refine ⟨rfl, fun _ => ⟨w.heap.size, 0, rfl, by omega, fun i x hx => ?_⟩⟩
  rw [cell_of_row _ _ _ _ _ _ (heap_alloc_new w _)]
  match i, hx with
  | 0, hx => cases hx; rfl
theorem ww_in (h : WordSpec 7) (c : UInt8) (a n : Nat) (w : World) (ha : a ≤ 50) (hn1 : 9990 ≤ n) (hn2 : n ≤ 10010) :
    Calls Try.prog 4 #[.int .u8 (c.toNat : Int), .int .i64 (a : Int), .int .i64 (n : Int)] w fun e w' => e = .returned (.bool true) ∧ Below w.heap.size w w' := by
  have HA := hid (alive_any h w)
  have t0 : decide ((a : Int) < 0) = false := decide_eq_false (by omega)
  have t1 : decide ((50 : Int) < (a : Int)) = false := decide_eq_false (by omega)
  have t2 : decide ((n : Int) < 9990) = false := decide_eq_false (by omega)
  have t3 : decide ((10010 : Int) < (n : Int)) = false := decide_eq_false (by omega)
  obtain ⟨hy, hz⟩ := split_signs c a ha
  have HT : Hid (∀ W : World, Calls Try.prog 7 #[.string (txt (List.replicate a 59 ++ [c]))] W fun e w' => ∃ A d k, e = .returned (.tuple #[.slice A d k, .int .i64 (if okC c then -1 else (a : Int)), .int .i64 (if okC c then 0 else 3)]) ∧ Below W.heap.size W w') := fun W => by
    cases hk : okC c with
    | true =>
      obtain ⟨l, hl⟩ := hy hk
      have := h (List.replicate a 59 ++ [c]) W (by simp; omega)
      rw [hl] at this
      exact this.mono fun _ _ ⟨A, k, h1, _, h3⟩ => ⟨A, _, k, h1, h3⟩
    | false =>
      have := h (List.replicate a 59 ++ [c]) W (by simp; omega)
      rw [hz hk] at this
      exact this.mono fun _ _ ⟨A, k, h1, _, h3⟩ => ⟨A, _, k, h1, h3⟩
  obtain ⟨p0, hp0⟩ : ∃ p, (if okC c = true then (-1 : Int) else (a : Int)) = p := ⟨_, rfl⟩
  obtain ⟨e0, he0⟩ : ∃ p, (if okC c = true then (0 : Int) else 3) = p := ⟨_, rfl⟩
  rw [hp0, he0] at HT
  have HP0 := hid hp0
  have HE0 := hid he0
  clear hp0 he0
  have HU : Hid (∀ W : World, Calls Try.prog 7 #[.string (txt (List.replicate n 32))] W fun e w' => ∃ A k, e = .returned (.tuple #[.slice A 0 k, .int .i64 (if 10000 < n then 0 else -1), .int .i64 (if 10000 < n then 6 else 0)]) ∧ Below W.heap.size W w') := fun W => by
    have := h (List.replicate n 32) W (by simp; omega)
    rw [split_blanks] at this
    by_cases hk : 10000 < n
    · rw [if_pos hk] at this; rw [if_pos hk, if_pos hk]
      exact this.mono fun _ _ ⟨A, k, h1, _, h3⟩ => ⟨A, k, h1, h3⟩
    · rw [if_neg hk] at this; rw [if_neg hk, if_neg hk]
      exact this.mono fun _ _ ⟨A, k, h1, _, h3⟩ => ⟨A, k, h1, h3⟩
  have HN := hid (fun (x : Int) (W : World) => num_any x W)
  obtain ⟨i5, hi, hz0, hz1, hzb⟩ := info_parts (show (Try.prog.info? 5).map (fun i => (i.zero, i.size, i.bytes)) = some (some (.int .u8 0), 1, 1) by kernel_rfl)
  have Ai := hid hi; have Az0 := hid hz0; have Az1 := hid hz1; have Az2 := hid hzb
  have Hrow := hid (fun W => conv_txt (c := 1) (byte_row W c))
  have Hcat := hid (fun (k : Nat) (hk : k ≤ 50) => (run_mark (List.replicate k 59) 59 (by simp; omega)))
  have Hrep := hid (fun (k : Nat) => (by rw [List.replicate_succ'] : List.replicate (k + 1) (59 : UInt8) = List.replicate k 59 ++ [59]))
  have Hfin := run_cat (List.replicate a 59) [c] (by simp; omega)
  clear hi hz0 hz1 hzb h hy hz
  go_enter Try.func4, Try.ntmps4
  go_wp2_with (go_at_call 5; (with_reducible refine HA.out.mono ?_); rintro e' w1 ⟨rfl, hb1⟩)
  go_loopw [8, 9] (fun ss ii wr => ∃ k : Nat, k ≤ a ∧ ii = .int .i64 k ∧ ss = .string (txt (List.replicate k 59)) ∧ wr = w1) (fun _ ii _ => a - (intOf ii).toNat)
  case atStart => exact ⟨0, Nat.zero_le _, rfl, rfl, rfl⟩
  case round =>
    obtain ⟨k, hk, rfl, rfl, hww⟩ := hrel
    have hws := hww.symm
    subst hws
    clear hww
    by_cases hlt : k < a
    · have r1 := Hcat.out k (by omega)
      have hrp := Hrep.out k
      have ew : IntKind.i64.wrap ((k : Int) + 1) = (k : Int) + 1 := by rw [IntKind.wrap_i64]; omega
      obtain ⟨Q, hQ⟩ : ∃ Q, List.replicate k (59 : UInt8) = Q := ⟨_, rfl⟩
      rw [hQ] at r1 hrp
      rw [hQ]
      have Hrp := hid hrp
      clear hrp hQ
      go_wp2_with fail
      clear ew
      go_roundw
      case rel => exact ⟨k + 1, by omega, by go_num, by rw [Hrp.out], by first | rfl | trivial⟩
      case measure => simp [intOf]; omega
    · obtain rfl : a = k := by omega
      have hcv := Hrow.out w1
      obtain ⟨Q, hQ⟩ : ∃ Q, List.replicate a (59 : UInt8) = Q := ⟨_, rfl⟩
      rw [hQ] at Hfin HT
      rw [hQ]
      clear hQ
      go_upto_region 10 with (go_at_call 7; (with_reducible refine (HT.out _).mono ?_); rintro e' w2 ⟨A2, d2, k2, rfl, hb2⟩)
      have hb12 := hid (hb1.trans (((Below.refl w1.heap.size w1).alloc (Nat.le_refl _) (.cells #[.int .u8 (c.toNat : Int)] 5)).mono hb1.size))
      have hb13 := hid (hb12.out.trans (hb2.mono hb12.out.size))
      clear hcv Hfin hb12 HT
      go_cut [13] (fun v wx => v = .bool (okC c) ∧ wx = w2)
      case first =>
        by_cases p1 : 97 ≤ c.toNat
        · have q1 : decide ((97 : Int) ≤ (c.toNat : Int)) = true := decide_eq_true (by omega)
          by_cases p2 : c.toNat ≤ 122
          · have q2 : decide ((c.toNat : Int) ≤ 122) = true := decide_eq_true (by omega)
            have HV : Hid (okC c = true) := by show _ = _; unfold okC isLt isDg isBl; simp [p1, p2]
            go_wp2_with fail
            go_meet
            exact ⟨by rw [HV.out], by first | rfl | trivial⟩
          · have q2 : decide ((c.toNat : Int) ≤ 122) = false := decide_eq_false (by omega)
            by_cases p3 : 48 ≤ c.toNat
            · have q3 : decide ((48 : Int) ≤ (c.toNat : Int)) = true := decide_eq_true (by omega)
              by_cases p4 : c.toNat ≤ 57
              · have q4 : decide ((c.toNat : Int) ≤ 57) = true := decide_eq_true (by omega)
                have HV : Hid (okC c = true) := by show _ = _; unfold okC isLt isDg isBl; simp [p3, p4]
                go_wp2_with fail
                go_meet
                exact ⟨by rw [HV.out], by first | rfl | trivial⟩
              · have q4 : decide ((c.toNat : Int) ≤ 57) = false := decide_eq_false (by omega)
                cases g32 : (c == 32) with
                | true =>
                  have v32 : ((c.toNat : Int) == 32) = true := u8_eq g32
                  have HV : Hid (okC c = true) := by show _ = _; unfold okC isLt isDg isBl; simp [g32]
                  go_wp2_with fail
                  go_meet
                  exact ⟨by rw [HV.out], by first | rfl | trivial⟩
                | false =>
                  have v32 : ((c.toNat : Int) == 32) = false := u8_ne g32
                  cases g10 : (c == 10) with
                  | true =>
                    have v10 : ((c.toNat : Int) == 10) = true := u8_eq g10
                    have HV : Hid (okC c = true) := by show _ = _; unfold okC isLt isDg isBl; simp [g10]
                    go_wp2_with fail
                    go_meet
                    exact ⟨by rw [HV.out], by first | rfl | trivial⟩
                  | false =>
                    have v10 : ((c.toNat : Int) == 10) = false := u8_ne g10
                    cases g35 : (c == 35) with
                    | true =>
                      have v35 : ((c.toNat : Int) == 35) = true := u8_eq g35
                      have HV : Hid (okC c = true) := by show _ = _; unfold okC isLt isDg isBl; simp [g35]
                      go_wp2_with fail
                      go_meet
                      exact ⟨by rw [HV.out], by first | rfl | trivial⟩
                    | false =>
                      have v35 : ((c.toNat : Int) == 35) = false := u8_ne g35
                      cases g59 : (c == 59) with
                      | true =>
                        have v59 : ((c.toNat : Int) == 59) = true := u8_eq g59
                        have HV : Hid (okC c = true) := by show _ = _; unfold okC isLt isDg isBl; simp [g59]
                        go_wp2_with fail
                        go_meet
                        exact ⟨by rw [HV.out], by first | rfl | trivial⟩
                      | false =>
                        have v59 : ((c.toNat : Int) == 59) = false := u8_ne g59
                        have HV : Hid (okC c = false) := by show _ = _; unfold okC isLt isDg isBl; simp only [decide_eq_true p1, decide_eq_false p2, decide_eq_true p3, decide_eq_false p4, g32, g10, g35, g59]; rfl
                        go_wp2_with fail
                        go_meet
                        exact ⟨by rw [HV.out], by first | rfl | trivial⟩
            · have q3 : decide ((48 : Int) ≤ (c.toNat : Int)) = false := decide_eq_false (by omega)
              cases g32 : (c == 32) with
              | true =>
                have v32 : ((c.toNat : Int) == 32) = true := u8_eq g32
                have HV : Hid (okC c = true) := by show _ = _; unfold okC isLt isDg isBl; simp [g32]
                go_wp2_with fail
                go_meet
                exact ⟨by rw [HV.out], by first | rfl | trivial⟩
              | false =>
                have v32 : ((c.toNat : Int) == 32) = false := u8_ne g32
                cases g10 : (c == 10) with
                | true =>
                  have v10 : ((c.toNat : Int) == 10) = true := u8_eq g10
                  have HV : Hid (okC c = true) := by show _ = _; unfold okC isLt isDg isBl; simp [g10]
                  go_wp2_with fail
                  go_meet
                  exact ⟨by rw [HV.out], by first | rfl | trivial⟩
                | false =>
                  have v10 : ((c.toNat : Int) == 10) = false := u8_ne g10
                  cases g35 : (c == 35) with
                  | true =>
                    have v35 : ((c.toNat : Int) == 35) = true := u8_eq g35
                    have HV : Hid (okC c = true) := by show _ = _; unfold okC isLt isDg isBl; simp [g35]
                    go_wp2_with fail
                    go_meet
                    exact ⟨by rw [HV.out], by first | rfl | trivial⟩
                  | false =>
                    have v35 : ((c.toNat : Int) == 35) = false := u8_ne g35
                    cases g59 : (c == 59) with
                    | true =>
                      have v59 : ((c.toNat : Int) == 59) = true := u8_eq g59
                      have HV : Hid (okC c = true) := by show _ = _; unfold okC isLt isDg isBl; simp [g59]
                      go_wp2_with fail
                      go_meet
                      exact ⟨by rw [HV.out], by first | rfl | trivial⟩
                    | false =>
                      have v59 : ((c.toNat : Int) == 59) = false := u8_ne g59
                      have HV : Hid (okC c = false) := by show _ = _; unfold okC isLt isDg isBl; simp only [decide_eq_true p1, decide_eq_false p2, decide_eq_false p3, g32, g10, g35, g59]; rfl
                      go_wp2_with fail
                      go_meet
                      exact ⟨by rw [HV.out], by first | rfl | trivial⟩
        · have q1 : decide ((97 : Int) ≤ (c.toNat : Int)) = false := decide_eq_false (by omega)
          by_cases p3 : 48 ≤ c.toNat
          · have q3 : decide ((48 : Int) ≤ (c.toNat : Int)) = true := decide_eq_true (by omega)
            by_cases p4 : c.toNat ≤ 57
            · have q4 : decide ((c.toNat : Int) ≤ 57) = true := decide_eq_true (by omega)
              have HV : Hid (okC c = true) := by show _ = _; unfold okC isLt isDg isBl; simp [p3, p4]
              go_wp2_with fail
              go_meet
              exact ⟨by rw [HV.out], by first | rfl | trivial⟩
            · have q4 : decide ((c.toNat : Int) ≤ 57) = false := decide_eq_false (by omega)
              cases g32 : (c == 32) with
              | true =>
                have v32 : ((c.toNat : Int) == 32) = true := u8_eq g32
                have HV : Hid (okC c = true) := by show _ = _; unfold okC isLt isDg isBl; simp [g32]
                go_wp2_with fail
                go_meet
                exact ⟨by rw [HV.out], by first | rfl | trivial⟩
              | false =>
                have v32 : ((c.toNat : Int) == 32) = false := u8_ne g32
                cases g10 : (c == 10) with
                | true =>
                  have v10 : ((c.toNat : Int) == 10) = true := u8_eq g10
                  have HV : Hid (okC c = true) := by show _ = _; unfold okC isLt isDg isBl; simp [g10]
                  go_wp2_with fail
                  go_meet
                  exact ⟨by rw [HV.out], by first | rfl | trivial⟩
                | false =>
                  have v10 : ((c.toNat : Int) == 10) = false := u8_ne g10
                  cases g35 : (c == 35) with
                  | true =>
                    have v35 : ((c.toNat : Int) == 35) = true := u8_eq g35
                    have HV : Hid (okC c = true) := by show _ = _; unfold okC isLt isDg isBl; simp [g35]
                    go_wp2_with fail
                    go_meet
                    exact ⟨by rw [HV.out], by first | rfl | trivial⟩
                  | false =>
                    have v35 : ((c.toNat : Int) == 35) = false := u8_ne g35
                    cases g59 : (c == 59) with
                    | true =>
                      have v59 : ((c.toNat : Int) == 59) = true := u8_eq g59
                      have HV : Hid (okC c = true) := by show _ = _; unfold okC isLt isDg isBl; simp [g59]
                      go_wp2_with fail
                      go_meet
                      exact ⟨by rw [HV.out], by first | rfl | trivial⟩
                    | false =>
                      have v59 : ((c.toNat : Int) == 59) = false := u8_ne g59
                      have HV : Hid (okC c = false) := by show _ = _; unfold okC isLt isDg isBl; simp only [decide_eq_false p1, decide_eq_true p3, decide_eq_false p4, g32, g10, g35, g59]; rfl
                      go_wp2_with fail
                      go_meet
                      exact ⟨by rw [HV.out], by first | rfl | trivial⟩
          · have q3 : decide ((48 : Int) ≤ (c.toNat : Int)) = false := decide_eq_false (by omega)
            cases g32 : (c == 32) with
            | true =>
              have v32 : ((c.toNat : Int) == 32) = true := u8_eq g32
              have HV : Hid (okC c = true) := by show _ = _; unfold okC isLt isDg isBl; simp [g32]
              go_wp2_with fail
              go_meet
              exact ⟨by rw [HV.out], by first | rfl | trivial⟩
            | false =>
              have v32 : ((c.toNat : Int) == 32) = false := u8_ne g32
              cases g10 : (c == 10) with
              | true =>
                have v10 : ((c.toNat : Int) == 10) = true := u8_eq g10
                have HV : Hid (okC c = true) := by show _ = _; unfold okC isLt isDg isBl; simp [g10]
                go_wp2_with fail
                go_meet
                exact ⟨by rw [HV.out], by first | rfl | trivial⟩
              | false =>
                have v10 : ((c.toNat : Int) == 10) = false := u8_ne g10
                cases g35 : (c == 35) with
                | true =>
                  have v35 : ((c.toNat : Int) == 35) = true := u8_eq g35
                  have HV : Hid (okC c = true) := by show _ = _; unfold okC isLt isDg isBl; simp [g35]
                  go_wp2_with fail
                  go_meet
                  exact ⟨by rw [HV.out], by first | rfl | trivial⟩
                | false =>
                  have v35 : ((c.toNat : Int) == 35) = false := u8_ne g35
                  cases g59 : (c == 59) with
                  | true =>
                    have v59 : ((c.toNat : Int) == 59) = true := u8_eq g59
                    have HV : Hid (okC c = true) := by show _ = _; unfold okC isLt isDg isBl; simp [g59]
                    go_wp2_with fail
                    go_meet
                    exact ⟨by rw [HV.out], by first | rfl | trivial⟩
                  | false =>
                    have v59 : ((c.toNat : Int) == 59) = false := u8_ne g59
                    have HV : Hid (okC c = false) := by show _ = _; unfold okC isLt isDg isBl; simp only [decide_eq_false p1, decide_eq_false p3, g32, g10, g35, g59]; rfl
                    go_wp2_with fail
                    go_meet
                    exact ⟨by rw [HV.out], by first | rfl | trivial⟩
      case rest =>
        obtain ⟨rfl, hww⟩ := hcut
        have hws := hww.symm
        subst hws
        clear hww
        cases hk : okC c with
        | true =>
          have hp : p0 = -1 := by rw [← HP0.out, hk]; rfl
          have he : e0 = 0 := by rw [← HE0.out, hk]; rfl
          subst hp he
          have s1 : ((0 : Int) == 0) = true := rfl
          go_wp2_with (first
            | (go_at_call 8; (with_reducible refine (HN.out _ _).mono ?_); rintro _ _ ⟨rfl, rfl⟩)
            | (at_make; refine wpList_make_full _ rfl (.tmp 105) (.tmp 105) 34 rfl w2.heap.size 5 i5 (.int .u8 0) 1 Try.underlying34 Ai.out Az0.out Az1.out _ _ _ _ n rfl rfl rfl rfl (by rw [Az2.out]; omega) (by unfold maxLen; omega) (Nat.le_refl _) ?_; intro w3 hown3 hg3; have HM3 := hid (URow.made hown3); have b3 := grown_below hg3; clear hown3 hg3))
          have hb14 := hid (hb13.out.trans (b3.mono hb13.out.size))
          clear b3
          have hG := hb13.out.size
          go_loopw [15] (fun ii wr => ∃ k : Nat, k ≤ n ∧ ii = .int .i64 k ∧ Hid (URow wr w2.heap.size n (fun j => if j < k then 32 else 0)) ∧ Hid (Below w.heap.size w wr)) (fun ii _ => n - (intOf ii).toNat)
          case atStart => exact ⟨0, Nat.zero_le _, rfl, HM3.out.congr (fun e _ => by simp), hb14.out⟩
          case round =>
            obtain ⟨k, hk2, rfl, HBr, HBw⟩ := hrel
            by_cases hkn : k < n
            · have cm := HBr.out.cell hkn
              have fm := HBr.out.frozen k
              have ew : IntKind.i64.wrap ((k : Int) + 1) = (k : Int) + 1 := by rw [IntKind.wrap_i64]; omega
              have HS : Hid (URow (wr.setCell ⟨w2.heap.size, k, none⟩ (.int .u8 32)) w2.heap.size n (fun j => if j < k + 1 then 32 else 0)) := (HBr.out.set 32).congr (fun j _ => by
                by_cases h1 : j = k
                · rw [if_pos h1, if_pos (by omega)]
                · rw [if_neg h1]
                  by_cases h2 : j < k
                  · rw [if_pos h2, if_pos (by omega)]
                  · rw [if_neg h2, if_neg (by omega)])
              have HBs : Hid (Below w.heap.size w (wr.setCell ⟨w2.heap.size, k, none⟩ (.int .u8 32))) := HBw.out.setCell hG _
              go_wp2_with fail
              clear ew
              go_roundw
              case rel => exact ⟨k + 1, by omega, by go_num, HS.out, HBs.out⟩
              case measure => simp [intOf]; omega
            · obtain rfl : n = k := by omega
              have hcv2 := conv_txt (c := n) (HBr.out.toRByt (fun e he => if_pos he))
              by_cases hbig : 10000 < n
              · have z1 : decide ((n : Int) ≤ 10000) = false := decide_eq_false (by omega)
                have z2 : decide (n ≤ 10000) = false := decide_eq_false (by omega)
                rw [if_pos hbig, if_pos hbig] at HU
                have x1 : ((6 : Int) == 0) = false := rfl
                have x2 : ((6 : Int) == 6) = true := rfl
                have x3 : ((0 : Int) == 0) = true := rfl
                clear hbig
                go_wp2_with (first
                  | (go_at_call 7; (with_reducible refine (HU.out _).mono ?_); rintro e' w5 ⟨A5, k5, rfl, hb5⟩)
                  | (go_at_call 8; (with_reducible refine (HN.out _ _).mono ?_); rintro _ _ ⟨rfl, rfl⟩))
                go_ret
                exact ⟨rfl, HBw.out.trans (hb5.mono HBw.out.size)⟩
              · have z1 : decide ((n : Int) ≤ 10000) = true := decide_eq_true (by omega)
                have z2 : decide (n ≤ 10000) = true := decide_eq_true (by omega)
                rw [if_neg hbig, if_neg hbig] at HU
                have x1 : ((0 : Int) == 0) = true := rfl
                clear hbig
                go_wp2_with (first
                  | (go_at_call 7; (with_reducible refine (HU.out _).mono ?_); rintro e' w5 ⟨A5, k5, rfl, hb5⟩)
                  | (go_at_call 8; (with_reducible refine (HN.out _ _).mono ?_); rintro _ _ ⟨rfl, rfl⟩))
                go_ret
                exact ⟨rfl, HBw.out.trans (hb5.mono HBw.out.size)⟩
        | false =>
          have hp : p0 = (a : Int) := by rw [← HP0.out, hk]; rfl
          have he : e0 = 3 := by rw [← HE0.out, hk]; rfl
          subst hp he
          have s1 : ((3 : Int) == 0) = false := rfl
          have s2 : ((3 : Int) != 3) = false := rfl
          have s3 : ((a : Int) != (a : Int)) = false := by simp
          go_wp2_with (first
            | (go_at_call 8; (with_reducible refine (HN.out _ _).mono ?_); rintro _ _ ⟨rfl, rfl⟩)
            | (at_make; refine wpList_make_full _ rfl (.tmp 105) (.tmp 105) 34 rfl w2.heap.size 5 i5 (.int .u8 0) 1 Try.underlying34 Ai.out Az0.out Az1.out _ _ _ _ n rfl rfl rfl rfl (by rw [Az2.out]; omega) (by unfold maxLen; omega) (Nat.le_refl _) ?_; intro w3 hown3 hg3; have HM3 := hid (URow.made hown3); have b3 := grown_below hg3; clear hown3 hg3))
          have hb14 := hid (hb13.out.trans (b3.mono hb13.out.size))
          clear b3
          have hG := hb13.out.size
          go_loopw [15] (fun ii wr => ∃ k : Nat, k ≤ n ∧ ii = .int .i64 k ∧ Hid (URow wr w2.heap.size n (fun j => if j < k then 32 else 0)) ∧ Hid (Below w.heap.size w wr)) (fun ii _ => n - (intOf ii).toNat)
          case atStart => exact ⟨0, Nat.zero_le _, rfl, HM3.out.congr (fun e _ => by simp), hb14.out⟩
          case round =>
            obtain ⟨k, hk2, rfl, HBr, HBw⟩ := hrel
            by_cases hkn : k < n
            · have cm := HBr.out.cell hkn
              have fm := HBr.out.frozen k
              have ew : IntKind.i64.wrap ((k : Int) + 1) = (k : Int) + 1 := by rw [IntKind.wrap_i64]; omega
              have HS : Hid (URow (wr.setCell ⟨w2.heap.size, k, none⟩ (.int .u8 32)) w2.heap.size n (fun j => if j < k + 1 then 32 else 0)) := (HBr.out.set 32).congr (fun j _ => by
                by_cases h1 : j = k
                · rw [if_pos h1, if_pos (by omega)]
                · rw [if_neg h1]
                  by_cases h2 : j < k
                  · rw [if_pos h2, if_pos (by omega)]
                  · rw [if_neg h2, if_neg (by omega)])
              have HBs : Hid (Below w.heap.size w (wr.setCell ⟨w2.heap.size, k, none⟩ (.int .u8 32))) := HBw.out.setCell hG _
              go_wp2_with fail
              clear ew
              go_roundw
              case rel => exact ⟨k + 1, by omega, by go_num, HS.out, HBs.out⟩
              case measure => simp [intOf]; omega
            · obtain rfl : n = k := by omega
              have hcv2 := conv_txt (c := n) (HBr.out.toRByt (fun e he => if_pos he))
              by_cases hbig : 10000 < n
              · have z1 : decide ((n : Int) ≤ 10000) = false := decide_eq_false (by omega)
                have z2 : decide (n ≤ 10000) = false := decide_eq_false (by omega)
                rw [if_pos hbig, if_pos hbig] at HU
                have x1 : ((6 : Int) == 0) = false := rfl
                have x2 : ((6 : Int) == 6) = true := rfl
                have x3 : ((0 : Int) == 0) = true := rfl
                clear hbig
                go_wp2_with (first
                  | (go_at_call 7; (with_reducible refine (HU.out _).mono ?_); rintro e' w5 ⟨A5, k5, rfl, hb5⟩)
                  | (go_at_call 8; (with_reducible refine (HN.out _ _).mono ?_); rintro _ _ ⟨rfl, rfl⟩))
                go_ret
                exact ⟨rfl, HBw.out.trans (hb5.mono HBw.out.size)⟩
              · have z1 : decide ((n : Int) ≤ 10000) = true := decide_eq_true (by omega)
                have z2 : decide (n ≤ 10000) = true := decide_eq_true (by omega)
                rw [if_neg hbig, if_neg hbig] at HU
                have x1 : ((0 : Int) == 0) = true := rfl
                clear hbig
                go_wp2_with (first
                  | (go_at_call 7; (with_reducible refine (HU.out _).mono ?_); rintro e' w5 ⟨A5, k5, rfl, hb5⟩)
                  | (go_at_call 8; (with_reducible refine (HN.out _ _).mono ?_); rintro _ _ ⟨rfl, rfl⟩))
                go_ret
                exact ⟨rfl, HBw.out.trans (hb5.mono HBw.out.size)⟩
theorem wrong_any (h : WordSpec 7) (c : UInt8) (a n : Int) (w : World) :
    Calls Try.prog 4 #[.int .u8 (c.toNat : Int), .int .i64 a, .int .i64 n] w fun e w' => e = .returned (.bool true) ∧ Below w.heap.size w w' := by
  by_cases hn : 0 ≤ a ∧ a ≤ 50 ∧ 9990 ≤ n ∧ n ≤ 10010
  · obtain ⟨A, rfl⟩ := Int.eq_ofNat_of_zero_le hn.1
    obtain ⟨N, rfl⟩ := Int.eq_ofNat_of_zero_le (show 0 ≤ n by omega)
    exact ww_in h c A N w (by omega) (by omega) (by omega)
  · exact ww_not h c a n w hn
end Go.Proofs.Ytpnabmndnaiioaa
