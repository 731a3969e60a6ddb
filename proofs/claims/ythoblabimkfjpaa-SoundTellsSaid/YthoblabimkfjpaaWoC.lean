/- waymarkref11.Split. -/
import Derived.Test.YthoblabimkfjpaaWoA
import Derived.Test.YthoblabimkfjpaaWdT
namespace Go.Proofs.Ythoblabimkfjpaa
open Go.RowKit
set_option maxHeartbeats 6400000
set_option maxRecDepth 100000
def tcells (l : List Tok) : List Value := l.flatMap fun t => [.int .i64 t.kind, .int .i64 t.pos, .string (txt t.text)]
theorem tcells_app (a b : List Tok) : tcells (a ++ b) = tcells a ++ tcells b := List.flatMap_append
theorem tcells_one (l : List Tok) : ∀ u ∈ tcells l, u.oneCell' = true := by
  intro u hu
  simp only [tcells, List.mem_flatMap] at hu
  obtain ⟨t, _, hu⟩ := hu
  simp only [List.mem_cons, List.not_mem_nil, or_false] at hu
  rcases hu with rfl | rfl | rfl <;> rfl
theorem tok_row (k p : Int) (x : List UInt8) : #[Value.int .i64 k, Value.int .i64 p, Value.string (txt x)] = (tcells [⟨k, p, x⟩]).toArray := rfl
theorem letter_any (c : UInt8) (w : World) : Calls Try.prog 55 #[.int .u8 (c.toNat : Int)] w fun e w' => e = .returned (.bool (isLt c)) ∧ w = w' := by
  have HI : Hid (isLt c = (decide (97 ≤ c.toNat) && decide (c.toNat ≤ 122))) := rfl
  by_cases h1 : 97 ≤ c.toNat
  · have t1 : decide ((97 : Int) ≤ (c.toNat : Int)) = true := decide_eq_true (by omega)
    by_cases h2 : c.toNat ≤ 122
    · have t2 : decide ((c.toNat : Int) ≤ 122) = true := decide_eq_true (by omega)
      rw [decide_eq_true h1, decide_eq_true h2] at HI
      clear h1 h2
      go_enter Try.func55, Try.ntmps55
      go_wp2_with fail
      go_ret
      exact ⟨by rw [HI.out]; rfl, rfl⟩
    · have t2 : decide ((c.toNat : Int) ≤ 122) = false := decide_eq_false (by omega)
      rw [decide_eq_true h1, decide_eq_false h2] at HI
      clear h1 h2
      go_enter Try.func55, Try.ntmps55
      go_wp2_with fail
      go_ret
      exact ⟨by rw [HI.out]; rfl, rfl⟩
  · have t1 : decide ((97 : Int) ≤ (c.toNat : Int)) = false := decide_eq_false (by omega)
    rw [decide_eq_false h1] at HI
    clear h1
    go_enter Try.func55, Try.ntmps55
    go_wp2_with fail
    go_ret
    exact ⟨by rw [HI.out]; rfl, rfl⟩
theorem digit_any (c : UInt8) (w : World) : Calls Try.prog 56 #[.int .u8 (c.toNat : Int)] w fun e w' => e = .returned (.bool (isDg c)) ∧ w = w' := by
  have HI : Hid (isDg c = (decide (48 ≤ c.toNat) && decide (c.toNat ≤ 57))) := rfl
  by_cases h1 : 48 ≤ c.toNat
  · have t1 : decide ((48 : Int) ≤ (c.toNat : Int)) = true := decide_eq_true (by omega)
    by_cases h2 : c.toNat ≤ 57
    · have t2 : decide ((c.toNat : Int) ≤ 57) = true := decide_eq_true (by omega)
      rw [decide_eq_true h1, decide_eq_true h2] at HI
      clear h1 h2
      go_enter Try.func56, Try.ntmps56
      go_wp2_with fail
      go_ret
      exact ⟨by rw [HI.out]; rfl, rfl⟩
    · have t2 : decide ((c.toNat : Int) ≤ 57) = false := decide_eq_false (by omega)
      rw [decide_eq_true h1, decide_eq_false h2] at HI
      clear h1 h2
      go_enter Try.func56, Try.ntmps56
      go_wp2_with fail
      go_ret
      exact ⟨by rw [HI.out]; rfl, rfl⟩
  · have t1 : decide ((48 : Int) ≤ (c.toNat : Int)) = false := decide_eq_false (by omega)
    rw [decide_eq_false h1] at HI
    clear h1
    go_enter Try.func56, Try.ntmps56
    go_wp2_with fail
    go_ret
    exact ⟨by rw [HI.out]; rfl, rfl⟩
/-- A split's answer: tokens in a row of the call's own. -/
def SplitAns (x : List Tok × Int × Int) (w : World) (e : Ending) (w' : World) : Prop :=
  ∃ v, e = .returned (.tuple #[v, .int .i64 x.2.1, .int .i64 x.2.2]) ∧ w'.ownsRow w.heap.size 93 3 v x.1.length (tcells x.1) ∧ Below w.heap.size w w'
theorem u8_ne {c d : UInt8} (h : (c == d) = false) : ((c.toNat : Int) == (d.toNat : Int)) = false :=
  beq_eq_false_iff_ne.2 fun h1 => beq_eq_false_iff_ne.1 h (UInt8.toNat_inj.1 (Int.ofNat_inj.1 h1))
theorem u8_eq {c d : UInt8} (h : (c == d) = true) : ((c.toNat : Int) == (d.toNat : Int)) = true := by rw [eq_of_beq h]; exact beq_self_eq_true _
theorem split_long (s : List UInt8) (w : World) (h : 10000 < s.length) (h2 : s.length ≤ 9223372036854775807) : Calls Try.prog 44 #[.string (txt s)] w (SplitAns (splitS s) w) := by
  have Q : splitS s = ([], 0, 6) := by unfold splitS; rw [if_pos h]
  rw [Q]
  have hZ : (txt s).size = s.length := rfl
  have t1 : decide ((10000 : Int) < (s.length : Int)) = true := decide_eq_true (by omega)
  clear Q h
  go_enter Try.func44, Try.ntmps44
  go_wp2_with fail
  try simp only [Exit.inBlock, Exit.then]
  refine bodyPost_ret (results_tmp3 rfl _ _ _) rfl ?_
  exact ⟨_, rfl, World.ownsRow_nil _ _ _ _, Below.refl _ _⟩
theorem split_ok {s : List UInt8} {l : List Tok} (h : s.length ≤ 10000) (hs : scanAt s 0 = (l, none)) : splitS s = (l, -1, 0) := by
  unfold splitS; rw [if_neg (by omega), hs]
theorem split_bad {s : List UInt8} {l : List Tok} {k : Nat} (h : s.length ≤ 10000) (hs : scanAt s 0 = (l, some k)) : splitS s = ([], (k : Int), 3) := by
  unfold splitS; rw [if_neg (by omega), hs]
theorem split_in (s : List UInt8) (w : World) (hs : s.length ≤ 10000) : Calls Try.prog 44 #[.string (txt s)] w (SplitAns (splitS s) w) := by
  obtain ⟨m, hm⟩ : ∃ m, s.length = m := ⟨_, rfl⟩
  have hZ : (txt s).size = m := by rw [txt_size, hm]
  have t1 : decide ((10000 : Int) < (m : Int)) = false := decide_eq_false (by omega)
  have HX := hid (fun (i : Nat) (x : UInt8) (h : s[i]? = some x) => run_at s i x h)
  have HPt := hid (fun (i j : Nat) (h : i ≤ j) (hj : j ≤ s.length) => run_part s i j h hj)
  have HLt := hid (fun (c : UInt8) (W : World) => letter_any c W)
  have HDg := hid (fun (c : UInt8) (W : World) => digit_any c W)
  obtain ⟨i5, hi, hz0, hz1, hz2⟩ := info_parts (show (Try.prog.info? 93).map (fun i => (i.zero, i.size, i.bytes)) = some (some (.agg #[.int .i64 0, .int .i64 0, .string ByteArray.empty]), 3, 32) by kernel_rfl)
  have Ai := hid hi; have Az0 := hid hz0; have Az1 := hid hz1; have Az2 := hid hz2
  clear hi hz0 hz1 hz2
  go_enter Try.func44, Try.ntmps44
  go_wp2_with fail
  go_loopw [5, 6] (fun v i wr => ∃ (k : Nat) (D : List Tok), k ≤ m ∧ i = .int .i64 k ∧ Hid (wr.ownsRow w.heap.size 93 3 v D.length (tcells D)) ∧ Hid (scanAt s 0 = (D ++ (scanAt s k).1, (scanAt s k).2)) ∧ Hid (D.length ≤ k) ∧ Hid (Below w.heap.size w wr)) (fun _ i _ => m - (intOf i).toNat)
  case atStart => exact ⟨0, [], Nat.zero_le _, rfl, World.ownsRow_nil _ _ _ _, rfl, Nat.le_refl _, Below.refl _ _⟩
  case round =>
    obtain ⟨k, D, hk, rfl, HO, HQ, HDl, HB⟩ := hrel
    obtain ⟨A, c, rfl⟩ := pf_form HO.out
    by_cases hlt : k < m
    · obtain ⟨x, hx⟩ : ∃ x, s[k]? = some x := ⟨s[k]'(by omega), List.getElem?_eq_getElem _⟩
      have hrx := HX.out k x hx
      have ew1 : IntKind.i64.wrap ((k : Int) + 1) = (k : Int) + 1 := by rw [IntKind.wrap_i64]; omega
      have hst := scanAt_step hx
      have hLx := hid (HLt.out x)
      have hDx := hid (HDg.out x)
      have hDk := HDl.out
      have hBs := HB.out.size
      cases b1 : isBl x with
      | true =>
        rw [b1, if_pos rfl] at hst
        have HQ2 : Hid (scanAt s 0 = (D ++ (scanAt s (k + 1)).1, (scanAt s (k + 1)).2)) := by show _ = _; rw [HQ.out, hst]
        cases c1 : (x == 32) with
        | true =>
          have u1 : ((x.toNat : Int) == 32) = true := u8_eq c1
          clear hst b1 c1
          go_wp2_with fail
          clear ew1
          go_roundw
          case rel => exact ⟨k + 1, D, by omega, by go_num, HO, HQ2, Nat.le_succ_of_le hDk, HB⟩
          case measure => simp [intOf]; omega
        | false =>
          have u1 : ((x.toNat : Int) == 32) = false := u8_ne c1
          have u2 : ((x.toNat : Int) == 10) = true := u8_eq (by unfold isBl at b1; rw [c1] at b1; simpa using b1)
          clear hst b1 c1
          go_wp2_with fail
          clear ew1
          go_roundw
          case rel => exact ⟨k + 1, D, by omega, by go_num, HO, HQ2, Nat.le_succ_of_le hDk, HB⟩
          case measure => simp [intOf]; omega
      | false =>
        have hb : (x == 32) = false ∧ (x == 10) = false := by unfold isBl at b1; rwa [Bool.or_eq_false_iff] at b1
        have u1 : ((x.toNat : Int) == 32) = false := u8_ne hb.1
        have u2 : ((x.toNat : Int) == 10) = false := u8_ne hb.2
        rw [b1, if_neg (by decide)] at hst
        cases b2 : (x == 35) with
        | true =>
          rw [b2, if_pos rfl] at hst
          have u3 : ((x.toNat : Int) == 35) = true := u8_eq b2
          have hPx : isRm x = true := by rw [eq_of_beq b2]; rfl
          have HQ2 : Hid (∀ j, k + ((s.drop k).takeWhile isRm).length = j → scanAt s 0 = (D ++ (scanAt s j).1, (scanAt s j).2)) := fun j hj => by rw [HQ.out, hst, hj]
          clear hst hb b1 b2
          go_wp2_with fail
          go_loopw [6] (fun i wx => ∃ j : Nat, k ≤ j ∧ j ≤ m ∧ i = .int .i64 j ∧ wx = wr ∧ Hid (∀ q, k ≤ q → q < j → ∀ c, s[q]? = some c → isRm c = true)) (fun i _ => m - (intOf i).toNat)
          case atStart => exact ⟨k, Nat.le_refl _, hk, rfl, rfl, fun q h1 h2 => by omega⟩
          case round =>
            obtain ⟨j, hkj, hj, rfl, hww, HG⟩ := hrel
            subst hww
            by_cases hlj : j < m
            · obtain ⟨y, hy⟩ : ∃ y, s[j]? = some y := ⟨s[j]'(by omega), List.getElem?_eq_getElem _⟩
              have hry := HX.out j y hy
              cases cy : (y == 10) with
              | false =>
                have v1 : ((y.toNat : Int) != 10) = true := by
                  have h10 : ((y.toNat : Int) == 10) = false := u8_ne cy
                  rw [bne, h10]; rfl
                have HG2 : Hid (∀ q, k ≤ q → q < j + 1 → ∀ c, s[q]? = some c → isRm c = true) := by
                  intro q h1 h2 c hc
                  rcases Nat.lt_succ_iff_lt_or_eq.1 h2 with h3 | rfl
                  · exact HG.out q h1 h3 c hc
                  · rw [hy] at hc; cases hc; unfold isRm; rw [bne, cy]; rfl
                have ew2 : IntKind.i64.wrap ((j : Int) + 1) = (j : Int) + 1 := by rw [IntKind.wrap_i64]; omega
                clear cy
                go_wp2_with fail
                clear ew1 ew2
                go_roundw
                case rel => exact ⟨j + 1, by omega, by omega, by go_num, by first | rfl | trivial, HG2.out⟩
                case measure => simp [intOf]; omega
              | true =>
                have v1 : ((y.toNat : Int) != 10) = false := by
                  have h10 : ((y.toNat : Int) == 10) = true := u8_eq cy
                  rw [bne, h10]; rfl
                have hy10 : isRm y = false := by rw [eq_of_beq cy]; rfl
                have hne : k ≠ j := fun h => by subst h; rw [hx] at hy; cases hy; rw [hPx] at hy10; cases hy10
                have HE := hid (HQ2.out j (run_end hkj (by omega) HG.out (fun c hc => by rw [hy] at hc; cases hc; exact hy10)).2)
                clear cy
                go_wp2_with fail
                clear ew1
                go_roundw
                case rel => exact ⟨j, D, by omega, by go_num, HO, HE, Nat.le_trans hDk hkj, HB⟩
                case measure => simp [intOf]; omega
            · obtain rfl : j = m := by omega
              have HE := hid (HQ2.out j (run_end hkj (by omega) HG.out (fun c hc => by rw [List.getElem?_eq_none (by omega)] at hc; cases hc)).2)
              go_wp2_with fail
              clear ew1
              go_roundw
              case rel => exact ⟨j, D, by omega, by go_num, HO, HE, Nat.le_trans hDk hkj, HB⟩
              case measure => simp [intOf]; omega
        | false =>
          have u3 : ((x.toNat : Int) == 35) = false := u8_ne b2
          rw [b2, if_neg (by decide)] at hst
          cases b3 : isLt x with
          | true =>
            rw [b3, if_pos rfl] at hst
            rw [b3] at hLx
            have hPx : isWd x = true := by unfold isWd; rw [b3]; rfl
            have HQ2 : Hid (∀ j, k + ((s.drop k).takeWhile isWd).length = j → scanAt s 0 = (D ++ (⟨1, k, (s.drop k).takeWhile isWd⟩ :: (scanAt s j).1), (scanAt s j).2)) := fun j hj => by rw [HQ.out, hst, hj]
            go_wp2_with (first | (go_at_call 55; (with_reducible refine (hLx.out _).mono ?_); rintro _ _ ⟨rfl, rfl⟩) | (go_at_call 56; (with_reducible refine (hDx.out _).mono ?_); rintro _ _ ⟨rfl, rfl⟩))
            clear hst hb b1 b2
            go_loopw [6] (fun i wx => ∃ j : Nat, k ≤ j ∧ j ≤ m ∧ i = .int .i64 j ∧ wx = wr ∧ Hid (∀ q, k ≤ q → q < j → ∀ c, s[q]? = some c → isWd c = true)) (fun i _ => m - (intOf i).toNat)
            case atStart => exact ⟨k, Nat.le_refl _, hk, rfl, rfl, fun q h1 h2 => by omega⟩
            case round =>
              obtain ⟨j, hkj, hj, rfl, hww, HG⟩ := hrel
              subst hww
              by_cases hlj : j < m
              · obtain ⟨y, hy⟩ : ∃ y, s[j]? = some y := ⟨s[j]'(by omega), List.getElem?_eq_getElem _⟩
                have hry := HX.out j y hy
                have hLy := hid (HLt.out y)
                have hDy := hid (HDg.out y)
                cases f1 : isLt y with
                | true =>
                  rw [f1] at hLy
                  have HG2 : Hid (∀ q, k ≤ q → q < j + 1 → ∀ c, s[q]? = some c → isWd c = true) := by
                    intro q h1 h2 c hc
                    rcases Nat.lt_succ_iff_lt_or_eq.1 h2 with h3 | rfl
                    · exact HG.out q h1 h3 c hc
                    · rw [hy] at hc; cases hc; unfold isWd; simp [f1]
                  have ew2 : IntKind.i64.wrap ((j : Int) + 1) = (j : Int) + 1 := by rw [IntKind.wrap_i64]; omega
                  skip
                  go_wp2_with (first | (go_at_call 55; (with_reducible refine (hLy.out _).mono ?_); rintro _ _ ⟨rfl, rfl⟩) | (go_at_call 56; (with_reducible refine (hDy.out _).mono ?_); rintro _ _ ⟨rfl, rfl⟩))
                  clear ew1 ew2
                  go_roundw
                  case rel => exact ⟨j + 1, by omega, by omega, by go_num, by first | rfl | trivial, HG2.out⟩
                  case measure => simp [intOf]; omega
                | false =>
                  rw [f1] at hLy
                  cases f2 : isDg y with
                  | true =>
                    rw [f2] at hDy
                    have HG2 : Hid (∀ q, k ≤ q → q < j + 1 → ∀ c, s[q]? = some c → isWd c = true) := by
                      intro q h1 h2 c hc
                      rcases Nat.lt_succ_iff_lt_or_eq.1 h2 with h3 | rfl
                      · exact HG.out q h1 h3 c hc
                      · rw [hy] at hc; cases hc; unfold isWd; simp [f2]
                    have ew2 : IntKind.i64.wrap ((j : Int) + 1) = (j : Int) + 1 := by rw [IntKind.wrap_i64]; omega
                    skip
                    go_wp2_with (first | (go_at_call 55; (with_reducible refine (hLy.out _).mono ?_); rintro _ _ ⟨rfl, rfl⟩) | (go_at_call 56; (with_reducible refine (hDy.out _).mono ?_); rintro _ _ ⟨rfl, rfl⟩))
                    clear ew1 ew2
                    go_roundw
                    case rel => exact ⟨j + 1, by omega, by omega, by go_num, by first | rfl | trivial, HG2.out⟩
                    case measure => simp [intOf]; omega
                  | false =>
                    rw [f2] at hDy
                    cases g45 : (y == 45) with
                    | true =>
                      have v45 : ((y.toNat : Int) == 45) = true := u8_eq g45
                      have HG2 : Hid (∀ q, k ≤ q → q < j + 1 → ∀ c, s[q]? = some c → isWd c = true) := by
                        intro q h1 h2 c hc
                        rcases Nat.lt_succ_iff_lt_or_eq.1 h2 with h3 | rfl
                        · exact HG.out q h1 h3 c hc
                        · rw [hy] at hc; cases hc; unfold isWd; simp [g45]
                      have ew2 : IntKind.i64.wrap ((j : Int) + 1) = (j : Int) + 1 := by rw [IntKind.wrap_i64]; omega
                      skip
                      go_wp2_with (first | (go_at_call 55; (with_reducible refine (hLy.out _).mono ?_); rintro _ _ ⟨rfl, rfl⟩) | (go_at_call 56; (with_reducible refine (hDy.out _).mono ?_); rintro _ _ ⟨rfl, rfl⟩))
                      clear ew1 ew2
                      go_roundw
                      case rel => exact ⟨j + 1, by omega, by omega, by go_num, by first | rfl | trivial, HG2.out⟩
                      case measure => simp [intOf]; omega
                    | false =>
                      have v45 : ((y.toNat : Int) == 45) = false := u8_ne g45
                      have hyP : isWd y = false := by unfold isWd; simp [f1, f2, g45]
                      have hne : k ≠ j := fun h => by subst h; rw [hx] at hy; cases hy; rw [hPx] at hyP; cases hyP
                      have hre := run_end hkj (by omega) HG.out (fun c hc => by rw [hy] at hc; cases hc; exact hyP)
                      have HE : Hid (scanAt s 0 = ((D ++ [⟨1, k, (s.drop k).take (j - k)⟩]) ++ (scanAt s j).1, (scanAt s j).2)) := by
                        show _ = _
                        rw [HQ2.out j hre.2, hre.1, List.append_assoc]; rfl
                      obtain ⟨T, hT⟩ : ∃ T, (s.drop k).take (j - k) = T := ⟨_, rfl⟩
                      have hsl := HPt.out k j hkj (by omega)
                      rw [hT] at hsl HE
                      have HRh := hid (fun (v8 : Value) (w8 : World) (h : w8.ownsRow w.heap.size 93 3 v8 (D.length + 1) (tcells D ++ tcells [(⟨1, k, T⟩ : Tok)])) => (by rw [tcells_app, List.length_append]; exact h : w8.ownsRow w.heap.size 93 3 v8 (D ++ [(⟨1, k, T⟩ : Tok)]).length (tcells (D ++ [(⟨1, k, T⟩ : Tok)]))))
                      have hlD : Hid ((D ++ [(⟨1, k, T⟩ : Tok)]).length ≤ j) := by show _ ≤ _; rw [List.length_append, List.length_singleton]; omega
                      clear hre hT
                      go_wp2_with (first | (go_at_call 55; (with_reducible refine (hLy.out _).mono ?_); rintro _ _ ⟨rfl, rfl⟩) | (go_at_call 56; (with_reducible refine (hDy.out _).mono ?_); rintro _ _ ⟨rfl, rfl⟩) | (at_builtin; refine wpList_append_own _ rfl (.tmp 72) (.tmp 79) 89 rfl w.heap.size 93 i5 (.agg #[.int .i64 0, .int .i64 0, .string ByteArray.empty]) 3 32 Try.underlying89 Ai.out Az0.out Az1.out Az2.out rfl (by decide) _ _ _ rfl (HO.out.alloc _) ⟨wr.heap.size, 0, none⟩ 1 1 (tcells [⟨1, k, T⟩]) rfl rfl (new_row (tok_row _ _ _)) (tcells_one _) (by unfold maxLen; omega) (by omega) (by simp; omega) ?_; intro v8 w8 hown8 hg8 _; have HO8 := hid hown8; have HB8 := hid (Below.grown (HB.out.alloc hBs _) hg8 (by simp; omega) (fun q hq => (HO.out.lt q hq).1)); clear hown8))
                      clear ew1
                      go_roundw
                      case rel => exact ⟨j, D ++ [(⟨1, k, T⟩ : Tok)], by omega, by go_num, HRh.out _ _ HO8.out, HE, hlD.out, HB8⟩
                      case measure => simp [intOf]; omega
              · obtain rfl : j = m := by omega
                have hre := run_end hkj (by omega) HG.out (fun c hc => by rw [List.getElem?_eq_none (by omega)] at hc; cases hc)
                have HE : Hid (scanAt s 0 = ((D ++ [⟨1, k, (s.drop k).take (j - k)⟩]) ++ (scanAt s j).1, (scanAt s j).2)) := by
                  show _ = _
                  rw [HQ2.out j hre.2, hre.1, List.append_assoc]; rfl
                obtain ⟨T, hT⟩ : ∃ T, (s.drop k).take (j - k) = T := ⟨_, rfl⟩
                have hsl := HPt.out k j hkj (by omega)
                rw [hT] at hsl HE
                have HRh := hid (fun (v8 : Value) (w8 : World) (h : w8.ownsRow w.heap.size 93 3 v8 (D.length + 1) (tcells D ++ tcells [(⟨1, k, T⟩ : Tok)])) => (by rw [tcells_app, List.length_append]; exact h : w8.ownsRow w.heap.size 93 3 v8 (D ++ [(⟨1, k, T⟩ : Tok)]).length (tcells (D ++ [(⟨1, k, T⟩ : Tok)]))))
                have hlD : Hid ((D ++ [(⟨1, k, T⟩ : Tok)]).length ≤ j) := by show _ ≤ _; rw [List.length_append, List.length_singleton]; omega
                clear hre hT
                go_wp2_with (first |  (at_builtin; refine wpList_append_own _ rfl (.tmp 72) (.tmp 79) 89 rfl w.heap.size 93 i5 (.agg #[.int .i64 0, .int .i64 0, .string ByteArray.empty]) 3 32 Try.underlying89 Ai.out Az0.out Az1.out Az2.out rfl (by decide) _ _ _ rfl (HO.out.alloc _) ⟨wr.heap.size, 0, none⟩ 1 1 (tcells [⟨1, k, T⟩]) rfl rfl (new_row (tok_row _ _ _)) (tcells_one _) (by unfold maxLen; omega) (by omega) (by simp; omega) ?_; intro v8 w8 hown8 hg8 _; have HO8 := hid hown8; have HB8 := hid (Below.grown (HB.out.alloc hBs _) hg8 (by simp; omega) (fun q hq => (HO.out.lt q hq).1)); clear hown8))
                clear ew1
                go_roundw
                case rel => exact ⟨j, D ++ [(⟨1, k, T⟩ : Tok)], by omega, by go_num, HRh.out _ _ HO8.out, HE, hlD.out, HB8⟩
                case measure => simp [intOf]; omega
          | false =>
            rw [b3, if_neg (by decide)] at hst
            rw [b3] at hLx
            cases b4 : isDg x with
            | true =>
              rw [b4, if_pos rfl] at hst
              rw [b4] at hDx
              have hPx : isNm x = true := by unfold isNm; rw [b4]; rfl
              have HQ2 : Hid (∀ j, k + ((s.drop k).takeWhile isNm).length = j → scanAt s 0 = (D ++ (⟨2, k, (s.drop k).takeWhile isNm⟩ :: (scanAt s j).1), (scanAt s j).2)) := fun j hj => by rw [HQ.out, hst, hj]
              go_wp2_with (first | (go_at_call 55; (with_reducible refine (hLx.out _).mono ?_); rintro _ _ ⟨rfl, rfl⟩) | (go_at_call 56; (with_reducible refine (hDx.out _).mono ?_); rintro _ _ ⟨rfl, rfl⟩))
              clear hst hb b1 b2
              go_loopw [6] (fun i wx => ∃ j : Nat, k ≤ j ∧ j ≤ m ∧ i = .int .i64 j ∧ wx = wr ∧ Hid (∀ q, k ≤ q → q < j → ∀ c, s[q]? = some c → isNm c = true)) (fun i _ => m - (intOf i).toNat)
              case atStart => exact ⟨k, Nat.le_refl _, hk, rfl, rfl, fun q h1 h2 => by omega⟩
              case round =>
                obtain ⟨j, hkj, hj, rfl, hww, HG⟩ := hrel
                subst hww
                by_cases hlj : j < m
                · obtain ⟨y, hy⟩ : ∃ y, s[j]? = some y := ⟨s[j]'(by omega), List.getElem?_eq_getElem _⟩
                  have hry := HX.out j y hy
                  have hLy := hid (HLt.out y)
                  have hDy := hid (HDg.out y)
                  cases f2 : isDg y with
                  | true =>
                    rw [f2] at hDy
                    have HG2 : Hid (∀ q, k ≤ q → q < j + 1 → ∀ c, s[q]? = some c → isNm c = true) := by
                      intro q h1 h2 c hc
                      rcases Nat.lt_succ_iff_lt_or_eq.1 h2 with h3 | rfl
                      · exact HG.out q h1 h3 c hc
                      · rw [hy] at hc; cases hc; unfold isNm; simp [f2]
                    have ew2 : IntKind.i64.wrap ((j : Int) + 1) = (j : Int) + 1 := by rw [IntKind.wrap_i64]; omega
                    skip
                    go_wp2_with (first | (go_at_call 55; (with_reducible refine (hLy.out _).mono ?_); rintro _ _ ⟨rfl, rfl⟩) | (go_at_call 56; (with_reducible refine (hDy.out _).mono ?_); rintro _ _ ⟨rfl, rfl⟩))
                    clear ew1 ew2
                    go_roundw
                    case rel => exact ⟨j + 1, by omega, by omega, by go_num, by first | rfl | trivial, HG2.out⟩
                    case measure => simp [intOf]; omega
                  | false =>
                    rw [f2] at hDy
                    cases g46 : (y == 46) with
                    | true =>
                      have v46 : ((y.toNat : Int) == 46) = true := u8_eq g46
                      have HG2 : Hid (∀ q, k ≤ q → q < j + 1 → ∀ c, s[q]? = some c → isNm c = true) := by
                        intro q h1 h2 c hc
                        rcases Nat.lt_succ_iff_lt_or_eq.1 h2 with h3 | rfl
                        · exact HG.out q h1 h3 c hc
                        · rw [hy] at hc; cases hc; unfold isNm; simp [g46]
                      have ew2 : IntKind.i64.wrap ((j : Int) + 1) = (j : Int) + 1 := by rw [IntKind.wrap_i64]; omega
                      skip
                      go_wp2_with (first | (go_at_call 55; (with_reducible refine (hLy.out _).mono ?_); rintro _ _ ⟨rfl, rfl⟩) | (go_at_call 56; (with_reducible refine (hDy.out _).mono ?_); rintro _ _ ⟨rfl, rfl⟩))
                      clear ew1 ew2
                      go_roundw
                      case rel => exact ⟨j + 1, by omega, by omega, by go_num, by first | rfl | trivial, HG2.out⟩
                      case measure => simp [intOf]; omega
                    | false =>
                      have v46 : ((y.toNat : Int) == 46) = false := u8_ne g46
                      cases g47 : (y == 47) with
                      | true =>
                        have v47 : ((y.toNat : Int) == 47) = true := u8_eq g47
                        have HG2 : Hid (∀ q, k ≤ q → q < j + 1 → ∀ c, s[q]? = some c → isNm c = true) := by
                          intro q h1 h2 c hc
                          rcases Nat.lt_succ_iff_lt_or_eq.1 h2 with h3 | rfl
                          · exact HG.out q h1 h3 c hc
                          · rw [hy] at hc; cases hc; unfold isNm; simp [g47]
                        have ew2 : IntKind.i64.wrap ((j : Int) + 1) = (j : Int) + 1 := by rw [IntKind.wrap_i64]; omega
                        skip
                        go_wp2_with (first | (go_at_call 55; (with_reducible refine (hLy.out _).mono ?_); rintro _ _ ⟨rfl, rfl⟩) | (go_at_call 56; (with_reducible refine (hDy.out _).mono ?_); rintro _ _ ⟨rfl, rfl⟩))
                        clear ew1 ew2
                        go_roundw
                        case rel => exact ⟨j + 1, by omega, by omega, by go_num, by first | rfl | trivial, HG2.out⟩
                        case measure => simp [intOf]; omega
                      | false =>
                        have v47 : ((y.toNat : Int) == 47) = false := u8_ne g47
                        have hyP : isNm y = false := by unfold isNm; simp [f2, g46, g47]
                        have hne : k ≠ j := fun h => by subst h; rw [hx] at hy; cases hy; rw [hPx] at hyP; cases hyP
                        have hre := run_end hkj (by omega) HG.out (fun c hc => by rw [hy] at hc; cases hc; exact hyP)
                        have HE : Hid (scanAt s 0 = ((D ++ [⟨2, k, (s.drop k).take (j - k)⟩]) ++ (scanAt s j).1, (scanAt s j).2)) := by
                          show _ = _
                          rw [HQ2.out j hre.2, hre.1, List.append_assoc]; rfl
                        obtain ⟨T, hT⟩ : ∃ T, (s.drop k).take (j - k) = T := ⟨_, rfl⟩
                        have hsl := HPt.out k j hkj (by omega)
                        rw [hT] at hsl HE
                        have HRh := hid (fun (v8 : Value) (w8 : World) (h : w8.ownsRow w.heap.size 93 3 v8 (D.length + 1) (tcells D ++ tcells [(⟨2, k, T⟩ : Tok)])) => (by rw [tcells_app, List.length_append]; exact h : w8.ownsRow w.heap.size 93 3 v8 (D ++ [(⟨2, k, T⟩ : Tok)]).length (tcells (D ++ [(⟨2, k, T⟩ : Tok)]))))
                        have hlD : Hid ((D ++ [(⟨2, k, T⟩ : Tok)]).length ≤ j) := by show _ ≤ _; rw [List.length_append, List.length_singleton]; omega
                        clear hre hT
                        go_wp2_with (first | (go_at_call 55; (with_reducible refine (hLy.out _).mono ?_); rintro _ _ ⟨rfl, rfl⟩) | (go_at_call 56; (with_reducible refine (hDy.out _).mono ?_); rintro _ _ ⟨rfl, rfl⟩) | (at_builtin; refine wpList_append_own _ rfl (.tmp 108) (.tmp 115) 89 rfl w.heap.size 93 i5 (.agg #[.int .i64 0, .int .i64 0, .string ByteArray.empty]) 3 32 Try.underlying89 Ai.out Az0.out Az1.out Az2.out rfl (by decide) _ _ _ rfl (HO.out.alloc _) ⟨wr.heap.size, 0, none⟩ 1 1 (tcells [⟨2, k, T⟩]) rfl rfl (new_row (tok_row _ _ _)) (tcells_one _) (by unfold maxLen; omega) (by omega) (by simp; omega) ?_; intro v8 w8 hown8 hg8 _; have HO8 := hid hown8; have HB8 := hid (Below.grown (HB.out.alloc hBs _) hg8 (by simp; omega) (fun q hq => (HO.out.lt q hq).1)); clear hown8))
                        clear ew1
                        go_roundw
                        case rel => exact ⟨j, D ++ [(⟨2, k, T⟩ : Tok)], by omega, by go_num, HRh.out _ _ HO8.out, HE, hlD.out, HB8⟩
                        case measure => simp [intOf]; omega
                · obtain rfl : j = m := by omega
                  have hre := run_end hkj (by omega) HG.out (fun c hc => by rw [List.getElem?_eq_none (by omega)] at hc; cases hc)
                  have HE : Hid (scanAt s 0 = ((D ++ [⟨2, k, (s.drop k).take (j - k)⟩]) ++ (scanAt s j).1, (scanAt s j).2)) := by
                    show _ = _
                    rw [HQ2.out j hre.2, hre.1, List.append_assoc]; rfl
                  obtain ⟨T, hT⟩ : ∃ T, (s.drop k).take (j - k) = T := ⟨_, rfl⟩
                  have hsl := HPt.out k j hkj (by omega)
                  rw [hT] at hsl HE
                  have HRh := hid (fun (v8 : Value) (w8 : World) (h : w8.ownsRow w.heap.size 93 3 v8 (D.length + 1) (tcells D ++ tcells [(⟨2, k, T⟩ : Tok)])) => (by rw [tcells_app, List.length_append]; exact h : w8.ownsRow w.heap.size 93 3 v8 (D ++ [(⟨2, k, T⟩ : Tok)]).length (tcells (D ++ [(⟨2, k, T⟩ : Tok)]))))
                  have hlD : Hid ((D ++ [(⟨2, k, T⟩ : Tok)]).length ≤ j) := by show _ ≤ _; rw [List.length_append, List.length_singleton]; omega
                  clear hre hT
                  go_wp2_with (first |  (at_builtin; refine wpList_append_own _ rfl (.tmp 108) (.tmp 115) 89 rfl w.heap.size 93 i5 (.agg #[.int .i64 0, .int .i64 0, .string ByteArray.empty]) 3 32 Try.underlying89 Ai.out Az0.out Az1.out Az2.out rfl (by decide) _ _ _ rfl (HO.out.alloc _) ⟨wr.heap.size, 0, none⟩ 1 1 (tcells [⟨2, k, T⟩]) rfl rfl (new_row (tok_row _ _ _)) (tcells_one _) (by unfold maxLen; omega) (by omega) (by simp; omega) ?_; intro v8 w8 hown8 hg8 _; have HO8 := hid hown8; have HB8 := hid (Below.grown (HB.out.alloc hBs _) hg8 (by simp; omega) (fun q hq => (HO.out.lt q hq).1)); clear hown8))
                  clear ew1
                  go_roundw
                  case rel => exact ⟨j, D ++ [(⟨2, k, T⟩ : Tok)], by omega, by go_num, HRh.out _ _ HO8.out, HE, hlD.out, HB8⟩
                  case measure => simp [intOf]; omega
            | false =>
              rw [b4, if_neg (by decide)] at hst
              rw [b4] at hDx
              cases b5 : (x == 59) with
              | true =>
                rw [b5, if_pos rfl] at hst
                have u4 : ((x.toNat : Int) == 59) = true := u8_eq b5
                have HE : Hid (scanAt s 0 = ((D ++ [⟨3, k, [59]⟩]) ++ (scanAt s (k + 1)).1, (scanAt s (k + 1)).2)) := by
                  show _ = _
                  rw [HQ.out, hst, List.append_assoc]; rfl
                have HRh := hid (fun (v8 : Value) (w8 : World) (h : w8.ownsRow w.heap.size 93 3 v8 (D.length + 1) (tcells D ++ tcells [(⟨3, k, [59]⟩ : Tok)])) => (by rw [tcells_app, List.length_append]; exact h : w8.ownsRow w.heap.size 93 3 v8 (D ++ [(⟨3, k, [59]⟩ : Tok)]).length (tcells (D ++ [(⟨3, k, [59]⟩ : Tok)]))))
                have hlD : Hid ((D ++ [(⟨3, k, [59]⟩ : Tok)]).length ≤ k + 1) := by show _ ≤ _; rw [List.length_append, List.length_singleton]; omega
                clear hst hb b1 b2 b3 b4 b5
                go_wp2_with (first | (go_at_call 55; (with_reducible refine (hLx.out _).mono ?_); rintro _ _ ⟨rfl, rfl⟩) | (go_at_call 56; (with_reducible refine (hDx.out _).mono ?_); rintro _ _ ⟨rfl, rfl⟩) | (at_builtin; refine wpList_append_own _ rfl (.tmp 122) (.tmp 125) 89 rfl w.heap.size 93 i5 (.agg #[.int .i64 0, .int .i64 0, .string ByteArray.empty]) 3 32 Try.underlying89 Ai.out Az0.out Az1.out Az2.out rfl (by decide) _ _ _ rfl (HO.out.alloc _) ⟨wr.heap.size, 0, none⟩ 1 1 (tcells [⟨3, k, [59]⟩]) rfl rfl (new_row (show _ = (tcells [⟨3, k, [59]⟩]).toArray from rfl)) (tcells_one _) (by unfold maxLen; omega) (by omega) (by simp; omega) ?_; intro v8 w8 hown8 hg8 _; have HO8 := hid hown8; have HB8 := hid (Below.grown (HB.out.alloc hBs _) hg8 (by simp; omega) (fun q hq => (HO.out.lt q hq).1)); clear hown8))
                clear ew1
                go_roundw
                case rel => exact ⟨k + 1, D ++ [(⟨3, k, [59]⟩ : Tok)], by omega, by go_num, HRh.out _ _ HO8.out, HE, hlD.out, HB8⟩
                case measure => simp [intOf]; omega
              | false =>
                rw [b5, if_neg (by decide)] at hst
                have u4 : ((x.toNat : Int) == 59) = false := u8_ne b5
                have HV : Hid (splitS s = ([], (k : Int), 3)) := split_bad (l := D ++ []) hs (by rw [HQ.out, hst])
                clear hst hb b1 b2 b3 b4 b5
                go_wp2_with (first | (go_at_call 55; (with_reducible refine (hLx.out _).mono ?_); rintro _ _ ⟨rfl, rfl⟩) | (go_at_call 56; (with_reducible refine (hDx.out _).mono ?_); rintro _ _ ⟨rfl, rfl⟩))
                try simp only [Exit.inBlock, Exit.then]
                refine bodyPost_ret (results_tmp3 rfl _ _ _) rfl ?_
                rw [HV.out]
                exact ⟨_, rfl, World.ownsRow_nil _ _ _ _, HB.out⟩
    · obtain rfl : m = k := by omega
      have HV : Hid (splitS s = (D, -1, 0)) := split_ok hs (by rw [HQ.out, scanAt_end (by omega), List.append_nil])
      go_wp2_with fail
      try simp only [Exit.inBlock, Exit.then]
      refine bodyPost_ret (results_tmp3 rfl _ _ _) rfl ?_
      rw [HV.out]
      exact ⟨_, rfl, HO.out, HB.out⟩
theorem split_any (s : List UInt8) (w : World) (h2 : s.length ≤ 9223372036854775807) : Calls Try.prog 44 #[.string (txt s)] w (SplitAns (splitS s) w) := by
  by_cases h : s.length ≤ 10000
  · exact split_in s w h
  · exact split_long s w (by omega) h2
end Go.Proofs.Ythoblabimkfjpaa
