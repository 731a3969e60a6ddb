/- words: letters, digits, a token. -/
import Derived.Test.YtcmkcloapenpnaaDoorWoC
import Derived.Test.YtcmkcloapenpnaaDoorShS
namespace Go.Proofs.YtcmkcloapenpnaaDoor
open Go.RowKit
set_option maxHeartbeats 6400000
set_option maxRecDepth 100000
theorem isLetter_any (c : UInt8) (w : World) : Calls Tryd.prog 47 #[.int .u8 (c.toNat : Int)] w fun e w' => e = .returned (.bool (isLt c)) ∧ w = w' := by
  have HI : Hid (isLt c = (decide (97 ≤ c.toNat) && decide (c.toNat ≤ 122))) := rfl
  by_cases h1 : 97 ≤ c.toNat
  · have t1 : decide ((97 : Int) ≤ (c.toNat : Int)) = true := decide_eq_true (by omega)
    by_cases h2 : c.toNat ≤ 122
    · have t2 : decide ((c.toNat : Int) ≤ 122) = true := decide_eq_true (by omega)
      rw [decide_eq_true h1, decide_eq_true h2] at HI
      clear h1 h2
      go_enter Tryd.func47, Tryd.ntmps47
      go_wp2_with fail
      go_ret
      exact ⟨by rw [HI.out]; rfl, rfl⟩
    · have t2 : decide ((c.toNat : Int) ≤ 122) = false := decide_eq_false (by omega)
      rw [decide_eq_true h1, decide_eq_false h2] at HI
      clear h1 h2
      go_enter Tryd.func47, Tryd.ntmps47
      go_wp2_with fail
      go_ret
      exact ⟨by rw [HI.out]; rfl, rfl⟩
  · have t1 : decide ((97 : Int) ≤ (c.toNat : Int)) = false := decide_eq_false (by omega)
    rw [decide_eq_false h1] at HI
    clear h1
    go_enter Tryd.func47, Tryd.ntmps47
    go_wp2_with fail
    go_ret
    exact ⟨by rw [HI.out]; rfl, rfl⟩
theorem isDigit_any (c : UInt8) (w : World) : Calls Tryd.prog 48 #[.int .u8 (c.toNat : Int)] w fun e w' => e = .returned (.bool (isDg c)) ∧ w = w' := by
  have HI : Hid (isDg c = (decide (48 ≤ c.toNat) && decide (c.toNat ≤ 57))) := rfl
  by_cases h1 : 48 ≤ c.toNat
  · have t1 : decide ((48 : Int) ≤ (c.toNat : Int)) = true := decide_eq_true (by omega)
    by_cases h2 : c.toNat ≤ 57
    · have t2 : decide ((c.toNat : Int) ≤ 57) = true := decide_eq_true (by omega)
      rw [decide_eq_true h1, decide_eq_true h2] at HI
      clear h1 h2
      go_enter Tryd.func48, Tryd.ntmps48
      go_wp2_with fail
      go_ret
      exact ⟨by rw [HI.out]; rfl, rfl⟩
    · have t2 : decide ((c.toNat : Int) ≤ 57) = false := decide_eq_false (by omega)
      rw [decide_eq_true h1, decide_eq_false h2] at HI
      clear h1 h2
      go_enter Tryd.func48, Tryd.ntmps48
      go_wp2_with fail
      go_ret
      exact ⟨by rw [HI.out]; rfl, rfl⟩
  · have t1 : decide ((48 : Int) ≤ (c.toNat : Int)) = false := decide_eq_false (by omega)
    rw [decide_eq_false h1] at HI
    clear h1
    go_enter Tryd.func48, Tryd.ntmps48
    go_wp2_with fail
    go_ret
    exact ⟨by rw [HI.out]; rfl, rfl⟩
theorem staysInWord_any (c : UInt8) (w : World) : Calls Tryd.prog 49 #[.int .u8 (c.toNat : Int)] w fun e w' => e = .returned (.bool (isWd c)) ∧ w = w' := by
  have HI : Hid (isWd c = (isLt c || isDg c || c == 45)) := rfl
  have HL := hid (isLetter_any c)
  have HD := hid (isDigit_any c)
  cases h1 : isLt c with
  | true =>
    rw [h1] at HI HL
    clear h1
    go_enter Tryd.func49, Tryd.ntmps49
    go_wp2_with (first | (go_at_call 47; (with_reducible refine (HL.out _).mono ?_); rintro _ _ ⟨rfl, rfl⟩) | (go_at_call 48; (with_reducible refine (HD.out _).mono ?_); rintro _ _ ⟨rfl, rfl⟩))
    go_ret
    exact ⟨by rw [HI.out]; rfl, rfl⟩
  | false =>
    cases h2 : isDg c with
    | true =>
      rw [h1, h2] at HI
      rw [h1] at HL
      rw [h2] at HD
      clear h1 h2
      go_enter Tryd.func49, Tryd.ntmps49
      go_wp2_with (first | (go_at_call 47; (with_reducible refine (HL.out _).mono ?_); rintro _ _ ⟨rfl, rfl⟩) | (go_at_call 48; (with_reducible refine (HD.out _).mono ?_); rintro _ _ ⟨rfl, rfl⟩))
      go_ret
      exact ⟨by rw [HI.out]; rfl, rfl⟩
    | false =>
      cases h3 : (c == 45) with
      | true =>
        have u3 : ((c.toNat : Int) == 45) = true := u8_eq h3
        rw [h1, h2, h3] at HI
        rw [h1] at HL
        rw [h2] at HD
        clear h1 h2 h3
        go_enter Tryd.func49, Tryd.ntmps49
        go_wp2_with (first | (go_at_call 47; (with_reducible refine (HL.out _).mono ?_); rintro _ _ ⟨rfl, rfl⟩) | (go_at_call 48; (with_reducible refine (HD.out _).mono ?_); rintro _ _ ⟨rfl, rfl⟩))
        go_ret
        exact ⟨by rw [HI.out]; rfl, rfl⟩
      | false =>
        have u3 : ((c.toNat : Int) == 45) = false := u8_ne h3
        rw [h1, h2, h3] at HI
        rw [h1] at HL
        rw [h2] at HD
        clear h1 h2 h3
        go_enter Tryd.func49, Tryd.ntmps49
        go_wp2_with (first | (go_at_call 47; (with_reducible refine (HL.out _).mono ?_); rintro _ _ ⟨rfl, rfl⟩) | (go_at_call 48; (with_reducible refine (HD.out _).mono ?_); rintro _ _ ⟨rfl, rfl⟩))
        go_ret
        exact ⟨by rw [HI.out]; rfl, rfl⟩
theorem staysInNumber_any (c : UInt8) (w : World) : Calls Tryd.prog 51 #[.int .u8 (c.toNat : Int)] w fun e w' => e = .returned (.bool (isNm c)) ∧ w = w' := by
  have HI : Hid (isNm c = (isDg c || c == 46 || c == 47)) := rfl
  have HD := hid (isDigit_any c)
  cases h1 : isDg c with
  | true =>
    rw [h1] at HI HD
    clear h1
    go_enter Tryd.func51, Tryd.ntmps51
    go_wp2_with (go_at_call 48; (with_reducible refine (HD.out _).mono ?_); rintro _ _ ⟨rfl, rfl⟩)
    go_ret
    exact ⟨by rw [HI.out]; rfl, rfl⟩
  | false =>
    cases h2 : (c == 46) with
    | true =>
      have u2 : ((c.toNat : Int) == 46) = true := u8_eq h2
      rw [h1, h2] at HI
      rw [h1] at HD
      clear h1 h2
      go_enter Tryd.func51, Tryd.ntmps51
      go_wp2_with (go_at_call 48; (with_reducible refine (HD.out _).mono ?_); rintro _ _ ⟨rfl, rfl⟩)
      go_ret
      exact ⟨by rw [HI.out]; rfl, rfl⟩
    | false =>
      have u2 : ((c.toNat : Int) == 46) = false := u8_ne h2
      cases h3 : (c == 47) with
      | true =>
        have u3 : ((c.toNat : Int) == 47) = true := u8_eq h3
        rw [h1, h2, h3] at HI
        rw [h1] at HD
        clear h1 h2 h3
        go_enter Tryd.func51, Tryd.ntmps51
        go_wp2_with (go_at_call 48; (with_reducible refine (HD.out _).mono ?_); rintro _ _ ⟨rfl, rfl⟩)
        go_ret
        exact ⟨by rw [HI.out]; rfl, rfl⟩
      | false =>
        have u3 : ((c.toNat : Int) == 47) = false := u8_ne h3
        rw [h1, h2, h3] at HI
        rw [h1] at HD
        clear h1 h2 h3
        go_enter Tryd.func51, Tryd.ntmps51
        go_wp2_with (go_at_call 48; (with_reducible refine (HD.out _).mono ?_); rintro _ _ ⟨rfl, rfl⟩)
        go_ret
        exact ⟨by rw [HI.out]; rfl, rfl⟩
theorem box3 {w : World} {B : Nat} {x0 x1 x2 : Value} {T : TypeId} (h : w.heap[B]? = some (.cells #[x0, x1, x2] T (0, 0))) : w.cell? ⟨B, 0, none⟩ = some x0 ∧ w.cell? ⟨B, 1, none⟩ = some x1 ∧ w.cell? ⟨B, 2, none⟩ = some x2 ∧ ∀ j, w.frozen? ⟨B, j, none⟩ = false :=
  ⟨by rw [cell_of_row _ _ _ _ _ _ h]; rfl, by rw [cell_of_row _ _ _ _ _ _ h]; rfl, by rw [cell_of_row _ _ _ _ _ _ h]; rfl, fun j => frozen_of_row _ _ _ _ _ h⟩
theorem clone_any (s : List UInt8) (w : World) (h : s.length ≤ 10000) : Calls Tryd.prog 73 #[.string (txt s)] w fun e w' => e = .returned (.string (txt s)) ∧ Below w.heap.size w w' := by
  have HC := hid (fun (W : World) => stringslite_Clone (txt s) W (by show s.length ≤ _; omega))
  go_enter Tryd.func73, Tryd.ntmps73
  go_wp2_with (go_at_call 95; (with_reducible refine (HC.out _).mono ?_); rintro e' w1 ⟨rfl, hb1⟩)
  go_ret
  exact ⟨rfl, hb1⟩
theorem token_any (kd : Int) (s : List UInt8) (i j : Nat) (hij : i ≤ j) (hj : j ≤ s.length) (hs : s.length ≤ 10000) (w : World) : Calls Tryd.prog 50 #[.int .i64 kd, .string (txt s), .int .i64 i, .int .i64 j] w fun e w' => e = .returned (.agg #[.int .i64 kd, .int .i64 i, .string (txt ((s.drop i).take (j - i)))]) ∧ Below w.heap.size w w' := by
  have hp := run_part s i j hij hj
  obtain ⟨T, hT⟩ : ∃ T, (s.drop i).take (j - i) = T := ⟨_, rfl⟩
  have hTl : T.length ≤ 10000 := by rw [← hT, List.length_take]; omega
  rw [hT] at hp ⊢
  have HC := hid (fun (W : World) => clone_any T W hTl)
  have HT := hid hT
  clear hT
  go_enter Tryd.func50, Tryd.ntmps50
  go_wp2_with (go_at_call 73; (with_reducible refine (HC.out _).mono ?_); rintro e' w1 ⟨rfl, hb1⟩; have hX := hid ((hb1.block w.heap.size (by simp)).trans (heap_alloc_new w _)); obtain ⟨d0, d1, d2, d3⟩ := box3 hX.out)
  have hg := heap_setCell_same _ w.heap.size 2 _ _ (.string (txt T)) (heap_setCell_same _ w.heap.size 1 _ _ (.int .i64 (i : Int)) (heap_setCell_same _ w.heap.size 0 _ _ (.int .i64 kd) hX.out))
  try simp only [Exit.inBlock, Exit.then]
  refine bodyPost_ret (results_cell_row (p := 8) (fn := Tryd.f50) rfl _ _ _ _ _ _ _ rfl hg Tryd.underlying90 rfl (by kernel_rfl)) rfl ?_
  refine ⟨rfl, ?_⟩
  have h1 : Below w.heap.size w w1 := ((Below.refl _ _).alloc (Nat.le_refl _) _).trans (hb1.mono (by simp))
  exact ((h1.setCell (p := ⟨w.heap.size, 0, none⟩) (Nat.le_refl _) _).setCell (p := ⟨w.heap.size, 1, none⟩) (Nat.le_refl _) _).setCell (p := ⟨w.heap.size, 2, none⟩) (Nat.le_refl _) _
end Go.Proofs.YtcmkcloapenpnaaDoor
