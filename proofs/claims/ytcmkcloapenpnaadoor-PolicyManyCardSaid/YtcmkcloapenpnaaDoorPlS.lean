/- PolicyMany. -/
import Derived.Test.YtcmkcloapenpnaaDoorPlP
namespace Go.Proofs.YtcmkcloapenpnaaDoor
open Go.RowKit
set_option maxHeartbeats 12800000
set_option maxRecDepth 100000
def sa1 : List UInt8 := [114, 117, 108, 101, 32, 97, 32, 49, 32, 102, 114, 111, 109, 32, 48, 32, 116, 111, 32, 49, 59]
def manyS (n : Nat) : List UInt8 := (List.replicate n sa1).flatten
theorem many_all : ∀ n, n < 41 → (parseS (manyS n)).1.length = (if n ≤ 20 then n else 0) ∧ (parseS (manyS n)).2 = (if n ≤ 20 then (-1, 0) else (420, 6)) := by decide +kernel
theorem manyS_succ (k : Nat) : manyS (k + 1) = manyS k ++ sa1 := by
  unfold manyS
  rw [List.replicate_succ', List.flatten_append]
  simp
theorem manyS_len (k : Nat) : (manyS k).length = k * 21 := by
  induction k with
  | zero => rfl
  | succ k ih => rw [manyS_succ, List.length_append, ih, Nat.add_mul]; rfl
theorem many_in {L : World → Prop} (h : PolicySpec L 19 22) (n : Nat) (hn : n ≤ 40) (w : World) (hL : L w) : Calls Tryd.prog 7 #[.int .i64 (n : Int)] w fun e w' => e = .returned (.bool true) ∧ Below w.heap.size w w' := by
  have HA := hid (alive13 h w hL)
  obtain ⟨hl, hp⟩ := many_all n (by omega)
  have HN := hid (fun x W => num13_any x W)
  have hlen := manyS_len n
  have t1 : decide ((n : Int) < 0) = false := by simp
  have t2 : decide ((40 : Int) < (n : Int)) = false := by simp; omega
  have t3 : ((n : Int) == (n : Int)) = true := by simp
  by_cases h20 : n ≤ 20
  · rw [if_pos h20] at hl hp
    have HP := hid (fun W (hb : Below w.heap.size w W) => parse_out (show parseS (manyS n) = ((parseS (manyS n)).1, -1, 0) from Prod.ext rfl hp) hl (h.parse (manyS n) W (h.on w W hL hb) (by omega)))
    have t4 : decide ((20 : Int) < (n : Int)) = false := by simp; omega
    clear h hl hp hlen h20
    go_enter Tryd.func7, Tryd.ntmps7
    go_wp2_with (first
      | (go_at_call 18; (with_reducible refine HA.out.mono ?_); rintro e' w1 ⟨rfl, hb1⟩))
    go_loopw [4, 5] (fun s i wr => ∃ k : Nat, k ≤ n ∧ i = .int .i64 k ∧ s = .string (txt (manyS k)) ∧ Hid (w1 = wr)) (fun _ i _ => n - (intOf i).toNat)
    case atStart => exact ⟨0, Nat.zero_le _, rfl, rfl, rfl⟩
    case round =>
      obtain ⟨k, hk, rfl, rfl, hw⟩ := hrel
      obtain rfl : w1 = wr := hw
      by_cases hlt : k < n
      · have hcat := fun W => run_cat (manyS k) sa1 (by rw [manyS_len]; have : sa1.length = 21 := rfl; omega) W
        rw [← manyS_succ] at hcat
        have hcat' : ∀ W, (Op.stringOp .add (txt (manyS k)) ⟨#[114, 117, 108, 101, 32, 97, 32, 49, 32, 102, 114, 111, 109, 32, 48, 32, 116, 111, 32, 49, 59]⟩).run Tryd.prog W = .ok (.string (txt (manyS (k + 1)))) W := hcat
        clear hcat
        go_wp2_with fail
        go_roundw
        case rel => exact ⟨k + 1, by omega, by go_num, rfl, hid trivial⟩
        case measure => simp [intOf]; omega
      · obtain rfl : k = n := by omega
        go_wp2_with (first
          | (go_at_call 19; (with_reducible refine (HP.out _ hb1).mono ?_); rintro e' w2 ⟨A1, c1, qs1, rfl, _, _, hb2⟩)
          | (go_at_call 20; (with_reducible refine (HN.out _ _).mono ?_); rintro _ _ ⟨rfl, rfl⟩))
        go_ret
        exact ⟨rfl, hb1.trans (hb2.mono hb1.size)⟩
  · rw [if_neg h20] at hl hp
    have HP := hid (fun W (hb : Below w.heap.size w W) => parse_out (show parseS (manyS n) = ((parseS (manyS n)).1, 420, 6) from Prod.ext rfl hp) hl (h.parse (manyS n) W (h.on w W hL hb) (by omega)))
    have t4 : decide ((20 : Int) < (n : Int)) = true := by simp; omega
    clear h hl hp hlen h20
    go_enter Tryd.func7, Tryd.ntmps7
    go_wp2_with (first
      | (go_at_call 18; (with_reducible refine HA.out.mono ?_); rintro e' w1 ⟨rfl, hb1⟩))
    go_loopw [4, 5] (fun s i wr => ∃ k : Nat, k ≤ n ∧ i = .int .i64 k ∧ s = .string (txt (manyS k)) ∧ Hid (w1 = wr)) (fun _ i _ => n - (intOf i).toNat)
    case atStart => exact ⟨0, Nat.zero_le _, rfl, rfl, rfl⟩
    case round =>
      obtain ⟨k, hk, rfl, rfl, hw⟩ := hrel
      obtain rfl : w1 = wr := hw
      by_cases hlt : k < n
      · have hcat := fun W => run_cat (manyS k) sa1 (by rw [manyS_len]; have : sa1.length = 21 := rfl; omega) W
        rw [← manyS_succ] at hcat
        have hcat' : ∀ W, (Op.stringOp .add (txt (manyS k)) ⟨#[114, 117, 108, 101, 32, 97, 32, 49, 32, 102, 114, 111, 109, 32, 48, 32, 116, 111, 32, 49, 59]⟩).run Tryd.prog W = .ok (.string (txt (manyS (k + 1)))) W := hcat
        clear hcat
        go_wp2_with fail
        go_roundw
        case rel => exact ⟨k + 1, by omega, by go_num, rfl, hid trivial⟩
        case measure => simp [intOf]; omega
      · obtain rfl : k = n := by omega
        go_wp2_with (first
          | (go_at_call 19; (with_reducible refine (HP.out _ hb1).mono ?_); rintro e' w2 ⟨A1, c1, qs1, rfl, _, _, hb2⟩)
          | (go_at_call 20; (with_reducible refine (HN.out _ _).mono ?_); rintro _ _ ⟨rfl, rfl⟩))
        go_ret
        exact ⟨rfl, hb1.trans (hb2.mono hb1.size)⟩
theorem pmany_any {L : World → Prop} (h : PolicySpec L 19 22) (x : Int) (w : World) (hL : L w) : Calls Tryd.prog 7 #[.int .i64 x] w fun e w' => e = .returned (.bool true) ∧ Below w.heap.size w w' := by
  by_cases hx : 0 ≤ x ∧ x ≤ 40
  · obtain ⟨i, rfl⟩ := Int.eq_ofNat_of_zero_le hx.1
    exact many_in h i (by omega) w hL
  · have HA := hid (alive13 h w hL)
    rcases (show decide (x < 0) = true ∨ (decide (x < 0) = false ∧ decide ((40 : Int) < x) = true) by simp only [decide_eq_true_eq, decide_eq_false_iff_not]; omega) with t1 | ⟨t1, t2⟩ <;>
    · clear h hx
      go_enter Tryd.func7, Tryd.ntmps7
      go_wp2_with (first
        | (go_at_call 18; (with_reducible refine HA.out.mono ?_); rintro e' w1 ⟨rfl, hb1⟩))
      go_ret
      exact ⟨rfl, hb1⟩
end Go.Proofs.YtcmkcloapenpnaaDoor
