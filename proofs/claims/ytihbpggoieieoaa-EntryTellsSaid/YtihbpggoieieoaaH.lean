import Derived.Test.YtihbpggoieieoaaG
import Derived.Test.YtihbpggoieieoaaQ
import Derived.Outline
namespace Go.Proofs.Ytihbpggoieieoaa
open Go.RowKit
set_option maxHeartbeats 1600000
set_option maxRecDepth 100000

theorem get_mod (A : Option Addr) (n c : Nat) (w : World) (h : n % 4 ≠ 0) : Calls Try.prog 10 #[.slice A n c] w fun e w' => e = .returned (.tuple #[.slice none 0 0, .int .i64 2]) ∧ w = w' := by
  have t : ((n : Int) % 4 == 0) = false := by simp; omega
  have t' : ((n : Int) % 4 != 0) = true := by simp; omega
  go_enter Try.func10, Try.ntmps10
  go_wp2_with fail
  go_ret2
  exact ⟨rfl, rfl⟩
theorem get_long (A : Option Addr) (n c : Nat) (w : World) (h : n % 4 = 0) (h' : 4000 < n) : Calls Try.prog 10 #[.slice A n c] w fun e w' => e = .returned (.tuple #[.slice none 0 0, .int .i64 2]) ∧ w = w' := by
  have t : (n : Int) % 4 = 0 := by omega
  have t' : (4000 : Int) < (n : Int) := by omega
  go_enter Try.func10, Try.ntmps10
  go_wp2_with fail
  go_ret2
  exact ⟨rfl, rfl⟩
theorem get_zero (A : Option Addr) (c : Nat) (w : World) : Calls Try.prog 10 #[.slice A 0 c] w fun e w' => e = .returned (.tuple #[.slice none 0 0, .int .i64 2]) ∧ Below w.heap.size w w' := by
  obtain ⟨i0, hi, hz0, hz1, hz2⟩ := info_parts Try.info38
  have Hi := hid hi; have Hz0 := hid hz0; have Hz1 := hid hz1; have Hz2 := hid hz2
  clear hi hz0 hz1 hz2
  go_enter Try.func10, Try.ntmps10
  go_wp2_with (at_make; refine wpList_make_own _ rfl _ _ 22 rfl w.heap.size 38 i0 (.agg #[.int .i64 0, .int .i64 0, .int .i64 0, .bool false]) 4 Try.underlying22 Hi.out Hz0.out Hz1.out _ _ _ 0 rfl rfl rfl (by omega) (by unfold maxLen; omega) (Nat.le_refl _) ?_; intro w2 hown2 hg2)
  have hb2 : Below w.heap.size w w2 := grown_below hg2
  refine wp_loop_rounds 1 ?_
  rw [rounds_succ]
  go_wp2_with (go_at_call 14; (with_reducible refine (isStack_no _ _ _ _ (.inl rfl)).mono ?_); rintro e' w3 ⟨rfl, hb3⟩)
  go_ret2
  exact ⟨rfl, hb2.trans (hb3.mono hb2.size)⟩
theorem get_all (A : Option Addr) (n c : Nat) (bs : List UInt8) (w : World) (hr : RByt w w.heap.size A n bs) : Calls Try.prog 10 #[.slice A n c] w (GetAns bs w) := by
  by_cases h1 : n % 4 = 0
  · by_cases h2 : 4000 < n
    · refine (get_long A n c w h1 h2).mono fun e w' ⟨h3, h4⟩ => .inr ⟨?_, h3, h4 ▸ Below.refl _ _⟩
      unfold getS; rw [hr.1, if_neg (by omega)]
    · by_cases h3 : n = 0
      · subst h3
        refine (get_zero A c w).mono fun e w' ⟨h3, h4⟩ => .inr ⟨?_, h3, h4⟩
        unfold getS; rw [hr.1, if_neg]
        simp [entsOf, isStk]
      · exact get_body A n c bs w (by omega) (by omega) h1 hr
  · refine (get_mod A n c w h1).mono fun e w' ⟨h3, h4⟩ => .inr ⟨?_, h3, h4 ▸ Below.refl _ _⟩
    unfold getS; rw [hr.1, if_neg (by omega)]
end Go.Proofs.Ytihbpggoieieoaa
