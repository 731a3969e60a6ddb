/- Ends, Back, num. -/
import Derived.Test.YtljgoffolbplfaaGrA
import Derived.OwnWalk
import Derived.Laws.BitsAllLaws
namespace Go.Proofs.Ytljgoffolbplfaa
open Go.RowKit
set_option maxHeartbeats 3200000
set_option maxRecDepth 100000
theorem below_drewN {B n : Nat} {a w : World} (h : Below B a w) : Below B a (w.drewN n) := ⟨h.os, h.tape, h.output, h.size, h.block⟩
theorem endsS_none {l : List Lnk} {e : Nat} (h : l.length ≤ e / 2) : endsS l e = (0, 0, false) := by
  unfold endsS
  rw [if_neg (by omega), show (Int.toNat (e : Int)) = e by omega, List.getElem?_eq_none h]
theorem endsS_some {l : List Lnk} {e : Nat} {x : Lnk} (h : l[e / 2]? = some x) : endsS l e = if e % 2 = 0 then (x.a, x.b, true) else (x.b, x.a, true) := by
  unfold endsS
  rw [if_neg (by omega), show (Int.toNat (e : Int)) = e by omega, h]
  simp only
  by_cases h2 : e % 2 = 0
  · rw [if_pos h2, if_pos (by omega)]
  · rw [if_neg h2, if_neg (by omega)]
theorem nat_xor_one (e : Nat) : e ^^^ 1 = if e % 2 = 0 then e + 1 else e - 1 := by
  have h1 : (e ^^^ 1) / 2 = e / 2 := by rw [Nat.xor_div_two]; simp
  have h2 : (e ^^^ 1) % 2 = 1 ↔ ¬(e % 2 = 1 ↔ 1 % 2 = 1) := Nat.xor_mod_two_eq_one
  split <;> omega
theorem xor_one (e : Nat) (h : e < 9223372036854775808) : bits .xor .i64 (e : Int) 1 = if e % 2 = 0 then (e : Int) + 1 else (e : Int) - 1 := by
  have hx : e ^^^ 1 < 2 ^ 63 := Nat.xor_lt_two_pow (by omega) (by omega)
  have h1 : bits .xor .i64 (e : Int) ((1 : Nat) : Int) = ((e ^^^ 1 : Nat) : Int) := by
    show IntKind.i64.wrap ((BitVec.ofInt 64 (e : Int) ^^^ BitVec.ofInt 64 ((1 : Nat) : Int)).toNat : Int) = _
    rw [BitVec.toNat_xor, ofInt_u64 e (by omega), ofInt_u64 1 (by omega), IntKind.wrap_i64]
    omega
  refine h1.trans ?_
  rw [nat_xor_one]
  split <;> omega
theorem num_any (x : Int) (w : World) : Calls Try.prog 19 #[.int .i64 x] w fun e w' => e = .returned (.int .i64 x) ∧ w = w' := by
  go_enter Try.func19, Try.ntmps19
  go_wp2_with fail
  go_ret
  exact ⟨rfl, rfl⟩
theorem ends_any (nd : Int) (A : Option Addr) (n c : Nat) (l : List Lnk) (e : Int) (w : World) (hr : RLnk w w.heap.size A n l) (hn : n ≤ 1000) (he : e ≤ 9223372036854775807) :
    Calls Try.prog 17 #[.agg #[.int .i64 nd, .slice A n c], .int .i64 e] w fun x w' => x = .returned (.tuple #[.int .i64 (endsS l e).1, .int .i64 (endsS l e).2.1, .bool (endsS l e).2.2]) ∧ Below w.heap.size w w' := by
  have b1 : Below w.heap.size w (w.alloc (.cells #[.int .i64 nd, .slice A n c] 24)) := Below.alloc (Below.refl _ _) (Nat.le_refl _) _
  have hl := hr.1
  by_cases h0 : e < 0
  · have t1 : decide (e < 0) = true := by simpa using h0
    have Q : endsS l e = (0, 0, false) := by unfold endsS; rw [if_pos h0]
    rw [Q]
    clear hr h0 Q hn hl
    go_enter Try.func17, Try.ntmps17
    go_wp2_with fail
    go_ret3
    exact ⟨rfl, b1⟩
  · have t1 : decide (e < 0) = false := by simpa using h0
    obtain ⟨k, rfl⟩ := Int.eq_ofNat_of_zero_le (Int.not_lt.1 h0)
    obtain ⟨q, hq⟩ : ∃ q, k / 2 = q := ⟨_, rfl⟩
    have d3 : wrap64 (q : Int) = (q : Int) := IntWalk.wrap64_in _ (by omega)
    have d1 : Int.tdiv (k : Int) 2 = (q : Int) := by rw [← hq]; rfl
    by_cases h1 : n ≤ q
    · have t2 : decide ((n : Int) ≤ (q : Int)) = true := by simpa using h1
      have Q : endsS l (k : Int) = (0, 0, false) := endsS_none (by omega)
      rw [Q]
      clear hr h0 Q hn hl hq
      go_enter Try.func17, Try.ntmps17
      go_wp2_with fail
      go_ret3
      exact ⟨rfl, b1⟩
    · have t2 : decide ((n : Int) ≤ (q : Int)) = false := by simp; omega
      obtain ⟨x, hx⟩ : ∃ x, l[q]? = some x := ⟨l[q]'(by omega), List.getElem?_eq_getElem _⟩
      have Q := endsS_some (hq ▸ hx : l[k / 2]? = some x)
      rw [Q]
      obtain ⟨b, off, rfl, hb, hc⟩ := hr.2 (by omega)
      obtain ⟨c0, c1, c2, c3⟩ := hc q x hx
      rcases Nat.mod_two_eq_zero_or_one k with hm | hm
      · have d2 : Int.tmod (k : Int) 2 = 0 := by have : Int.tmod (k : Int) 2 = ((k % 2 : Nat) : Int) := rfl; rw [this, hm]; rfl
        rw [if_pos hm]
        clear hc hx hr h0 Q hl hq hm
        go_enter Try.func17, Try.ntmps17
        go_wp2_with (go_big_quiet (fail))
        go_ret3
        exact ⟨rfl, below_drewN (b1.alloc (by simp) _)⟩
      · have d2 : Int.tmod (k : Int) 2 = 1 := by have : Int.tmod (k : Int) 2 = ((k % 2 : Nat) : Int) := rfl; rw [this, hm]; rfl
        rw [if_neg (by omega)]
        clear hc hx hr h0 Q hl hq hm
        go_enter Try.func17, Try.ntmps17
        go_wp2_with (go_big_quiet (fail))
        go_ret3
        exact ⟨rfl, below_drewN (b1.alloc (by simp) _)⟩
theorem refEnds_any (nd : Int) (A : Option Addr) (n c : Nat) (l : List Lnk) (e : Int) (w : World) (hr : RLnk w w.heap.size A n l) (hn : n ≤ 1000) (he : e ≤ 9223372036854775807) :
    Calls Try.prog 18 #[.agg #[.int .i64 nd, .slice A n c], .int .i64 e] w fun x w' => x = .returned (.tuple #[.int .i64 (endsS l e).1, .int .i64 (endsS l e).2.1, .bool (endsS l e).2.2]) ∧ Below w.heap.size w w' := by
  have b1 : Below w.heap.size w (w.alloc (.cells #[.int .i64 nd, .slice A n c] 24)) := Below.alloc (Below.refl _ _) (Nat.le_refl _) _
  have hl := hr.1
  by_cases h0 : e < 0
  · have t1 : decide (e < 0) = true := by simpa using h0
    have Q : endsS l e = (0, 0, false) := by unfold endsS; rw [if_pos h0]
    rw [Q]
    clear hr h0 Q hn hl
    go_enter Try.func18, Try.ntmps18
    go_wp2_with fail
    go_ret3
    exact ⟨rfl, b1⟩
  · have t1 : decide (e < 0) = false := by simpa using h0
    obtain ⟨k, rfl⟩ := Int.eq_ofNat_of_zero_le (Int.not_lt.1 h0)
    obtain ⟨q, hq⟩ : ∃ q, k / 2 = q := ⟨_, rfl⟩
    have d3 : wrap64 (q : Int) = (q : Int) := IntWalk.wrap64_in _ (by omega)
    have d1 : Int.tdiv (k : Int) 2 = (q : Int) := by rw [← hq]; rfl
    by_cases h1 : n ≤ q
    · have t2 : decide ((n : Int) ≤ (q : Int)) = true := by simpa using h1
      have Q : endsS l (k : Int) = (0, 0, false) := endsS_none (by omega)
      rw [Q]
      clear hr h0 Q hn hl hq
      go_enter Try.func18, Try.ntmps18
      go_wp2_with fail
      go_ret3
      exact ⟨rfl, b1⟩
    · have t2 : decide ((n : Int) ≤ (q : Int)) = false := by simp; omega
      obtain ⟨x, hx⟩ : ∃ x, l[q]? = some x := ⟨l[q]'(by omega), List.getElem?_eq_getElem _⟩
      have Q := endsS_some (hq ▸ hx : l[k / 2]? = some x)
      rw [Q]
      obtain ⟨b, off, rfl, hb, hc⟩ := hr.2 (by omega)
      obtain ⟨c0, c1, c2, c3⟩ := hc q x hx
      rcases Nat.mod_two_eq_zero_or_one k with hm | hm
      · have d2 : Int.tmod (k : Int) 2 = 0 := by have : Int.tmod (k : Int) 2 = ((k % 2 : Nat) : Int) := rfl; rw [this, hm]; rfl
        rw [if_pos hm]
        clear hc hx hr h0 Q hl hq hm
        go_enter Try.func18, Try.ntmps18
        go_wp2_with (go_big_quiet (fail))
        go_ret3
        exact ⟨rfl, below_drewN (b1.alloc (by simp) _)⟩
      · have d2 : Int.tmod (k : Int) 2 = 1 := by have : Int.tmod (k : Int) 2 = ((k % 2 : Nat) : Int) := rfl; rw [this, hm]; rfl
        rw [if_neg (by omega)]
        clear hc hx hr h0 Q hl hq hm
        go_enter Try.func18, Try.ntmps18
        go_wp2_with (go_big_quiet (fail))
        go_ret3
        exact ⟨rfl, below_drewN (b1.alloc (by simp) _)⟩
theorem back_any (e : Int) (w : World) (he : e ≤ 9223372036854775807) : Calls Try.prog 23 #[.int .i64 e] w fun x w' => x = .returned (.int .i64 (backS e)) ∧ w = w' := by
  by_cases h0 : e < 0
  · have t1 : decide (e < 0) = true := by simpa using h0
    have Q : backS e = -1 := by unfold backS; rw [if_pos h0]
    rw [Q]
    clear h0 Q he
    go_enter Try.func23, Try.ntmps23
    go_wp2_with fail
    go_ret
    exact ⟨rfl, rfl⟩
  · have t1 : decide (e < 0) = false := by simpa using h0
    obtain ⟨k, rfl⟩ := Int.eq_ofNat_of_zero_le (Int.not_lt.1 h0)
    have d := xor_one k (by omega)
    have Q : backS (k : Int) = if k % 2 = 0 then (k : Int) + 1 else (k : Int) - 1 := by
      unfold backS; rw [if_neg h0]; split <;> split <;> omega
    rw [Q]
    rw [← d]
    clear h0 Q he d
    go_enter Try.func23, Try.ntmps23
    go_wp2_with fail
    go_ret
    exact ⟨rfl, rfl⟩
theorem refBack_any (e : Int) (w : World) (he : e ≤ 9223372036854775807) : Calls Try.prog 24 #[.int .i64 e] w fun x w' => x = .returned (.int .i64 (backS e)) ∧ w = w' := by
  by_cases h0 : e < 0
  · have t1 : decide (e < 0) = true := by simpa using h0
    have Q : backS e = -1 := by unfold backS; rw [if_pos h0]
    rw [Q]
    clear h0 Q he
    go_enter Try.func24, Try.ntmps24
    go_wp2_with fail
    go_ret
    exact ⟨rfl, rfl⟩
  · have t1 : decide (e < 0) = false := by simpa using h0
    obtain ⟨k, rfl⟩ := Int.eq_ofNat_of_zero_le (Int.not_lt.1 h0)
    have d0 : Int.tmod (k : Int) 2 = ((k % 2 : Nat) : Int) := rfl
    rcases Nat.mod_two_eq_zero_or_one k with hm | hm
    · have d2 : Int.tmod (k : Int) 2 = 0 := by rw [d0, hm]; rfl
      have Q : backS (k : Int) = (k : Int) + 1 := by unfold backS; rw [if_neg h0, if_pos (by omega)]
      rw [Q]
      have hk : k ≤ 9223372036854775806 := by omega
      clear h0 Q he d0 hm
      go_enter Try.func24, Try.ntmps24
      go_wp2_with fail
      go_ret
      exact ⟨by go_num, rfl⟩
    · have d2 : Int.tmod (k : Int) 2 = 1 := by rw [d0, hm]; rfl
      have Q : backS (k : Int) = (k : Int) - 1 := by unfold backS; rw [if_neg h0, if_neg (by omega)]
      rw [Q]
      clear h0 Q d0 hm
      go_enter Try.func24, Try.ntmps24
      go_wp2_with fail
      go_ret
      exact ⟨by go_num, rfl⟩
end Go.Proofs.Ytljgoffolbplfaa
