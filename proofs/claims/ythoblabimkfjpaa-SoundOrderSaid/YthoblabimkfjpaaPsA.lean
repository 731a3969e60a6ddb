/- Cut out of PsA. -/
import Derived.Test.YthoblabimkfjpaaPrB
import Derived.Laws.Shifts
namespace Go.Proofs.Ythoblabimkfjpaa
open Go.RowKit
set_option maxHeartbeats 12800000
set_option maxRecDepth 100000
theorem all_take_succ {L : List Int} {k : Nat} {x : Int} (p : Int → Bool) (h : L[k]? = some x) : (L.take (k + 1)).all p = ((L.take k).all p && p x) := by
  rw [List.take_add_one, h]; simp
theorem all_at {L : List Int} {k : Nat} {x : Int} {p : Int → Bool} (h : L[k]? = some x) (hp : p x = false) : L.all p = false := by
  have := List.mem_of_getElem? h
  rw [List.all_eq_false]
  exact ⟨x, this, by simp [hp]⟩
theorem below_any (m : Int) (A : Option Addr) (n c : Nat) (L : List Int) (w : World) (B : Nat) (hr : RInt w B A n L) (hn : n ≤ 1000000) : Calls Try.prog 53 #[.int .i64 m, .slice A n c] w fun e w' => e = .returned (.bool (L.all (nodeB m))) ∧ w = w' := by
  have HR := hid hr
  have hl := hr.1
  clear hr
  go_enter Try.func53, Try.ntmps53
  go_wp2_with fail
  go_loopw [9] (fun i wr => ∃ k : Nat, k ≤ n ∧ i = .int .i64 k ∧ wr = w ∧ Hid ((L.take k).all (nodeB m) = true)) (fun i _ => n - (intOf i).toNat)
  case atStart => exact ⟨0, Nat.zero_le _, rfl, rfl, hid (by simp)⟩
  case round =>
    obtain ⟨k, hk, rfl, hww, HQ⟩ := hrel
    have hws := hww.symm
    subst hws
    clear hww
    by_cases hlt : k < n
    · obtain ⟨x, hx⟩ : ∃ x, L[k]? = some x := ⟨L[k]'(by omega), List.getElem?_eq_getElem _⟩
      obtain ⟨b, off, rfl, hb, hc⟩ := HR.out.2 (by omega)
      have c0 := hc k x hx
      have HM := hid (all_take_succ (nodeB m) hx)
      have HF := hid (fun h : nodeB m x = false => all_at hx h)
      clear hc hx
      by_cases h1 : x < 0
      · have u1 : decide (x < 0) = true := by simpa using h1
        have HV := hid (HF.out (by unfold nodeB; rw [decide_eq_false (by omega : ¬ 0 ≤ x)]; rfl))
        clear h1
        go_wp2_with fail
        go_ret
        exact ⟨by rw [HV.out]; rfl, rfl⟩
      · have u1 : decide (x < 0) = false := by simpa using h1
        by_cases h2 : m ≤ x
        · have u2 : decide (m ≤ x) = true := by simpa using h2
          have HV := hid (HF.out (by unfold nodeB; rw [decide_eq_false (by omega : ¬ x < m), Bool.and_false]))
          clear h1 h2
          go_wp2_with fail
          go_ret
          exact ⟨by rw [HV.out]; rfl, rfl⟩
        · have u2 : decide (m ≤ x) = false := by simpa using h2
          have HQ2 : Hid ((L.take (k + 1)).all (nodeB m) = true) := by
            show _ = _
            rw [HM.out, HQ.out]
            unfold nodeB
            rw [decide_eq_true (by omega : 0 ≤ x), decide_eq_true (by omega : x < m)]; rfl
          clear h1 h2
          go_wp2_with fail
          go_roundw
          case rel => exact ⟨k + 1, by omega, by go_num, by first | rfl | trivial, HQ2.out⟩
          case measure => simp [intOf]; omega
    · obtain rfl : n = k := by omega
      have HV : Hid (L.all (nodeB m) = true) := by
        have := HQ.out
        rw [List.take_of_length_le (by omega)] at this
        exact this
      go_wp2_with fail
      go_ret
      exact ⟨by rw [HV.out]; rfl, rfl⟩
/-- A mask that holds just the numbers of a list. -/
def Mask (s : Nat) (L : List Int) : Prop := s < 18446744073709551616 ∧ ∀ i : Nat, i < 64 → s.testBit i = decide ((i : Int) ∈ L)
theorem mask_nil : Mask 0 [] := ⟨by decide, fun i _ => by simp⟩
theorem bit_lt {i : Nat} (h : i < 64) : 2 ^ i < 18446744073709551616 := by
  have : 2 ^ i ≤ 2 ^ 63 := Nat.pow_le_pow_right (by decide) (by omega)
  omega
theorem shl_one (i : Nat) (h : i < 64) : IntKind.u64.wrap (2 ^ i) = ((2 ^ i : Nat) : Int) := by
  have h2 := bit_lt h
  rw [IntKind.wrap_u64, show ((2 : Int) ^ i) = ((2 ^ i : Nat) : Int) from by push_cast; rfl]
  generalize 2 ^ i = p at h2 ⊢
  omega
theorem mask_or {s : Nat} {L : List Int} {i : Nat} (h : Mask s L) (hi : i < 64) : Mask (s ||| 2 ^ i) (L ++ [(i : Int)]) := by
  refine ⟨?_, fun j hj => ?_⟩
  · have : s ||| 2 ^ i < 2 ^ 64 := Nat.or_lt_two_pow (by have := h.1; omega) (by have := bit_lt hi; omega)
    omega
  · rw [Nat.testBit_or, h.2 j hj, Nat.testBit_two_pow]
    simp only [List.mem_append, List.mem_singleton, Bool.decide_or]
    congr 1
    rw [decide_eq_decide]
    omega
def maskQ (L : List Int) : Nat := L.foldl (fun s v => s ||| 2 ^ v.toNat) 0
theorem maskS_snoc (L : List Int) (v : Int) : maskQ (L ++ [v]) = maskQ L ||| 2 ^ v.toNat := by
  unfold maskQ; rw [List.foldl_append]; rfl
theorem mask_take (L : List Int) (hL : ∀ v ∈ L, 0 ≤ v ∧ v < 64) : ∀ k : Nat, k ≤ L.length → Mask (maskQ (L.take k)) (L.take k)
  | 0, _ => by simpa [maskQ] using mask_nil
  | k + 1, hk => by
    have ih := mask_take L hL k (by omega)
    have hx : L[k]? = some L[k] := List.getElem?_eq_getElem (by omega)
    obtain ⟨h0, h1⟩ := hL L[k] (List.getElem_mem _)
    obtain ⟨i, hi⟩ := Int.eq_ofNat_of_zero_le h0
    rw [List.take_add_one, hx, Option.toList_some, maskS_snoc, hi, Int.toNat_natCast]
    exact mask_or ih (by omega)
theorem mask_all (L : List Int) (hL : ∀ v ∈ L, 0 ≤ v ∧ v < 64) : Mask (maskQ L) L := by
  have := mask_take L hL L.length (Nat.le_refl _)
  rwa [List.take_length] at this
theorem mask_has {s : Nat} {L : List Int} {i : Nat} (h : Mask s L) (hi : i < 64) : (bits .and .u64 ((s : Int) / 2 ^ i) 1 == 1) = decide ((i : Int) ∈ L) := by
  rw [← h.2 i hi, show ((s : Int) / 2 ^ i) = ((s / 2 ^ i : Nat) : Int) from by push_cast; rfl]
  have h1 : s / 2 ^ i < 18446744073709551616 := Nat.lt_of_le_of_lt (Nat.div_le_self _ _) h.1
  have h2 := u64_and_nat (s / 2 ^ i) 1 h1 (by decide)
  rw [show ((1 : Nat) : Int) = 1 from rfl] at h2
  rw [h2, Nat.testBit_eq_decide_div_mod_eq, Nat.and_one_is_mod]
  rw [Bool.eq_iff_iff]
  simp only [beq_iff_eq, decide_eq_true_eq]
  omega
end Go.Proofs.Ythoblabimkfjpaa
