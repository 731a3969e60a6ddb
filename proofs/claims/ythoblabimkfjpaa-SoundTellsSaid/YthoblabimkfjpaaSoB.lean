/- The reference's word. -/
import Derived.Test.YthoblabimkfjpaaSoA
import Derived.Test.YthoblabimkfjpaaRuB
namespace Go.Proofs.Ythoblabimkfjpaa
open Go.RowKit
set_option maxHeartbeats 6400000
set_option maxRecDepth 100000
/-- Is a text one word? -/
def oneW (s : List UInt8) : List Tok → Bool
  | [t] => decide (t.kind = 1) && decide (t.text = s)
  | _ => false
def wordS (s : List UInt8) : Bool := decide ((splitS s).2.2 = 0) && oneW s (splitS s).1
theorem word_any (s : List UInt8) (w : World) (hs : s.length ≤ 9223372036854775807) : Calls Try.prog 30 #[.string (txt s)] w fun e w' => e = .returned (.bool (wordS s)) ∧ Below w.heap.size w w' := by
  obtain ⟨l, a, e, hsp⟩ : ∃ l a e, splitS s = (l, a, e) := ⟨_, _, _, rfl⟩
  obtain ⟨m, hm⟩ : ∃ m, l.length = m := ⟨_, rfl⟩
  obtain ⟨D, hD⟩ : ∃ D, wordS s = D := ⟨_, rfl⟩
  rw [hD]
  unfold wordS at hD
  rw [hsp] at hD
  simp only at hD
  have HS : Hid (∀ W : World, Calls Try.prog 44 #[.string (txt s)] W fun x w' => ∃ A c, x = .returned (.tuple #[.slice A m c, .int .i64 a, .int .i64 e]) ∧ (∀ t, l = [t] → ∃ b, A = some ⟨b, 0, none⟩ ∧ w'.cell? ⟨b, 0, none⟩ = some (.int .i64 t.kind) ∧ w'.cell? ⟨b, 2, none⟩ = some (.string (txt t.text))) ∧ Below W.heap.size W w') := by
    intro W
    have h := split_any s W hs
    rw [hsp] at h
    refine h.mono ?_
    rintro x w' ⟨v, rfl, hown, hb⟩
    simp only at hown
    rw [hm] at hown
    obtain ⟨A, c, rfl⟩ := own_form hown
    refine ⟨A, c, rfl, fun t ht => ?_, hb⟩
    subst ht
    rcases hown.2 with ⟨_, h1⟩ | ⟨g, cap, cur, he, _, hg, _⟩
    · rw [← hm] at h1; simp at h1
    simp only [Value.slice.injEq, true_and] at he
    obtain ⟨rfl, rfl⟩ := he
    have k0 := hown.cells (g := g) rfl 0 (.int .i64 t.kind) rfl
    have k2 := hown.cells (g := g) rfl 2 (.string (txt t.text)) rfl
    rw [Go.WideShapes.add_plain] at k0 k2
    exact ⟨g, rfl, k0, k2⟩
  by_cases he : e = 0
  · subst he
    have t1 : ((0 : Int) == 0) = true := rfl
    by_cases hm1 : m = 1
    · obtain ⟨t, rfl⟩ : ∃ t, l = [t] := List.length_eq_one_iff.1 (by omega)
      have t2 : ((m : Int) == 1) = true := by simp; omega
      simp only [oneW, decide_true, Bool.true_and] at hD
      obtain ⟨kd, hkd⟩ : ∃ kd, t.kind = kd := ⟨_, rfl⟩
      obtain ⟨tt, htt⟩ : ∃ tt, t.text = tt := ⟨_, rfl⟩
      have HS2 : Hid (∀ W : World, Calls Try.prog 44 #[.string (txt s)] W fun x w' => ∃ b c, x = .returned (.tuple #[.slice (some ⟨b, 0, none⟩) m c, .int .i64 a, .int .i64 0]) ∧ w'.cell? ⟨b, 0, none⟩ = some (.int .i64 kd) ∧ w'.cell? ⟨b, 2, none⟩ = some (.string (txt tt)) ∧ Below W.heap.size W w') := by
        intro W
        refine (HS.out W).mono ?_
        rintro x w' ⟨A, c, rfl, h1, hb⟩
        obtain ⟨b, rfl, h2, h3⟩ := h1 t rfl
        rw [hkd] at h2
        rw [htt] at h3
        exact ⟨b, c, rfl, h2, h3, hb⟩
      have hml : (0 : Int) < (m : Int) := by omega
      rw [hkd, htt] at hD
      clear HS hkd htt hsp hm hs hm1
      by_cases h1 : kd = 1
      · have t3 : (kd == 1) = true := by simpa using h1
        rw [decide_eq_true h1, Bool.true_and] at hD
        by_cases h2 : tt = s
        · have t4 : ((txt tt).toList == (txt s).toList) = true := by rw [h2]; simp
          rw [decide_eq_true h2] at hD
          have HD := hid hD
          subst h2
          clear h1 hD
          go_enter Try.func30, Try.ntmps30
          go_wp2_with (first
            | (go_at_call 44; (with_reducible refine (HS2.out _).mono ?_); rintro e' w2 ⟨b, c, rfl, k0, k2, hb2⟩))
          go_ret
          exact ⟨ret_bool HD.out, hb2⟩
        · have t4 : ((txt tt).toList == (txt s).toList) = false := by rw [txt_list, txt_list]; simpa using h2
          rw [decide_eq_false h2] at hD
          have HD := hid hD
          clear h1 hD h2
          go_enter Try.func30, Try.ntmps30
          go_wp2_with (first
            | (go_at_call 44; (with_reducible refine (HS2.out _).mono ?_); rintro e' w2 ⟨b, c, rfl, k0, k2, hb2⟩))
          go_ret
          exact ⟨ret_bool HD.out, hb2⟩
      · have t3 : (kd == 1) = false := by simpa using h1
        rw [decide_eq_false h1, Bool.false_and] at hD
        have HD := hid hD
        clear h1 hD
        go_enter Try.func30, Try.ntmps30
        go_wp2_with (first
          | (go_at_call 44; (with_reducible refine (HS2.out _).mono ?_); rintro e' w2 ⟨b, c, rfl, k0, k2, hb2⟩))
        go_ret
        exact ⟨ret_bool HD.out, hb2⟩
    · have t2 : ((m : Int) == 1) = false := by simp; omega
      have hD2 : false = D := by
        rw [← hD]
        have : oneW s l = false := by
          match l, hm with
          | [], _ => rfl
          | [t], h => exact absurd h.symm hm1
          | _ :: _ :: _, _ => rfl
        rw [this]; simp
      have HD := hid hD2
      clear hsp hm hs hm1 hD hD2
      go_enter Try.func30, Try.ntmps30
      go_wp2_with (first
        | (go_at_call 44; (with_reducible refine (HS.out _).mono ?_); rintro e' w2 ⟨b, c, rfl, k0, hb2⟩))
      go_ret
      exact ⟨ret_bool HD.out, hb2⟩
  · have t1 : (e == 0) = false := by simpa using he
    have hD2 : false = D := by rw [← hD, decide_eq_false he]; rfl
    have HD := hid hD2
    clear hsp hm hs hD hD2 he
    go_enter Try.func30, Try.ntmps30
    go_wp2_with (first
      | (go_at_call 44; (with_reducible refine (HS.out _).mono ?_); rintro e' w2 ⟨b, c, rfl, k0, hb2⟩))
    go_ret
    exact ⟨ret_bool HD.out, hb2⟩
end Go.Proofs.Ythoblabimkfjpaa
