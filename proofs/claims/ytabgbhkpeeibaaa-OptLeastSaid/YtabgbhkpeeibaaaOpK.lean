/- Small; where OptLeast asks nothing. -/
import Derived.Test.YtabgbhkpeeibaaaOpT
import Derived.Test.YtabgbhkpeeibaaaOvQ
import Derived.Test.YtabgbhkpeeibaaaOrE
namespace Go.Proofs.Ytabgbhkpeeibaaa
open Go.RowKit
set_option maxHeartbeats 6400000
set_option maxRecDepth 100000
def smallB (nd : Int) (n : Nat) : Bool := decide (nd ≤ 10) && decide (n ≤ 16)
theorem small_any (nd : Int) (A : Option Addr) (n c : Nat) (w : World) : Calls Try.prog 20 #[.agg #[.int .i64 nd, .slice A n c]] w fun e w' => e = .returned (.bool (smallB nd n)) ∧ Below w.heap.size w w' := by
  have b1 := (Held.start w nd A n c).1
  have Q : smallB nd n = (decide (nd ≤ 10) && decide (n ≤ 16)) := rfl
  rw [Q]
  by_cases h1 : nd ≤ 10
  · have t1 : decide (nd ≤ 10) = true := decide_eq_true h1
    by_cases h2 : n ≤ 16
    · have t2 : decide ((n : Int) ≤ 16) = true := by simp; omega
      rw [decide_eq_true h1, decide_eq_true h2]
      go_enter Try.func20, Try.ntmps20
      go_wp2_with fail
      go_ret
      exact ⟨by first | rfl | simp, b1⟩
    · have t2 : decide ((n : Int) ≤ 16) = false := by simp; omega
      rw [decide_eq_true h1, decide_eq_false h2]
      go_enter Try.func20, Try.ntmps20
      go_wp2_with fail
      go_ret
      exact ⟨by first | rfl | simp, b1⟩
  · have t1 : decide (nd ≤ 10) = false := decide_eq_false h1
    rw [decide_eq_false h1]
    go_enter Try.func20, Try.ntmps20
    go_wp2_with fail
    go_ret
    exact ⟨by first | rfl | simp, b1⟩
theorem optLeast_out (hO : OptSpec 9 12 14 18 16) (nd : Int) (A : Option Addr) (n c : Nat) (x : Wnt) (y : WSl) (l : List Lnk) (Ad : Option Addr) (n' c' : Nat) (Ae : Option Addr) (ne ce : Nat) (w : World) (hr : RLnk w w.heap.size A n l) (hc : n ≤ c) (hA : A = none → n = 0 ∧ c = 0) (hw : WArg w x y) (h0 : -9223372036854775808 ≤ nd ∧ nd ≤ 9223372036854775807) (h : smallB nd n = false ∨ fewB y = false ∨ 200 < n' ∨ 60 < ne ∨ rightS nd l x ≠ 0) :
    Calls Try.prog 5 #[.agg #[.int .i64 nd, .slice A n c], .agg #[.int .i64 x.frm, .int .i64 x.too, .int .i64 x.bnd, .slice y.av y.nv y.cv, .slice y.an y.nn y.cn, .slice y.al y.nl y.cl, .slice y.ac y.nc y.cc], .slice Ad n' c', .slice Ae ne ce] w fun e w' => e = .returned (.bool true) ∧ Below w.heap.size w w' := by
  have hS := Held2.start w nd A n c x y
  have HA := hid (fun (w' : World) (h : Held2 w nd A n c x y w') => h.calls (alive15 hO w'))
  have HSm := hid (fun (w' : World) (h : Held2 w nd A n c x y w') => h.calls (small_any nd A n c w'))
  have HFw := hid (fun (w' : World) (h : Held2 w nd A n c x y w') => h.calls (few_any x y w'))
  cases hs : smallB nd n with
  | false =>
    rw [hs] at HSm
    clear h hO hr hw hc hA h0 hs
    go_enter Try.func5, Try.ntmps5
    go_wp2_with (first
      | (go_at_call 7; (with_reducible refine (HA.out _ hS).mono ?_); rintro e' w1 ⟨rfl, h1⟩; obtain ⟨g0, g1⟩ := h1.g; obtain ⟨g2, g3, g4, g5, g6, g7, g8⟩ := h1.v)
      | (go_at_call 20; (with_reducible refine (HSm.out _ h1).mono ?_); rintro e' w2 ⟨rfl, h2⟩; obtain ⟨q0, q1⟩ := h2.g; obtain ⟨q2, q3, q4, q5, q6, q7, q8⟩ := h2.v))
    go_ret
    exact ⟨rfl, h2.1⟩
  | true =>
    rw [hs] at HSm
    cases hf : fewB y with
    | false =>
      rw [hf] at HFw
      clear h hO hr hw hc hA h0 hs hf
      go_enter Try.func5, Try.ntmps5
      go_wp2_with (first
        | (go_at_call 7; (with_reducible refine (HA.out _ hS).mono ?_); rintro e' w1 ⟨rfl, h1⟩; obtain ⟨g0, g1⟩ := h1.g; obtain ⟨g2, g3, g4, g5, g6, g7, g8⟩ := h1.v)
        | (go_at_call 20; (with_reducible refine (HSm.out _ h1).mono ?_); rintro e' w2 ⟨rfl, h2⟩; obtain ⟨q0, q1⟩ := h2.g; obtain ⟨q2, q3, q4, q5, q6, q7, q8⟩ := h2.v)
        | (go_at_call 8; (with_reducible refine (HFw.out _ h2).mono ?_); rintro e' w3 ⟨rfl, h3⟩; obtain ⟨r0, r1⟩ := h3.g; obtain ⟨r2, r3, r4, r5, r6, r7, r8⟩ := h3.v))
      go_ret
      exact ⟨rfl, h3.1⟩
    | true =>
      rw [hf] at HFw
      have hn16 : n ≤ 16 := by unfold smallB at hs; simp only [Bool.and_eq_true, decide_eq_true_eq] at hs; omega
      have hl4 : y.nv ≤ 20 ∧ y.nn ≤ 60 ∧ y.nl ≤ 60 ∧ y.nc ≤ 60 := by
        unfold fewB at hf
        simp only [Bool.and_eq_true, decide_eq_true_eq] at hf
        omega
      have hg : GArg w nd A n c l := ⟨hr, by omega, hc, hA, h0.1, h0.2⟩
      by_cases hn' : 200 < n'
      · have t2 : decide ((200 : Int) < (n' : Int)) = true := by simp; omega
        clear h hO hr hw hc hA h0 hs hf hn' hg hl4
        go_enter Try.func5, Try.ntmps5
        go_wp2_with (first
          | (go_at_call 7; (with_reducible refine (HA.out _ hS).mono ?_); rintro e' w1 ⟨rfl, h1⟩; obtain ⟨g0, g1⟩ := h1.g; obtain ⟨g2, g3, g4, g5, g6, g7, g8⟩ := h1.v)
          | (go_at_call 20; (with_reducible refine (HSm.out _ h1).mono ?_); rintro e' w2 ⟨rfl, h2⟩; obtain ⟨q0, q1⟩ := h2.g; obtain ⟨q2, q3, q4, q5, q6, q7, q8⟩ := h2.v)
          | (go_at_call 8; (with_reducible refine (HFw.out _ h2).mono ?_); rintro e' w3 ⟨rfl, h3⟩; obtain ⟨r0, r1⟩ := h3.g; obtain ⟨r2, r3, r4, r5, r6, r7, r8⟩ := h3.v))
        go_ret
        exact ⟨rfl, h3.1⟩
      · have t2 : decide ((200 : Int) < (n' : Int)) = false := by simp; omega
        by_cases hne : 60 < ne
        · have t3 : decide ((60 : Int) < (ne : Int)) = true := by simp; omega
          clear h hO hr hw hc hA h0 hs hf hn' hne hg hl4
          go_enter Try.func5, Try.ntmps5
          go_wp2_with (first
            | (go_at_call 7; (with_reducible refine (HA.out _ hS).mono ?_); rintro e' w1 ⟨rfl, h1⟩; obtain ⟨g0, g1⟩ := h1.g; obtain ⟨g2, g3, g4, g5, g6, g7, g8⟩ := h1.v)
            | (go_at_call 20; (with_reducible refine (HSm.out _ h1).mono ?_); rintro e' w2 ⟨rfl, h2⟩; obtain ⟨q0, q1⟩ := h2.g; obtain ⟨q2, q3, q4, q5, q6, q7, q8⟩ := h2.v)
            | (go_at_call 8; (with_reducible refine (HFw.out _ h2).mono ?_); rintro e' w3 ⟨rfl, h3⟩; obtain ⟨r0, r1⟩ := h3.g; obtain ⟨r2, r3, r4, r5, r6, r7, r8⟩ := h3.v))
          go_ret
          exact ⟨rfl, h3.1⟩
        · have t3 : decide ((60 : Int) < (ne : Int)) = false := by simp; omega
          have h5 : rightS nd l x ≠ 0 := by
            rcases h with h | h | h | h | h
            · rw [hs] at h; cases h
            · rw [hf] at h; cases h
            · omega
            · omega
            · exact h
          have t4 : (rightS nd l x != 0) = true := bne_iff_ne.2 h5
          have HRw := hid (fun (w' : World) (h : Held2 w nd A n c x y w') => h.calls (refRight_spec nd A n c l x y w' (hg.on h.1) (hw.on h.1) (by omega) (by omega) (by omega) (by omega)))
          obtain ⟨k2, hk2⟩ : ∃ k2, rightS nd l x = k2 := ⟨_, rfl⟩
          rw [hk2] at HRw t4
          clear h hO hr hw hc hA h0 hs hf hn' hne hg hl4 h5 hk2
          go_enter Try.func5, Try.ntmps5
          go_wp2_with (first
            | (go_at_call 7; (with_reducible refine (HA.out _ hS).mono ?_); rintro e' w1 ⟨rfl, h1⟩; obtain ⟨g0, g1⟩ := h1.g; obtain ⟨g2, g3, g4, g5, g6, g7, g8⟩ := h1.v)
            | (go_at_call 20; (with_reducible refine (HSm.out _ h1).mono ?_); rintro e' w2 ⟨rfl, h2⟩; obtain ⟨q0, q1⟩ := h2.g; obtain ⟨q2, q3, q4, q5, q6, q7, q8⟩ := h2.v)
            | (go_at_call 8; (with_reducible refine (HFw.out _ h2).mono ?_); rintro e' w3 ⟨rfl, h3⟩; obtain ⟨r0, r1⟩ := h3.g; obtain ⟨r2, r3, r4, r5, r6, r7, r8⟩ := h3.v)
            | (go_at_call 23; (with_reducible refine (HRw.out _ h3).mono ?_); rintro e' w4 ⟨rfl, h4⟩; obtain ⟨s0, s1⟩ := h4.g; obtain ⟨s2, s3, s4, s5, s6, s7, s8⟩ := h4.v))
          go_ret
          exact ⟨rfl, h4.1⟩
end Go.Proofs.Ytabgbhkpeeibaaa
