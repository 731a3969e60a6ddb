/- PruneMore: every input. -/
import Derived.Test.YtljgoffolbplfaaPrG
namespace Go.Proofs.Ytljgoffolbplfaa
open Go.RowKit
set_option maxHeartbeats 6400000
set_option maxRecDepth 100000
theorem more_out (hR : RightSpec 35) (hD : DownSpec 38) (nd : Int) (A : Option Addr) (n c : Nat) (x : Wnt) (y : WSl) (Ad : Option Addr) (n' c' : Nat) (node link col : Int) (w : World) (h : 130 < n ∨ fewB y = false ∨ 200 < n') :
    Calls Try.prog 13 #[.agg #[.int .i64 nd, .slice A n c], .agg #[.int .i64 x.frm, .int .i64 x.too, .int .i64 x.bnd, .slice y.av y.nv y.cv, .slice y.an y.nn y.cn, .slice y.al y.nl y.cl, .slice y.ac y.nc y.cc], .slice Ad n' c', .int .i64 node, .int .i64 link, .int .i64 col] w fun e w' => e = .returned (.bool true) ∧ Below w.heap.size w w' := by
  have hS := Held2.start w nd A n c x y
  have HA := hid (fun (w' : World) (h : Held2 w nd A n c x y w') => h.calls (alive_any hR hD w'))
  have HFw := hid (fun (w' : World) (h : Held2 w nd A n c x y w') => h.calls (few_any x y w'))
  by_cases h1 : 130 < n
  · have t1 : decide ((130 : Int) < (n : Int)) = true := by simp; omega
    clear h h1 hR hD
    go_enter Try.func13, Try.ntmps13
    go_wp2_with (go_at_call 32; (with_reducible refine (HA.out _ hS).mono ?_); rintro e' w1 ⟨rfl, h1⟩; obtain ⟨g0, g1⟩ := h1.g; obtain ⟨g2, g3, g4, g5, g6, g7, g8⟩ := h1.v)
    go_ret
    exact ⟨rfl, h1.1⟩
  · have t1 : decide ((130 : Int) < (n : Int)) = false := by simp; omega
    cases hf : fewB y with
    | false =>
      rw [hf] at HFw
      clear h h1 hR hD hf
      go_enter Try.func13, Try.ntmps13
      go_wp2_with (first
        | (go_at_call 32; (with_reducible refine (HA.out _ hS).mono ?_); rintro e' w1 ⟨rfl, h1⟩; obtain ⟨g0, g1⟩ := h1.g; obtain ⟨g2, g3, g4, g5, g6, g7, g8⟩ := h1.v)
        | (go_at_call 33; (with_reducible refine (HFw.out _ h1).mono ?_); rintro e' w2 ⟨rfl, h2⟩; obtain ⟨q0, q1⟩ := h2.g; obtain ⟨q2, q3, q4, q5, q6, q7, q8⟩ := h2.v))
      go_ret
      exact ⟨rfl, h2.1⟩
    | true =>
      rw [hf] at HFw
      have t2 : decide ((200 : Int) < (n' : Int)) = true := by
        rcases h with h | h | h
        · omega
        · rw [hf] at h; cases h
        · simp; omega
      clear h h1 hR hD hf
      go_enter Try.func13, Try.ntmps13
      go_wp2_with (first
        | (go_at_call 32; (with_reducible refine (HA.out _ hS).mono ?_); rintro e' w1 ⟨rfl, h1⟩; obtain ⟨g0, g1⟩ := h1.g; obtain ⟨g2, g3, g4, g5, g6, g7, g8⟩ := h1.v)
        | (go_at_call 33; (with_reducible refine (HFw.out _ h1).mono ?_); rintro e' w2 ⟨rfl, h2⟩; obtain ⟨q0, q1⟩ := h2.g; obtain ⟨q2, q3, q4, q5, q6, q7, q8⟩ := h2.v))
      go_ret
      exact ⟨rfl, h2.1⟩
theorem more_bad (hR : RightSpec 35) (hD : DownSpec 38) (nd : Int) (A : Option Addr) (n c : Nat) (l : List Lnk) (x : Wnt) (y : WSl) (Ad : Option Addr) (n' c' : Nat) (node link col : Int) (w : World) (hg : GArg w nd A n c l) (hw : WArg w x y) (hn' : n' ≤ 200) (hf : fewB y = true) (hr0 : rightS nd l x ≠ 0) :
    Calls Try.prog 13 #[.agg #[.int .i64 nd, .slice A n c], .agg #[.int .i64 x.frm, .int .i64 x.too, .int .i64 x.bnd, .slice y.av y.nv y.cv, .slice y.an y.nn y.cn, .slice y.al y.nl y.cl, .slice y.ac y.nc y.cc], .slice Ad n' c', .int .i64 node, .int .i64 link, .int .i64 col] w fun e w' => e = .returned (.bool true) ∧ Below w.heap.size w w' := by
  have hS := Held2.start w nd A n c x y
  have t1 : decide ((130 : Int) < (n : Int)) = false := by have := hg.len; simp; omega
  have t2 : decide ((200 : Int) < (n' : Int)) = false := by simp; omega
  have hl4 : y.nv ≤ 20 ∧ y.nn ≤ 60 ∧ y.nl ≤ 60 ∧ y.nc ≤ 60 := by
    unfold fewB at hf
    simp only [Bool.and_eq_true, decide_eq_true_eq] at hf
    omega
  obtain ⟨z1, z2, z3, z4⟩ := hl4
  have HA := hid (fun (w' : World) (h : Held2 w nd A n c x y w') => h.calls (alive_any hR hD w'))
  have HFw := hid (fun (w' : World) (h : Held2 w nd A n c x y w') => h.calls (few_any x y w'))
  rw [hf] at HFw
  obtain ⟨r, hr⟩ : ∃ r, rightS nd l x = r := ⟨_, rfl⟩
  have HRw := hid (fun (w' : World) (h : Held2 w nd A n c x y w') => h.calls (hr ▸ refRight_spec nd A n c l x y w' (hg.on h.1) (hw.on h.1) (by omega) (by omega) (by omega) (by omega)))
  have t3 : (r != 0) = true := by rw [← hr]; simpa using hr0
  clear hR hD hg hw hf hr0 hr z1 z2 z3 z4
  go_enter Try.func13, Try.ntmps13
  go_wp2_with (first
    | (go_at_call 32; (with_reducible refine (HA.out _ hS).mono ?_); rintro e' w1 ⟨rfl, h1⟩; obtain ⟨g0, g1⟩ := h1.g; obtain ⟨g2, g3, g4, g5, g6, g7, g8⟩ := h1.v)
    | (go_at_call 33; (with_reducible refine (HFw.out _ h1).mono ?_); rintro e' w2 ⟨rfl, h2⟩; obtain ⟨q0, q1⟩ := h2.g; obtain ⟨q2, q3, q4, q5, q6, q7, q8⟩ := h2.v)
    | (go_at_call 36; (with_reducible refine (HRw.out _ h2).mono ?_); rintro e' w3 ⟨rfl, h3⟩))
  go_ret
  exact ⟨rfl, h3.1⟩
theorem pruneMore_any (hR : RightSpec 35) (hD : DownSpec 38) (nd : Int) (A : Option Addr) (n c : Nat) (l : List Lnk) (x : Wnt) (y : WSl) (Ad : Option Addr) (n' c' : Nat) (dn : List Bool) (node link col : Int) (w : World) (hr : RLnk w w.heap.size A n l) (hc : n ≤ c) (hA : A = none → n = 0 ∧ c = 0) (hw : WArg w x y) (hd : RBl w w.heap.size Ad n' dn) (hc' : n' ≤ c') (hA' : Ad = none → n' = 0 ∧ c' = 0)
    (h1 : -9223372036854775808 ≤ nd ∧ nd ≤ 9223372036854775807) (hv1 : -9223372036854775808 ≤ node ∧ node ≤ 9223372036854775807) (hv2 : -9223372036854775808 ≤ link ∧ link ≤ 9223372036854775807) (hv3 : -9223372036854775808 ≤ col ∧ col ≤ 9223372036854775807) :
    Calls Try.prog 13 #[.agg #[.int .i64 nd, .slice A n c], .agg #[.int .i64 x.frm, .int .i64 x.too, .int .i64 x.bnd, .slice y.av y.nv y.cv, .slice y.an y.nn y.cn, .slice y.al y.nl y.cl, .slice y.ac y.nc y.cc], .slice Ad n' c', .int .i64 node, .int .i64 link, .int .i64 col] w fun e w' => e = .returned (.bool true) ∧ Below w.heap.size w w' := by
  by_cases h : 130 < n ∨ fewB y = false ∨ 200 < n'
  · exact more_out hR hD nd A n c x y Ad n' c' node link col w h
  · have hf : fewB y = true := by
      cases hf : fewB y with
      | true => rfl
      | false => exact absurd (.inr (.inl hf)) h
    have hg : GArg w nd A n c l := ⟨hr, by omega, hc, hA, h1.1, h1.2⟩
    by_cases hr0 : rightS nd l x = 0
    · exact more_test nd A n c l x y Ad n' c' dn node link col w hR hD hg hw ⟨hd, by omega, hc', hA'⟩ hf hr0 hv1 hv2 hv3
    · exact more_bad hR hD nd A n c l x y Ad n' c' node link col w hg hw (by omega) hf hr0
end Go.Proofs.Ytljgoffolbplfaa
