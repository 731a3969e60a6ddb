/- OptBest. -/
import Derived.Test.YtabgbhkpeeibaaaOpP
import Derived.Test.YtabgbhkpeeibaaaOpM
import Derived.Deep.DeepCutAuto
import Derived.Deep.CutBlock
namespace Go.Proofs.Ytabgbhkpeeibaaa
open Go.RowKit
set_option maxHeartbeats 64000000
set_option maxRecDepth 100000
theorem cost_right {nd : Int} {l : List Lnk} {x : Wnt} {dn : List Bool} (h : (costS nd l x dn).2 = 0) : rightS nd l x = 0 := by
  by_cases hr : rightS nd l x = 0
  · exact hr
  · unfold costS at h
    rw [if_pos hr] at h
    exact h
/-- The edges that go on, up to j. -/
noncomputable def maysS (nd : Int) (l : List Lnk) (x : Wnt) (dn : List Bool) (v k : Int) (j : Nat) : List Int := ((List.range j).filter fun e : Nat => (stepS nd l x dn v k (e : Int)).isSome).map fun e : Nat => (e : Int)
theorem maysS_none {nd : Int} {l : List Lnk} {x : Wnt} {dn : List Bool} {v k : Int} {j : Nat} (h : stepS nd l x dn v k (j : Int) = none) : maysS nd l x dn v k (j + 1) = maysS nd l x dn v k j := by
  unfold maysS
  rw [List.range_succ, List.filter_append, List.filter_cons_of_neg (by simp [h]), List.filter_nil, List.append_nil]
theorem maysS_some {nd : Int} {l : List Lnk} {x : Wnt} {dn : List Bool} {v k : Int} {j : Nat} {p : Int × Int} (h : stepS nd l x dn v k (j : Int) = some p) : maysS nd l x dn v k (j + 1) = maysS nd l x dn v k j ++ [(j : Int)] := by
  unfold maysS
  rw [List.range_succ, List.filter_append, List.filter_cons_of_pos (by simp [h]), List.filter_nil, List.map_append]; rfl
theorem maysS_len (nd : Int) (l : List Lnk) (x : Wnt) (dn : List Bool) (v k : Int) (j : Nat) : (maysS nd l x dn v k j).length ≤ j := by
  unfold maysS
  rw [List.length_map]
  have := List.length_filter_le (fun e : Nat => (stepS nd l x dn v k (e : Int)).isSome) (List.range j)
  rwa [List.length_range] at this
theorem maysS_mem {nd : Int} {l : List Lnk} {x : Wnt} {dn : List Bool} {v k e : Int} {j : Nat} (h : e ∈ maysS nd l x dn v k j) : ∃ K : Nat, e = (K : Int) ∧ K < j ∧ ∃ p, stepS nd l x dn v k (K : Int) = some p := by
  obtain ⟨K, hK, rfl⟩ := List.mem_map.1 h
  obtain ⟨h1, h2⟩ := List.mem_filter.1 hK
  exact ⟨K, rfl, List.mem_range.1 h1, Option.isSome_iff_exists.1 h2⟩
theorem maysS_pos {nd : Int} {l : List Lnk} {x : Wnt} {dn : List Bool} {v k : Int} {j K : Nat} (hK : K < j) (h : (stepS nd l x dn v k (K : Int)).isSome = true) : 0 < (maysS nd l x dn v k j).length :=
  List.length_pos_of_mem (List.mem_map.2 ⟨K, List.mem_filter.2 ⟨List.mem_range.2 hK, h⟩, rfl⟩)
theorem optBest_out (hO : OptSpec 9 12 14 18 16) (nd : Int) (A : Option Addr) (n c : Nat) (x : Wnt) (y : WSl) (l : List Lnk) (Ad : Option Addr) (n' c' : Nat) (dn : List Bool) (Ae : Option Addr) (ne ce : Nat) (w : World) (hr : RLnk w w.heap.size A n l) (hc : n ≤ c) (hA : A = none → n = 0 ∧ c = 0) (hw : WArg w x y) (hd : RBl w w.heap.size Ad n' dn) (hdc : n' ≤ c') (hdn : Ad = none → n' = 0 ∧ c' = 0) (h0 : -9223372036854775808 ≤ nd ∧ nd ≤ 9223372036854775807) (h : smallB nd n = false ∨ fewB y = false ∨ 200 < n' ∨ ne < 60 ∨ (costS nd l x dn).2 ≠ 0) :
    Calls Try.prog 4 #[.agg #[.int .i64 nd, .slice A n c], .agg #[.int .i64 x.frm, .int .i64 x.too, .int .i64 x.bnd, .slice y.av y.nv y.cv, .slice y.an y.nn y.cn, .slice y.al y.nl y.cl, .slice y.ac y.nc y.cc], .slice Ad n' c', .slice Ae ne ce] w fun e w' => e = .returned (.bool true) ∧ Below w.heap.size w w' := by
  have hS := Held2.start w nd A n c x y
  have HA := hid (fun (w' : World) (h : Held2 w nd A n c x y w') => h.calls (alive15 hO w'))
  have HSm := hid (fun (w' : World) (h : Held2 w nd A n c x y w') => h.calls (small_any nd A n c w'))
  have HFw := hid (fun (w' : World) (h : Held2 w nd A n c x y w') => h.calls (few_any x y w'))
  cases hs : smallB nd n with
  | false =>
    rw [hs] at HSm
    clear h hO hr hw hc hA h0 hs hd
    go_enter Try.func4, Try.ntmps4
    go_wp2_with (first
      | (go_at_call 7; (with_reducible refine (HA.out _ hS).mono ?_); rintro e' w1 ⟨rfl, h1⟩; obtain ⟨g0, g1⟩ := h1.g; obtain ⟨g2, g3, g4, g5, g6, g7, g8⟩ := h1.v)
      | (go_at_call 20; (with_reducible refine (HSm.out _ h1).mono ?_); rintro e' w2 ⟨rfl, h2⟩; obtain ⟨q0, q1⟩ := h2.g; obtain ⟨q2, q3, q4, q5, q6, q7, q8⟩ := h2.v))
    go_ret
    exact ⟨rfl, h2.1⟩
  | true =>
    rw [hs] at HSm
    cases hf : fewB y with
    | false =>
      rw [hf] at HFw
      clear h hO hr hw hc hA h0 hs hf hd
      go_enter Try.func4, Try.ntmps4
      go_wp2_with (first
        | (go_at_call 7; (with_reducible refine (HA.out _ hS).mono ?_); rintro e' w1 ⟨rfl, h1⟩; obtain ⟨g0, g1⟩ := h1.g; obtain ⟨g2, g3, g4, g5, g6, g7, g8⟩ := h1.v)
        | (go_at_call 20; (with_reducible refine (HSm.out _ h1).mono ?_); rintro e' w2 ⟨rfl, h2⟩; obtain ⟨q0, q1⟩ := h2.g; obtain ⟨q2, q3, q4, q5, q6, q7, q8⟩ := h2.v)
        | (go_at_call 8; (with_reducible refine (HFw.out _ h2).mono ?_); rintro e' w3 ⟨rfl, h3⟩; obtain ⟨r0, r1⟩ := h3.g; obtain ⟨r2, r3, r4, r5, r6, r7, r8⟩ := h3.v))
      go_ret
      exact ⟨rfl, h3.1⟩
    | true =>
      rw [hf] at HFw
      have hn16 : n ≤ 16 := by unfold smallB at hs; simp only [Bool.and_eq_true, decide_eq_true_eq] at hs; omega
      have hl4 : y.nv ≤ 20 ∧ y.nn ≤ 60 ∧ y.nl ≤ 60 ∧ y.nc ≤ 60 := by
        unfold fewB at hf
        simp only [Bool.and_eq_true, decide_eq_true_eq] at hf
        omega
      have hg : GArg w nd A n c l := ⟨hr, by omega, hc, hA, h0.1, h0.2⟩
      by_cases hn' : 200 < n'
      · have t2 : decide ((200 : Int) < (n' : Int)) = true := by simp; omega
        clear h hO hr hw hc hA h0 hs hf hn' hg hl4 hd
        go_enter Try.func4, Try.ntmps4
        go_wp2_with (first
          | (go_at_call 7; (with_reducible refine (HA.out _ hS).mono ?_); rintro e' w1 ⟨rfl, h1⟩; obtain ⟨g0, g1⟩ := h1.g; obtain ⟨g2, g3, g4, g5, g6, g7, g8⟩ := h1.v)
          | (go_at_call 20; (with_reducible refine (HSm.out _ h1).mono ?_); rintro e' w2 ⟨rfl, h2⟩; obtain ⟨q0, q1⟩ := h2.g; obtain ⟨q2, q3, q4, q5, q6, q7, q8⟩ := h2.v)
          | (go_at_call 8; (with_reducible refine (HFw.out _ h2).mono ?_); rintro e' w3 ⟨rfl, h3⟩; obtain ⟨r0, r1⟩ := h3.g; obtain ⟨r2, r3, r4, r5, r6, r7, r8⟩ := h3.v))
        go_ret
        exact ⟨rfl, h3.1⟩
      · have t2 : decide ((200 : Int) < (n' : Int)) = false := by simp; omega
        by_cases hne : ne < 60
        · have t3 : decide ((ne : Int) < (60 : Int)) = true := by simp; omega
          clear h hO hr hw hc hA h0 hs hf hn' hne hg hl4 hd
          go_enter Try.func4, Try.ntmps4
          go_wp2_with (first
            | (go_at_call 7; (with_reducible refine (HA.out _ hS).mono ?_); rintro e' w1 ⟨rfl, h1⟩; obtain ⟨g0, g1⟩ := h1.g; obtain ⟨g2, g3, g4, g5, g6, g7, g8⟩ := h1.v)
            | (go_at_call 20; (with_reducible refine (HSm.out _ h1).mono ?_); rintro e' w2 ⟨rfl, h2⟩; obtain ⟨q0, q1⟩ := h2.g; obtain ⟨q2, q3, q4, q5, q6, q7, q8⟩ := h2.v)
            | (go_at_call 8; (with_reducible refine (HFw.out _ h2).mono ?_); rintro e' w3 ⟨rfl, h3⟩; obtain ⟨r0, r1⟩ := h3.g; obtain ⟨r2, r3, r4, r5, r6, r7, r8⟩ := h3.v))
          go_ret
          exact ⟨rfl, h3.1⟩
        · have t3 : decide ((ne : Int) < (60 : Int)) = false := by simp; omega
          have h5 : (costS nd l x dn).2 ≠ 0 := by
            rcases h with h | h | h | h | h
            · rw [hs] at h; cases h
            · rw [hf] at h; cases h
            · omega
            · omega
            · exact h
          have t4 : ((costS nd l x dn).2 != 0) = true := bne_iff_ne.2 h5
          have hda : DArg w Ad n' c' dn := ⟨hd, by omega, hdc, hdn⟩
          have HC := hid (fun (w' : World) (h : Held2 w nd A n c x y w') => h.calls (hO.cost nd A n c l x y Ad n' c' dn w' (hg.on h.1) (hw.on h.1) (hda.on h.1) (by omega) (by omega) (by omega) (by omega)))
          have HN := hid (fun (z : Int) (W : World) => onum_any z W)
          obtain ⟨k1, hk1⟩ : ∃ k1, (costS nd l x dn).1 = k1 := ⟨_, rfl⟩
          obtain ⟨k2, hk2⟩ : ∃ k2, (costS nd l x dn).2 = k2 := ⟨_, rfl⟩
          rw [hk1, hk2] at HC
          rw [hk2] at t4
          clear h hO hr hw hc hA h0 hs hf hn' hne hg hl4 h5 hk1 hk2 hd hda
          go_enter Try.func4, Try.ntmps4
          go_wp2_with (first
            | (go_at_call 7; (with_reducible refine (HA.out _ hS).mono ?_); rintro e' w1 ⟨rfl, h1⟩; obtain ⟨g0, g1⟩ := h1.g; obtain ⟨g2, g3, g4, g5, g6, g7, g8⟩ := h1.v)
            | (go_at_call 20; (with_reducible refine (HSm.out _ h1).mono ?_); rintro e' w2 ⟨rfl, h2⟩; obtain ⟨q0, q1⟩ := h2.g; obtain ⟨q2, q3, q4, q5, q6, q7, q8⟩ := h2.v)
            | (go_at_call 8; (with_reducible refine (HFw.out _ h2).mono ?_); rintro e' w3 ⟨rfl, h3⟩; obtain ⟨r0, r1⟩ := h3.g; obtain ⟨r2, r3, r4, r5, r6, r7, r8⟩ := h3.v)
            | (go_at_call 9; (with_reducible refine (HC.out _ h3).mono ?_); rintro e' w4 ⟨rfl, h4⟩; obtain ⟨s0, s1⟩ := h4.g; obtain ⟨s2, s3, s4, s5, s6, s7, s8⟩ := h4.v)
            | (go_at_call 11; (with_reducible refine (HN.out _ _).mono ?_); rintro _ _ ⟨rfl, rfl⟩))
          go_ret
          exact ⟨rfl, h4.1⟩
end Go.Proofs.Ytabgbhkpeeibaaa