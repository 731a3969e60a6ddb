/- GraphWays. -/
import Derived.Test.YtljgoffolbplfaaGrH
import Derived.Test.YtljgoffolbplfaaWdC
namespace Go.Proofs.Ytljgoffolbplfaa
open Go.RowKit
set_option maxHeartbeats 6400000
set_option maxRecDepth 100000
theorem checkS_ok {nd : Int} {l : List Lnk} (h : (checkS nd l).2 = 0) : l.length ≤ 120 ∧ 1 ≤ nd ∧ nd ≤ 40 ∧ (chk nd l 0).2 = 0 := by
  unfold checkS at h
  split at h
  · simp at h
  · split at h
    · simp at h
    · exact ⟨by omega, by omega, by omega, h⟩
theorem ways_facts {l : List Lnk} {k : Nat} (h : k < 2 * l.length) : ∃ (a b : Int) (r : Nat), endsS l (k : Int) = (a, b, true) ∧ endsS l (r : Int) = (b, a, true) ∧ backS (k : Int) = (r : Int) ∧ backS (r : Int) = (k : Int) ∧ r / 2 = k / 2 := by
  obtain ⟨x, hx⟩ : ∃ x, l[k / 2]? = some x := ⟨l[k / 2]'(by omega), List.getElem?_eq_getElem _⟩
  have h1 := endsS_some hx
  rcases Nat.mod_two_eq_zero_or_one k with hm | hm
  · have hq : (k + 1) / 2 = k / 2 := by omega
    have h2 := endsS_some (e := k + 1) (hq ▸ hx)
    rw [if_pos hm] at h1
    rw [if_neg (by omega)] at h2
    refine ⟨_, _, k + 1, h1, h2, ?_, ?_, hq⟩
    · unfold backS; rw [if_neg (by omega), if_pos (by omega)]; omega
    · unfold backS; rw [if_neg (by omega), if_neg (by omega)]; omega
  · obtain ⟨j, rfl⟩ : ∃ j, k = j + 1 := ⟨k - 1, by omega⟩
    have hq : j / 2 = (j + 1) / 2 := by omega
    have h2 := endsS_some (e := j) (by rw [hq]; exact hx)
    rw [if_neg (by omega)] at h1
    rw [if_pos (by omega)] at h2
    refine ⟨_, _, j, h1, h2, ?_, ?_, hq⟩
    · unfold backS; rw [if_neg (by omega), if_neg (by omega)]; omega
    · unfold backS; rw [if_neg (by omega), if_pos (by omega)]; omega
theorem mem_outS {l : List Lnk} {node : Int} {m : Nat} {x : Int} : x ∈ outS l node m ↔ ∃ i : Nat, i < m ∧ x = (i : Int) ∧ (endsS l (i : Int)).1 = node := by
  unfold outS
  simp only [List.mem_filter, List.mem_map, List.mem_range, beq_iff_eq]
  constructor
  · rintro ⟨⟨i, hi, rfl⟩, h⟩; exact ⟨i, hi, rfl, h⟩
  · rintro ⟨i, hi, rfl, h⟩; exact ⟨⟨i, hi, rfl⟩, h⟩
theorem mem_take_succ {L : List Int} {j : Nat} {x k : Int} (h : L[j]? = some x) : k ∈ L.take (j + 1) ↔ k ∈ L.take j ∨ x = k := by
  obtain ⟨hj, hx⟩ := List.getElem?_eq_some_iff.1 h
  rw [List.take_succ_eq_append_getElem hj, List.mem_append, hx]
  simp [eq_comm]
theorem not_mem_step {p q r : Prop} (h : p ↔ q ∨ r) (hq : false = true ↔ q) (hr : ¬r) : false = true ↔ p := by
  rw [h]
  constructor
  · intro h; cases h
  · rintro (h | h)
    · exact hq.2 h
    · exact absurd h hr
theorem ways_not (nd : Int) (A : Option Addr) (n c : Nat) (l : List Lnk) (edge : Int) (w : World) (hr : RLnk w w.heap.size A n l) (h : ¬((checkS nd l).2 = 0 ∧ 0 ≤ edge ∧ edge < 2 * (n : Int))) :
    Calls Try.prog 4 #[.agg #[.int .i64 nd, .slice A n c], .int .i64 edge] w fun e w' => e = .returned (.bool true) ∧ Below w.heap.size w w' := by
  have hS := Held.start w nd A n c
  have HA := hid (fun (w' : World) (h : Held w nd A n c w') => h.calls (alive_any w'))
  have HK' := hid (fun (w' : World) (h : Held w nd A n c w') => h.calls (refCheck_any nd A n c l w' (h.on hr)))
  obtain ⟨k1, hk1⟩ : ∃ k1, (checkS nd l).1 = k1 := ⟨_, rfl⟩
  by_cases h2 : (checkS nd l).2 = 0
  · have hn := (checkS_ok h2).1
    rw [hr.1] at hn
    rw [hk1, h2] at HK'
    have tE : ((0 : Int) != 0) = false := by decide
    by_cases h3 : edge < 0
    · have t1 : decide (edge < 0) = true := by simpa using h3
      clear hr h h2 h3 hk1 hn
      go_enter Try.func4, Try.ntmps4
      go_wp2_with (first
        | (go_at_call 14; (with_reducible refine (HA.out _ hS).mono ?_); rintro e' w1 ⟨rfl, h1⟩; obtain ⟨g0, g1⟩ := h1.cells)
        | (go_at_call 16; (with_reducible refine (HK'.out _ h1).mono ?_); rintro e' w3 ⟨rfl, h3⟩; obtain ⟨g4, g5⟩ := h3.cells))
      go_ret
      exact ⟨rfl, h3.1⟩
    · have t1 : decide (edge < 0) = false := by simpa using h3
      have t2 : decide (2 * (n : Int) ≤ edge) = true := by simp; omega
      clear hr h h2 h3 hk1
      go_enter Try.func4, Try.ntmps4
      go_wp2_with (first
        | (go_at_call 14; (with_reducible refine (HA.out _ hS).mono ?_); rintro e' w1 ⟨rfl, h1⟩; obtain ⟨g0, g1⟩ := h1.cells)
        | (go_at_call 16; (with_reducible refine (HK'.out _ h1).mono ?_); rintro e' w3 ⟨rfl, h3⟩; obtain ⟨g4, g5⟩ := h3.cells))
      go_ret
      exact ⟨rfl, h3.1⟩
  · obtain ⟨k2, hk2⟩ : ∃ k2, (checkS nd l).2 = k2 := ⟨_, rfl⟩
    rw [hk1, hk2] at HK'
    have t1 : (k2 != 0) = true := by rw [← hk2]; simpa using h2
    clear hr h h2 hk1 hk2
    go_enter Try.func4, Try.ntmps4
    go_wp2_with (first
      | (go_at_call 14; (with_reducible refine (HA.out _ hS).mono ?_); rintro e' w1 ⟨rfl, h1⟩; obtain ⟨g0, g1⟩ := h1.cells)
      | (go_at_call 16; (with_reducible refine (HK'.out _ h1).mono ?_); rintro e' w3 ⟨rfl, h3⟩; obtain ⟨g4, g5⟩ := h3.cells))
    go_ret
    exact ⟨rfl, h3.1⟩
theorem ways_in (nd : Int) (A : Option Addr) (n c : Nat) (l : List Lnk) (k : Nat) (w : World) (hr : RLnk w w.heap.size A n l) (h : (checkS nd l).2 = 0) (hk : k < 2 * n) :
    Calls Try.prog 4 #[.agg #[.int .i64 nd, .slice A n c], .int .i64 (k : Int)] w fun e w' => e = .returned (.bool true) ∧ Below w.heap.size w w' := by
  have hS := Held.start w nd A n c
  have hn := (checkS_ok h).1
  have hl := hr.1
  rw [hl] at hn
  obtain ⟨a, b, r, E1, E2, B1, B2, hrk⟩ := ways_facts (l := l) (k := k) (by omega)
  have HA := hid (fun (w' : World) (h : Held w nd A n c w') => h.calls (alive_any w'))
  have HK' := hid (fun (w' : World) (h : Held w nd A n c w') => h.calls (refCheck_any nd A n c l w' (h.on hr)))
  have HE := hid (fun (w' : World) (h' : Held w nd A n c w') => h'.calls (ends_any nd A n c l (k : Int) w' (h'.on hr) (by omega) (by omega)))
  have HE2 := hid (fun (w' : World) (h' : Held w nd A n c w') => h'.calls (ends_any nd A n c l (r : Int) w' (h'.on hr) (by omega) (by omega)))
  have HO := hid (fun (w' : World) (h' : Held w nd A n c w') => held_out h' (out_any nd A n c l a w' (h'.on hr) (by omega)))
  have HB := hid (fun (w' : World) => back_any (k : Int) w' (by omega))
  have HB2 := hid (fun (w' : World) => back_any (r : Int) w' (by omega))
  have hm := outS_len l a (2 * l.length)
  have Hin : Hid ((k : Int) ∈ outS l a (2 * l.length)) := hid (mem_outS.2 ⟨k, by omega, rfl, by rw [E1]⟩)
  obtain ⟨k1, hk1⟩ : ∃ k1, (checkS nd l).1 = k1 := ⟨_, rfl⟩
  obtain ⟨L, hL⟩ : ∃ L, outS l a (2 * l.length) = L := ⟨_, rfl⟩
  obtain ⟨m, hM⟩ : ∃ m, L.length = m := ⟨_, rfl⟩
  rw [hk1, h] at HK'
  simp only [E1] at HE
  simp only [E2] at HE2
  rw [B1] at HB
  rw [B2] at HB2
  rw [hL] at Hin
  simp only [hL, hM] at HO hm
  rw [hl] at hm
  obtain ⟨q, hq⟩ : ∃ q, k / 2 = q := ⟨_, rfl⟩
  have d1 : Int.tdiv (k : Int) 2 = (q : Int) := by rw [← hq]; rfl
  have d2 : Int.tdiv (r : Int) 2 = (q : Int) := by rw [← hq, ← hrk]; rfl
  have d3 : wrap64 (q : Int) = (q : Int) := IntWalk.wrap64_in _ (by omega)
  have tE : ((0 : Int) != 0) = false := by decide
  have t1 : decide ((k : Int) < 0) = false := by simp
  have t2 : decide (2 * (n : Int) ≤ (k : Int)) = false := by simp; omega
  have s1 : (a == a) = true := by simp
  have s2 : (b == b) = true := by simp
  have s3 : ((q : Int) == (q : Int)) = true := by simp
  have s4 : ((k : Int) == (k : Int)) = true := by simp
  have HM := hid hM
  have hm2 : m ≤ 240 := by omega
  clear hr h hk1 E1 E2 B1 B2 hL hrk hq hM hm
  go_enter Try.func4, Try.ntmps4
  go_wp2_with (first
    | (go_at_call 14; (with_reducible refine (HA.out _ hS).mono ?_); rintro e' w1 ⟨rfl, h1⟩; obtain ⟨g0, g1⟩ := h1.cells)
    | (go_at_call 16; (with_reducible refine (HK'.out _ h1).mono ?_); rintro e' w3 ⟨rfl, h3⟩; obtain ⟨g4, g5⟩ := h3.cells)
    | (go_at_call 17; (with_reducible refine (HE.out _ h3).mono ?_); rintro e' w4 ⟨rfl, h4⟩; obtain ⟨g6, g7⟩ := h4.cells)
    | (go_at_call 23; (with_reducible (first | refine (HB.out _).mono ?_ | refine (HB2.out _).mono ?_)); rintro _ _ ⟨rfl, rfl⟩)
    | (go_at_call 17; (with_reducible refine (HE2.out _ h4).mono ?_); rintro e' w5 ⟨rfl, h5⟩; obtain ⟨g8, g9⟩ := h5.cells)
    | (go_at_call 21; (with_reducible refine (HO.out _ h5).mono ?_); rintro e' w7 ⟨A7, c7, rfl, hi7, hb7, h7⟩))
  have HI := hid hi7
  have hbw := h7.1
  clear hi7
  go_loopw [16, 17] (fun s i wr => ∃ (j : Nat) (b : Bool), j ≤ m ∧ i = .int .i64 j ∧ s = .bool b ∧ Hid (b = true ↔ (k : Int) ∈ L.take j) ∧ Below w7.heap.size w7 wr) (fun _ i _ => m - (intOf i).toNat)
  case atStart => exact ⟨0, false, Nat.zero_le _, rfl, rfl, hid (by simp), Below.refl _ _⟩
  case round =>
    obtain ⟨j, bb, hj, rfl, rfl, HQ, hbel⟩ := hrel
    by_cases hlt : j < m
    · obtain ⟨x, hx⟩ : ∃ x, L[j]? = some x := ⟨L[j]'(by rw [HM.out]; exact hlt), List.getElem?_eq_getElem _⟩
      obtain ⟨b7, o7, rfl, hb, hc⟩ := (HI.out.below hbel).2 (by omega)
      have c0 := hc j x hx
      have HX := hid (mem_take_succ (k := (k : Int)) hx)
      clear hc hx
      cases bb with
      | true =>
        have HQ2 : Hid (true = true ↔ (k : Int) ∈ L.take (j + 1)) := hid (by rw [HX.out]; exact ⟨fun _ => .inl (HQ.out.1 rfl), fun _ => rfl⟩)
        go_wp2_with fail
        go_roundw
        case rel => exact ⟨j + 1, true, by omega, by go_num, rfl, HQ2.out, hbel⟩
        case measure => simp [intOf]; omega
      | false =>
        by_cases hxk : x = (k : Int)
        · have u : (x == (k : Int)) = true := by simpa using hxk
          have HQ2 : Hid (true = true ↔ (k : Int) ∈ L.take (j + 1)) := hid (by rw [HX.out]; exact ⟨fun _ => .inr hxk, fun _ => rfl⟩)
          clear hxk
          go_wp2_with fail
          go_roundw
          case rel => exact ⟨j + 1, true, by omega, by go_num, by first | rfl | simp, HQ2.out, hbel⟩
          case measure => simp [intOf]; omega
        · have u : (x == (k : Int)) = false := by simpa using hxk
          have HQ2 : Hid (false = true ↔ (k : Int) ∈ L.take (j + 1)) := hid (not_mem_step HX.out HQ.out hxk)
          clear hxk
          go_wp2_with fail
          go_roundw
          case rel => exact ⟨j + 1, false, by omega, by go_num, by first | rfl | simp, HQ2.out, hbel⟩
          case measure => simp [intOf]; omega
    · obtain rfl : j = m := by omega
      have hbt : bb = true := HQ.out.2 (by rw [List.take_of_length_le (by rw [HM.out]; omega)]; exact Hin.out)
      subst hbt
      go_wp2_with (go_at_call 23; (with_reducible (first | refine (HB.out _).mono ?_ | refine (HB2.out _).mono ?_)); rintro _ _ ⟨rfl, rfl⟩)
      go_ret
      exact ⟨rfl, hbw.trans (hbel.mono hbw.size)⟩
theorem ways_any (nd : Int) (A : Option Addr) (n c : Nat) (l : List Lnk) (edge : Int) (w : World) (hr : RLnk w w.heap.size A n l) :
    Calls Try.prog 4 #[.agg #[.int .i64 nd, .slice A n c], .int .i64 edge] w fun e w' => e = .returned (.bool true) ∧ Below w.heap.size w w' := by
  by_cases h : (checkS nd l).2 = 0 ∧ 0 ≤ edge ∧ edge < 2 * (n : Int)
  · obtain ⟨k, rfl⟩ := Int.eq_ofNat_of_zero_le h.2.1
    exact ways_in nd A n c l k w hr h.1 (by omega)
  · exact ways_not nd A n c l edge w hr h
end Go.Proofs.Ytljgoffolbplfaa
