/- DagUses: both nodes there. -/
import Derived.Test.YtcjilpgblbnebaaDgI
import Derived.Deep.RegionHeld3
namespace Go.Proofs.Ytcjilpgblbnebaa
open Go.RowKit
set_option maxHeartbeats 12800000
set_option maxRecDepth 100000
/-- A row that counts how often a number stands at the first i of a list. -/
def Tel (N : Nat) (L : List Int) (f : Nat → Int) (i : Nat) (d : List Int) : Prop := d.length = N ∧ ∀ u : Nat, u < N → 0 ≤ dAt d (u : Int) ∧ dAt d (u : Int) ≤ (i : Int) ∧ (0 < dAt d (u : Int) ↔ ∃ (j k : Nat), j < i ∧ L[j]? = some (k : Int) ∧ f k = (u : Int))
theorem Tel.zero (N : Nat) (L : List Int) (f : Nat → Int) : Tel N L f 0 (List.replicate N 0) := by
  refine ⟨by simp, fun u hu => ?_⟩
  have h1 : dAt (List.replicate N 0) (u : Int) = 0 := by
    unfold dAt
    rw [List.getD_eq_getElem?_getD, Int.toNat_natCast, List.getElem?_replicate, if_pos hu]; rfl
  rw [h1]
  exact ⟨by omega, by omega, ⟨fun h => by omega, fun ⟨j, _, hj, _⟩ => absurd hj (Nat.not_lt_zero j)⟩⟩
theorem Tel.step {N : Nat} {L : List Int} {f : Nat → Int} {i : Nat} {d : List Int} {k a : Nat} {x : Int} (h : Tel N L f i d) (hk : L[i]? = some (k : Int)) (hf : f k = (a : Int)) (ha : a < N) (hx : dAt d (a : Int) + 1 = x) : Tel N L f (i + 1) (d.set a x) := by
  refine ⟨by rw [List.length_set]; exact h.1, fun u hu => ?_⟩
  rw [dAt_set (by rw [h.1]; exact ha)]
  obtain ⟨h1, h2, h3⟩ := h.2 u hu
  by_cases hua : u = a
  · subst hua
    rw [if_pos rfl]
    exact ⟨by omega, by omega, ⟨fun _ => ⟨i, k, by omega, hk, hf⟩, fun _ => by omega⟩⟩
  · rw [if_neg hua]
    refine ⟨h1, by omega, h3.trans ⟨fun ⟨j, k', hj, hl, hfk⟩ => ⟨j, k', by omega, hl, hfk⟩, fun ⟨j, k', hj, hl, hfk⟩ => ?_⟩⟩
    rcases Nat.lt_succ_iff_lt_or_eq.1 hj with hj | rfl
    · exact ⟨j, k', hj, hl, hfk⟩
    · rw [hk] at hl
      injection hl with hl
      obtain rfl : k = k' := by omega
      rw [hf] at hfk
      omega
theorem Tel.all {N : Nat} {L : List Int} {f : Nat → Int} {m : Nat} {d : List Int} (h : Tel N L f m d) (hm : L.length = m) {u : Nat} (hu : u < N) {P : Nat → Prop} (hP : ∀ e : Int, e ∈ L ↔ ∃ k : Nat, e = (k : Int) ∧ P k) : (0 < dAt d (u : Int) ↔ ∃ k : Nat, P k ∧ f k = (u : Int)) := by
  refine (h.2 u hu).2.2.trans ⟨fun ⟨j, k, _, hl, hf⟩ => ?_, fun ⟨k, hk, hf⟩ => ?_⟩
  · obtain ⟨k', hk', hp⟩ := (hP _).1 (List.mem_of_getElem? hl)
    obtain rfl : k = k' := by omega
    exact ⟨k, hp, hf⟩
  · obtain ⟨j, hj, he⟩ := List.getElem_of_mem ((hP (k : Int)).2 ⟨k, rfl, hk⟩)
    exact ⟨j, k, by omega, by rw [List.getElem?_eq_getElem hj, he], hf⟩
theorem ways_one {N : Nat} {l : List Lnk} {dn : List Bool} {S T : Nat} (hok : GOk N l) (hS : S < N) (hT : T < N) : ((waysS (N : Int) l dn (S : Int) (T : Int)).1 = 0 ↔ dAt (distS N l dn S) (T : Int) < 0) ∧ (S = T → (waysS (N : Int) l dn (S : Int) (T : Int)).1 = 1) := by
  have hsy := dist_sym (dn := dn) hok hS hT
  have hd := (dist_ok (dn := dn) hok hT).src
  by_cases h : 0 ≤ dAt (distS N l dn T) (S : Int)
  · have Q : waysS (N : Int) l dn (S : Int) (T : Int) = _ := if_pos ⟨gok_check hok, by omega, by omega, by omega, by omega, by rw [Int.toNat_natCast, Int.toNat_natCast]; exact h⟩
    rw [Q]
    simp only [Int.toNat_natCast]
    have h1 := tr_pos (dn := dn) hok hT _ S hS (Nat.le_refl _) h
    refine ⟨⟨fun h2 => ?_, fun h2 => by omega⟩, fun hST => ?_⟩
    · unfold capB at h2; omega
    · subst hST
      rw [tr_zero hd]; rfl
  · have Q : waysS (N : Int) l dn (S : Int) (T : Int) = _ := if_neg (fun h2 => h (by have := h2.2.2.2.2.2; rw [Int.toNat_natCast, Int.toNat_natCast] at this; exact this))
    rw [Q]
    refine ⟨⟨fun _ => by omega, fun _ => rfl⟩, fun hST => ?_⟩
    subst hST; omega
theorem duses_same (h : DagSpec 10 9 12) (N : Nat) (A : Option Addr) (n c : Nat) (l : List Lnk) (Ad : Option Addr) (n' c' : Nat) (dn : List Bool) (S T : Nat) (w : World) (hg : GArg w (N : Int) A n c l) (hd : DArg w Ad n' c' dn) (h0 : (checkS (N : Int) l).2 = 0) (hn : n ≤ 60) (hS2 : S < N) (hT : T < N) (hx : S = T ∨ dAt (distS N l dn S) (T : Int) < 0) :
    Calls Try.prog 5 #[.agg #[.int .i64 (N : Int), .slice A n c], .slice Ad n' c', .int .i64 (S : Int), .int .i64 (T : Int)] w fun e w' => e = .returned (.bool true) ∧ Below w.heap.size w w' := by
  have HA := hid (fun (w' : World) (hh : Held w (N : Int) A n c w') => hh.calls (alive_any h w'))
  have HK := hid (fun (w' : World) (hh : Held w (N : Int) A n c w') => hh.calls (refCheck_any (N : Int) A n c l w' (hh.on hg.row)))
  have hS := Held.start w (N : Int) A n c
  obtain ⟨g0, g1⟩ := hS.cells
  have hok := gok_of h0
  have hN : N ≤ 40 := hok.2.2.1
  have hw := ways_one (dn := dn) hok hS2 hT
  have hL : usesS (N : Int) l dn (S : Int) (T : Int) = [] := by
    rcases hx with rfl | hx
    · rw [List.eq_nil_iff_forall_not_mem]
      intro e he
      obtain ⟨k, _, hk⟩ := (uses_mem hok hS2 hS2 (by rw [(dist_ok hok hS2).src]; exact Int.le_refl _)).1 he
      exact us_same hok hS2 hk
    · exact uses_no hx
  have HC := hid (fun (w' : World) (hh : Held w (N : Int) A n c w') => hh.calls (h.count (N : Int) A n c l Ad n' c' dn (S : Int) (T : Int) w' (hg.on hh.1) (hd.on hh.1) ⟨by omega, by omega⟩ ⟨by omega, by omega⟩))
  have HU := hid (fun (w' : World) (hh : Held w (N : Int) A n c w') => h.uses (N : Int) A n c l Ad n' c' dn (S : Int) (T : Int) w' (hg.on hh.1) (hd.on hh.1) ⟨by omega, by omega⟩ ⟨by omega, by omega⟩)
  simp only [hL] at HU
  obtain ⟨k1, hk1⟩ : ∃ k1, (checkS (N : Int) l).1 = k1 := ⟨_, rfl⟩
  rw [hk1, h0] at HK
  have tE : ((0 : Int) != 0) = false := by decide
  have hn2 := hd.len
  have t1 : decide ((60 : Int) < (n : Int)) = false := by simp; omega
  have t1' : decide (60 < n) = false := by simp; omega
  have t2 : decide ((200 : Int) < (n' : Int)) = false := by simp; omega
  have t2' : decide (200 < n') = false := by simp; omega
  have t3 : decide ((S : Int) < 0) = false := by simp
  have t4 : decide ((N : Int) ≤ (S : Int)) = false := by simp; omega
  have t4' : decide (N ≤ S) = false := by simp; omega
  have t5 : decide ((T : Int) < 0) = false := by simp
  have t6 : decide ((N : Int) ≤ (T : Int)) = false := by simp; omega
  have t6' : decide (N ≤ T) = false := by simp; omega
  by_cases hST : S = T
  · simp only [hw.2 hST] at HC
    have t7 : ((S : Int) == (T : Int)) = true := by simp; omega
    clear h hg hd h0 hok hw hL hx hk1 hST
    go_enter Try.func5, Try.ntmps5
    go_wp2_with (first
      | (go_at_call 7; (with_reducible refine (HA.out _ hS).mono ?_); rintro e' w1 ⟨rfl, h1⟩; obtain ⟨g2, g3⟩ := h1.cells)
      | (go_at_call 15; (with_reducible refine (HK.out _ h1).mono ?_); rintro e' w2 ⟨rfl, h2⟩; obtain ⟨g4, g5⟩ := h2.cells)
      | (go_at_call 12; (with_reducible refine (HU.out _ h2).mono ?_); rintro e' w3 ⟨A3, c3, rfl, _, hb3⟩; have h3 := h2.next hb3; obtain ⟨g6, g7⟩ := h3.cells)
      | (go_at_call 10; (with_reducible refine (HC.out _ h3).mono ?_); rintro e' w4 ⟨rfl, h4⟩))
    go_ret
    exact ⟨rfl, h4.1⟩
  · have hxn : dAt (distS N l dn S) (T : Int) < 0 := by rcases hx with h5 | h5; exact absurd h5 hST; exact h5
    simp only [hw.1.2 hxn] at HC
    have t7 : ((S : Int) == (T : Int)) = false := by simp; omega
    have HF := hid (fun (w' : World) (hh : Held w (N : Int) A n c w') => refFrom_spec (N : Int) A n c l Ad n' c' dn (S : Int) w' (hg.on hh.1) (hd.on hh.1) (by omega) (by omega))
    have Q : fromS (N : Int) l dn (S : Int) = distS N l dn S := by unfold fromS; rw [if_pos ⟨h0, by omega, by omega⟩, Int.toNat_natCast, Int.toNat_natCast]
    simp only [Q] at HF
    have hdl := (dist_ok (dn := dn) hok hS2).len
    have hgt := dAt_get (d := distS N l dn S) (v := T) (by rw [hdl]; exact hT)
    obtain ⟨x, hx2⟩ : ∃ x, dAt (distS N l dn S) (T : Int) = x := ⟨_, rfl⟩
    rw [hx2] at hgt hxn
    have t8 : decide (x < 0) = true := by simpa using hxn
    obtain ⟨D, hD⟩ : ∃ D, distS N l dn S = D := ⟨_, rfl⟩
    simp only [hD] at HF
    rw [hD] at hgt hdl
    have Hgt := hid hgt
    have Hdl := hid hdl
    clear h hg hd h0 hok hw hL hx hk1 hST Q hgt hdl hD hx2 hxn
    go_enter Try.func5, Try.ntmps5
    go_wp2_with (first
      | (go_at_call 7; (with_reducible refine (HA.out _ hS).mono ?_); rintro e' w1 ⟨rfl, h1⟩; obtain ⟨g2, g3⟩ := h1.cells)
      | (go_at_call 15; (with_reducible refine (HK.out _ h1).mono ?_); rintro e' w2 ⟨rfl, h2⟩; obtain ⟨g4, g5⟩ := h2.cells)
      | (go_at_call 12; (with_reducible refine (HU.out _ h2).mono ?_); rintro e' w3 ⟨A3, c3, rfl, _, hb3⟩; have h3 := h2.next hb3; obtain ⟨g6, g7⟩ := h3.cells)
      | (go_at_call 10; (with_reducible refine (HC.out _ h3).mono ?_); rintro e' w4 ⟨rfl, h4⟩; obtain ⟨g8, g9⟩ := h4.cells)
      | (go_at_call 16; (with_reducible refine (HF.out _ h4).mono ?_); rintro e' w5 ⟨v5, rfl, hown5, hb5⟩; rw [Hdl.out] at hown5; obtain ⟨g, cap, rfl, _, hgs, hgc⟩ := own_lo hown5 (by omega); have hcs := hgc T _ Hgt.out; have h5 := h4.next hb5; clear hgc hown5))
    go_ret
    exact ⟨rfl, h5.1⟩
end Go.Proofs.Ytcjilpgblbnebaa
