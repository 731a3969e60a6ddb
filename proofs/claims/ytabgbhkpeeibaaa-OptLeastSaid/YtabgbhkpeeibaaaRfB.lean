/- waymarkref1.Ends, Out, SameInts. -/
import Derived.Test.YtabgbhkpeeibaaaWgC
namespace Go.Proofs.Ytabgbhkpeeibaaa
open Go.RowKit
set_option maxHeartbeats 6400000
set_option maxRecDepth 100000
theorem refEnds_any (nd : Int) (A : Option Addr) (n c : Nat) (l : List Lnk) (e : Int) (w : World) (hr : RLnk w w.heap.size A n l) (hn : n ≤ 1000) (he : e ≤ 9223372036854775807) :
    Calls Try.prog 22 #[.agg #[.int .i64 nd, .slice A n c], .int .i64 e] w fun x w' => x = .returned (.tuple #[.int .i64 (endsS l e).1, .int .i64 (endsS l e).2.1, .bool (endsS l e).2.2]) ∧ Below w.heap.size w w' := by
  have b1 : Below w.heap.size w (w.alloc (.cells #[.int .i64 nd, .slice A n c] 24)) := Below.alloc (Below.refl _ _) (Nat.le_refl _) _
  have hl := hr.1
  by_cases h0 : e < 0
  · have t1 : decide (e < 0) = true := by simpa using h0
    have Q : endsS l e = (0, 0, false) := by unfold endsS; rw [if_pos h0]
    rw [Q]
    clear hr h0 Q hn hl
    go_enter Try.func22, Try.ntmps22
    go_wp2_with fail
    go_ret3
    exact ⟨rfl, b1⟩
  · have t1 : decide (e < 0) = false := by simpa using h0
    obtain ⟨k, rfl⟩ := Int.eq_ofNat_of_zero_le (Int.not_lt.1 h0)
    obtain ⟨q, hq⟩ : ∃ q, k / 2 = q := ⟨_, rfl⟩
    have d3 : wrap64 (q : Int) = (q : Int) := IntWalk.wrap64_in _ (by omega)
    have d1 : Int.tdiv (k : Int) 2 = (q : Int) := by rw [← hq]; rfl
    by_cases h1 : n ≤ q
    · have t2 : decide ((n : Int) ≤ (q : Int)) = true := by simpa using h1
      have Q : endsS l (k : Int) = (0, 0, false) := endsS_none (by omega)
      rw [Q]
      clear hr h0 Q hn hl hq
      go_enter Try.func22, Try.ntmps22
      go_wp2_with fail
      go_ret3
      exact ⟨rfl, b1⟩
    · have t2 : decide ((n : Int) ≤ (q : Int)) = false := by simp; omega
      obtain ⟨x, hx⟩ : ∃ x, l[q]? = some x := ⟨l[q]'(by omega), List.getElem?_eq_getElem _⟩
      have Q := endsS_some (hq ▸ hx : l[k / 2]? = some x)
      rw [Q]
      obtain ⟨b, off, rfl, hb, hc⟩ := hr.2 (by omega)
      obtain ⟨c0, c1, c2, c3⟩ := hc q x hx
      rcases Nat.mod_two_eq_zero_or_one k with hm | hm
      · have d2 : Int.tmod (k : Int) 2 = 0 := by have : Int.tmod (k : Int) 2 = ((k % 2 : Nat) : Int) := rfl; rw [this, hm]; rfl
        rw [if_pos hm]
        clear hc hx hr h0 Q hl hq hm
        go_enter Try.func22, Try.ntmps22
        go_wp2_with (go_big_quiet (fail))
        go_ret3
        exact ⟨rfl, below_drewN (b1.alloc (by simp) _)⟩
      · have d2 : Int.tmod (k : Int) 2 = 1 := by have : Int.tmod (k : Int) 2 = ((k % 2 : Nat) : Int) := rfl; rw [this, hm]; rfl
        rw [if_neg (by omega)]
        clear hc hx hr h0 Q hl hq hm
        go_enter Try.func22, Try.ntmps22
        go_wp2_with (go_big_quiet (fail))
        go_ret3
        exact ⟨rfl, below_drewN (b1.alloc (by simp) _)⟩
theorem refOut_any (nd : Int) (A : Option Addr) (n c : Nat) (l : List Lnk) (node : Int) (w : World) (hr : RLnk w w.heap.size A n l) (hn : n ≤ 1000) :
    Calls Try.prog 58 #[.agg #[.int .i64 nd, .slice A n c], .int .i64 node] w (OutAns l node w) := by
  have b1 : Below w.heap.size w (w.alloc (.cells #[.int .i64 nd, .slice A n c] 24)) := Below.alloc (Below.refl _ _) (Nat.le_refl _) _
  obtain ⟨i5, hi, hz0, hz1, hz2⟩ := info_parts (show (Try.prog.info? 3).map (fun i => (i.zero, i.size, i.bytes)) = some (some (.int .i64 0), 1, 8) by kernel_rfl)
  have Ai := hid hi; have Az0 := hid hz0; have Az1 := hid hz1; have Az2 := hid hz2
  clear hi hz0 hz1 hz2
  have hl := hr.1
  have HR := hid hr
  clear hr
  obtain ⟨g0, g1, _⟩ := box_cells (heap_alloc_new w (.cells #[.int .i64 nd, .slice A n c] 24))
  obtain ⟨w1, hw1⟩ : ∃ w1, w.alloc (.cells #[.int .i64 nd, .slice A n c] 24) = w1 := ⟨_, rfl⟩
  have hs1 : w1.heap.size = w.heap.size + 1 := by rw [← hw1]; simp
  rw [hw1] at b1 g0 g1
  go_enter Try.func58, Try.ntmps58
  go_wp2_with fail
  go_loopw [5, 6] (fun v i wr => ∃ (k : Nat), k ≤ 2 * n ∧ i = .int .i64 k ∧ wr.ownsRow w1.heap.size 3 1 v (outS l node k).length (icells (outS l node k)) ∧ Below w1.heap.size w1 wr) (fun _ i _ => 2 * n - (intOf i).toNat)
  case atStart => exact ⟨0, Nat.zero_le _, rfl, World.ownsRow_nil _ _ _ _, Below.refl _ _⟩
  case round =>
    obtain ⟨k, hk, rfl, hown, hbel⟩ := hrel
    have hs := hbel.size
    have hlo : w.heap.size < wr.heap.size := by omega
    have e0 := (hbel.cell (p := ⟨w.heap.size, 0, none⟩) (by show w.heap.size < _; omega)).trans g0
    have e1 := (hbel.cell (p := ⟨w.heap.size, 1, none⟩) (by show w.heap.size < _; omega)).trans g1
    have HO := hid hown
    have hkl := outS_len l node k
    have HL := hid hkl
    clear hown hkl
    have HB := hid hbel
    clear hbel
    by_cases hlt : k < 2 * n
    · have HE := hid (refEnds_any nd A n c l (k : Int) wr ((HR.out.below (b1.trans (HB.out.mono (by omega)))).more (by omega)) hn (by omega))
      have HQ := hid (outS_succ l node k)
      obtain ⟨F, hF⟩ : ∃ F, (endsS l (k : Int)).1 = F := ⟨_, rfl⟩
      rw [hF] at HE HQ
      clear hF
      by_cases hq : F = node
      · subst hq
        have HQ2 : Hid (outS l F (k + 1) = outS l F k ++ [(k : Int)]) := by show _ = _; rw [HQ.out, if_pos rfl]
        go_wp2_with (first
          | (go_at_call 22; (with_reducible refine HE.out.mono ?_); rintro e' w2 ⟨rfl, hb2⟩; have hs2 := hb2.size)
          | (at_builtin; refine wpList_append_own _ rfl (.tmp 28) (.tmp 30) 25 rfl w1.heap.size 3 i5 (.int .i64 0) 1 8 Try.underlying25 Ai.out Az0.out Az1.out Az2.out rfl (by decide) _ _ _ rfl ((own_below HO.out hb2).alloc _) ⟨w2.heap.size, 0, none⟩ 1 1 (icells [(k : Int)]) rfl rfl (new_row (int_row _)) (icells_one _) (by unfold maxLen; have := HL.out; omega) (by have := HL.out; omega) (by simp; omega) ?_; intro v4 w4 hown4 hg4 _; have hb4 : Below w1.heap.size w1 w4 := Below.grown ((HB.out.trans (hb2.mono hs)).alloc (by omega) _) hg4 (by simp; omega) (fun q hq => ((own_below HO.out hb2).lt q hq).1)))
        go_roundw
        case rel => exact ⟨k + 1, by omega, by go_num, by rw [HQ2.out, List.length_append, icells_app]; exact hown4, hb4⟩
        case measure => simp [intOf]; omega
      · have t : (F == node) = false := by simpa using hq
        have HQ2 : Hid (outS l node (k + 1) = outS l node k) := by show _ = _; rw [HQ.out, if_neg hq, List.append_nil]
        go_wp2_with (go_at_call 22; (with_reducible refine HE.out.mono ?_); rintro e' w2 ⟨rfl, hb2⟩)
        go_roundw
        case rel => exact ⟨k + 1, by omega, by go_num, by rw [HQ2.out]; exact own_below HO.out hb2, HB.out.trans (hb2.mono hs)⟩
        case measure => simp [intOf]; omega
    · obtain rfl : k = 2 * n := by omega
      go_wp2_with fail
      go_ret
      exact ⟨_, rfl, by rw [hl]; exact own_mono HO.out (by omega), b1.trans (HB.out.mono (by omega))⟩
end Go.Proofs.Ytabgbhkpeeibaaa
