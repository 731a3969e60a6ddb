/- Landed prefix: number, In. -/
import Derived.Test.YtcmkcloapenpnaaDoorPnB
import Derived.Deep.RegionHeld3
namespace Go.Proofs.YtcmkcloapenpnaaDoor
open Go.RowKit
set_option maxHeartbeats 6400000
set_option maxRecDepth 100000
theorem bytes_below {w : World} {e : TypeId} {t : ByteArray} : Below w.heap.size w (Lib.bytesWorld w e t) := Lib.bytesWorld_below _ _ _
theorem txt_itoa (n : Nat) : (⟨(Lib.itoa (n : Int)).toArray⟩ : ByteArray) = txt (decL n) := by rw [itoa_nat]; rfl
/-- What Atoi tells of a text: a number, or an error. -/
theorem atoi_any (l : List UInt8) (w : World) (hL : Ld w) (hl : l.length ≤ 10000) :
    (∃ v : Int, Lib.atoiAll l = .ok v ∧ Calls Tryd.prog 43 #[.string (txt l)] w fun e w' => e = .returned (.tuple #[.int .i64 v, .nilIface]) ∧ Below w.heap.size w w') ∨
    ((∀ n : Nat, n ≤ 2147483647 → l ≠ decL n) ∧ ∃ v : Int, Calls Tryd.prog 43 #[.string (txt l)] w fun e w' => (∃ N, e = .returned (.tuple #[.int .i64 v, .iface 131 (.pointer (some ⟨N, 0, none⟩))])) ∧ Below w.heap.size w w') := by
  have hs : (txt l).size = l.length := rfl
  have hd : (txt l).data.toList = l := by simp [txt]
  obtain ⟨h1, ⟨t1, p1, h2⟩, t2, p2, h3⟩ := hL
  rcases h : Lib.atoiAll l with v | _ | _
  · left
    refine ⟨v, rfl, (strconv_Atoi_ok (txt l) (by rw [hs]; omega) v (by rw [hd]; exact h) w).mono ?_⟩
    rintro e w' ⟨rfl, hw⟩
    refine ⟨rfl, ?_⟩
    rcases hw with rfl | ⟨t, rfl⟩
    · exact Below.refl _ _
    · exact bytes_below
  · right
    refine ⟨fun n hn he => ?_, 0, (Any.strconv_Atoi_syntax_var laysC172 (txt l) (by rw [hs]; omega) (by rw [hd]; exact h) t1 p1 w h2).mono ?_⟩
    · rw [he, atoi_dec n (by omega)] at h; cases h
    · rintro e w' ⟨N, rfl, _, _, hb⟩
      exact ⟨⟨N, rfl⟩, hb⟩
  · right
    refine ⟨fun n hn he => ?_, Lib.atoiSat (txt l).data.toList, (strconv_Atoi_range_var (txt l) (by rw [hs]; omega) (by rw [hd]; exact h) t2 p2 w h3).mono ?_⟩
    · rw [he, atoi_dec n (by omega)] at h; cases h
    · rintro e w' ⟨N, rfl, _, _, hb⟩
      exact ⟨⟨N, rfl⟩, hb⟩
theorem itoa_any (n : Nat) (w : World) (hL : Ld w) (hn : n ≤ 9223372036854775807) : Calls Tryd.prog 44 #[.int .i64 (n : Int)] w fun e w' => e = .returned (.string (txt (decL n))) ∧ Below w.heap.size w w' := by
  refine (strconv_Itoa (n : Int) (by omega) (by omega) w hL.1).mono ?_
  rintro e w' ⟨rfl, k, os, rfl⟩
  rw [txt_itoa]
  exact ⟨rfl, Lib.below_grow _ w (Nat.le_refl _) k os⟩
theorem number_any (l : List UInt8) (most : Nat) (w : World) (hL : Ld w) (hl : l.length ≤ 10000) (hm : most ≤ 2147483647) :
    Calls Tryd.prog 24 #[.string (txt l), .int .i64 (most : Int)] w fun e w' => e = .returned (numR l most) ∧ Below w.heap.size w w' := by
  rcases atoi_any l w hL hl with ⟨v, hv, hc⟩ | ⟨hbad, v, hc⟩
  · by_cases h0 : v < 0
    · have hR := hid (numR_bad (l := l) (most := most) fun n hn he => by rw [he, atoi_dec n (by omega)] at hv; cases hv; omega)
      have d1 : decide (v < 0) = true := decide_eq_true h0
      have HC := hid hc
      clear hv hc h0 hL
      go_enter Tryd.func24, Tryd.ntmps24
      go_wp2_with (go_at_call 43; (with_reducible refine HC.out.mono ?_); rintro e' w1 ⟨rfl, hb1⟩)
      go_ret2
      exact ⟨by rw [hR.out]; rfl, hb1⟩
    · obtain ⟨n, rfl⟩ := Int.eq_ofNat_of_zero_le (show 0 ≤ v by omega)
      have d1 : decide ((n : Int) < 0) = false := decide_eq_false (by omega)
      by_cases h1 : most < n
      · have hR := hid (numR_bad (l := l) (most := most) fun m hm he => by rw [he, atoi_dec m (by omega)] at hv; cases hv; omega)
        have d2 : decide ((most : Int) < (n : Int)) = true := decide_eq_true (by omega)
        have d3 : decide (most < n) = true := decide_eq_true h1
        have HC := hid hc
        clear hv hc h0 hL h1
        go_enter Tryd.func24, Tryd.ntmps24
        go_wp2_with (go_at_call 43; (with_reducible refine HC.out.mono ?_); rintro e' w1 ⟨rfl, hb1⟩)
        go_ret2
        exact ⟨by rw [hR.out]; rfl, hb1⟩
      · have d2 : decide ((most : Int) < (n : Int)) = false := decide_eq_false (by omega)
        have d3 : decide (most < n) = false := decide_eq_false h1
        have HC := hid hc
        have HI := hid (fun W (hb : Below w.heap.size w W) => itoa_any n W (hL.on hb) (by omega))
        by_cases h2 : decL n = l
        · subst h2
          have h3 : ((txt (decL n)).toList == (txt (decL n)).toList) = true := beq_self_eq_true _
          have hR := hid (numR_good (n := n) (most := most) (by omega) hm)
          clear hv hc h0 hL h1
          go_enter Tryd.func24, Tryd.ntmps24
          go_wp2_with (first
            | (go_at_call 43; (with_reducible refine HC.out.mono ?_); rintro e' w1 ⟨rfl, hb1⟩)
            | (go_at_call 44; (with_reducible refine (HI.out _ hb1).mono ?_); rintro e' w2 ⟨rfl, hb2⟩))
          go_ret2
          exact ⟨by rw [hR.out]; rfl, hb1.trans (hb2.mono hb1.size)⟩
        · have hR := hid (numR_bad (l := l) (most := most) fun m hm he => by rw [he, atoi_dec m (by omega)] at hv; cases hv; exact h2 he.symm)
          have h3 : ((txt (decL n)).toList == (txt l).toList) = false := by rw [txt_list, txt_list]; exact beq_false_of_ne h2
          clear hv hc h0 hL h1
          go_enter Tryd.func24, Tryd.ntmps24
          go_wp2_with (first
            | (go_at_call 43; (with_reducible refine HC.out.mono ?_); rintro e' w1 ⟨rfl, hb1⟩)
            | (go_at_call 44; (with_reducible refine (HI.out _ hb1).mono ?_); rintro e' w2 ⟨rfl, hb2⟩))
          go_ret2
          exact ⟨by rw [hR.out]; rfl, hb1.trans (hb2.mono hb1.size)⟩
  · have hR := hid (numR_bad (l := l) (most := most) fun n hn he => hbad n (by omega) he)
    have HC := hid hc
    clear hc hL
    go_enter Tryd.func24, Tryd.ntmps24
    go_wp2_with (go_at_call 43; (with_reducible refine HC.out.mono ?_); rintro e' w1 ⟨⟨N, rfl⟩, hb1⟩)
    go_ret2
    exact ⟨by rw [hR.out]; rfl, hb1⟩
end Go.Proofs.YtcmkcloapenpnaaDoor
