/- TlvLong. -/
import Derived.Test.YtddddfcalknmlaaTlW
namespace Go.Proofs.Ytddddfcalknmlaa
open Go.RowKit
set_option maxHeartbeats 6400000
set_option maxRecDepth 100000
def two (zs : List UInt8) : List Itm := [⟨9, zs⟩, ⟨3, []⟩]
theorem two_types (zs : List UInt8) : typesOk (two zs) = true := by simp [two, typesOk]
theorem two_lens {zs : List UInt8} {n : Nat} (h : zs.length = n) : lensOk (two zs) = decide (n ≤ 65535) := by simp [two, lensOk, h]
theorem two_len {zs : List UInt8} {n : Nat} (h : zs.length = n) : (putI (two zs)).length = n + 6 := by simp [two, putI, Itm.bytes, h]
theorem two_torn {zs : List UInt8} {n : Nat} (h : zs.length = n) (hn : n ≤ 65535) : getI ((putI (two zs)).take (n + 5)) = none := by
  have hl := two_lens h
  rw [decide_eq_true hn] at hl
  rcases getI_torn (two_types zs) hl (n + 5) (by rw [two_len h]; omega) with ⟨i, hi, hk, _⟩ | ⟨_, h2⟩
  · match i, hi with
    | 0, _ => simp [putI] at hk
    | 1, _ => simp [two, putI, Itm.bytes, h] at hk
    | 2, _ => rw [show (two zs).take 2 = two zs from rfl, two_len h] at hk; omega
    | i + 3, hi => simp [two] at hi
  · exact h2
theorem made_zero (n : Nat) : (madeCells (Value.int .u8 0).cells (n * 1)).toList = bcells (List.replicate n 0) := by
  rw [Nat.mul_one, show (Value.int .u8 0).cells = #[Value.int .u8 0] from rfl, toList_madeCells_one]
  simp [bcells]
theorem put_two {w2 : World} {g n : Nat} {zs : List UInt8} (hz : zs.length = n) (hr : RByt w2 w2.heap.size (some ⟨g, 0, none⟩) n zs) :
    RItm (w2.alloc (.cells #[.int .i64 9, .slice (some ⟨g, 0, none⟩) n n, .int .i64 3, .slice none 0 0] 26)) (w2.alloc (.cells #[.int .i64 9, .slice (some ⟨g, 0, none⟩) n n, .int .i64 3, .slice none 0 0] 26)).heap.size (some ⟨w2.heap.size, 0, none⟩) 2 (two zs) := by
  subst hz
  exact new_itms (l := two zs) (((OIt.nil w2).cons (e := ⟨3, []⟩) (D := none) (c := 0) (rbyt_nil _ _ _) (fun _ => ⟨rfl, rfl⟩)).cons (e := ⟨9, zs⟩) hr (fun h => by cases h)) rfl
theorem putI_no6 {f : FuncId} {l : List Itm} {v : Value} {w : World} (ht : typesOk l = true) (hl : lensOk l = false) (hc : Calls Try.prog f #[v] w (PutIAns l w)) :
    Calls Try.prog f #[v] w fun e w' => e = .returned (.tuple #[.slice none 0 0, .int .i64 6]) ∧ Below w.heap.size w w' := by
  refine hc.mono fun e w' ha => ?_
  rcases ha with ⟨_, h2, _⟩ | ⟨_, _, he, hb⟩ | ⟨h1, _⟩
  · rw [hl] at h2; cases h2
  · exact ⟨he, hb⟩
  · rw [ht] at h1; cases h1
theorem putI_yes {f : FuncId} {l : List Itm} {v : Value} {w : World} {m : Nat} (ht : typesOk l = true) (hl : lensOk l = true) (hm : (putI l).length = m) (hc : Calls Try.prog f #[v] w (PutIAns l w)) :
    Calls Try.prog f #[v] w fun e w' => ∃ A c, e = .returned (.tuple #[.slice A m c, .int .i64 0]) ∧ RByt w' w'.heap.size A m (putI l) ∧ m ≤ c ∧ Below w.heap.size w w' := by
  have h := putI_out hc
  have h3 : outP l = putI l := if_pos ⟨ht, hl⟩
  have h4 : chk l = 0 := by unfold chk; rw [ht, hl]; rfl
  rw [h3, hm, h4] at h
  exact h
theorem get_two {f : FuncId} {bs zs : List UInt8} {v : Value} {w : World} (h : getI bs = some (two zs)) (hc : Calls Try.prog f #[v] w (GetIAns bs w)) :
    Calls Try.prog f #[v] w fun e w' => ∃ A c, e = .returned (.tuple #[.slice A 2 c, .int .i64 0]) ∧ RItm w' w'.heap.size A 2 (two zs) ∧ Below w.heap.size w w' := getI_yes h hc
theorem long_out (n : Int) (w : World) (h : n < 0 ∨ 70000 < n) : Calls Try.prog 4 #[.int .i64 n] w fun e w' => e = .returned (.bool true) ∧ Below w.heap.size w w' := by
  rcases (show decide (n < 0) = true ∨ (decide (n < 0) = false ∧ decide (70000 < n) = true) by simp only [decide_eq_true_eq, decide_eq_false_iff_not]; omega) with h1 | ⟨h1, h2⟩ <;>
  · clear h
    go_enter Try.func4, Try.ntmps4
    go_wp2_with (go_at_call 7; (with_reducible refine (alive_any _).mono ?_); rintro e' w1 ⟨rfl, hb1⟩)
    go_ret
    exact ⟨rfl, hb1⟩
theorem long_in (n : Nat) (w : World) (h : n ≤ 70000) : Calls Try.prog 4 #[.int .i64 n] w fun e w' => e = .returned (.bool true) ∧ Below w.heap.size w w' := by
  have t1 : decide ((n : Int) < 0) = false := by simp
  have t2 : decide ((70000 : Int) < (n : Int)) = false := by simp; omega
  obtain ⟨i5, hi, hz0, hz1, hz2⟩ := info_parts Try.info5
  have Ai := hid hi; have Az0 := hid hz0; have Az1 := hid hz1; have Az2 := hid hz2
  clear hi hz0 hz1 hz2
  obtain ⟨zs, hzs⟩ : ∃ zs : List UInt8, List.replicate n 0 = zs := ⟨_, rfl⟩
  have Hz := hid hzs
  have hzl : zs.length = n := by rw [← hzs]; simp
  have Hzl := hid hzl
  clear hzs hzl
  go_enter Try.func4, Try.ntmps4
  go_wp2_with (first
    | (go_at_call 7; (with_reducible refine (alive_any _).mono ?_); rintro e' w1 ⟨rfl, hb1⟩)
    | (at_make; refine wpList_make_full _ rfl (.tmp 23) (.tmp 23) 23 rfl w1.heap.size 5 i5 (.int .u8 0) 1 Try.underlying23 Ai.out Az0.out Az1.out _ _ _ _ n rfl rfl rfl rfl (by rw [Az2.out]; omega) (by unfold maxLen; omega) (Nat.le_refl _) ?_; intro w2 hown2 hg2; have hb2 : Below w1.heap.size w1 w2 := grown_below hg2; (rw [made_zero, Hz.out] at hown2); have HO := hid hown2; clear hown2 hg2))
  have hr2 := put_two Hzl.out (own_slice HO.out).1
  have hs2 : (w2.alloc (.cells #[.int .i64 9, .slice (some ⟨w1.heap.size, 0, none⟩) n n, .int .i64 3, .slice none 0 0] 26)).heap.size = w2.heap.size + 1 := by simp
  have ba : Below w2.heap.size w2 (w2.alloc (.cells #[.int .i64 9, .slice (some ⟨w1.heap.size, 0, none⟩) n n, .int .i64 3, .slice none 0 0] 26)) := (Below.refl _ _).alloc (Nat.le_refl _) _
  have HP := hid (put_any _ 2 2 _ _ hr2 (by omega))
  have HBa := hid (bt (bt hb1 hb2) ba)
  clear hr2 hs2 ba
  by_cases hn : n ≤ 65535
  · have t3 : decide ((65535 : Int) < (n : Int)) = false := by simp; omega
    have hlens := two_lens Hzl.out
    rw [decide_eq_true hn] at hlens
    have HQ := hid (putI_yes (two_types zs) hlens (two_len Hzl.out) HP.out)
    have Hlens := hid hlens
    clear HP hlens
    refine HQ.out.mono ?_
    rintro e' w3 ⟨A3, c3, rfl, hr3, hc3, hb3⟩
    have HR3 := hid hr3
    have b3 := bt HBa.out hb3
    have HG := hid (get_two (getI_put (two_types zs) Hlens.out) (get_any A3 (n + 6) c3 _ w3 hr3 hc3 (by omega)))
    clear hr3 HQ
    have hi0 : 0 ≤ (n : Int) + 6 - 1 := by omega
    have hi1 : (n : Int) + 6 - 1 ≤ (c3 : Int) := by omega
    go_wp2_with (go_at_call 10; (with_reducible refine HG.out.mono ?_); rintro e' w4 ⟨A4, c4, rfl, hr4, hb4⟩; have HR4 := hid hr4; clear hr4)
    have b4 := bt b3 hb4
    have HG2 := hid (getI_no (two_torn Hzl.out hn) (get_any A3 (n + 5) c3 _ w4 ((HR3.out.on hb4).take (by omega)) (by omega) (by omega)))
    refine HG2.out.mono ?_
    rintro e' w5 ⟨rfl, hb5⟩
    have b5 := bt b4 hb5
    obtain ⟨b, off, rfl, _, hc⟩ := (HR4.out.on hb5).2 (by omega)
    obtain ⟨_, D, dc, m1, _⟩ := hc 0 ⟨9, zs⟩ rfl
    rw [show (⟨9, zs⟩ : Itm).data.length = n from Hzl.out, show off + 0 * 2 + 1 = off + 1 by omega] at m1
    clear hi0 hi1 hc HG HG2
    go_wp2_with (go_at_call 14; (with_reducible refine (num_any _ _).mono ?_); rintro e' w8 ⟨rfl, rfl⟩)
    go_ret
    exact ⟨rfl, b5⟩
  · have t3 : decide ((65535 : Int) < (n : Int)) = true := by simp; omega
    have hlens := two_lens Hzl.out
    rw [decide_eq_false hn] at hlens
    have HQ := hid (putI_no6 (two_types zs) hlens HP.out)
    clear HP hlens
    refine HQ.out.mono ?_
    rintro e' w3 ⟨rfl, hb3⟩
    go_wp2_with (go_at_call 14; (with_reducible refine (num_any _ _).mono ?_); rintro e' w8 ⟨rfl, rfl⟩)
    go_ret
    exact ⟨rfl, bt HBa.out hb3⟩
theorem long_any (n : Int) (w : World) : Calls Try.prog 4 #[.int .i64 n] w fun e w' => e = .returned (.bool true) ∧ Below w.heap.size w w' := by
  by_cases h : n < 0 ∨ 70000 < n
  · exact long_out n w h
  · obtain ⟨m, rfl⟩ := Int.eq_ofNat_of_zero_le (show 0 ≤ n by omega)
    exact long_in m w (by omega)
end Go.Proofs.Ytddddfcalknmlaa
