/- slices.rotateCmpFunc at rules; the worlds that a sort passes through under one name. -/
import Derived.Test.YthoblabimkfjpaaSuB
namespace Go.Proofs.Ythoblabimkfjpaa
open Go.RowKit Go.Sort Go.Proofs
set_option maxHeartbeats 6400000
set_option maxRecDepth 1000000
section
variable {α : Type} [Inhabited α]
/-- w' is w, with the row holding d, some draws on, some new blocks behind. -/
def Srt (enc : α → List Value) (k : Nat) (w : World) (blk off : Nat) (d : Array α) (w' : World) : Prop := ∃ (q : Nat) (os : Array Obj), w' = sortWorldK enc k w blk off q d os
variable {enc : α → List Value} {k : Nat} {w : World} {blk off : Nat}
theorem Srt.start {d : Array α} (h : HoldsK enc k w blk off d) : Srt enc k w blk off d w := ⟨0, #[], by unfold sortWorldK; rw [grow_empty]; exact (putRowK_self enc k w blk off d h).symm⟩
theorem Srt.holds {d0 d : Array α} {w' : World} (h : Srt enc k w blk off d w') (hH : HoldsK enc k w blk off d0) (hblk : blk < w.heap.size) (hs : d.size = d0.size) : HoldsK enc k w' blk off d ∧ blk < w'.heap.size := by
  obtain ⟨q, os, rfl⟩ := h
  exact ⟨holdsK_sortWorldK_c enc k w blk off d0 d q os hH hblk hs, Nat.lt_of_lt_of_le hblk (size_sortWorldK_c enc k w blk off q d os)⟩
theorem Srt.on {d d1 : Array α} {w1 w2 : World} (h : Srt enc k w blk off d w1) (h2 : Srt enc k w1 blk off d1 w2) (hblk : blk < w.heap.size) (hs : d1.size = d.size) : Srt enc k w blk off d1 w2 := by
  obtain ⟨q, os, rfl⟩ := h
  obtain ⟨q2, os2, rfl⟩ := h2
  exact ⟨q + q2, os ++ os2, grow_step_growK enc k w os os2 q q2 blk off d d1 hblk hs⟩
theorem Srt.grown {d : Array α} {w1 : World} (h : Srt enc k w blk off d w1) (n : Nat) (os : Array Obj) : Srt enc k w blk off d (grow (w1.drewN n) os) := by
  obtain ⟨q, o, rfl⟩ := h
  exact ⟨q + n, o ++ os, sortWorldK_grown_c enc k w blk off q n d o os⟩
theorem Srt.drew {d : Array α} {w1 : World} (h : Srt enc k w blk off d w1) : Srt enc k w blk off d w1.drew := by
  obtain ⟨q, o, rfl⟩ := h
  exact ⟨q + 1, o, rfl⟩
theorem Srt.swp {d : Array α} {w1 : World} (E : Elt enc k) (h : Srt enc k w blk off d w1) (hblk : blk < w.heap.size) {i j : Nat} (hi : i < d.size) (hj : j < d.size) :
    Srt enc k w blk off (Go.Sort.swp d i j) ((w1.drew.setCells blk (off + i * k) (enc d[j]!)).setCells blk (off + j * k) (enc d[i]!)) := by
  obtain ⟨q, o, rfl⟩ := h
  exact ⟨q + 1, o, sortWorldK_swp_c enc k w blk off E.len q d o hblk i j hi hj⟩
theorem swapR_s (E : Elt enc k) (g : Nat) (cb : Array Value) (cap x y n : Nat) (d : Array α) (w : World) (hH : HoldsK enc k w blk off d) (hblk : blk < w.heap.size) (hxy : x + n ≤ y) (hy : y + n ≤ d.size) (hsz : d.size < 4611686018427387904) :
    Calls Try.prog 62 #[.slice (some ⟨blk, off, none⟩) d.size cap, .int .i64 x, .int .i64 y, .int .i64 n, .func (.func g) #[] cb] w fun e w' =>
      e = .returned (.tuple #[]) ∧ ∃ d' : Array α, Srt enc k w blk off d' w' ∧ d'.size = d.size ∧ (∀ t, d'[t]! = d[swrI x y n t]!) ∧ (∀ a b, a ≤ x → y + n ≤ b → b ≤ d.size → PermIn a b d d') :=
  (swapR_any E g cb blk off cap x y n d w hH hblk hxy hy hsz).mono fun _ _ ⟨h, q, os, d', h1, h2, h3⟩ => ⟨h, d', ⟨q, os, h1⟩, (h3 0 d.size (Nat.zero_le _) hy (Nat.le_refl _)).1, h2, h3⟩
theorem rotate_any (E : Elt enc k) (g : Nat) (cb : Array Value) (cap a m b : Nat) (d : Array α) (w : World) (hH : HoldsK enc k w blk off d) (hblk : blk < w.heap.size) (ham : a < m) (hmb : m < b) (hb : b ≤ d.size) (hsz : d.size < 4611686018427387904) :
    Calls Try.prog 61 #[.slice (some ⟨blk, off, none⟩) d.size cap, .int .i64 a, .int .i64 m, .int .i64 b, .func (.func g) #[] cb] w fun e w' =>
      e = .returned (.tuple #[]) ∧ ∃ d' : Array α, Srt enc k w blk off d' w' ∧ d'.size = d.size ∧ (∀ t, d'[t]! = d[rotI a m b t]!) ∧ PermIn a b d d' := by
  have HE := hid E
  have HH := hid hH
  have HS := hid (Srt.start hH)
  clear hH E
  go_enter Try.func61, Try.ntmps61
  go_wp2_with fail
  go_loopw [10, 11] (fun vi vj wr => ∃ (i j : Nat) (dk : Array α), vi = .int .i64 i ∧ vj = .int .i64 j ∧ 0 < i ∧ 0 < j ∧ i ≤ m - a ∧ j ≤ b - m ∧ dk.size = d.size ∧ Hid (Srt enc k w blk off dk wr) ∧ Hid (∀ t, dk[rotI (m - i) m (m + j) t]! = d[rotI a m b t]!) ∧ Hid (PermIn a b d dk)) (fun vi vj _ => (intOf vi).toNat + (intOf vj).toNat)
  case atStart =>
    refine ⟨m - a, b - m, d, by go_num, by go_num, by omega, by omega, Nat.le_refl _, Nat.le_refl _, rfl, HS, ?_, permIn_refl _ _ _⟩
    show Hid _
    intro t
    rw [show m - (m - a) = a by omega, show m + (b - m) = b by omega]
  case round =>
    obtain ⟨i, j, dk, rfl, rfl, hi0, hj0, him, hjm, hsk, HW, HM, HP⟩ := hrel
    obtain ⟨hHk, hbk⟩ := HW.out.holds HH.out hblk hsk
    have hsz2 : dk.size < 4611686018427387904 := by rw [hsk]; exact hsz
    by_cases hij : i = j
    · subst hij
      have t0 : (!((i : Int) == (i : Int))) = false := by simp
      have hc := swapR_s HE.out g cb cap (m - i) m i dk wr hHk hbk (by omega) (by omega) hsz2
      rw [show ((m - i : Nat) : Int) = (m : Int) - (i : Int) by omega, hsk] at hc
      have HC := hid hc
      clear hc hHk
      go_wp2_with (first | (go_at_call 62; (with_reducible refine HC.out.mono ?_); rintro e' w1 ⟨rfl, d1, hS1, hs1, hm1, hp1⟩))
      go_end0
      refine ⟨rfl, d1, HW.out.on hS1 hblk (hs1.trans hsk.symm), hs1, fun t => ?_, permIn_trans _ _ _ _ _ HP.out (hp1 a b (by omega) (by omega) (by omega))⟩
      rw [hm1, rot_same (by omega), HM.out]
    · have t0 : (!((i : Int) == (j : Int))) = true := by simp; omega
      by_cases hgt : j < i
      · have t1 : decide ((j : Int) < (i : Int)) = true := decide_eq_true (by omega)
        have hc := swapR_s HE.out g cb cap (m - i) m j dk wr hHk hbk (by omega) (by omega) hsz2
        rw [show ((m - i : Nat) : Int) = (m : Int) - (i : Int) by omega] at hc
        rw [hsk] at hc
        have HC := hid hc
        clear hc hHk
        go_wp2_with (first | (go_at_call 62; (with_reducible refine HC.out.mono ?_); rintro e' w1 ⟨rfl, d1, hS1, hs1, hm1, hp1⟩))
        go_roundw
        case measure => simp [intOf]; omega
        case rel =>
          refine ⟨i - j, j, d1, by go_num, rfl, by omega, hj0, by omega, hjm, hs1, HW.out.on hS1 hblk (hs1.trans hsk.symm), ?_, permIn_trans _ _ _ _ _ HP.out (hp1 a b (by omega) (by omega) (by omega))⟩
          show Hid _
          intro t
          rw [hm1, show m - (i - j) = m - i + j by omega, rot_big hgt (by omega), HM.out]
      · have hlt : i < j := by omega
        have t1 : decide ((j : Int) < (i : Int)) = false := decide_eq_false (by omega)
        have hc := swapR_s HE.out g cb cap (m - i) (m + j - i) i dk wr hHk hbk (by omega) (by omega) hsz2
        rw [show ((m - i : Nat) : Int) = (m : Int) - (i : Int) by omega, show ((m + j - i : Nat) : Int) = (m : Int) + (j : Int) - (i : Int) by omega] at hc
        rw [hsk] at hc
        have HC := hid hc
        clear hc hHk
        go_wp2_with (first | (go_at_call 62; (with_reducible refine HC.out.mono ?_); rintro e' w1 ⟨rfl, d1, hS1, hs1, hm1, hp1⟩))
        go_roundw
        case measure => simp [intOf]; omega
        case rel =>
          refine ⟨i, j - i, d1, rfl, by go_num, hi0, by omega, him, by omega, hs1, HW.out.on hS1 hblk (hs1.trans hsk.symm), ?_, permIn_trans _ _ _ _ _ HP.out (hp1 a b (by omega) (by omega) (by omega))⟩
          show Hid _
          intro t
          rw [hm1, rot_small hlt (by omega), HM.out]
end
end Go.Proofs.Ythoblabimkfjpaa
