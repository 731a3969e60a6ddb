import Derived.Test.YtmhedmjealggfaaPkE
import Derived.Outline
namespace Go.Proofs.Ytmhedmjealggfaa
open Go.RowKit
set_option maxHeartbeats 1600000
set_option maxRecDepth 100000

theorem ones_out (hB : BytesSpec 11) (hR : ReadSpec 12) (a b p q r : Int) (h : ¬(0 ≤ p ∧ p ≤ 255 ∧ 0 ≤ q ∧ q ≤ 65535 ∧ 0 ≤ r ∧ r ≤ 65535)) (w : World) :
    Calls Try.prog 5 #[.int .u32 a, .int .u32 b, .int .i64 p, .int .i64 q, .int .i64 r] w fun e w' => e = .returned (.bool true) ∧ Below w.heap.size w w' := by
  have HA := hid (fun w => alive2 hB hR w)
  clear hB hR
  have hb := bad_tup h
  clear h
  rcases hb with h1 | ⟨h1, h2⟩ | ⟨h1, h2, h3⟩ | ⟨h1, h2, h3, h4⟩ | ⟨h1, h2, h3, h4, h5⟩ | ⟨h1, h2, h3, h4, h5, h6⟩ <;>
  · go_enter Try.func5, Try.ntmps5
    go_wp2_with (go_at_call 10; (with_reducible refine (HA.out _).mono ?_); rintro e' w1 ⟨rfl, hb1⟩)
    go_ret
    exact ⟨rfl, hb1⟩

def w4 (a b c d : Int) : Int := a * 16777216 + b * 65536 + c * 256 + d
theorem ones_cells {w : World} {B : Nat} {A : Option Addr} {s0 s1 s2 s3 d0 d1 d2 d3 p q0 q1 r0 r1 : Int}
    (hs : (0 ≤ s0 ∧ s0 < 256 ∧ 0 ≤ s1 ∧ s1 < 256 ∧ 0 ≤ s2 ∧ s2 < 256 ∧ 0 ≤ s3 ∧ s3 < 256) ∧ (0 ≤ d0 ∧ d0 < 256 ∧ 0 ≤ d1 ∧ d1 < 256 ∧ 0 ≤ d2 ∧ d2 < 256 ∧ 0 ≤ d3 ∧ d3 < 256) ∧ (0 ≤ p ∧ p < 256 ∧ 0 ≤ q0 ∧ q0 < 256 ∧ 0 ≤ q1 ∧ q1 < 256 ∧ 0 ≤ r0 ∧ r0 < 256 ∧ 0 ≤ r1 ∧ r1 < 256))
    (h : RByt w B A 13 (Tup.mk (w4 s0 s1 s2 s3) (w4 d0 d1 d2 d3) p (q0 * 256 + q1) (r0 * 256 + r1)).bytes) :
    ∃ b off, A = some ⟨b, off, none⟩ ∧ b < B ∧ ∀ (i : Nat) (x : Int), [s0, s1, s2, s3, d0, d1, d2, d3, p, q0, q1, r0, r1][i]? = some x → w.cell? ⟨b, off + i, none⟩ = some (.int .u8 x) := by
  obtain ⟨b, off, h1, h2, h3⟩ := h.2 (by omega)
  refine ⟨b, off, h1, h2, fun i x hx => ?_⟩
  obtain ⟨⟨a1, a2, a3, a4, a5, a6, a7, a8⟩, ⟨b1, b2, b3, b4, b5, b6, b7, b8⟩, ⟨e1, e2, e3, e4, e5, e6, e7, e8, e9, e10⟩⟩ := hs
  have hk : (Tup.mk (w4 s0 s1 s2 s3) (w4 d0 d1 d2 d3) p (q0 * 256 + q1) (r0 * 256 + r1)).ok = true := by simp only [Tup.ok, decide_eq_true_eq]; omega
  have hb : (Tup.mk (w4 s0 s1 s2 s3) (w4 d0 d1 d2 d3) p (q0 * 256 + q1) (r0 * 256 + r1)).bytes = [s0, s1, s2, s3, d0, d1, d2, d3, p, q0, q1, r0, r1].map byt := by
    unfold Tup.bytes
    rw [if_pos hk]
    have g : ∀ x y : Int, x % 256 = y % 256 → byt x = byt y := fun x y hxy => by unfold byt; rw [hxy]
    simp only [be4s, List.cons_append, List.nil_append, List.map_cons, List.map_nil, List.cons.injEq, and_true, w4]
    refine ⟨g _ _ ?_, g _ _ ?_, g _ _ ?_, g _ _ ?_, g _ _ ?_, g _ _ ?_, g _ _ ?_, g _ _ ?_, trivial, g _ _ ?_, g _ _ ?_, g _ _ ?_, g _ _ ?_⟩ <;> omega
  have hy := h3 i (byt x) (by rw [hb, List.getElem?_map, hx]; rfl)
  rw [hy, byt_val]
  have hr : ∀ y ∈ [s0, s1, s2, s3, d0, d1, d2, d3, p, q0, q1, r0, r1], 0 ≤ y ∧ y < 256 := by
    simp only [List.mem_cons, List.not_mem_nil, or_false]
    intro y hy
    rcases hy with rfl | rfl | rfl | rfl | rfl | rfl | rfl | rfl | rfl | rfl | rfl | rfl | rfl <;> omega
  have := hr x (List.mem_of_getElem? hx)
  rw [show x % 256 = x by omega]
theorem w4_word (a b c d : Int) (ha : 0 ≤ a) (ha' : a < 256) (hb : 0 ≤ b) (hb' : b < 256) (hc : 0 ≤ c) (hc' : c < 256) (hd : 0 ≤ d) (hd' : d < 256) :
    bits .or .u32 (bits .or .u32 (bits .or .u32 (a * 16777216) (b * 65536)) (c * 256)) d = w4 a b c d := word32 a b c d ha ha' hb hb' hc hc' hd hd'
theorem w4_range {a b c d : Int} (ha : 0 ≤ a) (ha' : a < 256) (hb : 0 ≤ b) (hb' : b < 256) (hc : 0 ≤ c) (hc' : c < 256) (hd : 0 ≤ d) (hd' : d < 256) : 0 ≤ w4 a b c d ∧ w4 a b c d < 4294967296 := by unfold w4; omega

theorem below_drewN {B : Nat} {a w : World} (h : Below B a w) (n : Nat) : Below B a (w.drewN n) := ⟨h.os, h.tape, h.output, h.size, h.block⟩

theorem ones_in (hB : BytesSpec 11) (hR : ReadSpec 12) (s0 s1 s2 s3 d0 d1 d2 d3 p q0 q1 r0 r1 : Int)
    (hs : (0 ≤ s0 ∧ s0 < 256 ∧ 0 ≤ s1 ∧ s1 < 256 ∧ 0 ≤ s2 ∧ s2 < 256 ∧ 0 ≤ s3 ∧ s3 < 256) ∧ (0 ≤ d0 ∧ d0 < 256 ∧ 0 ≤ d1 ∧ d1 < 256 ∧ 0 ≤ d2 ∧ d2 < 256 ∧ 0 ≤ d3 ∧ d3 < 256) ∧ (0 ≤ p ∧ p < 256 ∧ 0 ≤ q0 ∧ q0 < 256 ∧ 0 ≤ q1 ∧ q1 < 256 ∧ 0 ≤ r0 ∧ r0 < 256 ∧ 0 ≤ r1 ∧ r1 < 256)) (w : World) :
    Calls Try.prog 5 #[.int .u32 (w4 s0 s1 s2 s3), .int .u32 (w4 d0 d1 d2 d3), .int .i64 p, .int .i64 (q0 * 256 + q1), .int .i64 (r0 * 256 + r1)] w fun e w' => e = .returned (.bool true) ∧ Below w.heap.size w w' := by
  have HA := hid (fun w => alive2 hB hR w)
  have HS := hid hs
  obtain ⟨⟨a1, a2, a3, a4, a5, a6, a7, a8⟩, ⟨b1, b2, b3, b4, b5, b6, b7, b8⟩, ⟨e1, e2, e3, e4, e5, e6, e7, e8, e9, e10⟩⟩ := hs
  have HB := hid (fun w => bytes_ok hB ⟨w4 s0 s1 s2 s3, w4 d0 d1 d2 d3, p, q0 * 256 + q1, r0 * 256 + r1⟩ ⟨(w4_range a1 a2 a3 a4 a5 a6 a7 a8).1, (w4_range a1 a2 a3 a4 a5 a6 a7 a8).2, (w4_range b1 b2 b3 b4 b5 b6 b7 b8).1, (w4_range b1 b2 b3 b4 b5 b6 b7 b8).2⟩ (by simp only [Tup.ok, decide_eq_true_eq]; omega) w)
  clear hB hR
  have t1 : decide (p < 0) = false := by simp; omega
  have t2 : decide (255 < p) = false := by simp; omega
  have t3 : decide (q0 * 256 + q1 < 0) = false := by simp; omega
  have t4 : decide (65535 < q0 * 256 + q1) = false := by simp; omega
  have t5 : decide (r0 * 256 + r1 < 0) = false := by simp; omega
  have t6 : decide (65535 < r0 * 256 + r1) = false := by simp; omega
  have zs := w4_word s0 s1 s2 s3 a1 a2 a3 a4 a5 a6 a7 a8
  have zd := w4_word d0 d1 d2 d3 b1 b2 b3 b4 b5 b6 b7 b8
  have Zs := hid zs; have Zd := hid zd
  clear zs zd
  go_enter Try.func5, Try.ntmps5
  go_wp2_with (go_at_call 10; (with_reducible refine (HA.out _).mono ?_); rintro e' w1 ⟨rfl, hb1⟩)
  refine (HB.out _).mono ?_
  rintro e' w2 ⟨A, c, rfl, _, hr, hb2⟩
  obtain ⟨b, off, rfl, hb, hc⟩ := ones_cells HS.out hr
  have c0 := hc 0 _ rfl
  have c1 := hc 1 _ rfl
  have c2 := hc 2 _ rfl
  have c3 := hc 3 _ rfl
  have c4 := hc 4 _ rfl
  have c5 := hc 5 _ rfl
  have c6 := hc 6 _ rfl
  have c7 := hc 7 _ rfl
  have c8 := hc 8 _ rfl
  have c9 := hc 9 _ rfl
  have c10 := hc 10 _ rfl
  have c11 := hc 11 _ rfl
  have c12 := hc 12 _ rfl
  simp only [Nat.add_zero] at c0
  clear hr hc
  have zs := Zs.out
  have zd := Zd.out
  go_wp2_with fail
  go_big_quiet (fail)
  go_wp2_with fail
  go_big_quiet (fail)
  go_wp2_with fail
  go_big_quiet (fail)
  go_wp2_with fail
  go_ret
  have hb := hb1.trans (hb2.mono hb1.size)
  exact ⟨rfl, below_drewN (below_drewN (below_drewN hb _) _) _⟩
theorem ones_any (hB : BytesSpec 11) (hR : ReadSpec 12) (a b p q r : Int) (ha : 0 ≤ a ∧ a < 4294967296) (hb : 0 ≤ b ∧ b < 4294967296) (w : World) :
    Calls Try.prog 5 #[.int .u32 a, .int .u32 b, .int .i64 p, .int .i64 q, .int .i64 r] w fun e w' => e = .returned (.bool true) ∧ Below w.heap.size w w' := by
  by_cases h : 0 ≤ p ∧ p ≤ 255 ∧ 0 ≤ q ∧ q ≤ 65535 ∧ 0 ≤ r ∧ r ≤ 65535
  · have := ones_in hB hR (a / 16777216) (a / 65536 % 256) (a / 256 % 256) (a % 256) (b / 16777216) (b / 65536 % 256) (b / 256 % 256) (b % 256) p (q / 256) (q % 256) (r / 256) (r % 256) (by omega) w
    rwa [show w4 (a / 16777216) (a / 65536 % 256) (a / 256 % 256) (a % 256) = a by unfold w4; omega, show w4 (b / 16777216) (b / 65536 % 256) (b / 256 % 256) (b % 256) = b by unfold w4; omega,
      show q / 256 * 256 + q % 256 = q by omega, show r / 256 * 256 + r % 256 = r by omega] at this
  · exact ones_out hB hR a b p q r h w
end Go.Proofs.Ytmhedmjealggfaa
