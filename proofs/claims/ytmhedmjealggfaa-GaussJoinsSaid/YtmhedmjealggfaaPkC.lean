import Derived.Test.YtmhedmjealggfaaPkB
import Derived.Outline
import Derived.StillTailTactics
namespace Go.Proofs.Ytmhedmjealggfaa
open Go.RowKit
set_option maxHeartbeats 1600000
set_option maxRecDepth 100000

def Tup.val (t : Tup) : Value := .agg #[.int .u32 t.src, .int .u32 t.dst, .int .i64 t.pro, .int .i64 t.sp, .int .i64 t.dp]
theorem bad_tup {p q r : Int} (h : ¬(0 ≤ p ∧ p ≤ 255 ∧ 0 ≤ q ∧ q ≤ 65535 ∧ 0 ≤ r ∧ r ≤ 65535)) :
    decide (p < 0) = true ∨ (decide (p < 0) = false ∧ decide (255 < p) = true) ∨ (decide (p < 0) = false ∧ decide (255 < p) = false ∧ decide (q < 0) = true) ∨
    (decide (p < 0) = false ∧ decide (255 < p) = false ∧ decide (q < 0) = false ∧ decide (65535 < q) = true) ∨
    (decide (p < 0) = false ∧ decide (255 < p) = false ∧ decide (q < 0) = false ∧ decide (65535 < q) = false ∧ decide (r < 0) = true) ∨
    (decide (p < 0) = false ∧ decide (255 < p) = false ∧ decide (q < 0) = false ∧ decide (65535 < q) = false ∧ decide (r < 0) = false ∧ decide (65535 < r) = true) := by
  simp only [decide_eq_true_eq, decide_eq_false_iff_not]
  omega
theorem putTuple_no (t : Tup) (hk : t.ok = false) (w : World) :
    Calls Try.prog 14 #[.agg #[.int .u32 t.src, .int .u32 t.dst, .int .i64 t.pro, .int .i64 t.sp, .int .i64 t.dp]] w fun e w' => e = .returned (.slice none 0 0) ∧ Below w.heap.size w w' := by
  obtain ⟨a, b, p, q, r⟩ := t
  simp only [Tup.ok, decide_eq_false_iff_not] at hk
  have hb := bad_tup hk
  clear hk
  rcases hb with h1 | ⟨h1, h2⟩ | ⟨h1, h2, h3⟩ | ⟨h1, h2, h3, h4⟩ | ⟨h1, h2, h3, h4, h5⟩ | ⟨h1, h2, h3, h4, h5, h6⟩ <;>
  · go_enter Try.func14, Try.ntmps14
    go_wp2_with fail
    go_ret
    exact ⟨rfl, (Below.refl _ _).alloc (Nat.le_refl _) _⟩

/-- What a function answers that writes a flow. -/
def BytesSpec (f : FuncId) : Prop := ∀ (t : Tup), t.fits → ∀ (w : World), Calls Try.prog f #[.agg #[.int .u32 t.src, .int .u32 t.dst, .int .i64 t.pro, .int .i64 t.sp, .int .i64 t.dp]] w fun e w' =>
  ∃ A c, e = .returned (.slice A t.bytes.length c) ∧ t.bytes.length ≤ c ∧ RByt w' w'.heap.size A t.bytes.length t.bytes ∧ Below w.heap.size w w'
theorem bytes_len {t : Tup} (h : t.ok = true) : t.bytes.length = 13 := by unfold Tup.bytes; rw [if_pos h]; rfl
theorem bytes_no {t : Tup} (h : t.ok = false) : t.bytes = [] := by unfold Tup.bytes; rw [if_neg (by rw [h]; simp)]
theorem putTuple_all : BytesSpec 14 := by
  intro t hf w
  cases h : t.ok with
  | true =>
    refine (putTuple_yes t hf h w).mono fun e w' ⟨v, h1, h2, h3⟩ => ?_
    rw [← bytes_len h] at h2
    obtain ⟨A, c, rfl, hc, hr⟩ := own_byt_cap h2
    exact ⟨A, c, h1, hc, hr, h3⟩
  | false =>
    refine (putTuple_no t h w).mono fun e w' ⟨h1, h2⟩ => ?_
    rw [bytes_no h]
    exact ⟨none, 0, h1, Nat.le_refl _, rbyt_nil _ _ _, h2⟩

/-- What bytes are read as. -/
def be4 (a b c d : UInt8) : Int := (a.toNat : Int) * 16777216 + (b.toNat : Int) * 65536 + (c.toNat : Int) * 256 + (d.toNat : Int)
def be2 (a b : UInt8) : Int := (a.toNat : Int) * 256 + (b.toNat : Int)
def tupOf (bs : List UInt8) : Tup := ⟨be4 (bs.getD 0 0) (bs.getD 1 0) (bs.getD 2 0) (bs.getD 3 0), be4 (bs.getD 4 0) (bs.getD 5 0) (bs.getD 6 0) (bs.getD 7 0), ((bs.getD 8 0).toNat : Int), be2 (bs.getD 9 0) (bs.getD 10 0), be2 (bs.getD 11 0) (bs.getD 12 0)⟩
def readT (bs : List UInt8) : Tup := if bs.length = 13 then tupOf bs else ⟨0, 0, 0, 0, 0⟩
def readE (bs : List UInt8) : Int := if bs.length = 13 then 0 else 2
def ReadSpec (f : FuncId) : Prop := ∀ (A : Option Addr) (n c : Nat) (bs : List UInt8) (w : World), n ≤ c → RByt w w.heap.size A n bs → Calls Try.prog f #[.slice A n c] w fun e w' =>
  e = .returned (.tuple #[.agg #[.int .u32 (readT bs).src, .int .u32 (readT bs).dst, .int .i64 (readT bs).pro, .int .i64 (readT bs).sp, .int .i64 (readT bs).dp], .int .i64 (readE bs)]) ∧ Below w.heap.size w w'
/-- The same, whatever the capacity. -/
def ReadSpec0 (f : FuncId) : Prop := ∀ (A : Option Addr) (n c : Nat) (bs : List UInt8) (w : World), RByt w w.heap.size A n bs → Calls Try.prog f #[.slice A n c] w fun e w' =>
  e = .returned (.tuple #[.agg #[.int .u32 (readT bs).src, .int .u32 (readT bs).dst, .int .i64 (readT bs).pro, .int .i64 (readT bs).sp, .int .i64 (readT bs).dp], .int .i64 (readE bs)]) ∧ Below w.heap.size w w'

theorem getTuple_no (A : Option Addr) (n c : Nat) (w : World) (h : n ≠ 13) : Calls Try.prog 13 #[.slice A n c] w fun e w' =>
    e = .returned (.tuple #[.agg #[.int .u32 0, .int .u32 0, .int .i64 0, .int .i64 0, .int .i64 0], .int .i64 2]) ∧ Below w.heap.size w w' := by
  have t1 : ((n : Int) == 13) = false := by simp; omega
  have t2 : ((n : Int) != 13) = true := by simp; omega
  go_enter Try.func13, Try.ntmps13
  go_wp2_with fail
  refine bodyPost_ret (v := .tuple #[.agg #[.int .u32 0, .int .u32 0, .int .i64 0, .int .i64 0, .int .i64 0], .int .i64 2]) (by simp [results, Try.results13, go_sem]) rfl ⟨rfl, (Below.refl _ _).alloc (Nat.le_refl _) _⟩
theorem shl8_or (x y : Int) (hx : 0 ≤ x) (hx' : x < 16777216) (hy : 0 ≤ y) (hy' : y < 256) : bits .or .u32 (x * 256) y = x * 256 + y := u32_join 8 _ _ (by omega) (by omega) (by omega) (by omega) (by omega) (by omega)
theorem shl8_ori (x y : Int) (hx : 0 ≤ x) (hx' : x < 256) (hy : 0 ≤ y) (hy' : y < 256) : bits .or .i64 (x * 256) y = x * 256 + y := i64_join 8 _ _ (by omega) (by omega) (by omega) (by omega) (by omega) (by omega)

theorem or_steps (a b c d : UInt8) : bits .or .u32 0 (a.toNat : Int) = a.toNat ∧ bits .or .u32 ((a.toNat : Int) * 256) (b.toNat : Int) = (a.toNat : Int) * 256 + b.toNat ∧
    bits .or .u32 (((a.toNat : Int) * 256 + b.toNat) * 256) (c.toNat : Int) = ((a.toNat : Int) * 256 + b.toNat) * 256 + c.toNat ∧
    bits .or .u32 ((((a.toNat : Int) * 256 + b.toNat) * 256 + c.toNat) * 256) (d.toNat : Int) = be4 a b c d := by
  have := UInt8.toNat_lt a; have := UInt8.toNat_lt b; have := UInt8.toNat_lt c; have := UInt8.toNat_lt d
  refine ⟨?_, ?_, ?_, ?_⟩
  · have := shl8_or 0 a.toNat (by omega) (by omega) (by omega) (by omega); simpa using this
  · exact shl8_or _ _ (by omega) (by omega) (by omega) (by omega)
  · exact shl8_or _ _ (by omega) (by omega) (by omega) (by omega)
  · rw [shl8_or _ _ (by omega) (by omega) (by omega) (by omega)]; unfold be4; omega
theorem or_two (a b : UInt8) : bits .or .i64 ((a.toNat : Int) * 256) (b.toNat : Int) = be2 a b := by
  have := UInt8.toNat_lt a; have := UInt8.toNat_lt b
  rw [shl8_ori _ _ (by omega) (by omega) (by omega) (by omega)]; rfl

theorem getTuple_yes (b off c : Nat) (x0 x1 x2 x3 x4 x5 x6 x7 x8 x9 x10 x11 x12 : UInt8) (w : World)
    (c0 : w.cell? ⟨b, off, none⟩ = some (.int .u8 (x0.toNat : Int))) (c1 : w.cell? ⟨b, off + 1, none⟩ = some (.int .u8 (x1.toNat : Int))) (c2 : w.cell? ⟨b, off + 2, none⟩ = some (.int .u8 (x2.toNat : Int))) (c3 : w.cell? ⟨b, off + 3, none⟩ = some (.int .u8 (x3.toNat : Int)))
    (c4 : w.cell? ⟨b, off + 4, none⟩ = some (.int .u8 (x4.toNat : Int))) (c5 : w.cell? ⟨b, off + 5, none⟩ = some (.int .u8 (x5.toNat : Int))) (c6 : w.cell? ⟨b, off + 6, none⟩ = some (.int .u8 (x6.toNat : Int))) (c7 : w.cell? ⟨b, off + 7, none⟩ = some (.int .u8 (x7.toNat : Int)))
    (c8 : w.cell? ⟨b, off + 8, none⟩ = some (.int .u8 (x8.toNat : Int))) (c9 : w.cell? ⟨b, off + 9, none⟩ = some (.int .u8 (x9.toNat : Int))) (c10 : w.cell? ⟨b, off + 10, none⟩ = some (.int .u8 (x10.toNat : Int))) (c11 : w.cell? ⟨b, off + 11, none⟩ = some (.int .u8 (x11.toNat : Int)))
    (c12 : w.cell? ⟨b, off + 12, none⟩ = some (.int .u8 (x12.toNat : Int))) (hb : b < w.heap.size) :
    Calls Try.prog 13 #[.slice (some ⟨b, off, none⟩) 13 c] w fun e w' => e = .returned (.tuple #[.agg #[.int .u32 (be4 x0 x1 x2 x3), .int .u32 (be4 x4 x5 x6 x7), .int .i64 (x8.toNat : Int), .int .i64 (be2 x9 x10), .int .i64 (be2 x11 x12)], .int .i64 0]) ∧ Below w.heap.size w w' := by
  have y0 : x0.toNat < 256 := UInt8.toNat_lt x0
  have y1 : x1.toNat < 256 := UInt8.toNat_lt x1
  have y2 : x2.toNat < 256 := UInt8.toNat_lt x2
  have y3 : x3.toNat < 256 := UInt8.toNat_lt x3
  have y4 : x4.toNat < 256 := UInt8.toNat_lt x4
  have y5 : x5.toNat < 256 := UInt8.toNat_lt x5
  have y6 : x6.toNat < 256 := UInt8.toNat_lt x6
  have y7 : x7.toNat < 256 := UInt8.toNat_lt x7
  have y8 : x8.toNat < 256 := UInt8.toNat_lt x8
  have y9 : x9.toNat < 256 := UInt8.toNat_lt x9
  have y10 : x10.toNat < 256 := UInt8.toNat_lt x10
  have y11 : x11.toNat < 256 := UInt8.toNat_lt x11
  have y12 : x12.toNat < 256 := UInt8.toNat_lt x12
  have hb8 : ∀ x : UInt8, x.toNat < 256 := fun x => UInt8.toNat_lt x
  obtain ⟨z0, z1, z2, z3⟩ := or_steps x0 x1 x2 x3
  obtain ⟨v0, v1, v2, v3⟩ := or_steps x4 x5 x6 x7
  have q1 := or_two x9 x10
  have q2 := or_two x11 x12
  clear hb8
  obtain ⟨w2, hW⟩ : ∃ w2, w2 = w.alloc (.cells #[.int .u32 0, .int .u32 0, .int .i64 0, .int .i64 0, .int .i64 0] 24) := ⟨_, rfl⟩
  have HW := hid hW
  clear hW
  have hk : ∀ j, w2.cell? ⟨b, j, none⟩ = w.cell? ⟨b, j, none⟩ := fun j => by rw [HW.out]; exact World.cell?_alloc_lt w _ _ hb
  have a0 := (hk (off)).trans c0
  have a1 := (hk (off + 1)).trans c1
  have a2 := (hk (off + 2)).trans c2
  have a3 := (hk (off + 3)).trans c3
  have a4 := (hk (off + 4)).trans c4
  have a5 := (hk (off + 5)).trans c5
  have a6 := (hk (off + 6)).trans c6
  have a7 := (hk (off + 7)).trans c7
  have a8 := (hk (off + 8)).trans c8
  have a9 := (hk (off + 9)).trans c9
  have a10 := (hk (off + 10)).trans c10
  have a11 := (hk (off + 11)).trans c11
  have a12 := (hk (off + 12)).trans c12
  have f0 : ∀ j, w2.frozen? ⟨w.heap.size, j, none⟩ = false := fun j => by rw [HW.out]; simp [go_sem]
  have s0 : w2.cell? ⟨w.heap.size, 0, none⟩ = some (.int .u32 0) := by rw [HW.out]; simp [go_sem]
  have s1 : w2.cell? ⟨w.heap.size, 1, none⟩ = some (.int .u32 0) := by rw [HW.out]; simp [go_sem]
  have s2 : w2.cell? ⟨w.heap.size, 2, none⟩ = some (.int .i64 0) := by rw [HW.out]; simp [go_sem]
  have s3 : w2.cell? ⟨w.heap.size, 3, none⟩ = some (.int .i64 0) := by rw [HW.out]; simp [go_sem]
  have s4 : w2.cell? ⟨w.heap.size, 4, none⟩ = some (.int .i64 0) := by rw [HW.out]; simp [go_sem]
  clear hk c0 c1 c2 c3 c4 c5 c6 c7 c8 c9 c10 c11 c12
  go_enter Try.func13, Try.ntmps13
  go_wp2_with fail
  rw [← HW.out]
  refine wp_loop_rounds 5 ?_
  rw [rounds_succ]
  go_wp2_with fail
  rw [rounds_succ]
  go_wp2_with fail
  rw [rounds_succ]
  go_wp2_with fail
  rw [rounds_succ]
  go_wp2_with fail
  rw [rounds_succ]
  go_wp2_with fail
  clear z0 z1 z2 z3 v0 v1 v2 v3 a0 a1 a2 a3 a4 a5 a6 a7
  go_still_tail 27, (by kernel_rfl)
  change wpList _ _ _ _ _ w2.drew
  go_wp2_with fail
  refine bodyPost_ret (v := .tuple #[.agg #[.int .u32 (be4 x0 x1 x2 x3), .int .u32 (be4 x4 x5 x6 x7), .int .i64 (x8.toNat : Int), .int .i64 (be2 x9 x10), .int .i64 (be2 x11 x12)], .int .i64 0]) (by simp [results, Try.results13, go_sem, s0, s1, s2, s3, s4, q1, q2]) rfl ⟨rfl, ?_⟩
  have hb2 : Below w.heap.size w w2 := by
    rw [HW.out]
    exact (Below.refl _ _).alloc (Nat.le_refl _) _
  exact (((((hb2.setCell (p := ⟨w.heap.size, 0, none⟩) (Nat.le_refl _) _).setCell (p := ⟨w.heap.size, 1, none⟩) (Nat.le_refl _) _).setCell (p := ⟨w.heap.size, 2, none⟩) (Nat.le_refl _) _).setCell (p := ⟨w.heap.size, 3, none⟩) (Nat.le_refl _) _).setCell (p := ⟨w.heap.size, 4, none⟩) (Nat.le_refl _) _).drew
end Go.Proofs.Ytmhedmjealggfaa
