import Derived.Test.YtmhedmjealggfaaPkD
import Derived.Test.YtmhedmjealggfaaGaFl
import Derived.Outline
namespace Go.Proofs.Ytmhedmjealggfaa
open Go.RowKit
set_option maxHeartbeats 1600000
set_option maxRecDepth 100000

/-- One byte folded on. -/
def foldStep (z : Int × Int) (c : UInt8) : Int × Int := ((3 * z.1 + 2 * (65521 - z.2) + (c.toNat : Int)) % 65521, (2 * z.1 + 3 * z.2 + 1) % 65521)
def foldZ (bs : List UInt8) : Int × Int := bs.foldl foldStep (1, 0)
theorem foldZ_snoc (bs : List UInt8) (c : UInt8) : foldZ (bs ++ [c]) = foldStep (foldZ bs) c := by simp [foldZ]
theorem foldStep_range (z : Int × Int) (c : UInt8) : 0 ≤ (foldStep z c).1 ∧ (foldStep z c).1 < 65521 ∧ 0 ≤ (foldStep z c).2 ∧ (foldStep z c).2 < 65521 := by
  unfold foldStep
  simp only
  omega
theorem foldl_range (bs : List UInt8) (z : Int × Int) (h : 0 ≤ z.1 ∧ z.1 < 65521 ∧ 0 ≤ z.2 ∧ z.2 < 65521) : 0 ≤ (bs.foldl foldStep z).1 ∧ (bs.foldl foldStep z).1 < 65521 ∧ 0 ≤ (bs.foldl foldStep z).2 ∧ (bs.foldl foldStep z).2 < 65521 := by
  induction bs generalizing z with
  | nil => exact h
  | cons c r ih => exact ih _ (foldStep_range z c)
theorem foldZ_range (bs : List UInt8) : 0 ≤ (foldZ bs).1 ∧ (foldZ bs).1 < 65521 ∧ 0 ≤ (foldZ bs).2 ∧ (foldZ bs).2 < 65521 := foldl_range bs _ ⟨by decide, by decide, by decide, by decide⟩
theorem foldZ_take {bs : List UInt8} {k : Nat} {c : UInt8} (h : bs[k]? = some c) : foldZ (bs.take (k + 1)) = foldStep (foldZ (bs.take k)) c := by
  rw [List.take_add_one, h, ← foldZ_snoc]
  rfl
/-- Fold's pair. -/
theorem refFold_any (A : Option Addr) (n c : Nat) (bs : List UInt8) (w : World) (hr : RByt w w.heap.size A n bs) (hn : n ≤ maxLen) :
    Calls Try.prog 17 #[.slice A n c] w fun e w' => e = .returned (.tuple #[.int .i64 (foldZ bs).1, .int .i64 (foldZ bs).2]) ∧ Below w.heap.size w w' := by
  have hm : n ≤ 9223372036854775807 := hn
  have Hl := hid hr.1
  have HC := hid hr.2
  clear hr hn
  go_enter Try.func17, Try.ntmps17
  go_wp2_with fail
  go_loopw [4, 5, 6] (fun x y i wr => ∃ (k : Nat) (u v : Int), k ≤ n ∧ i = .int .i64 k ∧ x = .int .i64 u ∧ y = .int .i64 v ∧ Hid (foldZ (bs.take k) = (u, v)) ∧ Below w.heap.size w wr) (fun _ _ i _ => n - (intOf i).toNat)
  case atStart => exact ⟨0, 1, 0, Nat.zero_le _, rfl, rfl, rfl, rfl, Below.refl _ _⟩
  case round =>
    obtain ⟨k, u, v, hk, rfl, rfl, rfl, HF, hbel⟩ := hrel
    have hrg := foldZ_range (bs.take k)
    rw [HF.out] at hrg
    obtain ⟨r1, r2, r3, r4⟩ := hrg
    simp only at r1 r2 r3 r4
    by_cases hlt : k < n
    · obtain ⟨b, off, rfl, hb, hc⟩ := HC.out (by omega)
      obtain ⟨x, hx⟩ : ∃ x, bs[k]? = some x := ⟨bs[k]'(by rw [Hl.out]; omega), List.getElem?_eq_getElem _⟩
      have c0 := (hbel.cell (p := ⟨b, off + k, none⟩) hb).trans (hc _ _ hx)
      have hxr : x.toNat < 256 := UInt8.toNat_lt x
      have HS := hid (foldZ_take hx)
      clear hc hx
      go_wp2_with fail
      go_roundw
      case rel => exact ⟨k + 1, _, _, by omega, by go_num, rfl, rfl, by rw [HS.out, HF.out]; rfl, hbel⟩
      case measure => simp [intOf]; omega
    · obtain rfl : k = n := by omega
      go_wp2_with fail
      go_ret2
      have := HF.out
      rw [List.take_of_length_le (by rw [Hl.out]; omega)] at this
      refine ⟨?_, hbel⟩
      rw [this]
      rfl

/-! ### what gauss's calls answer -/
open Fl in
def FoldSpec (f : FuncId) : Prop := ∀ (A : Option Addr) (n c : Nat) (bs : List UInt8) (w : World), RByt w w.heap.size A n bs → n ≤ 1100 → Calls Try.prog f #[.slice A n c] w fun e w' =>
  e = .returned (.complex .f64 (fl (foldZ bs).1) (fl (foldZ bs).2)) ∧ Below w.heap.size w w'
def hashOf (t : Tup) : Int := 7 * (foldZ t.bytes).1 + (foldZ t.bytes).2
def HashSpec (f : FuncId) : Prop := ∀ (t : Tup), t.fits → ∀ (w : World), Calls Try.prog f #[.agg #[.int .u32 t.src, .int .u32 t.dst, .int .i64 t.pro, .int .i64 t.sp, .int .i64 t.dp]] w fun e w' =>
  e = .returned (.int .i64 (hashOf t)) ∧ Below w.heap.size w w'
def mulZ (x y : Int × Int) : Int × Int := ((x.1 * y.1 - x.2 * y.2) % 65521, (x.1 * y.2 + x.2 * y.1) % 65521)
def InZ (x : Int × Int) : Prop := 0 ≤ x.1 ∧ x.1 ≤ 65520 ∧ 0 ≤ x.2 ∧ x.2 ≤ 65520
open Fl in
/-- The product of numbers that are whole and within their bounds. -/
def MulSpec (f : FuncId) : Prop := ∀ (x y : Int × Int), InZ x → InZ y → ∀ (w : World), Calls Try.prog f #[.complex .f64 (fl x.1) (fl x.2), .complex .f64 (fl y.1) (fl y.2)] w fun e w' =>
  e = .returned (.complex .f64 (fl (mulZ x y).1) (fl (mulZ x y).2)) ∧ Below w.heap.size w w'

theorem refHash_any : HashSpec 20 := by
  intro t hf w
  have HF := hid hf
  clear hf
  go_enter Try.func20, Try.ntmps20
  go_wp2_with fail
  refine (putTuple_all t HF.out _).mono ?_
  rintro e' w1 ⟨A, c, rfl, _, hr, hb1⟩
  have hlen : t.bytes.length ≤ maxLen := by
    cases h : t.ok with
    | true => rw [bytes_len h]; unfold maxLen; omega
    | false => rw [bytes_no h]; unfold maxLen; simp
  have HC := hid (refFold_any A _ c t.bytes w1 hr hlen)
  have hg := foldZ_range t.bytes
  have HH : Hid (hashOf t = 7 * (foldZ t.bytes).1 + (foldZ t.bytes).2) := rfl
  clear hr hlen
  generalize foldZ t.bytes = z at *
  obtain ⟨u, v⟩ := z
  simp only at hg
  obtain ⟨g1, g2, g3, g4⟩ := hg
  go_wp2_with fail
  refine HC.out.mono ?_
  rintro e' w2 ⟨rfl, hb2⟩
  go_wp2_with fail
  go_ret
  refine ⟨by rw [HH.out]; rfl, ?_⟩
  exact ((Below.refl _ _).alloc (Nat.le_refl _) _).trans ((hb1.trans (hb2.mono hb1.size)).mono (by simp))
end Go.Proofs.Ytmhedmjealggfaa
