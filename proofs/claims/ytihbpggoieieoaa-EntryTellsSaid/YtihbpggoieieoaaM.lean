/- Plain lemmas on numbers for layer 1: joins and masks of bits at uint32 and int. -/
import Derived.Laws.BitsLemmas
import Derived.Laws.BitsAllLaws
namespace Go.Proofs.Ytihbpggoieieoaa

theorem wraps_u32 (n : Int) (_ : 0 ≤ n) (h₁ : n < 2 ^ 32) : IntKind.u32.wrap n = n := by rw [IntKind.wrap_u32]; omega
theorem wraps_i64 (n : Int) (_ : 0 ≤ n) (h₁ : n < 2 ^ 63) : IntKind.i64.wrap n = n := by rw [IntKind.wrap_i64]; omega

theorem u32_join (i : Nat) (x y : Int) (hx₀ : 0 ≤ x) (hx : x % 2 ^ i = 0) (hx₁ : x < 4294967296) (hy₀ : 0 ≤ y) (hy : y < 2 ^ i) (hy₁ : y < 4294967296) : bits .or .u32 x y = x + y :=
  bits_join .u32 32 (by decide) wraps_u32 i x y hx₀ hx (by simpa using hx₁) hy₀ hy (by simpa using hy₁)
theorem i64_join (i : Nat) (x y : Int) (hx₀ : 0 ≤ x) (hx : x % 2 ^ i = 0) (hx₁ : x < 9223372036854775808) (hy₀ : 0 ≤ y) (hy : y < 2 ^ i) (hy₁ : y < 9223372036854775808) : bits .or .i64 x y = x + y :=
  bits_join .i64 63 (by decide) wraps_i64 i x y hx₀ hx (by simpa using hx₁) hy₀ hy (by simpa using hy₁)
theorem u32_mask (i : Nat) (hi : i ≤ 32) (m : Int) (hm : m = 2 ^ i - 1) (x : Int) (h₀ : 0 ≤ x) (h₁ : x < 4294967296) : bits .and .u32 x m = x % 2 ^ i := by
  rw [hm]; exact bits_mask .u32 32 (by decide) wraps_u32 i hi x h₀ (by simpa using h₁)
theorem i64_mask (i : Nat) (hi : i ≤ 63) (m : Int) (hm : m = 2 ^ i - 1) (x : Int) (h₀ : 0 ≤ x) (h₁ : x < 9223372036854775808) : bits .and .i64 x m = x % 2 ^ i := by
  rw [hm]; exact bits_mask .i64 63 (by decide) wraps_i64 i hi x h₀ (by simpa using h₁)
theorem u32_or_assoc (x y z : Int) (hx : 0 ≤ x) (hx' : x < 4294967296) (hy : 0 ≤ y) (hy' : y < 4294967296) (hz : 0 ≤ z) (hz' : z < 4294967296) : bits .or .u32 (bits .or .u32 x y) z = bits .or .u32 x (bits .or .u32 y z) := by
  obtain ⟨a, rfl⟩ := Int.eq_ofNat_of_zero_le hx
  obtain ⟨b, rfl⟩ := Int.eq_ofNat_of_zero_le hy
  obtain ⟨c, rfl⟩ := Int.eq_ofNat_of_zero_le hz
  have h1 : a ||| b < 2 ^ 32 := Nat.or_lt_two_pow (by omega) (by omega)
  have h2 : b ||| c < 2 ^ 32 := Nat.or_lt_two_pow (by omega) (by omega)
  rw [u32_or_nat a b (by omega) (by omega), u32_or_nat b c (by omega) (by omega), u32_or_nat _ c (by omega) (by omega), u32_or_nat a _ (by omega) (by omega), Nat.or_assoc]

theorem join3 (a b c : Int) (h : 0 ≤ a) (h' : a < 1048576) (hb : 0 ≤ b) (hb' : b < 8) (hc : 0 ≤ c) (hc' : c < 256) :
    bits .or .u32 (bits .or .u32 (a * 4096) (b * 512)) c = a * 4096 + b * 512 + c := by
  rw [u32_join 12 (a * 4096) (b * 512) (by omega) (by omega) (by omega) (by omega) (by omega) (by omega), u32_join 9 _ c (by omega) (by omega) (by omega) (by omega) (by omega) (by omega)]
theorem join4 (a b c : Int) (h : 0 ≤ a) (h' : a < 1048576) (hb : 0 ≤ b) (hb' : b < 8) (hc : 0 ≤ c) (hc' : c < 256) :
    bits .or .u32 (a * 4096 + b * 512 + c) 256 = a * 4096 + b * 512 + c + 256 := by
  have e1 : a * 4096 + b * 512 + c = bits .or .u32 (a * 4096 + b * 512) c := (u32_join 9 _ c (by omega) (by omega) (by omega) (by omega) (by omega) (by omega)).symm
  rw [e1, u32_or_assoc _ _ _ (by omega) (by omega) hc (by omega) (by omega) (by omega)]
  have e2 : bits .or .u32 c 256 = 256 + c := by
    obtain ⟨n, rfl⟩ := Int.eq_ofNat_of_zero_le hc
    have := u32_or_nat n 256 (by omega) (by omega)
    rw [Nat.or_comm, nat_join 8 256 n (by decide) (by omega)] at this
    exact this.trans (by omega)
  rw [e2, ← e1, u32_join 9 _ (256 + c) (by omega) (by omega) (by omega) (by omega) (by omega) (by omega)]
  omega
theorem ref4 (a b c d : Int) (h : 0 ≤ a) (h' : a < 1048576) (hb : 0 ≤ b) (hb' : b < 8) (hc : 0 ≤ c) (hc' : c < 256) (hd : 0 ≤ d) (hd' : d ≤ 1) :
    bits .or .i64 (bits .or .i64 (bits .or .i64 (a * 4096) (b * 512)) (d * 256)) c = a * 4096 + b * 512 + d * 256 + c := by
  rw [i64_join 12 (a * 4096) (b * 512) (by omega) (by omega) (by omega) (by omega) (by omega) (by omega), i64_join 9 _ (d * 256) (by omega) (by omega) (by omega) (by omega) (by omega) (by omega),
    i64_join 8 _ c (by omega) (by omega) (by omega) (by omega) (by omega) (by omega)]
theorem word32 (a b c d : Int) (ha : 0 ≤ a) (ha' : a < 256) (hb : 0 ≤ b) (hb' : b < 256) (hc : 0 ≤ c) (hc' : c < 256) (hd : 0 ≤ d) (hd' : d < 256) :
    bits .or .u32 (bits .or .u32 (bits .or .u32 (a * 16777216) (b * 65536)) (c * 256)) d = a * 16777216 + b * 65536 + c * 256 + d := by
  rw [u32_join 24 (a * 16777216) (b * 65536) (by omega) (by omega) (by omega) (by omega) (by omega) (by omega), u32_join 16 _ (c * 256) (by omega) (by omega) (by omega) (by omega) (by omega) (by omega),
    u32_join 8 _ d (by omega) (by omega) (by omega) (by omega) (by omega) (by omega)]
theorem word64 (a b c d : Int) (ha : 0 ≤ a) (ha' : a < 256) (hb : 0 ≤ b) (hb' : b < 256) (hc : 0 ≤ c) (hc' : c < 256) (hd : 0 ≤ d) (hd' : d < 256) :
    bits .or .i64 (bits .or .i64 (bits .or .i64 (a * 16777216) (b * 65536)) (c * 256)) d = a * 16777216 + b * 65536 + c * 256 + d := by
  rw [i64_join 24 (a * 16777216) (b * 65536) (by omega) (by omega) (by omega) (by omega) (by omega) (by omega), i64_join 16 _ (c * 256) (by omega) (by omega) (by omega) (by omega) (by omega) (by omega),
    i64_join 8 _ d (by omega) (by omega) (by omega) (by omega) (by omega) (by omega)]

end Go.Proofs.Ytihbpggoieieoaa
