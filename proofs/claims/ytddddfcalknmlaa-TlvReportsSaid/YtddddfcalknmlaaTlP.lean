/- number, isLink, check. -/
import Derived.Test.YtddddfcalknmlaaTlM
namespace Go.Proofs.Ytddddfcalknmlaa
open Go.RowKit
set_option maxHeartbeats 3200000
set_option maxRecDepth 100000

theorem join2 (a b : UInt8) : bits .or .i64 ((a.toNat : Int) * 256) (b.toNat : Int) = (num2 a b : Nat) := by
  have := UInt8.toNat_lt a; have := UInt8.toNat_lt b
  rw [i64_join 8 _ _ (by omega) (by omega) (by omega) (by omega) (by omega) (by omega)]
  unfold num2; omega
theorem number_any (a b : UInt8) (w : World) : Calls Try.prog 18 #[.int .u8 (a.toNat : Int), .int .u8 (b.toNat : Int)] w fun e w' => e = .returned (.int .i64 (num2 a b : Nat)) ∧ w = w' := by
  have h1 : a.toNat < 256 := UInt8.toNat_lt a
  have h2 : b.toNat < 256 := UInt8.toNat_lt b
  have j := join2 a b
  go_enter Try.func18, Try.ntmps18
  go_wp2
  go_ret
  exact ⟨rfl, rfl⟩
theorem isL_len {d : List UInt8} {n : Nat} (hl : d.length = n) (h : n ≠ 3) : isL d = false := by
  unfold isL; rw [hl]; simp [h]
theorem isL_at {d : List UInt8} {x : UInt8} (hl : d.length = 3) (h : d[2]? = some x) : isL d = decide (x.toNat ≤ 1) := by
  unfold isL; rw [hl]; simp [h]
theorem isLink_any (A : Option Addr) (n c : Nat) (d : List UInt8) (B : Nat) (w : World) (hr : RByt w B A n d) : Calls Try.prog 19 #[.slice A n c] w fun e w' => e = .returned (.bool (isL d)) ∧ w = w' := by
  obtain ⟨hl, hc⟩ := hr
  by_cases h : n = 3
  · subst h
    obtain ⟨b, off, rfl, hb, hc⟩ := hc (by omega)
    obtain ⟨x, hx⟩ : ∃ x, d[2]? = some x := ⟨d[2]'(by omega), List.getElem?_eq_getElem (by omega)⟩
    have c2 := hc _ _ hx
    have hi := hid (isL_at hl hx)
    have y := UInt8.toNat_lt x
    clear hc hl hx
    rcases (show decide ((x.toNat : Int) ≤ 1) = true ∧ isL d = true ∨ decide ((x.toNat : Int) ≤ 1) = false ∧ isL d = false by rw [hi.out]; simp; omega) with ⟨t, q⟩ | ⟨t, q⟩ <;>
    · have Q := hid q
      clear q
      go_enter Try.func19, Try.ntmps19
      go_wp2
      go_ret
      exact ⟨by rw [Q.out]; rfl, rfl⟩
  · have t : ((n : Int) == 3) = false := by simp; omega
    have Q := hid (isL_len hl h)
    go_enter Try.func19, Try.ntmps19
    go_wp2
    go_ret
    exact ⟨by rw [Q.out]; rfl, rfl⟩

def chk (l : List Itm) : Int := if typesOk l = true then (if lensOk l = true then 0 else 6) else 1
theorem check_any (A : Option Addr) (n c : Nat) (l : List Itm) (B : Nat) (w : World) (hB : B ≤ w.heap.size) (hr : RItm w B A n l) (hn : n ≤ maxLen) :
    Calls Try.prog 17 #[.slice A n c] w fun e w' => e = .returned (.int .i64 (chk l)) ∧ Below w.heap.size w w' := by
  have Hl := hid hr.1
  have HR := hid hr
  unfold maxLen at hn
  clear hr
  go_enter Try.func17, Try.ntmps17
  go_wp2_with fail
  go_loopw [9] (fun i wr => ∃ k : Nat, k ≤ n ∧ i = .int .i64 k ∧ typesOk (l.drop k) = typesOk l ∧ Below w.heap.size w wr) (fun i _ => n - (intOf i).toNat)
  case atStart => exact ⟨0, Nat.zero_le _, rfl, rfl, Below.refl _ _⟩
  case round =>
    obtain ⟨k, hk, rfl, hok, hbel⟩ := hrel
    have hs := hbel.size
    by_cases hlt : k < n
    · have Hok := hid hok
      obtain ⟨e, he⟩ : ∃ e, l[k]? = some e := ⟨l[k]'(by rw [Hl.out]; omega), List.getElem?_eq_getElem _⟩
      obtain ⟨b, off, rfl, hb, hc⟩ := HR.out.2 (by omega)
      obtain ⟨c0, D, dc, c1, _⟩ := hc k e he
      have d0 := (hbel.cell (p := ⟨b, off + k * 2, none⟩) (by show b < _; omega)).trans c0
      have d1 := (hbel.cell (p := ⟨b, off + k * 2 + 1, none⟩) (by show b < _; omega)).trans c1
      have Hd := hid (typesOk_drop he)
      clear hok hc he c0 c1
      rcases (show decide (e.typ < 0) = true ∨ (decide (e.typ < 0) = false ∧ decide (255 < e.typ) = true) ∨ (decide (e.typ < 0) = false ∧ decide (255 < e.typ) = false) by simp only [decide_eq_true_eq, decide_eq_false_iff_not]; omega) with h1 | ⟨h1, h2⟩ | ⟨h1, h2⟩
      · have Ht : Hid (decide (0 ≤ e.typ ∧ e.typ ≤ 255) = false) := by simp at h1; exact decide_eq_false (by omega)
        have hq : typesOk l = false := by rw [← Hok.out, Hd.out, Ht.out]; rfl
        have Hq := hid hq
        clear hq
        go_wp2_with fail
        go_ret
        exact ⟨ret_int (by unfold chk; rw [Hq.out]; rfl), (hbel.alloc (by omega) _)⟩
      · have Ht : Hid (decide (0 ≤ e.typ ∧ e.typ ≤ 255) = false) := by simp at h2; exact decide_eq_false (by omega)
        have hq : typesOk l = false := by rw [← Hok.out, Hd.out, Ht.out]; rfl
        have Hq := hid hq
        clear hq
        go_wp2_with fail
        go_ret
        exact ⟨ret_int (by unfold chk; rw [Hq.out]; rfl), (hbel.alloc (by omega) _)⟩
      · have Ht : Hid (decide (0 ≤ e.typ ∧ e.typ ≤ 255) = true) := by simp at h1 h2; exact decide_eq_true (by omega)
        go_wp2_with fail
        go_roundw
        case rel => exact ⟨k + 1, by omega, by go_num, by rw [← Hok.out, Hd.out, Ht.out]; rfl, hbel.alloc (by omega) _⟩
        case measure => simp [intOf]; omega
    · obtain rfl : k = n := by omega
      have htrue : typesOk l = true := by rw [← hok, List.drop_of_length_le (by rw [Hl.out]; omega)]; rfl
      have HT := hid htrue
      clear hok htrue
      go_wp2_with fail
      go_loopw [24] (fun i w2 => ∃ j : Nat, j ≤ k ∧ i = .int .i64 j ∧ lensOk (l.drop j) = lensOk l ∧ Below w.heap.size w w2) (fun i _ => k - (intOf i).toNat)
      case atStart => exact ⟨0, Nat.zero_le _, rfl, rfl, hbel⟩
      case round =>
        obtain ⟨j, hj, rfl, hok2, hbel2⟩ := hrel
        have hs2 := hbel2.size
        have Hok2 := hid hok2
        clear hok2
        by_cases hjt : j < k
        · obtain ⟨e, he⟩ : ∃ e, l[j]? = some e := ⟨l[j]'(by rw [Hl.out]; omega), List.getElem?_eq_getElem _⟩
          obtain ⟨b, off, rfl, hb, hc⟩ := HR.out.2 (by omega)
          obtain ⟨c0, D, dc, c1, _⟩ := hc j e he
          have d0 := (hbel2.cell (p := ⟨b, off + j * 2, none⟩) (by show b < _; omega)).trans c0
          have d1 := (hbel2.cell (p := ⟨b, off + j * 2 + 1, none⟩) (by show b < _; omega)).trans c1
          have Hd := hid (lensOk_drop he)
          clear hc he c0 c1
          by_cases hlong : e.data.length ≤ 65535
          · have tl : decide ((65535 : Int) < (e.data.length : Int)) = false := by simp; omega
            have Hle : Hid (decide (e.data.length ≤ 65535) = true) := decide_eq_true hlong
            go_wp2_with fail
            go_roundw
            case rel => exact ⟨j + 1, by omega, by go_num, by rw [← Hok2.out, Hd.out, Hle.out]; rfl, hbel2.alloc (by omega) _⟩
            case measure => simp [intOf]; omega
          · have tl : decide ((65535 : Int) < (e.data.length : Int)) = true := by simp; omega
            have Hle : Hid (decide (e.data.length ≤ 65535) = false) := decide_eq_false hlong
            have hq : lensOk l = false := by rw [← Hok2.out, Hd.out, Hle.out]; rfl
            have Hq := hid hq
            clear hq
            go_wp2_with fail
            go_ret
            exact ⟨ret_int (by unfold chk; rw [HT.out, Hq.out]; rfl), (hbel2.alloc (by omega) _)⟩
        · obtain rfl : j = k := by omega
          have hq : lensOk l = true := by rw [← Hok2.out, List.drop_of_length_le (by rw [Hl.out]; omega)]; rfl
          have Hq := hid hq
          clear hq
          go_wp2_with fail
          go_ret
          exact ⟨ret_int (by unfold chk; rw [HT.out, Hq.out]; rfl), hbel2⟩
end Go.Proofs.Ytddddfcalknmlaa
