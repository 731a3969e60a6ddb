/- The reference's show, shows. -/
import Derived.Test.YtcmkcloapenpnaaGreatDoorPlH
import Derived.Test.YtcmkcloapenpnaaGreatDoorPfC
namespace Go.Proofs.YtcmkcloapenpnaaGreatDoor
open Go.RowKit
set_option maxHeartbeats 6400000
set_option maxRecDepth 100000
theorem decL_short (n : Nat) (h : n < 9223372036854775808) : (decL n).length ≤ 19 := decL_len 18 n (by omega)
/-- A number of a clause. -/
def showN (name : List UInt8) (n : Int) : List UInt8 := if n ≤ 0 then [] else ([32] ++ name ++ [32]) ++ decL n.toNat
/-- Numbers of a clause. -/
def dig1 (v : Int) : List UInt8 := [32] ++ decL v.toNat
def showLs (name : List UInt8) (L : List Int) : List UInt8 := if L = [] then [] else ([32] ++ name) ++ L.flatMap dig1
theorem pshow_any (name : List UInt8) (n : Int) (w : World) (hl : name.length ≤ 1000) (hn : n ≤ 9223372036854775807) :
    Calls Tryz.prog 24 #[.string (txt name), .int .i64 n] w fun e w' => e = .returned (.string (txt (showN name n))) ∧ w = w' := by
  obtain ⟨R, hR⟩ : ∃ R, showN name n = R := ⟨_, rfl⟩
  rw [hR]
  have HR := hid hR
  by_cases h0 : n ≤ 0
  · have t0 : decide (n ≤ 0) = true := by simpa using h0
    have HQ := hid (show R = [] by rw [← HR.out]; exact if_pos h0)
    clear hR h0
    go_enter Tryz.func24, Tryz.ntmps24
    go_wp2_with fail
    go_ret
    exact ⟨by rw [HQ.out]; rfl, rfl⟩
  · have t0 : decide (n ≤ 0) = false := by simpa using h0
    obtain ⟨m, rfl⟩ := Int.eq_ofNat_of_zero_le (show 0 ≤ n by omega)
    have t1 : decide (m = 0) = false := by simp; omega
    have hd := decL_short m (by omega)
    obtain ⟨D, hD⟩ : ∃ D, decL m = D := ⟨_, rfl⟩
    have HD := hid (dec_any m (by omega))
    rw [hD] at HD hd
    obtain ⟨a, ha⟩ : ∃ a, [32] ++ name = a := ⟨_, rfl⟩
    obtain ⟨b, hb⟩ : ∃ b, a ++ [32] = b := ⟨_, rfl⟩
    obtain ⟨z, hz⟩ : ∃ z, b ++ D = z := ⟨_, rfl⟩
    have la : a.length = 1 + name.length := by rw [← ha]; simp; omega
    have lb : b.length = 2 + name.length := by rw [← hb]; simp; omega
    have q1 : ∀ W, (Op.stringOp .add ⟨#[32]⟩ (txt name)).run Tryz.prog W = .ok (.string (txt a)) W := fun W => ha ▸ run_cat [32] name (by simp; omega) W
    have q2 : ∀ W, (Op.stringOp .add (txt a) ⟨#[32]⟩).run Tryz.prog W = .ok (.string (txt b)) W := fun W => hb ▸ run_cat a [32] (by simp; omega) W
    have q3 : ∀ W, (Op.stringOp .add (txt b) (txt D)).run Tryz.prog W = .ok (.string (txt z)) W := fun W => hz ▸ run_cat b D (by omega) W
    have HQ := hid (show R = z by
      rw [← HR.out]
      unfold showN
      rw [if_neg h0, Int.toNat_natCast, ha, hb, hD, hz])
    clear hR h0 hD ha hb hz la lb hd
    go_enter Tryz.func24, Tryz.ntmps24
    go_wp2_with (go_at_call 22; (with_reducible refine (HD.out _).mono ?_); rintro _ _ ⟨rfl, rfl⟩)
    go_ret
    exact ⟨by rw [HQ.out]; rfl, rfl⟩
theorem digs_len (L : List Int) (h : ∀ v ∈ L, In31 v) : (L.flatMap dig1).length ≤ 20 * L.length := by
  induction L with
  | nil => simp
  | cons v r ih =>
    have h1 := ih (fun u hu => h u (by simp [hu]))
    have h2 := decL_short v.toNat (by have := h v (by simp); unfold In31 at this; omega)
    simp only [List.flatMap_cons, List.length_append, List.length_cons, dig1, List.length_nil]
    omega
theorem pshows_any (name : List UInt8) (A : Option Addr) (n c : Nat) (L : List Int) (w : World) (hl : name.length ≤ 1000) (hr : RInt w w.heap.size A n L) (hn : n ≤ 10001) (hv : ∀ v ∈ L, In31 v) :
    Calls Tryz.prog 23 #[.string (txt name), .slice A n c] w fun e w' => e = .returned (.string (txt (showLs name L))) ∧ w = w' := by
  have hlen := hr.1
  obtain ⟨R, hR⟩ : ∃ R, showLs name L = R := ⟨_, rfl⟩
  rw [hR]
  have HR := hid hR
  have Hrow := hid hr
  have Hv := hid hv
  by_cases h0 : n = 0
  · subst h0
    obtain rfl : L = [] := List.length_eq_zero_iff.1 hlen
    have HQ := hid (show R = [] by rw [← HR.out]; exact if_pos rfl)
    clear hR hr hlen hv
    go_enter Tryz.func23, Tryz.ntmps23
    go_wp2_with fail
    go_ret
    exact ⟨by rw [HQ.out]; rfl, rfl⟩
  · have t0 : ((n : Int) == 0) = false := by simp; omega
    obtain ⟨a, ha⟩ : ∃ a, [32] ++ name = a := ⟨_, rfl⟩
    have la : a.length = 1 + name.length := by rw [← ha]; simp; omega
    have q1 : ∀ W, (Op.stringOp .add ⟨#[32]⟩ (txt name)).run Tryz.prog W = .ok (.string (txt a)) W := fun W => ha ▸ run_cat [32] name (by simp; omega) W
    have HQ := hid (show R = a ++ L.flatMap dig1 by
      rw [← HR.out]
      unfold showLs
      rw [if_neg (fun e => by rw [e] at hlen; simp at hlen; omega), ha])
    have Hla := hid la
    have Hlen := hid hlen
    clear hR hr hlen hv ha la h0
    go_enter Tryz.func23, Tryz.ntmps23
    go_wp2_with fail
    go_loopw [5, 6] (fun sv iv wr => ∃ (k : Nat) (x : List UInt8), k ≤ n ∧ iv = .int .i64 k ∧ sv = .string (txt x) ∧ Hid (x = a ++ (L.take k).flatMap dig1) ∧ wr = w) (fun _ iv _ => n - (intOf iv).toNat)
    case atStart => exact ⟨0, a, Nat.zero_le _, rfl, rfl, hid (by simp), rfl⟩
    case round =>
      obtain ⟨k, x, hk, rfl, rfl, HX, rfl⟩ := hrel
      by_cases hlt : k < n
      · obtain ⟨b, off, rfl, _, hc⟩ := Hrow.out.2 (by omega)
        obtain ⟨v, hv⟩ : ∃ v, L[k]? = some v := ⟨L[k]'(by rw [Hlen.out]; exact hlt), List.getElem?_eq_getElem _⟩
        have hcv := hc k v hv
        have h31 := Hv.out v (List.mem_of_getElem? hv)
        obtain ⟨m, hm⟩ := Int.eq_ofNat_of_zero_le h31.1
        subst hm
        have hmlt : m < 9223372036854775808 := by have := h31.2; omega
        have hd := decL_short m hmlt
        obtain ⟨D, hD⟩ : ∃ D, decL m = D := ⟨_, rfl⟩
        have HD := hid (dec_any m hmlt)
        rw [hD] at HD hd
        have lx : x.length ≤ 1001 + 20 * k := by
          rw [HX.out, List.length_append, Hla.out]
          have h5 := digs_len (L.take k) (fun u hu => Hv.out u (List.mem_of_mem_take hu))
          rw [List.length_take] at h5
          have h6 := Nat.min_le_left k L.length
          omega
        obtain ⟨y, hy⟩ : ∃ y, x ++ [32] = y := ⟨_, rfl⟩
        obtain ⟨z, hz⟩ : ∃ z, y ++ D = z := ⟨_, rfl⟩
        have ly : y.length = x.length + 1 := by rw [← hy]; simp
        have q2 : ∀ W, (Op.stringOp .add (txt x) ⟨#[32]⟩).run Tryz.prog W = .ok (.string (txt y)) W := fun W => hy ▸ run_cat x [32] (by simp; omega) W
        have q3 : ∀ W, (Op.stringOp .add (txt y) (txt D)).run Tryz.prog W = .ok (.string (txt z)) W := fun W => hz ▸ run_cat y D (by omega) W
        have kl : (k : Int) < (n : Int) := by omega
        have e0 : IntKind.i64.wrap ((k : Int) + 1) = (k : Int) + 1 := by rw [IntKind.wrap_i64]; omega
        have HZ := hid (show z = a ++ (L.take (k + 1)).flatMap dig1 by
          rw [← hz, ← hy, HX.out, List.take_add_one, hv]
          simp [List.flatMap_append, dig1, hD])
        clear hc hv h31 hmlt hd hD hy hz lx ly
        go_wp2_with (go_at_call 22; (with_reducible refine (HD.out _).mono ?_); rintro _ _ ⟨rfl, rfl⟩)
        go_roundw
        case rel => exact ⟨k + 1, z, by omega, by go_num, rfl, HZ, by first | rfl | trivial⟩
        case measure => simp [intOf]; omega
      · obtain rfl : n = k := by omega
        have HQ2 := hid (show R = x by rw [HQ.out, HX.out, List.take_of_length_le (by rw [Hlen.out]; exact Nat.le_refl _)])
        go_wp2_with fail
        go_ret
        exact ⟨by rw [HQ2.out]; rfl, rfl⟩
end Go.Proofs.YtcmkcloapenpnaaGreatDoor
