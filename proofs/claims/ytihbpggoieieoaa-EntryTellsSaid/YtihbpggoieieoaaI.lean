import Derived.Test.YtihbpggoieieoaaH
import Derived.Outline
namespace Go.Proofs.Ytihbpggoieieoaa
open Go.RowKit
set_option maxHeartbeats 1600000
set_option maxRecDepth 100000

theorem masks (x : Int) (h : 0 ≤ x) (h' : x < 4294967296) : bits .and .i64 (x / 512) 7 = x / 512 % 8 ∧ bits .and .i64 x 255 = x % 256 ∧ bits .and .i64 (x / 256) 1 = x / 256 % 2 :=
  ⟨i64_mask 3 (by decide) 7 (by decide) _ (by omega) (by omega), i64_mask 8 (by decide) 255 (by decide) _ (by omega) (by omega), i64_mask 1 (by decide) 1 (by decide) _ (by omega) (by omega)⟩
theorem be4_range (a b c d : UInt8) : 0 ≤ be4 a b c d ∧ be4 a b c d < 4294967296 := by
  have := UInt8.toNat_lt a; have := UInt8.toNat_lt b; have := UInt8.toNat_lt c; have := UInt8.toNat_lt d
  unfold be4; omega
theorem be4_word (a b c d : UInt8) : bits .or .i64 (bits .or .i64 (bits .or .i64 ((a.toNat : Int) * 16777216) ((b.toNat : Int) * 65536)) ((c.toNat : Int) * 256)) (d.toNat : Int) = be4 a b c d := by
  have := UInt8.toNat_lt a; have := UInt8.toNat_lt b; have := UInt8.toNat_lt c; have := UInt8.toNat_lt d
  exact word64 _ _ _ _ (by omega) (by omega) (by omega) (by omega) (by omega) (by omega) (by omega) (by omega)

theorem below_round4 {w wr w4 : World} {B nq : Nat} {o2 : Obj} {v : Value} {e : TypeId} {size n : Nat} {xs : List Value} (hB : B = w.heap.size) (h : Below B w wr)
    (hown : wr.ownsRow B e size v n xs) (hg : ((wr.drewN nq).alloc o2).grownBy w4 v.ownBlock) : Below B w w4 := by
  have hs1 := h.size
  have a1 : Below B w (wr.drewN nq) := ⟨h.os, h.tape, h.output, h.size, h.block⟩
  exact Below.grown (a1.alloc (by show B ≤ wr.heap.size; omega) o2) hg (by simp; omega) (fun k hk => (hown.lt k hk).1)
theorem ans_yes {l : List Ent} {n : Nat} {v : Value} {w : World} (h : okAll l = true) (hc : Calls Try.prog 9 #[v] w (PutAns l n w.heap.size w)) :
    Calls Try.prog 9 #[v] w fun e w' => ∃ v', e = .returned (.tuple #[v', .int .i64 0]) ∧ Below w.heap.size w w' := by
  refine hc.mono fun e w' ha => ?_
  rcases ha with ⟨_, v', he, _, hb⟩ | ⟨h0, _⟩
  · exact ⟨v', he, hb⟩
  · rw [h] at h0; cases h0
theorem ans_no {l : List Ent} {n : Nat} {v : Value} {w : World} (h : okAll l = false) (hc : Calls Try.prog 9 #[v] w (PutAns l n w.heap.size w)) :
    Calls Try.prog 9 #[v] w fun e w' => e = .returned (.tuple #[.slice none 0 0, .int .i64 1]) ∧ Below w.heap.size w w' := by
  refine hc.mono fun e w' ha => ?_
  rcases ha with ⟨h0, _⟩ | ⟨_, he, hb⟩
  · rw [h] at h0; cases h0
  · exact ⟨he, hb⟩

theorem refGet_body (A : Option Addr) (n c : Nat) (bs : List UInt8) (w : World) (hn : 0 < n) (hm : n ≤ 4000) (h4 : n % 4 = 0) (hr : RByt w w.heap.size A n bs) :
    Calls Try.prog 11 #[.slice A n c] w (GetAns bs w) := by
  obtain ⟨i0, hi, hz0, hz1, hz2⟩ := info_parts Try.info38
  obtain ⟨hl, hc⟩ := hr
  obtain ⟨b, off, rfl, hb, hc⟩ := hc (by omega)
  have Hl := hid hl
  have Hi := hid hi; have Hz0 := hid hz0; have Hz1 := hid hz1; have Hz2 := hid hz2
  clear hi hz0 hz1 hz2 hl
  have t1 : (n : Int) % 4 = 0 := by omega
  have t2 : decide ((4000 : Int) < n) = false := by simp; omega
  obtain ⟨m, hm4⟩ : ∃ m, n = 4 * m := ⟨n / 4, by omega⟩
  have t3 : (n : Int) / 4 = (m : Int) := by omega
  have Hm := hid hm4
  clear hm4 h4
  have t0 : ((n : Int) == 0) = false := by simp; omega
  go_enter Try.func11, Try.ntmps11
  go_wp2_with fail
  clear t0 t1 t2 t3
  go_loopw [4, 5] (fun v i wr => ∃ k j : Nat, j ≤ n ∧ Hid (j = 4 * k) ∧ i = .int .i64 j ∧ wr.ownsRow w.heap.size 38 4 v k (flat (entsOf bs k)) ∧ Below w.heap.size w wr) (fun _ i _ => n - (intOf i).toNat)
  case atStart => exact ⟨0, 0, Nat.zero_le _, rfl, rfl, World.ownsRow_nil _ _ _ _, Below.refl _ _⟩
  case round =>
    obtain ⟨k, j, hk, HJ, rfl, hown, hbel⟩ := hrel
    by_cases hlt : j < n
    · have hj3 : j + 3 < n := by have := HJ.out; have := Hm.out; omega
      have Hl2 := Hl.out
      obtain ⟨x0, hx0⟩ : ∃ x, bs[j]? = some x := ⟨bs[j]'(by omega), List.getElem?_eq_getElem (by omega)⟩
      obtain ⟨x1, hx1⟩ : ∃ x, bs[j + 1]? = some x := ⟨bs[j + 1]'(by omega), List.getElem?_eq_getElem (by omega)⟩
      obtain ⟨x2, hx2⟩ : ∃ x, bs[j + 2]? = some x := ⟨bs[j + 2]'(by omega), List.getElem?_eq_getElem (by omega)⟩
      obtain ⟨x3, hx3⟩ : ∃ x, bs[j + 3]? = some x := ⟨bs[j + 3]'(by omega), List.getElem?_eq_getElem (by omega)⟩
      have c0 := (hbel.cell (p := ⟨b, off + j, none⟩) hb).trans (hc _ _ hx0)
      have c1 := (hbel.cell (p := ⟨b, off + (j + 1), none⟩) hb).trans (hc _ _ hx1)
      have c2 := (hbel.cell (p := ⟨b, off + (j + 2), none⟩) hb).trans (hc _ _ hx2)
      have c3 := (hbel.cell (p := ⟨b, off + (j + 3), none⟩) hb).trans (hc _ _ hx3)
      have y0 : x0.toNat < 256 := UInt8.toNat_lt x0
      have y1 : x1.toNat < 256 := UInt8.toNat_lt x1
      have y2 : x2.toNat < 256 := UInt8.toNat_lt x2
      have y3 : x3.toNat < 256 := UInt8.toNat_lt x3
      have HX0 := hid hx0
      have HX1 := hid hx1
      have HX2 := hid hx2
      have HX3 := hid hx3
      clear hx0 hx1 hx2 hx3 hc Hl2
      have e4 := be4_word x0 x1 x2 x3
      have HB := hid (be4_range x0 x1 x2 x3)
      have HE := hid (entAt_eq HJ.out HX0.out HX1.out HX2.out HX3.out)
      go_wp2_with fail
      go_big_quiet (fail)
      generalize be4 x0 x1 x2 x3 = xx at *
      obtain ⟨m1, m2, m3⟩ := masks xx HB.out.1 HB.out.2
      obtain ⟨g1, g2⟩ := HB.out
      go_wp2_with (at_builtin; refine wpList_append_own _ rfl _ _ 22 rfl w.heap.size 38 i0 (.agg #[.int .i64 0, .int .i64 0, .int .i64 0, .bool false]) 4 32 Try.underlying22 Hi.out Hz0.out Hz1.out Hz2.out rfl (by decide) _ _ _ rfl (World.ownsRow.alloc (w := wr.drewN nq) hown _) ⟨wr.heap.size, 0, none⟩ 1 1 (flat [unw xx]) rfl rfl (new_row (w := wr.drewN nq) (ent_row (unw xx))) (flat_one _) (by unfold maxLen; have := HJ.out; clear e4 m1 m2 m3; omega) (by have := HJ.out; clear e4 m1 m2 m3; omega) (by have h1 := hbel.size; clear e4 m1 m2 m3; simp; omega) ?_; intro v' w4 hown4 hg4 _; have hbel4 := below_round4 (nq := nq) rfl hbel hown hg4; clear hg4)
      clear e4 m1 m2 m3
      go_roundw
      case rel => exact ⟨k + 1, j + 4, by omega, by have := HJ.out; unfold Hid; omega, by go_num, by rw [flat_step HE.out]; exact hown4, hbel4⟩
      case measure => simp [intOf]; omega
    · obtain rfl : j = n := by omega
      obtain rfl : k = m := by have := HJ.out; have := Hm.out; omega
      obtain ⟨A, cap, rfl, hre⟩ := own_ent hown
      have HS := hid (getS_at Hl.out Hm.out hm)
      have hk1 : 1 ≤ k := by have := HJ.out; omega
      have hk2 : k ≤ 1000 := by have := HJ.out; omega
      have hsk : isStk (entsOf bs k) = okAll (entsOf bs k) := by unfold isStk; rw [entsOf_len]; simp [hk1, hk2]
      rw [hsk] at HS
      have HA := hid (ref_any A k cap _ wr hk1 hk2 hre)
      clear hsk
      cases hq : okAll (entsOf bs k) with
      | true =>
        rw [hq, if_pos rfl] at HS
        go_wp2_with (go_at_call 9; (with_reducible refine (ans_yes hq HA.out).mono ?_); rintro e' w3 ⟨v9, rfl, hb3⟩)
        go_ret2
        exact .inl ⟨_, HS.out, _, rfl, by rw [entsOf_len]; exact own_below hown hb3, hbel.trans (hb3.mono hbel.size)⟩
      | false =>
        rw [hq, if_neg (by simp)] at HS
        go_wp2_with (go_at_call 9; (with_reducible refine (ans_no hq HA.out).mono ?_); rintro e' w3 ⟨rfl, hb3⟩)
        go_ret2
        exact .inr ⟨HS.out, rfl, hbel.trans (hb3.mono hbel.size)⟩

theorem refGet_bad (A : Option Addr) (n c : Nat) (w : World) (h : n % 4 ≠ 0 ∨ n = 0 ∨ 4000 < n) : Calls Try.prog 11 #[.slice A n c] w fun e w' => e = .returned (.tuple #[.slice none 0 0, .int .i64 2]) ∧ w = w' := by
  by_cases h1 : n % 4 = 0
  · have t1 : (n : Int) % 4 = 0 := by omega
    rcases (show n = 0 ∨ (n ≠ 0 ∧ 4000 < n) by omega) with rfl | ⟨h2, h3⟩
    · go_enter Try.func11, Try.ntmps11
      go_wp2_with fail
      go_ret2
      exact ⟨rfl, rfl⟩
    · have t0 : ((n : Int) == 0) = false := by simp; omega
      have t2 : (4000 : Int) < (n : Int) := by omega
      go_enter Try.func11, Try.ntmps11
      go_wp2_with fail
      go_ret2
      exact ⟨rfl, rfl⟩
  · have t : ((n : Int) % 4 == 0) = false := by simp; omega
    have t' : ((n : Int) % 4 != 0) = true := by simp; omega
    go_enter Try.func11, Try.ntmps11
    go_wp2_with fail
    go_ret2
    exact ⟨rfl, rfl⟩
theorem refGet_all (A : Option Addr) (n c : Nat) (bs : List UInt8) (w : World) (hr : RByt w w.heap.size A n bs) : Calls Try.prog 11 #[.slice A n c] w (GetAns bs w) := by
  by_cases h : n % 4 ≠ 0 ∨ n = 0 ∨ 4000 < n
  · refine (refGet_bad A n c w h).mono fun e w' ⟨h3, h4⟩ => .inr ⟨?_, h3, h4 ▸ Below.refl _ _⟩
    unfold getS
    rw [hr.1, if_neg]
    rintro ⟨h5, h6, h7⟩
    obtain rfl : n = 0 := by omega
    simp [entsOf, isStk] at h7
  · exact refGet_body A n c bs w (by omega) (by omega) (by omega) hr
end Go.Proofs.Ytihbpggoieieoaa
