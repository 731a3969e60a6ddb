/- Merged: CrF. -/
import Derived.Test.YtgdbelccipjebaaG31
import Derived.Test.YtgdbelccipjebaaG13
/- CompileTells. -/
namespace Go.Proofs.Ytgdbelccipjebaa
open Go.RowKit
set_option maxHeartbeats 6400000
set_option maxRecDepth 100000
theorem compTells_in {TabAt : World → Addr → Nat → List Lnk → Prop} (hN : NewOps TabAt 16) (hO : CompOps TabAt 11) (nd : Int) (A : Option Addr) (n c : Nat) (l : List Lnk) (x : Wnt) (y : WSl) (Ad : Option Addr) (n' c' : Nat) (dn : List Bool) (d : Int) (w : World) (hg : GAny w nd A n c l) (hs : smallB nd n = true) (hw : WArg w x y) (hf : fewB y = true) (hd : DArg w Ad n' c' dn) (h0 : In64 d) :
    Calls Try.prog 3 #[.agg #[.int .i64 nd, .slice A n c], .agg #[.int .i64 x.frm, .int .i64 x.too, .int .i64 x.bnd, .slice y.av y.nv y.cv, .slice y.an y.nn y.cn, .slice y.al y.nl y.cl, .slice y.ac y.nc y.cc], .slice Ad n' c', .int .i64 d] w fun e w' => e = .returned (.bool true) ∧ Below w.heap.size w w' := by
  have hS := Held2.start w nd A n c x y
  have hn16 : nd ≤ 10 ∧ n ≤ 16 := by unfold smallB at hs; simp only [Bool.and_eq_true, decide_eq_true_eq] at hs; exact hs
  have hl4 : y.nv ≤ 20 ∧ y.nn ≤ 60 ∧ y.nl ≤ 60 ∧ y.nc ≤ 60 := by
    unfold fewB at hf
    simp only [Bool.and_eq_true, decide_eq_true_eq] at hf
    omega
  obtain ⟨l1, l2, l3, l4⟩ := hl4
  obtain ⟨n1, n2⟩ := hn16
  have hll : l.length = n := hg.row.1
  have t2 : decide ((200 : Int) < (n' : Int)) = false := by have := hd.len; simp; omega
  have HA := hid (fun (w' : World) (h : Held2 w nd A n c x y w') => h.calls (alive17 hN hO w'))
  have HSm := hid (fun (w' : World) (h : Held2 w nd A n c x y w') => h.calls (small_any nd A n c w'))
  have HFw := hid (fun (w' : World) (h : Held2 w nd A n c x y w') => h.calls (few_any x y w'))
  have HNum := hid cnum_any
  rw [hs] at HSm
  rw [hf] at HFw
  by_cases hck : (checkS nd l).2 = 0
  · obtain ⟨N, rfl⟩ : ∃ N : Nat, nd = (N : Int) := ⟨nd.toNat, by have := checkS_ok hck; omega⟩
    have HT := hid (show ∀ W, Held2 w (N : Int) A n c x y W → Calls Try.prog 10 #[.agg #[.int .i64 (N : Int), .slice A n c]] W fun e w' => ∃ (p pr : Addr), e = .returned (.tuple #[.pointer (some p), .pointer (some pr), .bool true]) ∧ TabAt w' p N l ∧ RefAt w' pr N l ∧ Held2 w (N : Int) A n c x y w' from fun W hh => by
      refine (tabs_any hN (N : Int) A n c l W (hg.on hh.1)).mono ?_
      rintro e w' ⟨hb, h1 | h1⟩
      · obtain ⟨_, N', p, pr, h2, h3, h4, h5⟩ := h1
        obtain rfl : N' = N := by omega
        exact ⟨p, pr, h3, h4, h5, hh.next hb⟩
      · exact (h1.1 hck).elim)
    obtain ⟨R1, R2, hR⟩ : ∃ R1 R2, compS N l x dn d = (R1, R2) := ⟨_, _, rfl⟩
    have hlen := compS_len (N := N) (l := l) (x := x) (dn := dn) (d := d)
    rw [hR] at hlen
    dsimp only at hlen
    have hok := gok_of hck
    have HL := hid (show ∀ (W : World) (p : Addr), TabAt W p N l → Held2 w (N : Int) A n c x y W → Calls Try.prog 11 #[.pointer (some p), .agg #[.int .i64 x.frm, .int .i64 x.too, .int .i64 x.bnd, .slice y.av y.nv y.cv, .slice y.an y.nn y.cn, .slice y.al y.nl y.cl, .slice y.ac y.nc y.cc], .slice Ad n' c', .int .i64 d] W fun e w' => ∃ B c2, e = .returned (.tuple #[.slice B R1.length c2, .int .i64 R2]) ∧ RSeg w' w'.heap.size B R1.length R1 ∧ Held2 w (N : Int) A n c x y w' ∧ Below W.heap.size W w' from fun W p ht hh => by
      refine (hO W p N l x y Ad n' c' dn d ht hok (by omega) (by omega) (hw.on hh.1) (hd.on hh.1) (by omega) (by omega) (by omega) (by omega) h0).mono ?_
      rintro e w' ⟨B, c2, h1, h3, h2⟩
      rw [hR] at h1 h3
      exact ⟨B, c2, h1, h3, hh.next h2, h2⟩)
    have HR := hid (show ∀ (W : World) (p : Addr), RefAt W p N l → Held2 w (N : Int) A n c x y W → Calls Try.prog 12 #[.pointer (some p), .agg #[.int .i64 x.frm, .int .i64 x.too, .int .i64 x.bnd, .slice y.av y.nv y.cv, .slice y.an y.nn y.cn, .slice y.al y.nl y.cl, .slice y.ac y.nc y.cc], .slice Ad n' c', .int .i64 d] W fun e w' => ∃ B c2, e = .returned (.tuple #[.slice B R1.length c2, .int .i64 R2]) ∧ RSeg w' w'.heap.size B R1.length R1 ∧ Held2 w (N : Int) A n c x y w' ∧ Below W.heap.size W w' from fun W p ht hh => by
      obtain ⟨BT, A', n2, c2, vD, vs, rfl, ht2⟩ := ht
      refine (refComp_any BT N A' n2 c2 vD vs l x y Ad n' c' dn d W ht2 hok (by omega) (by have := ht2.len; omega) (hw.on hh.1) (hd.on hh.1) (by omega) (by omega) (by omega) (by omega)).mono ?_
      rintro e w' ⟨B, c2, h1, h3, h2⟩
      rw [hR] at h1 h3
      exact ⟨B, c2, h1, h3, hh.next h2, h2⟩)
    have HSS := hid (fun (B B' : Option Addr) (c1 c2 : Nat) (W : World) (h1 : RSeg W W.heap.size B R1.length R1) (h2 : RSeg W W.heap.size B' R1.length R1) => sameSegs_any B B' R1.length c1 c2 R1 W h1 h2 (by omega))
    have HK := hid hN.1
    have k1 : (R2 == R2) = true := beq_self_eq_true _
    clear hN hO hg hs hw hf hd h0 hck hll hR hlen hok
    go_enter Try.func3, Try.ntmps3
    go_wp2_with (first
      | (go_at_call 7; (with_reducible refine (HA.out _ hS).mono ?_); rintro e' w1 ⟨rfl, h1⟩; obtain ⟨g0, g1⟩ := h1.g; obtain ⟨g2, g3, g4, g5, g6, g7, g8⟩ := h1.v)
      | (go_at_call 8; (with_reducible refine (HSm.out _ h1).mono ?_); rintro e' w2 ⟨rfl, h2⟩; obtain ⟨q0, q1⟩ := h2.g; obtain ⟨q2, q3, q4, q5, q6, q7, q8⟩ := h2.v)
      | (go_at_call 9; (with_reducible refine (HFw.out _ h2).mono ?_); rintro e' w3 ⟨rfl, h3⟩; obtain ⟨r0, r1⟩ := h3.g; obtain ⟨r2, r3, r4, r5, r6, r7, r8⟩ := h3.v)
      | (go_at_call 10; (with_reducible refine (HT.out _ h3).mono ?_); rintro e' w4 ⟨p, pr, rfl, ht4, hr4, h4⟩; have HT4 := hid ht4; have HR4 := hid hr4; obtain ⟨s0, s1⟩ := h4.g; obtain ⟨s2, s3, s4, s5, s6, s7, s8⟩ := h4.v; clear ht4 hr4)
      | (go_at_call 11; (with_reducible refine (HL.out _ _ HT4.out h4).mono ?_); rintro e' w5 ⟨B, c5, rfl, hs5, h5, hb5⟩; have HS5 := hid hs5; have HR5 := hid (refAt_keep _ _ _ _ _ HR4.out hb5); obtain ⟨u0, u1⟩ := h5.g; obtain ⟨u2, u3, u4, u5, u6, u7, u8⟩ := h5.v; clear hs5 hb5)
      | (go_at_call 12; (with_reducible refine (HR.out _ _ HR5.out h5).mono ?_); rintro e' w6 ⟨B', c6, rfl, hs6, h6, hb6⟩; have HS6 := hid hs6; have HS56 := hid (HS5.out.on hb6); have HB6 := hid h6.1; clear hs6 hb6)
      | (go_at_call 13; (with_reducible refine (HSS.out _ _ _ _ _ HS56.out HS6.out).mono ?_); rintro e' w7 ⟨rfl, hb7⟩; have HB7 := hid (HB6.out.trans (hb7.mono HB6.out.size)); clear hb7)
      | (go_at_call 14; (with_reducible refine (HNum.out _ _).mono ?_); rintro _ _ ⟨rfl, rfl⟩))
    go_ret
    exact ⟨rfl, HB7.out⟩
  · have HT := hid (show ∀ W, Held2 w nd A n c x y W → Calls Try.prog 10 #[.agg #[.int .i64 nd, .slice A n c]] W fun e w' => (∃ v1 v2, e = .returned (.tuple #[v1, v2, .bool false])) ∧ Held2 w nd A n c x y w' from fun W hh => by
      refine (tabs_any hN nd A n c l W (hg.on hh.1)).mono ?_
      rintro e w' ⟨hb, h1 | h1⟩
      · exact (hck h1.1).elim
      · exact ⟨h1.2, hh.next hb⟩)
    clear hN hO hg hs hw hf hd h0 hck hll
    go_enter Try.func3, Try.ntmps3
    go_wp2_with (first
      | (go_at_call 7; (with_reducible refine (HA.out _ hS).mono ?_); rintro e' w1 ⟨rfl, h1⟩; obtain ⟨g0, g1⟩ := h1.g; obtain ⟨g2, g3, g4, g5, g6, g7, g8⟩ := h1.v)
      | (go_at_call 8; (with_reducible refine (HSm.out _ h1).mono ?_); rintro e' w2 ⟨rfl, h2⟩; obtain ⟨q0, q1⟩ := h2.g; obtain ⟨q2, q3, q4, q5, q6, q7, q8⟩ := h2.v)
      | (go_at_call 9; (with_reducible refine (HFw.out _ h2).mono ?_); rintro e' w3 ⟨rfl, h3⟩; obtain ⟨r0, r1⟩ := h3.g; obtain ⟨r2, r3, r4, r5, r6, r7, r8⟩ := h3.v)
      | (go_at_call 10; (with_reducible refine (HT.out _ h3).mono ?_); rintro e' w4 ⟨⟨v1, v2, rfl⟩, h4⟩; obtain ⟨s0, s1⟩ := h4.g; obtain ⟨s2, s3, s4, s5, s6, s7, s8⟩ := h4.v))
    go_ret
    exact ⟨rfl, h4.1⟩
theorem compTells_any {TabAt : World → Addr → Nat → List Lnk → Prop} (hN : NewOps TabAt 16) (hO : CompOps TabAt 11) (nd : Int) (A : Option Addr) (n c : Nat) (l : List Lnk) (x : Wnt) (y : WSl) (Ad : Option Addr) (n' c' : Nat) (dn : List Bool) (d : Int) (w : World) (hg : GAny w nd A n c l) (hw : WArg w x y) (hd : RBl w w.heap.size Ad n' dn) (hc' : n' ≤ c') (hA' : Ad = none → n' = 0 ∧ c' = 0) (h0 : In64 d) :
    Calls Try.prog 3 #[.agg #[.int .i64 nd, .slice A n c], .agg #[.int .i64 x.frm, .int .i64 x.too, .int .i64 x.bnd, .slice y.av y.nv y.cv, .slice y.an y.nn y.cn, .slice y.al y.nl y.cl, .slice y.ac y.nc y.cc], .slice Ad n' c', .int .i64 d] w fun e w' => e = .returned (.bool true) ∧ Below w.heap.size w w' := by
  cases hs : smallB nd n with
  | false => exact compTells_out hN hO nd A n c x y Ad n' c' d w (.inl hs)
  | true =>
    cases hf : fewB y with
    | false => exact compTells_out hN hO nd A n c x y Ad n' c' d w (.inr (.inl hf))
    | true =>
      by_cases h : 200 < n'
      · exact compTells_out hN hO nd A n c x y Ad n' c' d w (.inr (.inr h))
      · exact compTells_in hN hO nd A n c l x y Ad n' c' dn d w hg hs hw hf ⟨hd, by omega, hc', hA'⟩ h0
end Go.Proofs.Ytgdbelccipjebaa
