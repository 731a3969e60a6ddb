/- Merged: CqL. -/
import Derived.Test.YtgdbelccipjebaaG13
/- CompileNone. -/
namespace Go.Proofs.Ytgdbelccipjebaa
open Go.RowKit
set_option maxHeartbeats 6400000
set_option maxRecDepth 100000
theorem compS_bad {N : Nat} {l : List Lnk} {x : Wnt} {dn : List Bool} {d : Int} (h : (costS N l x dn).2 ≠ 0) : compS N l x dn d = ([], (costS N l x dn).2) := by
  unfold compS
  rw [if_pos h]
theorem compS_two {N : Nat} {l : List Lnk} {x : Wnt} {dn : List Bool} {d : Int} (h : (costS N l x dn).2 = 0) : (compS N l x dn d).2 = 0 ∨ compS N l x dn d = ([], 9) := by
  unfold compS
  rw [if_neg (fun h2 => h2 h)]
  cases leastS N l x (prunedS N l x dn) (cutD d) (startS x) with
  | none => exact .inr rfl
  | some n => exact .inl rfl
theorem compNone_in {TabAt : World → Addr → Nat → List Lnk → Prop} (hN : NewOps TabAt 16) (hO : CompOps TabAt 11) (nd : Int) (A : Option Addr) (n c : Nat) (l : List Lnk) (x : Wnt) (y : WSl) (Ad : Option Addr) (n' c' : Nat) (dn : List Bool) (d : Int) (w : World) (hg : GAny w nd A n c l) (hs : smallB nd n = true) (hw : WArg w x y) (hf : fewB y = true) (hd : DArg w Ad n' c' dn) (h0 : In64 d) :
    Calls Try.prog 4 #[.agg #[.int .i64 nd, .slice A n c], .agg #[.int .i64 x.frm, .int .i64 x.too, .int .i64 x.bnd, .slice y.av y.nv y.cv, .slice y.an y.nn y.cn, .slice y.al y.nl y.cl, .slice y.ac y.nc y.cc], .slice Ad n' c', .int .i64 d] w fun e w' => e = .returned (.bool true) ∧ Below w.heap.size w w' := by
  have hS := Held2.start w nd A n c x y
  have hn16 : nd ≤ 10 ∧ n ≤ 16 := by unfold smallB at hs; simp only [Bool.and_eq_true, decide_eq_true_eq] at hs; exact hs
  have hl4 : y.nv ≤ 20 ∧ y.nn ≤ 60 ∧ y.nl ≤ 60 ∧ y.nc ≤ 60 := by
    unfold fewB at hf
    simp only [Bool.and_eq_true, decide_eq_true_eq] at hf
    omega
  obtain ⟨l1, l2, l3, l4⟩ := hl4
  obtain ⟨n1, n2⟩ := hn16
  have hll : l.length = n := hg.row.1
  have t2 : decide ((200 : Int) < (n' : Int)) = false := by have := hd.len; simp; omega
  have HA := hid (fun (w' : World) (h : Held2 w nd A n c x y w') => h.calls (alive17 hN hO w'))
  have HSm := hid (fun (w' : World) (h : Held2 w nd A n c x y w') => h.calls (small_any nd A n c w'))
  have HFw := hid (fun (w' : World) (h : Held2 w nd A n c x y w') => h.calls (few_any x y w'))
  have HNum := hid cnum_any
  rw [hs] at HSm
  rw [hf] at HFw
  by_cases hck : (checkS nd l).2 = 0
  · obtain ⟨N, rfl⟩ : ∃ N : Nat, nd = (N : Int) := ⟨nd.toNat, by have := checkS_ok hck; omega⟩
    have HT := hid (show ∀ W, Held2 w (N : Int) A n c x y W → Calls Try.prog 10 #[.agg #[.int .i64 (N : Int), .slice A n c]] W fun e w' => ∃ (p pr : Addr), e = .returned (.tuple #[.pointer (some p), .pointer (some pr), .bool true]) ∧ TabAt w' p N l ∧ Held2 w (N : Int) A n c x y w' from fun W hh => by
      refine (tabs_any hN (N : Int) A n c l W (hg.on hh.1)).mono ?_
      rintro e w' ⟨hb, h1 | h1⟩
      · obtain ⟨_, N', p, pr, h2, h3, h4, _⟩ := h1
        obtain rfl : N' = N := by omega
        exact ⟨p, pr, h3, h4, hh.next hb⟩
      · exact (h1.1 hck).elim)
    have HL := hid (show ∀ (W : World) (p : Addr), TabAt W p N l → Held2 w (N : Int) A n c x y W → Calls Try.prog 11 #[.pointer (some p), .agg #[.int .i64 x.frm, .int .i64 x.too, .int .i64 x.bnd, .slice y.av y.nv y.cv, .slice y.an y.nn y.cn, .slice y.al y.nl y.cl, .slice y.ac y.nc y.cc], .slice Ad n' c', .int .i64 d] W fun e w' => (∃ B c, e = .returned (.tuple #[.slice B (compS N l x dn d).1.length c, .int .i64 (compS N l x dn d).2])) ∧ Held2 w (N : Int) A n c x y w' from fun W p ht hh => by
      refine (hO W p N l x y Ad n' c' dn d ht (gok_of hck) (by omega) (by omega) (hw.on hh.1) (hd.on hh.1) (by omega) (by omega) (by omega) (by omega) h0).mono ?_
      rintro e w' ⟨B, c2, h1, _, h2⟩
      exact ⟨⟨B, c2, h1⟩, hh.next h2⟩)
    have HC := hid (fun (w' : World) (h : Held2 w (N : Int) A n c x y w') => h.calls (refCost_spec (N : Int) A n c l x y Ad n' c' dn w' ⟨(hg.on h.1).row, by have := (hg.on h.1).max; omega, (hg.on h.1).cap, (hg.on h.1).non, hg.lo, hg.hi⟩ (hw.on h.1) (hd.on h.1) (by omega) (by omega) (by omega) (by omega)))
    obtain ⟨m1, hm1⟩ : ∃ m1, (costS (N : Int) l x dn).1 = m1 := ⟨_, rfl⟩
    obtain ⟨m2, hm2⟩ : ∃ m2, (costS (N : Int) l x dn).2 = m2 := ⟨_, rfl⟩
    rw [hm1, hm2] at HC
    by_cases hz : m2 = 0
    · subst hz
      have HR := compS_two (d := d) hm2
      obtain ⟨R, hR⟩ : ∃ R, compS N l x dn d = R := ⟨_, rfl⟩
      rw [hR] at HR HL
      obtain ⟨R1, R2⟩ := R
      clear hR
      clear hN hO hg hs hw hf hd h0 hck hm1 hm2 hll
      have k1 : ((0 : Int) != 0) = false := by decide
      have k2 : ((0 : Int) == 0) = true := by decide
      have k3 : ((9 : Int) == 0) = false := by decide
      have k4 : ((9 : Int) == 9) = true := by decide
      rcases HR with HR | HR
      · dsimp only at HR
        subst HR
        dsimp only at HL
        go_enter Try.func4, Try.ntmps4
        go_wp2_with (first
          | (go_at_call 7; (with_reducible refine (HA.out _ hS).mono ?_); rintro e' w1 ⟨rfl, h1⟩; obtain ⟨g0, g1⟩ := h1.g; obtain ⟨g2, g3, g4, g5, g6, g7, g8⟩ := h1.v)
          | (go_at_call 8; (with_reducible refine (HSm.out _ h1).mono ?_); rintro e' w2 ⟨rfl, h2⟩; obtain ⟨q0, q1⟩ := h2.g; obtain ⟨q2, q3, q4, q5, q6, q7, q8⟩ := h2.v)
          | (go_at_call 9; (with_reducible refine (HFw.out _ h2).mono ?_); rintro e' w3 ⟨rfl, h3⟩; obtain ⟨r0, r1⟩ := h3.g; obtain ⟨r2, r3, r4, r5, r6, r7, r8⟩ := h3.v)
          | (go_at_call 10; (with_reducible refine (HT.out _ h3).mono ?_); rintro e' w4 ⟨p, pr, rfl, ht4, h4⟩; have HT4 := hid ht4; obtain ⟨s0, s1⟩ := h4.g; obtain ⟨s2, s3, s4, s5, s6, s7, s8⟩ := h4.v; clear ht4)
          | (go_at_call 11; (with_reducible refine (HL.out _ _ HT4.out h4).mono ?_); rintro e' w5 ⟨⟨B, c5, rfl⟩, h5⟩; obtain ⟨u0, u1⟩ := h5.g; obtain ⟨u2, u3, u4, u5, u6, u7, u8⟩ := h5.v)
          | (go_at_call 15; (with_reducible refine (HC.out _ h5).mono ?_); rintro e' w6 ⟨rfl, h6⟩; obtain ⟨v0, v1⟩ := h6.g; obtain ⟨v2, v3, v4, v5, v6, v7, v8⟩ := h6.v)
          | (go_at_call 14; (with_reducible refine (HNum.out _ _).mono ?_); rintro _ _ ⟨rfl, rfl⟩))
        go_ret
        exact ⟨rfl, h6.1⟩
      · cases HR
        dsimp only at HL
        go_enter Try.func4, Try.ntmps4
        go_wp2_with (first
          | (go_at_call 7; (with_reducible refine (HA.out _ hS).mono ?_); rintro e' w1 ⟨rfl, h1⟩; obtain ⟨g0, g1⟩ := h1.g; obtain ⟨g2, g3, g4, g5, g6, g7, g8⟩ := h1.v)
          | (go_at_call 8; (with_reducible refine (HSm.out _ h1).mono ?_); rintro e' w2 ⟨rfl, h2⟩; obtain ⟨q0, q1⟩ := h2.g; obtain ⟨q2, q3, q4, q5, q6, q7, q8⟩ := h2.v)
          | (go_at_call 9; (with_reducible refine (HFw.out _ h2).mono ?_); rintro e' w3 ⟨rfl, h3⟩; obtain ⟨r0, r1⟩ := h3.g; obtain ⟨r2, r3, r4, r5, r6, r7, r8⟩ := h3.v)
          | (go_at_call 10; (with_reducible refine (HT.out _ h3).mono ?_); rintro e' w4 ⟨p, pr, rfl, ht4, h4⟩; have HT4 := hid ht4; obtain ⟨s0, s1⟩ := h4.g; obtain ⟨s2, s3, s4, s5, s6, s7, s8⟩ := h4.v; clear ht4)
          | (go_at_call 11; (with_reducible refine (HL.out _ _ HT4.out h4).mono ?_); rintro e' w5 ⟨⟨B, c5, rfl⟩, h5⟩; obtain ⟨u0, u1⟩ := h5.g; obtain ⟨u2, u3, u4, u5, u6, u7, u8⟩ := h5.v)
          | (go_at_call 15; (with_reducible refine (HC.out _ h5).mono ?_); rintro e' w6 ⟨rfl, h6⟩; obtain ⟨v0, v1⟩ := h6.g; obtain ⟨v2, v3, v4, v5, v6, v7, v8⟩ := h6.v)
          | (go_at_call 14; (with_reducible refine (HNum.out _ _).mono ?_); rintro _ _ ⟨rfl, rfl⟩))
        go_ret
        exact ⟨rfl, h6.1⟩
    · have HR : compS N l x dn d = ([], m2) := by rw [compS_bad (by rw [hm2]; exact hz), hm2]
      rw [HR] at HL
      dsimp only [List.length_nil] at HL
      clear HR
      clear hN hO hg hs hw hf hd h0 hck hm1 hm2 hll
      have k1 : (m2 != 0) = true := bne_iff_ne.2 hz
      have k2 : (m2 == m2) = true := beq_self_eq_true _
      clear hz
      go_enter Try.func4, Try.ntmps4
      go_wp2_with (first
        | (go_at_call 7; (with_reducible refine (HA.out _ hS).mono ?_); rintro e' w1 ⟨rfl, h1⟩; obtain ⟨g0, g1⟩ := h1.g; obtain ⟨g2, g3, g4, g5, g6, g7, g8⟩ := h1.v)
        | (go_at_call 8; (with_reducible refine (HSm.out _ h1).mono ?_); rintro e' w2 ⟨rfl, h2⟩; obtain ⟨q0, q1⟩ := h2.g; obtain ⟨q2, q3, q4, q5, q6, q7, q8⟩ := h2.v)
        | (go_at_call 9; (with_reducible refine (HFw.out _ h2).mono ?_); rintro e' w3 ⟨rfl, h3⟩; obtain ⟨r0, r1⟩ := h3.g; obtain ⟨r2, r3, r4, r5, r6, r7, r8⟩ := h3.v)
        | (go_at_call 10; (with_reducible refine (HT.out _ h3).mono ?_); rintro e' w4 ⟨p, pr, rfl, ht4, h4⟩; have HT4 := hid ht4; obtain ⟨s0, s1⟩ := h4.g; obtain ⟨s2, s3, s4, s5, s6, s7, s8⟩ := h4.v; clear ht4)
        | (go_at_call 11; (with_reducible refine (HL.out _ _ HT4.out h4).mono ?_); rintro e' w5 ⟨⟨B, c5, rfl⟩, h5⟩; obtain ⟨u0, u1⟩ := h5.g; obtain ⟨u2, u3, u4, u5, u6, u7, u8⟩ := h5.v)
        | (go_at_call 15; (with_reducible refine (HC.out _ h5).mono ?_); rintro e' w6 ⟨rfl, h6⟩; obtain ⟨v0, v1⟩ := h6.g; obtain ⟨v2, v3, v4, v5, v6, v7, v8⟩ := h6.v)
        | (go_at_call 14; (with_reducible refine (HNum.out _ _).mono ?_); rintro _ _ ⟨rfl, rfl⟩))
      go_ret
      exact ⟨rfl, h6.1⟩
  · have HT := hid (show ∀ W, Held2 w nd A n c x y W → Calls Try.prog 10 #[.agg #[.int .i64 nd, .slice A n c]] W fun e w' => (∃ v1 v2, e = .returned (.tuple #[v1, v2, .bool false])) ∧ Held2 w nd A n c x y w' from fun W hh => by
      refine (tabs_any hN nd A n c l W (hg.on hh.1)).mono ?_
      rintro e w' ⟨hb, h1 | h1⟩
      · exact (hck h1.1).elim
      · exact ⟨h1.2, hh.next hb⟩)
    clear hN hO hg hs hw hf hd h0 hck hll
    go_enter Try.func4, Try.ntmps4
    go_wp2_with (first
      | (go_at_call 7; (with_reducible refine (HA.out _ hS).mono ?_); rintro e' w1 ⟨rfl, h1⟩; obtain ⟨g0, g1⟩ := h1.g; obtain ⟨g2, g3, g4, g5, g6, g7, g8⟩ := h1.v)
      | (go_at_call 8; (with_reducible refine (HSm.out _ h1).mono ?_); rintro e' w2 ⟨rfl, h2⟩; obtain ⟨q0, q1⟩ := h2.g; obtain ⟨q2, q3, q4, q5, q6, q7, q8⟩ := h2.v)
      | (go_at_call 9; (with_reducible refine (HFw.out _ h2).mono ?_); rintro e' w3 ⟨rfl, h3⟩; obtain ⟨r0, r1⟩ := h3.g; obtain ⟨r2, r3, r4, r5, r6, r7, r8⟩ := h3.v)
      | (go_at_call 10; (with_reducible refine (HT.out _ h3).mono ?_); rintro e' w4 ⟨⟨v1, v2, rfl⟩, h4⟩; obtain ⟨s0, s1⟩ := h4.g; obtain ⟨s2, s3, s4, s5, s6, s7, s8⟩ := h4.v))
    go_ret
    exact ⟨rfl, h4.1⟩
theorem compNone_any {TabAt : World → Addr → Nat → List Lnk → Prop} (hN : NewOps TabAt 16) (hO : CompOps TabAt 11) (nd : Int) (A : Option Addr) (n c : Nat) (l : List Lnk) (x : Wnt) (y : WSl) (Ad : Option Addr) (n' c' : Nat) (dn : List Bool) (d : Int) (w : World) (hg : GAny w nd A n c l) (hw : WArg w x y) (hd : RBl w w.heap.size Ad n' dn) (hc' : n' ≤ c') (hA' : Ad = none → n' = 0 ∧ c' = 0) (h0 : In64 d) :
    Calls Try.prog 4 #[.agg #[.int .i64 nd, .slice A n c], .agg #[.int .i64 x.frm, .int .i64 x.too, .int .i64 x.bnd, .slice y.av y.nv y.cv, .slice y.an y.nn y.cn, .slice y.al y.nl y.cl, .slice y.ac y.nc y.cc], .slice Ad n' c', .int .i64 d] w fun e w' => e = .returned (.bool true) ∧ Below w.heap.size w w' := by
  cases hs : smallB nd n with
  | false => exact compNone_out hN hO nd A n c x y Ad n' c' d w (.inl hs)
  | true =>
    cases hf : fewB y with
    | false => exact compNone_out hN hO nd A n c x y Ad n' c' d w (.inr (.inl hf))
    | true =>
      by_cases h : 200 < n'
      · exact compNone_out hN hO nd A n c x y Ad n' c' d w (.inr (.inr h))
      · exact compNone_in hN hO nd A n c l x y Ad n' c' dn d w hg hs hw hf ⟨hd, by omega, hc', hA'⟩ h0
end Go.Proofs.Ytgdbelccipjebaa
