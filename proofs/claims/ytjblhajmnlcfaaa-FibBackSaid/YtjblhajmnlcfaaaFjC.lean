/- The code of package fib: Segs; what the laws ask of package fib. -/
import Derived.Test.YtjblhajmnlcfaaaFjB
import Derived.Deep.RegionHeld3
import Derived.Deep.RegionLaw
import Derived.Deep.DeepCutAuto
namespace Go.Proofs.Ytjblhajmnlcfaaa
open Go.RowKit
set_option maxHeartbeats 6400000
set_option maxRecDepth 100000
theorem held_own {w W w8 : World} {nd : Int} {A : Option Addr} {n c : Nat} (h : Held w nd A n c W) (hg : W.grownBy w8 none) : Held w nd A n c w8 :=
  h.next (grown_below hg)
theorem held_app0 {w W w8 : World} {nd : Int} {A : Option Addr} {n c T s m : Nat} {v : Value} {xs : List Value} {o : Obj} (h : Held w nd A n c W) (ho : W.ownsRow (w.heap.size + 1) T s v m xs) (hg : (W.alloc o).grownBy w8 v.ownBlock) : Held w nd A n c w8 := held_app h ho hg
theorem segsGood_any (nd : Int) (A : Option Addr) (n c : Nat) (l : List Lnk) (A2 : Option Addr) (n2 c2 : Nat) (es : List En) (w : World) (hr : RLnk w w.heap.size A n l) (hck : (checkS nd l).2 = 0) (hnd : 1 ≤ nd ∧ nd ≤ 40) (hn : n ≤ 120) (h2 : REn w w.heap.size A2 n2 es) (hz : 0 < n2) (hn2 : n2 ≤ 40) (hes : ∀ e ∈ es, J64 e.lab) :
    Calls Try.prog 10 #[.agg #[.int .i64 nd, .slice A n c], .slice A2 n2 c2] w (SegsAns (segsS (segOf 0 nd n) es) w) := by
  have hS := Held.start w nd A n c
  obtain ⟨f, hf⟩ : ∃ f, segOf 0 nd n = f := ⟨_, rfl⟩
  have HSg := hid (fun (x : Int) (hx : J64 x) (W : World) (h : Held w nd A n c W) => segOfC_any nd A n c l x W (h.on hr) hnd hn hx)
  rw [hf] at HSg ⊢
  have HIs := hid (fun (W : World) (h : Held w nd A n c W) => isRight_any nd A n c l W (h.on hr))
  rw [hck] at HIs
  have HIs2 : Hid (∀ (W : World), Held w nd A n c W → Calls Try.prog 15 #[.agg #[.int .i64 nd, .slice A n c]] W fun e w' => e = .returned (.bool true) ∧ Below W.heap.size W w') := HIs.out
  clear HIs
  have HEs := hid hes
  have HR := hid h2
  have Hl := hid h2.1
  obtain ⟨i5, hi, hz0, hz1, hz2⟩ := info_parts (show (Try.prog.info? 26).map (fun i => (i.zero, i.size, i.bytes)) = some (some (.agg #[.bool false, .int .i64 0]), 2, 16) by kernel_rfl)
  have Ai := hid hi; have Az0 := hid hz0; have Az1 := hid hz1; have Az2 := hid hz2
  obtain ⟨w0, hw0⟩ : ∃ w0, w.alloc (.cells #[.int .i64 nd, .slice A n c] 24) = w0 := ⟨_, rfl⟩
  rw [hw0] at hS
  have HS := hid hS
  have Hw0 := hid hw0
  obtain ⟨g0, g1⟩ := hS.cells
  have t1 : decide ((0 : Int) < (n2 : Int)) = true := decide_eq_true (by omega)
  have t2 : decide (0 < n2) = true := decide_eq_true hz
  clear hi hz0 hz1 hz2 h2 hf hr hS hw0 hck hes
  go_enter Try.func10, Try.ntmps10
  go_upto_region 1 with fail
  rw [Hw0.out]
  go_wp2_with (first
    | (go_at_call 15; (with_reducible refine (HIs2.out _ HS.out).mono ?_); rintro e' w1 ⟨rfl, hb1⟩; have h1 := hid (HS.out.next hb1))
    | (at_make; refine wpList_make_own _ rfl _ _ 27 rfl (w.heap.size + 1) 26 i5 (.agg #[.bool false, .int .i64 0]) 2 Try.underlying27 Ai.out Az0.out Az1.out _ _ _ n2 rfl rfl rfl (by rw [Az2.out]; omega) (by unfold maxLen; omega) (by have := h1.out.lt; omega) ?_; intro w2 hown2 hg2; have HO2 := hid hown2; have HH2 := hid (held_own h1.out hg2); clear hown2 hg2))
  clear t1 t2 g0 g1
  go_loopw [6, 24] (fun ov iv wr => ∃ k : Nat, k ≤ n2 ∧ iv = .int .i64 k ∧ Hid (wr.ownsRow (w.heap.size + 1) 26 2 ov k (scells2 (segUp f es k))) ∧ Hid (∀ (i : Nat) (e : En), i < k → es[i]? = some e → (f e.lab).isSome = true) ∧ Hid (Held w nd A n c wr)) (fun _ iv _ => n2 - (intOf iv).toNat)
  case atStart => exact ⟨0, Nat.zero_le _, rfl, HO2.out, fun i s h _ => by omega, HH2.out⟩
  case round =>
    obtain ⟨k, hk, rfl, HO, HG, HH⟩ := hrel
    obtain ⟨Ao, co, ho⟩ := own_form HO.out
    subst ho
    by_cases hlt : k < n2
    · obtain ⟨e, he⟩ : ∃ e, es[k]? = some e := ⟨es[k]'(by rw [Hl.out]; exact hlt), List.getElem?_eq_getElem _⟩
      obtain ⟨b, off, rfl, hbl, hc⟩ := HR.out.2 (by omega)
      have hxJ := HEs.out e (List.mem_of_getElem? he)
      obtain ⟨x, eb, ec, ed⟩ := e
      have hxJ : J64 x := hxJ
      obtain ⟨c0, c1, c2, c3⟩ := hc k ⟨x, eb, ec, ed⟩ he
      have c0 := (HH.out.1.cell (p := ⟨b, off + k * 4, none⟩) hbl).trans c0
      have c1 := (HH.out.1.cell (p := ⟨b, off + k * 4 + 1, none⟩) hbl).trans c1
      have c2 := (HH.out.1.cell (p := ⟨b, off + k * 4 + 2, none⟩) hbl).trans c2
      have c3 := (HH.out.1.cell (p := ⟨b, off + k * 4 + 3, none⟩) hbl).trans c3
      obtain ⟨wE, hwE⟩ : ∃ wE, wr.alloc (.cells #[.int .i64 x, .int .i64 eb, .int .i64 ec, .bool ed] 38) = wE := ⟨_, rfl⟩
      have hEs : wE.heap.size = wr.heap.size + 1 := by rw [← hwE]; simp
      have hxE := heap_alloc_new wr (.cells #[.int .i64 x, .int .i64 eb, .int .i64 ec, .bool ed] 38)
      have hHE := HH.out.next ((Below.refl _ _).alloc (Nat.le_refl _) (.cells #[.int .i64 x, .int .i64 eb, .int .i64 ec, .bool ed] 38))
      have hOE := HO.out.alloc (.cells #[.int .i64 x, .int .i64 eb, .int .i64 ec, .bool ed] 38)
      obtain ⟨q0, q1⟩ := hHE.cells
      rw [hwE] at hxE hHE hOE
      have HSx : Hid (∀ W, Below wE.heap.size wE W → Held w nd A n c W ∧ (W.cell? ⟨w.heap.size, 0, none⟩ = some (.int .i64 nd) ∧ W.cell? ⟨w.heap.size, 1, none⟩ = some (.slice A n c) ∧ W.cell? ⟨wr.heap.size, 0, none⟩ = some (.int .i64 x))) := fun W hb => by
        have h1 := hHE.next hb
        have h2 := box_below hxE hb (by omega)
        exact ⟨h1, h1.cells.1, h1.cells.2, by rw [cell_of_row _ _ _ _ _ _ h2]; rfl⟩
      have hHE0 := hid hHE
      have HO := hid hOE
      have t1 : decide ((k : Int) < (n2 : Int)) = true := decide_eq_true (by omega)
      have t2 : decide (k < n2) = true := decide_eq_true hlt
      have i0 : (0 : Int) ≤ (k : Int) := by omega
      have i1 : (k : Int) < (n2 : Int) := by omega
      have ewk : IntKind.i64.wrap ((k : Int) + 1) = (k : Int) + 1 := by rw [IntKind.wrap_i64]; omega
      have He := hid he
      have HSe := hid (HSg.out x hxJ)
      have HwE := hid hwE
      have HEs2 := hid hEs
      clear hwE hxE hHE hOE hxJ hEs
      cases hfx : f x with
      | none =>
        rw [hfx] at HSe
        have HSe2 : Hid (∀ (W : World), Held w nd A n c W → Calls Try.prog 16 #[.agg #[.int .i64 nd, .slice A n c], .int .i64 x] W fun e w' => e = .returned (.tuple #[.agg #[.bool false, .int .i64 0], .bool false]) ∧ Below W.heap.size W w') := HSe.out
        have HV : Hid (segsS f es = none) := segs_bad He.out hfx
        clear he hc hfx HSe
        go_wp2_with (go_at_call 16; rw [HwE.out]; (with_reducible refine (HSe2.out _ hHE0.out).mono ?_); rintro e' w5 ⟨rfl, hb5⟩; have H5 := hid (HSx.out _ hb5))
        go_ret2
        rw [HV.out]
        exact ⟨_, rfl, World.ownsRow_nil _ _ _ _, (H5.out.1.next ((Below.refl _ _).alloc (Nat.le_refl _) (.cells #[.bool false, .int .i64 0] 26))).1⟩
      | some s =>
        obtain ⟨se, st⟩ := s
        rw [hfx] at HSe
        have HSe2 : Hid (∀ (W : World), Held w nd A n c W → Calls Try.prog 16 #[.agg #[.int .i64 nd, .slice A n c], .int .i64 x] W fun e w' => e = .returned (.tuple #[.agg #[.bool se, .int .i64 st], .bool true]) ∧ Below W.heap.size W w') := HSe.out
        have HG2 : Hid (∀ (i : Nat) (e : En), i < k + 1 → es[i]? = some e → (f e.lab).isSome = true) := fun i e' h1 h2 => by
          rcases Nat.lt_succ_iff_lt_or_eq.1 h1 with h3 | rfl
          · exact HG.out i e' h3 h2
          · rw [He.out] at h2; cases h2; show (f x).isSome = true; rw [hfx]; rfl
        have hUp := segUp_succ (f := f) he hfx
        have HRh := hid (fun (v8 : Value) (w8 : World) (h : w8.ownsRow (w.heap.size + 1) 26 2 v8 (k + 1) (scells2 (segUp f es k) ++ scells2 [⟨se, st⟩])) => (by rw [hUp, scells2_app]; exact h : w8.ownsRow (w.heap.size + 1) 26 2 v8 (k + 1) (scells2 (segUp f es (k + 1)))))
        clear he hc hfx hUp HSe
        go_wp2_with (first
          | (go_at_call 16; rw [HwE.out]; (with_reducible refine (HSe2.out _ hHE0.out).mono ?_); rintro e' w5 ⟨rfl, hb5⟩; have H5 := hid ((HSx.out _ hb5).1.next ((Below.refl _ _).alloc (Nat.le_refl _) (.cells #[.bool se, .int .i64 st] 26))); have HO8 := hid ((own_below HO.out hb5).alloc (.cells #[.bool se, .int .i64 st] 26)))
          | (at_builtin; refine wpList_append_own _ rfl (.tmp 37) (.tmp 39) 27 rfl (w.heap.size + 1) 26 i5 (.agg #[.bool false, .int .i64 0]) 2 16 Try.underlying27 Ai.out Az0.out Az1.out Az2.out rfl (by decide) _ _ _ rfl (HO8.out.alloc _) ⟨_, 0, none⟩ 1 1 (scells2 [⟨se, st⟩]) rfl rfl (new_row2s (show _ = (scells2 [⟨se, st⟩]).toArray from rfl)) (scells2_one _) (by unfold maxLen; omega) (by omega) (by have := H5.out.lt; simp at this ⊢; omega) ?_; intro v8 w8 hown8 hg8 _; have HO9 := hid hown8; have HH9 := hid (held_app H5.out HO8.out hg8); clear hown8))
        go_roundw
        case rel => exact ⟨k + 1, by omega, by go_num, HRh.out _ _ HO9.out, HG2.out, HH9.out⟩
        case measure => simp [intOf]; omega
    · obtain rfl : k = n2 := by omega
      have HV : Hid (segsS f es = some (segUp f es k)) := by
        show _ = _
        rw [segs_good (fun i e h => HG.out i e (by have := (List.getElem?_eq_some_iff.1 h).1; have := Hl.out; omega) h)]
        unfold segUp
        rw [List.take_of_length_le (by have := Hl.out; omega)]
      have hlen := segUp_len (f := f) (l := es) (k := k) (by have := Hl.out; omega)
      have Hlen := hid hlen
      have t1 : decide ((k : Int) < (k : Int)) = false := decide_eq_false (by omega)
      have t2 : decide (k < k) = false := decide_eq_false (by omega)
      clear hlen
      go_wp2_with fail
      go_ret2
      rw [HV.out]
      refine ⟨_, rfl, ?_, HH.out.1⟩
      show World.ownsRow _ _ _ _ _ (segUp f es k).length _
      rw [Hlen.out]
      exact own_mono HO.out (Nat.le_succ _)
theorem segsZero_any (nd : Int) (A : Option Addr) (n c : Nat) (A2 : Option Addr) (c2 : Nat) (f : Int → Option Sg) (w : World) :
    Calls Try.prog 10 #[.agg #[.int .i64 nd, .slice A n c], .slice A2 0 c2] w (SegsAns (segsS f []) w) := by
  obtain ⟨i5, hi, hz0, hz1, hz2⟩ := info_parts (show (Try.prog.info? 26).map (fun i => (i.zero, i.size, i.bytes)) = some (some (.agg #[.bool false, .int .i64 0]), 2, 16) by kernel_rfl)
  have Ai := hid hi; have Az0 := hid hz0; have Az1 := hid hz1; have Az2 := hid hz2
  have b1 : Below w.heap.size w (w.alloc (.cells #[.int .i64 nd, .slice A n c] 24)) := (Below.refl _ _).alloc (Nat.le_refl _) _
  clear hi hz0 hz1 hz2
  have e0 : ((0 : Nat) : Int) = 0 := rfl
  go_enter Try.func10, Try.ntmps10
  go_wp2_with (at_make; refine wpList_make_own _ rfl _ _ 27 rfl w.heap.size 26 i5 (.agg #[.bool false, .int .i64 0]) 2 Try.underlying27 Ai.out Az0.out Az1.out _ _ _ 0 rfl rfl rfl (by rw [Az2.out]; omega) (by unfold maxLen; omega) (by simp) ?_; intro w2 hown2 hg2; have HO2 := hid hown2; have HB2 := hid (b1.trans ((grown_below hg2).mono b1.size)); clear hown2 hg2)
  refine wp_loop_rounds 1 ?_
  rw [rounds_succ]
  go_wp2_with fail
  go_ret2
  refine ⟨_, rfl, ?_, HB2.out⟩
  have h := HO2.out
  simp only [size_alloc_eq] at h
  exact h
theorem segsC_any (nd : Int) (A : Option Addr) (n c : Nat) (l : List Lnk) (A2 : Option Addr) (n2 c2 : Nat) (es : List En) (w : World) (hg : GArg w nd A n c l) (h2 : REn w w.heap.size A2 n2 es) (hn2 : n2 ≤ 40) (hes : ∀ e ∈ es, J64 e.lab) :
    Calls Try.prog 10 #[.agg #[.int .i64 nd, .slice A n c], .slice A2 n2 c2] w (SegsAns (segsS (segOf (checkS nd l).2 nd n) es) w) := by
  by_cases hz : 0 < n2
  · by_cases hc : (checkS nd l).2 = 0
    · obtain ⟨h1, h2', h3, -⟩ := checkS_ok hc
      have hll := hg.row.1
      rw [hc]
      exact segsGood_any nd A n c l A2 n2 c2 es w hg.row hc (by omega) (by omega) h2 hz hn2 hes
    · have hS := Held.start w nd A n c
      have HIs := hid (fun (W : World) (h : Held w nd A n c W) => isRight_any nd A n c l W (h.on hg.row))
      have t : ((checkS nd l).2 == 0) = false := beq_eq_false_iff_ne.2 hc
      rw [t] at HIs
      have HV : Hid (segsS (segOf (checkS nd l).2 nd n) es = none) := by
        obtain ⟨e, he⟩ : ∃ e, es[0]? = some e := ⟨es[0]'(by rw [h2.1]; exact hz), List.getElem?_eq_getElem _⟩
        refine segs_bad he ?_
        unfold segOf; rw [if_pos hc]
      obtain ⟨w0, hw0⟩ : ∃ w0, w.alloc (.cells #[.int .i64 nd, .slice A n c] 24) = w0 := ⟨_, rfl⟩
      rw [hw0] at hS
      have Hw0 := hid hw0
      obtain ⟨g0, g1⟩ := hS.cells
      have HS := hid hS
      have t1 : decide ((0 : Int) < (n2 : Int)) = true := decide_eq_true (by omega)
      have t2 : decide (0 < n2) = true := decide_eq_true hz
      clear hg h2 hes hS hw0 hc t hz
      go_enter Try.func10, Try.ntmps10
      go_upto_region 1 with fail
      rw [Hw0.out]
      go_wp2_with (go_at_call 15; (with_reducible refine (HIs.out _ HS.out).mono ?_); rintro e' w1 ⟨rfl, hb1⟩; have h1 := hid (HS.out.next hb1))
      go_ret2
      rw [HV.out]
      exact ⟨_, rfl, World.ownsRow_nil _ _ _ _, h1.out.1⟩
  · obtain rfl : n2 = 0 := by omega
    obtain rfl : es = [] := List.eq_nil_of_length_eq_zero h2.1
    exact segsZero_any nd A n c A2 c2 _ w
theorem fib_spec : FibSpec 12 6 8 10 where
  label := fun s w _ => label_any s w
  seg := fun nd A n c l x w hg hx => segC_any nd A n c l x w hg hx
  stack := fun A n c l ttl w h hn _ _ _ _ => by
    refine (stackC_any A n c l ttl w h hn).mono ?_
    rintro e w' ⟨v, rfl, ho, hb⟩
    obtain ⟨A', c', rfl, hc, hr⟩ := own_ens ho rfl
    exact ⟨A', c', rfl, ⟨hc, own_none ho⟩, hr, hb⟩
  segs := fun nd A n c l A2 n2 c2 es w hg h2 hn2 _ _ hes => by
    refine (segsC_any nd A n c l A2 n2 c2 es w hg h2 hn2 hes).mono ?_
    rintro e w' ⟨v, rfl, ho, hb⟩
    obtain ⟨A', c', rfl, -, hr⟩ := own_segs ho rfl
    exact ⟨A', c', rfl, hr, hb⟩
end Go.Proofs.Ytjblhajmnlcfaaa
