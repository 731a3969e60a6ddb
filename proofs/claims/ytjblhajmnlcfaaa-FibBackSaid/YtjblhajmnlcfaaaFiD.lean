/- The reference's Segs. -/
import Derived.Test.YtjblhajmnlcfaaaFiC
import Derived.Deep.RegionHeld3
import Derived.Deep.RegionLaw
import Derived.Deep.DeepCutAuto
namespace Go.Proofs.Ytjblhajmnlcfaaa
open Go.RowKit
set_option maxHeartbeats 6400000
set_option maxRecDepth 100000
/-- What Segs answers: a row of the call's own, or nothing. -/
def SegsAns (o : Option (List Sg)) (w : World) (e : Ending) (w' : World) : Prop :=
  ∃ v, e = .returned (.tuple #[v, .bool o.isSome]) ∧ w'.ownsRow w.heap.size 26 2 v (o.getD []).length (scells2 (o.getD [])) ∧ Below w.heap.size w w'
def segUp (f : Int → Option Sg) (l : List En) (k : Nat) : List Sg := (l.take k).map fun e => (f e.lab).getD noSg
theorem segUp_len {f : Int → Option Sg} {l : List En} {k : Nat} (h : k ≤ l.length) : (segUp f l k).length = k := by unfold segUp; rw [List.length_map, List.length_take]; omega
theorem segUp_succ {f : Int → Option Sg} {l : List En} {k : Nat} {e : En} {s : Sg} (h : l[k]? = some e) (hs : f e.lab = some s) : segUp f l (k + 1) = segUp f l k ++ [s] := by
  unfold segUp
  rw [List.take_add_one, h, List.map_append]
  simp [hs]
theorem pst_lt2 {w : World} {B : Nat} {o : Obj} (h : w.heap[B]? = some o) : B < w.heap.size := (Array.getElem?_eq_some_iff.1 h).1
theorem new_row2s {w : World} {o : Obj} {xs : List Value} {cs : Array Value} {t : TypeId} (h : cs = xs.toArray) : ∀ (j : Nat) (u : Value), xs[j]? = some u → ((w.alloc o).alloc (.cells cs t)).cell? ((⟨w.heap.size + 1, 0, none⟩ : Addr).add j) = some u := by
  intro j u hu
  have := new_row (w := w.alloc o) (t := t) h j u hu
  rwa [show (w.alloc o).heap.size = w.heap.size + 1 from by simp] at this
theorem new_row3 {w : World} {p q : Addr} {a b : Value} {xs : List Value} {cs : Array Value} {t : TypeId} (h : cs = xs.toArray) : ∀ (j : Nat) (u : Value), xs[j]? = some u → (((w.setCell p a).setCell q b).alloc (.cells cs t)).cell? ((⟨w.heap.size, 0, none⟩ : Addr).add j) = some u := by
  intro j u hu
  have := new_row (w := (w.setCell p a).setCell q b) (t := t) h j u hu
  rwa [show ((w.setCell p a).setCell q b).heap.size = w.heap.size from by simp] at this
theorem held_app {w W w8 : World} {nd : Int} {A : Option Addr} {n c T s m : Nat} {v : Value} {xs : List Value} {o : Obj} (h : Held w nd A n c W) (ho : W.ownsRow (w.heap.size + 1) T s v m xs) (hg : (W.alloc o).grownBy w8 v.ownBlock) : Held w nd A n c w8 := by
  refine ⟨Below.grown (h.1.alloc h.1.size _) hg (by have := h.1.size; simp; omega) (fun q hq => by have := (ho.lt q hq).1; omega), ?_⟩
  have hl := h.lt
  rw [hg.block w.heap.size (by simp; omega) (fun e => by have := (ho.lt _ e.symm).1; omega)]
  exact box_below h.2 ((Below.refl _ _).alloc (Nat.le_refl _) o) hl
theorem refSegs_any (nd : Int) (A : Option Addr) (n c : Nat) (l : List Lnk) (A2 : Option Addr) (n2 c2 : Nat) (es : List En) (w : World) (hr : RLnk w w.heap.size A n l) (hn : n ≤ 1000000) (h2 : REn w w.heap.size A2 n2 es) (hn2 : n2 ≤ 1000000) :
    Calls Try.prog 11 #[.agg #[.int .i64 nd, .slice A n c], .slice A2 n2 c2] w (SegsAns (segsS (segOf (checkS nd l).2 nd n) es) w) := by
  have hS := Held.start w nd A n c
  obtain ⟨f, hf⟩ : ∃ f, segOf (checkS nd l).2 nd n = f := ⟨_, rfl⟩
  have HSg := hid (fun (x : Int) (W : World) (h : Held w nd A n c W) => refSegOf_any nd A n c l x W (h.on hr) hn)
  rw [hf] at HSg ⊢
  have HR := hid h2
  have Hl := hid h2.1
  obtain ⟨i5, hi, hz0, hz1, hz2⟩ := info_parts (show (Try.prog.info? 26).map (fun i => (i.zero, i.size, i.bytes)) = some (some (.agg #[.bool false, .int .i64 0]), 2, 16) by kernel_rfl)
  have Ai := hid hi; have Az0 := hid hz0; have Az1 := hid hz1; have Az2 := hid hz2
  obtain ⟨w0, hw0⟩ : ∃ w0, w.alloc (.cells #[.int .i64 nd, .slice A n c] 24) = w0 := ⟨_, rfl⟩
  rw [hw0] at hS
  have HS := hid hS
  have Hw0 := hid hw0
  clear hi hz0 hz1 hz2 h2 hf hr hS hw0
  go_enter Try.func11, Try.ntmps11
  go_upto_region 1 with fail
  rw [Hw0.out]
  go_wp2_with fail
  go_loopw [6, 7] (fun ov iv wr => ∃ k : Nat, k ≤ n2 ∧ iv = .int .i64 k ∧ Hid (wr.ownsRow (w.heap.size + 1) 26 2 ov k (scells2 (segUp f es k))) ∧ Hid (∀ (i : Nat) (e : En), i < k → es[i]? = some e → (f e.lab).isSome = true) ∧ Hid (Held w nd A n c wr)) (fun _ iv _ => n2 - (intOf iv).toNat)
  case atStart => exact ⟨0, Nat.zero_le _, rfl, World.ownsRow_nil _ _ _ _, fun i s h _ => by omega, HS.out⟩
  case round =>
    obtain ⟨k, hk, rfl, HO, HG, HH⟩ := hrel
    obtain ⟨Ao, co, ho⟩ := own_form HO.out
    subst ho
    by_cases hlt : k < n2
    · obtain ⟨e, he⟩ : ∃ e, es[k]? = some e := ⟨es[k]'(by rw [Hl.out]; exact hlt), List.getElem?_eq_getElem _⟩
      obtain ⟨b, off, rfl, hbl, hc⟩ := HR.out.2 (by omega)
      have HSx : Hid (∀ W, Below wr.heap.size wr W → Held w nd A n c W ∧ (W.cell? ⟨w.heap.size, 0, none⟩ = some (.int .i64 nd) ∧ W.cell? ⟨w.heap.size, 1, none⟩ = some (.slice A n c) ∧ W.cell? ⟨b, off + k * 4, none⟩ = some (.int .i64 e.lab))) := fun W hb => by
        have h1 := HH.out.next hb
        exact ⟨h1, h1.cells.1, h1.cells.2, (h1.1.cell (p := ⟨b, off + k * 4, none⟩) hbl).trans (hc k e he).1⟩
      have hbD : Below wr.heap.size wr wr.drew := Below.drew (Below.refl _ _)
      have hbA : Below wr.heap.size wr (wr.alloc (.cells #[.bool false, .int .i64 0] 26)).drew := ((Below.refl _ _).alloc (Nat.le_refl _) _).drew
      have hXA : (wr.alloc (.cells #[.bool false, .int .i64 0] 26)).drew.heap[wr.heap.size]? = some (.cells #[.bool false, .int .i64 0] 26 (0, 0)) := heap_alloc_new wr _
      have sA := (HSx.out _ hbA).2
      have sD := (HSx.out _ hbD).2
      have hD := (HSx.out _ hbD).1
      have hA := (HSx.out _ hbA).1
      have t1 : decide ((k : Int) < (n2 : Int)) = true := decide_eq_true (by omega)
      have t2 : decide (k < n2) = true := decide_eq_true hlt
      have i0 : (0 : Int) ≤ (k : Int) := by omega
      have i1 : (k : Int) < (n2 : Int) := by omega
      have ewk : IntKind.i64.wrap ((k : Int) + 1) = (k : Int) + 1 := by rw [IntKind.wrap_i64]; omega
      have He := hid he
      have HSe := hid (HSg.out e.lab)
      obtain ⟨x, hx⟩ : ∃ x, e.lab = x := ⟨_, rfl⟩
      rw [hx] at HSe HSx sD sA
      have Hx := hid hx
      cases hfx : f x with
      | none =>
        rw [hfx, show segV none = Value.tuple #[.agg #[.bool false, .int .i64 0], .bool false] from rfl] at HSe
        have HV : Hid (segsS f es = none) := segs_bad he (by rw [hx]; exact hfx)
        clear he hc hx hfx
        go_wp2_with fail
        go_region_held3 (fun W => W.cell? ⟨w.heap.size, 0, none⟩ = some (.int .i64 nd) ∧ W.cell? ⟨w.heap.size, 1, none⟩ = some (.slice A n c) ∧ W.cell? ⟨b, off + k * 4, none⟩ = some (.int .i64 x))
          (first | go_keep | exact s5 | exact s6 | exact s7 | exact sA | exact sD)
          (first
            | (go_at_call 7; (with_reducible refine (HSe.out _ hD).mono ?_); rintro e' w5 ⟨rfl, hb5⟩; have HB5 := hid (hbD.trans hb5); have s5 := (HSx.out _ HB5.out).2)
            | (go_at_call 7; (with_reducible refine (HSe.out _ hA).mono ?_); rintro e' w6 ⟨rfl, hb6⟩; have HB6 := hid (hbA.trans (hb6.mono hbA.size)); have hX6 := box_below hXA hb6 (pst_lt2 hXA); obtain ⟨b0, b1, bf⟩ := box_cells hX6; have HX6 := hid hX6; clear hX6; have HB7 := hid ((HB6.out.setCell (p := ⟨wr.heap.size, 0, none⟩) (Nat.le_refl _) (.bool false)).setCell (p := ⟨wr.heap.size, 1, none⟩) (Nat.le_refl _) (.int .i64 0)); have s7 := (HSx.out _ HB7.out).2; have s6 := (HSx.out _ HB6.out).2))
        · go_wp2_with fail
          go_ret2
          rw [HV.out]
          exact ⟨_, rfl, World.ownsRow_nil _ _ _ _, (HSx.out _ (HB5.out.alloc HB5.out.size (.cells #[.bool false, .int .i64 0] 26))).1.1⟩
        · go_wp2_with fail
          go_ret2
          rw [HV.out]
          exact ⟨_, rfl, World.ownsRow_nil _ _ _ _, (HSx.out _ HB7.out).1.1⟩
      | some s =>
        rw [hfx, show segV (some s) = Value.tuple #[.agg #[.bool s.edge, .int .i64 s.too], .bool true] from rfl] at HSe
        have HG2 : Hid (∀ (i : Nat) (e : En), i < k + 1 → es[i]? = some e → (f e.lab).isSome = true) := fun i e' h1 h2 => by
          rcases Nat.lt_succ_iff_lt_or_eq.1 h1 with h3 | rfl
          · exact HG.out i e' h3 h2
          · rw [He.out] at h2; cases h2; rw [Hx.out, hfx]; rfl
        have hUp := segUp_succ (f := f) he (by rw [hx]; exact hfx)
        obtain ⟨se, st⟩ := s
        have HRh := hid (fun (v8 : Value) (w8 : World) (h : w8.ownsRow (w.heap.size + 1) 26 2 v8 (k + 1) (scells2 (segUp f es k) ++ scells2 [⟨se, st⟩])) => (by rw [hUp, scells2_app]; exact h : w8.ownsRow (w.heap.size + 1) 26 2 v8 (k + 1) (scells2 (segUp f es (k + 1)))))
        clear he hc hx hfx hUp
        go_wp2_with fail
        go_region_held3 (fun W => W.cell? ⟨w.heap.size, 0, none⟩ = some (.int .i64 nd) ∧ W.cell? ⟨w.heap.size, 1, none⟩ = some (.slice A n c) ∧ W.cell? ⟨b, off + k * 4, none⟩ = some (.int .i64 x))
          (first | go_keep | exact s5 | exact s6 | exact s7 | exact sA | exact sD)
          (first
            | (go_at_call 7; (with_reducible refine (HSe.out _ hD).mono ?_); rintro e' w5 ⟨rfl, hb5⟩; have HB5 := hid (hbD.trans hb5); have s5 := (HSx.out _ HB5.out).2)
            | (go_at_call 7; (with_reducible refine (HSe.out _ hA).mono ?_); rintro e' w6 ⟨rfl, hb6⟩; have HB6 := hid (hbA.trans (hb6.mono hbA.size)); have hX6 := box_below hXA hb6 (pst_lt2 hXA); obtain ⟨b0, b1, bf⟩ := box_cells hX6; have HX6 := hid hX6; clear hX6; have HB7 := hid ((HB6.out.setCell (p := ⟨wr.heap.size, 0, none⟩) (Nat.le_refl _) (.bool se)).setCell (p := ⟨wr.heap.size, 1, none⟩) (Nat.le_refl _) (.int .i64 st)); have s7 := (HSx.out _ HB7.out).2; have s6 := (HSx.out _ HB6.out).2))
        · have HO8 := hid (own_below HO.out (HB5.out.alloc HB5.out.size (.cells #[.bool se, .int .i64 st] 26)))
          have HH8 := hid ((HSx.out _ (HB5.out.alloc HB5.out.size (.cells #[.bool se, .int .i64 st] 26))).1)
          go_wp2_with (first | (at_builtin; refine wpList_append_own _ rfl (.tmp 28) (.tmp 30) 27 rfl (w.heap.size + 1) 26 i5 (.agg #[.bool false, .int .i64 0]) 2 16 Try.underlying27 Ai.out Az0.out Az1.out Az2.out rfl (by decide) _ _ _ rfl (HO8.out.alloc _) ⟨_, 0, none⟩ 1 1 (scells2 [⟨se, st⟩]) rfl rfl (new_row2s (show _ = (scells2 [⟨se, st⟩]).toArray from rfl)) (scells2_one _) (by unfold maxLen; omega) (by omega) (by have := HH8.out.lt; simp at this ⊢; omega) ?_; intro v8 w8 hown8 hg8 _; have HO9 := hid hown8; have HH9 := hid (held_app HH8.out HO8.out hg8); clear hown8))
          go_roundw
          case rel => exact ⟨k + 1, by omega, by go_num, HRh.out _ _ HO9.out, HG2.out, HH9.out⟩
          case measure => simp [intOf]; omega
        · have HO8 := hid (own_below HO.out HB7.out)
          have HH8 := hid ((HSx.out _ HB7.out).1)
          go_wp2_with (first | (at_builtin; refine wpList_append_own _ rfl (.tmp 28) (.tmp 30) 27 rfl (w.heap.size + 1) 26 i5 (.agg #[.bool false, .int .i64 0]) 2 16 Try.underlying27 Ai.out Az0.out Az1.out Az2.out rfl (by decide) _ _ _ rfl (HO8.out.alloc _) ⟨_, 0, none⟩ 1 1 (scells2 [⟨se, st⟩]) rfl rfl (new_row3 (show _ = (scells2 [⟨se, st⟩]).toArray from rfl)) (scells2_one _) (by unfold maxLen; omega) (by omega) (by have := HH8.out.lt; simp at this ⊢; omega) ?_; intro v8 w8 hown8 hg8 _; have HO9 := hid hown8; have HH9 := hid (held_app HH8.out HO8.out hg8); clear hown8))
          go_roundw
          case rel => exact ⟨k + 1, by omega, by go_num, HRh.out _ _ HO9.out, HG2.out, HH9.out⟩
          case measure => simp [intOf]; omega
    · obtain rfl : k = n2 := by omega
      have HV : Hid (segsS f es = some (segUp f es k)) := by
        show _ = _
        rw [segs_good (fun i e h => HG.out i e (by have := (List.getElem?_eq_some_iff.1 h).1; have := Hl.out; omega) h)]
        unfold segUp
        rw [List.take_of_length_le (by have := Hl.out; omega)]
      have hlen := segUp_len (f := f) (l := es) (k := k) (by have := Hl.out; omega)
      have Hlen := hid hlen
      have t1 : decide ((k : Int) < (k : Int)) = false := decide_eq_false (by omega)
      have t2 : decide (k < k) = false := decide_eq_false (by omega)
      clear hlen
      go_wp2_with fail
      go_ret2
      rw [HV.out]
      refine ⟨_, rfl, ?_, HH.out.1⟩
      show World.ownsRow _ _ _ _ _ (segUp f es k).length _
      rw [Hlen.out]
      exact own_mono HO.out (Nat.le_succ _)
end Go.Proofs.Ytjblhajmnlcfaaa
