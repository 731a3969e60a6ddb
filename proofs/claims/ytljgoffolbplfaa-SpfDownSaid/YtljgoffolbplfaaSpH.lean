/- SpfNext. -/
import Derived.Test.YtljgoffolbplfaaSpG
import Derived.Test.YtljgoffolbplfaaWdD
namespace Go.Proofs.Ytljgoffolbplfaa
open Go.RowKit
set_option maxHeartbeats 6400000
set_option maxRecDepth 100000
theorem ints_src {w : World} {B n : Nat} {A : Option Addr} {l : List Int} (h : RInt w B A n l) : ∀ ad, A = some ad → ∀ (j : Nat) (u : Value), (icells l)[j]? = some u → w.cell? (ad.add j) = some u := by
  intro ad hA j u hu
  have hj : j < (icells l).length := (List.getElem?_eq_some_iff.1 hu).1
  rw [icells_len, h.1] at hj
  obtain ⟨b, off, h1, _, hc⟩ := h.2 (by omega)
  rw [h1] at hA
  simp only [Option.some.injEq] at hA
  subst hA
  rw [Go.WideShapes.add_plain]
  simp only [icells, List.getElem?_map, Option.map_eq_some_iff] at hu
  obtain ⟨x, hx, rfl⟩ := hu
  exact hc j x hx
theorem own_targ {w : World} {base m c : Nat} {A : Option Addr} {l : List Int} (h : w.ownsRow base 3 1 (.slice A m c) m (icells l)) (hl : l.length = m) (hm : m ≤ 60) (hs : ∀ x ∈ l, -1099511627776 ≤ x ∧ x ≤ 1099511627776) : TArg w A m c l := by
  refine ⟨own_ri h hl, hm, ?_, ?_, hs⟩
  · rcases h.2 with ⟨h1, h2⟩ | ⟨g, cap, cur, h1, _, _, h2, _⟩
    · omega
    · simp only [Value.slice.injEq] at h1; omega
  · intro hA
    subst hA
    rcases h.2 with ⟨h1, h2⟩ | ⟨g, cap, cur, h1, _⟩
    · simp only [Value.slice.injEq] at h1; exact ⟨h2, h1.2.2⟩
    · simp at h1
theorem spfNext_out (hF : FromSpec 27) (nd : Int) (A : Option Addr) (n c : Nat) (Ad : Option Addr) (n' c' : Nat) (At : Option Addr) (n2 c2 : Nat) (node : Int) (w : World) (h : 130 < n ∨ 200 < n' ∨ 60 < n2) :
    Calls Try.prog 8 #[.agg #[.int .i64 nd, .slice A n c], .slice Ad n' c', .slice At n2 c2, .int .i64 node] w fun e w' => e = .returned (.bool true) ∧ Below w.heap.size w w' := by
  have hS := Held.start w nd A n c
  have HA := hid (fun (w' : World) (h : Held w nd A n c w') => h.calls (alive_any hF w'))
  by_cases h1 : 130 < n
  · have t1 : decide ((130 : Int) < (n : Int)) = true := by simp; omega
    clear h h1 hF
    go_enter Try.func8, Try.ntmps8
    go_wp2_with (go_at_call 25; (with_reducible refine (HA.out _ hS).mono ?_); rintro e' w1 ⟨rfl, h1⟩; obtain ⟨g0, g1⟩ := h1.cells)
    go_ret
    exact ⟨rfl, h1.1⟩
  · have t1 : decide ((130 : Int) < (n : Int)) = false := by simp; omega
    by_cases h2 : 200 < n'
    · have t2 : decide ((200 : Int) < (n' : Int)) = true := by simp; omega
      clear h h1 h2 hF
      go_enter Try.func8, Try.ntmps8
      go_wp2_with (go_at_call 25; (with_reducible refine (HA.out _ hS).mono ?_); rintro e' w1 ⟨rfl, h1⟩; obtain ⟨g0, g1⟩ := h1.cells)
      go_ret
      exact ⟨rfl, h1.1⟩
    · have t2 : decide ((200 : Int) < (n' : Int)) = false := by simp; omega
      have t3 : decide ((60 : Int) < (n2 : Int)) = true := by simp; omega
      clear h h1 h2 hF
      go_enter Try.func8, Try.ntmps8
      go_wp2_with (go_at_call 25; (with_reducible refine (HA.out _ hS).mono ?_); rintro e' w1 ⟨rfl, h1⟩; obtain ⟨g0, g1⟩ := h1.cells)
      go_ret
      exact ⟨rfl, h1.1⟩
theorem spfNext_in (hF : FromSpec 27) (hX : NextSpec 29) (nd : Int) (A : Option Addr) (n c : Nat) (l : List Lnk) (Ad : Option Addr) (n' c' : Nat) (dn : List Bool) (At : Option Addr) (n2 c2 : Nat) (to : List Int) (node : Int) (w : World) (hg : GArg w nd A n c l) (hd : DArg w Ad n' c' dn)
    (hr : RInt w w.heap.size At n2 to) (hn2 : n2 ≤ 60) (hc2 : n2 ≤ c2) (hA2 : At = none → n2 = 0 ∧ c2 = 0) (hnd1 : -9223372036854775808 ≤ node) (hnd2 : node ≤ 9223372036854775807) :
    Calls Try.prog 8 #[.agg #[.int .i64 nd, .slice A n c], .slice Ad n' c', .slice At n2 c2, .int .i64 node] w fun e w' => e = .returned (.bool true) ∧ Below w.heap.size w w' := by
  have hS := Held.start w nd A n c
  have t1 : decide ((130 : Int) < (n : Int)) = false := by have := hg.len; simp; omega
  have t2 : decide ((200 : Int) < (n' : Int)) = false := by have := hd.len; simp; omega
  have t3 : decide ((60 : Int) < (n2 : Int)) = false := by simp; omega
  obtain ⟨i5, hi, hz0, hz1, hz2⟩ := info_parts (show (Try.prog.info? 3).map (fun i => (i.zero, i.size, i.bytes)) = some (some (.int .i64 0), 1, 8) by kernel_rfl)
  have Ai := hid hi; have Az0 := hid hz0; have Az1 := hid hz1; have Az2 := hid hz2
  clear hi hz0 hz1 hz2
  have HA := hid (fun (w' : World) (h : Held w nd A n c w') => h.calls (alive_any hF w'))
  obtain ⟨Y, hY⟩ : ∃ Y, nextS nd l dn to node = Y := ⟨_, rfl⟩
  obtain ⟨my, hmy⟩ : ∃ my, Y.length = my := ⟨_, rfl⟩
  have hmy2 : my ≤ 1000 := by rw [← hmy, ← hY]; have := nextS_len nd l dn to node; have h2 := hg.len; have h3 := hg.row.1; omega
  have HN := hid (fun (Ax : Option Addr) (cx : Nat) (w' : World) (h : Held w nd A n c w') (hx : TArg w' Ax n2 cx to) => held_ints h hmy (hY ▸ hX nd A n c l Ad n' c' dn Ax n2 cx to node w' (hg.on h.1) (hd.on h.1) hx hnd1 hnd2))
  have HN' := hid (fun (w' : World) (h : Held w nd A n c w') (hx : TArg w' At n2 c2 to) => held_ints h hmy (hY ▸ refNext_spec nd A n c l Ad n' c' dn At n2 c2 to node w' (hg.on h.1) (hd.on h.1) hx hnd1 hnd2))
  have HSy := hid (fun (A1 A2 : Option Addr) (c1 c2 : Nat) (w' : World) (h1 : RInt w' w'.heap.size A1 my Y) (h2 : RInt w' w'.heap.size A2 my Y) => same_any A1 A2 my c1 c2 Y w' h1 h2 (by omega))
  have hlen := hr.1
  have HRt := hid hr
  have HA2 := hid hA2
  clear hF hX hg hd hY hmy hr hA2
  go_enter Try.func8, Try.ntmps8
  go_wp2_with (go_at_call 25; (with_reducible refine (HA.out _ hS).mono ?_); rintro e' w1 ⟨rfl, h1⟩; obtain ⟨g0, g1⟩ := h1.cells)
  go_loopw [10] (fun i wr => ∃ k : Nat, k ≤ n2 ∧ i = .int .i64 k ∧ wr = w1 ∧ Hid (∀ x ∈ to.take k, -1099511627776 ≤ x ∧ x ≤ 1099511627776)) (fun i _ => n2 - (intOf i).toNat)
  case atStart => exact ⟨0, Nat.zero_le _, rfl, rfl, hid (by simp)⟩
  case round =>
    obtain ⟨k, hk, rfl, hww, HQ⟩ := hrel
    have hws := hww.symm
    subst hws
    clear hww
    by_cases hlt : k < n2
    · obtain ⟨x, hx⟩ : ∃ x, to[k]? = some x := ⟨to[k]'(by omega), List.getElem?_eq_getElem _⟩
      obtain ⟨b, off, rfl, hb, hc⟩ := (HRt.out.below h1.1).2 (by omega)
      have c0 := hc k x hx
      have HM := hid (fun (y : Int) => mem_take_succ (k := y) hx)
      clear hc hx
      by_cases hx1 : 1099511627776 < x
      · have u1 : decide (1099511627776 < x) = true := by simpa using hx1
        clear hx1
        go_wp2_with fail
        go_ret
        exact ⟨rfl, h1.1⟩
      · have u1 : decide (1099511627776 < x) = false := by simpa using hx1
        by_cases hx2 : x < -1099511627776
        · have u2 : decide (x < -1099511627776) = true := by simpa using hx2
          clear hx1 hx2
          go_wp2_with fail
          go_ret
          exact ⟨rfl, h1.1⟩
        · have u2 : decide (x < -1099511627776) = false := by simpa using hx2
          have HQ2 : Hid (∀ y ∈ to.take (k + 1), -1099511627776 ≤ y ∧ y ≤ 1099511627776) := fun y hy => by
            rcases (HM.out y).1 hy with h | h
            · exact HQ.out y h
            · subst h; omega
          clear hx1 hx2
          go_wp2_with fail
          go_roundw
          case rel => exact ⟨k + 1, by omega, by go_num, by first | rfl | trivial, HQ2.out⟩
          case measure => simp [intOf]; omega
    · obtain rfl : n2 = k := by omega
      have hsm : ∀ x ∈ to, -1099511627776 ≤ x ∧ x ≤ 1099511627776 := by
        have := HQ.out
        rwa [List.take_of_length_le (by omega)] at this
      have Hsm := hid hsm
      have h1d := h1.drew
      have HTd := hid (HRt.out.on h1d.1)
      clear hsm
      go_wp2_with fail
      go_region_held3 (fun w' => w'.cell? ⟨w.heap.size, 0, none⟩ = some (.int .i64 nd) ∧ w'.cell? ⟨w.heap.size, 1, none⟩ = some (.slice A n c))
        (first
          | go_keep
          | exact s6
          | exact s5
          | exact s4
          | exact s3)
        (first
          | ((refine step_copy_any (by rfl) (.const (.slice none 0 0)) (.tmp 51) 35 (by rfl) w1.heap.size 3 i5 (.int .i64 0) 1 8 Try.underlying35 Ai.out Az0.out Az1.out Az2.out rfl (by decide) (by rfl) At n2 c2 (icells to) (by rfl) HA2.out (by rw [icells_len, hlen]; omega) (ints_src HTd.out) (icells_one _) (by unfold maxLen; omega) (by omega) (Nat.le_refl _) ?_; intro D cD w3 hown3 hb3; have h3 := h1d.next hb3; have s3 := h3.cells; have HO3 := hid hown3; clear hown3))
          | (go_at_call 29; (with_reducible refine (HN.out _ _ _ h3 (own_targ HO3.out hlen hn2 Hsm.out)).mono ?_); rintro e' w4 ⟨A4, c4, rfl, r4, b4, h4⟩; have s4 := h4.cells; have R4 := hid r4.1; clear r4)
          | (go_at_call 30; (with_reducible refine (HN'.out _ h4 (TArg.mk (HTd.out.on (bt hb3 b4)) hn2 hc2 HA2.out Hsm.out)).mono ?_); rintro e' w5 ⟨A5, c5, rfl, r5, b5, h5⟩; have s5 := h5.cells; have R5 := hid r5.1; clear r5)
          | (go_at_call 20; (with_reducible refine (HSy.out A4 A5 c4 c5 _ (R4.out.on b5) R5.out).mono ?_); rintro e' w6 ⟨rfl, b6⟩; have h6 := h5.next b6; have s6 := h6.cells))
      go_wp2_with fail
      go_ret
      exact ⟨rfl, h6.1⟩
theorem spfNext_any (hF : FromSpec 27) (hX : NextSpec 29) (nd : Int) (A : Option Addr) (n c : Nat) (l : List Lnk) (Ad : Option Addr) (n' c' : Nat) (dn : List Bool) (At : Option Addr) (n2 c2 : Nat) (to : List Int) (node : Int) (w : World) (hr : RLnk w w.heap.size A n l) (hc : n ≤ c) (hA : A = none → n = 0 ∧ c = 0) (hd : RBl w w.heap.size Ad n' dn) (hc' : n' ≤ c') (hA' : Ad = none → n' = 0 ∧ c' = 0)
    (ht : RInt w w.heap.size At n2 to) (hc2 : n2 ≤ c2) (hA2 : At = none → n2 = 0 ∧ c2 = 0) (h1 : -9223372036854775808 ≤ nd ∧ nd ≤ 9223372036854775807) (h2 : -9223372036854775808 ≤ node ∧ node ≤ 9223372036854775807) :
    Calls Try.prog 8 #[.agg #[.int .i64 nd, .slice A n c], .slice Ad n' c', .slice At n2 c2, .int .i64 node] w fun e w' => e = .returned (.bool true) ∧ Below w.heap.size w w' := by
  by_cases h : 130 < n ∨ 200 < n' ∨ 60 < n2
  · exact spfNext_out hF nd A n c Ad n' c' At n2 c2 node w h
  · exact spfNext_in hF hX nd A n c l Ad n' c' dn At n2 c2 to node w ⟨hr, by omega, hc, hA, h1.1, h1.2⟩ ⟨hd, by omega, hc', hA'⟩ ht (by omega) hc2 hA2 h2.1 h2.2
end Go.Proofs.Ytljgoffolbplfaa
