/- Merged: CtH CtI. -/
import Derived.Test.YtkemcgbedapkcaaG15
import Derived.Test.YtkemcgbedapkcaaG10
import Derived.Test.YtkemcgbedapkcaaG21
import Derived.Test.YtkemcgbedapkcaaG18
import Derived.Lib.SliceRun
import Derived.Test.YtkemcgbedapkcaaG23
/- compile: segmentsAt; slices.Clone of segments. -/
namespace Go.Proofs.Ytkemcgbedapkcaa
open Go.RowKit
set_option maxHeartbeats 12800000
set_option maxRecDepth 100000
theorem segs_src {w : World} {B n : Nat} {A : Option Addr} {l : List Sg} (h : RSeg w B A n l) : ∀ ad, A = some ad → ∀ (j : Nat) (u : Value), (scells2 l)[j]? = some u → w.cell? (ad.add j) = some u := by
  intro ad hA j u hu
  have hj : j < (scells2 l).length := (List.getElem?_eq_some_iff.1 hu).1
  rw [scells2_len] at hj
  obtain ⟨b, off, hb, _, hc⟩ := h.2 (by rw [← h.1]; omega)
  rw [hA] at hb
  injection hb with hb
  subst hb
  rw [Go.WideShapes.add_plain]
  obtain ⟨e, he⟩ : ∃ e, l[j / 2]? = some e := ⟨l[j / 2]'(by omega), List.getElem?_eq_getElem _⟩
  obtain ⟨h1, h2⟩ := hc _ _ he
  obtain ⟨h3, h4⟩ := scells2_at he
  rcases Nat.mod_two_eq_zero_or_one j with hm | hm
  · rw [show j / 2 * 2 = j by omega] at h1 h3
    rw [hu] at h3
    injection h3 with h3
    rw [h3]; exact h1
  · rw [show j / 2 * 2 + 1 = j by omega] at h4
    rw [show off + j / 2 * 2 + 1 = off + j by omega] at h2
    rw [hu] at h4
    injection h4 with h4
    rw [h4]; exact h2
theorem eq_nil_segs (a : Option Addr) (n c n' c' : Nat) (w : World) : (binOp .eql 31 (.slice a n c) (.slice none n' c')).run Try.prog w = .ok (.bool a.isNone) w := Lib.run_eql_slice_nil w _ _ a n c n' c' Try.underlying31
theorem cloneSegs_any (A : Option Addr) (n c : Nat) (l : List Sg) (w : World) (hr : RSeg w w.heap.size A n l) (hn : n ≤ 1000) (hA : A = none → n = 0 ∧ c = 0) :
    Calls Try.prog 51 #[.slice A n c] w fun e w' => ∃ A' c', e = .returned (.slice A' n c') ∧ w'.ownsRow w.heap.size 46 2 (.slice A' n c') n (scells2 l) ∧ Below w.heap.size w w' := by
  obtain ⟨i5, hi, hz0, hz1, hz2⟩ := info_parts (show (Try.prog.info? 46).map (fun i => (i.zero, i.size, i.bytes)) = some (some (.agg #[.bool false, .int .i64 0]), 2, 16) by kernel_rfl)
  have Ai := hid hi; have Az0 := hid hz0; have Az1 := hid hz1; have Az2 := hid hz2
  clear hi hz0 hz1 hz2
  have hl := hr.1
  have HR := hid (segs_src hr)
  have q := eq_nil_segs
  have HA := hid hA
  clear hr hA
  cases A with
  | none =>
    obtain ⟨rfl, rfl⟩ := HA.out rfl
    obtain rfl : l = [] := List.length_eq_zero_iff.1 hl
    clear HR HA Ai Az0 Az1 Az2
    go_enter Try.func51, Try.ntmps51
    go_wp2_with fail
    go_ret
    exact ⟨_, _, rfl, World.ownsRow_nil _ _ _ _, Below.refl _ _⟩
  | some ad =>
    go_enter Try.func51, Try.ntmps51
    go_wp2_with (at_builtin; refine wpList_append_own _ rfl _ _ 31 rfl w.heap.size 46 i5 (.agg #[.bool false, .int .i64 0]) 2 16 Try.underlying31 Ai.out Az0.out Az1.out Az2.out rfl (by decide) _ _ _ rfl (World.ownsRow_made w #[] 0 (Nat.le_refl _) (Nat.zero_le _) (by simp)) ad n c (scells2 l) rfl (by rw [scells2_len, hl]) (fun j u hj => alloc_cell _ (HR.out ad rfl j u hj)) (scells2_one _) (by unfold maxLen; omega) (by omega) (by simp) ?_; intro v3 w3 hown3 hg3 _; rw [Nat.zero_add, List.nil_append] at hown3; obtain ⟨A3, c3, rfl⟩ := own_form hown3; have HO3 := hid hown3; have HG3 := hid hg3; clear hown3 hg3)
    go_ret
    exact ⟨A3, c3, rfl, HO3.out, ((Below.refl _ w).alloc (Nat.le_refl _) _).grown HG3.out (by simp) (fun k hk => by have hk' : some w.heap.size = some k := hk; injection hk' with hk'; omega)⟩
theorem row_beside {w w8 : World} {b1 b2 n1 n2 : Nat} {v1 v2 : Value} {xs ys : List Value} {o : Obj} (h : w.ownsRow b1 3 1 v1 n1 xs) (h2 : w.ownsRow b2 46 2 v2 n2 ys) (hg : (w.alloc o).grownBy w8 v2.ownBlock) : w8.ownsRow b1 3 1 v1 n1 xs :=
  (h.alloc o).kept hg (own_apart (h.alloc o) (h2.alloc o) (by decide))
/-- The segments that may lead on from a node. -/
def segsA (N : Nat) (l : List Lnk) (node : Int) : List Sg := segU false N ++ (outS l node (2 * l.length)).map fun e => ⟨true, e⟩
def segE (L : List Int) : List Sg := L.map fun e => ⟨true, e⟩
theorem segE_len (L : List Int) : (segE L).length = L.length := List.length_map ..
theorem segE_succ {L : List Int} {q : Nat} {e : Int} (h : L[q]? = some e) : segE (L.take (q + 1)) = segE (L.take q) ++ [⟨true, e⟩] := by
  unfold segE
  rw [List.take_add_one, h, List.map_append]; rfl
theorem segsAt_any (N : Nat) (A : Option Addr) (n c : Nat) (l : List Lnk) (node : Int) (w : World) (hr : RLnk w w.heap.size A n l) (hN : N ≤ 40) (hn : n ≤ 120) :
    Calls Try.prog 49 #[.agg #[.int .i64 (N : Int), .slice A n c], .int .i64 node] w fun e w' => (∃ v, e = .returned v ∧ w'.ownsRow 0 46 2 v (segsA N l node).length (scells2 (segsA N l node))) ∧ Below w.heap.size w w' := by
  have hS := Held.start w (N : Int) A n c
  have hl := hr.1
  obtain ⟨L, hL⟩ : ∃ L, outS l node (2 * l.length) = L := ⟨_, rfl⟩
  obtain ⟨m, hm⟩ : ∃ m, L.length = m := ⟨_, rfl⟩
  have hmn : m ≤ 2 * n := by rw [← hm, ← hL, ← hl]; exact outS_len ..
  have HSeg : Hid (segsA N l node = segU false N ++ segE L) := by show _ = _; unfold segsA segE; rw [hL]
  have HOut := hid (fun W (hb : Below w.heap.size w W) => out_any (N : Int) A n c l node W (hr.on hb) (by omega))
  have HOA : Hid (∀ W e W', OutAns l node W e W' → ∃ A' c', e = .returned (.slice A' m c') ∧ W'.ownsRow 0 3 1 (.slice A' m c') m (icells L) ∧ Below W.heap.size W W') := by
    intro W e W' h
    obtain ⟨v, rfl, hown, hb⟩ := h
    rw [hL, hm] at hown
    obtain ⟨A', c', rfl⟩ := own_form hown
    exact ⟨A', c', rfl, own_mono hown (Nat.zero_le _), hb⟩
  obtain ⟨i5, hi, hz0, hz1, hz2⟩ := info_parts (show (Try.prog.info? 46).map (fun i => (i.zero, i.size, i.bytes)) = some (some (.agg #[.bool false, .int .i64 0]), 2, 16) by kernel_rfl)
  have Ai := hid hi; have Az0 := hid hz0; have Az1 := hid hz1; have Az2 := hid hz2
  obtain ⟨w0, hw0⟩ : ∃ w0, w.alloc (.cells #[.int .i64 (N : Int), .slice A n c] 24) = w0 := ⟨_, rfl⟩
  rw [hw0] at hS
  obtain ⟨g0, g1⟩ := hS.cells
  have HS := hid hS
  have Hw0 := hid hw0
  clear hi hz0 hz1 hz2 hS hw0 hr hL
  go_enter Try.func49, Try.ntmps49
  go_upto_region 1 with fail
  rw [Hw0.out]
  go_wp2_with fail
  clear g0 g1
  go_loopw [5, 11] (fun ov iv wr => ∃ k : Nat, k ≤ N ∧ iv = .int .i64 k ∧ Hid (wr.ownsRow (w.heap.size + 1) 46 2 ov k (scells2 (segU false k))) ∧ Hid (Held w (N : Int) A n c wr)) (fun _ iv _ => N - (intOf iv).toNat)
  case atStart => exact ⟨0, Nat.zero_le _, rfl, World.ownsRow_nil _ _ _ _, HS.out⟩
  case round =>
    obtain ⟨k, hk, rfl, HO, HH⟩ := hrel
    obtain ⟨Ao, co, ho⟩ := own_form HO.out
    subst ho
    obtain ⟨g0, g1⟩ := HH.out.cells
    by_cases hlt : k < N
    · have t1 : decide ((k : Int) < (N : Int)) = true := decide_eq_true (by omega)
      have ewk : IntKind.i64.wrap ((k : Int) + 1) = (k : Int) + 1 := by rw [IntKind.wrap_i64]; omega
      have HRh := hid (fun (v8 : Value) (w8 : World) (h : w8.ownsRow (w.heap.size + 1) 46 2 v8 (k + 1) (scells2 (segU false k) ++ scells2 [⟨false, (k : Int)⟩])) => (by rw [segU_succ, scells2_app]; exact h : w8.ownsRow (w.heap.size + 1) 46 2 v8 (k + 1) (scells2 (segU false (k + 1)))))
      go_wp2_with (at_builtin; refine wpList_append_own _ rfl (.tmp 14) (.tmp 17) 31 rfl (w.heap.size + 1) 46 i5 (.agg #[.bool false, .int .i64 0]) 2 16 Try.underlying31 Ai.out Az0.out Az1.out Az2.out rfl (by decide) _ _ _ rfl (HO.out.alloc _) ⟨wr.heap.size, 0, none⟩ 1 1 (scells2 [⟨false, (k : Int)⟩]) rfl rfl (new_row (show _ = (scells2 [⟨false, (k : Int)⟩]).toArray from rfl)) (scells2_one _) (by unfold maxLen; omega) (by omega) (by have := HH.out.lt; simp at this ⊢; omega) ?_; intro v8 w8 hown8 hg8 _; have HO9 := hid hown8; have HH9 := hid (held_app HH.out HO.out hg8); clear hown8)
      go_roundw
      case rel => exact ⟨k + 1, by omega, by go_num, HRh.out _ _ HO9.out, HH9.out⟩
      case measure => simp [intOf]; omega
    · obtain rfl : k = N := by omega
      have t1 : decide ((k : Int) < (k : Int)) = false := decide_eq_false (by omega)
      have HB : Hid (Below w.heap.size w wr) := HH.out.1
      go_wp2_with (go_at_call 61; (with_reducible refine (HOut.out _ HB.out).mono ?_); intro e' w3 hans; obtain ⟨A3, c3, rfl, hown3, hb3⟩ := HOA.out _ _ _ hans; have HL3 := hid hown3; have HO3 := hid (own_below HO.out hb3); have HH3 := hid (HH.out.next hb3); clear hans hown3 hb3)
      go_loopw [5, 24] (fun ov iv wr => ∃ q : Nat, q ≤ m ∧ iv = .int .i64 q ∧ Hid (wr.ownsRow (w.heap.size + 1) 46 2 ov (k + q) (scells2 (segU false k ++ segE (L.take q)))) ∧ Hid (wr.ownsRow 0 3 1 (.slice A3 m c3) m (icells L)) ∧ Hid (Held w (k : Int) A n c wr)) (fun _ iv _ => m - (intOf iv).toNat)
      case atStart => exact ⟨0, Nat.zero_le _, rfl, by show World.ownsRow _ _ _ _ _ _ _; rw [show segE (L.take 0) = [] from rfl, List.append_nil]; exact HO3.out, HL3, HH3⟩
      case round =>
        obtain ⟨q, hq, rfl, HO2, HL2, HH2⟩ := hrel
        obtain ⟨Ap, cp, hp⟩ := own_form HO2.out
        subst hp
        by_cases hlq : q < m
        · have t2 : decide ((q : Int) < (m : Int)) = true := decide_eq_true (by omega)
          have t3 : decide (q < m) = true := decide_eq_true hlq
          have ewq : IntKind.i64.wrap ((q : Int) + 1) = (q : Int) + 1 := by rw [IntKind.wrap_i64]; omega
          obtain ⟨e, he⟩ : ∃ e, L[q]? = some e := ⟨_, List.getElem?_eq_getElem (by omega)⟩
          obtain ⟨A6, c6, hA6, _, hr6⟩ := own_ints HL2.out hm
          cases hA6
          obtain ⟨b6, o6, rfl, -, hc6⟩ := hr6.2 (by omega)
          have hce := hc6 q e he
          clear hc6 hr6
          have HRh := hid (fun (v8 : Value) (w8 : World) (h : w8.ownsRow (w.heap.size + 1) 46 2 v8 (k + q + 1) (scells2 (segU false k ++ segE (L.take q)) ++ scells2 [⟨true, e⟩])) => (by rw [segE_succ he, ← List.append_assoc, scells2_app]; exact h : w8.ownsRow (w.heap.size + 1) 46 2 v8 (k + (q + 1)) (scells2 (segU false k ++ segE (L.take (q + 1))))))
          clear he
          go_wp2_with (at_builtin; refine wpList_append_own _ rfl (.tmp 28) (.tmp 31) 31 rfl (w.heap.size + 1) 46 i5 (.agg #[.bool false, .int .i64 0]) 2 16 Try.underlying31 Ai.out Az0.out Az1.out Az2.out rfl (by decide) _ _ _ rfl (HO2.out.alloc _) ⟨_, 0, none⟩ 1 1 (scells2 [⟨true, e⟩]) rfl rfl (new_row (show _ = (scells2 [⟨true, e⟩]).toArray from rfl)) (scells2_one _) (by unfold maxLen; omega) (by omega) (by have := HH2.out.lt; simp at this ⊢; omega) ?_; intro v8 w8 hown8 hg8 _; have HO9 := hid hown8; have HH9 := hid (held_app HH2.out HO2.out hg8); have HL9 := hid (row_beside HL2.out HO2.out hg8); clear hown8)
          go_roundw
          case rel => exact ⟨q + 1, by omega, by go_num, HRh.out _ _ HO9.out, HL9.out, HH9.out⟩
          case measure => simp [intOf]; omega
        · obtain rfl : q = m := by omega
          have t2 : decide ((q : Int) < (q : Int)) = false := decide_eq_false (by omega)
          have t3 : decide (q < q) = false := decide_eq_false (by omega)
          go_wp2_with fail
          go_ret
          refine ⟨⟨_, rfl, ?_⟩, HH2.out.1⟩
          have ho := own_mono HO2.out (Nat.zero_le _)
          rw [List.take_of_length_le (Nat.le_of_eq hm)] at ho
          rw [HSeg.out, List.length_append, segU_len, segE_len, hm]
          exact ho
end Go.Proofs.Ytkemcgbedapkcaa

/- compile: meet. -/
namespace Go.Proofs.Ytkemcgbedapkcaa
open Go.RowKit
set_option maxHeartbeats 12800000
set_option maxRecDepth 100000
/-- Which states were met. -/
def MetB (w : World) (B : Nat) (S : List (Int × Int)) : Prop := ∃ cs : Array Value, w.heap[B]? = some (.cells cs 105 (0, 0)) ∧ cs.size = 240 ∧ ∀ a b : Nat, a < 40 → b < 6 → cs[a * 6 + b]? = some (.bool (decide (((a : Int), (b : Int)) ∈ S)))
theorem MetB.cell {w : World} {B : Nat} {S : List (Int × Int)} (h : MetB w B S) {a b : Nat} (ha : a < 40) (hb : b < 6) : w.cell? ⟨B, a * 6 + b, none⟩ = some (.bool (decide (((a : Int), (b : Int)) ∈ S))) := by
  obtain ⟨cs, h1, _, h2⟩ := h
  rw [cell_of_row _ _ _ _ _ _ h1]; exact h2 a b ha hb
theorem MetB.frozen {w : World} {B : Nat} {S : List (Int × Int)} (h : MetB w B S) (j : Nat) : w.frozen? ⟨B, j, none⟩ = false := by
  obtain ⟨cs, h1, _⟩ := h
  exact frozen_of_row _ _ _ _ _ h1
theorem MetB.lt {w : World} {B : Nat} {S : List (Int × Int)} (h : MetB w B S) : B < w.heap.size := by
  obtain ⟨cs, h1, _⟩ := h
  exact blk_lt h1
theorem MetB.but {w w' : World} {B M : Nat} {S : List (Int × Int)} (h : MetB w B S) (hb : But M w w') (hne : B ≠ M) : MetB w' B S := by
  obtain ⟨cs, h1, h2⟩ := h
  exact ⟨cs, box_but h1 hb hne, h2⟩
theorem MetB.below {w w' : World} {B k : Nat} {S : List (Int × Int)} (h : MetB w B S) (hb : Below k w w') (hk : B < k) : MetB w' B S := by
  obtain ⟨cs, h1, h2⟩ := h
  exact ⟨cs, box_below h1 hb hk, h2⟩
theorem MetB.set {w : World} {B : Nat} {S : List (Int × Int)} (h : MetB w B S) {a b : Nat} (ha : a < 40) (hb : b < 6) : MetB (w.setCell ⟨B, a * 6 + b, none⟩ (.bool true)) B (((a : Int), (b : Int)) :: S) := by
  obtain ⟨cs, h1, h2, h3⟩ := h
  refine ⟨_, heap_setCell_same w B (a * 6 + b) _ _ (.bool true) h1, by simpa using h2, fun a' b' ha' hb' => ?_⟩
  rw [Array.getElem?_setIfInBounds]
  by_cases he : a * 6 + b = a' * 6 + b'
  · have e1 : a = a' := by omega
    have e2 : b = b' := by omega
    subst e1 e2
    rw [if_pos rfl, if_pos (by omega)]
    simp
  · rw [if_neg he, h3 a' b' ha' hb']
    have : ((a' : Int), (b' : Int)) ≠ ((a : Int), (b : Int)) := by
      intro e
      injection e with e1 e2
      exact he (by omega)
    simp [this]
theorem MetB.same {w : World} {B : Nat} {S S' : List (Int × Int)} (h : MetB w B S) (hs : ∀ p, p ∈ S ↔ p ∈ S') : MetB w B S' := by
  obtain ⟨cs, h1, h2, h3⟩ := h
  exact ⟨cs, h1, h2, fun a b ha hb => by rw [h3 a b ha hb]; simp only [hs]⟩
theorem meet_any (B : Nat) (a b : Nat) (S : List (Int × Int)) (w : World) (h : MetB w B S) (ha : a < 40) (hb : b < 6) (v : Bool) (hv : decide (((a : Int), (b : Int)) ∈ S) = v) :
    Calls Try.prog 48 #[.pointer (some ⟨B, 0, none⟩), .agg #[.int .i64 (a : Int), .int .i64 (b : Int)]] w fun e w' => e = .returned (.bool (!v)) ∧ MetB w' B (((a : Int), (b : Int)) :: S) ∧ But B w w' := by
  have hlt := h.lt
  have hx := heap_alloc_new w (.cells #[.int .i64 (a : Int), .int .i64 (b : Int)] 92)
  have hW := h.below ((Below.refl w.heap.size w).alloc (Nat.le_refl _) (.cells #[.int .i64 (a : Int), .int .i64 (b : Int)] 92)) hlt
  have c0 := hW.cell ha hb
  rw [hv] at c0
  have f0 := hW.frozen (a * 6 + b)
  obtain ⟨z0, z1, -⟩ := box_cells hx
  have ha' : (a : Int) < 40 := by omega
  have hb' : (b : Int) < 6 := by omega
  have HW := hid hW
  clear h hx hW hv
  go_enter Try.func48, Try.ntmps48
  go_wp2_with fail
  go_big_quiet (fail)
  go_wp2_with fail
  go_ret
  refine ⟨rfl, MetB.set (HW.out.below (Below.drewN' _ nq) HW.out.lt) ha hb, ?_⟩
  exact (But.of (((Below.refl w.heap.size w).alloc (Nat.le_refl _) _).trans ((Below.drewN' _ nq).mono (by simp)))).trans But.set
end Go.Proofs.Ytkemcgbedapkcaa
