/- strings.Clone, slices.Clone at numbers. -/
import Derived.Test.YthoblabimkfjpaaPrA
import Derived.Test.YthoblabimkfjpaaWdT
import Derived.Test.YthoblabimkfjpaaShS
import Derived.Lib.SliceRun
namespace Go.Proofs.Ythoblabimkfjpaa
open Go.RowKit
set_option maxHeartbeats 6400000
set_option maxRecDepth 100000
/-- What a function answers that makes a row of numbers. -/
def IntAns (L : List Int) (w : World) (e : Ending) (w' : World) : Prop :=
  ∃ v, e = .returned v ∧ w'.ownsRow w.heap.size 3 1 v L.length (icells L) ∧ Below w.heap.size w w'
theorem ints_src {w : World} {B n : Nat} {A : Option Addr} {l : List Int} (h : RInt w B A n l) : ∀ ad, A = some ad → ∀ (j : Nat) (u : Value), (icells l)[j]? = some u → w.cell? (ad.add j) = some u := by
  intro ad hA j u hu
  simp only [icells, List.getElem?_map, Option.map_eq_some_iff] at hu
  obtain ⟨x, hx, rfl⟩ := hu
  have hj : j < l.length := (List.getElem?_eq_some_iff.1 hx).1
  obtain ⟨b, off, hb, _, hc⟩ := h.2 (by rw [← h.1]; omega)
  rw [hA] at hb
  injection hb with hb
  subst hb
  rw [Go.WideShapes.add_plain]
  exact hc j x hx
theorem eq_nil_ints (a : Option Addr) (n c n' c' : Nat) (w : World) : (binOp .eql 49 (.slice a n c) (.slice none n' c')).run Try.prog w = .ok (.bool a.isNone) w := Lib.run_eql_slice_nil w _ _ a n c n' c' Try.underlying49
theorem alloc_cell {w : World} {p : Addr} {v : Value} (o : Obj) (h : w.cell? p = some v) : (w.alloc o).cell? p = some v := Lib.cell?_alloc_some _ h
theorem cloneInts_any (A : Option Addr) (n c : Nat) (L : List Int) (w : World) (hr : RInt w w.heap.size A n L) (hn : n ≤ 1000) (hA : A = none → n = 0 ∧ c = 0) :
    Calls Try.prog 48 #[.slice A n c] w (IntAns L w) := by
  obtain ⟨i5, hi, hz0, hz1, hz2⟩ := info_parts (show (Try.prog.info? 3).map (fun i => (i.zero, i.size, i.bytes)) = some (some (.int .i64 0), 1, 8) by kernel_rfl)
  have Ai := hid hi; have Az0 := hid hz0; have Az1 := hid hz1; have Az2 := hid hz2
  clear hi hz0 hz1 hz2
  have hl := hr.1
  have HR := hid (ints_src hr)
  have q := eq_nil_ints
  have HA := hid hA
  clear hr hA
  cases A with
  | none =>
    obtain ⟨rfl, rfl⟩ := HA.out rfl
    obtain rfl : L = [] := List.length_eq_zero_iff.1 hl
    clear HR HA Ai Az0 Az1 Az2
    go_enter Try.func48, Try.ntmps48
    go_wp2_with fail
    go_ret
    exact ⟨_, rfl, World.ownsRow_nil _ _ _ _, Below.refl _ _⟩
  | some ad =>
    go_enter Try.func48, Try.ntmps48
    go_wp2_with (at_builtin; refine wpList_append_own _ rfl _ _ 49 rfl w.heap.size 3 i5 (.int .i64 0) 1 8 Try.underlying49 Ai.out Az0.out Az1.out Az2.out rfl (by decide) _ _ _ rfl (World.ownsRow_made w #[] 0 (Nat.le_refl _) (Nat.zero_le _) (by simp)) ad n c (icells L) rfl (by rw [icells_len]; omega) (fun j u hj => alloc_cell _ (HR.out ad rfl j u hj)) (icells_one _) (by unfold maxLen; omega) (by omega) (by simp) ?_; intro v3 w3 hown3 hg3 _; have HO3 := hid hown3; have HG3 := hid hg3; clear hown3 hg3)
    go_ret
    refine ⟨v3, rfl, ?_, ((Below.refl _ w).alloc (Nat.le_refl _) _).grown HG3.out (by simp) (fun k hk => by have hk' : some w.heap.size = some k := hk; injection hk' with hk'; omega)⟩
    have := HO3.out
    rw [Nat.zero_add, List.nil_append, ← hl] at this
    exact this
theorem cloneStr_any (s : List UInt8) (w : World) (h : s.length ≤ 10000) : Calls Try.prog 47 #[.string (txt s)] w fun e w' => e = .returned (.string (txt s)) ∧ Below w.heap.size w w' := by
  have HC := hid (fun (W : World) => stringslite_Clone (txt s) W (by show s.length ≤ _; omega))
  go_enter Try.func47, Try.ntmps47
  go_wp2_with (go_at_call 58; (with_reducible refine (HC.out _).mono ?_); rintro e' w1 ⟨rfl, hb1⟩)
  go_ret
  exact ⟨rfl, hb1⟩
end Go.Proofs.Ythoblabimkfjpaa
