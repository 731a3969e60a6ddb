/- alive. -/
import Derived.Test.YtddddfcalknmlaaTlT
namespace Go.Proofs.Ytddddfcalknmlaa
open Go.RowKit
set_option maxHeartbeats 3200000
set_option maxRecDepth 100000
def it1 : Itm := ⟨1, [0, 2, 1]⟩
def by6 : List UInt8 := [1, 0, 3, 0, 2, 1]
theorem by6_put : outP [it1] = by6 := by decide
theorem by6_chk : chk [it1] = 0 := by decide
theorem by6_rep : repI by6 = some [(2, 1)] := by
  have h : getI by6 = some [it1] := by
    have := getI_put (l := [it1]) (by decide) (by decide)
    rwa [show putI [it1] = by6 by decide] at this
  unfold repI
  rw [h]
  decide
theorem put_it1 (w : World) : Calls Try.prog 8 #[.slice (some ⟨w.heap.size + 1, 0, none⟩) 1 1] ((w.alloc (.cells #[.int .u8 0, .int .u8 2, .int .u8 1] 5)).alloc (.cells #[.int .i64 1, .slice (some ⟨w.heap.size, 0, none⟩) 3 3] 26))
    fun e w' => ∃ A c, e = .returned (.tuple #[.slice A 6 c, .int .i64 0]) ∧ RByt w' w'.heap.size A 6 by6 ∧ 6 ≤ c ∧ Below w.heap.size w w' := by
  have hb := new_byt (w := w) (l := [0, 2, 1]) (cs := #[.int .u8 0, .int .u8 2, .int .u8 1]) rfl
  have hi := new_itms (w := w.alloc (.cells #[.int .u8 0, .int .u8 2, .int .u8 1] 5)) (xs := [.int .i64 1, .slice (some ⟨w.heap.size, 0, none⟩) 3 3]) (l := [it1]) (cs := #[.int .i64 1, .slice (some ⟨w.heap.size, 0, none⟩) 3 3])
    ((OIt.nil _).cons (e := it1) hb (fun h => by cases h)) rfl
  have hs : (w.alloc (.cells #[.int .u8 0, .int .u8 2, .int .u8 1] 5)).heap.size = w.heap.size + 1 := by simp
  rw [hs] at hi
  refine (putI_out (put_any _ 1 1 [it1] _ hi (by omega))).mono ?_
  rintro e w' ⟨A, c, he, hr, hc, hb'⟩
  rw [by6_put] at he hr hc
  rw [by6_chk] at he
  refine ⟨A, c, he, hr, hc, ?_⟩
  exact (((Below.refl _ _).alloc (Nat.le_refl _) _).alloc (by simp) _).trans (hb'.mono (by simp; omega))
theorem links_by6 (A : Option Addr) (c : Nat) (w : World) (hr : RByt w w.heap.size A 6 by6) (hc : 6 ≤ c) : Calls Try.prog 12 #[.slice A 6 c] w
    fun e w' => ∃ g o c', e = .returned (.tuple #[.slice (some ⟨g, o, none⟩) 1 c', .int .i64 0]) ∧ w'.cell? ⟨g, o, none⟩ = some (.int .i64 2) ∧ w'.cell? ⟨g, o + 1, none⟩ = some (.int .i64 1) ∧ Below w.heap.size w w' := by
  refine (links_out (links_any A 6 c by6 w hr hc (by omega))).mono ?_
  rintro e w' ⟨A', c', he, hp, hb⟩
  have h1 : outL by6 = [(2, 1)] := by unfold outL; rw [by6_rep]; rfl
  have h2 : outJ by6 = 0 := by unfold outJ; rw [by6_rep]; rfl
  rw [h1] at he hp
  rw [h2] at he
  obtain ⟨g, o, rfl, _, hcl⟩ := hp.2 (by simp)
  obtain ⟨k1, k2⟩ := hcl 0 (2, 1) rfl
  exact ⟨g, o, c', he, by simpa using k1, by simpa using k2, hb⟩
theorem get_nil (w : World) : Calls Try.prog 10 #[.slice none 0 0] w fun e w' => ∃ A c, e = .returned (.tuple #[.slice A 0 c, .int .i64 0]) ∧ Below w.heap.size w w' := by
  refine (getI_yes getI_nil (get_any none 0 0 [] w (rbyt_nil _ _ _) (Nat.le_refl _) (by omega))).mono ?_
  rintro e w' ⟨A, c, he, _, hb⟩
  exact ⟨A, c, he, hb⟩
theorem alive_any (w : World) : Calls Try.prog 7 #[] w fun e w' => e = .returned (.bool true) ∧ Below w.heap.size w w' := by
  have hq : ∀ W : World, (binOp .eql 48 (.agg #[.int .i64 2, .int .i64 1]) (.agg #[.int .i64 2, .int .i64 1])).run Try.prog W = .ok (.bool true) W := fun W => eql2_run W 2 1 2 1
  go_enter Try.func7, Try.ntmps7
  go_wp2_with (first
    | (go_at_call 10; (with_reducible refine (get_nil _).mono ?_); rintro e' w1 ⟨A1, c1, rfl, hb1⟩)
    | (go_at_call 8; (with_reducible refine (put_it1 _).mono ?_); rintro e' w2 ⟨A2, c2, rfl, hr2, hc2, hb2⟩; have HL := hid (links_by6 A2 c2 w2 hr2 hc2); clear hr2)
    | (go_at_call 12; (with_reducible refine HL.out.mono ?_); rintro e' w3 ⟨g, o, c3, rfl, m1, m2, hb3⟩)
    | (go_at_call 14; (with_reducible refine (num_any _ _).mono ?_); rintro e' w4 ⟨rfl, rfl⟩))
  go_ret
  exact ⟨rfl, hb1.trans ((hb2.mono hb1.size).trans (hb3.mono (by have := hb1.size; have := hb2.size; omega)))⟩
end Go.Proofs.Ytddddfcalknmlaa
