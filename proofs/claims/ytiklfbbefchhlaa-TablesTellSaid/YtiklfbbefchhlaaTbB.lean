/- What the laws ask of New, Graph, Dist, Next; alive. -/
import Derived.Test.YtiklfbbefchhlaaTbA
import Derived.Test.YtiklfbbefchhlaaWgD
namespace Go.Proofs.Ytiklfbbefchhlaa
open Go.RowKit
set_option maxHeartbeats 3200000
set_option maxRecDepth 100000
/-- A graph of any length as a call gets it. -/
structure GAny (w : World) (nd : Int) (A : Option Addr) (n c : Nat) (l : List Lnk) : Prop where
  row : RLnk w w.heap.size A n l
  max : n ≤ maxLen
  cap : n ≤ c
  non : A = none → n = 0 ∧ c = 0
  lo : -9223372036854775808 ≤ nd
  hi : nd ≤ 9223372036854775807
theorem GAny.on {w w' : World} {nd : Int} {A : Option Addr} {n c : Nat} {l : List Lnk} (h : GAny w nd A n c l) (hb : Below w.heap.size w w') : GAny w' nd A n c l := ⟨h.row.on hb, h.max, h.cap, h.non, h.lo, h.hi⟩
/-- A row of numbers that reads as L. -/
def RowAns (L : List Int) (w : World) (e : Ending) (w' : World) : Prop := ∃ A c, e = .returned (.slice A L.length c) ∧ RInt w' w'.heap.size A L.length L ∧ Below w.heap.size w w'
def NewAns (TabAt : World → Addr → Nat → List Lnk → Prop) (nd : Int) (l : List Lnk) (w : World) (e : Ending) (w' : World) : Prop :=
  Below w.heap.size w w' ∧ (((checkS nd l).2 = 0 ∧ ∃ (p : Addr) (N : Nat), nd = (N : Int) ∧ e = .returned (.tuple #[.pointer (some p), .int .i64 0]) ∧ TabAt w' p N l) ∨ ((checkS nd l).2 ≠ 0 ∧ e = .returned (.tuple #[.pointer none, .int .i64 (checkS nd l).2])))
def In64 (a : Int) : Prop := -9223372036854775808 ≤ a ∧ a ≤ 9223372036854775807
structure TabOps (TabAt : World → Addr → Nat → List Lnk → Prop) (fNew fDist fNext : Nat) : Prop where
  keep : ∀ (w w' : World) (p : Addr) (N : Nat) (l : List Lnk), TabAt w p N l → Below w.heap.size w w' → TabAt w' p N l
  new : ∀ (nd : Int) (A : Option Addr) (n c : Nat) (l : List Lnk) (w : World), GAny w nd A n c l → Calls Try.prog fNew #[.agg #[.int .i64 nd, .slice A n c]] w (NewAns TabAt nd l w)
  dist : ∀ (w : World) (p : Addr) (N : Nat) (l : List Lnk) (a b : Int), TabAt w p N l → GOk N l → In64 a → In64 b → Calls Try.prog fDist #[.pointer (some p), .int .i64 a, .int .i64 b] w fun e w' => e = .returned (.int .i64 (distT N l a b)) ∧ Below w.heap.size w w'
  next : ∀ (w : World) (p : Addr) (N : Nat) (l : List Lnk) (a b : Int), TabAt w p N l → GOk N l → In64 a → In64 b → Calls Try.prog fNext #[.pointer (some p), .int .i64 a, .int .i64 b] w (RowAns (nextT N l a b) w)
def GraphOps (TabAt : World → Addr → Nat → List Lnk → Prop) (fGraph : Nat) : Prop := ∀ (w : World) (p : Addr) (N : Nat) (l : List Lnk), TabAt w p N l → GOk N l → Calls Try.prog fGraph #[.pointer (some p)] w fun e w' => ∃ A c, e = .returned (.agg #[.int .i64 (N : Int), .slice A l.length c]) ∧ RLnk w' w'.heap.size A l.length l ∧ Below w.heap.size w w'
/-- What the laws ask of the package. -/
def TabSpec (fNew fGraph fDist fNext : Nat) : Prop := ∃ TabAt : World → Addr → Nat → List Lnk → Prop, TabOps TabAt fNew fDist fNext ∧ GraphOps TabAt fGraph
theorem num_any (e : Int) (w : World) : Calls Try.prog 9 #[.int .i64 e] w fun x w' => x = .returned (.int .i64 e) ∧ w = w' := by
  go_enter Try.func9, Try.ntmps9
  go_wp2_with fail
  go_ret
  exact ⟨rfl, rfl⟩
def two : List Lnk := [⟨0, 1, 7, 0⟩]
theorem two_ok : GOk 2 two := ⟨by decide, by decide, by decide, by decide⟩
theorem two_zero : distS 2 two [] 0 = [0, 7] := by
  have := from_two
  unfold fromS at this
  rw [if_pos (by decide)] at this
  exact this
theorem two_one : distS 2 two [] 1 = [7, 0] := by
  refine distS_eq two_ok ⟨rfl, by decide, fun v hv => ?_, fun k hk => ?_, fun v hv h0 _ => ?_⟩
  · rcases (show v = 0 ∨ v = 1 by omega) with rfl | rfl <;> decide
  · simp [two] at hk
    rcases (show k = 0 ∨ k = 1 by omega) with rfl | rfl <;> decide
  · obtain rfl : v = 0 := by omega
    exact ⟨1, by decide, by decide, by decide, by decide, by decide⟩
theorem two_dist0 : distT 2 two 0 0 = 0 := by
  unfold distT
  rw [if_pos (by decide), show (0 : Int).toNat = 0 from rfl, two_zero]; decide
theorem two_dist1 : distT 2 two 0 1 = 7 := by
  unfold distT
  rw [if_pos (by decide), show (0 : Int).toNat = 0 from rfl, two_zero]; decide
theorem two_next : nextT 2 two 0 1 = [0] := by
  unfold nextT
  rw [if_pos (by decide), show (1 : Int).toNat = 1 from rfl, two_one]; decide
theorem new_two {TabAt : World → Addr → Nat → List Lnk → Prop} {w w' : World} {e : Ending} (h : NewAns TabAt 2 two w e w') : Below w.heap.size w w' ∧ ∃ p : Addr, e = .returned (.tuple #[.pointer (some p), .int .i64 0]) ∧ TabAt w' p 2 two := by
  refine ⟨h.1, ?_⟩
  rcases h.2 with ⟨_, p, N, hN, he, ht⟩ | ⟨hne, _⟩
  · obtain rfl : N = 2 := by omega
    exact ⟨p, he, ht⟩
  · exact absurd (gok_check two_ok) hne
theorem alive_any (h : TabSpec 7 10 11 14) (w : World) : Calls Try.prog 6 #[] w fun e w' => e = .returned (.bool true) ∧ Below w.heap.size w w' := by
  obtain ⟨TabAt, ho, _⟩ := h
  have HN := hid (ho.new 2 (some ⟨w.heap.size, 0, none⟩) 1 1 two (w.alloc (.cells #[.int .i64 0, .int .i64 1, .int .i64 7, .int .i64 0] 40)) ⟨(rlnk_new w ⟨0, 1, 7, 0⟩).more (by simp), by unfold maxLen; omega, by omega, fun h => (by cases h), by omega, by omega⟩)
  have HD0 := hid (fun (w' : World) (p : Addr) (ht : TabAt w' p 2 two) => two_dist0 ▸ ho.dist w' p 2 two 0 0 ht two_ok ⟨by omega, by omega⟩ ⟨by omega, by omega⟩)
  have HD1 := hid (fun (w' : World) (p : Addr) (ht : TabAt w' p 2 two) => two_dist1 ▸ ho.dist w' p 2 two 0 1 ht two_ok ⟨by omega, by omega⟩ ⟨by omega, by omega⟩)
  have HX := hid (fun (w' : World) (p : Addr) (ht : TabAt w' p 2 two) => two_next ▸ ho.next w' p 2 two 0 1 ht two_ok ⟨by omega, by omega⟩ ⟨by omega, by omega⟩)
  have HK := hid ho.keep
  have HNum := hid num_any
  have hb0 : Below w.heap.size w (w.alloc (.cells #[.int .i64 0, .int .i64 1, .int .i64 7, .int .i64 0] 40)) := (Below.refl _ _).alloc (Nat.le_refl _) _
  clear ho
  go_enter Try.func6, Try.ntmps6
  go_wp2_with (first
    | (go_at_call 7; (with_reducible refine HN.out.mono ?_); intro e' w1 hN; obtain ⟨hb1, p, rfl, ht1⟩ := new_two hN; have HT1 := hid ht1; have B1 := hid (hb0.trans (hb1.mono hb0.size)); clear hN ht1 hb1)
    | (go_at_call 9; (with_reducible refine (HNum.out _ _).mono ?_); rintro _ _ ⟨rfl, rfl⟩)
    | (go_at_call 11; (with_reducible refine (HD0.out _ _ HT1.out).mono ?_); rintro e' w2 ⟨rfl, hb2⟩; have HT2 := hid (HK.out _ _ _ _ _ HT1.out hb2); have B2 := hid (B1.out.trans (hb2.mono B1.out.size)); clear hb2)
    | (go_at_call 11; (with_reducible refine (HD1.out _ _ HT2.out).mono ?_); rintro e' w3 ⟨rfl, hb3⟩; have HT3 := hid (HK.out _ _ _ _ _ HT2.out hb3); have B3 := hid (B2.out.trans (hb3.mono B2.out.size)); clear hb3)
    | (go_at_call 14; (with_reducible refine (HX.out _ _ HT3.out).mono ?_); rintro e' w4 ⟨A4, c4, rfl, _, hb4⟩; have B4 := hid (B3.out.trans (hb4.mono B3.out.size)); clear hb4))
  go_ret
  exact ⟨rfl, B4.out⟩
end Go.Proofs.Ytiklfbbefchhlaa
