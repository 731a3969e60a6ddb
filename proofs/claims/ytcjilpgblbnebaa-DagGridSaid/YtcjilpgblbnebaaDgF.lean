/- What the laws ask of Count, Hops, Uses; alive; DagTells. -/
import Derived.Test.YtcjilpgblbnebaaDgE
import Derived.Test.YtcjilpgblbnebaaWgC
namespace Go.Proofs.Ytcjilpgblbnebaa
open Go.RowKit
set_option maxHeartbeats 6400000
set_option maxRecDepth 100000
def In64 (a : Int) : Prop := -9223372036854775808 ≤ a ∧ a ≤ 9223372036854775807
def RowAns (L : List Int) (w : World) (e : Ending) (w' : World) : Prop := ∃ A c, e = .returned (.slice A L.length c) ∧ RInt w' w'.heap.size A L.length L ∧ Below w.heap.size w w'
structure DagSpec (fCount fHops fUses : Nat) : Prop where
  count : ∀ (nd : Int) (A : Option Addr) (n c : Nat) (l : List Lnk) (Ad : Option Addr) (n' c' : Nat) (dn : List Bool) (s t : Int) (w : World), GArg w nd A n c l → DArg w Ad n' c' dn → In64 s → In64 t →
    Calls Try.prog fCount #[.agg #[.int .i64 nd, .slice A n c], .slice Ad n' c', .int .i64 s, .int .i64 t] w fun e w' => e = .returned (.int .i64 ((waysS nd l dn s t).1 : Int)) ∧ Below w.heap.size w w'
  hops : ∀ (nd : Int) (A : Option Addr) (n c : Nat) (l : List Lnk) (Ad : Option Addr) (n' c' : Nat) (dn : List Bool) (s t : Int) (w : World), GArg w nd A n c l → DArg w Ad n' c' dn → In64 s → In64 t →
    Calls Try.prog fHops #[.agg #[.int .i64 nd, .slice A n c], .slice Ad n' c', .int .i64 s, .int .i64 t] w fun e w' => e = .returned (.tuple #[.int .i64 ((waysS nd l dn s t).2.1 : Int), .int .i64 ((waysS nd l dn s t).2.2.1 : Int), .bool (waysS nd l dn s t).2.2.2]) ∧ Below w.heap.size w w'
  uses : ∀ (nd : Int) (A : Option Addr) (n c : Nat) (l : List Lnk) (Ad : Option Addr) (n' c' : Nat) (dn : List Bool) (s t : Int) (w : World), GArg w nd A n c l → DArg w Ad n' c' dn → In64 s → In64 t →
    Calls Try.prog fUses #[.agg #[.int .i64 nd, .slice A n c], .slice Ad n' c', .int .i64 s, .int .i64 t] w (RowAns (usesS nd l dn s t) w)
theorem rlnk_row (w : World) (l : List Lnk) : RLnk (w.alloc (.cells (lcells l).toArray 37)) (w.heap.size + 1) (some ⟨w.heap.size, 0, none⟩) l.length l := by
  refine ⟨rfl, fun _ => ⟨w.heap.size, 0, rfl, by omega, fun i e he => ?_⟩⟩
  obtain ⟨h0, h1, h2, h3⟩ := lcells_at he
  have hb := heap_alloc_new w (.cells (lcells l).toArray 37)
  refine ⟨?_, ?_, ?_, ?_⟩ <;> (rw [cell_of_row _ _ _ _ _ _ hb, Nat.zero_add]; simp [*])
def tw2 : List Lnk := [⟨0, 1, 7, 0⟩, ⟨0, 1, 7, 0⟩]
theorem tw2_ok : GOk 2 tw2 := ⟨by decide, by decide, by decide, by decide⟩
theorem tw2_zero : distS 2 tw2 [] 0 = [0, 7] := by
  refine distS_eq tw2_ok ⟨rfl, by decide, fun v hv => ?_, fun k hk => ?_, fun v hv h0 _ => ?_⟩
  · rcases (show v = 0 ∨ v = 1 by omega) with rfl | rfl <;> decide
  · simp [tw2] at hk
    rcases (show k = 0 ∨ k = 1 ∨ k = 2 ∨ k = 3 by omega) with rfl | rfl | rfl | rfl <;> decide
  · obtain rfl : v = 1 := by omega
    exact ⟨0, by decide, by decide, by decide, by decide, by decide⟩
theorem tw2_one : distS 2 tw2 [] 1 = [7, 0] := by
  refine distS_eq tw2_ok ⟨rfl, by decide, fun v hv => ?_, fun k hk => ?_, fun v hv h0 _ => ?_⟩
  · rcases (show v = 0 ∨ v = 1 by omega) with rfl | rfl <;> decide
  · simp [tw2] at hk
    rcases (show k = 0 ∨ k = 1 ∨ k = 2 ∨ k = 3 by omega) with rfl | rfl | rfl | rfl <;> decide
  · obtain rfl : v = 0 := by omega
    exact ⟨1, by decide, by decide, by decide, by decide, by decide⟩
theorem tw2_tr : tr (nxL 2 tw2 [] [7, 0]) [7, 0] 0 = (2, 1, 1) := by
  rw [tr_step (nearer tw2_ok) (by decide)]
  have h1 : nxL 2 tw2 [] [7, 0] 0 = [1, 1] := by decide
  rw [h1]
  simp only [List.map_cons, List.map_nil]
  rw [tr_zero (show dAt [7, 0] ((1 : Nat) : Int) = 0 by decide)]
  decide
theorem tw2_ways : waysS 2 tw2 [] 0 1 = (2, 1, 1, true) := by
  unfold waysS
  rw [show (2 : Int).toNat = 2 from rfl, show (1 : Int).toNat = 1 from rfl, show (0 : Int).toNat = 0 from rfl, tw2_one, if_pos (by decide), tw2_tr]
  rfl
theorem tw2_uses : usesS 2 tw2 [] 0 1 = [0, 2] := by
  unfold usesS
  rw [show (2 : Int).toNat = 2 from rfl, show (1 : Int).toNat = 1 from rfl, show (0 : Int).toNat = 0 from rfl, tw2_one, tw2_zero, if_pos (by decide)]
  decide
theorem one_ways : waysS 1 [] [] 0 0 = (1, 0, 0, true) := by
  have hg : GOk 1 [] := ⟨by decide, by decide, by decide, by decide⟩
  have hd : distS 1 [] [] 0 = [0] := by
    refine distS_eq hg ⟨rfl, rfl, fun v hv => ?_, fun k hk => by simp at hk, fun v hv h0 => by omega⟩
    obtain rfl : v = 0 := by omega
    decide
  unfold waysS
  rw [show (1 : Int).toNat = 1 from rfl, show (0 : Int).toNat = 0 from rfl, hd, if_pos (by decide), tr_zero (by decide)]
  rfl
theorem alive_any (h : DagSpec 10 9 12) (w : World) : Calls Try.prog 7 #[] w fun e w' => e = .returned (.bool true) ∧ Below w.heap.size w w' := by
  obtain ⟨w1, hw1⟩ : ∃ w1, w.alloc (.cells #[.int .i64 0, .int .i64 1, .int .i64 7, .int .i64 0, .int .i64 0, .int .i64 1, .int .i64 7, .int .i64 0] 37) = w1 := ⟨_, rfl⟩
  have hr1 : RLnk w1 w1.heap.size (some ⟨w.heap.size, 0, none⟩) 2 tw2 := by
    rw [← hw1]
    exact (rlnk_row w tw2).more (by simp)
  have hb1 : Below w.heap.size w w1 := by rw [← hw1]; exact (Below.refl _ _).alloc (Nat.le_refl _) _
  have hS := Held.start w1 2 (some ⟨w.heap.size, 0, none⟩) 2 2
  have HGa := hid (fun (w' : World) (hh : Held w1 2 (some ⟨w.heap.size, 0, none⟩) 2 2 w') => (⟨hr1.on hh.1, by omega, by omega, fun h => (by cases h), by omega, by omega⟩ : GArg w' 2 (some ⟨w.heap.size, 0, none⟩) 2 2 tw2))
  have HH := hid (fun (w' : World) (hh : Held w1 2 (some ⟨w.heap.size, 0, none⟩) 2 2 w') => tw2_ways ▸ hh.calls (h.hops 2 _ 2 2 tw2 none 0 0 [] 0 1 w' (HGa.out w' hh) (DArg.nil w') ⟨by omega, by omega⟩ ⟨by omega, by omega⟩))
  have HC := hid (fun (w' : World) (hh : Held w1 2 (some ⟨w.heap.size, 0, none⟩) 2 2 w') => tw2_ways ▸ hh.calls (h.count 2 _ 2 2 tw2 none 0 0 [] 0 1 w' (HGa.out w' hh) (DArg.nil w') ⟨by omega, by omega⟩ ⟨by omega, by omega⟩))
  have HU := hid (fun (w' : World) (hh : Held w1 2 (some ⟨w.heap.size, 0, none⟩) 2 2 w') => tw2_uses ▸ h.uses 2 _ 2 2 tw2 none 0 0 [] 0 1 w' (HGa.out w' hh) (DArg.nil w') ⟨by omega, by omega⟩ ⟨by omega, by omega⟩)
  have HC1 := hid (fun (w' : World) (hh : Held w1 2 (some ⟨w.heap.size, 0, none⟩) 2 2 w') => one_ways ▸ hh.calls (h.count 1 none 0 0 [] none 0 0 [] 0 0 w' ⟨⟨rfl, fun h => by omega⟩, by omega, by omega, fun _ => ⟨rfl, rfl⟩, by omega, by omega⟩ (DArg.nil w') ⟨by omega, by omega⟩ ⟨by omega, by omega⟩))
  obtain ⟨g0, g1⟩ := hS.cells
  clear h HGa hr1
  go_enter Try.func7, Try.ntmps7
  go_wp2_with (first
    | (go_at_call 9; (with_reducible refine (HH.out _ hS).mono ?_); rintro e' w2 ⟨rfl, h2⟩; obtain ⟨g2, g3⟩ := h2.cells)
    | (go_at_call 10; (with_reducible refine (HC1.out _ h2).mono ?_); rintro e' w3 ⟨rfl, h3⟩; obtain ⟨g4, g5⟩ := h3.cells)
    | (go_at_call 10; (with_reducible refine (HC.out _ h3).mono ?_); rintro e' w4 ⟨rfl, h4⟩; obtain ⟨g6, g7⟩ := h4.cells)
    | (go_at_call 12; (with_reducible refine (HU.out _ h4).mono ?_); rintro e' w5 ⟨A5, c5, rfl, _, hb5⟩; have h5 := h4.next hb5))
  go_ret
  exact ⟨rfl, hb1.trans (h5.1.mono hb1.size)⟩
theorem usesS_len (nd : Int) (l : List Lnk) (dn : List Bool) (s t : Int) : (usesS nd l dn s t).length ≤ 2 * l.length := by
  unfold usesS
  split
  · exact Nat.le_trans (List.length_filter_le _ _) (by rw [edgesL_len]; exact Nat.le_refl _)
  · exact Nat.zero_le _
end Go.Proofs.Ytcjilpgblbnebaa
