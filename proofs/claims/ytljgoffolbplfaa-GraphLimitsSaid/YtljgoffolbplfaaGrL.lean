/- GraphLimits: the number of links. -/
import Derived.Test.YtljgoffolbplfaaGrK
import Derived.OwnWalk
namespace Go.Proofs.Ytljgoffolbplfaa
open Go.RowKit
set_option maxHeartbeats 6400000
set_option maxRecDepth 100000
def lcells (l : List Lnk) : List Value := l.flatMap fun x => [.int .i64 x.a, .int .i64 x.b, .int .i64 x.m, .int .i64 x.c]
theorem lcells_app (a b : List Lnk) : lcells (a ++ b) = lcells a ++ lcells b := List.flatMap_append
theorem lcells_one (l : List Lnk) : ∀ u ∈ lcells l, u.oneCell' = true := by
  intro u hu
  simp only [lcells, List.mem_flatMap] at hu
  obtain ⟨e, _, hu⟩ := hu
  simp at hu
  rcases hu with rfl | rfl | rfl | rfl <;> rfl
theorem lcells_at {l : List Lnk} {i : Nat} {e : Lnk} (h : l[i]? = some e) : (lcells l)[i * 4]? = some (.int .i64 e.a) ∧ (lcells l)[i * 4 + 1]? = some (.int .i64 e.b) ∧ (lcells l)[i * 4 + 2]? = some (.int .i64 e.m) ∧ (lcells l)[i * 4 + 3]? = some (.int .i64 e.c) := by
  induction l generalizing i with
  | nil => simp at h
  | cons a r ih =>
    simp only [lcells, List.flatMap_cons]
    cases i with
    | zero => simp at h; subst h; simp
    | succ i =>
      have := ih (i := i) (by simpa using h)
      rw [List.getElem?_append_right (by simp; omega), List.getElem?_append_right (by simp; omega), List.getElem?_append_right (by simp; omega), List.getElem?_append_right (by simp; omega)]
      have hl : [Value.int .i64 a.a, .int .i64 a.b, .int .i64 a.m, .int .i64 a.c].length = 4 := rfl
      rw [hl, show (i + 1) * 4 - 4 = i * 4 by omega, show (i + 1) * 4 + 1 - 4 = i * 4 + 1 by omega, show (i + 1) * 4 + 2 - 4 = i * 4 + 2 by omega, show (i + 1) * 4 + 3 - 4 = i * 4 + 3 by omega]
      exact this
theorem own_lnks {w : World} {base m : Nat} {v : Value} {l : List Lnk} (h : w.ownsRow base 41 4 v m (lcells l)) (hl : l.length = m) : ∃ A cap, v = .slice A m cap ∧ m ≤ cap ∧ RLnk w w.heap.size A m l := by
  subst hl
  rcases h.2 with ⟨rfl, h1⟩ | ⟨g, cap, cur, rfl, _, hg, h2, _⟩
  · exact ⟨none, 0, by rw [h1], by omega, rfl, fun h => by omega⟩
  refine ⟨_, cap, rfl, h2, rfl, fun _ => ⟨g, 0, rfl, ?_, fun i e he => ?_⟩⟩
  · rcases Nat.lt_or_ge g w.heap.size with hlt | hge
    · exact hlt
    · rw [Array.getElem?_eq_none hge] at hg; cases hg
  obtain ⟨h1, h2, h3, h4⟩ := lcells_at he
  have k1 := h.cells (g := g) rfl _ _ h1
  have k2 := h.cells (g := g) rfl _ _ h2
  have k3 := h.cells (g := g) rfl _ _ h3
  have k4 := h.cells (g := g) rfl _ _ h4
  rw [Go.WideShapes.add_plain] at k1 k2 k3 k4
  exact ⟨k1, by rw [Nat.add_assoc]; exact k2, by rw [Nat.add_assoc]; exact k3, by rw [Nat.add_assoc]; exact k4⟩
theorem chk_rep {nd : Int} {x : Lnk} (h : lnkErr nd x = 0) (k i : Nat) : chk nd (List.replicate k x) i = (-1, 0) := by
  induction k generalizing i with
  | zero => rfl
  | succ k ih => rw [List.replicate_succ]; simp only [chk]; rw [if_pos h]; exact ih (i + 1)
theorem rep_len (k : Nat) (x : Lnk) : (List.replicate k x).length = k := List.length_replicate
def l1 : Lnk := ⟨0, 1, 1, 0⟩
theorem check_120 : checkS 2 (List.replicate 120 l1) = (-1, 0) := by
  unfold checkS; rw [rep_len, if_neg (by omega), if_neg (by omega)]; exact chk_rep (by decide) _ _
theorem check_121 : checkS 2 (List.replicate 121 l1) = (-1, 6) := by
  unfold checkS; rw [rep_len, if_pos (by omega)]
theorem l1_row : #[Value.int .i64 0, .int .i64 1, .int .i64 1, .int .i64 0] = (lcells [l1]).toArray := rfl
theorem lcells_rep (k : Nat) : lcells (List.replicate (k + 1) l1) = lcells (List.replicate k l1) ++ lcells [l1] := by
  rw [← lcells_app, ← List.replicate_succ']
theorem own_form {w : World} {base e size n : Nat} {v : Value} {xs : List Value} (h : w.ownsRow base e size v n xs) : ∃ A c, v = .slice A n c := by
  rcases h.2 with ⟨rfl, rfl⟩ | ⟨g, cap, cur, rfl, _⟩
  · exact ⟨_, _, rfl⟩
  · exact ⟨_, _, rfl⟩
theorem box_app {wr w4 : World} {B base e s n : Nat} {v : Value} {xs : List Value} {o X : Obj} (hbox : wr.heap[B]? = some X) (hB : B < base) (hown : wr.ownsRow base e s v n xs) (hg : (wr.alloc o).grownBy w4 v.ownBlock) : w4.heap[B]? = some X := by
  have hlt : B < wr.heap.size := by
    rcases Nat.lt_or_ge B wr.heap.size with h1 | h1
    · exact h1
    · rw [Array.getElem?_eq_none h1] at hbox; cases hbox
  refine (hg.block B (by simp; omega) (fun h => ?_)).trans (((Below.alloc (Below.refl wr.heap.size wr) (Nat.le_refl _) o).block B hlt).trans hbox)
  have := (hown.lt B h.symm).1
  omega
theorem below_app {w1 wr w4 : World} {base e s n : Nat} {v : Value} {xs : List Value} {o : Obj} (h : Below w1.heap.size w1 wr) (hb : w1.heap.size ≤ base) (hown : wr.ownsRow base e s v n xs) (hg : (wr.alloc o).grownBy w4 v.ownBlock) : Below w1.heap.size w1 w4 :=
  Below.grown (h.alloc h.size o) hg (by have := h.size; simp; omega) (fun q hq => Nat.le_trans hb (hown.lt q hq).1)
theorem check_rep (N c : Nat) (A : Option Addr) (r e : Int) (hq : checkS 2 (List.replicate N l1) = (r, e)) (w : World) (h : RLnk w w.heap.size A N (List.replicate N l1)) :
    Calls Try.prog 15 #[.agg #[.int .i64 2, .slice A N c]] w fun e' w' => e' = .returned (.tuple #[.int .i64 r, .int .i64 e]) ∧ Below w.heap.size w w' := by
  have h1 := check_any 2 A N c _ w h
  rw [hq] at h1
  exact h1
theorem limits_1f (w : World) : Calls Try.prog 5 #[.int .i64 1, .bool false] w fun e w' => e = .returned (.bool true) ∧ Below w.heap.size w w' := by
  obtain ⟨i5, hi, hz0, hz1, hz2⟩ := info_parts (show (Try.prog.info? 41).map (fun i => (i.zero, i.size, i.bytes)) = some (some (.agg #[.int .i64 0, .int .i64 0, .int .i64 0, .int .i64 0]), 4, 32) by kernel_rfl)
  have Ai := hid hi; have Az0 := hid hz0; have Az1 := hid hz1; have Az2 := hid hz2
  clear hi hz0 hz1 hz2
  have HN := hid (fun (k : Int) (w1 : World) => num_any k w1)
  have HK := hid (fun (A : Option Addr) (c : Nat) (w : World) (h : RLnk w w.heap.size A 120 (List.replicate 120 l1)) => check_rep 120 c A (-1) 0 check_120 w h)
  go_enter Try.func5, Try.ntmps5
  go_wp2_with (go_at_call 14; (with_reducible refine (alive_any _).mono ?_); rintro e' w1 ⟨rfl, hb1⟩)
  go_loopw [10] (fun i wr => ∃ (k : Nat) (v : Value), k ≤ 120 ∧ i = .int .i64 k ∧ Hid (wr.heap[w1.heap.size + 1]? = some (.cells #[.int .i64 2, v] 24 (0, 0))) ∧ Hid (wr.ownsRow (w1.heap.size + 2) 41 4 v k (lcells (List.replicate k l1))) ∧ Below w1.heap.size w1 wr ∧ w1.heap.size + 2 ≤ wr.heap.size) (fun i _ => 120 - (intOf i).toNat)
  case atStart => exact ⟨0, .slice none 0 0, Nat.zero_le _, rfl, hid (by have := heap_alloc_new (w1.alloc (.cells #[.int .i64 0, .int .i64 1, .int .i64 1, .int .i64 0] 41)) (.cells #[.int .i64 2, .slice none 0 0] 24); simpa using this), World.ownsRow_nil _ _ _ _, (Below.alloc (Below.refl _ _) (Nat.le_refl _) _).alloc (by simp) _, by simp⟩
  case round =>
    obtain ⟨k, v, hk, rfl, HX, HO, hbel, hsz⟩ := hrel
    obtain ⟨e0, e1, e2⟩ := box_cells HX.out
    have f1 := e2 1
    clear e2
    by_cases hlt : k < 120
    · go_wp2_with (at_builtin; refine wpList_append_own _ rfl (.tmp 51) (.tmp 53) 22 rfl (w1.heap.size + 2) 41 i5 (.agg #[.int .i64 0, .int .i64 0, .int .i64 0, .int .i64 0]) 4 32 Try.underlying22 Ai.out Az0.out Az1.out Az2.out rfl (by decide) _ _ _ rfl (HO.out.alloc _) ⟨wr.heap.size, 0, none⟩ 1 1 (lcells [l1]) rfl rfl (new_row l1_row) (lcells_one _) (by unfold maxLen; omega) (by omega) (by simp; omega) ?_; intro v4 w4 hown4 hg4 _; obtain ⟨A6, c6, rfl⟩ := own_form hown4; have hX4 := box_app HX.out (by omega) HO.out hg4; have hb4 := below_app hbel (by omega) HO.out hg4; obtain ⟨e3, e4, e5⟩ := box_cells hX4; have f4 := e5 1; clear e5; have HX4 := hid hX4; have HO4 := hid hown4; clear hX4 hown4; have hs4 : w1.heap.size + 2 ≤ w4.heap.size := by have := hg4.size; simp at this; omega)
      go_roundw
      case rel => exact ⟨k + 1, _, by omega, by go_num, box_set1 HX4.out, by rw [lcells_rep]; exact own_set HO4.out (by show w1.heap.size + 1 < _; omega) _, hb4.setCell (by show _ ≤ w1.heap.size + 1; omega) _, by simpa using hs4⟩
      case measure => simp [intOf]; omega
    · obtain rfl : k = 120 := by omega
      obtain ⟨A5, c5, rfl, _, hr5⟩ := own_lnks HO.out (rep_len _ _)
      have HR5 := hid hr5
      clear hr5
      go_wp2_with (first
        | (go_at_call 15; (with_reducible refine (HK.out A5 c5 wr HR5.out).mono ?_); rintro e' w2 ⟨rfl, hb2⟩)
        | (go_at_call 19; (with_reducible refine (HN.out _ _).mono ?_); rintro _ _ ⟨rfl, rfl⟩))
      go_ret
      exact ⟨rfl, hb1.trans ((hbel.trans (hb2.mono hbel.size)).mono hb1.size)⟩
theorem limits_1t (w : World) : Calls Try.prog 5 #[.int .i64 1, .bool true] w fun e w' => e = .returned (.bool true) ∧ Below w.heap.size w w' := by
  obtain ⟨i5, hi, hz0, hz1, hz2⟩ := info_parts (show (Try.prog.info? 41).map (fun i => (i.zero, i.size, i.bytes)) = some (some (.agg #[.int .i64 0, .int .i64 0, .int .i64 0, .int .i64 0]), 4, 32) by kernel_rfl)
  have Ai := hid hi; have Az0 := hid hz0; have Az1 := hid hz1; have Az2 := hid hz2
  clear hi hz0 hz1 hz2
  have HN := hid (fun (k : Int) (w1 : World) => num_any k w1)
  have HK := hid (fun (A : Option Addr) (c : Nat) (w : World) (h : RLnk w w.heap.size A 121 (List.replicate 121 l1)) => check_rep 121 c A (-1) 6 check_121 w h)
  go_enter Try.func5, Try.ntmps5
  go_wp2_with (go_at_call 14; (with_reducible refine (alive_any _).mono ?_); rintro e' w1 ⟨rfl, hb1⟩)
  go_loopw [10] (fun i wr => ∃ (k : Nat) (v : Value), k ≤ 121 ∧ i = .int .i64 k ∧ Hid (wr.heap[w1.heap.size + 1]? = some (.cells #[.int .i64 2, v] 24 (0, 0))) ∧ Hid (wr.ownsRow (w1.heap.size + 2) 41 4 v k (lcells (List.replicate k l1))) ∧ Below w1.heap.size w1 wr ∧ w1.heap.size + 2 ≤ wr.heap.size) (fun i _ => 121 - (intOf i).toNat)
  case atStart => exact ⟨0, .slice none 0 0, Nat.zero_le _, rfl, hid (by have := heap_alloc_new (w1.alloc (.cells #[.int .i64 0, .int .i64 1, .int .i64 1, .int .i64 0] 41)) (.cells #[.int .i64 2, .slice none 0 0] 24); simpa using this), World.ownsRow_nil _ _ _ _, (Below.alloc (Below.refl _ _) (Nat.le_refl _) _).alloc (by simp) _, by simp⟩
  case round =>
    obtain ⟨k, v, hk, rfl, HX, HO, hbel, hsz⟩ := hrel
    obtain ⟨e0, e1, e2⟩ := box_cells HX.out
    have f1 := e2 1
    clear e2
    by_cases hlt : k < 121
    · go_wp2_with (at_builtin; refine wpList_append_own _ rfl (.tmp 51) (.tmp 53) 22 rfl (w1.heap.size + 2) 41 i5 (.agg #[.int .i64 0, .int .i64 0, .int .i64 0, .int .i64 0]) 4 32 Try.underlying22 Ai.out Az0.out Az1.out Az2.out rfl (by decide) _ _ _ rfl (HO.out.alloc _) ⟨wr.heap.size, 0, none⟩ 1 1 (lcells [l1]) rfl rfl (new_row l1_row) (lcells_one _) (by unfold maxLen; omega) (by omega) (by simp; omega) ?_; intro v4 w4 hown4 hg4 _; obtain ⟨A6, c6, rfl⟩ := own_form hown4; have hX4 := box_app HX.out (by omega) HO.out hg4; have hb4 := below_app hbel (by omega) HO.out hg4; obtain ⟨e3, e4, e5⟩ := box_cells hX4; have f4 := e5 1; clear e5; have HX4 := hid hX4; have HO4 := hid hown4; clear hX4 hown4; have hs4 : w1.heap.size + 2 ≤ w4.heap.size := by have := hg4.size; simp at this; omega)
      go_roundw
      case rel => exact ⟨k + 1, _, by omega, by go_num, box_set1 HX4.out, by rw [lcells_rep]; exact own_set HO4.out (by show w1.heap.size + 1 < _; omega) _, hb4.setCell (by show _ ≤ w1.heap.size + 1; omega) _, by simpa using hs4⟩
      case measure => simp [intOf]; omega
    · obtain rfl : k = 121 := by omega
      obtain ⟨A5, c5, rfl, _, hr5⟩ := own_lnks HO.out (rep_len _ _)
      have HR5 := hid hr5
      clear hr5
      go_wp2_with (first
        | (go_at_call 15; (with_reducible refine (HK.out A5 c5 wr HR5.out).mono ?_); rintro e' w2 ⟨rfl, hb2⟩)
        | (go_at_call 19; (with_reducible refine (HN.out _ _).mono ?_); rintro _ _ ⟨rfl, rfl⟩))
      go_ret
      exact ⟨rfl, hb1.trans ((hbel.trans (hb2.mono hbel.size)).mono hb1.size)⟩
theorem limits_any (i : Int) (o : Bool) (w : World) : Calls Try.prog 5 #[.int .i64 i, .bool o] w fun e w' => e = .returned (.bool true) ∧ Below w.heap.size w w' := by
  by_cases h : i < 0 ∨ 4 < i
  · exact limits_out i o w h
  · rcases (show i = 0 ∨ i = 1 ∨ i = 2 ∨ i = 3 ∨ i = 4 by omega) with rfl | rfl | rfl | rfl | rfl <;> cases o
    · exact limits_0f w
    · exact limits_0t w
    · exact limits_1f w
    · exact limits_1t w
    · exact limits_2f w
    · exact limits_2t w
    · exact limits_3f w
    · exact limits_3t w
    · exact limits_4f w
    · exact limits_4t w
end Go.Proofs.Ytljgoffolbplfaa
