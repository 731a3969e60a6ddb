/- Merged: CsE CsF. -/
import Derived.Test.YtkemcgbedapkcaaH01
/- RepairBridge's graphs, computed. -/
namespace Go.Proofs.Ytkemcgbedapkcaa
open Go.RowKit
set_option maxHeartbeats 6400000
set_option maxRecDepth 100000
/-- The first j links of a row of nodes. -/
def brS (j : Nat) : List Lnk := (List.range j).map fun (i : Nat) => ⟨(i : Int), (i : Int) + 1, 4, 0⟩
theorem brS_succ (j : Nat) : brS (j + 1) = brS j ++ [⟨(j : Int), (j : Int) + 1, 4, 0⟩] := by unfold brS; rw [List.range_succ, List.map_append]; rfl
theorem brS_len (j : Nat) : (brS j).length = j := by unfold brS; simp
def lkB (n at' : Nat) (dbl : Bool) : List Lnk := brS (n - 1) ++ (if dbl then [⟨(at' : Int), (at' : Int) + 1, 9, 0⟩] else [])
def gokB (n : Nat) (l : List Lnk) : Bool := decide (l.length ≤ 120) && decide (1 ≤ n) && decide (n ≤ 40) && decide ((chk (n : Int) l 0).2 = 0)
theorem gokB_spec {n : Nat} {l : List Lnk} (h : gokB n l = true) : GOk n l := by
  unfold gokB at h
  simp only [Bool.and_eq_true, decide_eq_true_eq] at h
  exact ⟨h.1.1.1, h.1.1.2, h.1.2, h.2⟩
def isOneB (r : List Sg × Int) (k : Int) : Bool := match r.1 with
  | [s] => s.edge && decide (s.too = k) && decide (r.2 = 0)
  | _ => false
def isBadB (r : List Sg × Int) : Bool := r.1.isEmpty && decide (r.2 = 8)
theorem isOneB_spec {r : List Sg × Int} {k : Int} (h : isOneB r k = true) : r = ([⟨true, k⟩], 0) := by
  obtain ⟨a, b⟩ := r
  unfold isOneB at h
  split at h
  · rename_i s hs
    simp only [Bool.and_eq_true, decide_eq_true_eq] at h
    obtain ⟨⟨h1, h2⟩, h3⟩ := h
    obtain ⟨e, t⟩ := s
    simp only at hs h1 h2 h3
    rw [hs, h1, h2, h3]
  · cases h
theorem isBadB_spec {r : List Sg × Int} (h : isBadB r = true) : r = ([], 8) := by
  obtain ⟨a, b⟩ := r
  unfold isBadB at h
  simp only [Bool.and_eq_true, decide_eq_true_eq, List.isEmpty_iff] at h
  rw [h.1, h.2]
/-- Around edge e to node t: what is told, computed. -/
def oneB (n : Nat) (l : List Lnk) (e t : Int) : Bool × (List Sg × Int) :=
  (gokB n l && (endsS l e).2.2 && evalC n l (prunedS n l (wantA l e t) (downA l.length e)), compC n l (wantA l e t) (downA l.length e) 5)
theorem oneB_spec {n : Nat} {l : List Lnk} {e t : Int} {r : List Sg × Int} (h : (oneB n l e t).1 = true) (hr : (oneB n l e t).2 = r) : aroundS n l e t 5 = r := by
  unfold oneB at h hr
  simp only [Bool.and_eq_true] at h hr
  obtain ⟨⟨h1, h2⟩, h3⟩ := h
  unfold aroundS
  rw [if_pos h2, compC_eq (gokB_spec h1) h3]
  exact hr
def bridgeB (n at' : Nat) (dbl : Bool) : Bool :=
  let l := lkB n at' dbl
  let a := oneB n l (2 * (at' : Int)) ((at' : Int) + 1)
  let b := oneB n l (2 * (at' : Int) + 1) (at' : Int)
  gokB n l && a.1 && b.1 && (if dbl then isOneB a.2 (2 * ((n : Int) - 1)) && isOneB b.2 (2 * ((n : Int) - 1) + 1) else isBadB a.2 && isBadB b.2)
theorem br_2_0 : (bridgeB 2 0 false && bridgeB 2 0 true) = true := by kernel_rfl
theorem br_3_0 : (bridgeB 3 0 false && bridgeB 3 0 true) = true := by kernel_rfl
theorem br_3_1 : (bridgeB 3 1 false && bridgeB 3 1 true) = true := by kernel_rfl
theorem br_4_0 : (bridgeB 4 0 false && bridgeB 4 0 true) = true := by kernel_rfl
theorem br_4_1 : (bridgeB 4 1 false && bridgeB 4 1 true) = true := by kernel_rfl
theorem br_4_2 : (bridgeB 4 2 false && bridgeB 4 2 true) = true := by kernel_rfl
theorem br_5_0 : (bridgeB 5 0 false && bridgeB 5 0 true) = true := by kernel_rfl
theorem br_5_1 : (bridgeB 5 1 false && bridgeB 5 1 true) = true := by kernel_rfl
theorem br_5_2 : (bridgeB 5 2 false && bridgeB 5 2 true) = true := by kernel_rfl
theorem br_5_3 : (bridgeB 5 3 false && bridgeB 5 3 true) = true := by kernel_rfl
theorem br_6_0 : (bridgeB 6 0 false && bridgeB 6 0 true) = true := by kernel_rfl
theorem br_6_1 : (bridgeB 6 1 false && bridgeB 6 1 true) = true := by kernel_rfl
theorem br_6_2 : (bridgeB 6 2 false && bridgeB 6 2 true) = true := by kernel_rfl
theorem br_6_3 : (bridgeB 6 3 false && bridgeB 6 3 true) = true := by kernel_rfl
theorem br_6_4 : (bridgeB 6 4 false && bridgeB 6 4 true) = true := by kernel_rfl
theorem br_7_0 : (bridgeB 7 0 false && bridgeB 7 0 true) = true := by kernel_rfl
theorem br_7_1 : (bridgeB 7 1 false && bridgeB 7 1 true) = true := by kernel_rfl
theorem br_7_2 : (bridgeB 7 2 false && bridgeB 7 2 true) = true := by kernel_rfl
theorem br_7_3 : (bridgeB 7 3 false && bridgeB 7 3 true) = true := by kernel_rfl
theorem br_7_4 : (bridgeB 7 4 false && bridgeB 7 4 true) = true := by kernel_rfl
theorem br_7_5 : (bridgeB 7 5 false && bridgeB 7 5 true) = true := by kernel_rfl
theorem br_8_0 : (bridgeB 8 0 false && bridgeB 8 0 true) = true := by kernel_rfl
theorem br_8_1 : (bridgeB 8 1 false && bridgeB 8 1 true) = true := by kernel_rfl
theorem br_8_2 : (bridgeB 8 2 false && bridgeB 8 2 true) = true := by kernel_rfl
theorem br_8_3 : (bridgeB 8 3 false && bridgeB 8 3 true) = true := by kernel_rfl
theorem br_8_4 : (bridgeB 8 4 false && bridgeB 8 4 true) = true := by kernel_rfl
theorem br_8_5 : (bridgeB 8 5 false && bridgeB 8 5 true) = true := by kernel_rfl
theorem br_8_6 : (bridgeB 8 6 false && bridgeB 8 6 true) = true := by kernel_rfl
theorem bridge_any {n a : Nat} (hn : 2 ≤ n ∧ n ≤ 8) (ha : a < n - 1) (dbl : Bool) : bridgeB n a dbl = true := by
  have h2 : (bridgeB n a false && bridgeB n a true) = true := by
    rcases (show n = 2 ∨ n = 3 ∨ n = 4 ∨ n = 5 ∨ n = 6 ∨ n = 7 ∨ n = 8 by omega) with rfl | rfl | rfl | rfl | rfl | rfl | rfl
    · obtain rfl : a = 0 := by omega
      exact br_2_0
    · rcases (show a = 0 ∨ a = 1 by omega) with rfl | rfl
      · exact br_3_0
      · exact br_3_1
    · rcases (show a = 0 ∨ a = 1 ∨ a = 2 by omega) with rfl | rfl | rfl
      · exact br_4_0
      · exact br_4_1
      · exact br_4_2
    · rcases (show a = 0 ∨ a = 1 ∨ a = 2 ∨ a = 3 by omega) with rfl | rfl | rfl | rfl
      · exact br_5_0
      · exact br_5_1
      · exact br_5_2
      · exact br_5_3
    · rcases (show a = 0 ∨ a = 1 ∨ a = 2 ∨ a = 3 ∨ a = 4 by omega) with rfl | rfl | rfl | rfl | rfl
      · exact br_6_0
      · exact br_6_1
      · exact br_6_2
      · exact br_6_3
      · exact br_6_4
    · rcases (show a = 0 ∨ a = 1 ∨ a = 2 ∨ a = 3 ∨ a = 4 ∨ a = 5 by omega) with rfl | rfl | rfl | rfl | rfl | rfl
      · exact br_7_0
      · exact br_7_1
      · exact br_7_2
      · exact br_7_3
      · exact br_7_4
      · exact br_7_5
    · rcases (show a = 0 ∨ a = 1 ∨ a = 2 ∨ a = 3 ∨ a = 4 ∨ a = 5 ∨ a = 6 by omega) with rfl | rfl | rfl | rfl | rfl | rfl | rfl
      · exact br_8_0
      · exact br_8_1
      · exact br_8_2
      · exact br_8_3
      · exact br_8_4
      · exact br_8_5
      · exact br_8_6
  rw [Bool.and_eq_true] at h2
  cases dbl with
  | true => exact h2.2
  | false => exact h2.1
theorem bridge_spec {n a : Nat} (hn : 2 ≤ n ∧ n ≤ 8) (ha : a < n - 1) (dbl : Bool) : GOk n (lkB n a dbl) ∧ aroundS n (lkB n a dbl) (2 * (a : Int)) ((a : Int) + 1) 5 = (if dbl then ([⟨true, 2 * ((n : Int) - 1)⟩], 0) else ([], 8)) ∧ aroundS n (lkB n a dbl) (2 * (a : Int) + 1) (a : Int) 5 = (if dbl then ([⟨true, 2 * ((n : Int) - 1) + 1⟩], 0) else ([], 8)) := by
  have h := bridge_any hn ha dbl
  unfold bridgeB at h
  simp only [Bool.and_eq_true] at h
  obtain ⟨⟨⟨h1, h2⟩, h3⟩, h4⟩ := h
  refine ⟨gokB_spec h1, oneB_spec h2 ?_, oneB_spec h3 ?_⟩
  · cases dbl with
    | true =>
      rw [if_pos rfl, Bool.and_eq_true] at h4
      rw [if_pos rfl]
      exact isOneB_spec h4.1
    | false =>
      rw [if_neg (by decide), Bool.and_eq_true] at h4
      rw [if_neg (by decide)]
      exact isBadB_spec h4.1
  · cases dbl with
    | true =>
      rw [if_pos rfl, Bool.and_eq_true] at h4
      rw [if_pos rfl]
      exact isOneB_spec h4.2
    | false =>
      rw [if_neg (by decide), Bool.and_eq_true] at h4
      rw [if_neg (by decide)]
      exact isBadB_spec h4.2
end Go.Proofs.Ytkemcgbedapkcaa

/- RepairBridge. -/
namespace Go.Proofs.Ytkemcgbedapkcaa
open Go.RowKit
set_option maxHeartbeats 12800000
set_option maxRecDepth 100000
theorem lnk_rowR (a b m c : Int) : (#[.int .i64 a, .int .i64 b, .int .i64 m, .int .i64 c] : Array Value) = (lcells [⟨a, b, m, c⟩]).toArray := by simp [lcells]
theorem bridge_out {TabAt : World → Addr → Nat → List Lnk → Prop} (hN : NewOps TabAt 16) (hO : AroundOps TabAt 9) (n a : Int) (dbl : Bool) (w : World) (h : n < 2 ∨ 8 < n ∨ a < 0 ∨ n - 1 ≤ a) :
    Calls Try.prog 5 #[.int .i64 n, .int .i64 a, .bool dbl] w fun e w' => e = .returned (.bool true) ∧ Below w.heap.size w w' := by
  have HA := hid (alive18 hN hO)
  clear hN hO
  by_cases h1 : n < 2
  · have t1 : decide (n < 2) = true := decide_eq_true h1
    clear h
    go_enter Try.func5, Try.ntmps5
    go_wp2_with (go_at_call 6; (with_reducible refine (HA.out _).mono ?_); rintro e' w1 ⟨rfl, hb1⟩)
    go_ret
    exact ⟨rfl, hb1⟩
  · have t1 : decide (n < 2) = false := decide_eq_false h1
    by_cases h2 : 8 < n
    · have t2 : decide (8 < n) = true := decide_eq_true h2
      clear h
      go_enter Try.func5, Try.ntmps5
      go_wp2_with (go_at_call 6; (with_reducible refine (HA.out _).mono ?_); rintro e' w1 ⟨rfl, hb1⟩)
      go_ret
      exact ⟨rfl, hb1⟩
    · have t2 : decide (8 < n) = false := decide_eq_false h2
      by_cases h3 : a < 0
      · have t3 : decide (a < 0) = true := decide_eq_true h3
        clear h
        go_enter Try.func5, Try.ntmps5
        go_wp2_with (go_at_call 6; (with_reducible refine (HA.out _).mono ?_); rintro e' w1 ⟨rfl, hb1⟩)
        go_ret
        exact ⟨rfl, hb1⟩
      · have t3 : decide (a < 0) = false := decide_eq_false h3
        have ew : IntKind.i64.wrap (n - 1) = n - 1 := by rw [IntKind.wrap_i64]; omega
        have t4 : decide (n - 1 ≤ a) = true := decide_eq_true (by omega)
        clear h
        go_enter Try.func5, Try.ntmps5
        go_wp2_with (go_at_call 6; (with_reducible refine (HA.out _).mono ?_); rintro e' w1 ⟨rfl, hb1⟩)
        go_ret
        exact ⟨rfl, hb1⟩
theorem bridge_single {TabAt : World → Addr → Nat → List Lnk → Prop} (hN : NewOps TabAt 16) (hO : AroundOps TabAt 9) (m a : Nat) (w : World) (hm : 1 ≤ m ∧ m ≤ 7) (ha : a < m) :
    Calls Try.prog 5 #[.int .i64 ((m : Int) + 1), .int .i64 (a : Int), .bool false] w fun e w' => e = .returned (.bool true) ∧ Below w.heap.size w w' := by
  obtain ⟨hok, hf, hb⟩ := bridge_spec (n := m + 1) (a := a) (by omega) (by omega) false
  rw [if_neg (by decide)] at hf hb
  have HA := hid (alive18 hN hO)
  have HNum := hid rnum_any
  have HK := hid hN.1
  have hcast : ((m + 1 : Nat) : Int) = (m : Int) + 1 := by simp
  have hlk : lkB (m + 1) a false = brS m := by unfold lkB; simp
  rw [hlk] at hok hf hb
  obtain ⟨l, hl⟩ : ∃ l, brS m = l := ⟨_, rfl⟩
  rw [hl] at hok hf hb
  have hll : l.length = m := by rw [← hl]; simp [brS_len]
  have HT := hid (fun (A : Option Addr) (c : Nat) (W : World) (hr : RLnk W W.heap.size A (m) l) (hc : m ≤ c) (hA : A = none → m = 0 ∧ c = 0) => show Calls Try.prog 8 #[.agg #[.int .i64 ((m : Int) + 1), .slice A (m) c]] W fun e w' => ∃ (p pr : Addr), e = .returned (.tuple #[.pointer (some p), .pointer (some pr), .bool true]) ∧ TabAt w' p (m + 1) l ∧ Below W.heap.size W w' from by
    refine (tabs_any hN ((m : Int) + 1) A (m) c l W ⟨hr, by unfold maxLen; omega, hc, hA, by omega, by omega⟩).mono ?_
    rintro e w' ⟨hb, h1 | h1⟩
    · obtain ⟨_, N, p, pr, h2, h3, h4, _⟩ := h1
      obtain rfl : N = m + 1 := by omega
      exact ⟨p, pr, h3, h4, hb⟩
    · exact (h1.1 (by have := gok_check hok; rw [hcast] at this; exact this)).elim)
  have HL0 := hid (fun (W : World) (p : Addr) (ht : TabAt W p (m + 1) l) => (hO W p (m + 1) l (2 * (a : Int)) ((a : Int) + 1) 5 ht hok (by omega) (by omega) ⟨by omega, by omega⟩ ⟨by omega, by omega⟩ ⟨by omega, by omega⟩).mono (R' := fun e w' => ∃ A c, e = .returned (.tuple #[.slice A 0 c, .int .i64 8]) ∧ Below W.heap.size W w') (fun e w' h => by
    obtain ⟨A, c, h1, h2, h3⟩ := h
    rw [hf] at h1 h2
    exact ⟨A, c, h1, h3⟩))
  have HL1 := hid (fun (W : World) (p : Addr) (ht : TabAt W p (m + 1) l) => (hO W p (m + 1) l (2 * (a : Int) + 1) (a : Int) 5 ht hok (by omega) (by omega) ⟨by omega, by omega⟩ ⟨by omega, by omega⟩ ⟨by omega, by omega⟩).mono (R' := fun e w' => ∃ A c, e = .returned (.tuple #[.slice A 0 c, .int .i64 8]) ∧ Below W.heap.size W w') (fun e w' h => by
    obtain ⟨A, c, h1, h2, h3⟩ := h
    rw [hb] at h1 h2
    exact ⟨A, c, h1, h3⟩))
  have t1 : decide ((m : Int) + 1 < 2) = false := decide_eq_false (by omega)
  have t2 : decide ((8 : Int) < (m : Int) + 1) = false := decide_eq_false (by omega)
  have t3 : decide ((a : Int) < 0) = false := decide_eq_false (by omega)
  have t4 : decide ((m : Int) ≤ (a : Int)) = false := decide_eq_false (by omega)
  have t4b : decide (m ≤ a) = false := decide_eq_false (by omega)
  have ew1 : IntKind.i64.wrap ((m : Int) + 1 - 1) = (m : Int) := by rw [IntKind.wrap_i64]; omega
  have ew1b : IntKind.i64.wrap (m : Int) = (m : Int) := by rw [IntKind.wrap_i64]; omega
  have ew2 : IntKind.i64.wrap (2 * (a : Int)) = 2 * (a : Int) := by rw [IntKind.wrap_i64]; omega
  have ew3 : IntKind.i64.wrap ((a : Int) + 1) = (a : Int) + 1 := by rw [IntKind.wrap_i64]; omega
  have ew4 : IntKind.i64.wrap (2 * (a : Int) + 1) = 2 * (a : Int) + 1 := by rw [IntKind.wrap_i64]; omega
  have ew5 : IntKind.i64.wrap (2 * (m : Int)) = 2 * (m : Int) := by rw [IntKind.wrap_i64]; omega
  have ew6 : IntKind.i64.wrap (2 * (m : Int) + 1) = 2 * (m : Int) + 1 := by rw [IntKind.wrap_i64]; omega
  obtain ⟨i5, hi, hz0, hz1, hz2⟩ := info_parts (show (Try.prog.info? 49).map (fun i => (i.zero, i.size, i.bytes)) = some (some (.agg #[.int .i64 0, .int .i64 0, .int .i64 0, .int .i64 0]), 4, 32) by kernel_rfl)
  have Ai := hid hi; have Az0 := hid hz0; have Az1 := hid hz1; have Az2 := hid hz2
  have Hl := hid hl
  have Hll := hid hll
  clear hi hz0 hz1 hz2 hN hO hok hf hb hlk hl hll hcast
  go_enter Try.func5, Try.ntmps5
  go_wp2_with (go_at_call 6; (with_reducible refine (HA.out _).mono ?_); rintro e' w1 ⟨rfl, hb1⟩)
  have Hb1 := hid hb1
  obtain ⟨B, hB⟩ : ∃ B, w1.heap.size = B := ⟨_, rfl⟩
  have HX0 := hid (heap_alloc_new w1 (.cells #[.int .i64 ((m : Int) + 1), .slice none 0 0] 24))
  have HB0 : Hid (Below B w1 (w1.alloc (.cells #[.int .i64 ((m : Int) + 1), .slice none 0 0] 24))) := by
    rw [← hB]; exact (Below.refl _ _).alloc (Nat.le_refl _) _
  rw [hB] at HX0
  simp only [hB]
  have HhB := hid hB
  clear hB hb1
  go_loopw [9] (fun ii wr => ∃ (i : Nat) (v : Value), i ≤ m ∧ ii = .int .i64 i ∧ Hid (wr.heap[B]? = some (.cells #[.int .i64 ((m : Int) + 1), v] 24 (0, 0))) ∧ Hid (wr.ownsRow (B + 1) 49 4 v i (lcells (brS i))) ∧ Hid (Below B w1 wr)) (fun ii _ => m - (intOf ii).toNat)
  case atStart => exact ⟨0, .slice none 0 0, Nat.zero_le _, rfl, HX0, World.ownsRow_nil _ _ _ _, HB0⟩
  case round =>
    obtain ⟨i, v, hi, rfl, HX, HO, HB⟩ := hrel
    have ewi : IntKind.i64.wrap ((i : Int) + 1) = (i : Int) + 1 := by rw [IntKind.wrap_i64]; omega
    obtain ⟨x0, x1, x2⟩ := box_cells HX.out
    have hBs : B < wr.heap.size := blk_lt HX.out
    by_cases hlt : i < m
    · have d1 : decide ((i : Int) + 1 < (m : Int) + 1) = true := decide_eq_true (by omega)
      have d2 : decide (i < m) = true := decide_eq_true hlt
      have d3 : decide ((i : Int) < (m : Int)) = true := decide_eq_true (by omega)
      have f1 := x2 1
      clear x2
      go_wp2_with (at_builtin; refine wpList_append_own _ rfl (.tmp 49) (.tmp 54) 22 rfl (B + 1) 49 i5 (.agg #[.int .i64 0, .int .i64 0, .int .i64 0, .int .i64 0]) 4 32 Try.underlying22 Ai.out Az0.out Az1.out Az2.out rfl (by decide) _ _ _ rfl (HO.out.alloc _) ⟨wr.heap.size, 0, none⟩ 1 1 (lcells [⟨(i : Int), (i : Int) + 1, 4, 0⟩]) rfl rfl (new_row (lnk_rowR _ _ _ _)) (lcells_one _) (by unfold maxLen; omega) (by omega) (by simp; omega) ?_; intro v8 w8 hown8 hg8 _; obtain ⟨A8, c8, rfl⟩ := own_form hown8; have hX8 := box_app HX.out (by omega) HO.out hg8; obtain ⟨q0, q1, q2⟩ := box_cells hX8; have f8 := q2 1; have HX8 := hid hX8; have HO8 := hid hown8; have HB8 := hid (Below.grown (HB.out.alloc (by omega) _) hg8 (by simp; omega) (fun q hq => Nat.le_trans (Nat.le_succ B) (HO.out.lt q hq).1)); clear hown8 hX8 q2)
      clear ewi
      go_roundw
      case rel => exact ⟨i + 1, _, by omega, by go_num, box_set1 HX8.out, by show World.ownsRow _ _ _ _ _ _ _; rw [brS_succ, lcells_app]; exact own_set HO8.out (by show B < B + 1; omega) _, HB8.out.setCell (Nat.le_refl _) _⟩
      case measure => simp [intOf]; omega
    · obtain rfl : i = m := by omega
      have d1 : decide ((i : Int) + 1 < (i : Int) + 1) = false := decide_eq_false (by omega)
      have d2 : decide (i < i) = false := by simp
      have d3 : decide ((i : Int) < (i : Int)) = false := by simp
      obtain ⟨A8, c8, rfl⟩ := own_form HO.out
      have HOl : Hid (World.ownsRow wr (B + 1) 49 4 (.slice A8 i c8) i (lcells l)) := by show World.ownsRow _ _ _ _ _ _ _; rw [← Hl.out]; exact HO.out
      obtain ⟨A9, c9, he9, hle9, hr9⟩ := own_lnks HOl.out Hll.out
      simp only [Value.slice.injEq, true_and] at he9
      obtain ⟨rfl, rfl⟩ := he9
      have HR9 := hid hr9
      have HLE := hid hle9
      have HNN : Hid (A8 = none → i = 0 ∧ c8 = 0) := fun hA => by
        subst hA
        rcases HO.out.2 with ⟨h1, h2⟩ | ⟨g, cap, cur, h1, _⟩
        · simp only [Value.slice.injEq] at h1; exact ⟨h2, h1.2.2⟩
        · simp at h1
      have HB9 : Hid (Below w1.heap.size w1 wr) := by show Below _ _ _; rw [HhB.out]; exact HB.out
      clear hr9 hle9 x2
      go_wp2_with (first
        | (go_at_call 8; (with_reducible refine (HT.out _ _ _ HR9.out HLE.out HNN.out).mono ?_); rintro e1 w4 ⟨p, pr, rfl, ht4, hb4⟩; have HT4 := hid ht4; have HB4 := hid (HB9.out.trans (hb4.mono HB9.out.size)); clear ht4 hb4)
        | (go_at_call 9; (with_reducible refine (HL0.out _ _ HT4.out).mono ?_); rintro e2 w5 ⟨A5, c5, rfl, hb5⟩; have HB5 := hid (HB4.out.trans (hb5.mono HB4.out.size)); have HT5 := hid (HK.out _ _ _ _ _ HT4.out hb5); clear hb5)
        | (go_at_call 9; (with_reducible refine (HL1.out _ _ HT5.out).mono ?_); rintro e3 w6 ⟨A6, c6, rfl, hb6⟩; have HB6 := hid (HB5.out.trans (hb6.mono HB5.out.size)); clear hb6)
        | (go_at_call 12; (with_reducible refine (HNum.out _ _).mono ?_); rintro _ _ ⟨rfl, rfl⟩))
      go_ret
      exact ⟨rfl, Hb1.out.trans (HB6.out.mono Hb1.out.size)⟩
theorem br_more {w8 : World} {B i a : Nat} {A8 : Option Addr} {c8 : Nat} {l : List Lnk} {u : Value} (hl : brS i ++ [⟨(a : Int), (a : Int) + 1, 9, 0⟩] = l) (hll : l.length = i + 1) (hB : (⟨B, 1, none⟩ : Addr).block < B + 1) (h : w8.ownsRow (B + 1) 49 4 (.slice A8 (i + 1) c8) (i + 1) (lcells (brS i) ++ lcells [⟨(a : Int), (a : Int) + 1, 9, 0⟩])) :
    Hid ((w8.setCell ⟨B, 1, none⟩ u).ownsRow (B + 1) 49 4 (.slice A8 (i + 1) c8) (i + 1) (lcells l)) ∧ Hid (RLnk (w8.setCell ⟨B, 1, none⟩ u) (w8.setCell ⟨B, 1, none⟩ u).heap.size A8 (i + 1) l) ∧ Hid (i + 1 ≤ c8) ∧ Hid (A8 = none → i + 1 = 0 ∧ c8 = 0) := by
  have h1 : (w8.setCell ⟨B, 1, none⟩ u).ownsRow (B + 1) 49 4 (.slice A8 (i + 1) c8) (i + 1) (lcells l) := by
    rw [← hl, lcells_app]
    exact own_set h hB _
  obtain ⟨A9, c9, he9, hle9, hr9⟩ := own_lnks h1 hll
  simp only [Value.slice.injEq, true_and] at he9
  obtain ⟨rfl, rfl⟩ := he9
  refine ⟨h1, hr9, hle9, fun hA => ?_⟩
  subst hA
  rcases h1.2 with ⟨h3, h2⟩ | ⟨g, cap, cur, h3, _⟩
  · omega
  · simp at h3
theorem bridge_double {TabAt : World → Addr → Nat → List Lnk → Prop} (hN : NewOps TabAt 16) (hO : AroundOps TabAt 9) (m a : Nat) (w : World) (hm : 1 ≤ m ∧ m ≤ 7) (ha : a < m) :
    Calls Try.prog 5 #[.int .i64 ((m : Int) + 1), .int .i64 (a : Int), .bool true] w fun e w' => e = .returned (.bool true) ∧ Below w.heap.size w w' := by
  obtain ⟨hok, hf, hb⟩ := bridge_spec (n := m + 1) (a := a) (by omega) (by omega) true
  rw [if_pos rfl] at hf hb
  have HA := hid (alive18 hN hO)
  have HNum := hid rnum_any
  have HK := hid hN.1
  have hcast : ((m + 1 : Nat) : Int) = (m : Int) + 1 := by simp
  have hlk : lkB (m + 1) a true = (brS m ++ [⟨(a : Int), (a : Int) + 1, 9, 0⟩]) := by unfold lkB; simp
  rw [hlk] at hok hf hb
  obtain ⟨l, hl⟩ : ∃ l, (brS m ++ [⟨(a : Int), (a : Int) + 1, 9, 0⟩]) = l := ⟨_, rfl⟩
  rw [hl] at hok hf hb
  have hll : l.length = (m + 1) := by rw [← hl]; simp [brS_len]
  have HT := hid (fun (A : Option Addr) (c : Nat) (W : World) (hr : RLnk W W.heap.size A ((m + 1)) l) (hc : (m + 1) ≤ c) (hA : A = none → (m + 1) = 0 ∧ c = 0) => show Calls Try.prog 8 #[.agg #[.int .i64 ((m : Int) + 1), .slice A ((m + 1)) c]] W fun e w' => ∃ (p pr : Addr), e = .returned (.tuple #[.pointer (some p), .pointer (some pr), .bool true]) ∧ TabAt w' p (m + 1) l ∧ Below W.heap.size W w' from by
    refine (tabs_any hN ((m : Int) + 1) A ((m + 1)) c l W ⟨hr, by unfold maxLen; omega, hc, hA, by omega, by omega⟩).mono ?_
    rintro e w' ⟨hb, h1 | h1⟩
    · obtain ⟨_, N, p, pr, h2, h3, h4, _⟩ := h1
      obtain rfl : N = m + 1 := by omega
      exact ⟨p, pr, h3, h4, hb⟩
    · exact (h1.1 (by have := gok_check hok; rw [hcast] at this; exact this)).elim)
  have HL0 := hid (fun (W : World) (p : Addr) (ht : TabAt W p (m + 1) l) => (hO W p (m + 1) l (2 * (a : Int)) ((a : Int) + 1) 5 ht hok (by omega) (by omega) ⟨by omega, by omega⟩ ⟨by omega, by omega⟩ ⟨by omega, by omega⟩).mono (R' := fun e w' => ∃ b off c, e = .returned (.tuple #[.slice (some ⟨b, off, none⟩) 1 c, .int .i64 0]) ∧ (w'.cell? ⟨b, off, none⟩ = some (.bool true) ∧ w'.cell? ⟨b, off + 1, none⟩ = some (.int .i64 (2 * (m : Int)))) ∧ (b < w'.heap.size) ∧ Below W.heap.size W w') (fun e w' h => by
    obtain ⟨A, c, h1, h2, h3⟩ := h
    rw [hf] at h1 h2
    obtain ⟨b, off, rfl, hbl, hc⟩ := h2.2 (show 0 < 1 by omega)
    obtain ⟨c0, c1⟩ := hc 0 _ rfl
    rw [Nat.zero_mul, Nat.add_zero] at c0 c1
    refine ⟨b, off, c, h1, ⟨c0, ?_⟩, hbl, h3⟩
    rw [c1]
    congr 2
    push_cast
    omega))
  have HL1 := hid (fun (W : World) (p : Addr) (ht : TabAt W p (m + 1) l) => (hO W p (m + 1) l (2 * (a : Int) + 1) (a : Int) 5 ht hok (by omega) (by omega) ⟨by omega, by omega⟩ ⟨by omega, by omega⟩ ⟨by omega, by omega⟩).mono (R' := fun e w' => ∃ b off c, e = .returned (.tuple #[.slice (some ⟨b, off, none⟩) 1 c, .int .i64 0]) ∧ (w'.cell? ⟨b, off, none⟩ = some (.bool true) ∧ w'.cell? ⟨b, off + 1, none⟩ = some (.int .i64 (2 * (m : Int) + 1))) ∧ (b < w'.heap.size) ∧ Below W.heap.size W w') (fun e w' h => by
    obtain ⟨A, c, h1, h2, h3⟩ := h
    rw [hb] at h1 h2
    obtain ⟨b, off, rfl, hbl, hc⟩ := h2.2 (show 0 < 1 by omega)
    obtain ⟨c0, c1⟩ := hc 0 _ rfl
    rw [Nat.zero_mul, Nat.add_zero] at c0 c1
    refine ⟨b, off, c, h1, ⟨c0, ?_⟩, hbl, h3⟩
    rw [c1]
    congr 2
    push_cast
    omega))
  have t1 : decide ((m : Int) + 1 < 2) = false := decide_eq_false (by omega)
  have t2 : decide ((8 : Int) < (m : Int) + 1) = false := decide_eq_false (by omega)
  have t3 : decide ((a : Int) < 0) = false := decide_eq_false (by omega)
  have t4 : decide ((m : Int) ≤ (a : Int)) = false := decide_eq_false (by omega)
  have t4b : decide (m ≤ a) = false := decide_eq_false (by omega)
  have ew1 : IntKind.i64.wrap ((m : Int) + 1 - 1) = (m : Int) := by rw [IntKind.wrap_i64]; omega
  have ew1b : IntKind.i64.wrap (m : Int) = (m : Int) := by rw [IntKind.wrap_i64]; omega
  have ew2 : IntKind.i64.wrap (2 * (a : Int)) = 2 * (a : Int) := by rw [IntKind.wrap_i64]; omega
  have ew3 : IntKind.i64.wrap ((a : Int) + 1) = (a : Int) + 1 := by rw [IntKind.wrap_i64]; omega
  have ew4 : IntKind.i64.wrap (2 * (a : Int) + 1) = 2 * (a : Int) + 1 := by rw [IntKind.wrap_i64]; omega
  have ew5 : IntKind.i64.wrap (2 * (m : Int)) = 2 * (m : Int) := by rw [IntKind.wrap_i64]; omega
  have ew6 : IntKind.i64.wrap (2 * (m : Int) + 1) = 2 * (m : Int) + 1 := by rw [IntKind.wrap_i64]; omega
  have qe := fun W => seg_eq ⟨true, 2 * (m : Int)⟩ ⟨true, 2 * (m : Int)⟩ W
  have qf := fun W => seg_eq ⟨true, 2 * (m : Int) + 1⟩ ⟨true, 2 * (m : Int) + 1⟩ W
  obtain ⟨i5, hi, hz0, hz1, hz2⟩ := info_parts (show (Try.prog.info? 49).map (fun i => (i.zero, i.size, i.bytes)) = some (some (.agg #[.int .i64 0, .int .i64 0, .int .i64 0, .int .i64 0]), 4, 32) by kernel_rfl)
  have Ai := hid hi; have Az0 := hid hz0; have Az1 := hid hz1; have Az2 := hid hz2
  have Hl := hid hl
  have Hll := hid hll
  clear hi hz0 hz1 hz2 hN hO hok hf hb hlk hl hll hcast
  go_enter Try.func5, Try.ntmps5
  go_wp2_with (go_at_call 6; (with_reducible refine (HA.out _).mono ?_); rintro e' w1 ⟨rfl, hb1⟩)
  have Hb1 := hid hb1
  obtain ⟨B, hB⟩ : ∃ B, w1.heap.size = B := ⟨_, rfl⟩
  have HX0 := hid (heap_alloc_new w1 (.cells #[.int .i64 ((m : Int) + 1), .slice none 0 0] 24))
  have HB0 : Hid (Below B w1 (w1.alloc (.cells #[.int .i64 ((m : Int) + 1), .slice none 0 0] 24))) := by
    rw [← hB]; exact (Below.refl _ _).alloc (Nat.le_refl _) _
  rw [hB] at HX0
  simp only [hB]
  have HhB := hid hB
  clear hB hb1
  go_loopw [9] (fun ii wr => ∃ (i : Nat) (v : Value), i ≤ m ∧ ii = .int .i64 i ∧ Hid (wr.heap[B]? = some (.cells #[.int .i64 ((m : Int) + 1), v] 24 (0, 0))) ∧ Hid (wr.ownsRow (B + 1) 49 4 v i (lcells (brS i))) ∧ Hid (Below B w1 wr)) (fun ii _ => m - (intOf ii).toNat)
  case atStart => exact ⟨0, .slice none 0 0, Nat.zero_le _, rfl, HX0, World.ownsRow_nil _ _ _ _, HB0⟩
  case round =>
    obtain ⟨i, v, hi, rfl, HX, HO, HB⟩ := hrel
    have ewi : IntKind.i64.wrap ((i : Int) + 1) = (i : Int) + 1 := by rw [IntKind.wrap_i64]; omega
    obtain ⟨x0, x1, x2⟩ := box_cells HX.out
    have hBs : B < wr.heap.size := blk_lt HX.out
    by_cases hlt : i < m
    · have d1 : decide ((i : Int) + 1 < (m : Int) + 1) = true := decide_eq_true (by omega)
      have d2 : decide (i < m) = true := decide_eq_true hlt
      have d3 : decide ((i : Int) < (m : Int)) = true := decide_eq_true (by omega)
      have f1 := x2 1
      clear x2
      go_wp2_with (at_builtin; refine wpList_append_own _ rfl (.tmp 49) (.tmp 54) 22 rfl (B + 1) 49 i5 (.agg #[.int .i64 0, .int .i64 0, .int .i64 0, .int .i64 0]) 4 32 Try.underlying22 Ai.out Az0.out Az1.out Az2.out rfl (by decide) _ _ _ rfl (HO.out.alloc _) ⟨wr.heap.size, 0, none⟩ 1 1 (lcells [⟨(i : Int), (i : Int) + 1, 4, 0⟩]) rfl rfl (new_row (lnk_rowR _ _ _ _)) (lcells_one _) (by unfold maxLen; omega) (by omega) (by simp; omega) ?_; intro v8 w8 hown8 hg8 _; obtain ⟨A8, c8, rfl⟩ := own_form hown8; have hX8 := box_app HX.out (by omega) HO.out hg8; obtain ⟨q0, q1, q2⟩ := box_cells hX8; have f8 := q2 1; have HX8 := hid hX8; have HO8 := hid hown8; have HB8 := hid (Below.grown (HB.out.alloc (by omega) _) hg8 (by simp; omega) (fun q hq => Nat.le_trans (Nat.le_succ B) (HO.out.lt q hq).1)); clear hown8 hX8 q2)
      clear ewi
      go_roundw
      case rel => exact ⟨i + 1, _, by omega, by go_num, box_set1 HX8.out, by show World.ownsRow _ _ _ _ _ _ _; rw [brS_succ, lcells_app]; exact own_set HO8.out (by show B < B + 1; omega) _, HB8.out.setCell (Nat.le_refl _) _⟩
      case measure => simp [intOf]; omega
    · obtain rfl : i = m := by omega
      have d1 : decide ((i : Int) + 1 < (i : Int) + 1) = false := decide_eq_false (by omega)
      have d2 : decide (i < i) = false := by simp
      have d3 : decide ((i : Int) < (i : Int)) = false := by simp
      obtain ⟨A7, c7, rfl⟩ := own_form HO.out
      have f1 := x2 1
      clear x2
      go_wp2_with (first
        | (at_builtin; refine wpList_append_own _ rfl (.tmp 59) (.tmp 64) 22 rfl (B + 1) 49 i5 (.agg #[.int .i64 0, .int .i64 0, .int .i64 0, .int .i64 0]) 4 32 Try.underlying22 Ai.out Az0.out Az1.out Az2.out rfl (by decide) _ _ _ rfl (HO.out.alloc _) ⟨wr.heap.size, 0, none⟩ 1 1 (lcells [⟨(a : Int), (a : Int) + 1, 9, 0⟩]) rfl rfl (new_row (lnk_rowR _ _ _ _)) (lcells_one _) (by unfold maxLen; omega) (by omega) (by simp; omega) ?_; intro v8 w8 hown8 hg8 _; obtain ⟨A8, c8, rfl⟩ := own_form hown8; have hX8 := box_app HX.out (by omega) HO.out hg8; obtain ⟨q0, q1, q2⟩ := box_cells hX8; have f8 := q2 1; have HX8 := hid hX8; have HB8 := hid (Below.grown (HB.out.alloc (by omega) _) hg8 (by simp; omega) (fun q hq => Nat.le_trans (Nat.le_succ B) (HO.out.lt q hq).1)); obtain ⟨HOl, HR9, HLE, HNN⟩ := br_more (u := .slice A8 (i + 1) c8) Hl.out Hll.out (Nat.lt_succ_self B) hown8; obtain ⟨y0, y1, y2⟩ := box_cells (box_set1 (u := .slice A8 (i + 1) c8) hX8); have HB9 : Hid (Below w1.heap.size w1 (w8.setCell ⟨B, 1, none⟩ (.slice A8 (i + 1) c8))) := (by show Below _ _ _; rw [HhB.out]; exact HB8.out.setCell (p := ⟨B, 1, none⟩) (Nat.le_refl _) (.slice A8 (i + 1) c8)); clear hown8 hX8 q2 y2)
        | (go_at_call 8; (with_reducible refine (HT.out _ _ _ HR9.out HLE.out HNN.out).mono ?_); rintro e1 w4 ⟨p, pr, rfl, ht4, hb4⟩; have HT4 := hid ht4; have HB4 := hid (HB9.out.trans (hb4.mono HB9.out.size)); clear ht4 hb4)
        | (go_at_call 9; (with_reducible refine (HL0.out _ _ HT4.out).mono ?_); rintro e2 w5 ⟨bb5, o5, c5, rfl, ⟨z0, z1⟩, hbl5, hb5⟩; have HB5 := hid (HB4.out.trans (hb5.mono HB4.out.size)); have HT5 := hid (HK.out _ _ _ _ _ HT4.out hb5); clear hb5)
        | (go_at_call 9; (with_reducible refine (HL1.out _ _ HT5.out).mono ?_); rintro e3 w6 ⟨bb6, o6, c6, rfl, ⟨z2, z3⟩, hbl6, hb6⟩; have HB6 := hid (HB5.out.trans (hb6.mono HB5.out.size)); have z4 := (hb6.cell (p := ⟨bb5, o5, none⟩) hbl5).trans z0; have z5 := (hb6.cell (p := ⟨bb5, o5 + 1, none⟩) hbl5).trans z1; clear hb6)
        | (go_at_call 12; (with_reducible refine (HNum.out _ _).mono ?_); rintro _ _ ⟨rfl, rfl⟩))
      go_ret
      exact ⟨rfl, Hb1.out.trans (HB6.out.mono Hb1.out.size)⟩
theorem repBridge_any {TabAt : World → Addr → Nat → List Lnk → Prop} (hN : NewOps TabAt 16) (hO : AroundOps TabAt 9) (n a : Int) (dbl : Bool) (w : World) :
    Calls Try.prog 5 #[.int .i64 n, .int .i64 a, .bool dbl] w fun e w' => e = .returned (.bool true) ∧ Below w.heap.size w w' := by
  by_cases h : n < 2 ∨ 8 < n ∨ a < 0 ∨ n - 1 ≤ a
  · exact bridge_out hN hO n a dbl w h
  · obtain ⟨a', rfl⟩ := Int.eq_ofNat_of_zero_le (show 0 ≤ a by omega)
    obtain ⟨m, hm⟩ : ∃ m : Nat, n = (m : Int) + 1 := ⟨(n - 1).toNat, by omega⟩
    subst hm
    cases dbl with
    | false => exact bridge_single hN hO m a' w (by omega) (by omega)
    | true => exact bridge_double hN hO m a' w (by omega) (by omega)
end Go.Proofs.Ytkemcgbedapkcaa
